/- What is proved here: the specification's Fits says whether a right pattern means a text; nothing that was there turns. -/
import Derived.Test.YthnnenbpbkmbhaaGreatQSpecKByteWToFnKCallW
import Derived.Test.YthnnenbpbkmbhaaGreatQFromMToSpecFromW
import Derived.Test.YthnnenbpbkmbhaaGreatQSpecPYesW
namespace Go.Proofs.YthnnenbpbkmbhaaGreat
open Go.RowKit

open Classical in
set_option maxRecDepth 100000 in
set_option maxHeartbeats 2000000 in
theorem specFits_any (sa : Option Addr) (n cap : Nat) (f : Nat → Atm) (t : ByteArray) (w : World) (hn : n ≤ maxLen) (hr : ARow w w.heap.size sa n f) (hc : ∀ i, i < n → (f i).c.size ≤ maxLen) (hts : t.size ≤ maxLen) :
    Calls Tryz.prog 27 #[.slice sa n cap, .string t] w fun e w' => e = .returned (.bool (decide (FitsP n f t))) ∧ Below w.heap.size w w' := by
  unfold maxLen at hts
  by_cases h8 : (t.size : Int) ≤ 8000
  case neg =>
    have hno : ¬ FitsP n f t := fun h => by have := h.1; omega
    rw [decide_eq_false hno]
    go_enter Tryz.func27, Tryz.ntmps27
    go_wp2_with fail
    go_ret
    exact ⟨rfl, Below.refl _ _⟩
  by_cases hp : PatRight n f
  · have HP : Hid (PatRight n f) := hp
    have HR : Hid (ARow w w.heap.size sa n f) := hr
    have C := specPRight_yes sa n cap f w hn hr hc hp
    clear hn hr hc hp
    go_enter Tryz.func27, Tryz.ntmps27
    go_wp2_with fail
    refine C.mono ?_
    rintro e w1 ⟨rfl, hb1⟩
    have B1 : Hid (Below w.heap.size w w1) := hb1
    clear hb1 C
    go_wp2_with fail
    have C2 := from_spec sa n cap f t 0 w1 HP.out.2.1 (by omega) (Nat.zero_le _) (HR.out.late B1.out) HP.out.2.2.1
    rw [show ((0 : Nat) : Int) = (0 : Int) from rfl] at C2
    refine C2.mono ?_
    rintro e w2 ⟨g, r, rfl, hb2, hgl, hown, hfrom⟩
    have B2 : Hid (Below w.heap.size w w2) := B1.out.trans (hb2.mono B1.out.size)
    have hc2 := hown.2.1 t.size (by omega)
    have hiff : r t.size = true ↔ FitsP n f t := by
      rw [hfrom t.size (Nat.le_refl _)]
      exact ⟨fun h => ⟨by omega, HP.out, h⟩, fun h => h.2.2⟩
    have hz0 : (0 : Int) ≤ (t.size : Int) := by omega
    have hz1 : (t.size : Int) < ((t.size + 1 : Nat) : Int) := by omega
    have hz2 : (t.size : Int) < (t.size : Int) + 1 := by omega
    clear C2 hb2 hgl hown hfrom
    cases hv : r t.size with
    | true =>
      have HY : Hid (FitsP n f t) := hiff.1 hv
      rw [hv] at hc2
      clear hv hiff
      go_wp2_with fail
      go_ret
      exact ⟨by rw [decide_eq_true HY.out]; rfl, B2.out⟩
    | false =>
      have HY : Hid (¬ FitsP n f t) := fun h => by rw [hiff.2 h] at hv; cases hv
      rw [hv] at hc2
      clear hv hiff
      go_wp2_with fail
      go_ret
      exact ⟨by rw [decide_eq_false HY.out]; rfl, B2.out⟩
  · have hno : ¬ FitsP n f t := fun h => hp h.2.1
    rw [decide_eq_false hno]
    have C := specPRight_no sa n cap f w hn hr hc hp
    clear hn hr hc hp hno
    go_enter Tryz.func27, Tryz.ntmps27
    go_wp2_with fail
    refine C.mono ?_
    rintro e w1 ⟨rfl, hb1⟩
    have B1 : Hid (Below w.heap.size w w1) := hb1
    clear hb1 C
    go_wp2_with fail
    go_ret
    exact ⟨rfl, B1.out⟩
end Go.Proofs.YthnnenbpbkmbhaaGreat
