/- What is proved here: the program's Fits says whether a right pattern means a text; nothing that was there turns. -/
import Derived.Test.YtapdegmgochkhaaFitsM
import Derived.Test.YtapdegmgochkhaaMeanOfW
import Derived.Test.YtapdegmgochkhaaImplPRightW
namespace Go.Proofs.Ytapdegmgochkhaa
open Go.RowKit

open Classical in
theorem implPRight_yes (sa : Option Addr) (n cap : Nat) (f : Nat → Atm) (w : World) (hn : n ≤ maxLen) (hr : ARow w w.heap.size sa n f) (hc : ∀ i, i < n → (f i).c.size ≤ maxLen) (h : PatRight n f) :
    Calls Try.prog 80 #[.slice sa n cap] w fun e w' => e = .returned (.bool true) ∧ Below w.heap.size w w' := by
  refine (implPRight_any sa n cap f w hn hr hc).mono ?_
  rintro e w' ⟨rfl, hb⟩
  exact ⟨by rw [decide_eq_true h], hb⟩
open Classical in
theorem implPRight_no (sa : Option Addr) (n cap : Nat) (f : Nat → Atm) (w : World) (hn : n ≤ maxLen) (hr : ARow w w.heap.size sa n f) (hc : ∀ i, i < n → (f i).c.size ≤ maxLen) (h : ¬ PatRight n f) :
    Calls Try.prog 80 #[.slice sa n cap] w fun e w' => e = .returned (.bool false) ∧ Below w.heap.size w w' := by
  refine (implPRight_any sa n cap f w hn hr hc).mono ?_
  rintro e w' ⟨rfl, hb⟩
  exact ⟨by rw [decide_eq_false h], hb⟩
open Classical in
set_option maxRecDepth 100000 in
set_option maxHeartbeats 2000000 in
theorem implFits_any (sa : Option Addr) (n cap : Nat) (f : Nat → Atm) (t : ByteArray) (w : World) (hn : n ≤ maxLen) (hr : ARow w w.heap.size sa n f) (hc : ∀ i, i < n → (f i).c.size ≤ maxLen) (hts : t.size ≤ maxLen) :
    Calls Try.prog 45 #[.slice sa n cap, .string t] w fun e w' => e = .returned (.bool (decide (FitsP n f t))) ∧ Below w.heap.size w w' := by
  unfold maxLen at hts
  by_cases h8 : 8000 < (t.size : Int)
  · have hno : ¬ FitsP n f t := fun h => by have := h.1; omega
    rw [decide_eq_false hno]
    go_enter Try.func45, Try.ntmps45
    go_wp2_with fail
    go_ret
    exact ⟨rfl, Below.refl _ _⟩
  by_cases hp : PatRight n f
  · have HP : Hid (PatRight n f) := hp
    have HR : Hid (ARow w w.heap.size sa n f) := hr
    have C := implPRight_yes sa n cap f w hn hr hc hp
    clear hn hr hc hp
    go_enter Try.func45, Try.ntmps45
    go_wp2_with fail
    refine C.mono ?_
    rintro e w1 ⟨rfl, hb1⟩
    have B1 : Hid (Below w.heap.size w w1) := hb1
    clear hb1 C
    go_wp2_with fail
    refine (meaningOf_any sa n cap f t w1 HP.out.2.1 (HR.out.late B1.out) HP.out.2.2.1).mono ?_
    rintro e w2 ⟨sb, N, cb, B, g, rfl, hm⟩
    have HM : Hid (Meant w1 w2 t (atomsL f n) sb N B g) := hm
    clear hm
    go_wp2_with fail
    have C2 := from_any sb N cb B 0 t g w2 HM.out.len (by omega) (Nat.zero_le _) HM.out.parted HM.out.memo HM.out.row
    rw [show ((0 : Nat) : Int) = (0 : Int) from rfl] at C2
    refine C2.mono ?_
    rintro e w3 ⟨v, rfl, hfar, hm3, ht3⟩
    have B3 : Hid (Below w.heap.size w w3) := B1.out.trans ((HM.out.below.mono B1.out.size).trans ((ht3.below (lo := w1.heap.size) HM.out.lo (HM.out.below.size)).mono B1.out.size))
    have hiff : v = (t.size : Int) ↔ FitsP n f t := by
      rw [HM.out.eq] at hfar
      rw [far_end (far_part hfar) (Nat.zero_le _)]
      exact ⟨fun h => ⟨by omega, HP.out, h⟩, fun h => h.2.2⟩
    clear C2 hfar hm3 ht3
    by_cases hv : v = (t.size : Int)
    · have hvb : (v == (t.size : Int)) = true := by simpa using hv
      have HY : Hid (FitsP n f t) := hiff.1 hv
      clear hv hiff
      go_wp2_with fail
      go_ret
      exact ⟨by rw [decide_eq_true HY.out]; rfl, B3.out⟩
    · have hvb : (v == (t.size : Int)) = false := by simpa using hv
      have HY : Hid (¬ FitsP n f t) := fun h => hv (hiff.2 h)
      clear hv hiff
      go_wp2_with fail
      go_ret
      exact ⟨by rw [decide_eq_false HY.out]; rfl, B3.out⟩
  · have hno : ¬ FitsP n f t := fun h => hp h.2.1
    rw [decide_eq_false hno]
    have C := implPRight_no sa n cap f w hn hr hc hp
    clear hn hr hc hp hno
    go_enter Try.func45, Try.ntmps45
    go_wp2_with fail
    refine C.mono ?_
    rintro e w1 ⟨rfl, hb1⟩
    have B1 : Hid (Below w.heap.size w w1) := hb1
    clear hb1 C
    go_wp2_with fail
    go_ret
    exact ⟨rfl, B1.out⟩
end Go.Proofs.Ytapdegmgochkhaa
