/- What is proved here: the specification's ClassRight says whether a text is a right class; nothing that was there turns. -/
import Derived.Test.YtbdjjggaahjjpaaQClassMToAtPM
import Derived.WalkSpells
import Derived.RegionTactic
import Derived.BigRegion
import Derived.Deep.QuietTactic
import Derived.BigQuiet
namespace Go.Proofs.Ytbdjjggaahjjpaa
open Go.RowKit

theorem right_bad {t : ByteArray} {j k : Nat} (e : k = j + 1) (h : k < t.size) (hc : ¬ t[j].toNat < t[k].toNat) : ¬ RightC t := fun hr => by
  subst e
  exact hc (hr j h)
theorem right_step {t : ByteArray} {j k : Nat} (e : k = j + 1) (h : k < t.size) (hr : RightTo t k) (hc : t[j].toNat < t[k].toNat) : RightTo t (k + 1) := by
  subst e
  intro i hi hlt
  by_cases e : i = j
  · subst e; exact hc
  · exact hr i hi (by omega)
theorem below_drewC {a w : World} {B : Nat} (n : Nat) (h : Below B a w) : Below B a (w.drewN n) := ⟨h.os, h.tape, h.output, h.size, h.block⟩
theorem retB {p : Prop} [Decidable p] {x : Bool} (h : x = true ↔ p) : Ending.returned (.bool x) = .returned (.bool (decide p)) := by
  congr 2
  by_cases hp : p
  · rw [h.2 hp, decide_eq_true hp]
  · rw [decide_eq_false hp]
    cases x
    · rfl
    · exact absurd (h.1 rfl) hp

open Classical in
set_option maxRecDepth 100000 in
set_option maxHeartbeats 2000000 in
theorem specRightC_any (t : ByteArray) (w : World) (hs : t.size ≤ maxLen) :
    Calls Try.prog 67 #[.string t] w fun e w' => e = .returned (.bool (decide (RightC t))) ∧ Below w.heap.size w w' := by
  unfold maxLen at hs
  go_enter Try.func67, Try.ntmps67
  go_wp2
  go_loopw [3] (fun i wr => ∃ k : Nat, 1 ≤ k ∧ (k ≤ t.size ∨ k = 1) ∧ i = .int .i64 (k : Int) ∧ Below w.heap.size w wr ∧ RightTo t k) (fun i _ => t.size + 1 - (intOf i).toNat)
  case atStart => exact ⟨1, by omega, Or.inr rfl, rfl, Below.refl _ _, fun i hi h => by omega⟩
  case round =>
    obtain ⟨k, hk1, hk2, rfl, hbel, hR⟩ := hrel
    have HB : Hid (Below w.heap.size w wr) := hbel
    have HR : Hid (RightTo t k) := hR
    clear hbel hR
    by_cases hlt : k < t.size
    · obtain ⟨j, hj⟩ : ∃ j, k = j + 1 := ⟨k - 1, by omega⟩
      have HJ : Hid (k = j + 1) := hj
      have hlt' : (k : Int) < (t.size : Int) := by omega
      have hlt2 : (j : Int) < (t.size : Int) := by omega
      have hlt3 : j < t.size := by omega
      have hj0 : (0 : Int) ≤ (j : Int) := by omega
      have hk0 : (0 : Int) ≤ (k : Int) := by omega
      have wj : IntKind.i64.wrap ((k : Int) - 1) = j := by rw [IntKind.wrap_i64]; omega
      have wj2 : IntKind.i64.wrap (j : Int) = j := by rw [IntKind.wrap_i64]; omega
      have wj3 : (k : Int) - 1 = (j : Int) := by omega
      clear hj hk2
      by_cases hc : t[j].toNat < t[k].toNat
      · have HC : Hid (t[j].toNat < t[k].toNat) := hc
        have hc' : ¬ ((t[k].toNat : Int) ≤ (t[j].toNat : Int)) := by omega
        clear hc
        go_wp2
        go_quiet (fail)
        go_wp2
        go_roundw
        case rel => exact ⟨k + 1, by omega, Or.inl hlt, by go_num, below_drewC _ HB.out, right_step HJ.out hlt HR.out HC.out⟩
        case measure => simp [intOf]; omega
      · have HC : Hid (¬ RightC t) := right_bad HJ.out hlt hc
        have hc' : (t[k].toNat : Int) ≤ (t[j].toNat : Int) := by omega
        clear hc
        go_wp2
        go_quiet (fail)
        go_wp2
        go_ret
        exact ⟨by rw [decide_eq_false HC.out]; rfl, below_drewC _ HB.out⟩
    · have hge : ¬ (k : Int) < (t.size : Int) := by omega
      have HC : Hid (RightC t) := fun i hi => HR.out i hi (by omega)
      go_wp2
      go_ret
      exact ⟨by rw [decide_eq_true HC.out]; rfl, HB.out⟩
end Go.Proofs.Ytbdjjggaahjjpaa
