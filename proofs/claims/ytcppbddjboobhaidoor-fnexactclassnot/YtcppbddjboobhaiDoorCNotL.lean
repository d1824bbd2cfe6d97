/- What is proved here: the law of ClassNot walks to true, where the table of the library lies as its initialiser lays it; nothing that was there turns. -/
import Derived.Test.YtcppbddjboobhaiDoorSpecCNotW
import Derived.Test.YtcppbddjboobhaiDoorSetNotW
namespace Go.Proofs.YtcppbddjboobhaiDoor
open Go.RowKit

set_option maxHeartbeats 1000000 in
theorem law_classNot (a : ByteArray) (w : World) (ha : a.size ≤ maxLen) (hT : Tab64 w) (hp0 : 0 < w.heap.size) :
    Calls Tryd.prog 4 #[.string a] w fun e w' => e = .returned (.bool true) ∧ Below w.heap.size w w' := by
  have hs1 := ha
  unfold maxLen at hs1
  have HT : Hid (Tab64 w) := hT
  clear hT
  by_cases hbig : 1048576 < (a.size : Int)
  · go_enter Tryd.func4, Tryd.ntmps4
    go_wp2
    go_ret
    exact ⟨rfl, Below.refl _ _⟩
  · by_cases h : RightC a
    · have R1 : Hid (∀ W, Calls Tryd.prog 8 #[.string a] W fun e w' => e = .returned (.string (classT (fun i => !hasByte a i))) ∧ Below W.heap.size W w') := fun W => specCNot_yes a W ha h
      have R2 : Hid (∀ W, Tab64 W → 0 < W.heap.size → Calls Tryd.prog 9 #[.string a] W fun e w' => e = .returned (.string (classT (fun i => !hasByte a i))) ∧ Below W.heap.size W w') := fun W h1 h2 => implCNot_yes a W ha h h1 h2
      clear h ha
      go_enter Tryd.func4, Tryd.ntmps4
      go_wp2_with fail
      refine (R1.out _).mono ?_
      rintro e w1 ⟨rfl, hb1⟩
      have HB : Hid (Below w.heap.size w w1) := hb1
      clear hb1
      go_wp2_with fail
      refine (R2.out _ (HT.out.kept HB.out hp0) (Nat.lt_of_lt_of_le hp0 HB.out.size)).mono ?_
      rintro e w2 ⟨rfl, hb2⟩
      have HB2 : Hid (Below w.heap.size w w2) := HB.out.trans (hb2.mono HB.out.size)
      clear hb2
      go_wp2
      go_ret
      exact ⟨rfl, HB2.out⟩
    · have R1 : Hid (∀ W, Calls Tryd.prog 8 #[.string a] W fun e w' => e = .returned (.string (⟨#[]⟩)) ∧ Below W.heap.size W w') := fun W => specCNot_no a W ha h
      have R2 : Hid (∀ W, Tab64 W → 0 < W.heap.size → Calls Tryd.prog 9 #[.string a] W fun e w' => e = .returned (.string (⟨#[]⟩)) ∧ Below W.heap.size W w') := fun W _ _ => implCNot_no a W ha h
      clear h ha
      go_enter Tryd.func4, Tryd.ntmps4
      go_wp2_with fail
      refine (R1.out _).mono ?_
      rintro e w1 ⟨rfl, hb1⟩
      have HB : Hid (Below w.heap.size w w1) := hb1
      clear hb1
      go_wp2_with fail
      refine (R2.out _ (HT.out.kept HB.out hp0) (Nat.lt_of_lt_of_le hp0 HB.out.size)).mono ?_
      rintro e w2 ⟨rfl, hb2⟩
      have HB2 : Hid (Below w.heap.size w w2) := HB.out.trans (hb2.mono HB.out.size)
      clear hb2
      go_wp2
      go_ret
      exact ⟨rfl, HB2.out⟩
end Go.Proofs.YtcppbddjboobhaiDoor
