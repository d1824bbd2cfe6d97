/- What is proved here: the law of ClassOf walks to true, where the table of the library lies as its initialiser lays it; nothing that was there turns. -/
import Derived.Test.YtcppbddjboobhahDoorSpecCOfW
import Derived.Test.YtcppbddjboobhahDoorImplCOfW
namespace Go.Proofs.YtcppbddjboobhahDoor
open Go.RowKit

set_option maxHeartbeats 1000000 in
theorem law_classOf (a : ByteArray) (w : World) (ha : a.size ≤ maxLen) (hT : Tab64 w) (hp0 : 1 < w.heap.size) :
    Calls Tryd.prog 5 #[.string a] w fun e w' => e = .returned (.bool true) ∧ Below w.heap.size w w' := by
  have hs' := ha
  unfold maxLen at hs'
  have HT : Hid (Tab64 w) := hT
  clear hT
  by_cases hbig : 1048576 < (a.size : Int)
  · go_enter Tryd.func5, Tryd.ntmps5
    go_wp2
    go_ret
    exact ⟨rfl, Below.refl _ _⟩
  · by_cases h : a.size ≤ 8000
    · have R1 : Hid (∀ W, Calls Tryd.prog 15 #[.string a] W fun e w' => e = .returned (.string (classT (hasByte a))) ∧ Below W.heap.size W w') := fun W => specCOf_yes a W h
      have R2 : Hid (∀ W, Tab64 W → 1 < W.heap.size → Calls Tryd.prog 16 #[.string a] W fun e w' => e = .returned (.string (classT (hasByte a))) ∧ Below W.heap.size W w') := fun W h1 h2 => implCOf_yes a W h h1 h2
      clear h ha
      go_enter Tryd.func5, Tryd.ntmps5
      go_wp2_with fail
      refine (R1.out _).mono ?_
      rintro e w1 ⟨rfl, hb1⟩
      have HB : Hid (Below w.heap.size w w1) := hb1
      clear hb1
      go_wp2_with fail
      refine (R2.out _ (HT.out.kept HB.out hp0) (Nat.lt_of_lt_of_le hp0 HB.out.size)).mono ?_
      rintro e w2 ⟨rfl, hb2⟩
      have HB2 : Hid (Below w.heap.size w w2) := HB.out.trans (hb2.mono HB.out.size)
      clear hb2
      go_wp2
      go_ret
      exact ⟨rfl, HB2.out⟩
    · have h8 : 8000 < a.size := by omega
      have R1 : Hid (∀ W, Calls Tryd.prog 15 #[.string a] W fun e w' => e = .returned (.string (⟨#[]⟩)) ∧ Below W.heap.size W w') := fun W => (specCOf_no a W ha h8).mono (fun e w' h => ⟨h.1, by rw [h.2]; exact Below.refl _ _⟩)
      have R2 : Hid (∀ W, Tab64 W → 1 < W.heap.size → Calls Tryd.prog 16 #[.string a] W fun e w' => e = .returned (.string (⟨#[]⟩)) ∧ Below W.heap.size W w') := fun W _ _ => (implCOf_no a W ha h8).mono (fun e w' h => ⟨h.1, by rw [h.2]; exact Below.refl _ _⟩)
      clear h h8 ha
      go_enter Tryd.func5, Tryd.ntmps5
      go_wp2_with fail
      refine (R1.out _).mono ?_
      rintro e w1 ⟨rfl, hb1⟩
      have HB : Hid (Below w.heap.size w w1) := hb1
      clear hb1
      go_wp2_with fail
      refine (R2.out _ (HT.out.kept HB.out hp0) (Nat.lt_of_lt_of_le hp0 HB.out.size)).mono ?_
      rintro e w2 ⟨rfl, hb2⟩
      have HB2 : Hid (Below w.heap.size w w2) := HB.out.trans (hb2.mono HB.out.size)
      clear hb2
      go_wp2
      go_ret
      exact ⟨rfl, HB2.out⟩
end Go.Proofs.YtcppbddjboobhahDoor
