/- What is proved here: the specification's ClassText hands back the text of a right class that is not empty, else nothing; nothing that was there turns. -/
import Derived.Test.YtkkijmbpcffadaiDoorSpecClsW
namespace Go.Proofs.YtkkijmbpcffadaiDoor
open Go.RowKit

open Classical in
theorem specCText_yes (c : ByteArray) (w : World) (h : RightC c) (h0 : 0 < c.size) :
    Calls Tryd.prog 13 #[.string c] w fun e w' => e = .returned (.string (clsS c)) ∧ Below w.heap.size w w' := by
  obtain ⟨hq1, hq2⟩ := some_ofC h0
  have h256 := right_size h
  have hc : c.size ≤ maxLen := by unfold maxLen; omega
  have HP : Hid (∀ W, Calls Tryd.prog 15 #[.string c] W fun e w' => e = .returned (.bool true) ∧ Below W.heap.size W w') := fun W => (specRightC_any c W hc).mono fun _ _ h2 => ⟨by rw [h2.1, decide_eq_true h], h2.2⟩
  have HL : Hid (∀ W, Calls Tryd.prog 27 #[.string c] W fun e w' => e = .returned (.string (clsS c)) ∧ Below W.heap.size W w') := fun W => l04Class_any c W h0 h256
  generalize clsS c = ct at *
  clear h hc
  go_enter Tryd.func13, Tryd.ntmps13
  go_wp2_with fail
  refine (HP.out _).mono ?_
  rintro e w1 ⟨rfl, hb⟩
  have B1 : Hid (Below w.heap.size w w1) := hb
  clear hb
  go_wp2_with fail
  refine (HL.out _).mono ?_
  rintro e w2 ⟨rfl, hb⟩
  have B2 : Hid (Below w.heap.size w w2) := B1.out.trans (hb.mono B1.out.size)
  clear hb
  go_wp2_with fail
  go_ret
  exact ⟨rfl, B2.out⟩
open Classical in
theorem specCText_no (c : ByteArray) (w : World) (hc : c.size ≤ maxLen) (h : ¬ (RightC c ∧ 0 < c.size)) :
    Calls Tryd.prog 13 #[.string c] w fun e w' => e = .returned (.string ⟨#[]⟩) ∧ Below w.heap.size w w' := by
  by_cases hr : RightC c
  · have h0 : ¬ 0 < c.size := fun h2 => h ⟨hr, h2⟩
    obtain ⟨hq1, hq2⟩ := none_ofC h0
    have HP : Hid (∀ W, Calls Tryd.prog 15 #[.string c] W fun e w' => e = .returned (.bool true) ∧ Below W.heap.size W w') := fun W => (specRightC_any c W hc).mono fun _ _ h2 => ⟨by rw [h2.1, decide_eq_true hr], h2.2⟩
    clear h hr hc
    go_enter Tryd.func13, Tryd.ntmps13
    go_wp2_with fail
    refine (HP.out _).mono ?_
    rintro e w1 ⟨rfl, hb⟩
    have B1 : Hid (Below w.heap.size w w1) := hb
    clear hb
    go_wp2_with fail
    go_ret
    exact ⟨rfl, B1.out⟩
  · have HP : Hid (∀ W, Calls Tryd.prog 15 #[.string c] W fun e w' => e = .returned (.bool false) ∧ Below W.heap.size W w') := fun W => (specRightC_any c W hc).mono fun _ _ h2 => ⟨by rw [h2.1, decide_eq_false hr], h2.2⟩
    clear h hr hc
    go_enter Tryd.func13, Tryd.ntmps13
    go_wp2_with fail
    refine (HP.out _).mono ?_
    rintro e w1 ⟨rfl, hb⟩
    have B1 : Hid (Below w.heap.size w w1) := hb
    clear hb
    go_wp2_with fail
    go_ret
    exact ⟨rfl, B1.out⟩
end Go.Proofs.YtkkijmbpcffadaiDoor
