/- What is proved here: the law of ClassSpan walks to true, where the table of the library lies as its initialiser lays it; nothing that was there turns. -/
import Derived.Test.YtcppbddjboobhahDoorImplCSpanW
namespace Go.Proofs.YtcppbddjboobhahDoor
open Go.RowKit

set_option maxHeartbeats 1000000 in
theorem law_classSpan (a b : Int) (w : World) (_ : (Lit.int .i64 a).wf = true) (_ : (Lit.int .i64 b).wf = true) (hT : Tab64 w) (hp0 : 1 < w.heap.size) :
    Calls Tryd.prog 6 #[.int .i64 a, .int .i64 b] w fun e w' => e = .returned (.bool true) ∧ Below w.heap.size w w' := by
  have HT : Hid (Tab64 w) := hT
  clear hT
  by_cases h : 0 ≤ a ∧ a ≤ 255 ∧ 0 ≤ b ∧ b ≤ 255
  · have R1 : Hid (∀ W, Calls Tryd.prog 17 #[.int .i64 a, .int .i64 b] W fun e w' => e = .returned (.string (classT (spanB a b))) ∧ Below W.heap.size W w') := fun W => specCSpan_yes a b W h.1 h.2.1 h.2.2.1 h.2.2.2
    have R2 : Hid (∀ W, Tab64 W → 1 < W.heap.size → Calls Tryd.prog 18 #[.int .i64 a, .int .i64 b] W fun e w' => e = .returned (.string (classT (spanB a b))) ∧ Below W.heap.size W w') := fun W h1 h2 => implCSpan_yes a b W h.1 h.2.1 h.2.2.1 h.2.2.2 h1 h2
    clear h
    go_enter Tryd.func6, Tryd.ntmps6
    go_wp2_with fail
    refine (R1.out _).mono ?_
    rintro e w1 ⟨rfl, hb1⟩
    have HB : Hid (Below w.heap.size w w1) := hb1
    clear hb1
    go_wp2_with fail
    refine (R2.out _ (HT.out.kept HB.out hp0) (Nat.lt_of_lt_of_le hp0 HB.out.size)).mono ?_
    rintro e w2 ⟨rfl, hb2⟩
    have HB2 : Hid (Below w.heap.size w w2) := HB.out.trans (hb2.mono HB.out.size)
    clear hb2
    go_wp2
    go_ret
    exact ⟨rfl, HB2.out⟩
  · have R1 : Hid (∀ W, Calls Tryd.prog 17 #[.int .i64 a, .int .i64 b] W fun e w' => e = .returned (.string (⟨#[]⟩)) ∧ Below W.heap.size W w') := fun W => specCSpan_no a b W h
    have R2 : Hid (∀ W, Tab64 W → 1 < W.heap.size → Calls Tryd.prog 18 #[.int .i64 a, .int .i64 b] W fun e w' => e = .returned (.string (⟨#[]⟩)) ∧ Below W.heap.size W w') := fun W _ _ => (implCSpan_no a b W h).mono (fun e w' h => ⟨h.1, by rw [h.2]; exact Below.refl _ _⟩)
    clear h
    go_enter Tryd.func6, Tryd.ntmps6
    go_wp2_with fail
    refine (R1.out _).mono ?_
    rintro e w1 ⟨rfl, hb1⟩
    have HB : Hid (Below w.heap.size w w1) := hb1
    clear hb1
    go_wp2_with fail
    refine (R2.out _ (HT.out.kept HB.out hp0) (Nat.lt_of_lt_of_le hp0 HB.out.size)).mono ?_
    rintro e w2 ⟨rfl, hb2⟩
    have HB2 : Hid (Below w.heap.size w w2) := HB.out.trans (hb2.mono HB.out.size)
    clear hb2
    go_wp2
    go_ret
    exact ⟨rfl, HB2.out⟩
end Go.Proofs.YtcppbddjboobhahDoor
