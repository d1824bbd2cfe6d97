/- What is proved here: the program's ClassRight says whether a text is a right class, isByte whether a number is a byte's; nothing that was there turns. -/
import Derived.Test.YtbdjjggaahjjpaaQSetOfW
namespace Go.Proofs.Ytbdjjggaahjjpaa
open Go.RowKit

open Classical in
set_option maxHeartbeats 1000000 in
theorem implRightC_any (t : ByteArray) (w : World) (hs : t.size ≤ maxLen) :
    Calls Try.prog 88 #[.string t] w fun e w' => e = .returned (.bool (decide (RightC t))) ∧ Below w.heap.size w w' := by
  go_enter Try.func88, Try.ntmps88
  go_wp2_with fail
  refine (setOfClass_any t _ hs).mono ?_
  rintro e w1 ⟨hb1, h⟩
  have HB : Hid (Below w.heap.size w w1) := hb1
  clear hb1
  rcases h with ⟨h, rfl⟩ | ⟨h, rfl⟩
  · have H : Hid (RightC t) := h
    clear h
    unfold setV
    go_wp2
    go_ret
    exact ⟨by rw [decide_eq_true H.out]; rfl, HB.out.alloc HB.out.size _⟩
  · have H : Hid (¬ RightC t) := h
    clear h
    unfold setV
    go_wp2
    go_ret
    exact ⟨by rw [decide_eq_false H.out]; rfl, HB.out.alloc HB.out.size _⟩
end Go.Proofs.Ytbdjjggaahjjpaa
