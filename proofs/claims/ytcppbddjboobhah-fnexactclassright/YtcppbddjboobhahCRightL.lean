/- What is proved here: the law of ClassRight walks to true; nothing that was there turns. -/
import Derived.Test.YtcppbddjboobhahImplCRightW
namespace Go.Proofs.Ytcppbddjboobhah
open Go.RowKit

open Classical in
set_option maxHeartbeats 1000000 in
theorem law_classRight (s : ByteArray) (w : World) (hs : s.size ≤ maxLen) :
    Calls Try.prog 3 #[.string s] w fun e w' => e = .returned (.bool true) ∧ Below w.heap.size w w' := by
  have hs' := hs
  unfold maxLen at hs'
  by_cases hbig : 1048576 < (s.size : Int)
  · go_enter Try.func3, Try.ntmps3
    go_wp2
    go_ret
    exact ⟨rfl, Below.refl _ _⟩
  · have C1 := fun W => specRightC_any s W hs
    have C2 := fun W => implRightC_any s W hs
    generalize decide (RightC s) = d at C1 C2
    have R1 : Hid (∀ W, Calls Try.prog 4 #[.string s] W fun e w' => e = .returned (.bool d) ∧ Below W.heap.size W w') := C1
    have R2 : Hid (∀ W, Calls Try.prog 5 #[.string s] W fun e w' => e = .returned (.bool d) ∧ Below W.heap.size W w') := C2
    clear C1 C2 hs
    go_enter Try.func3, Try.ntmps3
    go_wp2_with fail
    refine (R1.out _).mono ?_
    rintro e w1 ⟨rfl, hb1⟩
    have HB : Hid (Below w.heap.size w w1) := hb1
    clear hb1
    go_wp2_with fail
    refine (R2.out _).mono ?_
    rintro e w2 ⟨rfl, hb2⟩
    have HB2 : Hid (Below w.heap.size w w2) := HB.out.trans (hb2.mono HB.out.size)
    clear hb2
    go_wp2
    go_ret
    exact ⟨rfl, HB2.out⟩
end Go.Proofs.Ytcppbddjboobhah
