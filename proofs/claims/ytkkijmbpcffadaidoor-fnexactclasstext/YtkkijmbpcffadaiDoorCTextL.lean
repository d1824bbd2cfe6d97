/- What is proved here: the law of ClassText walks to true; nothing that was there turns. Its condition: the library's table lies. -/
import Derived.Test.YtkkijmbpcffadaiDoorClsTextI
import Derived.Test.YtkkijmbpcffadaiDoorSpecCTextW
namespace Go.Proofs.YtkkijmbpcffadaiDoor
open Go.RowKit

set_option maxHeartbeats 1000000 in
theorem law_classText (s : ByteArray) (w : World) (hs : s.size ≤ maxLen) (hT : Tab64 w) (hp0 : 0 < w.heap.size) :
    Calls Tryd.prog 6 #[.string s] w fun e w' => e = .returned (.bool true) ∧ Below w.heap.size w w' := by
  have hs' := hs
  unfold maxLen at hs'
  have HT : Hid (Tab64 w) := hT
  clear hT
  by_cases hbig : 1048576 < (s.size : Int)
  · go_enter Tryd.func6, Tryd.ntmps6
    go_wp2
    go_ret
    exact ⟨rfl, Below.refl _ _⟩
  · obtain ⟨d, C1, C2⟩ : ∃ d, (∀ W, Calls Tryd.prog 13 #[.string s] W fun e w' => e = .returned (.string d) ∧ Below W.heap.size W w') ∧ (∀ W, Tab64 W → 0 < W.heap.size → Calls Tryd.prog 14 #[.string s] W fun e w' => e = .returned (.string d) ∧ Below W.heap.size W w') := by
      by_cases h : RightC s ∧ 0 < s.size
      · exact ⟨clsS s, fun W => specCText_yes s W h.1 h.2, fun W h1 h2 => implCText_yes s W h.1 h.2 h1 h2⟩
      · exact ⟨⟨#[]⟩, fun W => specCText_no s W hs h, fun W _ _ => implCText_no s W hs h⟩
    have R1 : Hid (∀ W, Calls Tryd.prog 13 #[.string s] W fun e w' => e = .returned (.string d) ∧ Below W.heap.size W w') := C1
    have R2 : Hid (∀ W, Tab64 W → 0 < W.heap.size → Calls Tryd.prog 14 #[.string s] W fun e w' => e = .returned (.string d) ∧ Below W.heap.size W w') := C2
    clear C1 C2 hs
    go_enter Tryd.func6, Tryd.ntmps6
    go_wp2_with fail
    refine (R1.out _).mono ?_
    rintro e w1 ⟨rfl, hb1⟩
    have HB : Hid (Below w.heap.size w w1) := hb1
    have T1 : Hid (Tab64 w1) := HT.out.kept hb1 hp0
    have hz := hb1.size
    clear hb1
    go_wp2_with fail
    refine (R2.out _ T1.out (by omega)).mono ?_
    rintro e w2 ⟨rfl, hb2⟩
    have HB2 : Hid (Below w.heap.size w w2) := HB.out.trans (hb2.mono HB.out.size)
    clear hb2
    go_wp2
    go_ret
    exact ⟨rfl, HB2.out⟩
end Go.Proofs.YtkkijmbpcffadaiDoor
