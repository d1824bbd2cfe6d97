/- What is proved here: spec.PutText and impl.PutText hand back the same text; nothing that was there turns. -/
import Derived.Test.YtpdedggnjcnpgaaDoorPutW
import Derived.Test.YtpdedggnjcnpgaaDoorJoinW
namespace Go.Proofs.YtpdedggnjcnpgaaDoor
open Go.RowKit Go.Lib

/-- A text with its length ahead. -/
def putText (s : ByteArray) : ByteArray := putNum (s.size : Int) ++ s
theorem put_size (n : Int) : (putNum n).size ≤ 65 := by
  unfold putNum
  rw [strOfNums_size]
  exact (leb_length 64 (foldOf n)).2

set_option maxHeartbeats 1000000 in
theorem specPutText_yes (s : ByteArray) (w : World) (hs : s.size ≤ 8000) :
    Calls Tryd.prog 10 #[.string s] w fun e w' => e = .returned (.string (putText s)) ∧ Below w.heap.size w w' := by
  go_enter Tryd.func10, Tryd.ntmps10
  go_wp2_with fail
  refine (specPut_any _ _ (by omega) (by omega)).mono ?_
  rintro e w1 ⟨rfl, hb1⟩
  have HB : Hid (Below w.heap.size w w1) := hb1
  clear hb1
  have HQ : Hid (putText s = putNum (s.size : Int) ++ s) := rfl
  have h4 := put_size (s.size : Int)
  generalize putNum (s.size : Int) = q at *
  go_wp2
  go_ret
  exact ⟨ret_str HQ.out.symm, HB.out⟩
theorem specPutText_no (s : ByteArray) (w : World) (hs : s.size ≤ maxLen) (h : 8000 < s.size) :
    Calls Tryd.prog 10 #[.string s] w fun e w' => e = .returned (.string ⟨#[]⟩) ∧ w' = w := by
  unfold maxLen at hs
  go_enter Tryd.func10, Tryd.ntmps10
  go_wp2
  go_ret
  exact ⟨rfl, rfl⟩

set_option maxHeartbeats 1000000 in
theorem implPutText_yes (s : ByteArray) (w : World) (hs : s.size ≤ 8000) :
    Calls Tryd.prog 9 #[.string s] w fun e w' => e = .returned (.string (putText s)) ∧ Below w.heap.size w w' := by
  go_enter Tryd.func9, Tryd.ntmps9
  go_wp2_with fail
  refine (implPut_any _ _ (by omega) (by omega)).mono ?_
  rintro e w1 ⟨rfl, hb1⟩
  have HB : Hid (Below w.heap.size w w1) := hb1
  clear hb1
  have HQ : Hid (putText s = putNum (s.size : Int) ++ s) := rfl
  have h4 := put_size (s.size : Int)
  generalize putNum (s.size : Int) = q at *
  go_wp2_with fail
  refine (joined_any _ s _ (by omega)).mono ?_
  rintro e w2 ⟨rfl, hb2⟩
  have HB2 : Hid (Below w.heap.size w w2) := HB.out.trans (hb2.mono HB.out.size)
  clear hb2
  go_wp2
  go_ret
  exact ⟨ret_str HQ.out.symm, HB2.out⟩
theorem implPutText_no (s : ByteArray) (w : World) (hs : s.size ≤ maxLen) (h : 8000 < s.size) :
    Calls Tryd.prog 9 #[.string s] w fun e w' => e = .returned (.string ⟨#[]⟩) ∧ w' = w := by
  unfold maxLen at hs
  go_enter Tryd.func9, Tryd.ntmps9
  go_wp2
  go_ret
  exact ⟨rfl, rfl⟩

end Go.Proofs.YtpdedggnjcnpgaaDoor
