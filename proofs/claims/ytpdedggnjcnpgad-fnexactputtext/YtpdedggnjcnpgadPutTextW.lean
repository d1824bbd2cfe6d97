/- What is proved here: spec.PutText and impl.PutText hand back the same text; the law of PutText walks to true; nothing that was there turns. -/
import Derived.Test.YtpdedggnjcnpgadPutW
import Derived.Test.YtpdedggnjcnpgadJoinW
namespace Go.Proofs.Ytpdedggnjcnpgad
open Go.RowKit Go.Lib

/-- A text with its length ahead. -/
def putText (s : ByteArray) : ByteArray := putNum (s.size : Int) ++ s
theorem put_size (n : Int) : (putNum n).size ≤ 65 := by
  unfold putNum
  rw [strOfNums_size]
  exact (leb_length 64 (foldOf n)).2

set_option maxHeartbeats 1000000 in
theorem specPutText_yes (s : ByteArray) (w : World) (hs : s.size ≤ 8000) :
    Calls Try.prog 7 #[.string s] w fun e w' => e = .returned (.string (putText s)) ∧ Below w.heap.size w w' := by
  go_enter Try.func7, Try.ntmps7
  go_wp2_with fail
  refine (specPut_any _ _ (by omega) (by omega)).mono ?_
  rintro e w1 ⟨rfl, hb1⟩
  have HB : Hid (Below w.heap.size w w1) := hb1
  clear hb1
  have HQ : Hid (putText s = putNum (s.size : Int) ++ s) := rfl
  have h4 := put_size (s.size : Int)
  generalize putNum (s.size : Int) = q at *
  go_wp2
  go_ret
  exact ⟨ret_str HQ.out.symm, HB.out⟩
theorem specPutText_no (s : ByteArray) (w : World) (hs : s.size ≤ maxLen) (h : 8000 < s.size) :
    Calls Try.prog 7 #[.string s] w fun e w' => e = .returned (.string ⟨#[]⟩) ∧ w' = w := by
  unfold maxLen at hs
  go_enter Try.func7, Try.ntmps7
  go_wp2
  go_ret
  exact ⟨rfl, rfl⟩

set_option maxHeartbeats 1000000 in
theorem implPutText_yes (s : ByteArray) (w : World) (hs : s.size ≤ 8000) :
    Calls Try.prog 8 #[.string s] w fun e w' => e = .returned (.string (putText s)) ∧ Below w.heap.size w w' := by
  go_enter Try.func8, Try.ntmps8
  go_wp2_with fail
  refine (implPut_any _ _ (by omega) (by omega)).mono ?_
  rintro e w1 ⟨rfl, hb1⟩
  have HB : Hid (Below w.heap.size w w1) := hb1
  clear hb1
  have HQ : Hid (putText s = putNum (s.size : Int) ++ s) := rfl
  have h4 := put_size (s.size : Int)
  generalize putNum (s.size : Int) = q at *
  go_wp2_with fail
  refine (joined_any _ s _ (by omega)).mono ?_
  rintro e w2 ⟨rfl, hb2⟩
  have HB2 : Hid (Below w.heap.size w w2) := HB.out.trans (hb2.mono HB.out.size)
  clear hb2
  go_wp2
  go_ret
  exact ⟨ret_str HQ.out.symm, HB2.out⟩
theorem implPutText_no (s : ByteArray) (w : World) (hs : s.size ≤ maxLen) (h : 8000 < s.size) :
    Calls Try.prog 8 #[.string s] w fun e w' => e = .returned (.string ⟨#[]⟩) ∧ w' = w := by
  unfold maxLen at hs
  go_enter Try.func8, Try.ntmps8
  go_wp2
  go_ret
  exact ⟨rfl, rfl⟩

set_option maxHeartbeats 1000000 in
theorem law_putText (s : ByteArray) (w : World) (hs : s.size ≤ maxLen) :
    Calls Try.prog 4 #[.string s] w fun e w' => e = .returned (.bool true) ∧ Below w.heap.size w w' := by
  have hs' := hs
  unfold maxLen at hs'
  by_cases hbig : 1048576 < (s.size : Int)
  · go_enter Try.func4, Try.ntmps4
    go_wp2
    go_ret
    exact ⟨rfl, Below.refl _ _⟩
  · by_cases h : s.size ≤ 8000
    · go_enter Try.func4, Try.ntmps4
      go_wp2_with fail
      refine (specPutText_yes s _ h).mono ?_
      rintro e w1 ⟨rfl, hb1⟩
      have HB : Hid (Below w.heap.size w w1) := hb1
      clear hb1
      go_wp2_with fail
      refine (implPutText_yes s _ h).mono ?_
      rintro e w2 ⟨rfl, hb2⟩
      have HB2 : Hid (Below w.heap.size w w2) := HB.out.trans (hb2.mono HB.out.size)
      clear hb2
      go_wp2
      go_ret
      exact ⟨rfl, HB2.out⟩
    · have h' : 8000 < s.size := by omega
      go_enter Try.func4, Try.ntmps4
      go_wp2_with (first | (go_at_call 7; refine (specPutText_no _ _ hs h').mono ?_; rintro e w' ⟨rfl, rfl⟩) | (go_at_call 8; refine (implPutText_no _ _ hs h').mono ?_; rintro e w' ⟨rfl, rfl⟩))
      go_ret
      exact ⟨rfl, Below.refl _ _⟩
end Go.Proofs.Ytpdedggnjcnpgad
