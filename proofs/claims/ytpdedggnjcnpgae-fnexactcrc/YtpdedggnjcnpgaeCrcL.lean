/- What is proved here: the laws of Crc and CrcMore walk to true at every text and number; nothing in memory turns. -/
import Derived.Test.YtpdedggnjcnpgaeCrcW
namespace Go.Proofs.Ytpdedggnjcnpgae
open Go.RowKit

set_option maxHeartbeats 1000000 in
theorem law_crc (s : ByteArray) (w : World) (hs : s.size ≤ maxLen) :
    Calls Try.prog 4 #[.string s] w fun e w' => e = .returned (.bool true) ∧ Below w.heap.size w w' := by
  have hs' := hs
  unfold maxLen at hs'
  by_cases hbig : 1048576 < (s.size : Int)
  · go_enter Try.func4, Try.ntmps4
    go_wp2
    go_ret
    exact ⟨rfl, Below.refl _ _⟩
  · by_cases h : s.size ≤ 8000
    · go_enter Try.func4, Try.ntmps4
      go_wp2_with (first | (go_at_call 10; refine (specCrc_yes _ _ h).mono ?_; rintro e w' ⟨rfl, rfl⟩) | (go_at_call 11; refine (implCrc_yes _ _ h).mono ?_; rintro e w' ⟨rfl, rfl⟩))
      go_ret
      exact ⟨rfl, Below.refl _ _⟩
    · have h' : 8000 < s.size := by omega
      go_enter Try.func4, Try.ntmps4
      go_wp2_with (first | (go_at_call 10; refine (specCrc_no _ _ hs h').mono ?_; rintro e w' ⟨rfl, rfl⟩) | (go_at_call 11; refine (implCrc_no _ _ hs h').mono ?_; rintro e w' ⟨rfl, rfl⟩))
      go_ret
      exact ⟨rfl, Below.refl _ _⟩

set_option maxHeartbeats 1000000 in
theorem law_crcMore (crc : Int) (s : ByteArray) (w : World) (_hc : (Lit.int .i64 crc).wf = true) (hs : s.size ≤ maxLen) :
    Calls Try.prog 5 #[.int .i64 crc, .string s] w fun e w' => e = .returned (.bool true) ∧ Below w.heap.size w w' := by
  clear _hc
  have hs' := hs
  unfold maxLen at hs'
  by_cases hbig : 1048576 < (s.size : Int)
  · go_enter Try.func5, Try.ntmps5
    go_wp2
    go_ret
    exact ⟨rfl, Below.refl _ _⟩
  · by_cases h : s.size ≤ 8000 ∧ 0 ≤ crc ∧ crc ≤ 4294967295
    · obtain ⟨h1, h2, h3⟩ := h
      go_enter Try.func5, Try.ntmps5
      go_wp2_with (first | (go_at_call 12; refine (specCrcMore_yes _ _ _ h1 h2 h3).mono ?_; rintro e w' ⟨rfl, rfl⟩) | (go_at_call 13; refine (implCrcMore_yes _ _ _ h1 h2 h3).mono ?_; rintro e w' ⟨rfl, rfl⟩))
      go_ret
      exact ⟨rfl, Below.refl _ _⟩
    · have h' : 8000 < s.size ∨ crc < 0 ∨ 4294967295 < crc := by omega
      go_enter Try.func5, Try.ntmps5
      go_wp2_with (first | (go_at_call 12; refine (specCrcMore_no _ _ _ hs h').mono ?_; rintro e w' ⟨rfl, rfl⟩) | (go_at_call 13; refine (implCrcMore_no _ _ _ hs h').mono ?_; rintro e w' ⟨rfl, rfl⟩))
      go_ret
      exact ⟨rfl, Below.refl _ _⟩
end Go.Proofs.Ytpdedggnjcnpgae
