/- What is proved here: the specification's ClassOf hands back the class of a text's bytes, or nothing; nothing that was there turns. -/
import Derived.Test.YtcppbddjboobhaaDoorClassRowW
namespace Go.Proofs.YtcppbddjboobhaaDoor
open Go.RowKit

set_option maxHeartbeats 1000000 in
theorem specCOf_yes (t : ByteArray) (w : World) (hs : t.size ≤ 8000) :
    Calls Tryd.prog 59 #[.string t] w fun e w' => e = .returned (.string (classT (hasByte t))) ∧ Below w.heap.size w w' := by
  have hs' : t.size ≤ maxLen := by unfold maxLen; omega
  have hs2 : ¬ 8000 < (t.size : Int) := by omega
  go_enter Tryd.func59, Tryd.ntmps59
  go_wp2_with fail
  refine (l03Row_any t w hs').mono ?_
  rintro e w1 ⟨g, rfl, hg, hb1, ho1⟩
  have HB : Hid (Below w.heap.size w w1) := hb1
  clear hb1
  go_wp2_with fail
  refine (l03From_any g _ w1 ho1).mono ?_
  rintro e w2 ⟨rfl, hb2⟩
  have HB2 : Hid (Below w.heap.size w w2) := HB.out.trans (hb2.mono HB.out.size)
  clear hb2 ho1
  go_wp2
  go_ret
  exact ⟨rfl, HB2.out⟩
theorem specCOf_no (t : ByteArray) (w : World) (hm : t.size ≤ maxLen) (hs : 8000 < t.size) :
    Calls Tryd.prog 59 #[.string t] w fun e w' => e = .returned (.string ⟨#[]⟩) ∧ w' = w := by
  unfold maxLen at hm
  have hs2 : 8000 < (t.size : Int) := by omega
  go_enter Tryd.func59, Tryd.ntmps59
  go_wp2
  go_ret
  exact ⟨rfl, rfl⟩
end Go.Proofs.YtcppbddjboobhaaDoor
