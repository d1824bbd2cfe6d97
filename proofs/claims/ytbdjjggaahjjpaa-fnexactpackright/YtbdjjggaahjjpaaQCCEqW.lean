/- What is proved here: the laws' comparison and marks over slices of slices of cells: what they hand back and what they leave as it was. -/
import Derived.Test.YtbdjjggaahjjpaaQCCHW
namespace Go.Proofs.Ytbdjjggaahjjpaa
open Go.RowKit

set_option maxHeartbeats 1000000 in
theorem eqCC_same (sa sb : Option Addr) (k ca cb : Nat) (s1 s2 : Nat → Option Addr) (n c1 c2 : Nat → Nat) (f : Nat → Nat → Cel) (w : World) (hk : k ≤ 1048576) (hn : ∀ i, i < k → n i ≤ 1048576) (ha : CCRows w w.heap.size sa k s1 n c1 f) (hb : CCRows w w.heap.size sb k s2 n c2 f) :
    Calls Try.prog 17 #[.slice sa k ca, .slice sb k cb] w fun e w' => e = .returned (.bool true) ∧ Below w.heap.size w w' := by
  have HA : Hid (CCRows w w.heap.size sa k s1 n c1 f) := ha
  have HB : Hid (CCRows w w.heap.size sb k s2 n c2 f) := hb
  have HEQ : Hid (∀ i, i < k → ∀ W, CRow W W.heap.size (s1 i) (n i) (f i) → CRow W W.heap.size (s2 i) (n i) (f i) → Calls Try.prog 45 #[.slice (s1 i) (n i) (c1 i), .slice (s2 i) (n i) (c2 i)] W fun e w' => e = .returned (.bool true) ∧ Below W.heap.size W w') := fun i hi W h1 h2 => eqCells_same (s1 i) (s2 i) (n i) (c1 i) (c2 i) (f i) W (hn i hi) h1 h2
  clear ha hb hn
  go_enter Try.func17, Try.ntmps17
  go_wp2_with fail
  go_loopw [5] (fun iv wr => ∃ i : Nat, i ≤ k ∧ iv = .int .i64 (i : Int) ∧ Below w.heap.size w wr) (fun iv _ => k - (intOf iv).toNat)
  case atStart => exact ⟨0, Nat.zero_le _, rfl, Below.refl _ _⟩
  case round =>
    obtain ⟨i, hi, rfl, hbel⟩ := hrel
    have HW : Hid (Below w.heap.size w wr) := hbel
    by_cases hil : i < k
    · obtain ⟨ba, oa, rfl, hba, ca1, hra⟩ := (HA.out.late hbel).at hil
      obtain ⟨bb, ob, rfl, hbb, cb1, hrb⟩ := (HB.out.late hbel).at hil
      have hd : Below wr.heap.size wr wr.drew := (Below.refl _ _).drew
      have C := HEQ.out i hil wr.drew ((hra.kept hd).up hd.size) ((hrb.kept hd).up hd.size)
      have hii : (i : Int) < (k : Int) := by omega
      have hi0 : (0 : Int) ≤ (i : Int) := by omega
      clear hbel hra hrb hd
      generalize s1 i = x1 at *
      generalize s2 i = x2 at *
      generalize n i = ni at *
      generalize c1 i = y1 at *
      generalize c2 i = y2 at *
      go_wp2_with fail
      go_region_with (go_at_call 45; refine C.mono ?_; rintro e w1 ⟨rfl, hb1⟩; have HB1 : Hid (Below w.heap.size w w1) := HW.out.drew.trans (hb1.mono HW.out.size); clear hb1)
      all_goals
        go_wp2_with fail
        go_roundw
        case rel => exact ⟨i + 1, by omega, by go_num, HB1.out⟩
        case measure => simp [intOf]; omega
    · have hii : ¬ (i : Int) < (k : Int) := by omega
      clear hbel
      go_wp2_with fail
      go_ret
      exact ⟨rfl, HW.out⟩
end Go.Proofs.Ytbdjjggaahjjpaa
