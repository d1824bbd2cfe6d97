/- What is proved here: the laws' comparison of slices of int64: what it hands back and what it leaves as it was. -/
import Derived.Test.YtbdjjggaahjjpaaQRowsD
namespace Go.Proofs.Ytbdjjggaahjjpaa
open Go.RowKit

set_option maxHeartbeats 1000000 in
theorem eqRow_same (sa sb : Option Addr) (n ca cb : Nat) (f : Nat → Int) (w : World) (hn : n ≤ 1048576) (ha : Row w w.heap.size sa n f) (hb : Row w w.heap.size sb n f) :
    Calls Try.prog 39 #[.slice sa n ca, .slice sb n cb] w fun e w' => e = .returned (.bool true) ∧ Below w.heap.size w w' := by
  have HA : Hid (Row w w.heap.size sa n f) := ha
  have HB : Hid (Row w w.heap.size sb n f) := hb
  clear ha hb
  go_enter Try.func39, Try.ntmps39
  go_wp2
  go_loopw [5] (fun i wr => ∃ k : Nat, k ≤ n ∧ i = .int .i64 (k : Int) ∧ Below w.heap.size w wr) (fun i _ => n - (intOf i).toNat)
  case atStart => exact ⟨0, Nat.zero_le _, rfl, Below.refl _ _⟩
  case round =>
    obtain ⟨k, hk, rfl, hbel⟩ := hrel
    have HW : Hid (Below w.heap.size w wr) := hbel
    by_cases hkl : k < n
    · obtain ⟨ba, oa, rfl, hba, hca⟩ : ∃ bb off : Nat, sa = some ⟨bb, off, none⟩ ∧ bb < w.heap.size ∧ ∀ i, i < n → w.cell? ⟨bb, off + i, none⟩ = some (.int .i64 (f i)) := by
        rcases HA.out with h | h
        · omega
        · exact h
      obtain ⟨bb, ob, rfl, hbb, hcb⟩ : ∃ bb off : Nat, sb = some ⟨bb, off, none⟩ ∧ bb < w.heap.size ∧ ∀ i, i < n → w.cell? ⟨bb, off + i, none⟩ = some (.int .i64 (f i)) := by
        rcases HB.out with h | h
        · omega
        · exact h
      have cz : wr.cell? ⟨ba, oa + k, none⟩ = some (.int .i64 (f k)) := by rw [hbel.cell (p := ⟨ba, oa + k, none⟩) hba]; exact hca k hkl
      have cy : wr.cell? ⟨bb, ob + k, none⟩ = some (.int .i64 (f k)) := by rw [hbel.cell (p := ⟨bb, ob + k, none⟩) hbb]; exact hcb k hkl
      clear hca hcb hbel
      have hki : (k : Int) < (n : Int) := by omega
      have hk0 : (0 : Int) ≤ (k : Int) := by omega
      go_wp2
      go_region
      go_wp2
      go_roundw
      case rel => exact ⟨k + 1, by omega, by go_num, HW.out.drew⟩
      case measure => simp [intOf]; omega
    · have hki : ¬ (k : Int) < (n : Int) := by omega
      clear hbel
      go_wp2
      go_ret
      exact ⟨rfl, HW.out⟩
end Go.Proofs.Ytbdjjggaahjjpaa
