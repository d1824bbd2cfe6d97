/- What is proved here: a new slice of so many bools, none of them true. -/
import Derived.Test.YtapdegmgochkhaaQBoolRowsW
namespace Go.Proofs.Ytapdegmgochkhaa
open Go.RowKit

theorem make_boolN (w : World) (N : Nat) (hN : N ≤ 10000000) : ∃ (w' : World) (g : Nat), (Instr.makeSlice 96 (.int .i64 (N : Int)) (.int .i64 (N : Int))).run Try.prog w = .ok (.slice (some ⟨g, 0, none⟩) N N) w' ∧ w.heap.size ≤ g ∧ g < w'.heap.size ∧ Below w.heap.size w w' ∧ OwnB w' g N (fun _ => false) := by
  obtain ⟨i0, hi, hz0, hz1, hz2⟩ := info_parts Try.boolInfo
  have h := run_make (P := Try.prog) w 96 4 i0 (.bool false) Try.underlying96 hi hz0 .i64 .i64 (N : Int) (N : Int) (by omega) (Int.le_refl _) (by rw [hz2]; omega) (by omega)
  rw [hz1] at h
  refine ⟨w.alloc (.cells (madeCells (Value.bool false).cells (N * 1)) 4), w.heap.size, ?_, Nat.le_refl _, by simp, (Below.refl _ _).alloc (Nat.le_refl _) _, by simp, fun i hi => ?_, fun i hi => ?_⟩
  · rw [h]
    simp
  · rw [World.cell?_alloc_mark]
    simp [madeCells, Value.cells, Nat.mod_one, hi]
  · exact frozen_of_row _ _ _ _ _ (heap_alloc_new w _)
end Go.Proofs.Ytapdegmgochkhaa
