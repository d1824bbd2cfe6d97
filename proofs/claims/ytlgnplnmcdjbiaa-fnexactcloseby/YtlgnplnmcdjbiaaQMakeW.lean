/- What is proved here: a new slice of so many zeros, in a world and a block of which nothing more is said. -/
import Derived.Test.YtlgnplnmcdjbiaaQRowsDToVecS
namespace Go.Proofs.Ytlgnplnmcdjbiaa
open Go.RowKit

theorem make_new (w : World) (N : Nat) (hN : N ≤ 10000000) : ∃ (w' : World) (g : Nat), (Instr.makeSlice 27 (.int .i64 (N : Int)) (.int .i64 (N : Int))).run Try.prog w = .ok (.slice (some ⟨g, 0, none⟩) N N) w' ∧ w.heap.size ≤ g ∧ g < w'.heap.size ∧ Below w.heap.size w w' ∧ Own w' g N (fun _ => 0) := by
  obtain ⟨C, hmk, hown⟩ := make_row w N hN
  exact ⟨_, _, hmk, Nat.le_refl _, by simp, (Below.refl _ _).alloc (Nat.le_refl _) _, hown⟩
end Go.Proofs.Ytlgnplnmcdjbiaa
