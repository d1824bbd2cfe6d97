/- What is proved here: how many words so many bits want, as the specification says it; the world stays.
   What is proved here: a new slice of so many zeros, in a world and a block of which nothing more is said. -/
import Derived.Test.YtbdjjggaahjjpaaQVecS
namespace Go.Proofs.Ytbdjjggaahjjpaa
open Go.RowKit

theorem words_any (b : Int) (w : World) (h0 : 0 ≤ b) (h1 : b ≤ 320) :
    Calls Try.prog 79 #[.int .i64 b] w fun e w' => e = .returned (.int .i64 ((b + 31) / 32)) ∧ w' = w := by
  go_enter Try.func79, Try.ntmps79
  go_wp2
  go_ret
  exact ⟨rfl, rfl⟩
end Go.Proofs.Ytbdjjggaahjjpaa
namespace Go.Proofs.Ytbdjjggaahjjpaa
open Go.RowKit

theorem make_new (w : World) (N : Nat) (hN : N ≤ 10000000) : ∃ (w' : World) (g : Nat), (Instr.makeSlice 23 (.int .i64 (N : Int)) (.int .i64 (N : Int))).run Try.prog w = .ok (.slice (some ⟨g, 0, none⟩) N N) w' ∧ w.heap.size ≤ g ∧ g < w'.heap.size ∧ Below w.heap.size w w' ∧ Own w' g N (fun _ => 0) := by
  obtain ⟨C, hmk, hown⟩ := make_row w N hN
  exact ⟨_, _, hmk, Nat.le_refl _, by simp, (Below.refl _ _).alloc (Nat.le_refl _) _, hown⟩
end Go.Proofs.Ytbdjjggaahjjpaa
