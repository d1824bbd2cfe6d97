/- What is said here: there are numbers that have the bits of a row's runs. -/
import Derived.Test.YthnnenbpbkmbhaaQSpecMaskLW
namespace Go.Proofs.Ythnnenbpbkmbhaa
open Go.RowKit

theorem first_ex (f : Nat → Cel) {n : Nat} (hn : n ≤ 60) : ∃ x, IsBits x (firstB (skipB f n)) := ⟨_, bits_valB (fun j hj => by unfold firstB; rw [skip_le f n (j + 1) (by omega)]; rfl)⟩
theorem last_ex (f : Nat → Cel) {n : Nat} (hn : n ≤ 60) : ∃ x, IsBits x (lastB (skipB f n)) := ⟨_, bits_valB (fun j hj => by unfold lastB; rw [skip_le f n j (by omega)]; rfl)⟩
theorem skip_ex (f : Nat → Cel) {n : Nat} (hn : n ≤ 60) : ∃ x, IsBits x (skipB f n) := ⟨_, bits_valB (fun j hj => skip_le f n j (by omega))⟩
end Go.Proofs.Ythnnenbpbkmbhaa
