/- What is said here: the places to which one comes by a byte, as bits. -/
import Derived.Test.YthnnenbpbkmbhaaQClassMToVecIsM
namespace Go.Proofs.Ythnnenbpbkmbhaa
open Go.RowKit

theorem pass_bits {y x n c : Nat} {f : Nat → Cel} {A : Nat → Bool} (h : IsBits y (fun j => (decide (1 ≤ j) && A (j - 1)) || (A j && behind (fun i => (f i).o) n j))) (h2 : IsBits x (behind (fun i => hasByte (f i).c c) n)) : IsBits (y &&& x) (passB f n A c) :=
  (h.and h2).congr (fun j => by
    unfold passB
    by_cases e : 1 ≤ j
    · rw [decide_eq_true e, Bool.true_and, Bool.and_comm]
    · have : behind (fun i => hasByte (f i).c c) n j = false := by unfold behind; rw [decide_eq_false (by omega)]; rfl
      rw [this]
      simp)
end Go.Proofs.Ythnnenbpbkmbhaa
