/- What is said here: where rows begin that lie one behind the other; what a right pack is. -/
import Derived.Test.YtbdjjggaahjjpaaQPkM
import Derived.Test.YtbdjjggaahjjpaaQCellM
namespace Go.Proofs.Ytbdjjggaahjjpaa
open Go.RowKit

/-- Where a row begins. -/
def atP (n : Nat → Nat) (i : Nat) : Nat := totC n i + i
theorem atP_succ (n : Nat → Nat) (i : Nat) : atP n (i + 1) = atP n i + (n i + 1) := by unfold atP; simp only [totC]; omega
theorem atP_zero (n : Nat → Nat) : atP n 0 = 0 := rfl
theorem atP_le {n : Nat → Nat} {k : Nat} (h : ∀ i, i < k → n i ≤ 60) : ∀ i, i ≤ k → atP n i ≤ 61 * i
  | 0, _ => by rw [atP_zero]; omega
  | i + 1, hi => by rw [atP_succ]; have := atP_le h i (by omega); have := h i (by omega); omega
theorem atP_mono {n : Nat → Nat} : ∀ {i j : Nat}, i ≤ j → atP n i ≤ atP n j := by
  intro i j h
  unfold atP
  have := totC_mono (n := n) h
  omega
/-- The beginnings of the first rows. -/
def atL (n : Nat → Nat) (i : Nat) : List Int := (List.range i).map (fun j => (atP n j : Int))
theorem atL_succ (n : Nat → Nat) (i : Nat) : atL n (i + 1) = atL n i ++ [(atP n i : Int)] := by simp [atL, List.range_succ]
theorem atL_len (n : Nat → Nat) (i : Nat) : (atL n i).length = i := by simp [atL]
theorem atL_get (n : Nat → Nat) {i k : Nat} (h : i < k) : (atL n k).getD i 0 = (atP n i : Int) := by simp [atL, h]
/-- A right pack. -/
def PkOk (P : Pk) : Prop := (1 ≤ P.k ∧ P.k ≤ 6 ∧ ∀ i, i < P.k → CellsOk (P.n i) (P.f i)) ∧ P.m = P.k ∧ (∀ i, i < P.k → P.a i = (atP P.n i : Int)) ∧ P.b = (atP P.n P.k : Int) ∧ P.b ≤ 320
end Go.Proofs.Ytbdjjggaahjjpaa
