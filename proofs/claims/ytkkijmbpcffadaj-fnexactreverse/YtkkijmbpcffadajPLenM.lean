/- What is said here: how long a text of a pattern is at least, and at most. -/
import Derived.Test.YtkkijmbpcffadajPatM
namespace Go.Proofs.Ytkkijmbpcffadaj
open Go.RowKit

/-- At least. -/
def leastOf (n : Nat) (f : Nat → Atm) : Int := sumTo (fun i => (f i).l) n
/-- At most. -/
def mostOf (n : Nat) (f : Nat → Atm) : Int := if (List.range n).any (fun i => (f i).m == -1) = true then -1 else sumTo (fun i => (f i).m) n
theorem most_none {n : Nat} {f : Nat → Atm} (h : ∃ i, i < n ∧ (f i).m = -1) : mostOf n f = -1 := by unfold mostOf; rw [if_pos (by simpa using h)]
theorem most_some {n : Nat} {f : Nat → Atm} (h : ∀ i, i < n → (f i).m ≠ -1) : mostOf n f = sumTo (fun i => (f i).m) n := by
  unfold mostOf
  rw [if_neg]
  intro e
  simp at e
  obtain ⟨i, hi, e⟩ := e
  exact h i hi e
end Go.Proofs.Ytkkijmbpcffadaj
