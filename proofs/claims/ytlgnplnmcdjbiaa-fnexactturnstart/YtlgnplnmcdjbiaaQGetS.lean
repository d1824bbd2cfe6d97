/- What is proved here: the specification's l02Get says whether a bit of a word is on; nothing that was there turns. -/
import Derived.Test.YtlgnplnmcdjbiaaQVecSpecW
import Derived.Test.YtlgnplnmcdjbiaaQClassMToVecIsM
namespace Go.Proofs.Ytlgnplnmcdjbiaa
open Go.RowKit

/-- A bit that a right vector has. -/
def HasBit (b : Int) (n : Nat) (f : Nat → Int) (i : Int) : Prop := Right b n f ∧ 0 ≤ i ∧ i < b
theorem bit_place {b : Int} {n : Nat} {f : Nat → Int} {i : Int} (h : HasBit b n f i) : ∃ k q : Nat, i / 32 = (k : Int) ∧ i % 32 = (q : Int) ∧ k < n ∧ q < 32 ∧ (i / 32).toNat = k ∧ (i % 32).toNat = q := by
  obtain ⟨h1, h2, h3⟩ := h
  have h4 := h1.2.2.1
  exact ⟨(i / 32).toNat, (i % 32).toNat, by omega, by omega, by omega, by omega, rfl, rfl⟩

end Go.Proofs.Ytlgnplnmcdjbiaa
