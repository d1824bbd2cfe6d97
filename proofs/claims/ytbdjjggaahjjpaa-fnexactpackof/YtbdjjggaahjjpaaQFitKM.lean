/- What is said here: what fits a row of cells, as plain mathematics. -/
import Derived.Test.YtbdjjggaahjjpaaQCloM
namespace Go.Proofs.Ytbdjjggaahjjpaa
/-- A text that is not too long passes right cells. -/
def FitK (n : Nat) (f : Nat → Cel) (t : ByteArray) : Prop := t.size ≤ 8000 ∧ CellsOk n f ∧ runB f n t t.size n = true
theorem okSize {n : Nat} {f : Nat → Cel} (hs : ∀ i, i < n → RightC (f i).c → (f i).c.size ≤ 256) (h : CellsOk n f) : ∀ i, i < n → (f i).c.size ≤ 256 := fun i hi => hs i hi (h.2.2 i hi).1
theorem bit_of {x n : Nat} {P : Nat → Bool} (h : IsBits x P) : x / 2 ^ n % 2 = if P n = true then 1 else 0 := by
  have h2 := h.bit n
  rw [Nat.testBit_eq_decide_div_mod_eq] at h2
  by_cases h3 : x / 2 ^ n % 2 = 1
  · rw [decide_eq_true h3] at h2
    rw [if_pos h2.symm, h3]
  · rw [decide_eq_false h3] at h2
    rw [if_neg (by rw [← h2]; simp)]
    omega
theorem and_one64 {y : Nat} (h : y < 18446744073709551616) : bits .and .u64 (y : Int) 1 = ((y % 2 : Nat) : Int) := by
  have := and64 (a := y) (b := 1) h (by omega)
  rw [Nat.and_one_is_mod] at this
  exact this
end Go.Proofs.Ytbdjjggaahjjpaa
