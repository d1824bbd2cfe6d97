/- What is said here: right rows of cells, as plain mathematics. -/
import Derived.Test.YtbdjjggaahjjpaaQCellD
import Derived.Test.YtbdjjggaahjjpaaQClassM
namespace Go.Proofs.Ytbdjjggaahjjpaa
open Go.RowKit

/-- A cell is right. -/
def CellOk (a : Cel) : Prop := RightC a.c ∧ 0 < a.c.size
/-- A row of cells is right. -/
def CellsOk (n : Nat) (f : Nat → Cel) : Prop := 1 ≤ n ∧ n ≤ 60 ∧ ∀ i, i < n → CellOk (f i)
theorem stepCell {f : Nat → Cel} {k : Nat} (h : ∀ i, i < k → CellOk (f i)) (hk : CellOk (f k)) : ∀ i, i < k + 1 → CellOk (f i) := fun i hi => by
  by_cases e : i = k
  · rw [e]; exact hk
  · exact h i (by omega)
theorem emptyC {c : ByteArray} (h : ¬ 0 < c.size) : c = ⟨#[]⟩ := by
  apply ByteArray.ext
  have : c.data.size = 0 := by have : c.size = c.data.size := rfl; omega
  exact Array.size_eq_zero_iff.1 this
theorem someC {c : ByteArray} (h : 0 < c.size) : (¬ c.toList = []) ∧ c.toList.isEmpty = false := by
  rw [ByteArray.toList_eq]
  have h2 : c.data.toList ≠ [] := by
    intro e
    have : c.data.toList.length = c.size := by simp
    rw [e] at this
    simp at this
    omega
  exact ⟨h2, by simpa using h2⟩
theorem noneC {c : ByteArray} (h : ¬ 0 < c.size) : c.toList = [] ∧ c.toList.isEmpty = true := by
  rw [emptyC h, ByteArray.toList_eq]
  exact ⟨rfl, rfl⟩
end Go.Proofs.Ytbdjjggaahjjpaa
