/- What is said here: texts that are empty, and texts that are not. -/
import Derived.Test.YtkkijmbpcffadajDoorProg
import Derived.WalkKit
namespace Go.Proofs.YtkkijmbpcffadajDoor
open Go.RowKit

theorem empty_ofC {c : ByteArray} (h : ¬ 0 < c.size) : c = ⟨#[]⟩ := by
  apply ByteArray.ext
  have : c.data.size = 0 := by have : c.size = c.data.size := rfl; omega
  exact Array.size_eq_zero_iff.1 this
theorem some_ofC {c : ByteArray} (h : 0 < c.size) : (¬ c.toList = []) ∧ c.toList.isEmpty = false := by
  rw [ByteArray.toList_eq]
  have h2 : c.data.toList ≠ [] := by
    intro e
    have : c.data.toList.length = c.size := by simp
    rw [e] at this
    simp at this
    omega
  exact ⟨h2, by simpa using h2⟩
theorem none_ofC {c : ByteArray} (h : ¬ 0 < c.size) : c.toList = [] ∧ c.toList.isEmpty = true := by
  rw [empty_ofC h, ByteArray.toList_eq]
  exact ⟨rfl, rfl⟩
end Go.Proofs.YtkkijmbpcffadajDoor
