/- What is said here: a slice of slices of cells that is read. -/
import Derived.Test.YtbdjjggaahjjpaaQCellD
namespace Go.Proofs.Ytbdjjggaahjjpaa
open Go.RowKit

/-- A slice of slices of cells. -/
def CCRows (w : World) (B : Nat) (sa : Option Addr) (k : Nat) (s : Nat → Option Addr) (n c : Nat → Nat) (f : Nat → Nat → Cel) : Prop := k = 0 ∨ ∃ bb off : Nat, sa = some ⟨bb, off, none⟩ ∧ bb < B ∧ ∀ i, i < k → w.cell? ⟨bb, off + i, none⟩ = some (.slice (s i) (n i) (c i)) ∧ CRow w B (s i) (n i) (f i)
theorem CCRows.late {w W : World} {sa : Option Addr} {k : Nat} {s : Nat → Option Addr} {n c : Nat → Nat} {f : Nat → Nat → Cel} (h : CCRows w w.heap.size sa k s n c f) (hb : Below w.heap.size w W) : CCRows W W.heap.size sa k s n c f := by
  rcases h with h | ⟨bb, off, h1, h2, h3⟩
  · exact Or.inl h
  · exact Or.inr ⟨bb, off, h1, Nat.lt_of_lt_of_le h2 hb.size, fun i hi => ⟨by rw [hb.cell (p := ⟨bb, off + i, none⟩) h2]; exact (h3 i hi).1, ((h3 i hi).2.kept hb).up hb.size⟩⟩
/-- One of its slices. -/
theorem CCRows.at {w : World} {B : Nat} {sa : Option Addr} {k i : Nat} {s : Nat → Option Addr} {n c : Nat → Nat} {f : Nat → Nat → Cel} (h : CCRows w B sa k s n c f) (hi : i < k) : ∃ bb off : Nat, sa = some ⟨bb, off, none⟩ ∧ bb < B ∧ w.cell? ⟨bb, off + i, none⟩ = some (.slice (s i) (n i) (c i)) ∧ CRow w B (s i) (n i) (f i) := by
  rcases h with h | ⟨bb, off, h1, h2, h3⟩
  · omega
  · exact ⟨bb, off, h1, h2, h3 i hi⟩
end Go.Proofs.Ytbdjjggaahjjpaa
