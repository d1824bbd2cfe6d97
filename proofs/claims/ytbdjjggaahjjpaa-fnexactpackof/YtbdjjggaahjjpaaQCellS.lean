/- What is said here: rows of cells in a stretch of blocks; how calls leave them. -/
import Derived.Test.YtbdjjggaahjjpaaQCellD
namespace Go.Proofs.Ytbdjjggaahjjpaa
open Go.RowKit

/-- Some block of a stretch turned, no other. -/
def OnlyC (W W' : World) (lo hi : Nat) : Prop := ∃ row : Option Nat, W.grownBy W' row ∧ ∀ g, row = some g → lo ≤ g ∧ g < hi
theorem OnlyC.below {W W' : World} {lo hi B : Nat} (h : OnlyC W W' lo hi) (hB : B ≤ lo) (hs : B ≤ W.heap.size) : Below B W W' := by
  obtain ⟨row, hg, hr⟩ := h
  exact ⟨hg.os, hg.tape, hg.output, hg.size, fun k hk => hg.block k (by omega) (fun e => by have := hr k e.symm; omega)⟩
theorem OnlyC.size {W W' : World} {lo hi : Nat} (h : OnlyC W W' lo hi) : W.heap.size ≤ W'.heap.size := by
  obtain ⟨row, hg, hr⟩ := h
  exact hg.size
/-- A row of cells in a stretch of blocks. -/
def CSl (W : World) (lo hi : Nat) (sa : Option Addr) (n : Nat) (f : Nat → Cel) : Prop := n = 0 ∨ ∃ g, sa = some ⟨g, 0, none⟩ ∧ lo ≤ g ∧ g < hi ∧ COwn W g n f
theorem CSl.row {W : World} {lo hi n : Nat} {sa : Option Addr} {f : Nat → Cel} (h : CSl W lo hi sa n f) : CRow W W.heap.size sa n f := by
  rcases h with h | ⟨g, rfl, _, _, h3⟩
  · exact Or.inl h
  · exact h3.row h3.lt
theorem CSl.kept {W W' : World} {lo hi n : Nat} {sa : Option Addr} {f : Nat → Cel} (h : CSl W lo hi sa n f) (hb : Below W.heap.size W W') : CSl W' lo hi sa n f := by
  rcases h with h | ⟨g, h1, h2, h4, h3⟩
  · exact Or.inl h
  · exact Or.inr ⟨g, h1, h2, h4, h3.kept hb h3.lt⟩
theorem COwn.other {W W' : World} {g n : Nat} {row : Option Nat} {f : Nat → Cel} (h : COwn W g n f) (hg : W.grownBy W' row) (hne : row ≠ some g) : COwn W' g n f := by
  have hb := hg.block g h.lt (fun e => hne e.symm)
  refine ⟨Nat.lt_of_lt_of_le h.lt hg.size, fun i hi => ⟨?_, ?_, ?_⟩, fun i hi => ?_⟩
  · have := (h.at' i hi).c0
    simpa [World.cell?, hb] using this
  · have := (h.at' i hi).c1
    simpa [World.cell?, hb] using this
  · have := (h.at' i hi).c2
    simpa [World.cell?, hb] using this
  · have := h.free i hi
    simpa [World.frozen?, hb] using this
theorem CSl.only {W W' : World} {lo hi lo' hi' n : Nat} {sa : Option Addr} {f : Nat → Cel} (h : CSl W lo hi sa n f) (ho : OnlyC W W' lo' hi') (hd : hi ≤ lo' ∨ hi' ≤ lo) : CSl W' lo hi sa n f := by
  rcases h with h | ⟨g, h1, h2, h4, h3⟩
  · exact Or.inl h
  · obtain ⟨row, hg, hr⟩ := ho
    exact Or.inr ⟨g, h1, h2, h4, h3.other hg (fun e => by have := hr g e; omega)⟩
/-- A slice of cells in new memory. -/
def NewCells (w : World) (n : Nat) (f : Nat → Cel) (e : Ending) (w' : World) : Prop := ∃ (sa : Option Addr) (cap : Nat), e = .returned (.slice sa n cap) ∧ Below w.heap.size w w' ∧ CSl w' w.heap.size w'.heap.size sa n f
theorem grown_of_belowC {w w' : World} {row : Option Nat} (h : Below w.heap.size w w') : w.grownBy w' row := ⟨h.os, h.tape, h.output, h.size, fun k hk _ => h.block k hk⟩
end Go.Proofs.Ytbdjjggaahjjpaa
