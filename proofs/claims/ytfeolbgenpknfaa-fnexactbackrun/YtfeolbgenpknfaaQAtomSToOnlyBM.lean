/- What is said here: rows of atoms in a stretch of blocks; how calls leave them.
   What is said here: blocks of a stretch turned, none besides. -/
import Derived.Test.YtfeolbgenpknfaaQAtomD
namespace Go.Proofs.Ytfeolbgenpknfaa
open Go.RowKit

/-- Some block of a stretch turned, no other. -/
def OnlyA (W W' : World) (lo hi : Nat) : Prop := ∃ row : Option Nat, W.grownBy W' row ∧ ∀ g, row = some g → lo ≤ g ∧ g < hi
theorem OnlyA.below {W W' : World} {lo hi B : Nat} (h : OnlyA W W' lo hi) (hB : B ≤ lo) (hs : B ≤ W.heap.size) : Below B W W' := by
  obtain ⟨row, hg, hr⟩ := h
  exact ⟨hg.os, hg.tape, hg.output, hg.size, fun k hk => hg.block k (by omega) (fun e => by have := hr k e.symm; omega)⟩
theorem OnlyA.size {W W' : World} {lo hi : Nat} (h : OnlyA W W' lo hi) : W.heap.size ≤ W'.heap.size := by
  obtain ⟨row, hg, hr⟩ := h
  exact hg.size
/-- A row of atoms in a stretch of blocks. -/
def ASl (W : World) (lo hi : Nat) (sa : Option Addr) (n : Nat) (f : Nat → Atm) : Prop := n = 0 ∨ ∃ g, sa = some ⟨g, 0, none⟩ ∧ lo ≤ g ∧ g < hi ∧ AOwn W g n f
theorem ASl.row {W : World} {lo hi n : Nat} {sa : Option Addr} {f : Nat → Atm} (h : ASl W lo hi sa n f) : ARow W W.heap.size sa n f := by
  rcases h with h | ⟨g, rfl, _, _, h3⟩
  · exact Or.inl h
  · exact h3.row h3.lt
theorem ASl.kept {W W' : World} {lo hi n : Nat} {sa : Option Addr} {f : Nat → Atm} (h : ASl W lo hi sa n f) (hb : Below W.heap.size W W') : ASl W' lo hi sa n f := by
  rcases h with h | ⟨g, h1, h2, h4, h3⟩
  · exact Or.inl h
  · exact Or.inr ⟨g, h1, h2, h4, h3.kept hb h3.lt⟩
theorem AOwn.other {W W' : World} {g n : Nat} {row : Option Nat} {f : Nat → Atm} (h : AOwn W g n f) (hg : W.grownBy W' row) (hne : row ≠ some g) : AOwn W' g n f := by
  have hb := hg.block g h.lt (fun e => hne e.symm)
  refine ⟨Nat.lt_of_lt_of_le h.lt hg.size, fun i hi => ⟨?_, ?_, ?_⟩, fun i hi => ?_⟩
  · have := (h.at' i hi).c0
    simpa [World.cell?, hb] using this
  · have := (h.at' i hi).c1
    simpa [World.cell?, hb] using this
  · have := (h.at' i hi).c2
    simpa [World.cell?, hb] using this
  · have := h.free i hi
    simpa [World.frozen?, hb] using this
theorem ASl.only {W W' : World} {lo hi lo' hi' n : Nat} {sa : Option Addr} {f : Nat → Atm} (h : ASl W lo hi sa n f) (ho : OnlyA W W' lo' hi') (hd : hi ≤ lo' ∨ hi' ≤ lo) : ASl W' lo hi sa n f := by
  rcases h with h | ⟨g, h1, h2, h4, h3⟩
  · exact Or.inl h
  · obtain ⟨row, hg, hr⟩ := ho
    exact Or.inr ⟨g, h1, h2, h4, h3.other hg (fun e => by have := hr g e; omega)⟩
/-- A slice of atoms in new memory. -/
def NewAtoms (w : World) (n : Nat) (f : Nat → Atm) (e : Ending) (w' : World) : Prop := ∃ (sa : Option Addr) (cap : Nat), e = .returned (.slice sa n cap) ∧ Below w.heap.size w w' ∧ ASl w' w.heap.size w'.heap.size sa n f
theorem grown_of_below {w w' : World} {row : Option Nat} (h : Below w.heap.size w w') : w.grownBy w' row := ⟨h.os, h.tape, h.output, h.size, fun k hk _ => h.block k hk⟩
end Go.Proofs.Ytfeolbgenpknfaa
namespace Go.Proofs.Ytfeolbgenpknfaa
open Go.RowKit

/-- Blocks from lo on and below hi may have turned, none besides; new ones may have come. -/
structure OnlyB (W W' : World) (lo hi : Nat) : Prop where
  os : W'.os = W.os
  tape : W'.tape = W.tape
  output : W'.output = W.output
  size : W.heap.size ≤ W'.heap.size
  block : ∀ k, k < W.heap.size → (k < lo ∨ hi ≤ k) → W'.heap[k]? = W.heap[k]?
theorem OnlyB.refl (W : World) (lo hi : Nat) : OnlyB W W lo hi := ⟨rfl, rfl, rfl, Nat.le_refl _, fun _ _ _ => rfl⟩
theorem OnlyB.trans {W W1 W2 : World} {lo hi : Nat} (h : OnlyB W W1 lo hi) (h' : OnlyB W1 W2 lo hi) : OnlyB W W2 lo hi :=
  ⟨h'.os.trans h.os, h'.tape.trans h.tape, h'.output.trans h.output, Nat.le_trans h.size h'.size, fun k hk hd => (h'.block k (Nat.lt_of_lt_of_le hk h.size) hd).trans (h.block k hk hd)⟩
theorem OnlyA.wideB {W W' : World} {lo hi lo' hi' : Nat} (h : OnlyA W W' lo hi) (hl : lo' ≤ lo) (hh : hi ≤ hi') : OnlyB W W' lo' hi' := by
  obtain ⟨row, hg, hr⟩ := h
  exact ⟨hg.os, hg.tape, hg.output, hg.size, fun k hk hd => hg.block k hk (fun e => by have := hr k e.symm; omega)⟩
theorem OnlyB.below {W W' : World} {lo hi B : Nat} (h : OnlyB W W' lo hi) (hB : B ≤ lo) (hs : B ≤ W.heap.size) : Below B W W' :=
  ⟨h.os, h.tape, h.output, h.size, fun k hk => h.block k (by omega) (Or.inl (by omega))⟩
end Go.Proofs.Ytfeolbgenpknfaa
