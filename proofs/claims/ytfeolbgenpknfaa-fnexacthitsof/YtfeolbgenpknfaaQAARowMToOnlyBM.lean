/- What is said here: a slice of slices of atoms that is read.
   What is said here: blocks of a stretch turned, none besides. -/
import Derived.Test.YtfeolbgenpknfaaQAtomD
import Derived.Test.YtfeolbgenpknfaaQAtomSToMarkTextW
namespace Go.Proofs.Ytfeolbgenpknfaa
open Go.RowKit

/-- A slice of slices of atoms. -/
def AARows (w : World) (B : Nat) (sa : Option Addr) (k : Nat) (s : Nat → Option Addr) (n c : Nat → Nat) (f : Nat → Nat → Atm) : Prop := k = 0 ∨ ∃ bb off : Nat, sa = some ⟨bb, off, none⟩ ∧ bb < B ∧ ∀ i, i < k → w.cell? ⟨bb, off + i, none⟩ = some (.slice (s i) (n i) (c i)) ∧ ARow w B (s i) (n i) (f i)
theorem AARows.late {w W : World} {sa : Option Addr} {k : Nat} {s : Nat → Option Addr} {n c : Nat → Nat} {f : Nat → Nat → Atm} (h : AARows w w.heap.size sa k s n c f) (hb : Below w.heap.size w W) : AARows W W.heap.size sa k s n c f := by
  rcases h with h | ⟨bb, off, h1, h2, h3⟩
  · exact Or.inl h
  · exact Or.inr ⟨bb, off, h1, Nat.lt_of_lt_of_le h2 hb.size, fun i hi => ⟨by rw [hb.cell (p := ⟨bb, off + i, none⟩) h2]; exact (h3 i hi).1, ((h3 i hi).2.kept hb).up hb.size⟩⟩
/-- One of its slices. -/
theorem AARows.at {w : World} {B : Nat} {sa : Option Addr} {k i : Nat} {s : Nat → Option Addr} {n c : Nat → Nat} {f : Nat → Nat → Atm} (h : AARows w B sa k s n c f) (hi : i < k) : ∃ bb off : Nat, sa = some ⟨bb, off, none⟩ ∧ bb < B ∧ w.cell? ⟨bb, off + i, none⟩ = some (.slice (s i) (n i) (c i)) ∧ ARow w B (s i) (n i) (f i) := by
  rcases h with h | ⟨bb, off, h1, h2, h3⟩
  · omega
  · exact ⟨bb, off, h1, h2, h3 i hi⟩
end Go.Proofs.Ytfeolbgenpknfaa
namespace Go.Proofs.Ytfeolbgenpknfaa
open Go.RowKit

/-- Blocks from lo on and below hi may have turned, none besides; new ones may have come. -/
structure OnlyB (W W' : World) (lo hi : Nat) : Prop where
  os : W'.os = W.os
  tape : W'.tape = W.tape
  output : W'.output = W.output
  size : W.heap.size ≤ W'.heap.size
  block : ∀ k, k < W.heap.size → (k < lo ∨ hi ≤ k) → W'.heap[k]? = W.heap[k]?
theorem OnlyB.refl (W : World) (lo hi : Nat) : OnlyB W W lo hi := ⟨rfl, rfl, rfl, Nat.le_refl _, fun _ _ _ => rfl⟩
theorem OnlyB.trans {W W1 W2 : World} {lo hi : Nat} (h : OnlyB W W1 lo hi) (h' : OnlyB W1 W2 lo hi) : OnlyB W W2 lo hi :=
  ⟨h'.os.trans h.os, h'.tape.trans h.tape, h'.output.trans h.output, Nat.le_trans h.size h'.size, fun k hk hd => (h'.block k (Nat.lt_of_lt_of_le hk h.size) hd).trans (h.block k hk hd)⟩
theorem OnlyA.wideB {W W' : World} {lo hi lo' hi' : Nat} (h : OnlyA W W' lo hi) (hl : lo' ≤ lo) (hh : hi ≤ hi') : OnlyB W W' lo' hi' := by
  obtain ⟨row, hg, hr⟩ := h
  exact ⟨hg.os, hg.tape, hg.output, hg.size, fun k hk hd => hg.block k hk (fun e => by have := hr k e.symm; omega)⟩
theorem OnlyB.below {W W' : World} {lo hi B : Nat} (h : OnlyB W W' lo hi) (hB : B ≤ lo) (hs : B ≤ W.heap.size) : Below B W W' :=
  ⟨h.os, h.tape, h.output, h.size, fun k hk => h.block k (by omega) (Or.inl (by omega))⟩
end Go.Proofs.Ytfeolbgenpknfaa
