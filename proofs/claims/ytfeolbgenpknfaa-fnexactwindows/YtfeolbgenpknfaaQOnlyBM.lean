/- What is said here: blocks of a stretch turned, none besides. -/
import Derived.Test.YtfeolbgenpknfaaQAtomS
namespace Go.Proofs.Ytfeolbgenpknfaa
open Go.RowKit

/-- Blocks from lo on and below hi may have turned, none besides; new ones may have come. -/
structure OnlyB (W W' : World) (lo hi : Nat) : Prop where
  os : W'.os = W.os
  tape : W'.tape = W.tape
  output : W'.output = W.output
  size : W.heap.size ≤ W'.heap.size
  block : ∀ k, k < W.heap.size → (k < lo ∨ hi ≤ k) → W'.heap[k]? = W.heap[k]?
theorem OnlyB.refl (W : World) (lo hi : Nat) : OnlyB W W lo hi := ⟨rfl, rfl, rfl, Nat.le_refl _, fun _ _ _ => rfl⟩
theorem OnlyB.trans {W W1 W2 : World} {lo hi : Nat} (h : OnlyB W W1 lo hi) (h' : OnlyB W1 W2 lo hi) : OnlyB W W2 lo hi :=
  ⟨h'.os.trans h.os, h'.tape.trans h.tape, h'.output.trans h.output, Nat.le_trans h.size h'.size, fun k hk hd => (h'.block k (Nat.lt_of_lt_of_le hk h.size) hd).trans (h.block k hk hd)⟩
theorem OnlyA.wideB {W W' : World} {lo hi lo' hi' : Nat} (h : OnlyA W W' lo hi) (hl : lo' ≤ lo) (hh : hi ≤ hi') : OnlyB W W' lo' hi' := by
  obtain ⟨row, hg, hr⟩ := h
  exact ⟨hg.os, hg.tape, hg.output, hg.size, fun k hk hd => hg.block k hk (fun e => by have := hr k e.symm; omega)⟩
theorem OnlyB.below {W W' : World} {lo hi B : Nat} (h : OnlyB W W' lo hi) (hB : B ≤ lo) (hs : B ≤ W.heap.size) : Below B W W' :=
  ⟨h.os, h.tape, h.output, h.size, fun k hk => h.block k (by omega) (Or.inl (by omega))⟩
end Go.Proofs.Ytfeolbgenpknfaa
