/- What is said here: a box and its cells, whatever they are. -/
import Derived.Test.YtbdjjggaahjjpaaQMaskD
namespace Go.Proofs.Ytbdjjggaahjjpaa
open Go.RowKit

/-- A box with these cells. -/
def BoxAt (W : World) (p : Nat) (arr : Array Value) (t : TypeId) : Prop := W.heap[p]? = some (.cells arr t (0, 0))
theorem BoxAt.lt {W : World} {p : Nat} {arr : Array Value} {t : TypeId} (h : BoxAt W p arr t) : p < W.heap.size := lt_of_block h
theorem BoxAt.cell {W : World} {p : Nat} {arr : Array Value} {t : TypeId} (h : BoxAt W p arr t) (i : Nat) (v : Value) (hv : arr[i]? = some v) : W.cell? ⟨p, i, none⟩ = some v := by
  unfold BoxAt at h
  simp [World.cell?, h, hv]
theorem BoxAt.free {W : World} {p : Nat} {arr : Array Value} {t : TypeId} (h : BoxAt W p arr t) (i : Nat) : W.frozen? ⟨p, i, none⟩ = false := frozen_of_row _ _ _ _ _ h
theorem BoxAt.kept {W W' : World} {p : Nat} {arr : Array Value} {t : TypeId} (h : BoxAt W p arr t) (hb : Below W.heap.size W W') : BoxAt W' p arr t := by
  unfold BoxAt
  rw [hb.block p h.lt]
  exact h
theorem BoxAt.onlyM {W W' : World} {lo hi p : Nat} {arr : Array Value} {t : TypeId} (h : BoxAt W p arr t) (ho : OnlyM W W' lo hi) (hp : p < lo ∨ hi ≤ p) : BoxAt W' p arr t := by
  unfold BoxAt
  rw [ho.block p h.lt hp]
  exact h
theorem BoxAt.drew {W : World} {p : Nat} {arr : Array Value} {t : TypeId} (h : BoxAt W p arr t) : BoxAt W.drew p arr t := h
theorem boxAt_new (W : World) (arr : Array Value) (t : TypeId) : Below W.heap.size W (W.alloc (.cells arr t)) ∧ BoxAt (W.alloc (.cells arr t)) W.heap.size arr t ∧ (W.alloc (.cells arr t)).heap.size = W.heap.size + 1 := ⟨(Below.refl _ _).alloc (Nat.le_refl _) _, heap_alloc_new W _, by simp⟩
end Go.Proofs.Ytbdjjggaahjjpaa
