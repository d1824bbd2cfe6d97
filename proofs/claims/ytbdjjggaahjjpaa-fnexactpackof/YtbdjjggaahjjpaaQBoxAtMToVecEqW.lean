/- What is said here: a box and its cells, whatever they are.
   What is proved here: the laws' comparison of vectors: what it hands back and what it leaves as it was. -/
import Derived.Test.YtbdjjggaahjjpaaQMaskD
import Derived.Test.YtbdjjggaahjjpaaQVecD
import Derived.Test.YtbdjjggaahjjpaaQRowsEqWToRowsW
namespace Go.Proofs.Ytbdjjggaahjjpaa
open Go.RowKit

/-- A box with these cells. -/
def BoxAt (W : World) (p : Nat) (arr : Array Value) (t : TypeId) : Prop := W.heap[p]? = some (.cells arr t (0, 0))
theorem BoxAt.lt {W : World} {p : Nat} {arr : Array Value} {t : TypeId} (h : BoxAt W p arr t) : p < W.heap.size := lt_of_block h
theorem BoxAt.cell {W : World} {p : Nat} {arr : Array Value} {t : TypeId} (h : BoxAt W p arr t) (i : Nat) (v : Value) (hv : arr[i]? = some v) : W.cell? ⟨p, i, none⟩ = some v := by
  unfold BoxAt at h
  simp [World.cell?, h, hv]
theorem BoxAt.free {W : World} {p : Nat} {arr : Array Value} {t : TypeId} (h : BoxAt W p arr t) (i : Nat) : W.frozen? ⟨p, i, none⟩ = false := frozen_of_row _ _ _ _ _ h
theorem BoxAt.kept {W W' : World} {p : Nat} {arr : Array Value} {t : TypeId} (h : BoxAt W p arr t) (hb : Below W.heap.size W W') : BoxAt W' p arr t := by
  unfold BoxAt
  rw [hb.block p h.lt]
  exact h
theorem BoxAt.onlyM {W W' : World} {lo hi p : Nat} {arr : Array Value} {t : TypeId} (h : BoxAt W p arr t) (ho : OnlyM W W' lo hi) (hp : p < lo ∨ hi ≤ p) : BoxAt W' p arr t := by
  unfold BoxAt
  rw [ho.block p h.lt hp]
  exact h
theorem BoxAt.drew {W : World} {p : Nat} {arr : Array Value} {t : TypeId} (h : BoxAt W p arr t) : BoxAt W.drew p arr t := h
theorem boxAt_new (W : World) (arr : Array Value) (t : TypeId) : Below W.heap.size W (W.alloc (.cells arr t)) ∧ BoxAt (W.alloc (.cells arr t)) W.heap.size arr t ∧ (W.alloc (.cells arr t)).heap.size = W.heap.size + 1 := ⟨(Below.refl _ _).alloc (Nat.le_refl _) _, heap_alloc_new W _, by simp⟩
end Go.Proofs.Ytbdjjggaahjjpaa
namespace Go.Proofs.Ytbdjjggaahjjpaa
open Go.RowKit

set_option maxHeartbeats 1000000 in
theorem eqVec_same (b : Int) (sa sb : Option Addr) (n ca cb : Nat) (f : Nat → Int) (w : World) (hn : n ≤ 1048576) (ha : Row w w.heap.size sa n f) (hb : Row w w.heap.size sb n f) :
    Calls Try.prog 29 #[.agg #[.int .i64 b, .slice sa n ca], .agg #[.int .i64 b, .slice sb n cb]] w fun e w' => e = .returned (.bool true) ∧ Below w.heap.size w w' := by
  have HA : Hid (Row w w.heap.size sa n f) := ha
  have HB : Hid (Row w w.heap.size sb n f) := hb
  clear ha hb
  have hb0 : Below w.heap.size w ((w.alloc (.cells #[.int .i64 b, .slice sa n ca] 36)).alloc (.cells #[.int .i64 b, .slice sb n cb] 36)) :=
    ((Below.refl _ _).alloc (Nat.le_refl _) _).alloc (by simp) _
  have HB0 : Hid (Below w.heap.size w ((w.alloc (.cells #[.int .i64 b, .slice sa n ca] 36)).alloc (.cells #[.int .i64 b, .slice sb n cb] 36))) := hb0
  clear hb0
  go_enter Try.func29, Try.ntmps29
  go_wp2_with fail
  refine (eqRow_same sa sb n ca cb f _ hn ((HA.out.kept HB0.out).up HB0.out.size) ((HB.out.kept HB0.out).up HB0.out.size)).mono ?_
  rintro e w1 ⟨rfl, hb1⟩
  have HB1 : Hid (Below w.heap.size w w1) := HB0.out.trans (hb1.mono HB0.out.size)
  clear hb1 HB0
  go_wp2
  go_ret
  exact ⟨rfl, HB1.out⟩
end Go.Proofs.Ytbdjjggaahjjpaa
