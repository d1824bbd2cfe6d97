/- What is proved here: a set of bytes in a block of four words, and the set of the first bytes of a text. -/
import Derived.Test.YtbdjjggaahjjpaaQWithWToClassRightW
import Derived.Laws.Rows
namespace Go.Proofs.Ytbdjjggaahjjpaa
open Go.RowKit

/-- A set lies in a block. -/
def Box4 (W : World) (p : Nat) (f : Nat → Nat) : Prop := W.heap[p]? = some (.cells #[.int .u64 (f 0 : Nat), .int .u64 (f 1 : Nat), .int .u64 (f 2 : Nat), .int .u64 (f 3 : Nat)] 129 (0, 0))
theorem Box4.lt {W : World} {p : Nat} {f : Nat → Nat} (h : Box4 W p f) : p < W.heap.size := by
  unfold Box4 at h
  exact (Array.getElem?_eq_some_iff.1 h).1
theorem Box4.cells {W : World} {p : Nat} {f : Nat → Nat} (h : Box4 W p f) : W.cell? ⟨p, 0, none⟩ = some (.int .u64 (f 0 : Nat)) ∧ W.cell? ⟨p, 1, none⟩ = some (.int .u64 (f 1 : Nat)) ∧ W.cell? ⟨p, 2, none⟩ = some (.int .u64 (f 2 : Nat)) ∧ W.cell? ⟨p, 3, none⟩ = some (.int .u64 (f 3 : Nat)) := by
  unfold Box4 at h
  exact ⟨by simp [World.cell?, h], by simp [World.cell?, h], by simp [World.cell?, h], by simp [World.cell?, h]⟩
theorem Box4.frozen {W : World} {p : Nat} {f : Nat → Nat} (h : Box4 W p f) : W.frozen? ⟨p, 0, none⟩ = false ∧ W.frozen? ⟨p, 1, none⟩ = false ∧ W.frozen? ⟨p, 2, none⟩ = false ∧ W.frozen? ⟨p, 3, none⟩ = false := by
  unfold Box4 at h
  exact ⟨by simp [World.frozen?, h], by simp [World.frozen?, h], by simp [World.frozen?, h], by simp [World.frozen?, h]⟩
theorem Box4.at {W : World} {p k : Nat} {f : Nat → Nat} (h : Box4 W p f) (hk : k < 4) : W.cell? ⟨p, k, none⟩ = some (.int .u64 (f k : Nat)) := by
  obtain ⟨a, b, c, d⟩ := h.cells
  have h4 : k = 0 ∨ k = 1 ∨ k = 2 ∨ k = 3 := by omega
  rcases h4 with rfl | rfl | rfl | rfl
  · exact a
  · exact b
  · exact c
  · exact d
theorem Box4.frozenAt {W : World} {p : Nat} {f : Nat → Nat} (h : Box4 W p f) (k : Nat) : W.frozen? ⟨p, k, none⟩ = false := by
  unfold Box4 at h
  simp [World.frozen?, h]
theorem Box4.kept {W W' : World} {B p : Nat} {f : Nat → Nat} (h : Box4 W p f) (hb : Below B W W') (hB : p < B) : Box4 W' p f := by
  unfold Box4
  rw [hb.block p hB]
  exact h
theorem Box4.new (W : World) (f : Nat → Nat) : Box4 (W.alloc (.cells #[.int .u64 (f 0 : Nat), .int .u64 (f 1 : Nat), .int .u64 (f 2 : Nat), .int .u64 (f 3 : Nat)] 129)) W.heap.size f := heap_alloc_new W _
theorem Box4.other {W : World} {p : Nat} {f : Nat → Nat} (h : Box4 W p f) (a : Addr) (v : Value) (hne : a.block ≠ p) : Box4 (W.setCell a v) p f := by
  unfold Box4
  rw [Below.heap_setCell _ _ _ _ (fun e => hne e.symm)]
  exact h
theorem Box4.alloc {W : World} {p : Nat} {f : Nat → Nat} (h : Box4 W p f) (o : Obj) : Box4 (W.alloc o) p f :=
  h.kept ((Below.refl W.heap.size W).alloc (Nat.le_refl _) o) h.lt
theorem Box4.one {W : World} {p j : Nat} {f : Nat → Nat} (h : Box4 W p f) (hj : j < 4) (x : Nat) : Box4 (W.setCell ⟨p, j, none⟩ (.int .u64 (x : Int))) p (fun i => if i = j then x else f i) := by
  unfold Box4 at h ⊢
  rw [heap_setCell_same W p j _ _ (.int .u64 (x : Int)) h]
  have h4 : j = 0 ∨ j = 1 ∨ j = 2 ∨ j = 3 := by omega
  rcases h4 with rfl | rfl | rfl | rfl <;> rfl
theorem Box4.store {W : World} {p : Nat} {f : Nat → Nat} (h : Box4 W p f) (g : Nat → Nat) : Box4 ((((W.setCell ⟨p, 0, none⟩ (.int .u64 (g 0 : Nat))).setCell ⟨p, 1, none⟩ (.int .u64 (g 1 : Nat))).setCell ⟨p, 2, none⟩ (.int .u64 (g 2 : Nat))).setCell ⟨p, 3, none⟩ (.int .u64 (g 3 : Nat))) p g := by
  have h1 := (((h.one (j := 0) (by decide) (g 0)).one (j := 1) (by decide) (g 1)).one (j := 2) (by decide) (g 2)).one (j := 3) (by decide) (g 3)
  unfold Box4 at h1 ⊢
  rw [h1]
  rfl
theorem below_four {B : Nat} {w W : World} {p : Nat} {a b c d : Value} (h : Below B w W) (hp : B ≤ p) : Below B w ((((W.setCell ⟨p, 0, none⟩ a).setCell ⟨p, 1, none⟩ b).setCell ⟨p, 2, none⟩ c).setCell ⟨p, 3, none⟩ d) :=
  (((h.setCell (by exact hp) _).setCell (by exact hp) _).setCell (by exact hp) _).setCell (by exact hp) _
theorem Box4.others {W : World} {p q : Nat} {f : Nat → Nat} (h : Box4 W p f) (a b c d : Value) (hne : q ≠ p) : Box4 ((((W.setCell ⟨q, 0, none⟩ a).setCell ⟨q, 1, none⟩ b).setCell ⟨q, 2, none⟩ c).setCell ⟨q, 3, none⟩ d) p f :=
  (((h.other _ _ hne).other _ _ hne).other _ _ hne).other _ _ hne
theorem Box4.call {W W' : World} {n B p : Nat} {f : Nat → Nat} (h : Box4 W p f) (hb : Below B (W.drewN n) W') (hB : B = (W.drewN n).heap.size) : Box4 W' p f :=
  Box4.kept (W := W.drewN n) h hb (by rw [hB]; exact h.lt)
theorem below_call {w W W' : World} {n C : Nat} (h : Below w.heap.size w W) (hb : Below C (W.drewN n) W') (hC : C = (W.drewN n).heap.size) : Below w.heap.size w W' :=
  (below_drewC n h).trans (hb.mono (by rw [hC]; exact h.size))
theorem Box4.drew {W : World} {p : Nat} {f : Nat → Nat} (h : Box4 W p f) (n : Nat) : Box4 (W.drewN n) p f := h

/-- The set of a text's first k bytes. -/
def setTo (t : ByteArray) (k : Nat) : Nat → Nat := (t.data.toList.take k).foldl (fun f c => withB f c.toNat) (fun _ => 0)
theorem setTo_zero (t : ByteArray) : setTo t 0 = fun _ => 0 := by simp [setTo]
theorem setTo_succ (t : ByteArray) (k : Nat) (h : k < t.size) : setTo t (k + 1) = withB (setTo t k) t[k].toNat := by
  unfold setTo
  rw [List.take_succ_eq_append_getElem (by simpa using h), List.foldl_append]
  simp
  rfl
theorem setTo_set (t : ByteArray) : ∀ k, k ≤ t.size → Set4 (setTo t k)
  | 0, _ => by rw [setTo_zero]; intro j; show 0 < 18446744073709551616; decide
  | k + 1, h => by rw [setTo_succ t k (by omega)]; exact withB_set (setTo_set t k (by omega)) _
theorem inSet_to (t : ByteArray) (i : Nat) : ∀ k, k ≤ t.size → inSet (setTo t k) i = hasUpTo t k i
  | 0, _ => by rw [setTo_zero, hasUpTo_zero, inSet_zero]
  | k + 1, h => by rw [setTo_succ t k (by omega), inSet_with, hasUpTo_succ t k i (by omega), inSet_to t i k (by omega)]
/-- The set of a text. -/
def setOf (t : ByteArray) : Nat → Nat := setTo t t.size
theorem inSet_of (t : ByteArray) (i : Nat) : inSet (setOf t) i = hasByte t i := by
  unfold setOf
  rw [inSet_to t i _ (Nat.le_refl _), hasUpTo_all]
theorem setOf_set (t : ByteArray) : Set4 (setOf t) := setTo_set t _ (Nat.le_refl _)
end Go.Proofs.Ytbdjjggaahjjpaa
