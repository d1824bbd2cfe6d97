/- What is proved here: what a law over vectors keeps in view while it goes on: vectors that lie in a box of their own, their words in rows of a stretch of blocks; how calls leave them. -/
import Derived.Test.YtbdjjggaahjjpaaQVecD
namespace Go.Proofs.Ytbdjjggaahjjpaa
open Go.RowKit

/-- A vector lies in a block. -/
def Boxed (W : World) (p : Nat) (t : TypeId) (b : Int) (sa : Option Addr) (n cap : Nat) : Prop := W.heap[p]? = some (.cells #[.int .i64 b, .slice sa n cap] t (0, 0))
theorem Boxed.cells {W : World} {p : Nat} {t : TypeId} {b : Int} {sa : Option Addr} {n cap : Nat} (h : Boxed W p t b sa n cap) : W.cell? ⟨p, 0, none⟩ = some (.int .i64 b) ∧ W.cell? ⟨p, 1, none⟩ = some (.slice sa n cap) := by
  unfold Boxed at h
  exact ⟨by simp [World.cell?, h], by simp [World.cell?, h]⟩
theorem Boxed.lt {W : World} {p : Nat} {t : TypeId} {b : Int} {sa : Option Addr} {n cap : Nat} (h : Boxed W p t b sa n cap) : p < W.heap.size := lt_of_block h
theorem Boxed.kept {W W' : World} {B p : Nat} {t : TypeId} {b : Int} {sa : Option Addr} {n cap : Nat} (h : Boxed W p t b sa n cap) (hb : Below B W W') (hB : B = W.heap.size) : Boxed W' p t b sa n cap := by
  unfold Boxed
  rw [hb.block p (by rw [hB]; exact h.lt)]
  exact h
/-- Some block of a stretch turned, no other. -/
def OnlyIn (W W' : World) (lo hi : Nat) : Prop := ∃ row : Option Nat, W.grownBy W' row ∧ ∀ g, row = some g → lo ≤ g ∧ g < hi
theorem Boxed.only {W W' : World} {lo hi p : Nat} {t : TypeId} {b : Int} {sa : Option Addr} {n cap : Nat} (h : Boxed W p t b sa n cap) (ho : OnlyIn W W' lo hi) (hp : p < lo ∨ hi ≤ p) : Boxed W' p t b sa n cap := by
  obtain ⟨row, hg, hr⟩ := ho
  unfold Boxed
  rw [hg.block p h.lt (fun e => by have := hr p e.symm; omega)]
  exact h
theorem OnlyIn.below {W W' : World} {lo hi B : Nat} (h : OnlyIn W W' lo hi) (hB : B ≤ lo) (hs : B ≤ W.heap.size) : Below B W W' := by
  obtain ⟨row, hg, hr⟩ := h
  exact ⟨hg.os, hg.tape, hg.output, hg.size, fun k hk => hg.block k (by omega) (fun e => by have := hr k e.symm; omega)⟩
theorem OnlyIn.size {W W' : World} {lo hi : Nat} (h : OnlyIn W W' lo hi) : W.heap.size ≤ W'.heap.size := by
  obtain ⟨row, hg, hr⟩ := h
  exact hg.size
/-- A row in a stretch of blocks. -/
def Slice (W : World) (lo hi : Nat) (sa : Option Addr) (n : Nat) (f : Nat → Int) : Prop := n = 0 ∨ ∃ g, sa = some ⟨g, 0, none⟩ ∧ lo ≤ g ∧ g < hi ∧ Own W g n f
theorem OwnS.slice {W : World} {lo n : Nat} {sa : Option Addr} {f : Nat → Int} (h : OwnS W lo sa n f) : Slice W lo W.heap.size sa n f := by
  rcases h with h | ⟨g, h1, h2, h3⟩
  · exact Or.inl h
  · exact Or.inr ⟨g, h1, h2, h3.1, h3⟩
theorem Slice.own {W : World} {lo hi n : Nat} {sa : Option Addr} {f : Nat → Int} (h : Slice W lo hi sa n f) : OwnS W lo sa n f := by
  rcases h with h | ⟨g, h1, h2, _, h3⟩
  · exact Or.inl h
  · exact Or.inr ⟨g, h1, h2, h3⟩
theorem Slice.row {W : World} {lo hi n : Nat} {sa : Option Addr} {f : Nat → Int} (h : Slice W lo hi sa n f) : Row W W.heap.size sa n f := h.own.row
theorem Slice.kept {W W' : World} {B lo hi n : Nat} {sa : Option Addr} {f : Nat → Int} (h : Slice W lo hi sa n f) (hb : Below B W W') (hB : B = W.heap.size) : Slice W' lo hi sa n f := by
  rcases h with h | ⟨g, h1, h2, h4, h3⟩
  · exact Or.inl h
  · exact Or.inr ⟨g, h1, h2, h4, h3.kept hb (by rw [hB]; exact h3.1)⟩
theorem Slice.only {W W' : World} {lo hi lo' hi' n : Nat} {sa : Option Addr} {f : Nat → Int} (h : Slice W lo hi sa n f) (ho : OnlyIn W W' lo' hi') (hd : hi ≤ lo' ∨ hi' ≤ lo) : Slice W' lo hi sa n f := by
  rcases h with h | ⟨g, h1, h2, h4, h3⟩
  · exact Or.inl h
  · obtain ⟨row, hg, hr⟩ := ho
    refine Or.inr ⟨g, h1, h2, h4, ?_⟩
    have hb := hg.block g h3.1 (fun e => by have := hr g e.symm; omega)
    refine ⟨Nat.lt_of_lt_of_le h3.1 hg.size, fun i hi => ?_, fun i hi => ?_⟩
    · have := h3.2.1 i hi
      simpa [World.cell?, hb] using this
    · have := h3.2.2 i hi
      simpa [World.frozen?, hb] using this
/-- A vector is put into a box. -/
theorem boxing (W : World) (t : TypeId) (b : Int) (sa : Option Addr) (n cap : Nat) : Below W.heap.size W (W.alloc (.cells #[.int .i64 b, .slice sa n cap] t)) ∧ Boxed (W.alloc (.cells #[.int .i64 b, .slice sa n cap] t)) W.heap.size t b sa n cap ∧ (W.alloc (.cells #[.int .i64 b, .slice sa n cap] t)).heap.size = W.heap.size + 1 :=
  ⟨(Below.refl _ _).alloc (Nat.le_refl _) _, heap_alloc_new W _, by simp⟩
/-- A later world: what was there is as it was. -/
structure Since (w W : World) : Prop where
  below : Below w.heap.size w W
theorem since_refl (w : World) : Since w w := ⟨Below.refl _ _⟩
theorem since_alloc {w W : World} {o : Obj} (h : Since w W) : Since w (W.alloc o) := ⟨h.below.alloc h.below.size _⟩
theorem since_call {w W W' : World} (h : Since w W) (hb : Below W.heap.size W W') : Since w W' := ⟨h.below.trans (hb.mono h.below.size)⟩
theorem since_drew {w W : World} (h : Since w W) : Since w W.drew := ⟨h.below.drew⟩
theorem since_set {w W : World} {p : Addr} {v : Value} (h : Since w W) (hp : w.heap.size ≤ p.block) : Since w (W.setCell p v) := ⟨h.below.setCell hp _⟩
theorem Since.size {w W : World} (h : Since w W) : w.heap.size ≤ W.heap.size := h.below.size
theorem row_since {w W : World} {n : Nat} {sa : Option Addr} {f : Nat → Int} (h : Row w w.heap.size sa n f) (hs : Since w W) : Row W W.heap.size sa n f := (h.kept hs.below).up hs.below.size
theorem ownS_since {w W : World} {lo n : Nat} {sa : Option Addr} {f : Nat → Int} (h : OwnS w lo sa n f) (hs : Since w W) : Row W W.heap.size sa n f := row_since h.row hs
theorem Boxed.since {w W : World} {p : Nat} {t : TypeId} {b : Int} {sa : Option Addr} {n cap : Nat} (h : Boxed w p t b sa n cap) (hs : Since w W) : Boxed W p t b sa n cap := h.kept hs.below rfl
theorem Boxed.four {W : World} {p : Nat} {t : TypeId} {b : Int} {sa : Option Addr} {n cap : Nat} (h : Boxed W p t b sa n cap) : W.cell? ⟨p, 0, none⟩ = some (.int .i64 b) ∧ W.cell? ⟨p, 1, none⟩ = some (.slice sa n cap) ∧ W.frozen? ⟨p, 0, none⟩ = false ∧ W.frozen? ⟨p, 1, none⟩ = false :=
  ⟨h.cells.1, h.cells.2, frozen_of_row _ _ _ _ _ h, frozen_of_row _ _ _ _ _ h⟩
/-- What a statement 'x := f(..)' over vectors leaves: x's box, its words. -/
def CutP (w : World) (t : TypeId) (ro : Int) (rn : Nat) (rf : Nat → Int) (pv : Value) (wc : World) : Prop :=
  ∃ (p : Nat) (sx : Option Addr) (cx : Nat), pv = .pointer (some ⟨p, 0, none⟩) ∧ Since w wc ∧ w.heap.size ≤ p ∧ p < wc.heap.size ∧ Boxed wc p t ro sx rn cx ∧ Slice wc w.heap.size wc.heap.size sx rn rf
theorem cut_late {w W : World} {t : TypeId} {ro : Int} {rn lo : Nat} {rf : Nat → Int} {sx : Option Addr} {cx : Nat} (hS : Since w W) (hlo : w.heap.size ≤ lo) (ho : OwnS W lo sx rn rf) :
    CutP w t ro rn rf (.pointer (some ⟨W.heap.size, 0, none⟩)) (W.alloc (.cells #[.int .i64 ro, .slice sx rn cx] t)) := by
  have hb := boxing W t ro sx rn cx
  refine ⟨_, sx, cx, rfl, since_alloc hS, hS.size, by rw [hb.2.2]; omega, hb.2.1, ?_⟩
  have hk := (ho.low hlo).kept hb.1 rfl
  exact hk.slice
theorem cut_early {w W : World} {t : TypeId} {ro : Int} {rn lo p : Nat} {rf : Nat → Int} {sx : Option Addr} {cx : Nat} (hS : Since w W) (hx : Boxed W p t 0 none 0 0) (hp : w.heap.size ≤ p) (hlt : p < lo) (ho : OwnS W lo sx rn rf) :
    CutP w t ro rn rf (.pointer (some ⟨p, 0, none⟩)) ((W.setCell ⟨p, 0, none⟩ (.int .i64 ro)).setCell ⟨p, 1, none⟩ (.slice sx rn cx)) := by
  refine ⟨p, sx, cx, rfl, since_set (since_set hS hp) hp, hp, by simpa [World.setCell] using hx.lt, ?_, ?_⟩
  · unfold Boxed at hx ⊢
    have h1 := heap_setCell_same W p 0 _ _ (.int .i64 ro) hx
    have h2 := heap_setCell_same _ p 1 _ _ (.slice sx rn cx) h1
    rw [h2]
    rfl
  · rcases ho with h | ⟨g, h1, h2, h3⟩
    · exact Or.inl h
    · have h4 := (h3.setOther ⟨p, 0, none⟩ (.int .i64 ro) (by show p ≠ g; omega)).setOther ⟨p, 1, none⟩ (.slice sx rn cx) (by show p ≠ g; omega)
      exact Or.inr ⟨g, h1, by omega, h4.1, h4⟩
theorem Boxed.setOther {W : World} {p : Nat} {t : TypeId} {b : Int} {sa : Option Addr} {n cap : Nat} (h : Boxed W p t b sa n cap) (a : Addr) (v : Value) (hne : a.block ≠ p) : Boxed (W.setCell a v) p t b sa n cap := by
  unfold Boxed
  rw [Below.heap_setCell _ _ _ _ (fun e => hne e.symm)]
  exact h
theorem Boxed.drew {W : World} {p : Nat} {t : TypeId} {b : Int} {sa : Option Addr} {n cap : Nat} (h : Boxed W p t b sa n cap) : Boxed W.drew p t b sa n cap := h
end Go.Proofs.Ytbdjjggaahjjpaa
