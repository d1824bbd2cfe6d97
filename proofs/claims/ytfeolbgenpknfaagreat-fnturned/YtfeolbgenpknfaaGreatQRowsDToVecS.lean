/- What is proved here: slices of int64 in memory: rows that are read, rows that are owned, what turns in them.
   What is said here: vectors in memory: a vector in new memory, how what is owned stays.
   What is proved here: what a law over vectors keeps in view while it goes on: vectors that lie in a box of their own, their words in rows of a stretch of blocks; how calls leave them. -/
import Derived.Test.YtfeolbgenpknfaaGreatProg
import Derived.WalkKit
import Derived.WalkSpells
import Derived.RegionTactic
import Derived.BigRegion
import Derived.Deep.DeepCutAuto
import Derived.Laws.BytesArg
import Derived.Maps.AppendAt
namespace Go.Proofs.YtfeolbgenpknfaaGreat
open Go.RowKit

/-- The numbers of a slice lie in cells of a block below B. -/
def Row (w : World) (B : Nat) (sa : Option Addr) (n : Nat) (f : Nat → Int) : Prop :=
  n = 0 ∨ ∃ bb off : Nat, sa = some ⟨bb, off, none⟩ ∧ bb < B ∧ ∀ i, i < n → w.cell? ⟨bb, off + i, none⟩ = some (.int .i64 (f i))
/-- A row that may be written: its block, its numbers. -/
def Own (w : World) (g n : Nat) (f : Nat → Int) : Prop :=
  g < w.heap.size ∧ (∀ i, i < n → w.cell? ⟨g, i, none⟩ = some (.int .i64 (f i))) ∧ ∀ i, i < n → w.frozen? ⟨g, i, none⟩ = false
theorem Own.row {w : World} {g n B : Nat} {f : Nat → Int} (h : Own w g n f) (hB : g < B) : Row w B (some ⟨g, 0, none⟩) n f :=
  Or.inr ⟨g, 0, rfl, hB, fun i hi => by rw [Nat.zero_add]; exact h.2.1 i hi⟩
theorem Own.congr {w : World} {g n : Nat} {f f' : Nat → Int} (h : Own w g n f) (he : ∀ i, i < n → f i = f' i) : Own w g n f' :=
  ⟨h.1, fun i hi => by rw [← he i hi]; exact h.2.1 i hi, h.2.2⟩
theorem Row.congr {w : World} {B n : Nat} {sa : Option Addr} {f f' : Nat → Int} (h : Row w B sa n f) (he : ∀ i, i < n → f i = f' i) : Row w B sa n f' := by
  rcases h with h | ⟨bb, off, h1, h2, h3⟩
  · exact Or.inl h
  · exact Or.inr ⟨bb, off, h1, h2, fun i hi => by rw [← he i hi]; exact h3 i hi⟩
theorem Row.up {w : World} {B B' n : Nat} {sa : Option Addr} {f : Nat → Int} (h : Row w B sa n f) (hB : B ≤ B') : Row w B' sa n f := by
  rcases h with h | ⟨bb, off, h1, h2, h3⟩
  · exact Or.inl h
  · exact Or.inr ⟨bb, off, h1, by omega, h3⟩
theorem Row.kept {w w' : World} {B n : Nat} {sa : Option Addr} {f : Nat → Int} (h : Row w B sa n f) (hb : Below B w w') : Row w' B sa n f := by
  rcases h with h | ⟨bb, off, h1, h2, h3⟩
  · exact Or.inl h
  · exact Or.inr ⟨bb, off, h1, h2, fun i hi => by rw [hb.cell (p := ⟨bb, off + i, none⟩) h2]; exact h3 i hi⟩
theorem Own.kept {w w' : World} {B g n : Nat} {f : Nat → Int} (h : Own w g n f) (hb : Below B w w') (hg : g < B) : Own w' g n f :=
  ⟨Nat.lt_of_lt_of_le h.1 hb.size, fun i hi => by rw [hb.cell (p := ⟨g, i, none⟩) hg]; exact h.2.1 i hi, fun i hi => by rw [hb.frozen (p := ⟨g, i, none⟩) hg]; exact h.2.2 i hi⟩
theorem Own.set {w : World} {g n p : Nat} {f : Nat → Int} (h : Own w g n f) (hp : p < n) (v : Int) : Own (w.setCell ⟨g, p, none⟩ (.int .i64 v)) g n (fun i => if i = p then v else f i) := by
  refine ⟨by simpa [World.setCell] using h.1, fun i hi => ?_, fun i hi => ?_⟩
  · by_cases e : i = p
    · subst e
      rw [World.cell?_setCell_same _ _ _ (h.2.1 i hi)]
      simp
    · rw [World.cell?_setCell_other _ _ _ _ (fun hh => e (by injection hh with _ h2 _; exact h2.symm)), h.2.1 i hi]
      simp [e]
  · rw [World.frozen?_setCell]
    exact h.2.2 i hi
theorem Own.drew {w : World} {g n : Nat} {f : Nat → Int} (h : Own w g n f) : Own w.drew g n f := h
theorem Own.only {w w' : World} {g b n : Nat} {f : Nat → Int} (h : Own w g n f) (hg : w.grownBy w' (some b)) (hne : g ≠ b) : Own w' g n f := by
  have hb := hg.block g h.1 (fun e => hne (by injection e))
  refine ⟨Nat.lt_of_lt_of_le h.1 hg.size, fun i hi => ?_, fun i hi => ?_⟩
  · have := h.2.1 i hi
    simpa [World.cell?, hb] using this
  · have := h.2.2 i hi
    simpa [World.frozen?, hb] using this

theorem Tryz.numInfo : (Tryz.prog.info? 2).map (fun i => (i.zero, i.size, i.bytes)) = some (some (.int .i64 0), 1, 8) := by kernel_rfl
/-- A new slice of so many zeros. -/
theorem make_row (w : World) (N : Nat) (hN : N ≤ 10000000) : ∃ C : Array Value, (Instr.makeSlice 26 (.int .i64 (N : Int)) (.int .i64 (N : Int))).run Tryz.prog w = .ok (.slice (some ⟨w.heap.size, 0, none⟩) N N) (w.alloc (.cells C 2)) ∧ Own (w.alloc (.cells C 2)) w.heap.size N (fun _ => 0) := by
  obtain ⟨i0, hi, hz0, hz1, hz2⟩ := info_parts Tryz.numInfo
  refine ⟨madeCells (Value.int .i64 0).cells (N * 1), ?_, by simp, fun i hi => ?_, fun i hi => ?_⟩
  · have h := run_make (P := Tryz.prog) w 26 2 i0 (.int .i64 0) Tryz.underlying26 hi hz0 .i64 .i64 (N : Int) (N : Int) (by omega) (Int.le_refl _) (by rw [hz2]; omega) (by omega)
    rw [h, hz1]
    simp
  · rw [World.cell?_alloc_mark]
    simp [madeCells, Value.cells, Nat.mod_one, hi]
  · have h := heap_alloc_new w (.cells (madeCells (Value.int .i64 0).cells (N * 1)) 2)
    exact frozen_of_row _ _ _ _ _ h

/-- A slice that the call owns: empty, or a row of a block from lo on. -/
def OwnS (w : World) (lo : Nat) (sa : Option Addr) (n : Nat) (f : Nat → Int) : Prop := n = 0 ∨ ∃ g, sa = some ⟨g, 0, none⟩ ∧ lo ≤ g ∧ Own w g n f
/-- That slice's block alone turned. -/
def OnlyS (w w' : World) (sa : Option Addr) (n : Nat) : Prop := ∃ row : Option Nat, w.grownBy w' row ∧ ∀ g, row = some g → 0 < n ∧ sa = some ⟨g, 0, none⟩
theorem only_set {a w : World} {b i : Nat} {v : Value} (h : a.grownBy w (some b)) : a.grownBy (w.setCell ⟨b, i, none⟩ v) (some b) :=
  h.trans ⟨rfl, rfl, rfl, by simp [World.setCell], fun k _ hk => Below.heap_setCell _ _ _ _ (fun e => hk (by simp [e]))⟩
theorem only_drawn {a w : World} {b : Nat} (h : a.grownBy w (some b)) : a.grownBy w.drew (some b) := ⟨h.os, h.tape, h.output, h.size, h.block⟩
end Go.Proofs.YtfeolbgenpknfaaGreat
namespace Go.Proofs.YtfeolbgenpknfaaGreat
open Go.RowKit

/-- A vector's value. -/
def vecV (b : Int) (sa : Option Addr) (n cap : Nat) : Value := .agg #[.int .i64 b, .slice sa n cap]
/-- A vector in new memory. -/
def NewVec (w : World) (b : Int) (n : Nat) (f : Nat → Int) (e : Ending) (w' : World) : Prop :=
  ∃ (sa : Option Addr) (cap : Nat), e = .returned (vecV b sa n cap) ∧ Below w.heap.size w w' ∧ OwnS w' w.heap.size sa n f

theorem bcells {W w1 : World} (hb : Below W.heap.size W w1) : (∀ b o, b < W.heap.size → w1.cell? ⟨b, o, none⟩ = W.cell? ⟨b, o, none⟩) ∧ (∀ b o, b < W.heap.size → w1.frozen? ⟨b, o, none⟩ = W.frozen? ⟨b, o, none⟩) :=
  ⟨fun b o h => hb.cell (p := ⟨b, o, none⟩) h, fun b o h => hb.frozen (p := ⟨b, o, none⟩) h⟩
theorem Own.setOther {w : World} {g n : Nat} {f : Nat → Int} (h : Own w g n f) (p : Addr) (v : Value) (hne : p.block ≠ g) : Own (w.setCell p v) g n f := by
  refine ⟨by simpa [World.setCell] using h.1, fun i hi => ?_, fun i hi => ?_⟩
  · rw [World.cell?_setCell_other _ _ _ _ (fun hh => hne (by rw [hh]))]
    exact h.2.1 i hi
  · rw [World.frozen?_setCell]
    exact h.2.2 i hi
theorem Own.alloc {w : World} {g n : Nat} {f : Nat → Int} (h : Own w g n f) (o : Obj) : Own (w.alloc o) g n f :=
  h.kept (B := w.heap.size) ((Below.refl _ _).alloc (Nat.le_refl _) _) h.1
theorem OwnS.kept {w w' : World} {B lo n : Nat} {sa : Option Addr} {f : Nat → Int} (h : OwnS w lo sa n f) (hb : Below B w w') (hB : B = w.heap.size) : OwnS w' lo sa n f := by
  rcases h with h | ⟨g, h1, h2, h3⟩
  · exact Or.inl h
  · exact Or.inr ⟨g, h1, h2, h3.kept hb (by rw [hB]; exact h3.1)⟩
theorem OwnS.row {w : World} {lo n : Nat} {sa : Option Addr} {f : Nat → Int} (h : OwnS w lo sa n f) : Row w w.heap.size sa n f := by
  rcases h with h | ⟨g, rfl, _, h3⟩
  · exact Or.inl h
  · exact h3.row h3.1
theorem OwnS.congr {w : World} {lo n : Nat} {sa : Option Addr} {f f' : Nat → Int} (h : OwnS w lo sa n f) (he : ∀ i, i < n → f i = f' i) : OwnS w lo sa n f' := by
  rcases h with h | ⟨g, h1, h2, h3⟩
  · exact Or.inl h
  · exact Or.inr ⟨g, h1, h2, h3.congr he⟩
theorem OwnS.low {w : World} {lo lo' n : Nat} {sa : Option Addr} {f : Nat → Int} (h : OwnS w lo sa n f) (hl : lo' ≤ lo) : OwnS w lo' sa n f := by
  rcases h with h | ⟨g, h1, h2, h3⟩
  · exact Or.inl h
  · exact Or.inr ⟨g, h1, by omega, h3⟩
/-- Another slice's block turned: this one stays. -/
theorem OwnS.other {w w' : World} {lo n m : Nat} {sa sb : Option Addr} {f : Nat → Int} (h : OwnS w lo sa n f) (ho : OnlyS w w' sb m) (hne : ∀ g, sb = some ⟨g, 0, none⟩ → 0 < m → sa ≠ some ⟨g, 0, none⟩) : OwnS w' lo sa n f := by
  rcases h with h | ⟨g, rfl, h2, h3⟩
  · exact Or.inl h
  · obtain ⟨row, hg, hr⟩ := ho
    refine Or.inr ⟨g, rfl, h2, ?_⟩
    have hb := hg.block g h3.1 (fun e => by obtain ⟨h4, h5⟩ := hr g e.symm; exact hne g h5 h4 rfl)
    refine ⟨Nat.lt_of_lt_of_le h3.1 hg.size, fun i hi => ?_, fun i hi => ?_⟩
    · have := h3.2.1 i hi
      simpa [World.cell?, hb] using this
    · have := h3.2.2 i hi
      simpa [World.frozen?, hb] using this
/-- A turned block from lo on: what lies below stays. -/
theorem OnlyS.below {w w' : World} {lo n : Nat} {sa : Option Addr} (h : OnlyS w w' sa n) (hl : ∀ g, sa = some ⟨g, 0, none⟩ → 0 < n → lo ≤ g) (hs : lo ≤ w.heap.size) : Below lo w w' := by
  obtain ⟨row, hg, hr⟩ := h
  exact ⟨hg.os, hg.tape, hg.output, hg.size, fun k hk => hg.block k (by omega) (fun e => by
    obtain ⟨h4, h5⟩ := hr k e.symm
    have := hl k h5 h4
    omega)⟩
theorem OwnS.lo {w : World} {lo n : Nat} {sa : Option Addr} {f : Nat → Int} (h : OwnS w lo sa n f) : ∀ g, sa = some ⟨g, 0, none⟩ → 0 < n → lo ≤ g ∧ g < w.heap.size := by
  intro g hg hn
  rcases h with h | ⟨g', h1, h2, h3⟩
  · omega
  · rw [h1] at hg
    injection hg with hg
    injection hg with hg
    subst hg
    exact ⟨h2, h3.1⟩
end Go.Proofs.YtfeolbgenpknfaaGreat
namespace Go.Proofs.YtfeolbgenpknfaaGreat
open Go.RowKit

/-- A vector lies in a block. -/
def Boxed (W : World) (p : Nat) (t : TypeId) (b : Int) (sa : Option Addr) (n cap : Nat) : Prop := W.heap[p]? = some (.cells #[.int .i64 b, .slice sa n cap] t (0, 0))
theorem Boxed.cells {W : World} {p : Nat} {t : TypeId} {b : Int} {sa : Option Addr} {n cap : Nat} (h : Boxed W p t b sa n cap) : W.cell? ⟨p, 0, none⟩ = some (.int .i64 b) ∧ W.cell? ⟨p, 1, none⟩ = some (.slice sa n cap) := by
  unfold Boxed at h
  exact ⟨by simp [World.cell?, h], by simp [World.cell?, h]⟩
theorem Boxed.lt {W : World} {p : Nat} {t : TypeId} {b : Int} {sa : Option Addr} {n cap : Nat} (h : Boxed W p t b sa n cap) : p < W.heap.size := lt_of_block h
theorem Boxed.kept {W W' : World} {B p : Nat} {t : TypeId} {b : Int} {sa : Option Addr} {n cap : Nat} (h : Boxed W p t b sa n cap) (hb : Below B W W') (hB : B = W.heap.size) : Boxed W' p t b sa n cap := by
  unfold Boxed
  rw [hb.block p (by rw [hB]; exact h.lt)]
  exact h
/-- Some block of a stretch turned, no other. -/
def OnlyIn (W W' : World) (lo hi : Nat) : Prop := ∃ row : Option Nat, W.grownBy W' row ∧ ∀ g, row = some g → lo ≤ g ∧ g < hi
theorem Boxed.only {W W' : World} {lo hi p : Nat} {t : TypeId} {b : Int} {sa : Option Addr} {n cap : Nat} (h : Boxed W p t b sa n cap) (ho : OnlyIn W W' lo hi) (hp : p < lo ∨ hi ≤ p) : Boxed W' p t b sa n cap := by
  obtain ⟨row, hg, hr⟩ := ho
  unfold Boxed
  rw [hg.block p h.lt (fun e => by have := hr p e.symm; omega)]
  exact h
theorem OnlyIn.below {W W' : World} {lo hi B : Nat} (h : OnlyIn W W' lo hi) (hB : B ≤ lo) (hs : B ≤ W.heap.size) : Below B W W' := by
  obtain ⟨row, hg, hr⟩ := h
  exact ⟨hg.os, hg.tape, hg.output, hg.size, fun k hk => hg.block k (by omega) (fun e => by have := hr k e.symm; omega)⟩
theorem OnlyIn.size {W W' : World} {lo hi : Nat} (h : OnlyIn W W' lo hi) : W.heap.size ≤ W'.heap.size := by
  obtain ⟨row, hg, hr⟩ := h
  exact hg.size
/-- A row in a stretch of blocks. -/
def Slice (W : World) (lo hi : Nat) (sa : Option Addr) (n : Nat) (f : Nat → Int) : Prop := n = 0 ∨ ∃ g, sa = some ⟨g, 0, none⟩ ∧ lo ≤ g ∧ g < hi ∧ Own W g n f
theorem OwnS.slice {W : World} {lo n : Nat} {sa : Option Addr} {f : Nat → Int} (h : OwnS W lo sa n f) : Slice W lo W.heap.size sa n f := by
  rcases h with h | ⟨g, h1, h2, h3⟩
  · exact Or.inl h
  · exact Or.inr ⟨g, h1, h2, h3.1, h3⟩
theorem Slice.own {W : World} {lo hi n : Nat} {sa : Option Addr} {f : Nat → Int} (h : Slice W lo hi sa n f) : OwnS W lo sa n f := by
  rcases h with h | ⟨g, h1, h2, _, h3⟩
  · exact Or.inl h
  · exact Or.inr ⟨g, h1, h2, h3⟩
theorem Slice.row {W : World} {lo hi n : Nat} {sa : Option Addr} {f : Nat → Int} (h : Slice W lo hi sa n f) : Row W W.heap.size sa n f := h.own.row
theorem Slice.kept {W W' : World} {B lo hi n : Nat} {sa : Option Addr} {f : Nat → Int} (h : Slice W lo hi sa n f) (hb : Below B W W') (hB : B = W.heap.size) : Slice W' lo hi sa n f := by
  rcases h with h | ⟨g, h1, h2, h4, h3⟩
  · exact Or.inl h
  · exact Or.inr ⟨g, h1, h2, h4, h3.kept hb (by rw [hB]; exact h3.1)⟩
theorem Slice.only {W W' : World} {lo hi lo' hi' n : Nat} {sa : Option Addr} {f : Nat → Int} (h : Slice W lo hi sa n f) (ho : OnlyIn W W' lo' hi') (hd : hi ≤ lo' ∨ hi' ≤ lo) : Slice W' lo hi sa n f := by
  rcases h with h | ⟨g, h1, h2, h4, h3⟩
  · exact Or.inl h
  · obtain ⟨row, hg, hr⟩ := ho
    refine Or.inr ⟨g, h1, h2, h4, ?_⟩
    have hb := hg.block g h3.1 (fun e => by have := hr g e.symm; omega)
    refine ⟨Nat.lt_of_lt_of_le h3.1 hg.size, fun i hi => ?_, fun i hi => ?_⟩
    · have := h3.2.1 i hi
      simpa [World.cell?, hb] using this
    · have := h3.2.2 i hi
      simpa [World.frozen?, hb] using this
/-- A vector is put into a box. -/
theorem boxing (W : World) (t : TypeId) (b : Int) (sa : Option Addr) (n cap : Nat) : Below W.heap.size W (W.alloc (.cells #[.int .i64 b, .slice sa n cap] t)) ∧ Boxed (W.alloc (.cells #[.int .i64 b, .slice sa n cap] t)) W.heap.size t b sa n cap ∧ (W.alloc (.cells #[.int .i64 b, .slice sa n cap] t)).heap.size = W.heap.size + 1 :=
  ⟨(Below.refl _ _).alloc (Nat.le_refl _) _, heap_alloc_new W _, by simp⟩
/-- A later world: what was there is as it was. -/
structure Since (w W : World) : Prop where
  below : Below w.heap.size w W
theorem since_refl (w : World) : Since w w := ⟨Below.refl _ _⟩
theorem since_alloc {w W : World} {o : Obj} (h : Since w W) : Since w (W.alloc o) := ⟨h.below.alloc h.below.size _⟩
theorem since_call {w W W' : World} (h : Since w W) (hb : Below W.heap.size W W') : Since w W' := ⟨h.below.trans (hb.mono h.below.size)⟩
theorem since_drew {w W : World} (h : Since w W) : Since w W.drew := ⟨h.below.drew⟩
theorem since_set {w W : World} {p : Addr} {v : Value} (h : Since w W) (hp : w.heap.size ≤ p.block) : Since w (W.setCell p v) := ⟨h.below.setCell hp _⟩
theorem Since.size {w W : World} (h : Since w W) : w.heap.size ≤ W.heap.size := h.below.size
theorem row_since {w W : World} {n : Nat} {sa : Option Addr} {f : Nat → Int} (h : Row w w.heap.size sa n f) (hs : Since w W) : Row W W.heap.size sa n f := (h.kept hs.below).up hs.below.size
theorem ownS_since {w W : World} {lo n : Nat} {sa : Option Addr} {f : Nat → Int} (h : OwnS w lo sa n f) (hs : Since w W) : Row W W.heap.size sa n f := row_since h.row hs
theorem Boxed.since {w W : World} {p : Nat} {t : TypeId} {b : Int} {sa : Option Addr} {n cap : Nat} (h : Boxed w p t b sa n cap) (hs : Since w W) : Boxed W p t b sa n cap := h.kept hs.below rfl
theorem Boxed.four {W : World} {p : Nat} {t : TypeId} {b : Int} {sa : Option Addr} {n cap : Nat} (h : Boxed W p t b sa n cap) : W.cell? ⟨p, 0, none⟩ = some (.int .i64 b) ∧ W.cell? ⟨p, 1, none⟩ = some (.slice sa n cap) ∧ W.frozen? ⟨p, 0, none⟩ = false ∧ W.frozen? ⟨p, 1, none⟩ = false :=
  ⟨h.cells.1, h.cells.2, frozen_of_row _ _ _ _ _ h, frozen_of_row _ _ _ _ _ h⟩
/-- What a statement 'x := f(..)' over vectors leaves: x's box, its words. -/
def CutP (w : World) (t : TypeId) (ro : Int) (rn : Nat) (rf : Nat → Int) (pv : Value) (wc : World) : Prop :=
  ∃ (p : Nat) (sx : Option Addr) (cx : Nat), pv = .pointer (some ⟨p, 0, none⟩) ∧ Since w wc ∧ w.heap.size ≤ p ∧ p < wc.heap.size ∧ Boxed wc p t ro sx rn cx ∧ Slice wc w.heap.size wc.heap.size sx rn rf
theorem cut_late {w W : World} {t : TypeId} {ro : Int} {rn lo : Nat} {rf : Nat → Int} {sx : Option Addr} {cx : Nat} (hS : Since w W) (hlo : w.heap.size ≤ lo) (ho : OwnS W lo sx rn rf) :
    CutP w t ro rn rf (.pointer (some ⟨W.heap.size, 0, none⟩)) (W.alloc (.cells #[.int .i64 ro, .slice sx rn cx] t)) := by
  have hb := boxing W t ro sx rn cx
  refine ⟨_, sx, cx, rfl, since_alloc hS, hS.size, by rw [hb.2.2]; omega, hb.2.1, ?_⟩
  have hk := (ho.low hlo).kept hb.1 rfl
  exact hk.slice
theorem cut_early {w W : World} {t : TypeId} {ro : Int} {rn lo p : Nat} {rf : Nat → Int} {sx : Option Addr} {cx : Nat} (hS : Since w W) (hx : Boxed W p t 0 none 0 0) (hp : w.heap.size ≤ p) (hlt : p < lo) (ho : OwnS W lo sx rn rf) :
    CutP w t ro rn rf (.pointer (some ⟨p, 0, none⟩)) ((W.setCell ⟨p, 0, none⟩ (.int .i64 ro)).setCell ⟨p, 1, none⟩ (.slice sx rn cx)) := by
  refine ⟨p, sx, cx, rfl, since_set (since_set hS hp) hp, hp, by simpa [World.setCell] using hx.lt, ?_, ?_⟩
  · unfold Boxed at hx ⊢
    have h1 := heap_setCell_same W p 0 _ _ (.int .i64 ro) hx
    have h2 := heap_setCell_same _ p 1 _ _ (.slice sx rn cx) h1
    rw [h2]
    rfl
  · rcases ho with h | ⟨g, h1, h2, h3⟩
    · exact Or.inl h
    · have h4 := (h3.setOther ⟨p, 0, none⟩ (.int .i64 ro) (by show p ≠ g; omega)).setOther ⟨p, 1, none⟩ (.slice sx rn cx) (by show p ≠ g; omega)
      exact Or.inr ⟨g, h1, by omega, h4.1, h4⟩
theorem Boxed.setOther {W : World} {p : Nat} {t : TypeId} {b : Int} {sa : Option Addr} {n cap : Nat} (h : Boxed W p t b sa n cap) (a : Addr) (v : Value) (hne : a.block ≠ p) : Boxed (W.setCell a v) p t b sa n cap := by
  unfold Boxed
  rw [Below.heap_setCell _ _ _ _ (fun e => hne e.symm)]
  exact h
theorem Boxed.drew {W : World} {p : Nat} {t : TypeId} {b : Int} {sa : Option Addr} {n cap : Nat} (h : Boxed W p t b sa n cap) : Boxed W.drew p t b sa n cap := h
end Go.Proofs.YtfeolbgenpknfaaGreat
