/- What is said here: what stays while a pattern that is held against a text is asked again and again, and a list of numbers grows.
   What is said here: a slice of int64 in new memory whose room is no less than its length. -/
import Derived.Test.YtfeolbgenpknfaaQMeanOfW
import Derived.Test.YtfeolbgenpknfaaQIntRowWToClassM
namespace Go.Proofs.Ytfeolbgenpknfaa
open Go.RowKit

theorem Memo.keptB {t : ByteArray} {ps : List Atm} {B C : Nat} {W W' : World} (h : Memo t ps B W) (hb : Below C W W') (hC : B < C) : Memo t ps B W' := by
  obtain ⟨D, h1, h2⟩ := h.ex
  refine ⟨D, ?_, h2⟩
  obtain ⟨es, clock, hb0, F, hs, e⟩ := h1
  exact ⟨es, clock, by rw [hb.block B hC]; exact hb0, F, hs, e⟩
/-- A pattern is held against a text, in a box; a list of numbers has grown beside it. -/
structure Asks (w W : World) (t : ByteArray) (ps : List Atm) (sb : Option Addr) (N cb B q base : Nat) (g : Nat → Atm) (v : Value) (l : List Int) : Prop where
  below : Below w.heap.size w W
  memo : Memo t ps B W
  row : ARow W B sb N g
  m0 : W.cell? ⟨q, 0, none⟩ = some (.slice sb N cb)
  m1 : W.cell? ⟨q, 1, none⟩ = some (.string t)
  m2 : W.cell? ⟨q, 2, none⟩ = some (.map (some B))
  lo : w.heap.size ≤ B
  bq : B < q
  qb : q < base
  bs : base ≤ W.heap.size
  own : W.ownsRow base 2 1 v l.length (icells l)
theorem Meant.since {w w1 w2 : World} {t : ByteArray} {L : List Atm} {sb : Option Addr} {N B : Nat} {g : Nat → Atm} (h : Meant w1 w2 t L sb N B g) (hb : Below w.heap.size w w1) : Meant w w2 t L sb N B g :=
  ⟨hb.trans (h.below.mono hb.size), h.memo, h.row, Nat.le_trans hb.size h.lo, h.len, h.eq, h.parted⟩
theorem asks_new {w w2 : World} {t : ByteArray} {L : List Atm} {sb : Option Addr} {N cb B : Nat} {g : Nat → Atm} (h : Meant w w2 t L sb N B g) (ty : TypeId) : Asks w (w2.alloc (.cells #[.slice sb N cb, .string t, .map (some B)] ty)) t (atomsL g N) sb N cb B w2.heap.size (w2.heap.size + 1) g (.slice none 0 0) [] := by
  have hb : Below w2.heap.size w2 (w2.alloc (.cells #[.slice sb N cb, .string t, .map (some B)] ty)) := (Below.refl _ _).alloc (Nat.le_refl _) _
  have hB := h.memo.lt
  exact ⟨h.below.trans (hb.mono h.below.size), h.memo.late hb, h.row.kept (hb.mono (by omega)), by simp, by simp, by simp, h.lo, hB, by omega, by simp, ⟨rfl, Or.inl ⟨rfl, rfl⟩⟩⟩
theorem Asks.turn {w W W' : World} {t : ByteArray} {ps : List Atm} {sb : Option Addr} {N cb B q base : Nat} {g : Nat → Atm} {v : Value} {l : List Int} (h : Asks w W t ps sb N cb B q base g v l) (hm : Memo t ps B W') (ht : Turn B W W') : Asks w W' t ps sb N cb B q base g v l := by
  have hq : q < W.heap.size := Nat.lt_of_lt_of_le h.qb h.bs
  have hn : q ≠ B := by have := h.bq; omega
  refine ⟨h.below.trans (ht.below (lo := w.heap.size) h.lo h.below.size), hm, h.row.turn ht h.memo.lt, by rw [ht.cell hq hn]; exact h.m0, by rw [ht.cell hq hn]; exact h.m1, by rw [ht.cell hq hn]; exact h.m2, h.lo, h.bq, h.qb, Nat.le_trans h.bs ht.size, ?_⟩
  exact h.own.kept ht.g (Or.inr (fun e => by have := (h.own.lt B e).1; have := h.bq; have := h.qb; omega))
theorem Asks.grow {w W W' : World} {t : ByteArray} {ps : List Atm} {sb : Option Addr} {N cb B q base : Nat} {g : Nat → Atm} {v v' : Value} {l l' : List Int} {row : Option Nat} (h : Asks w W t ps sb N cb B q base g v l) (hg : W.grownBy W' row) (hr : ∀ j, row = some j → base ≤ j) (ho : W'.ownsRow base 2 1 v' l'.length (icells l')) : Asks w W' t ps sb N cb B q base g v' l' := by
  have hb := grown_lo hg hr (Nat.le_refl base) h.bs
  have hq := h.bq
  have hq2 := h.qb
  have hlo := h.lo
  refine ⟨h.below.trans (hb.mono (by omega)), h.memo.keptB hb (by omega), h.row.kept (hb.mono (by omega)), by rw [hb.cell (p := ⟨q, 0, none⟩) hq2]; exact h.m0, by rw [hb.cell (p := ⟨q, 1, none⟩) hq2]; exact h.m1, by rw [hb.cell (p := ⟨q, 2, none⟩) hq2]; exact h.m2, h.lo, h.bq, h.qb, Nat.le_trans h.bs hg.size, ho⟩
theorem Asks.new {w W : World} {t : ByteArray} {ps : List Atm} {sb : Option Addr} {N cb B q base : Nat} {g : Nat → Atm} {v : Value} {l : List Int} (h : Asks w W t ps sb N cb B q base g v l) : NewInts w l.length (fun i => l.getD i 0) (.returned v) W :=
  new_of_ints (ints_low h.own (by have := h.lo; have := h.bq; have := h.qb; omega)) h.below
end Go.Proofs.Ytfeolbgenpknfaa
namespace Go.Proofs.Ytfeolbgenpknfaa
open Go.RowKit

/-- A slice of int64 in new memory, no longer than its room. -/
def NewIntsC (w : World) (n : Nat) (f : Nat → Int) (e : Ending) (w' : World) : Prop := ∃ (sa : Option Addr) (cap : Nat), e = .returned (.slice sa n cap) ∧ n ≤ cap ∧ Below w.heap.size w w' ∧ OwnS w' w.heap.size sa n f
theorem new_of_intsC {w W : World} {l : List Int} {v : Value} (h : W.ownsRow w.heap.size 2 1 v l.length (icells l)) (hb : Below w.heap.size w W) : NewIntsC w l.length (fun i => l.getD i 0) (.returned v) W := by
  obtain ⟨_, ⟨rfl, hx⟩ | ⟨g, cap, cur, rfl, hg, hh, hnc, hm, hs, ht⟩⟩ := h
  · have : l = [] := by simpa [icells] using hx
    subst this
    exact ⟨none, 0, rfl, Nat.le_refl _, hb, Or.inl rfl⟩
  · refine ⟨_, _, rfl, hnc, hb, Or.inr ⟨g, rfl, hg, lt_of_block hh, fun i hi => ?_, fun i hi => frozen_of_row _ _ _ _ _ hh⟩⟩
    have hc : W.cell? ⟨g, i, none⟩ = (icells l)[i]? := by
      rw [← ht, List.getElem?_take_of_lt (by omega)]
      simp [World.cell?, hh]
    rw [hc]
    simp [icells, hi]
theorem Asks.newC {w W : World} {t : ByteArray} {ps : List Atm} {sb : Option Addr} {N cb B q base : Nat} {g : Nat → Atm} {v : Value} {l : List Int} (h : Asks w W t ps sb N cb B q base g v l) : NewIntsC w l.length (fun i => l.getD i 0) (.returned v) W :=
  new_of_intsC (ints_low h.own (by have := h.lo; have := h.bq; have := h.qb; omega)) h.below
end Go.Proofs.Ytfeolbgenpknfaa
