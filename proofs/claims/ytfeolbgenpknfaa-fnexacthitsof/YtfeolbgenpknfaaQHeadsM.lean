/- What is said here: a slice of slices of numbers each of which is told from its head on: a block of slices that the call owns, the rows in it read alone. -/
import Derived.Test.YtfeolbgenpknfaaQLookWToCapIntsM
import Derived.Test.YtfeolbgenpknfaaQHitD
import Derived.Test.YtfeolbgenpknfaaQEndRowsM
namespace Go.Proofs.Ytfeolbgenpknfaa
open Go.RowKit

/-- What is left of a row is read from its head on. -/
def LeftAt (W : World) (B g : Nat) (s : Option Addr) (c : Nat) (l : List Int) : Prop := l.length ≤ c ∧ (l = [] ∨ ∃ b off : Nat, s = some ⟨b, off, none⟩ ∧ b < B ∧ b ≠ g ∧ ∀ j, j < l.length → W.cell? ⟨b, off + j, none⟩ = some (.int .i64 (l.getD j 0)))
/-- The heads: the block g holds k slices. -/
structure Heads (W : World) (g B k : Nat) (s : Nat → Option Addr) (c : Nat → Nat) (L : Nat → List Int) : Prop where
  lt : g < B
  sz : B ≤ W.heap.size
  cells : ∀ i, i < k → W.cell? ⟨g, i, none⟩ = some (.slice (s i) (L i).length (c i)) ∧ W.frozen? ⟨g, i, none⟩ = false
  rows : ∀ i, i < k → LeftAt W B g (s i) (c i) (L i)
theorem LeftAt.kept {W W' : World} {B C g c : Nat} {s : Option Addr} {l : List Int} (h : LeftAt W B g s c l) (hb : Below C W W') (hC : B ≤ C) : LeftAt W' B g s c l := by
  obtain ⟨h1, h2⟩ := h
  refine ⟨h1, ?_⟩
  rcases h2 with h2 | ⟨b, off, h3, h4, h5, h6⟩
  · exact Or.inl h2
  · exact Or.inr ⟨b, off, h3, h4, h5, fun j hj => by rw [hb.cell (p := ⟨b, off + j, none⟩) (Nat.lt_of_lt_of_le h4 hC)]; exact h6 j hj⟩
theorem LeftAt.up {W : World} {B B' g c : Nat} {s : Option Addr} {l : List Int} (h : LeftAt W B g s c l) (hB : B ≤ B') : LeftAt W B' g s c l := by
  obtain ⟨h1, h2⟩ := h
  refine ⟨h1, ?_⟩
  rcases h2 with h2 | ⟨b, off, h3, h4, h5, h6⟩
  · exact Or.inl h2
  · exact Or.inr ⟨b, off, h3, Nat.lt_of_lt_of_le h4 hB, h5, h6⟩
theorem LeftAt.set {W : World} {B g i c : Nat} {s : Option Addr} {l : List Int} {v : Value} (h : LeftAt W B g s c l) : LeftAt (W.setCell ⟨g, i, none⟩ v) B g s c l := by
  obtain ⟨h1, h2⟩ := h
  refine ⟨h1, ?_⟩
  rcases h2 with h2 | ⟨b, off, h3, h4, h5, h6⟩
  · exact Or.inl h2
  · exact Or.inr ⟨b, off, h3, h4, h5, fun j hj => by
      rw [World.cell?_setCell_other _ _ _ _ (fun hh => h5 (by injection hh with h9 _ _; exact h9.symm))]
      exact h6 j hj⟩
/-- The head is passed. -/
theorem LeftAt.tail {W : World} {B g b off c : Nat} {x : Int} {l : List Int} (h : LeftAt W B g (some ⟨b, off, none⟩) c (x :: l)) : LeftAt W B g (if c = 1 then some ⟨b, off, none⟩ else some ⟨b, off + 1, none⟩) (c - 1) l := by
  obtain ⟨h1, h2⟩ := h
  have h1' : l.length + 1 ≤ c := h1
  refine ⟨by omega, ?_⟩
  rcases h2 with h2 | ⟨b', off', h3, h4, h5, h6⟩
  · cases h2
  · injection h3 with h3
    injection h3 with h3 h3o _
    subst h3
    subst h3o
    by_cases e : c = 1
    · exact Or.inl (List.eq_nil_of_length_eq_zero (by omega))
    · rw [if_neg e]
      refine Or.inr ⟨b, off + 1, rfl, h4, h5, fun j hj => ?_⟩
      have h7 := h6 (j + 1) (by simpa using hj)
      rw [show off + 1 + j = off + (j + 1) by omega, h7]
      simp [List.getD]
theorem Heads.call {W W' : World} {g B k C : Nat} {s : Nat → Option Addr} {c : Nat → Nat} {L : Nat → List Int} (h : Heads W g B k s c L) (hb : Below C W W') (hC : B ≤ C) : Heads W' g B k s c L :=
  ⟨h.lt, Nat.le_trans h.sz hb.size, fun i hi => ⟨by rw [hb.cell (p := ⟨g, i, none⟩) (Nat.lt_of_lt_of_le h.lt hC)]; exact (h.cells i hi).1, by rw [hb.frozen (p := ⟨g, i, none⟩) (Nat.lt_of_lt_of_le h.lt hC)]; exact (h.cells i hi).2⟩, fun i hi => (h.rows i hi).kept hb hC⟩
theorem Heads.up {W : World} {g B B' k : Nat} {s : Nat → Option Addr} {c : Nat → Nat} {L : Nat → List Int} (h : Heads W g B k s c L) (hB : B ≤ B') (hs : B' ≤ W.heap.size) : Heads W g B' k s c L :=
  ⟨Nat.lt_of_lt_of_le h.lt hB, hs, h.cells, fun i hi => (h.rows i hi).up hB⟩
/-- One head is written anew. -/
theorem Heads.set {W : World} {g B k i c' : Nat} {s : Nat → Option Addr} {c : Nat → Nat} {L : Nat → List Int} {s' : Option Addr} {l : List Int} (h : Heads W g B k s c L) (hi : i < k) (hr : LeftAt W B g s' c' l) :
    Heads (W.setCell ⟨g, i, none⟩ (.slice s' l.length c')) g B k (fun j => if j = i then s' else s j) (fun j => if j = i then c' else c j) (fun j => if j = i then l else L j) := by
  refine ⟨h.lt, by simpa [World.setCell] using h.sz, fun j hj => ⟨?_, by rw [World.frozen?_setCell]; exact (h.cells j hj).2⟩, fun j hj => ?_⟩
  · by_cases e : j = i
    · subst e
      simp only [if_pos]
      exact World.cell?_setCell_same _ _ _ (h.cells j hj).1
    · simp only [if_neg e]
      rw [World.cell?_setCell_other _ _ _ _ (fun hh => e (by injection hh with _ h2 _; exact h2.symm))]
      exact (h.cells j hj).1
  · by_cases e : j = i
    · simp only [if_pos e]
      exact hr.set
    · simp only [if_neg e]
      exact (h.rows j hj).set
theorem Heads.congr {W : World} {g B k : Nat} {s : Nat → Option Addr} {c : Nat → Nat} {L L' : Nat → List Int} (h : Heads W g B k s c L) (he : ∀ i, i < k → L i = L' i) : Heads W g B k s c L' :=
  ⟨h.lt, h.sz, fun i hi => by rw [← he i hi]; exact h.cells i hi, fun i hi => by rw [← he i hi]; exact h.rows i hi⟩
/-- New slices of numbers, none told. -/
theorem make_heads (w : World) (N : Nat) (hN : N ≤ 1048576) : ∃ C : Array Value, (Instr.makeSlice 84 (.int .i64 (N : Int)) (.int .i64 (N : Int))).run Try.prog w = .ok (.slice (some ⟨w.heap.size, 0, none⟩) N N) (w.alloc (.cells C 27)) ∧ Heads (w.alloc (.cells C 27)) w.heap.size (w.heap.size + 1) N (fun _ => none) (fun _ => 0) (fun _ => []) := by
  obtain ⟨i0, hi, hz0, hz1, hz2⟩ := info_parts Try.rowInfo
  refine ⟨madeCells (Value.slice none 0 0).cells (N * 1), ?_, by omega, by simp, fun i hi => ⟨?_, ?_⟩, fun i hi => ⟨Nat.le_refl _, Or.inl rfl⟩⟩
  · have h := run_make (P := Try.prog) w 84 27 i0 (.slice none 0 0) Try.underlying84 hi hz0 .i64 .i64 (N : Int) (N : Int) (by omega) (Int.le_refl _) (by rw [hz2]; omega) (by omega)
    rw [h, hz1]
    simp
  · rw [World.cell?_alloc_mark]
    simp [madeCells, Value.cells, Nat.mod_one, hi]
  · have h := heap_alloc_new w (.cells (madeCells (Value.slice none 0 0).cells (N * 1)) 27)
    exact frozen_of_row _ _ _ _ _ h
/-- A new row is one that is left whole. -/
theorem left_new {W : World} {B g lo c : Nat} {s : Option Addr} {l : List Int} (hl : l.length ≤ c) (ho : OwnS W lo s l.length (fun j => l.getD j 0)) (hB : W.heap.size ≤ B) (hg : g < lo) : LeftAt W B g s c l := by
  refine ⟨hl, ?_⟩
  rcases ho with h | ⟨b, h1, h2, h3⟩
  · exact Or.inl (List.eq_nil_of_length_eq_zero h)
  · exact Or.inr ⟨b, 0, h1, Nat.lt_of_lt_of_le h3.1 hB, by omega, fun j hj => by rw [Nat.zero_add]; exact h3.2.1 j hj⟩
end Go.Proofs.Ytfeolbgenpknfaa
