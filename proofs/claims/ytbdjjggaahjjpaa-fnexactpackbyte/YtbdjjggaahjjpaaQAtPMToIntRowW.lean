/- What is said here: where rows begin that lie one behind the other; what a right pack is.
   What is proved here: slices of int64 that are appended to. -/
import Derived.Test.YtbdjjggaahjjpaaQPkMToCCEqW
import Derived.Test.YtbdjjggaahjjpaaQCellMToCloM
import Derived.Test.YtbdjjggaahjjpaaQCCRowMToRowsD
import Derived.Laws.AppendOwn
namespace Go.Proofs.Ytbdjjggaahjjpaa
open Go.RowKit

/-- Where a row begins. -/
def atP (n : Nat → Nat) (i : Nat) : Nat := totC n i + i
theorem atP_succ (n : Nat → Nat) (i : Nat) : atP n (i + 1) = atP n i + (n i + 1) := by unfold atP; simp only [totC]; omega
theorem atP_zero (n : Nat → Nat) : atP n 0 = 0 := rfl
theorem atP_le {n : Nat → Nat} {k : Nat} (h : ∀ i, i < k → n i ≤ 60) : ∀ i, i ≤ k → atP n i ≤ 61 * i
  | 0, _ => by rw [atP_zero]; omega
  | i + 1, hi => by rw [atP_succ]; have := atP_le h i (by omega); have := h i (by omega); omega
theorem atP_mono {n : Nat → Nat} : ∀ {i j : Nat}, i ≤ j → atP n i ≤ atP n j := by
  intro i j h
  unfold atP
  have := totC_mono (n := n) h
  omega
/-- The beginnings of the first rows. -/
def atL (n : Nat → Nat) (i : Nat) : List Int := (List.range i).map (fun j => (atP n j : Int))
theorem atL_succ (n : Nat → Nat) (i : Nat) : atL n (i + 1) = atL n i ++ [(atP n i : Int)] := by simp [atL, List.range_succ]
theorem atL_len (n : Nat → Nat) (i : Nat) : (atL n i).length = i := by simp [atL]
theorem atL_get (n : Nat → Nat) {i k : Nat} (h : i < k) : (atL n k).getD i 0 = (atP n i : Int) := by simp [atL, h]
/-- A right pack. -/
def PkOk (P : Pk) : Prop := (1 ≤ P.k ∧ P.k ≤ 6 ∧ ∀ i, i < P.k → CellsOk (P.n i) (P.f i)) ∧ P.m = P.k ∧ (∀ i, i < P.k → P.a i = (atP P.n i : Int)) ∧ P.b = (atP P.n P.k : Int) ∧ P.b ≤ 320
end Go.Proofs.Ytbdjjggaahjjpaa
namespace Go.Proofs.Ytbdjjggaahjjpaa
open Go.RowKit

/-- A slice of int64 in new memory. -/
def NewInts (w : World) (n : Nat) (f : Nat → Int) (e : Ending) (w' : World) : Prop := ∃ (sa : Option Addr) (cap : Nat), e = .returned (.slice sa n cap) ∧ Below w.heap.size w w' ∧ OwnS w' w.heap.size sa n f
/-- The cells of a list of numbers. -/
def icells (l : List Int) : List Value := l.map (fun x => .int .i64 x)
theorem icells_append (l : List Int) (x : Int) : icells (l ++ [x]) = icells l ++ [.int .i64 x] := by simp [icells]
theorem new_of_ints {w W : World} {l : List Int} {v : Value} (h : W.ownsRow w.heap.size 2 1 v l.length (icells l)) (hb : Below w.heap.size w W) : NewInts w l.length (fun i => l.getD i 0) (.returned v) W := by
  obtain ⟨_, ⟨rfl, hx⟩ | ⟨g, cap, cur, rfl, hg, hh, hnc, hm, hs, ht⟩⟩ := h
  · have : l = [] := by simpa [icells] using hx
    subst this
    exact ⟨none, 0, rfl, hb, Or.inl rfl⟩
  · refine ⟨_, _, rfl, hb, Or.inr ⟨g, rfl, hg, lt_of_block hh, fun i hi => ?_, fun i hi => frozen_of_row _ _ _ _ _ hh⟩⟩
    have hc : W.cell? ⟨g, i, none⟩ = (icells l)[i]? := by
      rw [← ht, List.getElem?_take_of_lt (by omega)]
      simp [World.cell?, hh]
    rw [hc]
    simp [icells, hi]
theorem ints_below {w w' : World} {base n size B : Nat} {e : TypeId} {v : Value} {xs : List Value} (h : w.ownsRow base e size v n xs) (hb : Below B w w') (hB : B = w.heap.size) : w'.ownsRow base e size v n xs := by
  obtain ⟨hl, h⟩ := h
  refine ⟨hl, ?_⟩
  rcases h with h | ⟨g, cap, cur, h1, h2, h3, h4⟩
  · exact Or.inl h
  · refine Or.inr ⟨g, cap, cur, h1, h2, ?_, h4⟩
    rw [hb.block g (by rw [hB]; exact lt_of_block h3)]
    exact h3
theorem ints_start (w : World) (base : Nat) (hb : base ≤ w.heap.size) (C : Array Value) (hC : C.size = 0) : (w.alloc (.cells C 2)).ownsRow base 2 1 (.slice (some ⟨w.heap.size, 0, none⟩) 0 0) 0 [] :=
  ⟨rfl, Or.inr ⟨w.heap.size, 0, C, rfl, hb, heap_alloc_new w _, Nat.le_refl _, Nat.zero_le _, by omega, by simp⟩⟩
theorem ints_low {w : World} {base base' n size : Nat} {e : TypeId} {v : Value} {xs : List Value} (h : w.ownsRow base e size v n xs) (hb : base' ≤ base) : w.ownsRow base' e size v n xs := by
  obtain ⟨hl, h⟩ := h
  refine ⟨hl, ?_⟩
  rcases h with h | ⟨g, cap, cur, h1, h2, h3, h4⟩
  · exact Or.inl h
  · exact Or.inr ⟨g, cap, cur, h1, Nat.le_trans hb h2, h3, h4⟩
theorem cell1_new (W : World) (x : Int) (ty : TypeId) : ∀ j u, [Value.int .i64 x][j]? = some u → (W.alloc (.cells #[.int .i64 x] ty)).cell? ((⟨W.heap.size, 0, none⟩ : Addr).add j) = some u := by
  intro j u hu
  match j, hu with
  | 0, hu => simp at hu; subst hu; simp [Addr.add]
  | j + 1, hu => simp at hu
theorem grown_lo {base lo : Nat} {W W' : World} {row : Option Nat} (hg : W.grownBy W' row) (hr : ∀ j, row = some j → base ≤ j) (hl : lo ≤ base) (hs : lo ≤ W.heap.size) : Below lo W W' :=
  ⟨hg.os, hg.tape, hg.output, hg.size, fun j hj => hg.block j (by omega) (fun e => by have := hr j e.symm; omega)⟩
end Go.Proofs.Ytbdjjggaahjjpaa
