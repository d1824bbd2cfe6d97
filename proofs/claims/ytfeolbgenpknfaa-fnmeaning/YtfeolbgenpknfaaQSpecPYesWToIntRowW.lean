/- What is proved here: the specification's PatternRight says yes of a right pattern, no of another.
   What is proved here: slices of int64 in memory: rows that are read, rows that are owned, what turns in them.
   What is proved here: slices of int64 that are appended to. -/
import Derived.Test.YtfeolbgenpknfaaQSpecPRightW
import Derived.Test.YtfeolbgenpknfaaProg
import Derived.WalkKit
import Derived.WalkSpells
import Derived.RegionTactic
import Derived.BigRegion
import Derived.Deep.DeepCutAuto
import Derived.Laws.BytesArg
import Derived.Maps.AppendAt
import Derived.Laws.AppendOwn
namespace Go.Proofs.Ytfeolbgenpknfaa
open Go.RowKit

open Classical in
theorem specPRight_yes (sa : Option Addr) (n cap : Nat) (f : Nat → Atm) (w : World) (hn : n ≤ maxLen) (hr : ARow w w.heap.size sa n f) (hc : ∀ i, i < n → (f i).c.size ≤ maxLen) (h : PatRight n f) :
    Calls Try.prog 23 #[.slice sa n cap] w fun e w' => e = .returned (.bool true) ∧ Below w.heap.size w w' :=
  (specPRight_any sa n cap f w hn hr hc).mono fun _ _ h2 => ⟨by rw [h2.1, decide_eq_true h], h2.2⟩
open Classical in
theorem specPRight_no (sa : Option Addr) (n cap : Nat) (f : Nat → Atm) (w : World) (hn : n ≤ maxLen) (hr : ARow w w.heap.size sa n f) (hc : ∀ i, i < n → (f i).c.size ≤ maxLen) (h : ¬ PatRight n f) :
    Calls Try.prog 23 #[.slice sa n cap] w fun e w' => e = .returned (.bool false) ∧ Below w.heap.size w w' :=
  (specPRight_any sa n cap f w hn hr hc).mono fun _ _ h2 => ⟨by rw [h2.1, decide_eq_false h], h2.2⟩
end Go.Proofs.Ytfeolbgenpknfaa
namespace Go.Proofs.Ytfeolbgenpknfaa
open Go.RowKit

/-- The numbers of a slice lie in cells of a block below B. -/
def Row (w : World) (B : Nat) (sa : Option Addr) (n : Nat) (f : Nat → Int) : Prop :=
  n = 0 ∨ ∃ bb off : Nat, sa = some ⟨bb, off, none⟩ ∧ bb < B ∧ ∀ i, i < n → w.cell? ⟨bb, off + i, none⟩ = some (.int .i64 (f i))
/-- A row that may be written: its block, its numbers. -/
def Own (w : World) (g n : Nat) (f : Nat → Int) : Prop :=
  g < w.heap.size ∧ (∀ i, i < n → w.cell? ⟨g, i, none⟩ = some (.int .i64 (f i))) ∧ ∀ i, i < n → w.frozen? ⟨g, i, none⟩ = false
theorem Own.row {w : World} {g n B : Nat} {f : Nat → Int} (h : Own w g n f) (hB : g < B) : Row w B (some ⟨g, 0, none⟩) n f :=
  Or.inr ⟨g, 0, rfl, hB, fun i hi => by rw [Nat.zero_add]; exact h.2.1 i hi⟩
theorem Own.congr {w : World} {g n : Nat} {f f' : Nat → Int} (h : Own w g n f) (he : ∀ i, i < n → f i = f' i) : Own w g n f' :=
  ⟨h.1, fun i hi => by rw [← he i hi]; exact h.2.1 i hi, h.2.2⟩
theorem Row.congr {w : World} {B n : Nat} {sa : Option Addr} {f f' : Nat → Int} (h : Row w B sa n f) (he : ∀ i, i < n → f i = f' i) : Row w B sa n f' := by
  rcases h with h | ⟨bb, off, h1, h2, h3⟩
  · exact Or.inl h
  · exact Or.inr ⟨bb, off, h1, h2, fun i hi => by rw [← he i hi]; exact h3 i hi⟩
theorem Row.up {w : World} {B B' n : Nat} {sa : Option Addr} {f : Nat → Int} (h : Row w B sa n f) (hB : B ≤ B') : Row w B' sa n f := by
  rcases h with h | ⟨bb, off, h1, h2, h3⟩
  · exact Or.inl h
  · exact Or.inr ⟨bb, off, h1, by omega, h3⟩
theorem Row.kept {w w' : World} {B n : Nat} {sa : Option Addr} {f : Nat → Int} (h : Row w B sa n f) (hb : Below B w w') : Row w' B sa n f := by
  rcases h with h | ⟨bb, off, h1, h2, h3⟩
  · exact Or.inl h
  · exact Or.inr ⟨bb, off, h1, h2, fun i hi => by rw [hb.cell (p := ⟨bb, off + i, none⟩) h2]; exact h3 i hi⟩
theorem Own.kept {w w' : World} {B g n : Nat} {f : Nat → Int} (h : Own w g n f) (hb : Below B w w') (hg : g < B) : Own w' g n f :=
  ⟨Nat.lt_of_lt_of_le h.1 hb.size, fun i hi => by rw [hb.cell (p := ⟨g, i, none⟩) hg]; exact h.2.1 i hi, fun i hi => by rw [hb.frozen (p := ⟨g, i, none⟩) hg]; exact h.2.2 i hi⟩
theorem Own.set {w : World} {g n p : Nat} {f : Nat → Int} (h : Own w g n f) (hp : p < n) (v : Int) : Own (w.setCell ⟨g, p, none⟩ (.int .i64 v)) g n (fun i => if i = p then v else f i) := by
  refine ⟨by simpa [World.setCell] using h.1, fun i hi => ?_, fun i hi => ?_⟩
  · by_cases e : i = p
    · subst e
      rw [World.cell?_setCell_same _ _ _ (h.2.1 i hi)]
      simp
    · rw [World.cell?_setCell_other _ _ _ _ (fun hh => e (by injection hh with _ h2 _; exact h2.symm)), h.2.1 i hi]
      simp [e]
  · rw [World.frozen?_setCell]
    exact h.2.2 i hi
theorem Own.drew {w : World} {g n : Nat} {f : Nat → Int} (h : Own w g n f) : Own w.drew g n f := h
theorem Own.only {w w' : World} {g b n : Nat} {f : Nat → Int} (h : Own w g n f) (hg : w.grownBy w' (some b)) (hne : g ≠ b) : Own w' g n f := by
  have hb := hg.block g h.1 (fun e => hne (by injection e))
  refine ⟨Nat.lt_of_lt_of_le h.1 hg.size, fun i hi => ?_, fun i hi => ?_⟩
  · have := h.2.1 i hi
    simpa [World.cell?, hb] using this
  · have := h.2.2 i hi
    simpa [World.frozen?, hb] using this

theorem Try.numInfo : (Try.prog.info? 2).map (fun i => (i.zero, i.size, i.bytes)) = some (some (.int .i64 0), 1, 8) := by kernel_rfl
/-- A new slice of so many zeros. -/
theorem make_row (w : World) (N : Nat) (hN : N ≤ 10000000) : ∃ C : Array Value, (Instr.makeSlice 27 (.int .i64 (N : Int)) (.int .i64 (N : Int))).run Try.prog w = .ok (.slice (some ⟨w.heap.size, 0, none⟩) N N) (w.alloc (.cells C 2)) ∧ Own (w.alloc (.cells C 2)) w.heap.size N (fun _ => 0) := by
  obtain ⟨i0, hi, hz0, hz1, hz2⟩ := info_parts Try.numInfo
  refine ⟨madeCells (Value.int .i64 0).cells (N * 1), ?_, by simp, fun i hi => ?_, fun i hi => ?_⟩
  · have h := run_make (P := Try.prog) w 27 2 i0 (.int .i64 0) Try.underlying27 hi hz0 .i64 .i64 (N : Int) (N : Int) (by omega) (Int.le_refl _) (by rw [hz2]; omega) (by omega)
    rw [h, hz1]
    simp
  · rw [World.cell?_alloc_mark]
    simp [madeCells, Value.cells, Nat.mod_one, hi]
  · have h := heap_alloc_new w (.cells (madeCells (Value.int .i64 0).cells (N * 1)) 2)
    exact frozen_of_row _ _ _ _ _ h

/-- A slice that the call owns: empty, or a row of a block from lo on. -/
def OwnS (w : World) (lo : Nat) (sa : Option Addr) (n : Nat) (f : Nat → Int) : Prop := n = 0 ∨ ∃ g, sa = some ⟨g, 0, none⟩ ∧ lo ≤ g ∧ Own w g n f
/-- That slice's block alone turned. -/
def OnlyS (w w' : World) (sa : Option Addr) (n : Nat) : Prop := ∃ row : Option Nat, w.grownBy w' row ∧ ∀ g, row = some g → 0 < n ∧ sa = some ⟨g, 0, none⟩
theorem only_set {a w : World} {b i : Nat} {v : Value} (h : a.grownBy w (some b)) : a.grownBy (w.setCell ⟨b, i, none⟩ v) (some b) :=
  h.trans ⟨rfl, rfl, rfl, by simp [World.setCell], fun k _ hk => Below.heap_setCell _ _ _ _ (fun e => hk (by simp [e]))⟩
theorem only_drawn {a w : World} {b : Nat} (h : a.grownBy w (some b)) : a.grownBy w.drew (some b) := ⟨h.os, h.tape, h.output, h.size, h.block⟩
end Go.Proofs.Ytfeolbgenpknfaa
namespace Go.Proofs.Ytfeolbgenpknfaa
open Go.RowKit

/-- A slice of int64 in new memory. -/
def NewInts (w : World) (n : Nat) (f : Nat → Int) (e : Ending) (w' : World) : Prop := ∃ (sa : Option Addr) (cap : Nat), e = .returned (.slice sa n cap) ∧ Below w.heap.size w w' ∧ OwnS w' w.heap.size sa n f
/-- The cells of a list of numbers. -/
def icells (l : List Int) : List Value := l.map (fun x => .int .i64 x)
theorem icells_append (l : List Int) (x : Int) : icells (l ++ [x]) = icells l ++ [.int .i64 x] := by simp [icells]
theorem new_of_ints {w W : World} {l : List Int} {v : Value} (h : W.ownsRow w.heap.size 2 1 v l.length (icells l)) (hb : Below w.heap.size w W) : NewInts w l.length (fun i => l.getD i 0) (.returned v) W := by
  obtain ⟨_, ⟨rfl, hx⟩ | ⟨g, cap, cur, rfl, hg, hh, hnc, hm, hs, ht⟩⟩ := h
  · have : l = [] := by simpa [icells] using hx
    subst this
    exact ⟨none, 0, rfl, hb, Or.inl rfl⟩
  · refine ⟨_, _, rfl, hb, Or.inr ⟨g, rfl, hg, lt_of_block hh, fun i hi => ?_, fun i hi => frozen_of_row _ _ _ _ _ hh⟩⟩
    have hc : W.cell? ⟨g, i, none⟩ = (icells l)[i]? := by
      rw [← ht, List.getElem?_take_of_lt (by omega)]
      simp [World.cell?, hh]
    rw [hc]
    simp [icells, hi]
theorem ints_below {w w' : World} {base n size B : Nat} {e : TypeId} {v : Value} {xs : List Value} (h : w.ownsRow base e size v n xs) (hb : Below B w w') (hB : B = w.heap.size) : w'.ownsRow base e size v n xs := by
  obtain ⟨hl, h⟩ := h
  refine ⟨hl, ?_⟩
  rcases h with h | ⟨g, cap, cur, h1, h2, h3, h4⟩
  · exact Or.inl h
  · refine Or.inr ⟨g, cap, cur, h1, h2, ?_, h4⟩
    rw [hb.block g (by rw [hB]; exact lt_of_block h3)]
    exact h3
theorem ints_start (w : World) (base : Nat) (hb : base ≤ w.heap.size) (C : Array Value) (hC : C.size = 0) : (w.alloc (.cells C 2)).ownsRow base 2 1 (.slice (some ⟨w.heap.size, 0, none⟩) 0 0) 0 [] :=
  ⟨rfl, Or.inr ⟨w.heap.size, 0, C, rfl, hb, heap_alloc_new w _, Nat.le_refl _, Nat.zero_le _, by omega, by simp⟩⟩
theorem ints_low {w : World} {base base' n size : Nat} {e : TypeId} {v : Value} {xs : List Value} (h : w.ownsRow base e size v n xs) (hb : base' ≤ base) : w.ownsRow base' e size v n xs := by
  obtain ⟨hl, h⟩ := h
  refine ⟨hl, ?_⟩
  rcases h with h | ⟨g, cap, cur, h1, h2, h3, h4⟩
  · exact Or.inl h
  · exact Or.inr ⟨g, cap, cur, h1, Nat.le_trans hb h2, h3, h4⟩
theorem cell1_new (W : World) (x : Int) (ty : TypeId) : ∀ j u, [Value.int .i64 x][j]? = some u → (W.alloc (.cells #[.int .i64 x] ty)).cell? ((⟨W.heap.size, 0, none⟩ : Addr).add j) = some u := by
  intro j u hu
  match j, hu with
  | 0, hu => simp at hu; subst hu; simp [Addr.add]
  | j + 1, hu => simp at hu
theorem grown_lo {base lo : Nat} {W W' : World} {row : Option Nat} (hg : W.grownBy W' row) (hr : ∀ j, row = some j → base ≤ j) (hl : lo ≤ base) (hs : lo ≤ W.heap.size) : Below lo W W' :=
  ⟨hg.os, hg.tape, hg.output, hg.size, fun j hj => hg.block j (by omega) (fun e => by have := hr j e.symm; omega)⟩
end Go.Proofs.Ytfeolbgenpknfaa
