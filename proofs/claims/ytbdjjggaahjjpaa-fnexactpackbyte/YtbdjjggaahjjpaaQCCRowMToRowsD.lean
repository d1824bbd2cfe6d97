/- What is said here: a slice of slices of cells that is read.
   What is proved here: slices of int64 in memory: rows that are read, rows that are owned, what turns in them. -/
import Derived.Test.YtbdjjggaahjjpaaQCellD
import Derived.Test.YtbdjjggaahjjpaaProg
import Derived.WalkKit
import Derived.WalkSpells
import Derived.RegionTactic
import Derived.BigRegion
import Derived.Deep.DeepCutAuto
import Derived.Laws.BytesArg
import Derived.Maps.AppendAt
namespace Go.Proofs.Ytbdjjggaahjjpaa
open Go.RowKit

/-- A slice of slices of cells. -/
def CCRows (w : World) (B : Nat) (sa : Option Addr) (k : Nat) (s : Nat → Option Addr) (n c : Nat → Nat) (f : Nat → Nat → Cel) : Prop := k = 0 ∨ ∃ bb off : Nat, sa = some ⟨bb, off, none⟩ ∧ bb < B ∧ ∀ i, i < k → w.cell? ⟨bb, off + i, none⟩ = some (.slice (s i) (n i) (c i)) ∧ CRow w B (s i) (n i) (f i)
theorem CCRows.late {w W : World} {sa : Option Addr} {k : Nat} {s : Nat → Option Addr} {n c : Nat → Nat} {f : Nat → Nat → Cel} (h : CCRows w w.heap.size sa k s n c f) (hb : Below w.heap.size w W) : CCRows W W.heap.size sa k s n c f := by
  rcases h with h | ⟨bb, off, h1, h2, h3⟩
  · exact Or.inl h
  · exact Or.inr ⟨bb, off, h1, Nat.lt_of_lt_of_le h2 hb.size, fun i hi => ⟨by rw [hb.cell (p := ⟨bb, off + i, none⟩) h2]; exact (h3 i hi).1, ((h3 i hi).2.kept hb).up hb.size⟩⟩
/-- One of its slices. -/
theorem CCRows.at {w : World} {B : Nat} {sa : Option Addr} {k i : Nat} {s : Nat → Option Addr} {n c : Nat → Nat} {f : Nat → Nat → Cel} (h : CCRows w B sa k s n c f) (hi : i < k) : ∃ bb off : Nat, sa = some ⟨bb, off, none⟩ ∧ bb < B ∧ w.cell? ⟨bb, off + i, none⟩ = some (.slice (s i) (n i) (c i)) ∧ CRow w B (s i) (n i) (f i) := by
  rcases h with h | ⟨bb, off, h1, h2, h3⟩
  · omega
  · exact ⟨bb, off, h1, h2, h3 i hi⟩
end Go.Proofs.Ytbdjjggaahjjpaa
namespace Go.Proofs.Ytbdjjggaahjjpaa
open Go.RowKit

/-- The numbers of a slice lie in cells of a block below B. -/
def Row (w : World) (B : Nat) (sa : Option Addr) (n : Nat) (f : Nat → Int) : Prop :=
  n = 0 ∨ ∃ bb off : Nat, sa = some ⟨bb, off, none⟩ ∧ bb < B ∧ ∀ i, i < n → w.cell? ⟨bb, off + i, none⟩ = some (.int .i64 (f i))
/-- A row that may be written: its block, its numbers. -/
def Own (w : World) (g n : Nat) (f : Nat → Int) : Prop :=
  g < w.heap.size ∧ (∀ i, i < n → w.cell? ⟨g, i, none⟩ = some (.int .i64 (f i))) ∧ ∀ i, i < n → w.frozen? ⟨g, i, none⟩ = false
theorem Own.row {w : World} {g n B : Nat} {f : Nat → Int} (h : Own w g n f) (hB : g < B) : Row w B (some ⟨g, 0, none⟩) n f :=
  Or.inr ⟨g, 0, rfl, hB, fun i hi => by rw [Nat.zero_add]; exact h.2.1 i hi⟩
theorem Own.congr {w : World} {g n : Nat} {f f' : Nat → Int} (h : Own w g n f) (he : ∀ i, i < n → f i = f' i) : Own w g n f' :=
  ⟨h.1, fun i hi => by rw [← he i hi]; exact h.2.1 i hi, h.2.2⟩
theorem Row.congr {w : World} {B n : Nat} {sa : Option Addr} {f f' : Nat → Int} (h : Row w B sa n f) (he : ∀ i, i < n → f i = f' i) : Row w B sa n f' := by
  rcases h with h | ⟨bb, off, h1, h2, h3⟩
  · exact Or.inl h
  · exact Or.inr ⟨bb, off, h1, h2, fun i hi => by rw [← he i hi]; exact h3 i hi⟩
theorem Row.up {w : World} {B B' n : Nat} {sa : Option Addr} {f : Nat → Int} (h : Row w B sa n f) (hB : B ≤ B') : Row w B' sa n f := by
  rcases h with h | ⟨bb, off, h1, h2, h3⟩
  · exact Or.inl h
  · exact Or.inr ⟨bb, off, h1, by omega, h3⟩
theorem Row.kept {w w' : World} {B n : Nat} {sa : Option Addr} {f : Nat → Int} (h : Row w B sa n f) (hb : Below B w w') : Row w' B sa n f := by
  rcases h with h | ⟨bb, off, h1, h2, h3⟩
  · exact Or.inl h
  · exact Or.inr ⟨bb, off, h1, h2, fun i hi => by rw [hb.cell (p := ⟨bb, off + i, none⟩) h2]; exact h3 i hi⟩
theorem Own.kept {w w' : World} {B g n : Nat} {f : Nat → Int} (h : Own w g n f) (hb : Below B w w') (hg : g < B) : Own w' g n f :=
  ⟨Nat.lt_of_lt_of_le h.1 hb.size, fun i hi => by rw [hb.cell (p := ⟨g, i, none⟩) hg]; exact h.2.1 i hi, fun i hi => by rw [hb.frozen (p := ⟨g, i, none⟩) hg]; exact h.2.2 i hi⟩
theorem Own.set {w : World} {g n p : Nat} {f : Nat → Int} (h : Own w g n f) (hp : p < n) (v : Int) : Own (w.setCell ⟨g, p, none⟩ (.int .i64 v)) g n (fun i => if i = p then v else f i) := by
  refine ⟨by simpa [World.setCell] using h.1, fun i hi => ?_, fun i hi => ?_⟩
  · by_cases e : i = p
    · subst e
      rw [World.cell?_setCell_same _ _ _ (h.2.1 i hi)]
      simp
    · rw [World.cell?_setCell_other _ _ _ _ (fun hh => e (by injection hh with _ h2 _; exact h2.symm)), h.2.1 i hi]
      simp [e]
  · rw [World.frozen?_setCell]
    exact h.2.2 i hi
theorem Own.drew {w : World} {g n : Nat} {f : Nat → Int} (h : Own w g n f) : Own w.drew g n f := h
theorem Own.only {w w' : World} {g b n : Nat} {f : Nat → Int} (h : Own w g n f) (hg : w.grownBy w' (some b)) (hne : g ≠ b) : Own w' g n f := by
  have hb := hg.block g h.1 (fun e => hne (by injection e))
  refine ⟨Nat.lt_of_lt_of_le h.1 hg.size, fun i hi => ?_, fun i hi => ?_⟩
  · have := h.2.1 i hi
    simpa [World.cell?, hb] using this
  · have := h.2.2 i hi
    simpa [World.frozen?, hb] using this

theorem Try.numInfo : (Try.prog.info? 2).map (fun i => (i.zero, i.size, i.bytes)) = some (some (.int .i64 0), 1, 8) := by kernel_rfl
/-- A new slice of so many zeros. -/
theorem make_row (w : World) (N : Nat) (hN : N ≤ 10000000) : ∃ C : Array Value, (Instr.makeSlice 23 (.int .i64 (N : Int)) (.int .i64 (N : Int))).run Try.prog w = .ok (.slice (some ⟨w.heap.size, 0, none⟩) N N) (w.alloc (.cells C 2)) ∧ Own (w.alloc (.cells C 2)) w.heap.size N (fun _ => 0) := by
  obtain ⟨i0, hi, hz0, hz1, hz2⟩ := info_parts Try.numInfo
  refine ⟨madeCells (Value.int .i64 0).cells (N * 1), ?_, by simp, fun i hi => ?_, fun i hi => ?_⟩
  · have h := run_make (P := Try.prog) w 23 2 i0 (.int .i64 0) Try.underlying23 hi hz0 .i64 .i64 (N : Int) (N : Int) (by omega) (Int.le_refl _) (by rw [hz2]; omega) (by omega)
    rw [h, hz1]
    simp
  · rw [World.cell?_alloc_mark]
    simp [madeCells, Value.cells, Nat.mod_one, hi]
  · have h := heap_alloc_new w (.cells (madeCells (Value.int .i64 0).cells (N * 1)) 2)
    exact frozen_of_row _ _ _ _ _ h

/-- A slice that the call owns: empty, or a row of a block from lo on. -/
def OwnS (w : World) (lo : Nat) (sa : Option Addr) (n : Nat) (f : Nat → Int) : Prop := n = 0 ∨ ∃ g, sa = some ⟨g, 0, none⟩ ∧ lo ≤ g ∧ Own w g n f
/-- That slice's block alone turned. -/
def OnlyS (w w' : World) (sa : Option Addr) (n : Nat) : Prop := ∃ row : Option Nat, w.grownBy w' row ∧ ∀ g, row = some g → 0 < n ∧ sa = some ⟨g, 0, none⟩
theorem only_set {a w : World} {b i : Nat} {v : Value} (h : a.grownBy w (some b)) : a.grownBy (w.setCell ⟨b, i, none⟩ v) (some b) :=
  h.trans ⟨rfl, rfl, rfl, by simp [World.setCell], fun k _ hk => Below.heap_setCell _ _ _ _ (fun e => hk (by simp [e]))⟩
theorem only_drawn {a w : World} {b : Nat} (h : a.grownBy w (some b)) : a.grownBy w.drew (some b) := ⟨h.os, h.tape, h.output, h.size, h.block⟩
end Go.Proofs.Ytbdjjggaahjjpaa
