/- What is said here: cells in memory: rows that are read, rows that are owned, what turns in them. -/
import Derived.Test.YtbdjjggaahjjpaaProg
import Derived.WalkKit
import Derived.WalkSpells
import Derived.RegionTactic
import Derived.BigRegion
import Derived.Deep.DeepCutAuto
import Derived.Laws.BytesArg
import Derived.Maps.AppendAt
namespace Go.Proofs.Ytbdjjggaahjjpaa
open Go.RowKit

/-- A cell: its class, may it be passed by, may it be passed again. -/
structure Cel where
  c : ByteArray
  k : Bool
  o : Bool
/-- The cell of nothing. -/
def cel0 : Cel := ⟨⟨#[]⟩, false, false⟩
/-- A cell lies at a place. -/
structure CellAt (w : World) (bb o : Nat) (a : Cel) : Prop where
  c0 : w.cell? ⟨bb, o, none⟩ = some (.string a.c)
  c1 : w.cell? ⟨bb, o + 1, none⟩ = some (.bool a.k)
  c2 : w.cell? ⟨bb, o + 2, none⟩ = some (.bool a.o)
/-- The cells of a slice lie in cells of a block below B. -/
def CRow (w : World) (B : Nat) (sa : Option Addr) (n : Nat) (f : Nat → Cel) : Prop :=
  n = 0 ∨ ∃ bb off : Nat, sa = some ⟨bb, off, none⟩ ∧ bb < B ∧ ∀ i, i < n → CellAt w bb (off + i * 3) (f i)
/-- A row of cells that may be written: its block, its cells. -/
structure COwn (w : World) (g n : Nat) (f : Nat → Cel) : Prop where
  lt : g < w.heap.size
  at' : ∀ i, i < n → CellAt w g (i * 3) (f i)
  free : ∀ j, j < n * 3 → w.frozen? ⟨g, j, none⟩ = false
theorem CellAt.kept {w w' : World} {B bb o : Nat} {a : Cel} (h : CellAt w bb o a) (hb : Below B w w') (hB : bb < B) : CellAt w' bb o a :=
  ⟨by rw [hb.cell (p := ⟨bb, o, none⟩) hB]; exact h.c0, by rw [hb.cell (p := ⟨bb, o + 1, none⟩) hB]; exact h.c1, by rw [hb.cell (p := ⟨bb, o + 2, none⟩) hB]; exact h.c2⟩
theorem COwn.row {w : World} {g n B : Nat} {f : Nat → Cel} (h : COwn w g n f) (hB : g < B) : CRow w B (some ⟨g, 0, none⟩) n f :=
  Or.inr ⟨g, 0, rfl, hB, fun i hi => by rw [Nat.zero_add]; exact h.at' i hi⟩
theorem COwn.congr {w : World} {g n : Nat} {f f' : Nat → Cel} (h : COwn w g n f) (he : ∀ i, i < n → f i = f' i) : COwn w g n f' :=
  ⟨h.lt, fun i hi => by rw [← he i hi]; exact h.at' i hi, h.free⟩
theorem CRow.congr {w : World} {B n : Nat} {sa : Option Addr} {f f' : Nat → Cel} (h : CRow w B sa n f) (he : ∀ i, i < n → f i = f' i) : CRow w B sa n f' := by
  rcases h with h | ⟨bb, off, h1, h2, h3⟩
  · exact Or.inl h
  · exact Or.inr ⟨bb, off, h1, h2, fun i hi => by rw [← he i hi]; exact h3 i hi⟩
theorem CRow.up {w : World} {B B' n : Nat} {sa : Option Addr} {f : Nat → Cel} (h : CRow w B sa n f) (hB : B ≤ B') : CRow w B' sa n f := by
  rcases h with h | ⟨bb, off, h1, h2, h3⟩
  · exact Or.inl h
  · exact Or.inr ⟨bb, off, h1, by omega, h3⟩
theorem CRow.kept {w w' : World} {B n : Nat} {sa : Option Addr} {f : Nat → Cel} (h : CRow w B sa n f) (hb : Below B w w') : CRow w' B sa n f := by
  rcases h with h | ⟨bb, off, h1, h2, h3⟩
  · exact Or.inl h
  · exact Or.inr ⟨bb, off, h1, h2, fun i hi => (h3 i hi).kept hb h2⟩
/-- A row in a later world. -/
theorem CRow.late {w w' : World} {n : Nat} {sa : Option Addr} {f : Nat → Cel} (h : CRow w w.heap.size sa n f) (hb : Below w.heap.size w w') : CRow w' w'.heap.size sa n f := (h.kept hb).up hb.size
theorem CRow.at {w w' : World} {n k : Nat} {sa : Option Addr} {f : Nat → Cel} (h : CRow w w.heap.size sa n f) (hb : Below w.heap.size w w') (hk : k < n) : ∃ bb off : Nat, sa = some ⟨bb, off, none⟩ ∧ bb < w.heap.size ∧ CellAt w' bb (off + k * 3) (f k) := by
  rcases h with h | ⟨bb, off, h1, h2, h3⟩
  · omega
  · exact ⟨bb, off, h1, h2, (h3 k hk).kept hb h2⟩
theorem COwn.kept {w w' : World} {B g n : Nat} {f : Nat → Cel} (h : COwn w g n f) (hb : Below B w w') (hg : g < B) : COwn w' g n f :=
  ⟨Nat.lt_of_lt_of_le h.lt hb.size, fun i hi => (h.at' i hi).kept hb hg, fun i hi => by rw [hb.frozen (p := ⟨g, i, none⟩) hg]; exact h.free i hi⟩
theorem COwn.drew {w : World} {g n : Nat} {f : Nat → Cel} (h : COwn w g n f) : COwn w.drew g n f := ⟨h.lt, fun i hi => ⟨(h.at' i hi).c0, (h.at' i hi).c1, (h.at' i hi).c2⟩, h.free⟩
/-- A cell's cells are written. -/
theorem COwn.set {w : World} {g n p : Nat} {f : Nat → Cel} (h : COwn w g n f) (hp : p < n) (a : Cel) :
    COwn (((w.setCell ⟨g, p * 3, none⟩ (.string a.c)).setCell ⟨g, p * 3 + 1, none⟩ (.bool a.k)).setCell ⟨g, p * 3 + 2, none⟩ (.bool a.o)) g n (fun i => if i = p then a else f i) := by
  have hne : ∀ {x y : Nat}, x ≠ y → (⟨g, x, none⟩ : Addr) ≠ ⟨g, y, none⟩ := fun hxy hh => hxy (by injection hh)
  refine ⟨by simpa [World.setCell] using h.lt, fun i hi => ?_, fun i hi => ?_⟩
  · by_cases e : i = p
    · subst e
      obtain ⟨a0, a1, a2⟩ := h.at' i hi
      rw [if_pos rfl]
      refine ⟨?_, ?_, ?_⟩
      · rw [World.cell?_setCell_other _ _ _ _ (hne (by omega)), World.cell?_setCell_other _ _ _ _ (hne (by omega)), World.cell?_setCell_same _ _ _ a0]
      · rw [World.cell?_setCell_other _ _ _ _ (hne (by omega))]
        exact World.cell?_setCell_same _ _ _ (by rw [World.cell?_setCell_other _ _ _ _ (hne (by omega))]; exact a1)
      · exact World.cell?_setCell_same _ _ _ (by rw [World.cell?_setCell_other _ _ _ _ (hne (by omega)), World.cell?_setCell_other _ _ _ _ (hne (by omega))]; exact a2)
    · rw [if_neg e]
      obtain ⟨a0, a1, a2⟩ := h.at' i hi
      refine ⟨?_, ?_, ?_⟩
      all_goals rw [World.cell?_setCell_other _ _ _ _ (hne (by omega)), World.cell?_setCell_other _ _ _ _ (hne (by omega)), World.cell?_setCell_other _ _ _ _ (hne (by omega))]
      · exact a0
      · exact a1
      · exact a2
  · rw [World.frozen?_setCell, World.frozen?_setCell, World.frozen?_setCell]
    exact h.free i hi
/-- The cells of one cell. -/
theorem COwn.parts {w : World} {g n p : Nat} {f : Nat → Cel} (h : COwn w g n f) (hp : p < n) : (w.cell? ⟨g, p * 3, none⟩ = some (.string (f p).c) ∧ w.cell? ⟨g, p * 3 + 1, none⟩ = some (.bool (f p).k) ∧ w.cell? ⟨g, p * 3 + 2, none⟩ = some (.bool (f p).o)) ∧ w.frozen? ⟨g, p * 3, none⟩ = false ∧ w.frozen? ⟨g, p * 3 + 1, none⟩ = false ∧ w.frozen? ⟨g, p * 3 + 2, none⟩ = false :=
  ⟨⟨(h.at' p hp).c0, (h.at' p hp).c1, (h.at' p hp).c2⟩, h.free _ (by omega), h.free _ (by omega), h.free _ (by omega)⟩
theorem Try.cellInfo : (Try.prog.info? 85).map (fun i => (i.zero, i.size, i.bytes)) = some (some (.agg #[.string ⟨#[]⟩, .bool false, .bool false]), 3, 24) := by kernel_rfl
/-- A new slice of so many cells of nothing. -/
theorem make_cells (w : World) (N : Nat) (hN : N ≤ 10000000) : ∃ C : Array Value, (Instr.makeSlice 58 (.int .i64 (N : Int)) (.int .i64 (N : Int))).run Try.prog w = .ok (.slice (some ⟨w.heap.size, 0, none⟩) N N) (w.alloc (.cells C 85)) ∧ COwn (w.alloc (.cells C 85)) w.heap.size N (fun _ => cel0) := by
  obtain ⟨i0, hi, hz0, hz1, hz2⟩ := info_parts Try.cellInfo
  have e : (Value.agg #[.string ⟨#[]⟩, .bool false, .bool false]).cells = #[.string ⟨#[]⟩, .bool false, .bool false] := rfl
  refine ⟨madeCells (Value.agg #[.string ⟨#[]⟩, .bool false, .bool false]).cells (N * 3), ?_, by simp, fun i hi => ⟨?_, ?_, ?_⟩, fun i hi => ?_⟩
  · have h := run_make (P := Try.prog) w 58 85 i0 (.agg #[.string ⟨#[]⟩, .bool false, .bool false]) Try.underlying58 hi hz0 .i64 .i64 (N : Int) (N : Int) (by omega) (Int.le_refl _) (by rw [hz2]; omega) (by omega)
    rw [h, hz1]
    simp
  · rw [World.cell?_alloc_mark, e]
    simp [madeCells, cel0, show i * 3 < N * 3 by omega, show i * 3 % 3 = 0 by omega]
  · rw [World.cell?_alloc_mark, e]
    simp [madeCells, cel0, show i * 3 + 1 < N * 3 by omega, show (i * 3 + 1) % 3 = 1 by omega]
  · rw [World.cell?_alloc_mark, e]
    simp [madeCells, cel0, show i * 3 + 2 < N * 3 by omega, show (i * 3 + 2) % 3 = 2 by omega]
  · have h := heap_alloc_new w (.cells (madeCells (Value.agg #[.string ⟨#[]⟩, .bool false, .bool false]).cells (N * 3)) 85)
    exact frozen_of_row _ _ _ _ _ h
/-- A cell lies in a box of its own. -/
structure CBox (W : World) (p : Nat) (a : Cel) : Prop where
  c0 : W.cell? ⟨p, 0, none⟩ = some (.string a.c)
  c1 : W.cell? ⟨p, 1, none⟩ = some (.bool a.k)
  c2 : W.cell? ⟨p, 2, none⟩ = some (.bool a.o)
  lt : p < W.heap.size
theorem CBox.new (W : World) (a : Cel) (t : TypeId) : CBox (W.alloc (.cells #[.string a.c, .bool a.k, .bool a.o] t)) W.heap.size a := ⟨by simp, by simp, by simp, by simp⟩
theorem CBox.kept {W W' : World} {B p : Nat} {a : Cel} (h : CBox W p a) (hb : Below B W W') (hB : p < B) : CBox W' p a :=
  ⟨by rw [hb.cell (p := ⟨p, 0, none⟩) hB]; exact h.c0, by rw [hb.cell (p := ⟨p, 1, none⟩) hB]; exact h.c1, by rw [hb.cell (p := ⟨p, 2, none⟩) hB]; exact h.c2, Nat.lt_of_lt_of_le h.lt hb.size⟩
theorem CBox.all {W : World} {p : Nat} {a : Cel} (h : CBox W p a) : W.cell? ⟨p, 0, none⟩ = some (.string a.c) ∧ W.cell? ⟨p, 1, none⟩ = some (.bool a.k) ∧ W.cell? ⟨p, 2, none⟩ = some (.bool a.o) ∧ p < W.heap.size := ⟨h.c0, h.c1, h.c2, h.lt⟩
end Go.Proofs.Ytbdjjggaahjjpaa
