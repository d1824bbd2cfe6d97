/- What is said here: cells in memory: rows that are read, rows that are owned, what turns in them.
   What is said here: rows of cells in a stretch of blocks; how calls leave them.
   What is said here: five vectors in one struct: its value, its box, its words in a stretch of blocks. -/
import Derived.Test.YtlgnplnmcdjbiaaProg
import Derived.WalkKit
import Derived.WalkSpells
import Derived.RegionTactic
import Derived.BigRegion
import Derived.Deep.DeepCutAuto
import Derived.Laws.BytesArg
import Derived.Maps.AppendAt
import Derived.Test.YtlgnplnmcdjbiaaQRowsDToVecS
namespace Go.Proofs.Ytlgnplnmcdjbiaa
open Go.RowKit

/-- A cell: its class, may it be passed by, may it be passed again. -/
structure Cel where
  c : ByteArray
  k : Bool
  o : Bool
/-- The cell of nothing. -/
def cel0 : Cel := ⟨⟨#[]⟩, false, false⟩
/-- A cell lies at a place. -/
structure CellAt (w : World) (bb o : Nat) (a : Cel) : Prop where
  c0 : w.cell? ⟨bb, o, none⟩ = some (.string a.c)
  c1 : w.cell? ⟨bb, o + 1, none⟩ = some (.bool a.k)
  c2 : w.cell? ⟨bb, o + 2, none⟩ = some (.bool a.o)
/-- The cells of a slice lie in cells of a block below B. -/
def CRow (w : World) (B : Nat) (sa : Option Addr) (n : Nat) (f : Nat → Cel) : Prop :=
  n = 0 ∨ ∃ bb off : Nat, sa = some ⟨bb, off, none⟩ ∧ bb < B ∧ ∀ i, i < n → CellAt w bb (off + i * 3) (f i)
/-- A row of cells that may be written: its block, its cells. -/
structure COwn (w : World) (g n : Nat) (f : Nat → Cel) : Prop where
  lt : g < w.heap.size
  at' : ∀ i, i < n → CellAt w g (i * 3) (f i)
  free : ∀ j, j < n * 3 → w.frozen? ⟨g, j, none⟩ = false
theorem CellAt.kept {w w' : World} {B bb o : Nat} {a : Cel} (h : CellAt w bb o a) (hb : Below B w w') (hB : bb < B) : CellAt w' bb o a :=
  ⟨by rw [hb.cell (p := ⟨bb, o, none⟩) hB]; exact h.c0, by rw [hb.cell (p := ⟨bb, o + 1, none⟩) hB]; exact h.c1, by rw [hb.cell (p := ⟨bb, o + 2, none⟩) hB]; exact h.c2⟩
theorem COwn.row {w : World} {g n B : Nat} {f : Nat → Cel} (h : COwn w g n f) (hB : g < B) : CRow w B (some ⟨g, 0, none⟩) n f :=
  Or.inr ⟨g, 0, rfl, hB, fun i hi => by rw [Nat.zero_add]; exact h.at' i hi⟩
theorem COwn.congr {w : World} {g n : Nat} {f f' : Nat → Cel} (h : COwn w g n f) (he : ∀ i, i < n → f i = f' i) : COwn w g n f' :=
  ⟨h.lt, fun i hi => by rw [← he i hi]; exact h.at' i hi, h.free⟩
theorem CRow.congr {w : World} {B n : Nat} {sa : Option Addr} {f f' : Nat → Cel} (h : CRow w B sa n f) (he : ∀ i, i < n → f i = f' i) : CRow w B sa n f' := by
  rcases h with h | ⟨bb, off, h1, h2, h3⟩
  · exact Or.inl h
  · exact Or.inr ⟨bb, off, h1, h2, fun i hi => by rw [← he i hi]; exact h3 i hi⟩
theorem CRow.up {w : World} {B B' n : Nat} {sa : Option Addr} {f : Nat → Cel} (h : CRow w B sa n f) (hB : B ≤ B') : CRow w B' sa n f := by
  rcases h with h | ⟨bb, off, h1, h2, h3⟩
  · exact Or.inl h
  · exact Or.inr ⟨bb, off, h1, by omega, h3⟩
theorem CRow.kept {w w' : World} {B n : Nat} {sa : Option Addr} {f : Nat → Cel} (h : CRow w B sa n f) (hb : Below B w w') : CRow w' B sa n f := by
  rcases h with h | ⟨bb, off, h1, h2, h3⟩
  · exact Or.inl h
  · exact Or.inr ⟨bb, off, h1, h2, fun i hi => (h3 i hi).kept hb h2⟩
/-- A row in a later world. -/
theorem CRow.late {w w' : World} {n : Nat} {sa : Option Addr} {f : Nat → Cel} (h : CRow w w.heap.size sa n f) (hb : Below w.heap.size w w') : CRow w' w'.heap.size sa n f := (h.kept hb).up hb.size
theorem CRow.at {w w' : World} {n k : Nat} {sa : Option Addr} {f : Nat → Cel} (h : CRow w w.heap.size sa n f) (hb : Below w.heap.size w w') (hk : k < n) : ∃ bb off : Nat, sa = some ⟨bb, off, none⟩ ∧ bb < w.heap.size ∧ CellAt w' bb (off + k * 3) (f k) := by
  rcases h with h | ⟨bb, off, h1, h2, h3⟩
  · omega
  · exact ⟨bb, off, h1, h2, (h3 k hk).kept hb h2⟩
theorem COwn.kept {w w' : World} {B g n : Nat} {f : Nat → Cel} (h : COwn w g n f) (hb : Below B w w') (hg : g < B) : COwn w' g n f :=
  ⟨Nat.lt_of_lt_of_le h.lt hb.size, fun i hi => (h.at' i hi).kept hb hg, fun i hi => by rw [hb.frozen (p := ⟨g, i, none⟩) hg]; exact h.free i hi⟩
theorem COwn.drew {w : World} {g n : Nat} {f : Nat → Cel} (h : COwn w g n f) : COwn w.drew g n f := ⟨h.lt, fun i hi => ⟨(h.at' i hi).c0, (h.at' i hi).c1, (h.at' i hi).c2⟩, h.free⟩
/-- A cell's cells are written. -/
theorem COwn.set {w : World} {g n p : Nat} {f : Nat → Cel} (h : COwn w g n f) (hp : p < n) (a : Cel) :
    COwn (((w.setCell ⟨g, p * 3, none⟩ (.string a.c)).setCell ⟨g, p * 3 + 1, none⟩ (.bool a.k)).setCell ⟨g, p * 3 + 2, none⟩ (.bool a.o)) g n (fun i => if i = p then a else f i) := by
  have hne : ∀ {x y : Nat}, x ≠ y → (⟨g, x, none⟩ : Addr) ≠ ⟨g, y, none⟩ := fun hxy hh => hxy (by injection hh)
  refine ⟨by simpa [World.setCell] using h.lt, fun i hi => ?_, fun i hi => ?_⟩
  · by_cases e : i = p
    · subst e
      obtain ⟨a0, a1, a2⟩ := h.at' i hi
      rw [if_pos rfl]
      refine ⟨?_, ?_, ?_⟩
      · rw [World.cell?_setCell_other _ _ _ _ (hne (by omega)), World.cell?_setCell_other _ _ _ _ (hne (by omega)), World.cell?_setCell_same _ _ _ a0]
      · rw [World.cell?_setCell_other _ _ _ _ (hne (by omega))]
        exact World.cell?_setCell_same _ _ _ (by rw [World.cell?_setCell_other _ _ _ _ (hne (by omega))]; exact a1)
      · exact World.cell?_setCell_same _ _ _ (by rw [World.cell?_setCell_other _ _ _ _ (hne (by omega)), World.cell?_setCell_other _ _ _ _ (hne (by omega))]; exact a2)
    · rw [if_neg e]
      obtain ⟨a0, a1, a2⟩ := h.at' i hi
      refine ⟨?_, ?_, ?_⟩
      all_goals rw [World.cell?_setCell_other _ _ _ _ (hne (by omega)), World.cell?_setCell_other _ _ _ _ (hne (by omega)), World.cell?_setCell_other _ _ _ _ (hne (by omega))]
      · exact a0
      · exact a1
      · exact a2
  · rw [World.frozen?_setCell, World.frozen?_setCell, World.frozen?_setCell]
    exact h.free i hi
/-- The cells of one cell. -/
theorem COwn.parts {w : World} {g n p : Nat} {f : Nat → Cel} (h : COwn w g n f) (hp : p < n) : (w.cell? ⟨g, p * 3, none⟩ = some (.string (f p).c) ∧ w.cell? ⟨g, p * 3 + 1, none⟩ = some (.bool (f p).k) ∧ w.cell? ⟨g, p * 3 + 2, none⟩ = some (.bool (f p).o)) ∧ w.frozen? ⟨g, p * 3, none⟩ = false ∧ w.frozen? ⟨g, p * 3 + 1, none⟩ = false ∧ w.frozen? ⟨g, p * 3 + 2, none⟩ = false :=
  ⟨⟨(h.at' p hp).c0, (h.at' p hp).c1, (h.at' p hp).c2⟩, h.free _ (by omega), h.free _ (by omega), h.free _ (by omega)⟩
theorem Try.cellInfo : (Try.prog.info? 166).map (fun i => (i.zero, i.size, i.bytes)) = some (some (.agg #[.string ⟨#[]⟩, .bool false, .bool false]), 3, 24) := by kernel_rfl
/-- A new slice of so many cells of nothing. -/
theorem make_cells (w : World) (N : Nat) (hN : N ≤ 10000000) : ∃ C : Array Value, (Instr.makeSlice 43 (.int .i64 (N : Int)) (.int .i64 (N : Int))).run Try.prog w = .ok (.slice (some ⟨w.heap.size, 0, none⟩) N N) (w.alloc (.cells C 166)) ∧ COwn (w.alloc (.cells C 166)) w.heap.size N (fun _ => cel0) := by
  obtain ⟨i0, hi, hz0, hz1, hz2⟩ := info_parts Try.cellInfo
  have e : (Value.agg #[.string ⟨#[]⟩, .bool false, .bool false]).cells = #[.string ⟨#[]⟩, .bool false, .bool false] := rfl
  refine ⟨madeCells (Value.agg #[.string ⟨#[]⟩, .bool false, .bool false]).cells (N * 3), ?_, by simp, fun i hi => ⟨?_, ?_, ?_⟩, fun i hi => ?_⟩
  · have h := run_make (P := Try.prog) w 43 166 i0 (.agg #[.string ⟨#[]⟩, .bool false, .bool false]) Try.underlying43 hi hz0 .i64 .i64 (N : Int) (N : Int) (by omega) (Int.le_refl _) (by rw [hz2]; omega) (by omega)
    rw [h, hz1]
    simp
  · rw [World.cell?_alloc_mark, e]
    simp [madeCells, cel0, show i * 3 < N * 3 by omega, show i * 3 % 3 = 0 by omega]
  · rw [World.cell?_alloc_mark, e]
    simp [madeCells, cel0, show i * 3 + 1 < N * 3 by omega, show (i * 3 + 1) % 3 = 1 by omega]
  · rw [World.cell?_alloc_mark, e]
    simp [madeCells, cel0, show i * 3 + 2 < N * 3 by omega, show (i * 3 + 2) % 3 = 2 by omega]
  · have h := heap_alloc_new w (.cells (madeCells (Value.agg #[.string ⟨#[]⟩, .bool false, .bool false]).cells (N * 3)) 166)
    exact frozen_of_row _ _ _ _ _ h
/-- A cell lies in a box of its own. -/
structure CBox (W : World) (p : Nat) (a : Cel) : Prop where
  c0 : W.cell? ⟨p, 0, none⟩ = some (.string a.c)
  c1 : W.cell? ⟨p, 1, none⟩ = some (.bool a.k)
  c2 : W.cell? ⟨p, 2, none⟩ = some (.bool a.o)
  lt : p < W.heap.size
theorem CBox.new (W : World) (a : Cel) (t : TypeId) : CBox (W.alloc (.cells #[.string a.c, .bool a.k, .bool a.o] t)) W.heap.size a := ⟨by simp, by simp, by simp, by simp⟩
theorem CBox.kept {W W' : World} {B p : Nat} {a : Cel} (h : CBox W p a) (hb : Below B W W') (hB : p < B) : CBox W' p a :=
  ⟨by rw [hb.cell (p := ⟨p, 0, none⟩) hB]; exact h.c0, by rw [hb.cell (p := ⟨p, 1, none⟩) hB]; exact h.c1, by rw [hb.cell (p := ⟨p, 2, none⟩) hB]; exact h.c2, Nat.lt_of_lt_of_le h.lt hb.size⟩
theorem CBox.all {W : World} {p : Nat} {a : Cel} (h : CBox W p a) : W.cell? ⟨p, 0, none⟩ = some (.string a.c) ∧ W.cell? ⟨p, 1, none⟩ = some (.bool a.k) ∧ W.cell? ⟨p, 2, none⟩ = some (.bool a.o) ∧ p < W.heap.size := ⟨h.c0, h.c1, h.c2, h.lt⟩
end Go.Proofs.Ytlgnplnmcdjbiaa
namespace Go.Proofs.Ytlgnplnmcdjbiaa
open Go.RowKit

/-- Some block of a stretch turned, no other. -/
def OnlyC (W W' : World) (lo hi : Nat) : Prop := ∃ row : Option Nat, W.grownBy W' row ∧ ∀ g, row = some g → lo ≤ g ∧ g < hi
theorem OnlyC.below {W W' : World} {lo hi B : Nat} (h : OnlyC W W' lo hi) (hB : B ≤ lo) (hs : B ≤ W.heap.size) : Below B W W' := by
  obtain ⟨row, hg, hr⟩ := h
  exact ⟨hg.os, hg.tape, hg.output, hg.size, fun k hk => hg.block k (by omega) (fun e => by have := hr k e.symm; omega)⟩
theorem OnlyC.size {W W' : World} {lo hi : Nat} (h : OnlyC W W' lo hi) : W.heap.size ≤ W'.heap.size := by
  obtain ⟨row, hg, hr⟩ := h
  exact hg.size
/-- A row of cells in a stretch of blocks. -/
def CSl (W : World) (lo hi : Nat) (sa : Option Addr) (n : Nat) (f : Nat → Cel) : Prop := n = 0 ∨ ∃ g, sa = some ⟨g, 0, none⟩ ∧ lo ≤ g ∧ g < hi ∧ COwn W g n f
theorem CSl.row {W : World} {lo hi n : Nat} {sa : Option Addr} {f : Nat → Cel} (h : CSl W lo hi sa n f) : CRow W W.heap.size sa n f := by
  rcases h with h | ⟨g, rfl, _, _, h3⟩
  · exact Or.inl h
  · exact h3.row h3.lt
theorem CSl.kept {W W' : World} {lo hi n : Nat} {sa : Option Addr} {f : Nat → Cel} (h : CSl W lo hi sa n f) (hb : Below W.heap.size W W') : CSl W' lo hi sa n f := by
  rcases h with h | ⟨g, h1, h2, h4, h3⟩
  · exact Or.inl h
  · exact Or.inr ⟨g, h1, h2, h4, h3.kept hb h3.lt⟩
theorem COwn.other {W W' : World} {g n : Nat} {row : Option Nat} {f : Nat → Cel} (h : COwn W g n f) (hg : W.grownBy W' row) (hne : row ≠ some g) : COwn W' g n f := by
  have hb := hg.block g h.lt (fun e => hne e.symm)
  refine ⟨Nat.lt_of_lt_of_le h.lt hg.size, fun i hi => ⟨?_, ?_, ?_⟩, fun i hi => ?_⟩
  · have := (h.at' i hi).c0
    simpa [World.cell?, hb] using this
  · have := (h.at' i hi).c1
    simpa [World.cell?, hb] using this
  · have := (h.at' i hi).c2
    simpa [World.cell?, hb] using this
  · have := h.free i hi
    simpa [World.frozen?, hb] using this
theorem CSl.only {W W' : World} {lo hi lo' hi' n : Nat} {sa : Option Addr} {f : Nat → Cel} (h : CSl W lo hi sa n f) (ho : OnlyC W W' lo' hi') (hd : hi ≤ lo' ∨ hi' ≤ lo) : CSl W' lo hi sa n f := by
  rcases h with h | ⟨g, h1, h2, h4, h3⟩
  · exact Or.inl h
  · obtain ⟨row, hg, hr⟩ := ho
    exact Or.inr ⟨g, h1, h2, h4, h3.other hg (fun e => by have := hr g e; omega)⟩
/-- A slice of cells in new memory. -/
def NewCells (w : World) (n : Nat) (f : Nat → Cel) (e : Ending) (w' : World) : Prop := ∃ (sa : Option Addr) (cap : Nat), e = .returned (.slice sa n cap) ∧ Below w.heap.size w w' ∧ CSl w' w.heap.size w'.heap.size sa n f
theorem grown_of_belowC {w w' : World} {row : Option Nat} (h : Below w.heap.size w w') : w.grownBy w' row := ⟨h.os, h.tape, h.output, h.size, fun k hk _ => h.block k hk⟩
end Go.Proofs.Ytlgnplnmcdjbiaa
namespace Go.Proofs.Ytlgnplnmcdjbiaa
open Go.RowKit

/-- Five vectors of so many bits. -/
def masksV (b : Int) (s : Nat → Option Addr) (n : Nat) (c : Nat → Nat) : Value := .agg #[.int .i64 b, .slice (s 0) n (c 0), .int .i64 b, .slice (s 1) n (c 1), .int .i64 b, .slice (s 2) n (c 2), .int .i64 b, .slice (s 3) n (c 3), .int .i64 b, .slice (s 4) n (c 4)]
/-- A box of five vectors. -/
def MBox (W : World) (p : Nat) (b : Int) (s : Nat → Option Addr) (n : Nat) (c : Nat → Nat) : Prop := W.heap[p]? = some (.cells #[.int .i64 b, .slice (s 0) n (c 0), .int .i64 b, .slice (s 1) n (c 1), .int .i64 b, .slice (s 2) n (c 2), .int .i64 b, .slice (s 3) n (c 3), .int .i64 b, .slice (s 4) n (c 4)] 50 (0, 0))
theorem MBox.lt {W : World} {p : Nat} {b : Int} {s : Nat → Option Addr} {n : Nat} {c : Nat → Nat} (h : MBox W p b s n c) : p < W.heap.size := lt_of_block h
theorem MBox.cells {W : World} {p : Nat} {b : Int} {s : Nat → Option Addr} {n : Nat} {c : Nat → Nat} (h : MBox W p b s n c) : W.cell? ⟨p, 0, none⟩ = some (.int .i64 b) ∧ W.cell? ⟨p, 1, none⟩ = some (.slice (s 0) n (c 0)) ∧ W.cell? ⟨p, 2, none⟩ = some (.int .i64 b) ∧ W.cell? ⟨p, 3, none⟩ = some (.slice (s 1) n (c 1)) ∧ W.cell? ⟨p, 4, none⟩ = some (.int .i64 b) ∧ W.cell? ⟨p, 5, none⟩ = some (.slice (s 2) n (c 2)) ∧ W.cell? ⟨p, 6, none⟩ = some (.int .i64 b) ∧ W.cell? ⟨p, 7, none⟩ = some (.slice (s 3) n (c 3)) ∧ W.cell? ⟨p, 8, none⟩ = some (.int .i64 b) ∧ W.cell? ⟨p, 9, none⟩ = some (.slice (s 4) n (c 4)) := by
  unfold MBox at h
  simp [World.cell?, h]
theorem MBox.free {W : World} {p : Nat} {b : Int} {s : Nat → Option Addr} {n : Nat} {c : Nat → Nat} (h : MBox W p b s n c) : W.frozen? ⟨p, 0, none⟩ = false ∧ W.frozen? ⟨p, 1, none⟩ = false ∧ W.frozen? ⟨p, 2, none⟩ = false ∧ W.frozen? ⟨p, 3, none⟩ = false ∧ W.frozen? ⟨p, 4, none⟩ = false ∧ W.frozen? ⟨p, 5, none⟩ = false ∧ W.frozen? ⟨p, 6, none⟩ = false ∧ W.frozen? ⟨p, 7, none⟩ = false ∧ W.frozen? ⟨p, 8, none⟩ = false ∧ W.frozen? ⟨p, 9, none⟩ = false :=
  ⟨frozen_of_row _ _ _ _ _ h, frozen_of_row _ _ _ _ _ h, frozen_of_row _ _ _ _ _ h, frozen_of_row _ _ _ _ _ h, frozen_of_row _ _ _ _ _ h, frozen_of_row _ _ _ _ _ h, frozen_of_row _ _ _ _ _ h, frozen_of_row _ _ _ _ _ h, frozen_of_row _ _ _ _ _ h, frozen_of_row _ _ _ _ _ h⟩
theorem MBox.kept {W W' : World} {B p : Nat} {b : Int} {s : Nat → Option Addr} {n : Nat} {c : Nat → Nat} (h : MBox W p b s n c) (hb : Below B W W') (hB : B = W.heap.size) : MBox W' p b s n c := by
  unfold MBox
  rw [hb.block p (by rw [hB]; exact h.lt)]
  exact h
theorem MBox.setOther {W : World} {p : Nat} {b : Int} {s : Nat → Option Addr} {n : Nat} {c : Nat → Nat} (h : MBox W p b s n c) (a : Addr) (v : Value) (hne : a.block ≠ p) : MBox (W.setCell a v) p b s n c := by
  unfold MBox
  rw [Below.heap_setCell _ _ _ _ (fun e => hne e.symm)]
  exact h
theorem MBox.grown {W W' : World} {g p : Nat} {b : Int} {s : Nat → Option Addr} {n : Nat} {c : Nat → Nat} (h : MBox W p b s n c) (hg : W.grownBy W' (some g)) (hne : p ≠ g) : MBox W' p b s n c := by
  unfold MBox
  rw [hg.block p h.lt (fun e => hne (by injection e))]
  exact h
/-- Five vectors are put into a box. -/
theorem mboxing (W : World) (b : Int) (s : Nat → Option Addr) (n : Nat) (c : Nat → Nat) : Below W.heap.size W (W.alloc (.cells #[.int .i64 b, .slice (s 0) n (c 0), .int .i64 b, .slice (s 1) n (c 1), .int .i64 b, .slice (s 2) n (c 2), .int .i64 b, .slice (s 3) n (c 3), .int .i64 b, .slice (s 4) n (c 4)] 50)) ∧ MBox (W.alloc (.cells #[.int .i64 b, .slice (s 0) n (c 0), .int .i64 b, .slice (s 1) n (c 1), .int .i64 b, .slice (s 2) n (c 2), .int .i64 b, .slice (s 3) n (c 3), .int .i64 b, .slice (s 4) n (c 4)] 50)) W.heap.size b s n c ∧ (W.alloc (.cells #[.int .i64 b, .slice (s 0) n (c 0), .int .i64 b, .slice (s 1) n (c 1), .int .i64 b, .slice (s 2) n (c 2), .int .i64 b, .slice (s 3) n (c 3), .int .i64 b, .slice (s 4) n (c 4)] 50)).heap.size = W.heap.size + 1 :=
  ⟨(Below.refl _ _).alloc (Nat.le_refl _) _, heap_alloc_new W _, by simp⟩
/-- Blocks of a stretch turned, no others. -/
structure OnlyM (W W' : World) (lo hi : Nat) : Prop where
  os : W'.os = W.os
  tape : W'.tape = W.tape
  output : W'.output = W.output
  size : W.heap.size ≤ W'.heap.size
  block : ∀ k, k < W.heap.size → (k < lo ∨ hi ≤ k) → W'.heap[k]? = W.heap[k]?
theorem OnlyM.refl (W : World) (lo hi : Nat) : OnlyM W W lo hi := ⟨rfl, rfl, rfl, Nat.le_refl _, fun _ _ _ => rfl⟩
theorem OnlyM.trans {W W1 W2 : World} {lo hi : Nat} (h : OnlyM W W1 lo hi) (h' : OnlyM W1 W2 lo hi) : OnlyM W W2 lo hi :=
  ⟨h'.os.trans h.os, h'.tape.trans h.tape, h'.output.trans h.output, Nat.le_trans h.size h'.size, fun k hk hd => (h'.block k (Nat.lt_of_lt_of_le hk h.size) hd).trans (h.block k hk hd)⟩
theorem OnlyM.of {W W' : World} {lo hi lo' hi' : Nat} (h : OnlyIn W W' lo hi) (hl : lo' ≤ lo) (hh : hi ≤ hi') : OnlyM W W' lo' hi' := by
  obtain ⟨row, hg, hr⟩ := h
  exact ⟨hg.os, hg.tape, hg.output, hg.size, fun k hk hd => hg.block k hk (fun e => by have := hr k e.symm; omega)⟩
theorem OnlyM.ofBelow {W W' : World} {lo hi : Nat} (h : Below W.heap.size W W') : OnlyM W W' lo hi := ⟨h.os, h.tape, h.output, h.size, fun k hk _ => h.block k hk⟩
theorem OnlyM.below {W W' : World} {lo hi B : Nat} (h : OnlyM W W' lo hi) (hB : B ≤ lo) (hs : B ≤ W.heap.size) : Below B W W' :=
  ⟨h.os, h.tape, h.output, h.size, fun k hk => h.block k (by omega) (Or.inl (by omega))⟩
theorem MBox.onlyM {W W' : World} {lo hi p : Nat} {b : Int} {s : Nat → Option Addr} {n : Nat} {c : Nat → Nat} (h : MBox W p b s n c) (ho : OnlyM W W' lo hi) (hp : p < lo ∨ hi ≤ p) : MBox W' p b s n c := by
  unfold MBox
  rw [ho.block p h.lt hp]
  exact h
theorem MBox.only {W W' : World} {lo hi p : Nat} {b : Int} {s : Nat → Option Addr} {n : Nat} {c : Nat → Nat} (h : MBox W p b s n c) (ho : OnlyIn W W' lo hi) (hp : p < lo ∨ hi ≤ p) : MBox W' p b s n c := h.onlyM (OnlyM.of ho (Nat.le_refl _) (Nat.le_refl _)) hp
theorem CSl.onlyM {W W' : World} {lo hi lo' hi' n : Nat} {sa : Option Addr} {f : Nat → Cel} (h : CSl W lo hi sa n f) (ho : OnlyM W W' lo' hi') (hd : hi ≤ lo' ∨ hi' ≤ lo) : CSl W' lo hi sa n f := by
  rcases h with h | ⟨g, h1, h2, h4, h⟩
  · exact Or.inl h
  · have hb := ho.block g h.lt (by omega)
    refine Or.inr ⟨g, h1, h2, h4, ⟨Nat.lt_of_lt_of_le h.lt ho.size, fun i hi => ⟨?_, ?_, ?_⟩, fun i hi => ?_⟩⟩
    · have := (h.at' i hi).c0
      simpa [World.cell?, hb] using this
    · have := (h.at' i hi).c1
      simpa [World.cell?, hb] using this
    · have := (h.at' i hi).c2
      simpa [World.cell?, hb] using this
    · have := h.free i hi
      simpa [World.frozen?, hb] using this
theorem Slice.onlyM {W W' : World} {lo hi lo' hi' n : Nat} {sa : Option Addr} {f : Nat → Int} (h : Slice W lo hi sa n f) (ho : OnlyM W W' lo' hi') (hd : hi ≤ lo' ∨ hi' ≤ lo) : Slice W' lo hi sa n f := by
  rcases h with h | ⟨g, h1, h2, h4, h3⟩
  · exact Or.inl h
  · refine Or.inr ⟨g, h1, h2, h4, ?_⟩
    have hb := ho.block g h3.1 (by omega)
    refine ⟨Nat.lt_of_lt_of_le h3.1 ho.size, fun i hi => ?_, fun i hi => ?_⟩
    · have := h3.2.1 i hi
      simpa [World.cell?, hb] using this
    · have := h3.2.2 i hi
      simpa [World.frozen?, hb] using this
/-- Five rows, each in a stretch of blocks of its own. -/
structure MSl (W : World) (h : Nat → Nat) (s : Nat → Option Addr) (n : Nat) (F : Nat → Nat → Int) : Prop where
  r0 : Slice W (h 0) (h 1) (s 0) n (F 0)
  r1 : Slice W (h 1) (h 2) (s 1) n (F 1)
  r2 : Slice W (h 2) (h 3) (s 2) n (F 2)
  r3 : Slice W (h 3) (h 4) (s 3) n (F 3)
  r4 : Slice W (h 4) (h 5) (s 4) n (F 4)
  up : h 0 ≤ h 1 ∧ h 1 ≤ h 2 ∧ h 2 ≤ h 3 ∧ h 3 ≤ h 4 ∧ h 4 ≤ h 5
theorem MSl.kept {W W' : World} {h : Nat → Nat} {s : Nat → Option Addr} {n : Nat} {F : Nat → Nat → Int} (m : MSl W h s n F) (hb : Below W.heap.size W W') : MSl W' h s n F :=
  ⟨m.r0.kept hb rfl, m.r1.kept hb rfl, m.r2.kept hb rfl, m.r3.kept hb rfl, m.r4.kept hb rfl, m.up⟩
theorem MSl.onlyM {W W' : World} {lo hi : Nat} {h : Nat → Nat} {s : Nat → Option Addr} {n : Nat} {F : Nat → Nat → Int} (m : MSl W h s n F) (ho : OnlyM W W' lo hi) (hd : h 5 ≤ lo ∨ hi ≤ h 0) : MSl W' h s n F := by
  have := m.up
  exact ⟨m.r0.onlyM ho (by omega), m.r1.onlyM ho (by omega), m.r2.onlyM ho (by omega), m.r3.onlyM ho (by omega), m.r4.onlyM ho (by omega), m.up⟩
theorem MSl.only {W W' : World} {lo hi : Nat} {h : Nat → Nat} {s : Nat → Option Addr} {n : Nat} {F : Nat → Nat → Int} (m : MSl W h s n F) (ho : OnlyC W W' lo hi) (hd : h 5 ≤ lo ∨ hi ≤ h 0) : MSl W' h s n F := by
  obtain ⟨row, hg, hr⟩ := ho
  exact m.onlyM (OnlyM.of ⟨row, hg, hr⟩ (Nat.le_refl _) (Nat.le_refl _)) hd
/-- Five vectors in new memory. -/
def NewMasks (w : World) (b : Int) (n : Nat) (F : Nat → Nat → Int) (e : Ending) (w' : World) : Prop :=
  ∃ (s : Nat → Option Addr) (c : Nat → Nat) (h : Nat → Nat), e = .returned (masksV b s n c) ∧ Below w.heap.size w w' ∧ MSl w' h s n F ∧ w.heap.size ≤ h 0 ∧ h 5 ≤ w'.heap.size
/-- Five addresses. -/
def five {α : Type} (a0 a1 a2 a3 a4 : α) : Nat → α := fun i => match i with
  | 0 => a0
  | 1 => a1
  | 2 => a2
  | 3 => a3
  | _ => a4
end Go.Proofs.Ytlgnplnmcdjbiaa
