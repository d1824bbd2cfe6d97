/- What is said here: atoms in memory: rows that are read, rows that are owned, what turns in them. -/
import Derived.Test.YtfeolbgenpknfaaProg
import Derived.WalkKit
import Derived.WalkSpells
import Derived.RegionTactic
import Derived.BigRegion
import Derived.Deep.DeepCutAuto
import Derived.Laws.BytesArg
import Derived.Maps.AppendAt
namespace Go.Proofs.Ytfeolbgenpknfaa
open Go.RowKit

/-- An atom: its class, how often at least, and at most. -/
structure Atm where
  c : ByteArray
  l : Int
  m : Int
/-- The atom of nothing. -/
def atm0 : Atm := ⟨⟨#[]⟩, 0, 0⟩
/-- An atom lies at a place. -/
structure AtomAt (w : World) (bb o : Nat) (a : Atm) : Prop where
  c0 : w.cell? ⟨bb, o, none⟩ = some (.string a.c)
  c1 : w.cell? ⟨bb, o + 1, none⟩ = some (.int .i64 a.l)
  c2 : w.cell? ⟨bb, o + 2, none⟩ = some (.int .i64 a.m)
/-- The atoms of a slice lie in cells of a block below B. -/
def ARow (w : World) (B : Nat) (sa : Option Addr) (n : Nat) (f : Nat → Atm) : Prop :=
  n = 0 ∨ ∃ bb off : Nat, sa = some ⟨bb, off, none⟩ ∧ bb < B ∧ ∀ i, i < n → AtomAt w bb (off + i * 3) (f i)
/-- A row of atoms that may be written: its block, its atoms. -/
structure AOwn (w : World) (g n : Nat) (f : Nat → Atm) : Prop where
  lt : g < w.heap.size
  at' : ∀ i, i < n → AtomAt w g (i * 3) (f i)
  free : ∀ j, j < n * 3 → w.frozen? ⟨g, j, none⟩ = false
theorem AtomAt.kept {w w' : World} {B bb o : Nat} {a : Atm} (h : AtomAt w bb o a) (hb : Below B w w') (hB : bb < B) : AtomAt w' bb o a :=
  ⟨by rw [hb.cell (p := ⟨bb, o, none⟩) hB]; exact h.c0, by rw [hb.cell (p := ⟨bb, o + 1, none⟩) hB]; exact h.c1, by rw [hb.cell (p := ⟨bb, o + 2, none⟩) hB]; exact h.c2⟩
theorem AOwn.row {w : World} {g n B : Nat} {f : Nat → Atm} (h : AOwn w g n f) (hB : g < B) : ARow w B (some ⟨g, 0, none⟩) n f :=
  Or.inr ⟨g, 0, rfl, hB, fun i hi => by rw [Nat.zero_add]; exact h.at' i hi⟩
theorem AOwn.congr {w : World} {g n : Nat} {f f' : Nat → Atm} (h : AOwn w g n f) (he : ∀ i, i < n → f i = f' i) : AOwn w g n f' :=
  ⟨h.lt, fun i hi => by rw [← he i hi]; exact h.at' i hi, h.free⟩
theorem ARow.congr {w : World} {B n : Nat} {sa : Option Addr} {f f' : Nat → Atm} (h : ARow w B sa n f) (he : ∀ i, i < n → f i = f' i) : ARow w B sa n f' := by
  rcases h with h | ⟨bb, off, h1, h2, h3⟩
  · exact Or.inl h
  · exact Or.inr ⟨bb, off, h1, h2, fun i hi => by rw [← he i hi]; exact h3 i hi⟩
theorem ARow.up {w : World} {B B' n : Nat} {sa : Option Addr} {f : Nat → Atm} (h : ARow w B sa n f) (hB : B ≤ B') : ARow w B' sa n f := by
  rcases h with h | ⟨bb, off, h1, h2, h3⟩
  · exact Or.inl h
  · exact Or.inr ⟨bb, off, h1, by omega, h3⟩
theorem ARow.kept {w w' : World} {B n : Nat} {sa : Option Addr} {f : Nat → Atm} (h : ARow w B sa n f) (hb : Below B w w') : ARow w' B sa n f := by
  rcases h with h | ⟨bb, off, h1, h2, h3⟩
  · exact Or.inl h
  · exact Or.inr ⟨bb, off, h1, h2, fun i hi => (h3 i hi).kept hb h2⟩
/-- A row in a later world. -/
theorem ARow.late {w w' : World} {n : Nat} {sa : Option Addr} {f : Nat → Atm} (h : ARow w w.heap.size sa n f) (hb : Below w.heap.size w w') : ARow w' w'.heap.size sa n f := (h.kept hb).up hb.size
theorem ARow.at {w w' : World} {n k : Nat} {sa : Option Addr} {f : Nat → Atm} (h : ARow w w.heap.size sa n f) (hb : Below w.heap.size w w') (hk : k < n) : ∃ bb off : Nat, sa = some ⟨bb, off, none⟩ ∧ bb < w.heap.size ∧ AtomAt w' bb (off + k * 3) (f k) := by
  rcases h with h | ⟨bb, off, h1, h2, h3⟩
  · omega
  · exact ⟨bb, off, h1, h2, (h3 k hk).kept hb h2⟩
theorem AOwn.kept {w w' : World} {B g n : Nat} {f : Nat → Atm} (h : AOwn w g n f) (hb : Below B w w') (hg : g < B) : AOwn w' g n f :=
  ⟨Nat.lt_of_lt_of_le h.lt hb.size, fun i hi => (h.at' i hi).kept hb hg, fun i hi => by rw [hb.frozen (p := ⟨g, i, none⟩) hg]; exact h.free i hi⟩
theorem AOwn.drew {w : World} {g n : Nat} {f : Nat → Atm} (h : AOwn w g n f) : AOwn w.drew g n f := ⟨h.lt, fun i hi => ⟨(h.at' i hi).c0, (h.at' i hi).c1, (h.at' i hi).c2⟩, h.free⟩
/-- An atom's cells are written. -/
theorem AOwn.set {w : World} {g n p : Nat} {f : Nat → Atm} (h : AOwn w g n f) (hp : p < n) (a : Atm) :
    AOwn (((w.setCell ⟨g, p * 3, none⟩ (.string a.c)).setCell ⟨g, p * 3 + 1, none⟩ (.int .i64 a.l)).setCell ⟨g, p * 3 + 2, none⟩ (.int .i64 a.m)) g n (fun i => if i = p then a else f i) := by
  have hne : ∀ {x y : Nat}, x ≠ y → (⟨g, x, none⟩ : Addr) ≠ ⟨g, y, none⟩ := fun hxy hh => hxy (by injection hh)
  refine ⟨by simpa [World.setCell] using h.lt, fun i hi => ?_, fun i hi => ?_⟩
  · by_cases e : i = p
    · subst e
      obtain ⟨a0, a1, a2⟩ := h.at' i hi
      rw [if_pos rfl]
      refine ⟨?_, ?_, ?_⟩
      · rw [World.cell?_setCell_other _ _ _ _ (hne (by omega)), World.cell?_setCell_other _ _ _ _ (hne (by omega)), World.cell?_setCell_same _ _ _ a0]
      · rw [World.cell?_setCell_other _ _ _ _ (hne (by omega))]
        exact World.cell?_setCell_same _ _ _ (by rw [World.cell?_setCell_other _ _ _ _ (hne (by omega))]; exact a1)
      · exact World.cell?_setCell_same _ _ _ (by rw [World.cell?_setCell_other _ _ _ _ (hne (by omega)), World.cell?_setCell_other _ _ _ _ (hne (by omega))]; exact a2)
    · rw [if_neg e]
      obtain ⟨a0, a1, a2⟩ := h.at' i hi
      refine ⟨?_, ?_, ?_⟩
      all_goals rw [World.cell?_setCell_other _ _ _ _ (hne (by omega)), World.cell?_setCell_other _ _ _ _ (hne (by omega)), World.cell?_setCell_other _ _ _ _ (hne (by omega))]
      · exact a0
      · exact a1
      · exact a2
  · rw [World.frozen?_setCell, World.frozen?_setCell, World.frozen?_setCell]
    exact h.free i hi
/-- The cells of one atom. -/
theorem AOwn.parts {w : World} {g n p : Nat} {f : Nat → Atm} (h : AOwn w g n f) (hp : p < n) : (w.cell? ⟨g, p * 3, none⟩ = some (.string (f p).c) ∧ w.cell? ⟨g, p * 3 + 1, none⟩ = some (.int .i64 (f p).l) ∧ w.cell? ⟨g, p * 3 + 2, none⟩ = some (.int .i64 (f p).m)) ∧ w.frozen? ⟨g, p * 3, none⟩ = false ∧ w.frozen? ⟨g, p * 3 + 1, none⟩ = false ∧ w.frozen? ⟨g, p * 3 + 2, none⟩ = false :=
  ⟨⟨(h.at' p hp).c0, (h.at' p hp).c1, (h.at' p hp).c2⟩, h.free _ (by omega), h.free _ (by omega), h.free _ (by omega)⟩
theorem Try.atomInfo : (Try.prog.info? 89).map (fun i => (i.zero, i.size, i.bytes)) = some (some (.agg #[.string ⟨#[]⟩, .int .i64 0, .int .i64 0]), 3, 32) := by kernel_rfl
/-- A new slice of so many atoms of nothing. -/
theorem make_atoms (w : World) (N : Nat) (hN : N ≤ 10000000) : ∃ C : Array Value, (Instr.makeSlice 23 (.int .i64 (N : Int)) (.int .i64 (N : Int))).run Try.prog w = .ok (.slice (some ⟨w.heap.size, 0, none⟩) N N) (w.alloc (.cells C 89)) ∧ AOwn (w.alloc (.cells C 89)) w.heap.size N (fun _ => atm0) := by
  obtain ⟨i0, hi, hz0, hz1, hz2⟩ := info_parts Try.atomInfo
  have e : (Value.agg #[.string ⟨#[]⟩, .int .i64 0, .int .i64 0]).cells = #[.string ⟨#[]⟩, .int .i64 0, .int .i64 0] := rfl
  refine ⟨madeCells (Value.agg #[.string ⟨#[]⟩, .int .i64 0, .int .i64 0]).cells (N * 3), ?_, by simp, fun i hi => ⟨?_, ?_, ?_⟩, fun i hi => ?_⟩
  · have h := run_make (P := Try.prog) w 23 89 i0 (.agg #[.string ⟨#[]⟩, .int .i64 0, .int .i64 0]) Try.underlying23 hi hz0 .i64 .i64 (N : Int) (N : Int) (by omega) (Int.le_refl _) (by rw [hz2]; omega) (by omega)
    rw [h, hz1]
    simp
  · rw [World.cell?_alloc_mark, e]
    simp [madeCells, atm0, show i * 3 < N * 3 by omega, show i * 3 % 3 = 0 by omega]
  · rw [World.cell?_alloc_mark, e]
    simp [madeCells, atm0, show i * 3 + 1 < N * 3 by omega, show (i * 3 + 1) % 3 = 1 by omega]
  · rw [World.cell?_alloc_mark, e]
    simp [madeCells, atm0, show i * 3 + 2 < N * 3 by omega, show (i * 3 + 2) % 3 = 2 by omega]
  · have h := heap_alloc_new w (.cells (madeCells (Value.agg #[.string ⟨#[]⟩, .int .i64 0, .int .i64 0]).cells (N * 3)) 89)
    exact frozen_of_row _ _ _ _ _ h
/-- An atom lies in a box of its own. -/
structure ABox (W : World) (p : Nat) (a : Atm) : Prop where
  c0 : W.cell? ⟨p, 0, none⟩ = some (.string a.c)
  c1 : W.cell? ⟨p, 1, none⟩ = some (.int .i64 a.l)
  c2 : W.cell? ⟨p, 2, none⟩ = some (.int .i64 a.m)
  lt : p < W.heap.size
theorem ABox.new (W : World) (a : Atm) (t : TypeId) : ABox (W.alloc (.cells #[.string a.c, .int .i64 a.l, .int .i64 a.m] t)) W.heap.size a := ⟨by simp, by simp, by simp, by simp⟩
theorem ABox.kept {W W' : World} {B p : Nat} {a : Atm} (h : ABox W p a) (hb : Below B W W') (hB : p < B) : ABox W' p a :=
  ⟨by rw [hb.cell (p := ⟨p, 0, none⟩) hB]; exact h.c0, by rw [hb.cell (p := ⟨p, 1, none⟩) hB]; exact h.c1, by rw [hb.cell (p := ⟨p, 2, none⟩) hB]; exact h.c2, Nat.lt_of_lt_of_le h.lt hb.size⟩
theorem ABox.all {W : World} {p : Nat} {a : Atm} (h : ABox W p a) : W.cell? ⟨p, 0, none⟩ = some (.string a.c) ∧ W.cell? ⟨p, 1, none⟩ = some (.int .i64 a.l) ∧ W.cell? ⟨p, 2, none⟩ = some (.int .i64 a.m) ∧ p < W.heap.size := ⟨h.c0, h.c1, h.c2, h.lt⟩
end Go.Proofs.Ytfeolbgenpknfaa
