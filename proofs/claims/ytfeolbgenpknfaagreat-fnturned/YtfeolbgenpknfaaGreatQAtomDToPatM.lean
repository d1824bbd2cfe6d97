/- What is said here: atoms in memory: rows that are read, rows that are owned, what turns in them.
   What is said here: right patterns as plain mathematics. -/
import Derived.Test.YtfeolbgenpknfaaGreatProg
import Derived.WalkKit
import Derived.WalkSpells
import Derived.RegionTactic
import Derived.BigRegion
import Derived.Deep.DeepCutAuto
import Derived.Laws.BytesArg
import Derived.Maps.AppendAt
import Derived.Test.YtfeolbgenpknfaaGreatQClassMToCellD
namespace Go.Proofs.YtfeolbgenpknfaaGreat
open Go.RowKit

/-- An atom: its class, how often at least, and at most. -/
structure Atm where
  c : ByteArray
  l : Int
  m : Int
/-- The atom of nothing. -/
def atm0 : Atm := ⟨⟨#[]⟩, 0, 0⟩
/-- An atom lies at a place. -/
structure AtomAt (w : World) (bb o : Nat) (a : Atm) : Prop where
  c0 : w.cell? ⟨bb, o, none⟩ = some (.string a.c)
  c1 : w.cell? ⟨bb, o + 1, none⟩ = some (.int .i64 a.l)
  c2 : w.cell? ⟨bb, o + 2, none⟩ = some (.int .i64 a.m)
/-- The atoms of a slice lie in cells of a block below B. -/
def ARow (w : World) (B : Nat) (sa : Option Addr) (n : Nat) (f : Nat → Atm) : Prop :=
  n = 0 ∨ ∃ bb off : Nat, sa = some ⟨bb, off, none⟩ ∧ bb < B ∧ ∀ i, i < n → AtomAt w bb (off + i * 3) (f i)
/-- A row of atoms that may be written: its block, its atoms. -/
structure AOwn (w : World) (g n : Nat) (f : Nat → Atm) : Prop where
  lt : g < w.heap.size
  at' : ∀ i, i < n → AtomAt w g (i * 3) (f i)
  free : ∀ j, j < n * 3 → w.frozen? ⟨g, j, none⟩ = false
theorem AtomAt.kept {w w' : World} {B bb o : Nat} {a : Atm} (h : AtomAt w bb o a) (hb : Below B w w') (hB : bb < B) : AtomAt w' bb o a :=
  ⟨by rw [hb.cell (p := ⟨bb, o, none⟩) hB]; exact h.c0, by rw [hb.cell (p := ⟨bb, o + 1, none⟩) hB]; exact h.c1, by rw [hb.cell (p := ⟨bb, o + 2, none⟩) hB]; exact h.c2⟩
theorem AOwn.row {w : World} {g n B : Nat} {f : Nat → Atm} (h : AOwn w g n f) (hB : g < B) : ARow w B (some ⟨g, 0, none⟩) n f :=
  Or.inr ⟨g, 0, rfl, hB, fun i hi => by rw [Nat.zero_add]; exact h.at' i hi⟩
theorem AOwn.congr {w : World} {g n : Nat} {f f' : Nat → Atm} (h : AOwn w g n f) (he : ∀ i, i < n → f i = f' i) : AOwn w g n f' :=
  ⟨h.lt, fun i hi => by rw [← he i hi]; exact h.at' i hi, h.free⟩
theorem ARow.congr {w : World} {B n : Nat} {sa : Option Addr} {f f' : Nat → Atm} (h : ARow w B sa n f) (he : ∀ i, i < n → f i = f' i) : ARow w B sa n f' := by
  rcases h with h | ⟨bb, off, h1, h2, h3⟩
  · exact Or.inl h
  · exact Or.inr ⟨bb, off, h1, h2, fun i hi => by rw [← he i hi]; exact h3 i hi⟩
theorem ARow.up {w : World} {B B' n : Nat} {sa : Option Addr} {f : Nat → Atm} (h : ARow w B sa n f) (hB : B ≤ B') : ARow w B' sa n f := by
  rcases h with h | ⟨bb, off, h1, h2, h3⟩
  · exact Or.inl h
  · exact Or.inr ⟨bb, off, h1, by omega, h3⟩
theorem ARow.kept {w w' : World} {B n : Nat} {sa : Option Addr} {f : Nat → Atm} (h : ARow w B sa n f) (hb : Below B w w') : ARow w' B sa n f := by
  rcases h with h | ⟨bb, off, h1, h2, h3⟩
  · exact Or.inl h
  · exact Or.inr ⟨bb, off, h1, h2, fun i hi => (h3 i hi).kept hb h2⟩
/-- A row in a later world. -/
theorem ARow.late {w w' : World} {n : Nat} {sa : Option Addr} {f : Nat → Atm} (h : ARow w w.heap.size sa n f) (hb : Below w.heap.size w w') : ARow w' w'.heap.size sa n f := (h.kept hb).up hb.size
theorem ARow.at {w w' : World} {n k : Nat} {sa : Option Addr} {f : Nat → Atm} (h : ARow w w.heap.size sa n f) (hb : Below w.heap.size w w') (hk : k < n) : ∃ bb off : Nat, sa = some ⟨bb, off, none⟩ ∧ bb < w.heap.size ∧ AtomAt w' bb (off + k * 3) (f k) := by
  rcases h with h | ⟨bb, off, h1, h2, h3⟩
  · omega
  · exact ⟨bb, off, h1, h2, (h3 k hk).kept hb h2⟩
theorem AOwn.kept {w w' : World} {B g n : Nat} {f : Nat → Atm} (h : AOwn w g n f) (hb : Below B w w') (hg : g < B) : AOwn w' g n f :=
  ⟨Nat.lt_of_lt_of_le h.lt hb.size, fun i hi => (h.at' i hi).kept hb hg, fun i hi => by rw [hb.frozen (p := ⟨g, i, none⟩) hg]; exact h.free i hi⟩
theorem AOwn.drew {w : World} {g n : Nat} {f : Nat → Atm} (h : AOwn w g n f) : AOwn w.drew g n f := ⟨h.lt, fun i hi => ⟨(h.at' i hi).c0, (h.at' i hi).c1, (h.at' i hi).c2⟩, h.free⟩
/-- An atom's cells are written. -/
theorem AOwn.set {w : World} {g n p : Nat} {f : Nat → Atm} (h : AOwn w g n f) (hp : p < n) (a : Atm) :
    AOwn (((w.setCell ⟨g, p * 3, none⟩ (.string a.c)).setCell ⟨g, p * 3 + 1, none⟩ (.int .i64 a.l)).setCell ⟨g, p * 3 + 2, none⟩ (.int .i64 a.m)) g n (fun i => if i = p then a else f i) := by
  have hne : ∀ {x y : Nat}, x ≠ y → (⟨g, x, none⟩ : Addr) ≠ ⟨g, y, none⟩ := fun hxy hh => hxy (by injection hh)
  refine ⟨by simpa [World.setCell] using h.lt, fun i hi => ?_, fun i hi => ?_⟩
  · by_cases e : i = p
    · subst e
      obtain ⟨a0, a1, a2⟩ := h.at' i hi
      rw [if_pos rfl]
      refine ⟨?_, ?_, ?_⟩
      · rw [World.cell?_setCell_other _ _ _ _ (hne (by omega)), World.cell?_setCell_other _ _ _ _ (hne (by omega)), World.cell?_setCell_same _ _ _ a0]
      · rw [World.cell?_setCell_other _ _ _ _ (hne (by omega))]
        exact World.cell?_setCell_same _ _ _ (by rw [World.cell?_setCell_other _ _ _ _ (hne (by omega))]; exact a1)
      · exact World.cell?_setCell_same _ _ _ (by rw [World.cell?_setCell_other _ _ _ _ (hne (by omega)), World.cell?_setCell_other _ _ _ _ (hne (by omega))]; exact a2)
    · rw [if_neg e]
      obtain ⟨a0, a1, a2⟩ := h.at' i hi
      refine ⟨?_, ?_, ?_⟩
      all_goals rw [World.cell?_setCell_other _ _ _ _ (hne (by omega)), World.cell?_setCell_other _ _ _ _ (hne (by omega)), World.cell?_setCell_other _ _ _ _ (hne (by omega))]
      · exact a0
      · exact a1
      · exact a2
  · rw [World.frozen?_setCell, World.frozen?_setCell, World.frozen?_setCell]
    exact h.free i hi
/-- The cells of one atom. -/
theorem AOwn.parts {w : World} {g n p : Nat} {f : Nat → Atm} (h : AOwn w g n f) (hp : p < n) : (w.cell? ⟨g, p * 3, none⟩ = some (.string (f p).c) ∧ w.cell? ⟨g, p * 3 + 1, none⟩ = some (.int .i64 (f p).l) ∧ w.cell? ⟨g, p * 3 + 2, none⟩ = some (.int .i64 (f p).m)) ∧ w.frozen? ⟨g, p * 3, none⟩ = false ∧ w.frozen? ⟨g, p * 3 + 1, none⟩ = false ∧ w.frozen? ⟨g, p * 3 + 2, none⟩ = false :=
  ⟨⟨(h.at' p hp).c0, (h.at' p hp).c1, (h.at' p hp).c2⟩, h.free _ (by omega), h.free _ (by omega), h.free _ (by omega)⟩
theorem Tryz.atomInfo : (Tryz.prog.info? 135).map (fun i => (i.zero, i.size, i.bytes)) = some (some (.agg #[.string ⟨#[]⟩, .int .i64 0, .int .i64 0]), 3, 32) := by kernel_rfl
/-- A new slice of so many atoms of nothing. -/
theorem make_atoms (w : World) (N : Nat) (hN : N ≤ 10000000) : ∃ C : Array Value, (Instr.makeSlice 102 (.int .i64 (N : Int)) (.int .i64 (N : Int))).run Tryz.prog w = .ok (.slice (some ⟨w.heap.size, 0, none⟩) N N) (w.alloc (.cells C 135)) ∧ AOwn (w.alloc (.cells C 135)) w.heap.size N (fun _ => atm0) := by
  obtain ⟨i0, hi, hz0, hz1, hz2⟩ := info_parts Tryz.atomInfo
  have e : (Value.agg #[.string ⟨#[]⟩, .int .i64 0, .int .i64 0]).cells = #[.string ⟨#[]⟩, .int .i64 0, .int .i64 0] := rfl
  refine ⟨madeCells (Value.agg #[.string ⟨#[]⟩, .int .i64 0, .int .i64 0]).cells (N * 3), ?_, by simp, fun i hi => ⟨?_, ?_, ?_⟩, fun i hi => ?_⟩
  · have h := run_make (P := Tryz.prog) w 102 135 i0 (.agg #[.string ⟨#[]⟩, .int .i64 0, .int .i64 0]) Tryz.underlying102 hi hz0 .i64 .i64 (N : Int) (N : Int) (by omega) (Int.le_refl _) (by rw [hz2]; omega) (by omega)
    rw [h, hz1]
    simp
  · rw [World.cell?_alloc_mark, e]
    simp [madeCells, atm0, show i * 3 < N * 3 by omega, show i * 3 % 3 = 0 by omega]
  · rw [World.cell?_alloc_mark, e]
    simp [madeCells, atm0, show i * 3 + 1 < N * 3 by omega, show (i * 3 + 1) % 3 = 1 by omega]
  · rw [World.cell?_alloc_mark, e]
    simp [madeCells, atm0, show i * 3 + 2 < N * 3 by omega, show (i * 3 + 2) % 3 = 2 by omega]
  · have h := heap_alloc_new w (.cells (madeCells (Value.agg #[.string ⟨#[]⟩, .int .i64 0, .int .i64 0]).cells (N * 3)) 135)
    exact frozen_of_row _ _ _ _ _ h
/-- An atom lies in a box of its own. -/
structure ABox (W : World) (p : Nat) (a : Atm) : Prop where
  c0 : W.cell? ⟨p, 0, none⟩ = some (.string a.c)
  c1 : W.cell? ⟨p, 1, none⟩ = some (.int .i64 a.l)
  c2 : W.cell? ⟨p, 2, none⟩ = some (.int .i64 a.m)
  lt : p < W.heap.size
theorem ABox.new (W : World) (a : Atm) (t : TypeId) : ABox (W.alloc (.cells #[.string a.c, .int .i64 a.l, .int .i64 a.m] t)) W.heap.size a := ⟨by simp, by simp, by simp, by simp⟩
theorem ABox.kept {W W' : World} {B p : Nat} {a : Atm} (h : ABox W p a) (hb : Below B W W') (hB : p < B) : ABox W' p a :=
  ⟨by rw [hb.cell (p := ⟨p, 0, none⟩) hB]; exact h.c0, by rw [hb.cell (p := ⟨p, 1, none⟩) hB]; exact h.c1, by rw [hb.cell (p := ⟨p, 2, none⟩) hB]; exact h.c2, Nat.lt_of_lt_of_le h.lt hb.size⟩
theorem ABox.all {W : World} {p : Nat} {a : Atm} (h : ABox W p a) : W.cell? ⟨p, 0, none⟩ = some (.string a.c) ∧ W.cell? ⟨p, 1, none⟩ = some (.int .i64 a.l) ∧ W.cell? ⟨p, 2, none⟩ = some (.int .i64 a.m) ∧ p < W.heap.size := ⟨h.c0, h.c1, h.c2, h.lt⟩
end Go.Proofs.YtfeolbgenpknfaaGreat
namespace Go.Proofs.YtfeolbgenpknfaaGreat
open Go.RowKit

/-- An atom is right. -/
def AtomRight (a : Atm) : Prop := RightC a.c ∧ 0 < a.c.size ∧ 0 ≤ a.l ∧ a.l ≤ 20 ∧ (a.m = -1 ∨ (a.l ≤ a.m ∧ 1 ≤ a.m ∧ a.m ≤ 20))
/-- How much an atom counts. -/
def counted (a : Atm) : Int := if a.m = -1 then (if a.l < 1 then 1 else a.l) else a.m
/-- The sum of the first k numbers. -/
def sumTo (g : Nat → Int) : Nat → Int
  | 0 => 0
  | k + 1 => sumTo g k + g k
/-- A pattern is right. -/
def PatRight (n : Nat) (f : Nat → Atm) : Prop := 1 ≤ n ∧ n ≤ 20 ∧ (∀ i, i < n → AtomRight (f i)) ∧ sumTo (fun i => counted (f i)) n ≤ 40
theorem counted_bd {a : Atm} (h : AtomRight a) : 1 ≤ counted a ∧ counted a ≤ 20 := by
  obtain ⟨_, _, h3, h4, h5⟩ := h
  unfold counted
  split
  · split <;> omega
  · omega
theorem sumTo_bd {g : Nat → Int} {b : Int} (hb : 0 ≤ b) : ∀ k, (∀ i, i < k → 0 ≤ g i ∧ g i ≤ b) → 0 ≤ sumTo g k ∧ sumTo g k ≤ b * k
  | 0, _ => by simp [sumTo]
  | k + 1, h => by
    have h1 := sumTo_bd hb k (fun i hi => h i (by omega))
    have h2 := h k (by omega)
    have e : b * ((k + 1 : Nat) : Int) = b * k + b := by rw [Int.natCast_add, Int.mul_add]; simp
    rw [e]
    show 0 ≤ sumTo g k + g k ∧ sumTo g k + g k ≤ b * k + b
    omega
theorem sumTo_congr {g h : Nat → Int} : ∀ k, (∀ i, i < k → g i = h i) → sumTo g k = sumTo h k
  | 0, _ => rfl
  | k + 1, e => by
    show sumTo g k + g k = sumTo h k + h k
    rw [sumTo_congr k (fun i hi => e i (by omega)), e k (by omega)]
theorem patRight_congr {n : Nat} {f g : Nat → Atm} (e : ∀ i, i < n → f i = g i) (h : PatRight n f) : PatRight n g :=
  ⟨h.1, h.2.1, fun i hi => by rw [← e i hi]; exact h.2.2.1 i hi, by rw [sumTo_congr n (fun i hi => by rw [← e i hi])]; exact h.2.2.2⟩
theorem empty_of {c : ByteArray} (h : ¬ 0 < c.size) : c = ⟨#[]⟩ := by
  apply ByteArray.ext
  have : c.data.size = 0 := by have : c.size = c.data.size := rfl; omega
  exact Array.size_eq_zero_iff.1 this
theorem some_of {c : ByteArray} (h : 0 < c.size) : (¬ c.toList = []) ∧ c.toList.isEmpty = false := by
  rw [ByteArray.toList_eq]
  have h2 : c.data.toList ≠ [] := by
    intro e
    have : c.data.toList.length = c.size := by simp
    rw [e] at this
    simp at this
    omega
  exact ⟨h2, by simpa using h2⟩
theorem none_of {c : ByteArray} (h : ¬ 0 < c.size) : c.toList = [] ∧ c.toList.isEmpty = true := by
  rw [empty_of h, ByteArray.toList_eq]
  exact ⟨rfl, rfl⟩
end Go.Proofs.YtfeolbgenpknfaaGreat
