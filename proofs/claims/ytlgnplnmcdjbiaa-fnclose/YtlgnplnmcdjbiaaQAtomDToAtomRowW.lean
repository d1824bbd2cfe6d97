/- What is said here: atoms in memory: rows that are read, rows that are owned, what turns in them.
   What is said here: rows of atoms in a stretch of blocks; how calls leave them.
   What is proved here: slices of atoms that are appended to. -/
import Derived.Test.YtlgnplnmcdjbiaaProg
import Derived.WalkKit
import Derived.WalkSpells
import Derived.RegionTactic
import Derived.BigRegion
import Derived.Deep.DeepCutAuto
import Derived.Laws.BytesArg
import Derived.Maps.AppendAt
import Derived.Laws.AppendOwn
namespace Go.Proofs.Ytlgnplnmcdjbiaa
open Go.RowKit

/-- An atom: its class, how often at least, and at most. -/
structure Atm where
  c : ByteArray
  l : Int
  m : Int
/-- The atom of nothing. -/
def atm0 : Atm := ⟨⟨#[]⟩, 0, 0⟩
/-- An atom lies at a place. -/
structure AtomAt (w : World) (bb o : Nat) (a : Atm) : Prop where
  c0 : w.cell? ⟨bb, o, none⟩ = some (.string a.c)
  c1 : w.cell? ⟨bb, o + 1, none⟩ = some (.int .i64 a.l)
  c2 : w.cell? ⟨bb, o + 2, none⟩ = some (.int .i64 a.m)
/-- The atoms of a slice lie in cells of a block below B. -/
def ARow (w : World) (B : Nat) (sa : Option Addr) (n : Nat) (f : Nat → Atm) : Prop :=
  n = 0 ∨ ∃ bb off : Nat, sa = some ⟨bb, off, none⟩ ∧ bb < B ∧ ∀ i, i < n → AtomAt w bb (off + i * 3) (f i)
/-- A row of atoms that may be written: its block, its atoms. -/
structure AOwn (w : World) (g n : Nat) (f : Nat → Atm) : Prop where
  lt : g < w.heap.size
  at' : ∀ i, i < n → AtomAt w g (i * 3) (f i)
  free : ∀ j, j < n * 3 → w.frozen? ⟨g, j, none⟩ = false
theorem AtomAt.kept {w w' : World} {B bb o : Nat} {a : Atm} (h : AtomAt w bb o a) (hb : Below B w w') (hB : bb < B) : AtomAt w' bb o a :=
  ⟨by rw [hb.cell (p := ⟨bb, o, none⟩) hB]; exact h.c0, by rw [hb.cell (p := ⟨bb, o + 1, none⟩) hB]; exact h.c1, by rw [hb.cell (p := ⟨bb, o + 2, none⟩) hB]; exact h.c2⟩
theorem AOwn.row {w : World} {g n B : Nat} {f : Nat → Atm} (h : AOwn w g n f) (hB : g < B) : ARow w B (some ⟨g, 0, none⟩) n f :=
  Or.inr ⟨g, 0, rfl, hB, fun i hi => by rw [Nat.zero_add]; exact h.at' i hi⟩
theorem AOwn.congr {w : World} {g n : Nat} {f f' : Nat → Atm} (h : AOwn w g n f) (he : ∀ i, i < n → f i = f' i) : AOwn w g n f' :=
  ⟨h.lt, fun i hi => by rw [← he i hi]; exact h.at' i hi, h.free⟩
theorem ARow.congr {w : World} {B n : Nat} {sa : Option Addr} {f f' : Nat → Atm} (h : ARow w B sa n f) (he : ∀ i, i < n → f i = f' i) : ARow w B sa n f' := by
  rcases h with h | ⟨bb, off, h1, h2, h3⟩
  · exact Or.inl h
  · exact Or.inr ⟨bb, off, h1, h2, fun i hi => by rw [← he i hi]; exact h3 i hi⟩
theorem ARow.up {w : World} {B B' n : Nat} {sa : Option Addr} {f : Nat → Atm} (h : ARow w B sa n f) (hB : B ≤ B') : ARow w B' sa n f := by
  rcases h with h | ⟨bb, off, h1, h2, h3⟩
  · exact Or.inl h
  · exact Or.inr ⟨bb, off, h1, by omega, h3⟩
theorem ARow.kept {w w' : World} {B n : Nat} {sa : Option Addr} {f : Nat → Atm} (h : ARow w B sa n f) (hb : Below B w w') : ARow w' B sa n f := by
  rcases h with h | ⟨bb, off, h1, h2, h3⟩
  · exact Or.inl h
  · exact Or.inr ⟨bb, off, h1, h2, fun i hi => (h3 i hi).kept hb h2⟩
/-- A row in a later world. -/
theorem ARow.late {w w' : World} {n : Nat} {sa : Option Addr} {f : Nat → Atm} (h : ARow w w.heap.size sa n f) (hb : Below w.heap.size w w') : ARow w' w'.heap.size sa n f := (h.kept hb).up hb.size
theorem ARow.at {w w' : World} {n k : Nat} {sa : Option Addr} {f : Nat → Atm} (h : ARow w w.heap.size sa n f) (hb : Below w.heap.size w w') (hk : k < n) : ∃ bb off : Nat, sa = some ⟨bb, off, none⟩ ∧ bb < w.heap.size ∧ AtomAt w' bb (off + k * 3) (f k) := by
  rcases h with h | ⟨bb, off, h1, h2, h3⟩
  · omega
  · exact ⟨bb, off, h1, h2, (h3 k hk).kept hb h2⟩
theorem AOwn.kept {w w' : World} {B g n : Nat} {f : Nat → Atm} (h : AOwn w g n f) (hb : Below B w w') (hg : g < B) : AOwn w' g n f :=
  ⟨Nat.lt_of_lt_of_le h.lt hb.size, fun i hi => (h.at' i hi).kept hb hg, fun i hi => by rw [hb.frozen (p := ⟨g, i, none⟩) hg]; exact h.free i hi⟩
theorem AOwn.drew {w : World} {g n : Nat} {f : Nat → Atm} (h : AOwn w g n f) : AOwn w.drew g n f := ⟨h.lt, fun i hi => ⟨(h.at' i hi).c0, (h.at' i hi).c1, (h.at' i hi).c2⟩, h.free⟩
/-- An atom's cells are written. -/
theorem AOwn.set {w : World} {g n p : Nat} {f : Nat → Atm} (h : AOwn w g n f) (hp : p < n) (a : Atm) :
    AOwn (((w.setCell ⟨g, p * 3, none⟩ (.string a.c)).setCell ⟨g, p * 3 + 1, none⟩ (.int .i64 a.l)).setCell ⟨g, p * 3 + 2, none⟩ (.int .i64 a.m)) g n (fun i => if i = p then a else f i) := by
  have hne : ∀ {x y : Nat}, x ≠ y → (⟨g, x, none⟩ : Addr) ≠ ⟨g, y, none⟩ := fun hxy hh => hxy (by injection hh)
  refine ⟨by simpa [World.setCell] using h.lt, fun i hi => ?_, fun i hi => ?_⟩
  · by_cases e : i = p
    · subst e
      obtain ⟨a0, a1, a2⟩ := h.at' i hi
      rw [if_pos rfl]
      refine ⟨?_, ?_, ?_⟩
      · rw [World.cell?_setCell_other _ _ _ _ (hne (by omega)), World.cell?_setCell_other _ _ _ _ (hne (by omega)), World.cell?_setCell_same _ _ _ a0]
      · rw [World.cell?_setCell_other _ _ _ _ (hne (by omega))]
        exact World.cell?_setCell_same _ _ _ (by rw [World.cell?_setCell_other _ _ _ _ (hne (by omega))]; exact a1)
      · exact World.cell?_setCell_same _ _ _ (by rw [World.cell?_setCell_other _ _ _ _ (hne (by omega)), World.cell?_setCell_other _ _ _ _ (hne (by omega))]; exact a2)
    · rw [if_neg e]
      obtain ⟨a0, a1, a2⟩ := h.at' i hi
      refine ⟨?_, ?_, ?_⟩
      all_goals rw [World.cell?_setCell_other _ _ _ _ (hne (by omega)), World.cell?_setCell_other _ _ _ _ (hne (by omega)), World.cell?_setCell_other _ _ _ _ (hne (by omega))]
      · exact a0
      · exact a1
      · exact a2
  · rw [World.frozen?_setCell, World.frozen?_setCell, World.frozen?_setCell]
    exact h.free i hi
/-- The cells of one atom. -/
theorem AOwn.parts {w : World} {g n p : Nat} {f : Nat → Atm} (h : AOwn w g n f) (hp : p < n) : (w.cell? ⟨g, p * 3, none⟩ = some (.string (f p).c) ∧ w.cell? ⟨g, p * 3 + 1, none⟩ = some (.int .i64 (f p).l) ∧ w.cell? ⟨g, p * 3 + 2, none⟩ = some (.int .i64 (f p).m)) ∧ w.frozen? ⟨g, p * 3, none⟩ = false ∧ w.frozen? ⟨g, p * 3 + 1, none⟩ = false ∧ w.frozen? ⟨g, p * 3 + 2, none⟩ = false :=
  ⟨⟨(h.at' p hp).c0, (h.at' p hp).c1, (h.at' p hp).c2⟩, h.free _ (by omega), h.free _ (by omega), h.free _ (by omega)⟩
theorem Try.atomInfo : (Try.prog.info? 120).map (fun i => (i.zero, i.size, i.bytes)) = some (some (.agg #[.string ⟨#[]⟩, .int .i64 0, .int .i64 0]), 3, 32) := by kernel_rfl
/-- A new slice of so many atoms of nothing. -/
theorem make_atoms (w : World) (N : Nat) (hN : N ≤ 10000000) : ∃ C : Array Value, (Instr.makeSlice 23 (.int .i64 (N : Int)) (.int .i64 (N : Int))).run Try.prog w = .ok (.slice (some ⟨w.heap.size, 0, none⟩) N N) (w.alloc (.cells C 120)) ∧ AOwn (w.alloc (.cells C 120)) w.heap.size N (fun _ => atm0) := by
  obtain ⟨i0, hi, hz0, hz1, hz2⟩ := info_parts Try.atomInfo
  have e : (Value.agg #[.string ⟨#[]⟩, .int .i64 0, .int .i64 0]).cells = #[.string ⟨#[]⟩, .int .i64 0, .int .i64 0] := rfl
  refine ⟨madeCells (Value.agg #[.string ⟨#[]⟩, .int .i64 0, .int .i64 0]).cells (N * 3), ?_, by simp, fun i hi => ⟨?_, ?_, ?_⟩, fun i hi => ?_⟩
  · have h := run_make (P := Try.prog) w 23 120 i0 (.agg #[.string ⟨#[]⟩, .int .i64 0, .int .i64 0]) Try.underlying23 hi hz0 .i64 .i64 (N : Int) (N : Int) (by omega) (Int.le_refl _) (by rw [hz2]; omega) (by omega)
    rw [h, hz1]
    simp
  · rw [World.cell?_alloc_mark, e]
    simp [madeCells, atm0, show i * 3 < N * 3 by omega, show i * 3 % 3 = 0 by omega]
  · rw [World.cell?_alloc_mark, e]
    simp [madeCells, atm0, show i * 3 + 1 < N * 3 by omega, show (i * 3 + 1) % 3 = 1 by omega]
  · rw [World.cell?_alloc_mark, e]
    simp [madeCells, atm0, show i * 3 + 2 < N * 3 by omega, show (i * 3 + 2) % 3 = 2 by omega]
  · have h := heap_alloc_new w (.cells (madeCells (Value.agg #[.string ⟨#[]⟩, .int .i64 0, .int .i64 0]).cells (N * 3)) 120)
    exact frozen_of_row _ _ _ _ _ h
/-- An atom lies in a box of its own. -/
structure ABox (W : World) (p : Nat) (a : Atm) : Prop where
  c0 : W.cell? ⟨p, 0, none⟩ = some (.string a.c)
  c1 : W.cell? ⟨p, 1, none⟩ = some (.int .i64 a.l)
  c2 : W.cell? ⟨p, 2, none⟩ = some (.int .i64 a.m)
  lt : p < W.heap.size
theorem ABox.new (W : World) (a : Atm) (t : TypeId) : ABox (W.alloc (.cells #[.string a.c, .int .i64 a.l, .int .i64 a.m] t)) W.heap.size a := ⟨by simp, by simp, by simp, by simp⟩
theorem ABox.kept {W W' : World} {B p : Nat} {a : Atm} (h : ABox W p a) (hb : Below B W W') (hB : p < B) : ABox W' p a :=
  ⟨by rw [hb.cell (p := ⟨p, 0, none⟩) hB]; exact h.c0, by rw [hb.cell (p := ⟨p, 1, none⟩) hB]; exact h.c1, by rw [hb.cell (p := ⟨p, 2, none⟩) hB]; exact h.c2, Nat.lt_of_lt_of_le h.lt hb.size⟩
theorem ABox.all {W : World} {p : Nat} {a : Atm} (h : ABox W p a) : W.cell? ⟨p, 0, none⟩ = some (.string a.c) ∧ W.cell? ⟨p, 1, none⟩ = some (.int .i64 a.l) ∧ W.cell? ⟨p, 2, none⟩ = some (.int .i64 a.m) ∧ p < W.heap.size := ⟨h.c0, h.c1, h.c2, h.lt⟩
end Go.Proofs.Ytlgnplnmcdjbiaa
namespace Go.Proofs.Ytlgnplnmcdjbiaa
open Go.RowKit

/-- Some block of a stretch turned, no other. -/
def OnlyA (W W' : World) (lo hi : Nat) : Prop := ∃ row : Option Nat, W.grownBy W' row ∧ ∀ g, row = some g → lo ≤ g ∧ g < hi
theorem OnlyA.below {W W' : World} {lo hi B : Nat} (h : OnlyA W W' lo hi) (hB : B ≤ lo) (hs : B ≤ W.heap.size) : Below B W W' := by
  obtain ⟨row, hg, hr⟩ := h
  exact ⟨hg.os, hg.tape, hg.output, hg.size, fun k hk => hg.block k (by omega) (fun e => by have := hr k e.symm; omega)⟩
theorem OnlyA.size {W W' : World} {lo hi : Nat} (h : OnlyA W W' lo hi) : W.heap.size ≤ W'.heap.size := by
  obtain ⟨row, hg, hr⟩ := h
  exact hg.size
/-- A row of atoms in a stretch of blocks. -/
def ASl (W : World) (lo hi : Nat) (sa : Option Addr) (n : Nat) (f : Nat → Atm) : Prop := n = 0 ∨ ∃ g, sa = some ⟨g, 0, none⟩ ∧ lo ≤ g ∧ g < hi ∧ AOwn W g n f
theorem ASl.row {W : World} {lo hi n : Nat} {sa : Option Addr} {f : Nat → Atm} (h : ASl W lo hi sa n f) : ARow W W.heap.size sa n f := by
  rcases h with h | ⟨g, rfl, _, _, h3⟩
  · exact Or.inl h
  · exact h3.row h3.lt
theorem ASl.kept {W W' : World} {lo hi n : Nat} {sa : Option Addr} {f : Nat → Atm} (h : ASl W lo hi sa n f) (hb : Below W.heap.size W W') : ASl W' lo hi sa n f := by
  rcases h with h | ⟨g, h1, h2, h4, h3⟩
  · exact Or.inl h
  · exact Or.inr ⟨g, h1, h2, h4, h3.kept hb h3.lt⟩
theorem AOwn.other {W W' : World} {g n : Nat} {row : Option Nat} {f : Nat → Atm} (h : AOwn W g n f) (hg : W.grownBy W' row) (hne : row ≠ some g) : AOwn W' g n f := by
  have hb := hg.block g h.lt (fun e => hne e.symm)
  refine ⟨Nat.lt_of_lt_of_le h.lt hg.size, fun i hi => ⟨?_, ?_, ?_⟩, fun i hi => ?_⟩
  · have := (h.at' i hi).c0
    simpa [World.cell?, hb] using this
  · have := (h.at' i hi).c1
    simpa [World.cell?, hb] using this
  · have := (h.at' i hi).c2
    simpa [World.cell?, hb] using this
  · have := h.free i hi
    simpa [World.frozen?, hb] using this
theorem ASl.only {W W' : World} {lo hi lo' hi' n : Nat} {sa : Option Addr} {f : Nat → Atm} (h : ASl W lo hi sa n f) (ho : OnlyA W W' lo' hi') (hd : hi ≤ lo' ∨ hi' ≤ lo) : ASl W' lo hi sa n f := by
  rcases h with h | ⟨g, h1, h2, h4, h3⟩
  · exact Or.inl h
  · obtain ⟨row, hg, hr⟩ := ho
    exact Or.inr ⟨g, h1, h2, h4, h3.other hg (fun e => by have := hr g e; omega)⟩
/-- A slice of atoms in new memory. -/
def NewAtoms (w : World) (n : Nat) (f : Nat → Atm) (e : Ending) (w' : World) : Prop := ∃ (sa : Option Addr) (cap : Nat), e = .returned (.slice sa n cap) ∧ Below w.heap.size w w' ∧ ASl w' w.heap.size w'.heap.size sa n f
theorem grown_of_below {w w' : World} {row : Option Nat} (h : Below w.heap.size w w') : w.grownBy w' row := ⟨h.os, h.tape, h.output, h.size, fun k hk _ => h.block k hk⟩
end Go.Proofs.Ytlgnplnmcdjbiaa
namespace Go.Proofs.Ytlgnplnmcdjbiaa
open Go.RowKit

/-- The cells of the first k atoms. -/
def acells (f : Nat → Atm) : Nat → List Value
  | 0 => []
  | k + 1 => acells f k ++ [.string (f k).c, .int .i64 (f k).l, .int .i64 (f k).m]
theorem acells_len (f : Nat → Atm) : ∀ k, (acells f k).length = k * 3
  | 0 => rfl
  | k + 1 => by simp [acells, acells_len f k]; omega
theorem acells_get (f : Nat → Atm) (i : Nat) : ∀ k, i < k → (acells f k)[i * 3]? = some (.string (f i).c) ∧ (acells f k)[i * 3 + 1]? = some (.int .i64 (f i).l) ∧ (acells f k)[i * 3 + 2]? = some (.int .i64 (f i).m)
  | 0, h => by omega
  | k + 1, h => by
    have hl := acells_len f k
    by_cases e : i = k
    · subst e
      unfold acells
      rw [List.getElem?_append_right (by omega), List.getElem?_append_right (by omega), List.getElem?_append_right (by omega), hl]
      simp [show i * 3 + 1 - i * 3 = 1 by omega, show i * 3 + 2 - i * 3 = 2 by omega]
    · have h1 := acells_get f i k (by omega)
      unfold acells
      rw [List.getElem?_append_left (by omega), List.getElem?_append_left (by omega), List.getElem?_append_left (by omega)]
      exact h1
theorem acells_congr {f g : Nat → Atm} : ∀ k, (∀ i, i < k → f i = g i) → acells f k = acells g k
  | 0, _ => rfl
  | k + 1, h => by unfold acells; rw [acells_congr k (fun i hi => h i (by omega)), h k (by omega)]
theorem owns_below {w w' : World} {base n size B : Nat} {e : TypeId} {v : Value} {xs : List Value} (h : w.ownsRow base e size v n xs) (hb : Below B w w') (hB : B = w.heap.size) : w'.ownsRow base e size v n xs := by
  obtain ⟨hl, h⟩ := h
  refine ⟨hl, ?_⟩
  rcases h with h | ⟨g, cap, cur, h1, h2, h3, h4⟩
  · exact Or.inl h
  · refine Or.inr ⟨g, cap, cur, h1, h2, ?_, h4⟩
    rw [hb.block g (by rw [hB]; exact lt_of_block h3)]
    exact h3
theorem atoms_of_owns {W : World} {base n : Nat} {v : Value} {f : Nat → Atm} (h : W.ownsRow base 120 3 v n (acells f n)) : ∃ sa cap, v = .slice sa n cap ∧ ASl W base W.heap.size sa n f := by
  obtain ⟨_, ⟨rfl, rfl⟩ | ⟨g, cap, cur, rfl, hg, hh, hnc, hm, hs, ht⟩⟩ := h
  · exact ⟨none, 0, rfl, Or.inl rfl⟩
  · refine ⟨_, _, rfl, Or.inr ⟨g, rfl, hg, lt_of_block hh, ⟨lt_of_block hh, fun i hi => ?_, fun j hj => frozen_of_row _ _ _ _ _ hh⟩⟩⟩
    have hc : ∀ j, j < n * 3 → W.cell? ⟨g, j, none⟩ = (acells f n)[j]? := fun j hj => by
      rw [← ht, List.getElem?_take_of_lt hj]
      simp [World.cell?, hh]
    obtain ⟨h0, h1, h2⟩ := acells_get f i n hi
    exact ⟨by rw [hc _ (by omega)]; exact h0, by rw [hc _ (by omega)]; exact h1, by rw [hc _ (by omega)]; exact h2⟩
theorem new_of_owns {w W : World} {n : Nat} {v : Value} {f : Nat → Atm} (h : W.ownsRow w.heap.size 120 3 v n (acells f n)) (hb : Below w.heap.size w W) : NewAtoms w n f (.returned v) W := by
  obtain ⟨sa, cap, rfl, hs⟩ := atoms_of_owns h
  exact ⟨sa, cap, rfl, hb, hs⟩
/-- An empty slice of atoms that the call makes. -/
theorem owns_start (w : World) (base : Nat) (hb : base ≤ w.heap.size) (C : Array Value) (hC : C.size = 0) : (w.alloc (.cells C 120)).ownsRow base 120 3 (.slice (some ⟨w.heap.size, 0, none⟩) 0 0) 0 [] :=
  ⟨rfl, Or.inr ⟨w.heap.size, 0, C, rfl, hb, heap_alloc_new w _, Nat.le_refl _, Nat.zero_le _, by omega, by simp⟩⟩
end Go.Proofs.Ytlgnplnmcdjbiaa
