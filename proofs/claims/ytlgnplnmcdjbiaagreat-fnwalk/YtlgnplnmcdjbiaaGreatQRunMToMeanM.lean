/- What is said here: where a walk along a row stands behind each byte, and at which ends it hits, as plain mathematics.
   What is said here: atoms in memory: rows that are read, rows that are owned, what turns in them.
   What is said here: right patterns as plain mathematics.
   What is said here: what a pattern means, as plain mathematics: how a text is cut into pieces, and how far one gets. -/
import Derived.Test.YtlgnplnmcdjbiaaGreatQSpecStepW
import Derived.Test.YtlgnplnmcdjbiaaGreatQMRowOfWToWalkOfW
import Derived.Test.YtlgnplnmcdjbiaaGreatProg
import Derived.WalkKit
import Derived.WalkSpells
import Derived.RegionTactic
import Derived.BigRegion
import Derived.Deep.DeepCutAuto
import Derived.Laws.BytesArg
import Derived.Maps.AppendAt
import Derived.Test.YtlgnplnmcdjbiaaGreatQClassMToCellD
namespace Go.Proofs.YtlgnplnmcdjbiaaGreat
open Go.RowKit

/-- A text's byte. -/
def byteN (t : ByteArray) (k : Nat) : Nat := if h : k < t.size then t[k].toNat else 0
theorem byteN_lt (t : ByteArray) (k : Nat) : byteN t k < 256 := by
  unfold byteN
  split
  · exact UInt8.toNat_lt _
  · omega
/-- Where one stands behind so many bytes. -/
def walkS (f : Nat → Cel) (n : Nat) (t : ByteArray) : Nat → Nat → Bool
  | 0 => startB f n
  | k + 1 => fun j => stepB f n (walkS f n t k) (byteN t k) j || startB f n j
theorem walkS_le (f : Nat → Cel) (n : Nat) (t : ByteArray) : ∀ k j, n < j → walkS f n t k j = false
  | 0, j, h => start_le f n j h
  | k + 1, j, h => by
    show (stepB f n (walkS f n t k) (byteN t k) j || startB f n j) = false
    rw [step_le f n _ _ j h, start_le f n j h]
    rfl
/-- Does the walk hit at an end? -/
def hitP (f : Nat → Cel) (n : Nat) (t : ByteArray) : Nat → Bool
  | 0 => false
  | k + 1 => stepB f n (walkS f n t k) (byteN t k) n
/-- The ends at which it hits. -/
def runL (f : Nat → Cel) (n : Nat) (t : ByteArray) : List Int := classL (hitP f n t) (t.size + 1)
end Go.Proofs.YtlgnplnmcdjbiaaGreat
namespace Go.Proofs.YtlgnplnmcdjbiaaGreat
open Go.RowKit

/-- An atom: its class, how often at least, and at most. -/
structure Atm where
  c : ByteArray
  l : Int
  m : Int
/-- The atom of nothing. -/
def atm0 : Atm := ⟨⟨#[]⟩, 0, 0⟩
/-- An atom lies at a place. -/
structure AtomAt (w : World) (bb o : Nat) (a : Atm) : Prop where
  c0 : w.cell? ⟨bb, o, none⟩ = some (.string a.c)
  c1 : w.cell? ⟨bb, o + 1, none⟩ = some (.int .i64 a.l)
  c2 : w.cell? ⟨bb, o + 2, none⟩ = some (.int .i64 a.m)
/-- The atoms of a slice lie in cells of a block below B. -/
def ARow (w : World) (B : Nat) (sa : Option Addr) (n : Nat) (f : Nat → Atm) : Prop :=
  n = 0 ∨ ∃ bb off : Nat, sa = some ⟨bb, off, none⟩ ∧ bb < B ∧ ∀ i, i < n → AtomAt w bb (off + i * 3) (f i)
/-- A row of atoms that may be written: its block, its atoms. -/
structure AOwn (w : World) (g n : Nat) (f : Nat → Atm) : Prop where
  lt : g < w.heap.size
  at' : ∀ i, i < n → AtomAt w g (i * 3) (f i)
  free : ∀ j, j < n * 3 → w.frozen? ⟨g, j, none⟩ = false
theorem AtomAt.kept {w w' : World} {B bb o : Nat} {a : Atm} (h : AtomAt w bb o a) (hb : Below B w w') (hB : bb < B) : AtomAt w' bb o a :=
  ⟨by rw [hb.cell (p := ⟨bb, o, none⟩) hB]; exact h.c0, by rw [hb.cell (p := ⟨bb, o + 1, none⟩) hB]; exact h.c1, by rw [hb.cell (p := ⟨bb, o + 2, none⟩) hB]; exact h.c2⟩
theorem AOwn.row {w : World} {g n B : Nat} {f : Nat → Atm} (h : AOwn w g n f) (hB : g < B) : ARow w B (some ⟨g, 0, none⟩) n f :=
  Or.inr ⟨g, 0, rfl, hB, fun i hi => by rw [Nat.zero_add]; exact h.at' i hi⟩
theorem AOwn.congr {w : World} {g n : Nat} {f f' : Nat → Atm} (h : AOwn w g n f) (he : ∀ i, i < n → f i = f' i) : AOwn w g n f' :=
  ⟨h.lt, fun i hi => by rw [← he i hi]; exact h.at' i hi, h.free⟩
theorem ARow.congr {w : World} {B n : Nat} {sa : Option Addr} {f f' : Nat → Atm} (h : ARow w B sa n f) (he : ∀ i, i < n → f i = f' i) : ARow w B sa n f' := by
  rcases h with h | ⟨bb, off, h1, h2, h3⟩
  · exact Or.inl h
  · exact Or.inr ⟨bb, off, h1, h2, fun i hi => by rw [← he i hi]; exact h3 i hi⟩
theorem ARow.up {w : World} {B B' n : Nat} {sa : Option Addr} {f : Nat → Atm} (h : ARow w B sa n f) (hB : B ≤ B') : ARow w B' sa n f := by
  rcases h with h | ⟨bb, off, h1, h2, h3⟩
  · exact Or.inl h
  · exact Or.inr ⟨bb, off, h1, by omega, h3⟩
theorem ARow.kept {w w' : World} {B n : Nat} {sa : Option Addr} {f : Nat → Atm} (h : ARow w B sa n f) (hb : Below B w w') : ARow w' B sa n f := by
  rcases h with h | ⟨bb, off, h1, h2, h3⟩
  · exact Or.inl h
  · exact Or.inr ⟨bb, off, h1, h2, fun i hi => (h3 i hi).kept hb h2⟩
/-- A row in a later world. -/
theorem ARow.late {w w' : World} {n : Nat} {sa : Option Addr} {f : Nat → Atm} (h : ARow w w.heap.size sa n f) (hb : Below w.heap.size w w') : ARow w' w'.heap.size sa n f := (h.kept hb).up hb.size
theorem ARow.at {w w' : World} {n k : Nat} {sa : Option Addr} {f : Nat → Atm} (h : ARow w w.heap.size sa n f) (hb : Below w.heap.size w w') (hk : k < n) : ∃ bb off : Nat, sa = some ⟨bb, off, none⟩ ∧ bb < w.heap.size ∧ AtomAt w' bb (off + k * 3) (f k) := by
  rcases h with h | ⟨bb, off, h1, h2, h3⟩
  · omega
  · exact ⟨bb, off, h1, h2, (h3 k hk).kept hb h2⟩
theorem AOwn.kept {w w' : World} {B g n : Nat} {f : Nat → Atm} (h : AOwn w g n f) (hb : Below B w w') (hg : g < B) : AOwn w' g n f :=
  ⟨Nat.lt_of_lt_of_le h.lt hb.size, fun i hi => (h.at' i hi).kept hb hg, fun i hi => by rw [hb.frozen (p := ⟨g, i, none⟩) hg]; exact h.free i hi⟩
theorem AOwn.drew {w : World} {g n : Nat} {f : Nat → Atm} (h : AOwn w g n f) : AOwn w.drew g n f := ⟨h.lt, fun i hi => ⟨(h.at' i hi).c0, (h.at' i hi).c1, (h.at' i hi).c2⟩, h.free⟩
/-- An atom's cells are written. -/
theorem AOwn.set {w : World} {g n p : Nat} {f : Nat → Atm} (h : AOwn w g n f) (hp : p < n) (a : Atm) :
    AOwn (((w.setCell ⟨g, p * 3, none⟩ (.string a.c)).setCell ⟨g, p * 3 + 1, none⟩ (.int .i64 a.l)).setCell ⟨g, p * 3 + 2, none⟩ (.int .i64 a.m)) g n (fun i => if i = p then a else f i) := by
  have hne : ∀ {x y : Nat}, x ≠ y → (⟨g, x, none⟩ : Addr) ≠ ⟨g, y, none⟩ := fun hxy hh => hxy (by injection hh)
  refine ⟨by simpa [World.setCell] using h.lt, fun i hi => ?_, fun i hi => ?_⟩
  · by_cases e : i = p
    · subst e
      obtain ⟨a0, a1, a2⟩ := h.at' i hi
      rw [if_pos rfl]
      refine ⟨?_, ?_, ?_⟩
      · rw [World.cell?_setCell_other _ _ _ _ (hne (by omega)), World.cell?_setCell_other _ _ _ _ (hne (by omega)), World.cell?_setCell_same _ _ _ a0]
      · rw [World.cell?_setCell_other _ _ _ _ (hne (by omega))]
        exact World.cell?_setCell_same _ _ _ (by rw [World.cell?_setCell_other _ _ _ _ (hne (by omega))]; exact a1)
      · exact World.cell?_setCell_same _ _ _ (by rw [World.cell?_setCell_other _ _ _ _ (hne (by omega)), World.cell?_setCell_other _ _ _ _ (hne (by omega))]; exact a2)
    · rw [if_neg e]
      obtain ⟨a0, a1, a2⟩ := h.at' i hi
      refine ⟨?_, ?_, ?_⟩
      all_goals rw [World.cell?_setCell_other _ _ _ _ (hne (by omega)), World.cell?_setCell_other _ _ _ _ (hne (by omega)), World.cell?_setCell_other _ _ _ _ (hne (by omega))]
      · exact a0
      · exact a1
      · exact a2
  · rw [World.frozen?_setCell, World.frozen?_setCell, World.frozen?_setCell]
    exact h.free i hi
/-- The cells of one atom. -/
theorem AOwn.parts {w : World} {g n p : Nat} {f : Nat → Atm} (h : AOwn w g n f) (hp : p < n) : (w.cell? ⟨g, p * 3, none⟩ = some (.string (f p).c) ∧ w.cell? ⟨g, p * 3 + 1, none⟩ = some (.int .i64 (f p).l) ∧ w.cell? ⟨g, p * 3 + 2, none⟩ = some (.int .i64 (f p).m)) ∧ w.frozen? ⟨g, p * 3, none⟩ = false ∧ w.frozen? ⟨g, p * 3 + 1, none⟩ = false ∧ w.frozen? ⟨g, p * 3 + 2, none⟩ = false :=
  ⟨⟨(h.at' p hp).c0, (h.at' p hp).c1, (h.at' p hp).c2⟩, h.free _ (by omega), h.free _ (by omega), h.free _ (by omega)⟩
theorem Tryz.atomInfo : (Tryz.prog.info? 80).map (fun i => (i.zero, i.size, i.bytes)) = some (some (.agg #[.string ⟨#[]⟩, .int .i64 0, .int .i64 0]), 3, 32) := by kernel_rfl
/-- A new slice of so many atoms of nothing. -/
theorem make_atoms (w : World) (N : Nat) (hN : N ≤ 10000000) : ∃ C : Array Value, (Instr.makeSlice 35 (.int .i64 (N : Int)) (.int .i64 (N : Int))).run Tryz.prog w = .ok (.slice (some ⟨w.heap.size, 0, none⟩) N N) (w.alloc (.cells C 80)) ∧ AOwn (w.alloc (.cells C 80)) w.heap.size N (fun _ => atm0) := by
  obtain ⟨i0, hi, hz0, hz1, hz2⟩ := info_parts Tryz.atomInfo
  have e : (Value.agg #[.string ⟨#[]⟩, .int .i64 0, .int .i64 0]).cells = #[.string ⟨#[]⟩, .int .i64 0, .int .i64 0] := rfl
  refine ⟨madeCells (Value.agg #[.string ⟨#[]⟩, .int .i64 0, .int .i64 0]).cells (N * 3), ?_, by simp, fun i hi => ⟨?_, ?_, ?_⟩, fun i hi => ?_⟩
  · have h := run_make (P := Tryz.prog) w 35 80 i0 (.agg #[.string ⟨#[]⟩, .int .i64 0, .int .i64 0]) Tryz.underlying35 hi hz0 .i64 .i64 (N : Int) (N : Int) (by omega) (Int.le_refl _) (by rw [hz2]; omega) (by omega)
    rw [h, hz1]
    simp
  · rw [World.cell?_alloc_mark, e]
    simp [madeCells, atm0, show i * 3 < N * 3 by omega, show i * 3 % 3 = 0 by omega]
  · rw [World.cell?_alloc_mark, e]
    simp [madeCells, atm0, show i * 3 + 1 < N * 3 by omega, show (i * 3 + 1) % 3 = 1 by omega]
  · rw [World.cell?_alloc_mark, e]
    simp [madeCells, atm0, show i * 3 + 2 < N * 3 by omega, show (i * 3 + 2) % 3 = 2 by omega]
  · have h := heap_alloc_new w (.cells (madeCells (Value.agg #[.string ⟨#[]⟩, .int .i64 0, .int .i64 0]).cells (N * 3)) 80)
    exact frozen_of_row _ _ _ _ _ h
/-- An atom lies in a box of its own. -/
structure ABox (W : World) (p : Nat) (a : Atm) : Prop where
  c0 : W.cell? ⟨p, 0, none⟩ = some (.string a.c)
  c1 : W.cell? ⟨p, 1, none⟩ = some (.int .i64 a.l)
  c2 : W.cell? ⟨p, 2, none⟩ = some (.int .i64 a.m)
  lt : p < W.heap.size
theorem ABox.new (W : World) (a : Atm) (t : TypeId) : ABox (W.alloc (.cells #[.string a.c, .int .i64 a.l, .int .i64 a.m] t)) W.heap.size a := ⟨by simp, by simp, by simp, by simp⟩
theorem ABox.kept {W W' : World} {B p : Nat} {a : Atm} (h : ABox W p a) (hb : Below B W W') (hB : p < B) : ABox W' p a :=
  ⟨by rw [hb.cell (p := ⟨p, 0, none⟩) hB]; exact h.c0, by rw [hb.cell (p := ⟨p, 1, none⟩) hB]; exact h.c1, by rw [hb.cell (p := ⟨p, 2, none⟩) hB]; exact h.c2, Nat.lt_of_lt_of_le h.lt hb.size⟩
theorem ABox.all {W : World} {p : Nat} {a : Atm} (h : ABox W p a) : W.cell? ⟨p, 0, none⟩ = some (.string a.c) ∧ W.cell? ⟨p, 1, none⟩ = some (.int .i64 a.l) ∧ W.cell? ⟨p, 2, none⟩ = some (.int .i64 a.m) ∧ p < W.heap.size := ⟨h.c0, h.c1, h.c2, h.lt⟩
end Go.Proofs.YtlgnplnmcdjbiaaGreat
namespace Go.Proofs.YtlgnplnmcdjbiaaGreat
open Go.RowKit

/-- An atom is right. -/
def AtomRight (a : Atm) : Prop := RightC a.c ∧ 0 < a.c.size ∧ 0 ≤ a.l ∧ a.l ≤ 20 ∧ (a.m = -1 ∨ (a.l ≤ a.m ∧ 1 ≤ a.m ∧ a.m ≤ 20))
/-- How much an atom counts. -/
def counted (a : Atm) : Int := if a.m = -1 then (if a.l < 1 then 1 else a.l) else a.m
/-- The sum of the first k numbers. -/
def sumTo (g : Nat → Int) : Nat → Int
  | 0 => 0
  | k + 1 => sumTo g k + g k
/-- A pattern is right. -/
def PatRight (n : Nat) (f : Nat → Atm) : Prop := 1 ≤ n ∧ n ≤ 20 ∧ (∀ i, i < n → AtomRight (f i)) ∧ sumTo (fun i => counted (f i)) n ≤ 40
theorem counted_bd {a : Atm} (h : AtomRight a) : 1 ≤ counted a ∧ counted a ≤ 20 := by
  obtain ⟨_, _, h3, h4, h5⟩ := h
  unfold counted
  split
  · split <;> omega
  · omega
theorem sumTo_bd {g : Nat → Int} {b : Int} (hb : 0 ≤ b) : ∀ k, (∀ i, i < k → 0 ≤ g i ∧ g i ≤ b) → 0 ≤ sumTo g k ∧ sumTo g k ≤ b * k
  | 0, _ => by simp [sumTo]
  | k + 1, h => by
    have h1 := sumTo_bd hb k (fun i hi => h i (by omega))
    have h2 := h k (by omega)
    have e : b * ((k + 1 : Nat) : Int) = b * k + b := by rw [Int.natCast_add, Int.mul_add]; simp
    rw [e]
    show 0 ≤ sumTo g k + g k ∧ sumTo g k + g k ≤ b * k + b
    omega
theorem sumTo_congr {g h : Nat → Int} : ∀ k, (∀ i, i < k → g i = h i) → sumTo g k = sumTo h k
  | 0, _ => rfl
  | k + 1, e => by
    show sumTo g k + g k = sumTo h k + h k
    rw [sumTo_congr k (fun i hi => e i (by omega)), e k (by omega)]
theorem patRight_congr {n : Nat} {f g : Nat → Atm} (e : ∀ i, i < n → f i = g i) (h : PatRight n f) : PatRight n g :=
  ⟨h.1, h.2.1, fun i hi => by rw [← e i hi]; exact h.2.2.1 i hi, by rw [sumTo_congr n (fun i hi => by rw [← e i hi])]; exact h.2.2.2⟩
theorem empty_of {c : ByteArray} (h : ¬ 0 < c.size) : c = ⟨#[]⟩ := by
  apply ByteArray.ext
  have : c.data.size = 0 := by have : c.size = c.data.size := rfl; omega
  exact Array.size_eq_zero_iff.1 this
theorem some_of {c : ByteArray} (h : 0 < c.size) : (¬ c.toList = []) ∧ c.toList.isEmpty = false := by
  rw [ByteArray.toList_eq]
  have h2 : c.data.toList ≠ [] := by
    intro e
    have : c.data.toList.length = c.size := by simp
    rw [e] at this
    simp at this
    omega
  exact ⟨h2, by simpa using h2⟩
theorem none_of {c : ByteArray} (h : ¬ 0 < c.size) : c.toList = [] ∧ c.toList.isEmpty = true := by
  rw [empty_of h, ByteArray.toList_eq]
  exact ⟨rfl, rfl⟩
end Go.Proofs.YtlgnplnmcdjbiaaGreat
namespace Go.Proofs.YtlgnplnmcdjbiaaGreat
open Go.RowKit

/-- There is a byte at a place, and it is of a class. -/
def takesB (t c : ByteArray) (s : Nat) : Bool := if h : s < t.size then hasByte c t[s].toNat else false
theorem takesB_lt {t c : ByteArray} {s : Nat} (h : takesB t c s = true) : s < t.size := by
  unfold takesB at h
  split at h
  · assumption
  · cases h
/-- So many bytes from a place on are of a class. -/
def RunC (t c : ByteArray) (s n : Nat) : Prop := ∀ j, j < n → takesB t c (s + j) = true
theorem RunC.zero (t c : ByteArray) (s : Nat) : RunC t c s 0 := fun _ h => by omega
theorem RunC.mono {t c : ByteArray} {s n m : Nat} (h : RunC t c s n) (hm : m ≤ n) : RunC t c s m := fun j hj => h j (by omega)
theorem RunC.succ {t c : ByteArray} {s n : Nat} (h : RunC t c s n) (h2 : takesB t c (s + n) = true) : RunC t c s (n + 1) := fun j hj => by
  by_cases e : j = n
  · rw [e]; exact h2
  · exact h j (by omega)
theorem RunC.head {t c : ByteArray} {s n : Nat} (h : RunC t c s (n + 1)) : takesB t c s = true ∧ RunC t c (s + 1) n :=
  ⟨h 0 (by omega), fun j hj => by have := h (j + 1) (by omega); rw [show s + 1 + j = s + (j + 1) by omega]; exact this⟩
theorem RunC.cons {t c : ByteArray} {s n : Nat} (h : takesB t c s = true) (h2 : RunC t c (s + 1) n) : RunC t c s (n + 1) := fun j hj => by
  cases j with
  | zero => exact h
  | succ j => have := h2 j (by omega); rw [show s + (j + 1) = s + 1 + j by omega]; exact this
theorem RunC.le {t c : ByteArray} {s n : Nat} (h : RunC t c s n) (hs : s ≤ t.size) : s + n ≤ t.size := by
  cases n with
  | zero => exact hs
  | succ n => have := takesB_lt (h n (by omega)); omega
theorem RunC.append {t c : ByteArray} {s n m : Nat} (h : RunC t c s n) (h2 : RunC t c (s + n) m) : RunC t c s (n + m) := fun j hj => by
  by_cases e : j < n
  · exact h j e
  · have := h2 (j - n) (by omega); rw [show s + j = s + n + (j - n) by omega]; exact this
theorem RunC.split {t c : ByteArray} {s n m : Nat} (h : RunC t c s (n + m)) : RunC t c s n ∧ RunC t c (s + n) m :=
  ⟨h.mono (by omega), fun j hj => by have := h (n + j) (by omega); rw [show s + n + j = s + (n + j) by omega]; exact this⟩
/-- So often an atom may come. -/
def Okay (a : Atm) (n : Nat) : Prop := a.l ≤ (n : Int) ∧ (a.m = -1 ∨ (n : Int) ≤ a.m)
/-- A text, from a place to a place, is cut into pieces of these atoms. -/
def Cuts (t : ByteArray) : List Atm → Nat → Nat → Prop
  | [], s, e => s = e
  | a :: ps, s, e => ∃ n : Nat, Okay a n ∧ RunC t a.c s n ∧ Cuts t ps (s + n) e
theorem Cuts.le {t : ByteArray} : ∀ {ps : List Atm} {s e : Nat}, Cuts t ps s e → s ≤ t.size → s ≤ e ∧ e ≤ t.size
  | [], s, e, h, hs => by have : s = e := h; omega
  | a :: ps, s, e, ⟨n, _, h2, h3⟩, hs => by have h4 := h2.le hs; have := Cuts.le h3 h4; omega
theorem cuts_append {t : ByteArray} : ∀ {ps bs : List Atm} {s e : Nat}, Cuts t (ps ++ bs) s e ↔ ∃ m, Cuts t ps s m ∧ Cuts t bs m e
  | [], bs, s, e => ⟨fun h => ⟨s, rfl, h⟩, fun ⟨m, h1, h2⟩ => by have : s = m := h1; rw [this]; exact h2⟩
  | a :: ps, bs, s, e => by
    constructor
    · rintro ⟨n, h1, h2, h3⟩
      obtain ⟨m, h4, h5⟩ := cuts_append.1 h3
      exact ⟨m, ⟨n, h1, h2, h4⟩, h5⟩
    · rintro ⟨m, ⟨n, h1, h2, h3⟩, h4⟩
      exact ⟨n, h1, h2, cuts_append.2 ⟨m, h3, h4⟩⟩
/-- The greatest of some places, or none. -/
def Best (P : Nat → Prop) (v : Int) : Prop := (v = -1 ∧ ∀ e, ¬ P e) ∨ (∃ e : Nat, v = (e : Int) ∧ P e ∧ ∀ e', P e' → e' ≤ e)
theorem Best.congr {P Q : Nat → Prop} {v : Int} (h : Best P v) (e : ∀ x, P x ↔ Q x) : Best Q v := by
  rcases h with ⟨h1, h2⟩ | ⟨x, h1, h2, h3⟩
  · exact Or.inl ⟨h1, fun y hy => h2 y ((e y).2 hy)⟩
  · exact Or.inr ⟨x, h1, (e x).1 h2, fun y hy => h3 y ((e y).2 hy)⟩
theorem Best.uniq {P : Nat → Prop} {v u : Int} (h : Best P v) (h' : Best P u) : v = u := by
  rcases h with ⟨h1, h2⟩ | ⟨x, h1, h2, h3⟩ <;> rcases h' with ⟨g1, g2⟩ | ⟨y, g1, g2, g3⟩
  · omega
  · exact absurd g2 (h2 y)
  · exact absurd h2 (g2 x)
  · have := h3 y g2; have := g3 x h2; omega
theorem Best.none (P : Nat → Prop) (h : ∀ e, ¬ P e) : Best P (-1) := Or.inl ⟨rfl, h⟩
theorem Best.max {P Q : Nat → Prop} {v u : Int} (h : Best P v) (h' : Best Q u) : Best (fun e => P e ∨ Q e) (max v u) := by
  rcases h with ⟨h1, h2⟩ | ⟨x, h1, h2, h3⟩ <;> rcases h' with ⟨g1, g2⟩ | ⟨y, g1, g2, g3⟩
  · exact Or.inl ⟨by omega, fun e he => he.elim (h2 e) (g2 e)⟩
  · exact Or.inr ⟨y, by omega, Or.inr g2, fun e he => he.elim (fun h => absurd h (h2 e)) (g3 e)⟩
  · exact Or.inr ⟨x, by omega, Or.inl h2, fun e he => he.elim (h3 e) (fun h => absurd h (g2 e))⟩
  · rcases Nat.le_total x y with hxy | hxy
    · exact Or.inr ⟨y, by omega, Or.inr g2, fun e he => he.elim (fun h => Nat.le_trans (h3 e h) hxy) (g3 e)⟩
    · exact Or.inr ⟨x, by omega, Or.inl h2, fun e he => he.elim (h3 e) (fun h => Nat.le_trans (g3 e h) hxy)⟩
/-- Nobody gets further than to the end. -/
theorem Best.full {P Q : Nat → Prop} {n : Nat} (h : Best P (n : Int)) (h1 : ∀ e, P e → Q e) (h2 : ∀ e, Q e → e ≤ n) : Best Q (n : Int) := by
  rcases h with ⟨h3, _⟩ | ⟨x, h3, h4, _⟩
  · omega
  · have : x = n := by omega
    subst this
    exact Or.inr ⟨x, rfl, h1 x h4, h2⟩
theorem Best.bd {P : Nat → Prop} {v : Int} {n : Nat} (h : Best P v) (h2 : ∀ e, P e → e ≤ n) : -1 ≤ v ∧ v ≤ (n : Int) := by
  rcases h with ⟨h3, _⟩ | ⟨x, h3, h4, _⟩
  · omega
  · have := h2 x h4; omega
theorem best_some (P : Nat → Prop) (n : Nat) (h : ∀ e, P e → e ≤ n) : ∃ v, Best P v := by
  induction n generalizing P with
  | zero =>
    by_cases h0 : P 0
    · exact ⟨0, Or.inr ⟨0, rfl, h0, h⟩⟩
    · exact ⟨-1, Or.inl ⟨rfl, fun e he => by have := h e he; obtain rfl : e = 0 := by omega
                                             exact h0 he⟩⟩
  | succ n ih =>
    by_cases h0 : P (n + 1)
    · exact ⟨_, Or.inr ⟨n + 1, rfl, h0, h⟩⟩
    · exact ih P (fun e he => by
        have := h e he
        by_cases e1 : e = n + 1
        · subst e1; exact absurd he h0
        · omega)
/-- How far one gets from a place on. -/
def Far (t : ByteArray) (ps : List Atm) (s : Nat) (v : Int) : Prop := Best (Cuts t ps s) v
theorem Far.bd {t : ByteArray} {ps : List Atm} {s : Nat} {v : Int} (h : Far t ps s v) (hs : s ≤ t.size) : -1 ≤ v ∧ v ≤ (t.size : Int) := Best.bd h (fun _ he => (he.le hs).2)
theorem far_nil (t : ByteArray) (s : Nat) : Far t [] s (s : Int) := Or.inr ⟨s, rfl, rfl, fun e (h : s = e) => by omega⟩
/-- An atom of any times: it is left, or one byte is taken. -/
theorem cuts_any {t : ByteArray} {a : Atm} {ps : List Atm} {s e : Nat} (hl : a.l = 0) (hm : a.m = -1) : Cuts t (a :: ps) s e ↔ (Cuts t ps s e ∨ (takesB t a.c s = true ∧ Cuts t (a :: ps) (s + 1) e)) := by
  constructor
  · rintro ⟨n, h1, h2, h3⟩
    cases n with
    | zero => exact Or.inl h3
    | succ n =>
      obtain ⟨g1, g2⟩ := h2.head
      exact Or.inr ⟨g1, n, ⟨by omega, Or.inl hm⟩, g2, by rw [show s + 1 + n = s + (n + 1) by omega]; exact h3⟩
  · rintro (h | ⟨h1, n, h2, h3, h4⟩)
    · exact ⟨0, ⟨by omega, Or.inl hm⟩, RunC.zero _ _ _, h⟩
    · exact ⟨n + 1, ⟨by omega, Or.inl hm⟩, RunC.cons h1 h3, by rw [show s + (n + 1) = s + 1 + n by omega]; exact h4⟩
theorem far_any_on {t : ByteArray} {a : Atm} {ps : List Atm} {s : Nat} {v u : Int} (hl : a.l = 0) (hm : a.m = -1) (ht : takesB t a.c s = true) (h1 : Far t ps s v) (h2 : Far t (a :: ps) (s + 1) u) : Far t (a :: ps) s (max v u) :=
  (Best.max h1 h2).congr (fun e => by rw [cuts_any (s := s) hl hm]; simp [ht])
theorem far_any_off {t : ByteArray} {a : Atm} {ps : List Atm} {s : Nat} {v : Int} (hl : a.l = 0) (hm : a.m = -1) (ht : takesB t a.c s = false) (h1 : Far t ps s v) : Far t (a :: ps) s v :=
  Best.congr h1 (fun e => by rw [cuts_any (s := s) hl hm]; simp [ht])
theorem far_any_full {t : ByteArray} {a : Atm} {ps : List Atm} {s : Nat} (hl : a.l = 0) (hm : a.m = -1) (hs : s ≤ t.size) (h1 : Far t ps s (t.size : Int)) : Far t (a :: ps) s (t.size : Int) :=
  Best.full h1 (fun _ he => (cuts_any hl hm).2 (Or.inl he)) (fun _ he => (he.le hs).2)
/-- What ends behind fewer than n bytes of the atom. -/
def Tried (t : ByteArray) (a : Atm) (ps : List Atm) (s n e : Nat) : Prop := ∃ m, m < n ∧ a.l ≤ (m : Int) ∧ Cuts t ps (s + m) e
theorem tried_zero {t : ByteArray} {a : Atm} {ps : List Atm} {s : Nat} : Best (Tried t a ps s 0) (-1) := Best.none _ (fun _ ⟨_, h, _⟩ => by omega)
theorem tried_on {t : ByteArray} {a : Atm} {ps : List Atm} {s n : Nat} {v u : Int} (hl : a.l ≤ (n : Int)) (h : Best (Tried t a ps s n) v) (h2 : Far t ps (s + n) u) : Best (Tried t a ps s (n + 1)) (max v u) :=
  (Best.max h h2).congr (fun e => ⟨fun h => h.elim (fun ⟨m, g1, g2, g3⟩ => ⟨m, by omega, g2, g3⟩) (fun h => ⟨n, by omega, hl, h⟩), fun ⟨m, g1, g2, g3⟩ => by
    by_cases em : m = n
    · subst em; exact Or.inr g3
    · exact Or.inl ⟨m, by omega, g2, g3⟩⟩)
theorem tried_off {t : ByteArray} {a : Atm} {ps : List Atm} {s n : Nat} {v : Int} (hl : ¬ a.l ≤ (n : Int)) (h : Best (Tried t a ps s n) v) : Best (Tried t a ps s (n + 1)) v :=
  Best.congr h (fun e => ⟨fun ⟨m, g1, g2, g3⟩ => ⟨m, by omega, g2, g3⟩, fun ⟨m, g1, g2, g3⟩ => by
    by_cases em : m = n
    · subst em; exact absurd g2 hl
    · exact ⟨m, by omega, g2, g3⟩⟩)
/-- All was tried. -/
theorem tried_all {t : ByteArray} {a : Atm} {ps : List Atm} {s n : Nat} {v : Int} (hr : RunC t a.c s n) (hm : (n : Int) ≤ a.m) (hend : (n : Int) = a.m ∨ takesB t a.c (s + n) = false) (h : Best (Tried t a ps s (n + 1)) v) : Far t (a :: ps) s v :=
  Best.congr h (fun e => ⟨fun ⟨m, g1, g2, g3⟩ => ⟨m, ⟨g2, Or.inr (by omega)⟩, hr.mono (by omega), g3⟩, fun ⟨m, ⟨g1, g2⟩, g3, g4⟩ => by
    refine ⟨m, ?_, g1, g4⟩
    rcases hend with h | h
    · rcases g2 with g2 | g2 <;> omega
    · by_cases hmn : m < n + 1
      · exact hmn
      · have := g3 n (by omega)
        rw [h] at this
        cases this⟩)
theorem tried_full {t : ByteArray} {a : Atm} {ps : List Atm} {s n : Nat} (hs : s ≤ t.size) (hr : RunC t a.c s n) (hm : (n : Int) ≤ a.m) (h : Best (Tried t a ps s (n + 1)) (t.size : Int)) : Far t (a :: ps) s (t.size : Int) :=
  Best.full h (fun _ ⟨m, g1, g2, g3⟩ => ⟨m, ⟨g2, Or.inr (by omega)⟩, hr.mono (by omega), g3⟩) (fun _ he => (he.le hs).2)
theorem tried_le {t : ByteArray} {a : Atm} {ps : List Atm} {s n e : Nat} (hr : RunC t a.c s n) (hs : s ≤ t.size) (h : Tried t a ps s (n + 1) e) : e ≤ t.size := by
  obtain ⟨m, h1, _, h2⟩ := h
  exact (h2.le ((hr.mono (by omega)).le hs)).2
/-- An atom without a most is written as one of its least, and one of any times. -/
def part1 (a : Atm) : List Atm := if a.m = -1 ∧ 0 < a.l then [⟨a.c, a.l, a.l⟩, ⟨a.c, 0, -1⟩] else [a]
def partL : List Atm → List Atm
  | [] => []
  | a :: ps => part1 a ++ partL ps
theorem partL_append : ∀ ps bs : List Atm, partL (ps ++ bs) = partL ps ++ partL bs
  | [], _ => rfl
  | a :: ps, bs => by show part1 a ++ partL (ps ++ bs) = part1 a ++ partL ps ++ partL bs; rw [partL_append ps bs, List.append_assoc]
theorem part1_len (a : Atm) : (part1 a).length ≤ 2 := by unfold part1; split <;> simp
theorem partL_len : ∀ ps : List Atm, (partL ps).length ≤ 2 * ps.length
  | [] => by simp [partL]
  | a :: ps => by
    show (part1 a ++ partL ps).length ≤ 2 * (ps.length + 1)
    have := partL_len ps
    have := part1_len a
    rw [List.length_append]
    omega
theorem cuts_part1 {t : ByteArray} {a : Atm} {ps : List Atm} {s e : Nat} : Cuts t (part1 a ++ ps) s e ↔ Cuts t (a :: ps) s e := by
  unfold part1
  split
  · rename_i h
    obtain ⟨hm, hl⟩ := h
    constructor
    · rintro ⟨n, ⟨h1, h2⟩, h3, k, ⟨h4, h5⟩, h6, h7⟩
      simp only at h1 h2 h3 h4 h5 h6
      exact ⟨n + k, ⟨by omega, Or.inl hm⟩, h3.append h6, by rw [show s + (n + k) = s + n + k by omega]; exact h7⟩
    · rintro ⟨n, ⟨h1, h2⟩, h3, h4⟩
      obtain ⟨l, hl'⟩ : ∃ l : Nat, a.l = (l : Int) := ⟨a.l.toNat, by omega⟩
      obtain ⟨k, rfl⟩ : ∃ k, n = l + k := ⟨n - l, by omega⟩
      obtain ⟨g1, g2⟩ := h3.split
      exact ⟨l, ⟨by show a.l ≤ _; omega, Or.inr (by show _ ≤ a.l; omega)⟩, g1, k, ⟨by show (0 : Int) ≤ _; omega, Or.inl rfl⟩, g2, by rw [show s + l + k = s + (l + k) by omega]; exact h4⟩
  · exact Iff.rfl
theorem cuts_part {t : ByteArray} : ∀ {ps : List Atm} {s e : Nat}, Cuts t (partL ps) s e ↔ Cuts t ps s e
  | [], s, e => Iff.rfl
  | a :: ps, s, e => by
    show Cuts t (part1 a ++ partL ps) s e ↔ _
    rw [cuts_part1]
    exact ⟨fun ⟨n, h1, h2, h3⟩ => ⟨n, h1, h2, cuts_part.1 h3⟩, fun ⟨n, h1, h2, h3⟩ => ⟨n, h1, h2, cuts_part.2 h3⟩⟩
/-- The atoms of parted patterns: of any times, or of so many. -/
def Parted (a : Atm) : Prop := 0 ≤ a.l ∧ a.l ≤ 20 ∧ (a.m = -1 ∧ a.l = 0 ∨ a.l ≤ a.m ∧ a.m ≤ 20)
theorem parted_of {a : Atm} (h : AtomRight a) : ∀ b ∈ part1 a, Parted b ∧ b.c = a.c := by
  obtain ⟨_, _, h3, h4, h5⟩ := h
  unfold part1
  split
  · rename_i h
    intro b hb
    rcases List.mem_cons.1 hb with rfl | hb
    · exact ⟨⟨h3, h4, Or.inr ⟨Int.le_refl _, h4⟩⟩, rfl⟩
    · rcases List.mem_cons.1 hb with rfl | hb
      · exact ⟨⟨Int.le_refl _, by show (0 : Int) ≤ 20; omega, Or.inl ⟨rfl, rfl⟩⟩, rfl⟩
      · cases hb
  · rename_i h
    intro b hb
    rcases List.mem_cons.1 hb with rfl | hb
    · refine ⟨⟨h3, h4, ?_⟩, rfl⟩
      rcases h5 with h5 | h5
      · exact Or.inl ⟨h5, by omega⟩
      · exact Or.inr ⟨h5.1, h5.2.2⟩
    · cases hb
theorem parted_all : ∀ {ps : List Atm}, (∀ a ∈ ps, AtomRight a) → ∀ b ∈ partL ps, Parted b ∧ RightC b.c
  | [], _, b, hb => by cases hb
  | a :: ps, h, b, hb => by
    rcases List.mem_append.1 hb with hb | hb
    · have := parted_of (h a (by simp)) b hb
      exact ⟨this.1, by rw [this.2]; exact (h a (by simp)).1⟩
    · exact parted_all (fun x hx => h x (by simp [hx])) b hb
/-- The first n atoms of a row as a list. -/
def atomsL (f : Nat → Atm) (n : Nat) : List Atm := (List.range n).map f
theorem atomsL_len (f : Nat → Atm) (n : Nat) : (atomsL f n).length = n := by simp [atomsL]
theorem atomsL_succ (f : Nat → Atm) (n : Nat) : atomsL f (n + 1) = atomsL f n ++ [f n] := by simp [atomsL, List.range_succ]
theorem atomsL_congr {f g : Nat → Atm} {n : Nat} (h : ∀ i, i < n → f i = g i) : atomsL f n = atomsL g n := List.map_congr_left (fun i hi => h i (List.mem_range.1 hi))
theorem atomsL_get {f : Nat → Atm} {n i : Nat} (h : i < n) : (atomsL f n)[i]? = some (f i) := by simp [atomsL, h]
theorem atomsL_mem {f : Nat → Atm} {n : Nat} {a : Atm} (h : a ∈ atomsL f n) : ∃ i, i < n ∧ f i = a := by
  obtain ⟨i, h1, h2⟩ := List.mem_map.1 h
  exact ⟨i, List.mem_range.1 h1, h2⟩
theorem atomsL_drop {f : Nat → Atm} {n i : Nat} (h : i < n) : (atomsL f n).drop i = f i :: (atomsL f n).drop (i + 1) := by
  have h1 : i < (atomsL f n).length := by rw [atomsL_len]; exact h
  rw [List.drop_eq_getElem_cons h1]
  congr 1
  have := atomsL_get (f := f) h
  rw [List.getElem?_eq_getElem h1] at this
  injection this
theorem atomsL_getD (L : List Atm) : atomsL (fun i => L.getD i atm0) L.length = L := by
  apply List.ext_getElem?
  intro i
  by_cases h : i < L.length
  · rw [atomsL_get h]
    simp [h]
  · rw [List.getElem?_eq_none (by rw [atomsL_len]; omega), List.getElem?_eq_none (by omega)]
end Go.Proofs.YtlgnplnmcdjbiaaGreat
