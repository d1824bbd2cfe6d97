/- What is proved here: plain arithmetic on words of 32 bits: bit by bit, masks, the borrow of a subtraction.
   What is proved here: slices of int64 in memory: rows that are read, rows that are owned, what turns in them.
   What is said here: vectors in memory: a vector in new memory, how what is owned stays.
   What is proved here: what a law over vectors keeps in view while it goes on: vectors that lie in a box of their own, their words in rows of a stretch of blocks; how calls leave them.
   What is proved here: the specification's l02Get says whether a bit of a word is on; nothing that was there turns.
   What is proved here: plain arithmetic on one bit of a word: set, taken away, asked for.
   What is said here: places as bits of one number, and as words of 32 bits: they are the same. -/
import Derived.Laws.BitsLemmas
import Derived.Test.YthnnenbpbkmbhaaGreatProg
import Derived.WalkKit
import Derived.WalkSpells
import Derived.RegionTactic
import Derived.BigRegion
import Derived.Deep.DeepCutAuto
import Derived.Laws.BytesArg
import Derived.Maps.AppendAt
import Derived.Test.YthnnenbpbkmbhaaGreatQCellMToFitKM
namespace Go.Proofs.YthnnenbpbkmbhaaGreat

theorem wraps_u32w (n : Int) (h₀ : 0 ≤ n) (h₁ : n < 2 ^ 32) : IntKind.u32.wrap n = n := by rw [IntKind.wrap_u32]; omega
theorem wraps_i64w (n : Int) (h₀ : 0 ≤ n) (h₁ : n < 2 ^ 32) : IntKind.i64.wrap n = n := by rw [IntKind.wrap_i64]; omega
theorem bits_xor_nat (k : IntKind) (j : Nat) (hj : j ≤ k.bits) (hk : ∀ n : Int, 0 ≤ n → n < 2 ^ j → k.wrap n = n) (a b : Nat) (ha : a < 2 ^ j) (hb : b < 2 ^ j) :
    bits .xor k a b = ((a ^^^ b : Nat) : Int) := by
  have hp : 2 ^ j ≤ 2 ^ k.bits := Nat.pow_le_pow_right (by decide) hj
  have ha' : a % 2 ^ k.bits = a := Nat.mod_eq_of_lt (Nat.lt_of_lt_of_le ha hp)
  have hb' : b % 2 ^ k.bits = b := Nat.mod_eq_of_lt (Nat.lt_of_lt_of_le hb hp)
  have cast : ∀ n : Nat, n < 2 ^ j → ((n : Nat) : Int) < 2 ^ j := fun n h => by exact_mod_cast h
  simp only [bits, BitVec.ofInt_natCast, BitVec.toNat_xor, BitVec.toNat_ofNat, ha', hb']
  exact hk _ (Int.natCast_nonneg _) (cast _ (Nat.xor_lt_two_pow ha hb))
/-- A word: below 2 to the power k. -/
def Word (k : Nat) (x : Int) : Prop := 0 ≤ x ∧ x < 2 ^ k
theorem word_nat {k : Nat} {x : Int} (h : Word k x) : ∃ a : Nat, x = a ∧ a < 2 ^ k := by
  obtain ⟨a, rfl⟩ := Int.eq_ofNat_of_zero_le h.1
  exact ⟨a, rfl, by have := h.2; exact_mod_cast this⟩
theorem word_of {k a : Nat} (h : a < 2 ^ k) : Word k (a : Int) := ⟨Int.natCast_nonneg _, by exact_mod_cast h⟩
theorem word_up {k j : Nat} {x : Int} (h : Word k x) (hk : k ≤ j) : Word j x := by
  obtain ⟨a, rfl, ha⟩ := word_nat h
  exact word_of (Nat.lt_of_lt_of_le ha (Nat.pow_le_pow_right (by decide) hk))
theorem and_same {x y : Int} (hx : Word 32 x) (hy : Word 32 y) : bits .and .u32 x y = bits .and .i64 x y := by
  obtain ⟨a, rfl, ha⟩ := word_nat hx
  obtain ⟨b, rfl, hb⟩ := word_nat hy
  rw [(bits_nat .u32 32 (by decide) wraps_u32w a b ha hb).1, (bits_nat .i64 32 (by decide) wraps_i64w a b ha hb).1]
theorem or_same {x y : Int} (hx : Word 32 x) (hy : Word 32 y) : bits .or .u32 x y = bits .or .i64 x y := by
  obtain ⟨a, rfl, ha⟩ := word_nat hx
  obtain ⟨b, rfl, hb⟩ := word_nat hy
  rw [(bits_nat .u32 32 (by decide) wraps_u32w a b ha hb).2, (bits_nat .i64 32 (by decide) wraps_i64w a b ha hb).2]
theorem xor_same {x y : Int} (hx : Word 32 x) (hy : Word 32 y) : bits .xor .u32 x y = bits .xor .i64 x y := by
  obtain ⟨a, rfl, ha⟩ := word_nat hx
  obtain ⟨b, rfl, hb⟩ := word_nat hy
  rw [bits_xor_nat .u32 32 (by decide) wraps_u32w a b ha hb, bits_xor_nat .i64 32 (by decide) wraps_i64w a b ha hb]
theorem and_word {k : Nat} {x y : Int} (hk : k ≤ 32) (hx : Word k x) (hy : Word k y) : Word k (bits .and .i64 x y) := by
  obtain ⟨a, rfl, ha⟩ := word_nat (word_up hx hk)
  obtain ⟨b, rfl, hb⟩ := word_nat (word_up hy hk)
  rw [(bits_nat .i64 32 (by decide) wraps_i64w a b ha hb).1]
  exact word_of (Nat.and_lt_two_pow _ (by have := hy.2; exact_mod_cast this))
theorem or_word {k : Nat} {x y : Int} (hk : k ≤ 32) (hx : Word k x) (hy : Word k y) : Word k (bits .or .i64 x y) := by
  obtain ⟨a, rfl, ha⟩ := word_nat (word_up hx hk)
  obtain ⟨b, rfl, hb⟩ := word_nat (word_up hy hk)
  rw [(bits_nat .i64 32 (by decide) wraps_i64w a b ha hb).2]
  exact word_of (Nat.or_lt_two_pow (by have := hx.2; exact_mod_cast this) (by have := hy.2; exact_mod_cast this))
theorem xor_word {k : Nat} {x y : Int} (hk : k ≤ 32) (hx : Word k x) (hy : Word k y) : Word k (bits .xor .i64 x y) := by
  obtain ⟨a, rfl, ha⟩ := word_nat (word_up hx hk)
  obtain ⟨b, rfl, hb⟩ := word_nat (word_up hy hk)
  rw [bits_xor_nat .i64 32 (by decide) wraps_i64w a b ha hb]
  exact word_of (Nat.xor_lt_two_pow (by have := hx.2; exact_mod_cast this) (by have := hy.2; exact_mod_cast this))
theorem mask_word {k : Nat} {x : Int} (hk : k ≤ 32) (hx : Word 32 x) : bits .and .i64 x (2 ^ k - 1) = x % 2 ^ k :=
  bits_mask .i64 32 (by decide) wraps_i64w k hk x hx.1 hx.2

/-- The highest bit of a word. -/
theorem top_bit {a : Nat} (h : a < 2 ^ 32) : a / 2 ^ 31 = if a.testBit 31 then 1 else 0 := by
  rw [Nat.testBit_eq_decide_div_mod_eq]
  split <;> rename_i h2 <;> simp at h2 <;> omega
theorem top_ge {a : Nat} (h : a < 2 ^ 32) : a.testBit 31 = decide (2147483648 ≤ a) := by
  rw [Nat.testBit_eq_decide_div_mod_eq]
  by_cases h2 : 2147483648 ≤ a
  · rw [decide_eq_true h2]; simp; omega
  · rw [decide_eq_false h2]; simp; omega
theorem xor_neg (a : Nat) (h : a < 2 ^ 32) : (4294967295 - a).testBit 31 = !a.testBit 31 := by
  rw [top_ge (by omega), top_ge h]
  by_cases h2 : 2147483648 ≤ a
  · simp [h2]; omega
  · simp [h2]; omega
/-- The borrow of a subtraction. -/
theorem borrow_nat (x y d br : Nat) (hx : x < 2 ^ 32) (hy : y < 2 ^ 32) (hbr : br ≤ 1) (hd : (d : Int) = ((x : Int) - y - br) % 4294967296) :
    (((4294967295 - x) &&& y) ||| ((4294967295 - (x ^^^ y)) &&& d)) / 2 ^ 31 = if (x : Int) < y + br then 1 else 0 := by
  have hd2 : d < 2 ^ 32 := by omega
  have hxy := Nat.xor_lt_two_pow hx hy
  have h1 : ((4294967295 - x) &&& y) ||| ((4294967295 - (x ^^^ y)) &&& d) < 2 ^ 32 :=
    Nat.or_lt_two_pow (Nat.and_lt_two_pow _ hy) (Nat.and_lt_two_pow _ hd2)
  rw [top_bit h1, Nat.testBit_or, Nat.testBit_and, Nat.testBit_and, xor_neg x hx, xor_neg _ hxy, Nat.testBit_xor, top_ge hx, top_ge hy, top_ge hd2]
  by_cases a1 : 2147483648 ≤ x <;> by_cases a2 : 2147483648 ≤ y <;> by_cases a3 : 2147483648 ≤ d <;> simp [a1, a2, a3] <;> omega
theorem u32_not (a : Nat) (h : a < 2 ^ 32) : bits .xor .u32 IntKind.u32.max (a : Int) = ((4294967295 - a : Nat) : Int) := by
  have h1 : (BitVec.ofInt 32 (a : Int)).toNat = a := by
    rw [BitVec.ofInt_natCast, BitVec.toNat_ofNat]; exact Nat.mod_eq_of_lt h
  show IntKind.u32.wrap ((BitVec.ofInt 32 IntKind.u32.max ^^^ BitVec.ofInt 32 (a : Int)).toNat : Int) = _
  have hm2 : BitVec.ofInt 32 IntKind.u32.max = BitVec.allOnes 32 := by decide
  rw [hm2, BitVec.allOnes_xor, BitVec.toNat_not, h1, IntKind.wrap_u32]
  omega
end Go.Proofs.YthnnenbpbkmbhaaGreat
namespace Go.Proofs.YthnnenbpbkmbhaaGreat
open Go.RowKit

/-- The numbers of a slice lie in cells of a block below B. -/
def Row (w : World) (B : Nat) (sa : Option Addr) (n : Nat) (f : Nat → Int) : Prop :=
  n = 0 ∨ ∃ bb off : Nat, sa = some ⟨bb, off, none⟩ ∧ bb < B ∧ ∀ i, i < n → w.cell? ⟨bb, off + i, none⟩ = some (.int .i64 (f i))
/-- A row that may be written: its block, its numbers. -/
def Own (w : World) (g n : Nat) (f : Nat → Int) : Prop :=
  g < w.heap.size ∧ (∀ i, i < n → w.cell? ⟨g, i, none⟩ = some (.int .i64 (f i))) ∧ ∀ i, i < n → w.frozen? ⟨g, i, none⟩ = false
theorem Own.row {w : World} {g n B : Nat} {f : Nat → Int} (h : Own w g n f) (hB : g < B) : Row w B (some ⟨g, 0, none⟩) n f :=
  Or.inr ⟨g, 0, rfl, hB, fun i hi => by rw [Nat.zero_add]; exact h.2.1 i hi⟩
theorem Own.congr {w : World} {g n : Nat} {f f' : Nat → Int} (h : Own w g n f) (he : ∀ i, i < n → f i = f' i) : Own w g n f' :=
  ⟨h.1, fun i hi => by rw [← he i hi]; exact h.2.1 i hi, h.2.2⟩
theorem Row.congr {w : World} {B n : Nat} {sa : Option Addr} {f f' : Nat → Int} (h : Row w B sa n f) (he : ∀ i, i < n → f i = f' i) : Row w B sa n f' := by
  rcases h with h | ⟨bb, off, h1, h2, h3⟩
  · exact Or.inl h
  · exact Or.inr ⟨bb, off, h1, h2, fun i hi => by rw [← he i hi]; exact h3 i hi⟩
theorem Row.up {w : World} {B B' n : Nat} {sa : Option Addr} {f : Nat → Int} (h : Row w B sa n f) (hB : B ≤ B') : Row w B' sa n f := by
  rcases h with h | ⟨bb, off, h1, h2, h3⟩
  · exact Or.inl h
  · exact Or.inr ⟨bb, off, h1, by omega, h3⟩
theorem Row.kept {w w' : World} {B n : Nat} {sa : Option Addr} {f : Nat → Int} (h : Row w B sa n f) (hb : Below B w w') : Row w' B sa n f := by
  rcases h with h | ⟨bb, off, h1, h2, h3⟩
  · exact Or.inl h
  · exact Or.inr ⟨bb, off, h1, h2, fun i hi => by rw [hb.cell (p := ⟨bb, off + i, none⟩) h2]; exact h3 i hi⟩
theorem Own.kept {w w' : World} {B g n : Nat} {f : Nat → Int} (h : Own w g n f) (hb : Below B w w') (hg : g < B) : Own w' g n f :=
  ⟨Nat.lt_of_lt_of_le h.1 hb.size, fun i hi => by rw [hb.cell (p := ⟨g, i, none⟩) hg]; exact h.2.1 i hi, fun i hi => by rw [hb.frozen (p := ⟨g, i, none⟩) hg]; exact h.2.2 i hi⟩
theorem Own.set {w : World} {g n p : Nat} {f : Nat → Int} (h : Own w g n f) (hp : p < n) (v : Int) : Own (w.setCell ⟨g, p, none⟩ (.int .i64 v)) g n (fun i => if i = p then v else f i) := by
  refine ⟨by simpa [World.setCell] using h.1, fun i hi => ?_, fun i hi => ?_⟩
  · by_cases e : i = p
    · subst e
      rw [World.cell?_setCell_same _ _ _ (h.2.1 i hi)]
      simp
    · rw [World.cell?_setCell_other _ _ _ _ (fun hh => e (by injection hh with _ h2 _; exact h2.symm)), h.2.1 i hi]
      simp [e]
  · rw [World.frozen?_setCell]
    exact h.2.2 i hi
theorem Own.drew {w : World} {g n : Nat} {f : Nat → Int} (h : Own w g n f) : Own w.drew g n f := h
theorem Own.only {w w' : World} {g b n : Nat} {f : Nat → Int} (h : Own w g n f) (hg : w.grownBy w' (some b)) (hne : g ≠ b) : Own w' g n f := by
  have hb := hg.block g h.1 (fun e => hne (by injection e))
  refine ⟨Nat.lt_of_lt_of_le h.1 hg.size, fun i hi => ?_, fun i hi => ?_⟩
  · have := h.2.1 i hi
    simpa [World.cell?, hb] using this
  · have := h.2.2 i hi
    simpa [World.frozen?, hb] using this

theorem Tryz.numInfo : (Tryz.prog.info? 2).map (fun i => (i.zero, i.size, i.bytes)) = some (some (.int .i64 0), 1, 8) := by kernel_rfl
/-- A new slice of so many zeros. -/
theorem make_row (w : World) (N : Nat) (hN : N ≤ 10000000) : ∃ C : Array Value, (Instr.makeSlice 33 (.int .i64 (N : Int)) (.int .i64 (N : Int))).run Tryz.prog w = .ok (.slice (some ⟨w.heap.size, 0, none⟩) N N) (w.alloc (.cells C 2)) ∧ Own (w.alloc (.cells C 2)) w.heap.size N (fun _ => 0) := by
  obtain ⟨i0, hi, hz0, hz1, hz2⟩ := info_parts Tryz.numInfo
  refine ⟨madeCells (Value.int .i64 0).cells (N * 1), ?_, by simp, fun i hi => ?_, fun i hi => ?_⟩
  · have h := run_make (P := Tryz.prog) w 33 2 i0 (.int .i64 0) Tryz.underlying33 hi hz0 .i64 .i64 (N : Int) (N : Int) (by omega) (Int.le_refl _) (by rw [hz2]; omega) (by omega)
    rw [h, hz1]
    simp
  · rw [World.cell?_alloc_mark]
    simp [madeCells, Value.cells, Nat.mod_one, hi]
  · have h := heap_alloc_new w (.cells (madeCells (Value.int .i64 0).cells (N * 1)) 2)
    exact frozen_of_row _ _ _ _ _ h

/-- A slice that the call owns: empty, or a row of a block from lo on. -/
def OwnS (w : World) (lo : Nat) (sa : Option Addr) (n : Nat) (f : Nat → Int) : Prop := n = 0 ∨ ∃ g, sa = some ⟨g, 0, none⟩ ∧ lo ≤ g ∧ Own w g n f
/-- That slice's block alone turned. -/
def OnlyS (w w' : World) (sa : Option Addr) (n : Nat) : Prop := ∃ row : Option Nat, w.grownBy w' row ∧ ∀ g, row = some g → 0 < n ∧ sa = some ⟨g, 0, none⟩
theorem only_set {a w : World} {b i : Nat} {v : Value} (h : a.grownBy w (some b)) : a.grownBy (w.setCell ⟨b, i, none⟩ v) (some b) :=
  h.trans ⟨rfl, rfl, rfl, by simp [World.setCell], fun k _ hk => Below.heap_setCell _ _ _ _ (fun e => hk (by simp [e]))⟩
theorem only_drawn {a w : World} {b : Nat} (h : a.grownBy w (some b)) : a.grownBy w.drew (some b) := ⟨h.os, h.tape, h.output, h.size, h.block⟩
end Go.Proofs.YthnnenbpbkmbhaaGreat
namespace Go.Proofs.YthnnenbpbkmbhaaGreat
open Go.RowKit

/-- A vector's value. -/
def vecV (b : Int) (sa : Option Addr) (n cap : Nat) : Value := .agg #[.int .i64 b, .slice sa n cap]
/-- A vector in new memory. -/
def NewVec (w : World) (b : Int) (n : Nat) (f : Nat → Int) (e : Ending) (w' : World) : Prop :=
  ∃ (sa : Option Addr) (cap : Nat), e = .returned (vecV b sa n cap) ∧ Below w.heap.size w w' ∧ OwnS w' w.heap.size sa n f

theorem bcells {W w1 : World} (hb : Below W.heap.size W w1) : (∀ b o, b < W.heap.size → w1.cell? ⟨b, o, none⟩ = W.cell? ⟨b, o, none⟩) ∧ (∀ b o, b < W.heap.size → w1.frozen? ⟨b, o, none⟩ = W.frozen? ⟨b, o, none⟩) :=
  ⟨fun b o h => hb.cell (p := ⟨b, o, none⟩) h, fun b o h => hb.frozen (p := ⟨b, o, none⟩) h⟩
theorem Own.setOther {w : World} {g n : Nat} {f : Nat → Int} (h : Own w g n f) (p : Addr) (v : Value) (hne : p.block ≠ g) : Own (w.setCell p v) g n f := by
  refine ⟨by simpa [World.setCell] using h.1, fun i hi => ?_, fun i hi => ?_⟩
  · rw [World.cell?_setCell_other _ _ _ _ (fun hh => hne (by rw [hh]))]
    exact h.2.1 i hi
  · rw [World.frozen?_setCell]
    exact h.2.2 i hi
theorem Own.alloc {w : World} {g n : Nat} {f : Nat → Int} (h : Own w g n f) (o : Obj) : Own (w.alloc o) g n f :=
  h.kept (B := w.heap.size) ((Below.refl _ _).alloc (Nat.le_refl _) _) h.1
theorem OwnS.kept {w w' : World} {B lo n : Nat} {sa : Option Addr} {f : Nat → Int} (h : OwnS w lo sa n f) (hb : Below B w w') (hB : B = w.heap.size) : OwnS w' lo sa n f := by
  rcases h with h | ⟨g, h1, h2, h3⟩
  · exact Or.inl h
  · exact Or.inr ⟨g, h1, h2, h3.kept hb (by rw [hB]; exact h3.1)⟩
theorem OwnS.row {w : World} {lo n : Nat} {sa : Option Addr} {f : Nat → Int} (h : OwnS w lo sa n f) : Row w w.heap.size sa n f := by
  rcases h with h | ⟨g, rfl, _, h3⟩
  · exact Or.inl h
  · exact h3.row h3.1
theorem OwnS.congr {w : World} {lo n : Nat} {sa : Option Addr} {f f' : Nat → Int} (h : OwnS w lo sa n f) (he : ∀ i, i < n → f i = f' i) : OwnS w lo sa n f' := by
  rcases h with h | ⟨g, h1, h2, h3⟩
  · exact Or.inl h
  · exact Or.inr ⟨g, h1, h2, h3.congr he⟩
theorem OwnS.low {w : World} {lo lo' n : Nat} {sa : Option Addr} {f : Nat → Int} (h : OwnS w lo sa n f) (hl : lo' ≤ lo) : OwnS w lo' sa n f := by
  rcases h with h | ⟨g, h1, h2, h3⟩
  · exact Or.inl h
  · exact Or.inr ⟨g, h1, by omega, h3⟩
/-- Another slice's block turned: this one stays. -/
theorem OwnS.other {w w' : World} {lo n m : Nat} {sa sb : Option Addr} {f : Nat → Int} (h : OwnS w lo sa n f) (ho : OnlyS w w' sb m) (hne : ∀ g, sb = some ⟨g, 0, none⟩ → 0 < m → sa ≠ some ⟨g, 0, none⟩) : OwnS w' lo sa n f := by
  rcases h with h | ⟨g, rfl, h2, h3⟩
  · exact Or.inl h
  · obtain ⟨row, hg, hr⟩ := ho
    refine Or.inr ⟨g, rfl, h2, ?_⟩
    have hb := hg.block g h3.1 (fun e => by obtain ⟨h4, h5⟩ := hr g e.symm; exact hne g h5 h4 rfl)
    refine ⟨Nat.lt_of_lt_of_le h3.1 hg.size, fun i hi => ?_, fun i hi => ?_⟩
    · have := h3.2.1 i hi
      simpa [World.cell?, hb] using this
    · have := h3.2.2 i hi
      simpa [World.frozen?, hb] using this
/-- A turned block from lo on: what lies below stays. -/
theorem OnlyS.below {w w' : World} {lo n : Nat} {sa : Option Addr} (h : OnlyS w w' sa n) (hl : ∀ g, sa = some ⟨g, 0, none⟩ → 0 < n → lo ≤ g) (hs : lo ≤ w.heap.size) : Below lo w w' := by
  obtain ⟨row, hg, hr⟩ := h
  exact ⟨hg.os, hg.tape, hg.output, hg.size, fun k hk => hg.block k (by omega) (fun e => by
    obtain ⟨h4, h5⟩ := hr k e.symm
    have := hl k h5 h4
    omega)⟩
theorem OwnS.lo {w : World} {lo n : Nat} {sa : Option Addr} {f : Nat → Int} (h : OwnS w lo sa n f) : ∀ g, sa = some ⟨g, 0, none⟩ → 0 < n → lo ≤ g ∧ g < w.heap.size := by
  intro g hg hn
  rcases h with h | ⟨g', h1, h2, h3⟩
  · omega
  · rw [h1] at hg
    injection hg with hg
    injection hg with hg
    subst hg
    exact ⟨h2, h3.1⟩
end Go.Proofs.YthnnenbpbkmbhaaGreat
namespace Go.Proofs.YthnnenbpbkmbhaaGreat
open Go.RowKit

/-- A vector lies in a block. -/
def Boxed (W : World) (p : Nat) (t : TypeId) (b : Int) (sa : Option Addr) (n cap : Nat) : Prop := W.heap[p]? = some (.cells #[.int .i64 b, .slice sa n cap] t (0, 0))
theorem Boxed.cells {W : World} {p : Nat} {t : TypeId} {b : Int} {sa : Option Addr} {n cap : Nat} (h : Boxed W p t b sa n cap) : W.cell? ⟨p, 0, none⟩ = some (.int .i64 b) ∧ W.cell? ⟨p, 1, none⟩ = some (.slice sa n cap) := by
  unfold Boxed at h
  exact ⟨by simp [World.cell?, h], by simp [World.cell?, h]⟩
theorem Boxed.lt {W : World} {p : Nat} {t : TypeId} {b : Int} {sa : Option Addr} {n cap : Nat} (h : Boxed W p t b sa n cap) : p < W.heap.size := lt_of_block h
theorem Boxed.kept {W W' : World} {B p : Nat} {t : TypeId} {b : Int} {sa : Option Addr} {n cap : Nat} (h : Boxed W p t b sa n cap) (hb : Below B W W') (hB : B = W.heap.size) : Boxed W' p t b sa n cap := by
  unfold Boxed
  rw [hb.block p (by rw [hB]; exact h.lt)]
  exact h
/-- Some block of a stretch turned, no other. -/
def OnlyIn (W W' : World) (lo hi : Nat) : Prop := ∃ row : Option Nat, W.grownBy W' row ∧ ∀ g, row = some g → lo ≤ g ∧ g < hi
theorem Boxed.only {W W' : World} {lo hi p : Nat} {t : TypeId} {b : Int} {sa : Option Addr} {n cap : Nat} (h : Boxed W p t b sa n cap) (ho : OnlyIn W W' lo hi) (hp : p < lo ∨ hi ≤ p) : Boxed W' p t b sa n cap := by
  obtain ⟨row, hg, hr⟩ := ho
  unfold Boxed
  rw [hg.block p h.lt (fun e => by have := hr p e.symm; omega)]
  exact h
theorem OnlyIn.below {W W' : World} {lo hi B : Nat} (h : OnlyIn W W' lo hi) (hB : B ≤ lo) (hs : B ≤ W.heap.size) : Below B W W' := by
  obtain ⟨row, hg, hr⟩ := h
  exact ⟨hg.os, hg.tape, hg.output, hg.size, fun k hk => hg.block k (by omega) (fun e => by have := hr k e.symm; omega)⟩
theorem OnlyIn.size {W W' : World} {lo hi : Nat} (h : OnlyIn W W' lo hi) : W.heap.size ≤ W'.heap.size := by
  obtain ⟨row, hg, hr⟩ := h
  exact hg.size
/-- A row in a stretch of blocks. -/
def Slice (W : World) (lo hi : Nat) (sa : Option Addr) (n : Nat) (f : Nat → Int) : Prop := n = 0 ∨ ∃ g, sa = some ⟨g, 0, none⟩ ∧ lo ≤ g ∧ g < hi ∧ Own W g n f
theorem OwnS.slice {W : World} {lo n : Nat} {sa : Option Addr} {f : Nat → Int} (h : OwnS W lo sa n f) : Slice W lo W.heap.size sa n f := by
  rcases h with h | ⟨g, h1, h2, h3⟩
  · exact Or.inl h
  · exact Or.inr ⟨g, h1, h2, h3.1, h3⟩
theorem Slice.own {W : World} {lo hi n : Nat} {sa : Option Addr} {f : Nat → Int} (h : Slice W lo hi sa n f) : OwnS W lo sa n f := by
  rcases h with h | ⟨g, h1, h2, _, h3⟩
  · exact Or.inl h
  · exact Or.inr ⟨g, h1, h2, h3⟩
theorem Slice.row {W : World} {lo hi n : Nat} {sa : Option Addr} {f : Nat → Int} (h : Slice W lo hi sa n f) : Row W W.heap.size sa n f := h.own.row
theorem Slice.kept {W W' : World} {B lo hi n : Nat} {sa : Option Addr} {f : Nat → Int} (h : Slice W lo hi sa n f) (hb : Below B W W') (hB : B = W.heap.size) : Slice W' lo hi sa n f := by
  rcases h with h | ⟨g, h1, h2, h4, h3⟩
  · exact Or.inl h
  · exact Or.inr ⟨g, h1, h2, h4, h3.kept hb (by rw [hB]; exact h3.1)⟩
theorem Slice.only {W W' : World} {lo hi lo' hi' n : Nat} {sa : Option Addr} {f : Nat → Int} (h : Slice W lo hi sa n f) (ho : OnlyIn W W' lo' hi') (hd : hi ≤ lo' ∨ hi' ≤ lo) : Slice W' lo hi sa n f := by
  rcases h with h | ⟨g, h1, h2, h4, h3⟩
  · exact Or.inl h
  · obtain ⟨row, hg, hr⟩ := ho
    refine Or.inr ⟨g, h1, h2, h4, ?_⟩
    have hb := hg.block g h3.1 (fun e => by have := hr g e.symm; omega)
    refine ⟨Nat.lt_of_lt_of_le h3.1 hg.size, fun i hi => ?_, fun i hi => ?_⟩
    · have := h3.2.1 i hi
      simpa [World.cell?, hb] using this
    · have := h3.2.2 i hi
      simpa [World.frozen?, hb] using this
/-- A vector is put into a box. -/
theorem boxing (W : World) (t : TypeId) (b : Int) (sa : Option Addr) (n cap : Nat) : Below W.heap.size W (W.alloc (.cells #[.int .i64 b, .slice sa n cap] t)) ∧ Boxed (W.alloc (.cells #[.int .i64 b, .slice sa n cap] t)) W.heap.size t b sa n cap ∧ (W.alloc (.cells #[.int .i64 b, .slice sa n cap] t)).heap.size = W.heap.size + 1 :=
  ⟨(Below.refl _ _).alloc (Nat.le_refl _) _, heap_alloc_new W _, by simp⟩
/-- A later world: what was there is as it was. -/
structure Since (w W : World) : Prop where
  below : Below w.heap.size w W
theorem since_refl (w : World) : Since w w := ⟨Below.refl _ _⟩
theorem since_alloc {w W : World} {o : Obj} (h : Since w W) : Since w (W.alloc o) := ⟨h.below.alloc h.below.size _⟩
theorem since_call {w W W' : World} (h : Since w W) (hb : Below W.heap.size W W') : Since w W' := ⟨h.below.trans (hb.mono h.below.size)⟩
theorem since_drew {w W : World} (h : Since w W) : Since w W.drew := ⟨h.below.drew⟩
theorem since_set {w W : World} {p : Addr} {v : Value} (h : Since w W) (hp : w.heap.size ≤ p.block) : Since w (W.setCell p v) := ⟨h.below.setCell hp _⟩
theorem Since.size {w W : World} (h : Since w W) : w.heap.size ≤ W.heap.size := h.below.size
theorem row_since {w W : World} {n : Nat} {sa : Option Addr} {f : Nat → Int} (h : Row w w.heap.size sa n f) (hs : Since w W) : Row W W.heap.size sa n f := (h.kept hs.below).up hs.below.size
theorem ownS_since {w W : World} {lo n : Nat} {sa : Option Addr} {f : Nat → Int} (h : OwnS w lo sa n f) (hs : Since w W) : Row W W.heap.size sa n f := row_since h.row hs
theorem Boxed.since {w W : World} {p : Nat} {t : TypeId} {b : Int} {sa : Option Addr} {n cap : Nat} (h : Boxed w p t b sa n cap) (hs : Since w W) : Boxed W p t b sa n cap := h.kept hs.below rfl
theorem Boxed.four {W : World} {p : Nat} {t : TypeId} {b : Int} {sa : Option Addr} {n cap : Nat} (h : Boxed W p t b sa n cap) : W.cell? ⟨p, 0, none⟩ = some (.int .i64 b) ∧ W.cell? ⟨p, 1, none⟩ = some (.slice sa n cap) ∧ W.frozen? ⟨p, 0, none⟩ = false ∧ W.frozen? ⟨p, 1, none⟩ = false :=
  ⟨h.cells.1, h.cells.2, frozen_of_row _ _ _ _ _ h, frozen_of_row _ _ _ _ _ h⟩
/-- What a statement 'x := f(..)' over vectors leaves: x's box, its words. -/
def CutP (w : World) (t : TypeId) (ro : Int) (rn : Nat) (rf : Nat → Int) (pv : Value) (wc : World) : Prop :=
  ∃ (p : Nat) (sx : Option Addr) (cx : Nat), pv = .pointer (some ⟨p, 0, none⟩) ∧ Since w wc ∧ w.heap.size ≤ p ∧ p < wc.heap.size ∧ Boxed wc p t ro sx rn cx ∧ Slice wc w.heap.size wc.heap.size sx rn rf
theorem cut_late {w W : World} {t : TypeId} {ro : Int} {rn lo : Nat} {rf : Nat → Int} {sx : Option Addr} {cx : Nat} (hS : Since w W) (hlo : w.heap.size ≤ lo) (ho : OwnS W lo sx rn rf) :
    CutP w t ro rn rf (.pointer (some ⟨W.heap.size, 0, none⟩)) (W.alloc (.cells #[.int .i64 ro, .slice sx rn cx] t)) := by
  have hb := boxing W t ro sx rn cx
  refine ⟨_, sx, cx, rfl, since_alloc hS, hS.size, by rw [hb.2.2]; omega, hb.2.1, ?_⟩
  have hk := (ho.low hlo).kept hb.1 rfl
  exact hk.slice
theorem cut_early {w W : World} {t : TypeId} {ro : Int} {rn lo p : Nat} {rf : Nat → Int} {sx : Option Addr} {cx : Nat} (hS : Since w W) (hx : Boxed W p t 0 none 0 0) (hp : w.heap.size ≤ p) (hlt : p < lo) (ho : OwnS W lo sx rn rf) :
    CutP w t ro rn rf (.pointer (some ⟨p, 0, none⟩)) ((W.setCell ⟨p, 0, none⟩ (.int .i64 ro)).setCell ⟨p, 1, none⟩ (.slice sx rn cx)) := by
  refine ⟨p, sx, cx, rfl, since_set (since_set hS hp) hp, hp, by simpa [World.setCell] using hx.lt, ?_, ?_⟩
  · unfold Boxed at hx ⊢
    have h1 := heap_setCell_same W p 0 _ _ (.int .i64 ro) hx
    have h2 := heap_setCell_same _ p 1 _ _ (.slice sx rn cx) h1
    rw [h2]
    rfl
  · rcases ho with h | ⟨g, h1, h2, h3⟩
    · exact Or.inl h
    · have h4 := (h3.setOther ⟨p, 0, none⟩ (.int .i64 ro) (by show p ≠ g; omega)).setOther ⟨p, 1, none⟩ (.slice sx rn cx) (by show p ≠ g; omega)
      exact Or.inr ⟨g, h1, by omega, h4.1, h4⟩
theorem Boxed.setOther {W : World} {p : Nat} {t : TypeId} {b : Int} {sa : Option Addr} {n cap : Nat} (h : Boxed W p t b sa n cap) (a : Addr) (v : Value) (hne : a.block ≠ p) : Boxed (W.setCell a v) p t b sa n cap := by
  unfold Boxed
  rw [Below.heap_setCell _ _ _ _ (fun e => hne e.symm)]
  exact h
theorem Boxed.drew {W : World} {p : Nat} {t : TypeId} {b : Int} {sa : Option Addr} {n cap : Nat} (h : Boxed W p t b sa n cap) : Boxed W.drew p t b sa n cap := h
end Go.Proofs.YthnnenbpbkmbhaaGreat
namespace Go.Proofs.YthnnenbpbkmbhaaGreat
open Go.RowKit

/-- Whether a bit of a word is on. -/
def getB (x : Int) (q : Nat) : Bool := bits .and .i64 (x / 2 ^ q) 1 == 1
set_option maxHeartbeats 1000000 in
theorem l02Get_any (b : Int) (sa : Option Addr) (n ka k q : Nat) (f : Nat → Int) (i : Int) (w : World) (hn : n ≤ 1048576) (hr : Row w w.heap.size sa n f) (h0 : 0 ≤ i) (h1 : i / 32 = (k : Int)) (h2 : i % 32 = (q : Int)) (hk : k < n) :
    Calls Tryz.prog 92 #[.agg #[.int .i64 b, .slice sa n ka], .int .i64 i] w fun e w' => e = .returned (.bool (getB (f k) q)) ∧ Below w.heap.size w w' := by
  obtain ⟨bb, off, rfl, hbb, hca⟩ : ∃ bb off : Nat, sa = some ⟨bb, off, none⟩ ∧ bb < w.heap.size ∧ ∀ i, i < n → w.cell? ⟨bb, off + i, none⟩ = some (.int .i64 (f i)) := by
    rcases hr with h | h
    · omega
    · exact h
  have cz0 := hca k hk
  clear hca hr
  have q1 := boxing w 35 b (some ⟨bb, off, none⟩) n ka
  have HB : Hid (Below w.heap.size w (w.alloc (.cells #[.int .i64 b, .slice (some ⟨bb, off, none⟩) n ka] 35))) := q1.1
  have cz : (w.alloc (.cells #[.int .i64 b, .slice (some ⟨bb, off, none⟩) n ka] 35)).cell? ⟨bb, off + k, none⟩ = some (.int .i64 (f k)) := by rw [q1.1.cell (p := ⟨bb, off + k, none⟩) hbb]; exact cz0
  clear q1
  have hki : (k : Int) < (n : Int) := by omega
  have hk0 : (0 : Int) ≤ (k : Int) := by omega
  have hq0 : (0 : Int) ≤ (q : Int) := by omega
  have hq1 : (q : Int) < 32 := by omega
  go_enter Tryz.func92, Tryz.ntmps92
  go_wp2
  go_ret
  exact ⟨rfl, HB.out⟩
end Go.Proofs.YthnnenbpbkmbhaaGreat
namespace Go.Proofs.YthnnenbpbkmbhaaGreat
open Go.RowKit

theorem bits_andNot_nat (k : IntKind) (j : Nat) (hj : j ≤ k.bits) (hk : ∀ n : Int, 0 ≤ n → n < 2 ^ j → k.wrap n = n) (a b : Nat) (ha : a < 2 ^ j) (hb : b < 2 ^ j) :
    bits .andNot k a b = ((a ^^^ (a &&& b) : Nat) : Int) := by
  have hp : 2 ^ j ≤ 2 ^ k.bits := Nat.pow_le_pow_right (by decide) hj
  have ha' : a % 2 ^ k.bits = a := Nat.mod_eq_of_lt (Nat.lt_of_lt_of_le ha hp)
  have hb' : b % 2 ^ k.bits = b := Nat.mod_eq_of_lt (Nat.lt_of_lt_of_le hb hp)
  have cast : ∀ n : Nat, n < 2 ^ j → ((n : Nat) : Int) < 2 ^ j := fun n h => by exact_mod_cast h
  have hv : (BitVec.ofInt k.bits (a : Int) &&& ~~~BitVec.ofInt k.bits (b : Int)).toNat = a ^^^ (a &&& b) := by
    apply Nat.eq_of_testBit_eq
    intro i
    rw [← BitVec.getLsbD, BitVec.getLsbD_and, BitVec.getLsbD_not, Nat.testBit_xor, Nat.testBit_and, BitVec.ofInt_natCast, BitVec.ofInt_natCast, BitVec.getLsbD_ofNat, BitVec.getLsbD_ofNat]
    by_cases hi : i < k.bits
    · simp [hi]
      cases a.testBit i <;> cases b.testBit i <;> rfl
    · have h1 : a.testBit i = false := Nat.testBit_lt_two_pow (Nat.lt_of_lt_of_le (Nat.lt_of_lt_of_le ha hp) (Nat.pow_le_pow_right (by decide) (by omega)))
      simp [hi, h1]
  show k.wrap ((BitVec.ofInt k.bits (a : Int) &&& ~~~BitVec.ofInt k.bits (b : Int)).toNat : Int) = _
  rw [hv]
  exact hk _ (Int.natCast_nonneg _) (cast _ (Nat.xor_lt_two_pow ha (Nat.and_lt_two_pow _ hb)))
theorem getB_nat (a q : Nat) (h : a < 2 ^ 32) : getB (a : Int) q = a.testBit q := by
  unfold getB
  have e : (a : Int) / 2 ^ q = ((a / 2 ^ q : Nat) : Int) := by simp
  have hl : a / 2 ^ q < 2 ^ 32 := Nat.lt_of_le_of_lt (Nat.div_le_self _ _) h
  rw [e, show (1 : Int) = ((1 : Nat) : Int) from rfl, (bits_nat .i64 32 (by decide) wraps_i64w (a / 2 ^ q) 1 hl (by decide)).1, Nat.and_one_is_mod, Nat.testBit_eq_decide_div_mod_eq]
  by_cases h2 : a / 2 ^ q % 2 = 1
  · rw [h2]; rfl
  · have h3 : a / 2 ^ q % 2 = 0 := by omega
    rw [h3]; rfl
theorem or_bit (x : Int) (q : Nat) (hq : q < 32) (hx : Word 32 x) : bits .or .i64 x (2 ^ q) = if getB x q = true then x else bits .xor .i64 x (2 ^ q) := by
  obtain ⟨a, rfl, ha⟩ := word_nat hx
  have hp : 2 ^ q < 2 ^ 32 := Nat.pow_lt_pow_right (by decide) hq
  have e : (2 : Int) ^ q = ((2 ^ q : Nat) : Int) := by simp
  rw [e, getB_nat a q ha, (bits_nat .i64 32 (by decide) wraps_i64w a _ ha hp).2, bits_xor_nat .i64 32 (by decide) wraps_i64w a _ ha hp]
  split
  · rename_i h
    congr 1
    apply Nat.eq_of_testBit_eq
    intro i
    rw [Nat.testBit_or, Nat.testBit_two_pow]
    by_cases hi : q = i
    · subst hi; simp [h]
    · simp [hi]
  · rename_i h
    congr 1
    apply Nat.eq_of_testBit_eq
    intro i
    rw [Nat.testBit_or, Nat.testBit_xor, Nat.testBit_two_pow]
    by_cases hi : q = i
    · subst hi; simp [h]
    · simp [hi]
theorem off_bit (x : Int) (q : Nat) (hq : q < 32) (hx : Word 32 x) : bits .andNot .i64 x (2 ^ q) = if getB x q = true then bits .xor .i64 x (2 ^ q) else x := by
  obtain ⟨a, rfl, ha⟩ := word_nat hx
  have hp : 2 ^ q < 2 ^ 32 := Nat.pow_lt_pow_right (by decide) hq
  have e : (2 : Int) ^ q = ((2 ^ q : Nat) : Int) := by simp
  rw [e, getB_nat a q ha, bits_andNot_nat .i64 32 (by decide) wraps_i64w a _ ha hp, bits_xor_nat .i64 32 (by decide) wraps_i64w a _ ha hp]
  split
  · rename_i h
    congr 1
    apply Nat.eq_of_testBit_eq
    intro i
    rw [Nat.testBit_xor, Nat.testBit_xor, Nat.testBit_and, Nat.testBit_two_pow]
    by_cases hi : q = i
    · subst hi; simp [h]
    · simp [hi]
  · rename_i h
    congr 1
    apply Nat.eq_of_testBit_eq
    intro i
    rw [Nat.testBit_xor, Nat.testBit_and, Nat.testBit_two_pow]
    by_cases hi : q = i
    · subst hi; simp [h]
    · simp [hi]
/-- The words with one bit as it is asked for. -/
def setF (f : Nat → Int) (k q : Nat) (on : Bool) : Nat → Int := fun i => if i = k then (if getB (f k) q = on then f k else bits .xor .i64 (f k) (2 ^ q)) else f i
theorem set_on (f : Nat → Int) (k q : Nat) (hq : q < 32) (hx : Word 32 (f k)) : ∀ i, (if i = k then bits .or .i64 (f k) (2 ^ q) else f i) = setF f k q true i := by
  intro i
  unfold setF
  split
  · rw [or_bit _ q hq hx]
  · rfl
theorem set_off (f : Nat → Int) (k q : Nat) (hq : q < 32) (hx : Word 32 (f k)) : ∀ i, (if i = k then bits .andNot .i64 (f k) (2 ^ q) else f i) = setF f k q false i := by
  intro i
  unfold setF
  split
  · rw [off_bit _ q hq hx]
    cases getB (f k) q <;> rfl
  · rfl
theorem pow_bit (q : Nat) (hq : q < 32) : ∃ P : Int, (2 : Int) ^ q = P ∧ 0 < P ∧ P ≤ 2147483648 := by
  refine ⟨_, rfl, Int.pow_pos (by decide), ?_⟩
  have e : (2 : Int) ^ q = ((2 ^ q : Nat) : Int) := by simp
  have h2 : 2 ^ q ≤ 2 ^ 31 := Nat.pow_le_pow_right (by decide) (by omega)
  rw [e]
  omega
end Go.Proofs.YthnnenbpbkmbhaaGreat
namespace Go.Proofs.YthnnenbpbkmbhaaGreat

/-- Words whose bits are told. -/
def VecIs (f : Nat → Int) (P : Nat → Bool) (m : Nat) : Prop := ∀ i, i < m → ∃ a : Nat, f i = (a : Int) ∧ a < 2 ^ 32 ∧ ∀ q, q < 32 → a.testBit q = P (32 * i + q)
theorem VecIs.uniq {f g : Nat → Int} {P : Nat → Bool} {m : Nat} (h : VecIs f P m) (h' : VecIs g P m) : ∀ i, i < m → f i = g i := fun i hi => by
  obtain ⟨a, e1, h1, h2⟩ := h i hi
  obtain ⟨b, e2, h3, h4⟩ := h' i hi
  rw [e1, e2]
  congr 1
  apply Nat.eq_of_testBit_eq
  intro q
  by_cases hq : q < 32
  · rw [h2 q hq, h4 q hq]
  · rw [Nat.testBit_lt_two_pow (Nat.lt_of_lt_of_le h1 (Nat.pow_le_pow_right (by decide) (by omega))), Nat.testBit_lt_two_pow (Nat.lt_of_lt_of_le h3 (Nat.pow_le_pow_right (by decide) (by omega)))]
theorem VecIs.congr {f : Nat → Int} {P Q : Nat → Bool} {m : Nat} (h : VecIs f P m) (e : ∀ j, P j = Q j) : VecIs f Q m := fun i hi => by
  obtain ⟨a, e1, h1, h2⟩ := h i hi
  exact ⟨a, e1, h1, fun q hq => (h2 q hq).trans (e _)⟩
theorem vecIs_zero (m : Nat) : VecIs (fun _ => 0) (fun _ => false) m := fun i _ => ⟨0, rfl, by decide, fun q _ => by simp⟩
/-- The words of a number. -/
def wordsN (x : Nat) : Nat → Int := fun i => ((x / 2 ^ (i * 32) % 4294967296 : Nat) : Int)
theorem vecIs_words {x : Nat} {P : Nat → Bool} (h : IsBits x P) (m : Nat) : VecIs (wordsN x) P m := fun i _ => ⟨x / 2 ^ (i * 32) % 4294967296, rfl, Nat.mod_lt _ (by decide), fun q hq => by
  rw [show (4294967296 : Nat) = 2 ^ 32 from by decide, Nat.testBit_mod_two_pow, Nat.testBit_div_two_pow, h.bit]
  rw [decide_eq_true hq, Bool.true_and]
  congr 1
  omega⟩
theorem VecIs.word {f : Nat → Int} {P : Nat → Bool} {m i : Nat} (h : VecIs f P m) (hi : i < m) : Word 32 (f i) := by
  obtain ⟨a, e1, h1, _⟩ := h i hi
  rw [e1]
  exact word_of h1
theorem VecIs.set {f : Nat → Int} {P : Nat → Bool} {m k q : Nat} (h : VecIs f P m) (hk : k < m) (hq : q < 32) : VecIs (setF f k q true) (fun j => P j || decide (32 * k + q = j)) m := fun i hi => by
  obtain ⟨a, e1, h1, h2⟩ := h i hi
  have hs := set_on f k q hq (h.word hk) i
  by_cases e : i = k
  · subst e
    rw [if_pos rfl] at hs
    have hp : 2 ^ q < 2 ^ 32 := Nat.pow_lt_pow_right (by decide) hq
    rw [e1, show (2 : Int) ^ q = ((2 ^ q : Nat) : Int) by simp, (bits_nat .i64 32 (by decide) wraps_i64w a _ h1 hp).2] at hs
    refine ⟨a ||| 2 ^ q, hs.symm, Nat.or_lt_two_pow h1 hp, fun r hr => ?_⟩
    rw [Nat.testBit_or, h2 r hr, Nat.testBit_two_pow]
    congr 1
    by_cases e2 : q = r
    · subst e2; simp
    · rw [decide_eq_false e2, decide_eq_false (by omega)]
  · rw [if_neg e] at hs
    refine ⟨a, by rw [← hs]; exact e1, h1, fun r hr => ?_⟩
    show a.testBit r = (P (32 * i + r) || decide (32 * k + q = 32 * i + r))
    rw [h2 r hr, decide_eq_false (by omega), Bool.or_false]
theorem behind_ex (q : Nat → Bool) : ∀ n, n ≤ 62 → ∃ x, IsBits x (behind q n)
  | 0, _ => ⟨0, behind_zero q⟩
  | n + 1, h => by
    obtain ⟨x, hx⟩ := behind_ex q n (by omega)
    cases e : q n with
    | true => exact ⟨_, behind_yes hx (by omega) e⟩
    | false => exact ⟨_, behind_no hx e⟩
theorem and_word64 {y : Nat} (h : y < 18446744073709551616) : bits .and .u64 (y : Int) 4294967295 = ((y % 4294967296 : Nat) : Int) := by
  have h2 := and64 (a := y) (b := 4294967295) h (by omega)
  rw [show (4294967295 : Nat) = 2 ^ 32 - 1 from by decide, Nat.and_two_pow_sub_one_eq_mod] at h2
  exact h2
end Go.Proofs.YthnnenbpbkmbhaaGreat
