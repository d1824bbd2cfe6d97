/- What is said here: classes of bytes as plain functions: which bytes a text has, the class of those of which a row says so.
   What is proved here: plain arithmetic on sets of bytes that are kept as four words of 64 bits: one byte more, put together word by word, the lowest byte of what is left.
   What is said here: cells in memory: rows that are read, rows that are owned, what turns in them. -/
import Derived.Test.YtfeolbgenpknfaaGreatProg
import Derived.WalkKit
import Derived.Laws.BytesArg
import Derived.Maps.AppendAt
import Derived.Lib.TrailingZeros
import Derived.Laws.BitsLemmas
import Derived.Laws.Bits64b
import Derived.WalkSpells
import Derived.RegionTactic
import Derived.BigRegion
import Derived.Deep.DeepCutAuto
namespace Go.Proofs.YtfeolbgenpknfaaGreat
open Go.RowKit

/-- Byte b is among the first k of the text. -/
def hasUpTo (t : ByteArray) (k b : Nat) : Bool := (t.data.toList.take k).any (fun c => c.toNat == b)
/-- Byte b is in the text. -/
def hasByte (t : ByteArray) (b : Nat) : Bool := t.data.toList.any (fun c => c.toNat == b)
theorem hasUpTo_zero (t : ByteArray) (b : Nat) : hasUpTo t 0 b = false := by simp [hasUpTo]
theorem hasUpTo_succ (t : ByteArray) (k b : Nat) (h : k < t.size) : hasUpTo t (k + 1) b = (hasUpTo t k b || (t[k].toNat == b)) := by
  unfold hasUpTo
  rw [List.take_succ_eq_append_getElem (by simpa using h), List.any_append]
  simp
  rfl
theorem hasUpTo_all (t : ByteArray) (b : Nat) : hasUpTo t t.size b = hasByte t b := by
  unfold hasUpTo hasByte
  rw [List.take_of_length_le (by simp)]
/-- The first k bytes of which a row says so. -/
def classL (f : Nat → Bool) (k : Nat) : List Int := ((List.range k).filter f).map fun i : Nat => (i : Int)
theorem classL_zero (f : Nat → Bool) : classL f 0 = [] := rfl
theorem classL_yes {f : Nat → Bool} {k : Nat} (h : f k = true) : classL f (k + 1) = classL f k ++ [(k : Int)] := by
  simp [classL, List.range_succ, List.filter_append, h]
theorem classL_no {f : Nat → Bool} {k : Nat} (h : f k = false) : classL f (k + 1) = classL f k := by
  simp [classL, List.range_succ, List.filter_append, h]
theorem classL_len (f : Nat → Bool) : ∀ k, (classL f k).length ≤ k
  | 0 => by simp [classL]
  | k + 1 => by
    have := classL_len f k
    by_cases hb : f k = true
    · rw [classL_yes hb]; simp; omega
    · rw [classL_no (by simpa using hb)]; omega
theorem classL_congr {f g : Nat → Bool} {k : Nat} (h : ∀ i, i < k → f i = g i) : classL f k = classL g k := by
  unfold classL
  congr 1
  apply List.filter_congr
  intro i hi
  exact h i (List.mem_range.1 hi)
/-- The class of the bytes of which a row says so. -/
def classT (f : Nat → Bool) : ByteArray := strOfNums (classL f 256)
theorem classT_congr {f g : Nat → Bool} (h : ∀ i, i < 256 → f i = g i) : classT f = classT g := by unfold classT; rw [classL_congr h]
/-- A right class. -/
def RightC (t : ByteArray) : Prop := ∀ (i : Nat) (h : i + 1 < t.size), t[i].toNat < t[i + 1].toNat
def RightTo (t : ByteArray) (k : Nat) : Prop := ∀ (i : Nat) (h : i + 1 < t.size), i + 1 < k → t[i].toNat < t[i + 1].toNat
/-- What a fold adds. -/
def foldB (f : Nat → Bool) (k : Nat) : Nat → Bool := fun i => if 65 ≤ i ∧ i < 65 + k then f i || f (i + 32) else if 97 ≤ i ∧ i < 97 + k then f (i - 32) || f i else f i
theorem foldB_zero (f : Nat → Bool) (i : Nat) : foldB f 0 i = f i := by unfold foldB; rw [if_neg (by omega), if_neg (by omega)]
end Go.Proofs.YtfeolbgenpknfaaGreat
namespace Go.Proofs.YtfeolbgenpknfaaGreat
open Go.RowKit

/-- The byte i is in the set. -/
def inSet (f : Nat → Nat) (i : Nat) : Bool := (f (i / 64)).testBit (i % 64)
/-- Four words. -/
def Set4 (f : Nat → Nat) : Prop := ∀ j, f j < 18446744073709551616
/-- One byte more. -/
def withB (f : Nat → Nat) (b : Nat) : Nat → Nat := fun j => if j = b / 64 then f j ||| 2 ^ (b % 64) else f j
theorem pow_lt64 {k : Nat} (h : k < 64) : 2 ^ k < 18446744073709551616 := by
  have : 2 ^ k < 2 ^ 64 := Nat.pow_lt_pow_right (by decide) h
  simpa using this
theorem or_lt64 {a b : Nat} (ha : a < 18446744073709551616) (hb : b < 18446744073709551616) : a ||| b < 18446744073709551616 := Nat.or_lt_two_pow (n := 64) ha hb
theorem and_lt64 {a b : Nat} (ha : a < 18446744073709551616) : a &&& b < 18446744073709551616 := Nat.lt_of_le_of_lt Nat.and_le_left ha
theorem withB_set {f : Nat → Nat} (h : Set4 f) (b : Nat) : Set4 (withB f b) := fun j => by
  unfold withB
  split
  · exact or_lt64 (h j) (pow_lt64 (Nat.mod_lt _ (by decide)))
  · exact h j
theorem withB_at (f : Nat → Nat) (b : Nat) : withB f b (b / 64) = f (b / 64) ||| 2 ^ (b % 64) := by simp [withB]
theorem withB_off {f : Nat → Nat} {b j : Nat} (h : j ≠ b / 64) : withB f b j = f j := by simp [withB, h]
theorem inSet_with (f : Nat → Nat) (b i : Nat) : inSet (withB f b) i = (inSet f i || (b == i)) := by
  unfold inSet
  by_cases e : i / 64 = b / 64
  · rw [e, withB_at, Nat.testBit_or, Nat.testBit_two_pow]
    congr 1
    by_cases e2 : b = i
    · subst e2; simp
    · have : b % 64 ≠ i % 64 := by omega
      simp [this, e2]
  · rw [withB_off e]
    have : b ≠ i := fun h => e (by rw [h])
    simp [this]
theorem inSet_zero (i : Nat) : inSet (fun _ => 0) i = false := by simp [inSet]
/-- A set stays with a byte just if it is in it. -/
theorem withB_same (f : Nat → Nat) (b : Nat) : f (b / 64) ||| 2 ^ (b % 64) = f (b / 64) ↔ inSet f b = true := by
  constructor
  · intro h
    have := inSet_with f b b
    unfold inSet at this ⊢
    rw [withB_at, h] at this
    simpa using this
  · intro h
    apply Nat.eq_of_testBit_eq
    intro i
    rw [Nat.testBit_or, Nat.testBit_two_pow]
    by_cases e : b % 64 = i
    · subst e
      unfold inSet at h
      simp [h]
    · simp [e]
theorem inSet_or (f g : Nat → Nat) (i : Nat) : inSet (fun j => f j ||| g j) i = (inSet f i || inSet g i) := by simp [inSet]
theorem inSet_and (f g : Nat → Nat) (i : Nat) : inSet (fun j => f j &&& g j) i = (inSet f i && inSet g i) := by simp [inSet]
theorem inSet_not (f : Nat → Nat) (i : Nat) : inSet (fun j => f j ^^^ 18446744073709551615) i = !inSet f i := by
  unfold inSet
  rw [Nat.testBit_xor, show (18446744073709551615 : Nat) = 2 ^ 64 - 1 from by decide, Nat.testBit_two_pow_sub_one]
  have : i % 64 < 64 := Nat.mod_lt _ (by decide)
  simp [this]
/-- The lowest bit that is on, and what is left without it. -/
theorem ctz64_bits (x : Nat) (h0 : x ≠ 0) (h : x < 2 ^ 64) : x.testBit (Lib.ctz 64 x) = true ∧ (∀ i, i < Lib.ctz 64 x → x.testBit i = false) ∧ Lib.ctz 64 x < 64 ∧ ∀ i, (x &&& (x - 1)).testBit i = (x.testBit i && decide (Lib.ctz 64 x < i)) := by
  obtain ⟨m, hm, hk⟩ := Lib.ctzFrom_spec 64 x (by omega) h
  have e : Lib.ctz 64 x = Lib.ctzFrom 64 x := by simp [Lib.ctz, h0]
  rw [e]
  obtain ⟨t, ht⟩ : ∃ t, Lib.ctzFrom 64 x = t := ⟨_, rfl⟩
  rw [ht] at hm hk ⊢
  have hp : 0 < 2 ^ t := Nat.two_pow_pos t
  have hx : ∀ i, x.testBit i = if i < t then false else (2 * m + 1).testBit (i - t) := by
    intro i
    have := Nat.testBit_two_pow_mul_add (2 * m + 1) (b := 0) (i := t) hp i
    rw [Nat.add_zero] at this
    rw [hm, this]
    simp
  have hx1 : ∀ i, (x - 1).testBit i = if i < t then (2 ^ t - 1).testBit i else (2 * m).testBit (i - t) := by
    intro i
    have h2 : x - 1 = 2 ^ t * (2 * m) + (2 ^ t - 1) := by
      rw [hm, Nat.mul_add, Nat.mul_one]
      omega
    rw [h2]
    exact Nat.testBit_two_pow_mul_add (2 * m) (by omega) i
  refine ⟨?_, ?_, hk, ?_⟩
  · rw [hx]
    simp [Nat.testBit_zero]
  · intro i hi
    rw [hx, if_pos hi]
  · intro i
    rw [Nat.testBit_and, hx, hx1]
    by_cases h1 : i < t
    · simp [h1]
    · rw [if_neg h1, if_neg h1]
      by_cases h2 : i = t
      · subst h2
        simp [Nat.testBit_zero]
      · obtain ⟨j, rfl⟩ : ∃ j, i = t + (j + 1) := ⟨i - t - 1, by omega⟩
        have e3 : t + (j + 1) - t = j + 1 := by omega
        rw [e3, Nat.testBit_succ, Nat.testBit_succ]
        have d1 : (2 * m + 1) / 2 = m := by omega
        have d2 : 2 * m / 2 = m := by omega
        rw [d1, d2]
        simp
theorem classL_none {f : Nat → Bool} {a : Nat} : ∀ b, a ≤ b → (∀ i, a ≤ i → i < b → f i = false) → classL f b = classL f a
  | 0, h, _ => by obtain rfl : a = 0 := by omega
                  rfl
  | b + 1, h, hn => by
    by_cases e : a = b + 1
    · rw [e]
    · rw [classL_no (hn b (by omega) (by omega))]
      exact classL_none b (by omega) (fun i h1 h2 => hn i h1 (by omega))
/-- What is left of a word when the bits below p have come. -/
def Rest64 (x p r : Nat) : Prop := r < 18446744073709551616 ∧ ∀ i, r.testBit i = (x.testBit i && decide (p ≤ i))
theorem rest64_start {x : Nat} (h : x < 18446744073709551616) : Rest64 x 0 x := ⟨h, fun i => by simp⟩
theorem rest64_step {x p r : Nat} (h : Rest64 x p r) (h0 : r ≠ 0) : p ≤ Lib.ctz 64 r ∧ Lib.ctz 64 r < 64 ∧ x.testBit (Lib.ctz 64 r) = true ∧ (∀ i, p ≤ i → i < Lib.ctz 64 r → x.testBit i = false) ∧ Rest64 x (Lib.ctz 64 r + 1) (r &&& (r - 1)) := by
  obtain ⟨h1, h2, h3, h4⟩ := ctz64_bits r h0 h.1
  have h5 := h.2 (Lib.ctz 64 r)
  rw [h1] at h5
  have h6 : x.testBit (Lib.ctz 64 r) = true ∧ p ≤ Lib.ctz 64 r := by simpa using h5.symm
  refine ⟨h6.2, h3, h6.1, fun i hi hl => ?_, ?_, fun i => ?_⟩
  · have h7 := h.2 i
    rw [h2 i hl] at h7
    simpa [hi] using h7.symm
  · exact Nat.lt_of_le_of_lt Nat.and_le_left h.1
  · rw [h4 i, h.2 i]
    by_cases hl : Lib.ctz 64 r < i
    · have : p ≤ i := by omega
      have h8 : Lib.ctz 64 r + 1 ≤ i := hl
      simp [hl, this, h8]
    · have h8 : ¬ Lib.ctz 64 r + 1 ≤ i := by omega
      simp [hl, h8]
theorem rest64_end {x p : Nat} (h : Rest64 x p 0) : ∀ i, p ≤ i → x.testBit i = false := by
  intro i hi
  have := h.2 i
  simpa [hi] using this.symm
theorem inSet_word (f : Nat → Nat) (k j : Nat) (hj : j < 64) : inSet f (64 * k + j) = (f k).testBit j := by
  unfold inSet
  have e1 : (64 * k + j) / 64 = k := by omega
  have e2 : (64 * k + j) % 64 = j := by omega
  rw [e1, e2]
/-- One byte comes. -/
theorem byte_step {f : Nat → Nat} {k p r : Nat} (h : Rest64 (f k) p r) (h0 : r ≠ 0) : classL (inSet f) (64 * k + (Lib.ctz 64 r + 1)) = classL (inSet f) (64 * k + p) ++ [((64 * k + Lib.ctz 64 r : Nat) : Int)] ∧ p ≤ Lib.ctz 64 r ∧ Lib.ctz 64 r < 64 ∧ Rest64 (f k) (Lib.ctz 64 r + 1) (r &&& (r - 1)) := by
  obtain ⟨h1, h2, h3, h4, h5⟩ := rest64_step h h0
  refine ⟨?_, h1, h2, h5⟩
  rw [← Nat.add_assoc, classL_yes (by rw [inSet_word f k _ h2]; exact h3), classL_none (64 * k + Lib.ctz 64 r) (a := 64 * k + p) (by omega)]
  intro i hi hl
  obtain ⟨j, rfl⟩ : ∃ j, i = 64 * k + j := ⟨i - 64 * k, by omega⟩
  rw [inSet_word f k j (by omega)]
  exact h4 j (by omega) (by omega)
/-- A word is over. -/
theorem word_end {f : Nat → Nat} {k p : Nat} (hp : p ≤ 64) (h : Rest64 (f k) p 0) : classL (inSet f) (64 * (k + 1)) = classL (inSet f) (64 * k + p) := by
  refine classL_none _ (by omega) (fun i hi hl => ?_)
  obtain ⟨j, rfl⟩ : ∃ j, i = 64 * k + j := ⟨i - 64 * k, by omega⟩
  rw [inSet_word f k j (by omega)]
  exact rest64_end h j (by omega)
theorem wraps_u64s (n : Int) (h₀ : 0 ≤ n) (h₁ : n < 2 ^ 64) : IntKind.u64.wrap n = n := by rw [IntKind.wrap_u64]; omega
theorem rest64_and (r : Nat) (h0 : r ≠ 0) (h : r < 18446744073709551616) : bits .and .u64 (r : Int) ((r : Int) - 1) = ((r &&& (r - 1) : Nat) : Int) := by
  have e : (r : Int) - 1 = ((r - 1 : Nat) : Int) := by omega
  rw [e, (bits_nat .u64 64 (by decide) wraps_u64s r (r - 1) h (by omega)).1]
theorem or64 {a b : Nat} (ha : a < 18446744073709551616) (hb : b < 18446744073709551616) : bits .or .u64 (a : Int) (b : Int) = ((a ||| b : Nat) : Int) := (bits_nat .u64 64 (by decide) wraps_u64s a b ha hb).2
theorem and64 {a b : Nat} (ha : a < 18446744073709551616) (hb : b < 18446744073709551616) : bits .and .u64 (a : Int) (b : Int) = ((a &&& b : Nat) : Int) := (bits_nat .u64 64 (by decide) wraps_u64s a b ha hb).1
theorem xor64 {a b : Nat} (ha : a < 18446744073709551616) (hb : b < 18446744073709551616) : bits .xor .u64 (a : Int) (b : Int) = ((a ^^^ b : Nat) : Int) := by
  have ha' : a % 2 ^ 64 = a := Nat.mod_eq_of_lt ha
  have hb' : b % 2 ^ 64 = b := Nat.mod_eq_of_lt hb
  have e : IntKind.u64.bits = 64 := rfl
  simp only [bits, e, BitVec.ofInt_natCast, BitVec.toNat_xor, BitVec.toNat_ofNat, ha', hb']
  exact wraps_u64s _ (Int.natCast_nonneg _) (by exact_mod_cast Nat.xor_lt_two_pow (n := 64) ha hb)
theorem xor_lt64 {a : Nat} (ha : a < 18446744073709551616) : a ^^^ 18446744073709551615 < 18446744073709551616 := Nat.xor_lt_two_pow (n := 64) ha (by decide)
theorem not64 {a : Nat} (ha : a < 18446744073709551616) : bits .xor .u64 IntKind.u64.max (a : Int) = ((a ^^^ 18446744073709551615 : Nat) : Int) := by
  have e : IntKind.u64.max = ((18446744073709551615 : Nat) : Int) := by decide
  rw [e, xor64 (by decide) ha, Nat.xor_comm]
end Go.Proofs.YtfeolbgenpknfaaGreat
namespace Go.Proofs.YtfeolbgenpknfaaGreat
open Go.RowKit

/-- A cell: its class, may it be passed by, may it be passed again. -/
structure Cel where
  c : ByteArray
  k : Bool
  o : Bool
/-- The cell of nothing. -/
def cel0 : Cel := ⟨⟨#[]⟩, false, false⟩
/-- A cell lies at a place. -/
structure CellAt (w : World) (bb o : Nat) (a : Cel) : Prop where
  c0 : w.cell? ⟨bb, o, none⟩ = some (.string a.c)
  c1 : w.cell? ⟨bb, o + 1, none⟩ = some (.bool a.k)
  c2 : w.cell? ⟨bb, o + 2, none⟩ = some (.bool a.o)
/-- The cells of a slice lie in cells of a block below B. -/
def CRow (w : World) (B : Nat) (sa : Option Addr) (n : Nat) (f : Nat → Cel) : Prop :=
  n = 0 ∨ ∃ bb off : Nat, sa = some ⟨bb, off, none⟩ ∧ bb < B ∧ ∀ i, i < n → CellAt w bb (off + i * 3) (f i)
/-- A row of cells that may be written: its block, its cells. -/
structure COwn (w : World) (g n : Nat) (f : Nat → Cel) : Prop where
  lt : g < w.heap.size
  at' : ∀ i, i < n → CellAt w g (i * 3) (f i)
  free : ∀ j, j < n * 3 → w.frozen? ⟨g, j, none⟩ = false
theorem CellAt.kept {w w' : World} {B bb o : Nat} {a : Cel} (h : CellAt w bb o a) (hb : Below B w w') (hB : bb < B) : CellAt w' bb o a :=
  ⟨by rw [hb.cell (p := ⟨bb, o, none⟩) hB]; exact h.c0, by rw [hb.cell (p := ⟨bb, o + 1, none⟩) hB]; exact h.c1, by rw [hb.cell (p := ⟨bb, o + 2, none⟩) hB]; exact h.c2⟩
theorem COwn.row {w : World} {g n B : Nat} {f : Nat → Cel} (h : COwn w g n f) (hB : g < B) : CRow w B (some ⟨g, 0, none⟩) n f :=
  Or.inr ⟨g, 0, rfl, hB, fun i hi => by rw [Nat.zero_add]; exact h.at' i hi⟩
theorem COwn.congr {w : World} {g n : Nat} {f f' : Nat → Cel} (h : COwn w g n f) (he : ∀ i, i < n → f i = f' i) : COwn w g n f' :=
  ⟨h.lt, fun i hi => by rw [← he i hi]; exact h.at' i hi, h.free⟩
theorem CRow.congr {w : World} {B n : Nat} {sa : Option Addr} {f f' : Nat → Cel} (h : CRow w B sa n f) (he : ∀ i, i < n → f i = f' i) : CRow w B sa n f' := by
  rcases h with h | ⟨bb, off, h1, h2, h3⟩
  · exact Or.inl h
  · exact Or.inr ⟨bb, off, h1, h2, fun i hi => by rw [← he i hi]; exact h3 i hi⟩
theorem CRow.up {w : World} {B B' n : Nat} {sa : Option Addr} {f : Nat → Cel} (h : CRow w B sa n f) (hB : B ≤ B') : CRow w B' sa n f := by
  rcases h with h | ⟨bb, off, h1, h2, h3⟩
  · exact Or.inl h
  · exact Or.inr ⟨bb, off, h1, by omega, h3⟩
theorem CRow.kept {w w' : World} {B n : Nat} {sa : Option Addr} {f : Nat → Cel} (h : CRow w B sa n f) (hb : Below B w w') : CRow w' B sa n f := by
  rcases h with h | ⟨bb, off, h1, h2, h3⟩
  · exact Or.inl h
  · exact Or.inr ⟨bb, off, h1, h2, fun i hi => (h3 i hi).kept hb h2⟩
/-- A row in a later world. -/
theorem CRow.late {w w' : World} {n : Nat} {sa : Option Addr} {f : Nat → Cel} (h : CRow w w.heap.size sa n f) (hb : Below w.heap.size w w') : CRow w' w'.heap.size sa n f := (h.kept hb).up hb.size
theorem CRow.at {w w' : World} {n k : Nat} {sa : Option Addr} {f : Nat → Cel} (h : CRow w w.heap.size sa n f) (hb : Below w.heap.size w w') (hk : k < n) : ∃ bb off : Nat, sa = some ⟨bb, off, none⟩ ∧ bb < w.heap.size ∧ CellAt w' bb (off + k * 3) (f k) := by
  rcases h with h | ⟨bb, off, h1, h2, h3⟩
  · omega
  · exact ⟨bb, off, h1, h2, (h3 k hk).kept hb h2⟩
theorem COwn.kept {w w' : World} {B g n : Nat} {f : Nat → Cel} (h : COwn w g n f) (hb : Below B w w') (hg : g < B) : COwn w' g n f :=
  ⟨Nat.lt_of_lt_of_le h.lt hb.size, fun i hi => (h.at' i hi).kept hb hg, fun i hi => by rw [hb.frozen (p := ⟨g, i, none⟩) hg]; exact h.free i hi⟩
theorem COwn.drew {w : World} {g n : Nat} {f : Nat → Cel} (h : COwn w g n f) : COwn w.drew g n f := ⟨h.lt, fun i hi => ⟨(h.at' i hi).c0, (h.at' i hi).c1, (h.at' i hi).c2⟩, h.free⟩
/-- A cell's cells are written. -/
theorem COwn.set {w : World} {g n p : Nat} {f : Nat → Cel} (h : COwn w g n f) (hp : p < n) (a : Cel) :
    COwn (((w.setCell ⟨g, p * 3, none⟩ (.string a.c)).setCell ⟨g, p * 3 + 1, none⟩ (.bool a.k)).setCell ⟨g, p * 3 + 2, none⟩ (.bool a.o)) g n (fun i => if i = p then a else f i) := by
  have hne : ∀ {x y : Nat}, x ≠ y → (⟨g, x, none⟩ : Addr) ≠ ⟨g, y, none⟩ := fun hxy hh => hxy (by injection hh)
  refine ⟨by simpa [World.setCell] using h.lt, fun i hi => ?_, fun i hi => ?_⟩
  · by_cases e : i = p
    · subst e
      obtain ⟨a0, a1, a2⟩ := h.at' i hi
      rw [if_pos rfl]
      refine ⟨?_, ?_, ?_⟩
      · rw [World.cell?_setCell_other _ _ _ _ (hne (by omega)), World.cell?_setCell_other _ _ _ _ (hne (by omega)), World.cell?_setCell_same _ _ _ a0]
      · rw [World.cell?_setCell_other _ _ _ _ (hne (by omega))]
        exact World.cell?_setCell_same _ _ _ (by rw [World.cell?_setCell_other _ _ _ _ (hne (by omega))]; exact a1)
      · exact World.cell?_setCell_same _ _ _ (by rw [World.cell?_setCell_other _ _ _ _ (hne (by omega)), World.cell?_setCell_other _ _ _ _ (hne (by omega))]; exact a2)
    · rw [if_neg e]
      obtain ⟨a0, a1, a2⟩ := h.at' i hi
      refine ⟨?_, ?_, ?_⟩
      all_goals rw [World.cell?_setCell_other _ _ _ _ (hne (by omega)), World.cell?_setCell_other _ _ _ _ (hne (by omega)), World.cell?_setCell_other _ _ _ _ (hne (by omega))]
      · exact a0
      · exact a1
      · exact a2
  · rw [World.frozen?_setCell, World.frozen?_setCell, World.frozen?_setCell]
    exact h.free i hi
/-- The cells of one cell. -/
theorem COwn.parts {w : World} {g n p : Nat} {f : Nat → Cel} (h : COwn w g n f) (hp : p < n) : (w.cell? ⟨g, p * 3, none⟩ = some (.string (f p).c) ∧ w.cell? ⟨g, p * 3 + 1, none⟩ = some (.bool (f p).k) ∧ w.cell? ⟨g, p * 3 + 2, none⟩ = some (.bool (f p).o)) ∧ w.frozen? ⟨g, p * 3, none⟩ = false ∧ w.frozen? ⟨g, p * 3 + 1, none⟩ = false ∧ w.frozen? ⟨g, p * 3 + 2, none⟩ = false :=
  ⟨⟨(h.at' p hp).c0, (h.at' p hp).c1, (h.at' p hp).c2⟩, h.free _ (by omega), h.free _ (by omega), h.free _ (by omega)⟩
theorem Tryz.cellInfo : (Tryz.prog.info? 98).map (fun i => (i.zero, i.size, i.bytes)) = some (some (.agg #[.string ⟨#[]⟩, .bool false, .bool false]), 3, 24) := by kernel_rfl
/-- A new slice of so many cells of nothing. -/
theorem make_cells (w : World) (N : Nat) (hN : N ≤ 10000000) : ∃ C : Array Value, (Instr.makeSlice 23 (.int .i64 (N : Int)) (.int .i64 (N : Int))).run Tryz.prog w = .ok (.slice (some ⟨w.heap.size, 0, none⟩) N N) (w.alloc (.cells C 98)) ∧ COwn (w.alloc (.cells C 98)) w.heap.size N (fun _ => cel0) := by
  obtain ⟨i0, hi, hz0, hz1, hz2⟩ := info_parts Tryz.cellInfo
  have e : (Value.agg #[.string ⟨#[]⟩, .bool false, .bool false]).cells = #[.string ⟨#[]⟩, .bool false, .bool false] := rfl
  refine ⟨madeCells (Value.agg #[.string ⟨#[]⟩, .bool false, .bool false]).cells (N * 3), ?_, by simp, fun i hi => ⟨?_, ?_, ?_⟩, fun i hi => ?_⟩
  · have h := run_make (P := Tryz.prog) w 23 98 i0 (.agg #[.string ⟨#[]⟩, .bool false, .bool false]) Tryz.underlying23 hi hz0 .i64 .i64 (N : Int) (N : Int) (by omega) (Int.le_refl _) (by rw [hz2]; omega) (by omega)
    rw [h, hz1]
    simp
  · rw [World.cell?_alloc_mark, e]
    simp [madeCells, cel0, show i * 3 < N * 3 by omega, show i * 3 % 3 = 0 by omega]
  · rw [World.cell?_alloc_mark, e]
    simp [madeCells, cel0, show i * 3 + 1 < N * 3 by omega, show (i * 3 + 1) % 3 = 1 by omega]
  · rw [World.cell?_alloc_mark, e]
    simp [madeCells, cel0, show i * 3 + 2 < N * 3 by omega, show (i * 3 + 2) % 3 = 2 by omega]
  · have h := heap_alloc_new w (.cells (madeCells (Value.agg #[.string ⟨#[]⟩, .bool false, .bool false]).cells (N * 3)) 98)
    exact frozen_of_row _ _ _ _ _ h
/-- A cell lies in a box of its own. -/
structure CBox (W : World) (p : Nat) (a : Cel) : Prop where
  c0 : W.cell? ⟨p, 0, none⟩ = some (.string a.c)
  c1 : W.cell? ⟨p, 1, none⟩ = some (.bool a.k)
  c2 : W.cell? ⟨p, 2, none⟩ = some (.bool a.o)
  lt : p < W.heap.size
theorem CBox.new (W : World) (a : Cel) (t : TypeId) : CBox (W.alloc (.cells #[.string a.c, .bool a.k, .bool a.o] t)) W.heap.size a := ⟨by simp, by simp, by simp, by simp⟩
theorem CBox.kept {W W' : World} {B p : Nat} {a : Cel} (h : CBox W p a) (hb : Below B W W') (hB : p < B) : CBox W' p a :=
  ⟨by rw [hb.cell (p := ⟨p, 0, none⟩) hB]; exact h.c0, by rw [hb.cell (p := ⟨p, 1, none⟩) hB]; exact h.c1, by rw [hb.cell (p := ⟨p, 2, none⟩) hB]; exact h.c2, Nat.lt_of_lt_of_le h.lt hb.size⟩
theorem CBox.all {W : World} {p : Nat} {a : Cel} (h : CBox W p a) : W.cell? ⟨p, 0, none⟩ = some (.string a.c) ∧ W.cell? ⟨p, 1, none⟩ = some (.bool a.k) ∧ W.cell? ⟨p, 2, none⟩ = some (.bool a.o) ∧ p < W.heap.size := ⟨h.c0, h.c1, h.c2, h.lt⟩
end Go.Proofs.YtfeolbgenpknfaaGreat
