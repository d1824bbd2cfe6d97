/- What is said here: classes of bytes as plain functions: which bytes a text has, the class of those of which a row says so.
   What is proved here: plain arithmetic on sets of bytes that are kept as four words of 64 bits: one byte more, put together word by word, the lowest byte of what is left.
   What is said here: right rows of cells, as plain mathematics.
   What is said here: places of a row as bits of one number, as plain mathematics.
   What is said here: places that are closed, and passed by a byte, as plain mathematics.
   What is proved here: plain arithmetic on words of 32 bits: bit by bit, masks, the borrow of a subtraction.
   What is proved here: the specification's l02Get says whether a bit of a word is on; nothing that was there turns.
   What is proved here: plain arithmetic on one bit of a word: set, taken away, asked for.
   What is said here: places as bits of one number, and as words of 32 bits: they are the same. -/
import Derived.Test.YtlgnplnmcdjbiaaProg
import Derived.WalkKit
import Derived.Laws.BytesArg
import Derived.Maps.AppendAt
import Derived.Lib.TrailingZeros
import Derived.Laws.BitsLemmas
import Derived.Laws.Bits64b
import Derived.Test.YtlgnplnmcdjbiaaQCellDToCellS
import Derived.Test.YtlgnplnmcdjbiaaQRowsDToVecS
namespace Go.Proofs.Ytlgnplnmcdjbiaa
open Go.RowKit

/-- Byte b is among the first k of the text. -/
def hasUpTo (t : ByteArray) (k b : Nat) : Bool := (t.data.toList.take k).any (fun c => c.toNat == b)
/-- Byte b is in the text. -/
def hasByte (t : ByteArray) (b : Nat) : Bool := t.data.toList.any (fun c => c.toNat == b)
theorem hasUpTo_zero (t : ByteArray) (b : Nat) : hasUpTo t 0 b = false := by simp [hasUpTo]
theorem hasUpTo_succ (t : ByteArray) (k b : Nat) (h : k < t.size) : hasUpTo t (k + 1) b = (hasUpTo t k b || (t[k].toNat == b)) := by
  unfold hasUpTo
  rw [List.take_succ_eq_append_getElem (by simpa using h), List.any_append]
  simp
  rfl
theorem hasUpTo_all (t : ByteArray) (b : Nat) : hasUpTo t t.size b = hasByte t b := by
  unfold hasUpTo hasByte
  rw [List.take_of_length_le (by simp)]
/-- The first k bytes of which a row says so. -/
def classL (f : Nat → Bool) (k : Nat) : List Int := ((List.range k).filter f).map fun i : Nat => (i : Int)
theorem classL_zero (f : Nat → Bool) : classL f 0 = [] := rfl
theorem classL_yes {f : Nat → Bool} {k : Nat} (h : f k = true) : classL f (k + 1) = classL f k ++ [(k : Int)] := by
  simp [classL, List.range_succ, List.filter_append, h]
theorem classL_no {f : Nat → Bool} {k : Nat} (h : f k = false) : classL f (k + 1) = classL f k := by
  simp [classL, List.range_succ, List.filter_append, h]
theorem classL_len (f : Nat → Bool) : ∀ k, (classL f k).length ≤ k
  | 0 => by simp [classL]
  | k + 1 => by
    have := classL_len f k
    by_cases hb : f k = true
    · rw [classL_yes hb]; simp; omega
    · rw [classL_no (by simpa using hb)]; omega
theorem classL_congr {f g : Nat → Bool} {k : Nat} (h : ∀ i, i < k → f i = g i) : classL f k = classL g k := by
  unfold classL
  congr 1
  apply List.filter_congr
  intro i hi
  exact h i (List.mem_range.1 hi)
/-- The class of the bytes of which a row says so. -/
def classT (f : Nat → Bool) : ByteArray := strOfNums (classL f 256)
theorem classT_congr {f g : Nat → Bool} (h : ∀ i, i < 256 → f i = g i) : classT f = classT g := by unfold classT; rw [classL_congr h]
/-- A right class. -/
def RightC (t : ByteArray) : Prop := ∀ (i : Nat) (h : i + 1 < t.size), t[i].toNat < t[i + 1].toNat
def RightTo (t : ByteArray) (k : Nat) : Prop := ∀ (i : Nat) (h : i + 1 < t.size), i + 1 < k → t[i].toNat < t[i + 1].toNat
/-- What a fold adds. -/
def foldB (f : Nat → Bool) (k : Nat) : Nat → Bool := fun i => if 65 ≤ i ∧ i < 65 + k then f i || f (i + 32) else if 97 ≤ i ∧ i < 97 + k then f (i - 32) || f i else f i
theorem foldB_zero (f : Nat → Bool) (i : Nat) : foldB f 0 i = f i := by unfold foldB; rw [if_neg (by omega), if_neg (by omega)]
end Go.Proofs.Ytlgnplnmcdjbiaa
namespace Go.Proofs.Ytlgnplnmcdjbiaa
open Go.RowKit

/-- The byte i is in the set. -/
def inSet (f : Nat → Nat) (i : Nat) : Bool := (f (i / 64)).testBit (i % 64)
/-- Four words. -/
def Set4 (f : Nat → Nat) : Prop := ∀ j, f j < 18446744073709551616
/-- One byte more. -/
def withB (f : Nat → Nat) (b : Nat) : Nat → Nat := fun j => if j = b / 64 then f j ||| 2 ^ (b % 64) else f j
theorem pow_lt64 {k : Nat} (h : k < 64) : 2 ^ k < 18446744073709551616 := by
  have : 2 ^ k < 2 ^ 64 := Nat.pow_lt_pow_right (by decide) h
  simpa using this
theorem or_lt64 {a b : Nat} (ha : a < 18446744073709551616) (hb : b < 18446744073709551616) : a ||| b < 18446744073709551616 := Nat.or_lt_two_pow (n := 64) ha hb
theorem and_lt64 {a b : Nat} (ha : a < 18446744073709551616) : a &&& b < 18446744073709551616 := Nat.lt_of_le_of_lt Nat.and_le_left ha
theorem withB_set {f : Nat → Nat} (h : Set4 f) (b : Nat) : Set4 (withB f b) := fun j => by
  unfold withB
  split
  · exact or_lt64 (h j) (pow_lt64 (Nat.mod_lt _ (by decide)))
  · exact h j
theorem withB_at (f : Nat → Nat) (b : Nat) : withB f b (b / 64) = f (b / 64) ||| 2 ^ (b % 64) := by simp [withB]
theorem withB_off {f : Nat → Nat} {b j : Nat} (h : j ≠ b / 64) : withB f b j = f j := by simp [withB, h]
theorem inSet_with (f : Nat → Nat) (b i : Nat) : inSet (withB f b) i = (inSet f i || (b == i)) := by
  unfold inSet
  by_cases e : i / 64 = b / 64
  · rw [e, withB_at, Nat.testBit_or, Nat.testBit_two_pow]
    congr 1
    by_cases e2 : b = i
    · subst e2; simp
    · have : b % 64 ≠ i % 64 := by omega
      simp [this, e2]
  · rw [withB_off e]
    have : b ≠ i := fun h => e (by rw [h])
    simp [this]
theorem inSet_zero (i : Nat) : inSet (fun _ => 0) i = false := by simp [inSet]
/-- A set stays with a byte just if it is in it. -/
theorem withB_same (f : Nat → Nat) (b : Nat) : f (b / 64) ||| 2 ^ (b % 64) = f (b / 64) ↔ inSet f b = true := by
  constructor
  · intro h
    have := inSet_with f b b
    unfold inSet at this ⊢
    rw [withB_at, h] at this
    simpa using this
  · intro h
    apply Nat.eq_of_testBit_eq
    intro i
    rw [Nat.testBit_or, Nat.testBit_two_pow]
    by_cases e : b % 64 = i
    · subst e
      unfold inSet at h
      simp [h]
    · simp [e]
theorem inSet_or (f g : Nat → Nat) (i : Nat) : inSet (fun j => f j ||| g j) i = (inSet f i || inSet g i) := by simp [inSet]
theorem inSet_and (f g : Nat → Nat) (i : Nat) : inSet (fun j => f j &&& g j) i = (inSet f i && inSet g i) := by simp [inSet]
theorem inSet_not (f : Nat → Nat) (i : Nat) : inSet (fun j => f j ^^^ 18446744073709551615) i = !inSet f i := by
  unfold inSet
  rw [Nat.testBit_xor, show (18446744073709551615 : Nat) = 2 ^ 64 - 1 from by decide, Nat.testBit_two_pow_sub_one]
  have : i % 64 < 64 := Nat.mod_lt _ (by decide)
  simp [this]
/-- The lowest bit that is on, and what is left without it. -/
theorem ctz64_bits (x : Nat) (h0 : x ≠ 0) (h : x < 2 ^ 64) : x.testBit (Lib.ctz 64 x) = true ∧ (∀ i, i < Lib.ctz 64 x → x.testBit i = false) ∧ Lib.ctz 64 x < 64 ∧ ∀ i, (x &&& (x - 1)).testBit i = (x.testBit i && decide (Lib.ctz 64 x < i)) := by
  obtain ⟨m, hm, hk⟩ := Lib.ctzFrom_spec 64 x (by omega) h
  have e : Lib.ctz 64 x = Lib.ctzFrom 64 x := by simp [Lib.ctz, h0]
  rw [e]
  obtain ⟨t, ht⟩ : ∃ t, Lib.ctzFrom 64 x = t := ⟨_, rfl⟩
  rw [ht] at hm hk ⊢
  have hp : 0 < 2 ^ t := Nat.two_pow_pos t
  have hx : ∀ i, x.testBit i = if i < t then false else (2 * m + 1).testBit (i - t) := by
    intro i
    have := Nat.testBit_two_pow_mul_add (2 * m + 1) (b := 0) (i := t) hp i
    rw [Nat.add_zero] at this
    rw [hm, this]
    simp
  have hx1 : ∀ i, (x - 1).testBit i = if i < t then (2 ^ t - 1).testBit i else (2 * m).testBit (i - t) := by
    intro i
    have h2 : x - 1 = 2 ^ t * (2 * m) + (2 ^ t - 1) := by
      rw [hm, Nat.mul_add, Nat.mul_one]
      omega
    rw [h2]
    exact Nat.testBit_two_pow_mul_add (2 * m) (by omega) i
  refine ⟨?_, ?_, hk, ?_⟩
  · rw [hx]
    simp [Nat.testBit_zero]
  · intro i hi
    rw [hx, if_pos hi]
  · intro i
    rw [Nat.testBit_and, hx, hx1]
    by_cases h1 : i < t
    · simp [h1]
    · rw [if_neg h1, if_neg h1]
      by_cases h2 : i = t
      · subst h2
        simp [Nat.testBit_zero]
      · obtain ⟨j, rfl⟩ : ∃ j, i = t + (j + 1) := ⟨i - t - 1, by omega⟩
        have e3 : t + (j + 1) - t = j + 1 := by omega
        rw [e3, Nat.testBit_succ, Nat.testBit_succ]
        have d1 : (2 * m + 1) / 2 = m := by omega
        have d2 : 2 * m / 2 = m := by omega
        rw [d1, d2]
        simp
theorem classL_none {f : Nat → Bool} {a : Nat} : ∀ b, a ≤ b → (∀ i, a ≤ i → i < b → f i = false) → classL f b = classL f a
  | 0, h, _ => by obtain rfl : a = 0 := by omega
                  rfl
  | b + 1, h, hn => by
    by_cases e : a = b + 1
    · rw [e]
    · rw [classL_no (hn b (by omega) (by omega))]
      exact classL_none b (by omega) (fun i h1 h2 => hn i h1 (by omega))
/-- What is left of a word when the bits below p have come. -/
def Rest64 (x p r : Nat) : Prop := r < 18446744073709551616 ∧ ∀ i, r.testBit i = (x.testBit i && decide (p ≤ i))
theorem rest64_start {x : Nat} (h : x < 18446744073709551616) : Rest64 x 0 x := ⟨h, fun i => by simp⟩
theorem rest64_step {x p r : Nat} (h : Rest64 x p r) (h0 : r ≠ 0) : p ≤ Lib.ctz 64 r ∧ Lib.ctz 64 r < 64 ∧ x.testBit (Lib.ctz 64 r) = true ∧ (∀ i, p ≤ i → i < Lib.ctz 64 r → x.testBit i = false) ∧ Rest64 x (Lib.ctz 64 r + 1) (r &&& (r - 1)) := by
  obtain ⟨h1, h2, h3, h4⟩ := ctz64_bits r h0 h.1
  have h5 := h.2 (Lib.ctz 64 r)
  rw [h1] at h5
  have h6 : x.testBit (Lib.ctz 64 r) = true ∧ p ≤ Lib.ctz 64 r := by simpa using h5.symm
  refine ⟨h6.2, h3, h6.1, fun i hi hl => ?_, ?_, fun i => ?_⟩
  · have h7 := h.2 i
    rw [h2 i hl] at h7
    simpa [hi] using h7.symm
  · exact Nat.lt_of_le_of_lt Nat.and_le_left h.1
  · rw [h4 i, h.2 i]
    by_cases hl : Lib.ctz 64 r < i
    · have : p ≤ i := by omega
      have h8 : Lib.ctz 64 r + 1 ≤ i := hl
      simp [hl, this, h8]
    · have h8 : ¬ Lib.ctz 64 r + 1 ≤ i := by omega
      simp [hl, h8]
theorem rest64_end {x p : Nat} (h : Rest64 x p 0) : ∀ i, p ≤ i → x.testBit i = false := by
  intro i hi
  have := h.2 i
  simpa [hi] using this.symm
theorem inSet_word (f : Nat → Nat) (k j : Nat) (hj : j < 64) : inSet f (64 * k + j) = (f k).testBit j := by
  unfold inSet
  have e1 : (64 * k + j) / 64 = k := by omega
  have e2 : (64 * k + j) % 64 = j := by omega
  rw [e1, e2]
/-- One byte comes. -/
theorem byte_step {f : Nat → Nat} {k p r : Nat} (h : Rest64 (f k) p r) (h0 : r ≠ 0) : classL (inSet f) (64 * k + (Lib.ctz 64 r + 1)) = classL (inSet f) (64 * k + p) ++ [((64 * k + Lib.ctz 64 r : Nat) : Int)] ∧ p ≤ Lib.ctz 64 r ∧ Lib.ctz 64 r < 64 ∧ Rest64 (f k) (Lib.ctz 64 r + 1) (r &&& (r - 1)) := by
  obtain ⟨h1, h2, h3, h4, h5⟩ := rest64_step h h0
  refine ⟨?_, h1, h2, h5⟩
  rw [← Nat.add_assoc, classL_yes (by rw [inSet_word f k _ h2]; exact h3), classL_none (64 * k + Lib.ctz 64 r) (a := 64 * k + p) (by omega)]
  intro i hi hl
  obtain ⟨j, rfl⟩ : ∃ j, i = 64 * k + j := ⟨i - 64 * k, by omega⟩
  rw [inSet_word f k j (by omega)]
  exact h4 j (by omega) (by omega)
/-- A word is over. -/
theorem word_end {f : Nat → Nat} {k p : Nat} (hp : p ≤ 64) (h : Rest64 (f k) p 0) : classL (inSet f) (64 * (k + 1)) = classL (inSet f) (64 * k + p) := by
  refine classL_none _ (by omega) (fun i hi hl => ?_)
  obtain ⟨j, rfl⟩ : ∃ j, i = 64 * k + j := ⟨i - 64 * k, by omega⟩
  rw [inSet_word f k j (by omega)]
  exact rest64_end h j (by omega)
theorem wraps_u64s (n : Int) (h₀ : 0 ≤ n) (h₁ : n < 2 ^ 64) : IntKind.u64.wrap n = n := by rw [IntKind.wrap_u64]; omega
theorem rest64_and (r : Nat) (h0 : r ≠ 0) (h : r < 18446744073709551616) : bits .and .u64 (r : Int) ((r : Int) - 1) = ((r &&& (r - 1) : Nat) : Int) := by
  have e : (r : Int) - 1 = ((r - 1 : Nat) : Int) := by omega
  rw [e, (bits_nat .u64 64 (by decide) wraps_u64s r (r - 1) h (by omega)).1]
theorem or64 {a b : Nat} (ha : a < 18446744073709551616) (hb : b < 18446744073709551616) : bits .or .u64 (a : Int) (b : Int) = ((a ||| b : Nat) : Int) := (bits_nat .u64 64 (by decide) wraps_u64s a b ha hb).2
theorem and64 {a b : Nat} (ha : a < 18446744073709551616) (hb : b < 18446744073709551616) : bits .and .u64 (a : Int) (b : Int) = ((a &&& b : Nat) : Int) := (bits_nat .u64 64 (by decide) wraps_u64s a b ha hb).1
theorem xor64 {a b : Nat} (ha : a < 18446744073709551616) (hb : b < 18446744073709551616) : bits .xor .u64 (a : Int) (b : Int) = ((a ^^^ b : Nat) : Int) := by
  have ha' : a % 2 ^ 64 = a := Nat.mod_eq_of_lt ha
  have hb' : b % 2 ^ 64 = b := Nat.mod_eq_of_lt hb
  have e : IntKind.u64.bits = 64 := rfl
  simp only [bits, e, BitVec.ofInt_natCast, BitVec.toNat_xor, BitVec.toNat_ofNat, ha', hb']
  exact wraps_u64s _ (Int.natCast_nonneg _) (by exact_mod_cast Nat.xor_lt_two_pow (n := 64) ha hb)
theorem xor_lt64 {a : Nat} (ha : a < 18446744073709551616) : a ^^^ 18446744073709551615 < 18446744073709551616 := Nat.xor_lt_two_pow (n := 64) ha (by decide)
theorem not64 {a : Nat} (ha : a < 18446744073709551616) : bits .xor .u64 IntKind.u64.max (a : Int) = ((a ^^^ 18446744073709551615 : Nat) : Int) := by
  have e : IntKind.u64.max = ((18446744073709551615 : Nat) : Int) := by decide
  rw [e, xor64 (by decide) ha, Nat.xor_comm]
end Go.Proofs.Ytlgnplnmcdjbiaa
namespace Go.Proofs.Ytlgnplnmcdjbiaa
open Go.RowKit

/-- A cell is right. -/
def CellOk (a : Cel) : Prop := RightC a.c ∧ 0 < a.c.size
/-- A row of cells is right. -/
def CellsOk (n : Nat) (f : Nat → Cel) : Prop := 1 ≤ n ∧ n ≤ 60 ∧ ∀ i, i < n → CellOk (f i)
theorem stepCell {f : Nat → Cel} {k : Nat} (h : ∀ i, i < k → CellOk (f i)) (hk : CellOk (f k)) : ∀ i, i < k + 1 → CellOk (f i) := fun i hi => by
  by_cases e : i = k
  · rw [e]; exact hk
  · exact h i (by omega)
theorem emptyC {c : ByteArray} (h : ¬ 0 < c.size) : c = ⟨#[]⟩ := by
  apply ByteArray.ext
  have : c.data.size = 0 := by have : c.size = c.data.size := rfl; omega
  exact Array.size_eq_zero_iff.1 this
theorem someC {c : ByteArray} (h : 0 < c.size) : (¬ c.toList = []) ∧ c.toList.isEmpty = false := by
  rw [ByteArray.toList_eq]
  have h2 : c.data.toList ≠ [] := by
    intro e
    have : c.data.toList.length = c.size := by simp
    rw [e] at this
    simp at this
    omega
  exact ⟨h2, by simpa using h2⟩
theorem noneC {c : ByteArray} (h : ¬ 0 < c.size) : c.toList = [] ∧ c.toList.isEmpty = true := by
  rw [emptyC h, ByteArray.toList_eq]
  exact ⟨rfl, rfl⟩
end Go.Proofs.Ytlgnplnmcdjbiaa
namespace Go.Proofs.Ytlgnplnmcdjbiaa

/-- A number whose bits are told. -/
structure IsBits (b : Nat) (P : Nat → Bool) : Prop where
  lt : b < 18446744073709551616
  bit : ∀ j, b.testBit j = P j
theorem IsBits.congr {b : Nat} {P Q : Nat → Bool} (h : IsBits b P) (e : ∀ j, P j = Q j) : IsBits b Q := ⟨h.lt, fun j => (h.bit j).trans (e j)⟩
theorem IsBits.uniq {a b : Nat} {P : Nat → Bool} (h : IsBits a P) (h' : IsBits b P) : a = b := Nat.eq_of_testBit_eq (fun j => (h.bit j).trans (h'.bit j).symm)
theorem bits_zero : IsBits 0 (fun _ => false) := ⟨by omega, fun j => by simp⟩
theorem bits_pow {k : Nat} (h : k < 64) : IsBits (2 ^ k) (fun j => decide (k = j)) := ⟨pow_lt64 h, fun j => by rw [Nat.testBit_two_pow]⟩
theorem IsBits.or {a b : Nat} {P Q : Nat → Bool} (h : IsBits a P) (h' : IsBits b Q) : IsBits (a ||| b) (fun j => P j || Q j) := ⟨or_lt64 h.lt h'.lt, fun j => by rw [Nat.testBit_or, h.bit, h'.bit]⟩
theorem IsBits.and {a b : Nat} {P Q : Nat → Bool} (h : IsBits a P) (h' : IsBits b Q) : IsBits (a &&& b) (fun j => P j && Q j) := ⟨and_lt64 h.lt, fun j => by rw [Nat.testBit_and, h.bit, h'.bit]⟩
theorem IsBits.none {b : Nat} {P : Nat → Bool} (h : IsBits b P) : b = 0 ↔ ∀ j, P j = false := by
  constructor
  · rintro rfl j
    rw [← h.bit j]
    simp
  · intro h2
    apply Nat.eq_of_testBit_eq
    intro j
    rw [h.bit, h2]
    simp
/-- The places behind the first k cells of which something holds. -/
def behind (q : Nat → Bool) (k : Nat) : Nat → Bool := fun j => decide (1 ≤ j ∧ j ≤ k) && q (j - 1)
theorem behind_zero (q : Nat → Bool) : IsBits 0 (behind q 0) := bits_zero.congr (fun j => by unfold behind; rw [decide_eq_false (by omega)]; rfl)
theorem behind_yes {q : Nat → Bool} {k b : Nat} (h : IsBits b (behind q k)) (hk : k < 63) (hq : q k = true) : IsBits (b ||| 2 ^ (k + 1)) (behind q (k + 1)) :=
  (h.or (bits_pow (by omega))).congr (fun j => by
    unfold behind
    by_cases e : k + 1 = j
    · subst e
      simp [hq]
    · rw [decide_eq_false e, Bool.or_false]
      by_cases e2 : 1 ≤ j ∧ j ≤ k
      · rw [decide_eq_true e2, decide_eq_true (show 1 ≤ j ∧ j ≤ k + 1 by omega)]
      · rw [decide_eq_false e2, decide_eq_false (show ¬ (1 ≤ j ∧ j ≤ k + 1) by omega)])
theorem behind_no {q : Nat → Bool} {k b : Nat} (h : IsBits b (behind q k)) (hq : q k = false) : IsBits b (behind q (k + 1)) :=
  h.congr (fun j => by
    unfold behind
    by_cases e : k + 1 = j
    · subst e
      simp [hq]
    · by_cases e2 : 1 ≤ j ∧ j ≤ k
      · rw [decide_eq_true e2, decide_eq_true (show 1 ≤ j ∧ j ≤ k + 1 by omega)]
      · rw [decide_eq_false e2, decide_eq_false (show ¬ (1 ≤ j ∧ j ≤ k + 1) by omega)])
end Go.Proofs.Ytlgnplnmcdjbiaa
namespace Go.Proofs.Ytlgnplnmcdjbiaa

/-- Places, closed: to each one whose next cell may be passed by the place behind that. -/
def cloB (S P : Nat → Bool) : Nat → Bool
  | 0 => P 0
  | j + 1 => P (j + 1) || (S (j + 1) && cloB S P j)
theorem cloB_congr {S P Q : Nat → Bool} (h : ∀ j, P j = Q j) : ∀ j, cloB S P j = cloB S Q j
  | 0 => h 0
  | j + 1 => by unfold cloB; rw [h, cloB_congr h j]
theorem cloB_of {S P : Nat → Bool} : ∀ {j}, P j = true → cloB S P j = true
  | 0, h => h
  | j + 1, h => by unfold cloB; rw [h]; rfl
theorem cloB_none {S P : Nat → Bool} (h : ∀ j, P j = false) : ∀ j, cloB S P j = false
  | 0 => h 0
  | j + 1 => by unfold cloB; rw [h, cloB_none h j]; simp
/-- What has the places, has no more than belongs to them, and is closed, is what is closed. -/
theorem clo_done {S P A : Nat → Bool} (h1 : ∀ j, P j = true → A j = true) (h2 : ∀ j, A j = true → cloB S P j = true) (h3 : ∀ j, A j = true → S (j + 1) = true → A (j + 1) = true) : ∀ j, A j = cloB S P j := by
  have h4 : ∀ j, cloB S P j = true → A j = true := by
    intro j
    induction j with
    | zero => exact h1 0
    | succ j ih =>
      intro h
      unfold cloB at h
      rw [Bool.or_eq_true, Bool.and_eq_true] at h
      rcases h with h | ⟨h, h'⟩
      · exact h1 _ h
      · exact h3 j (ih h') h
  intro j
  cases ha : A j with
  | true => exact (h2 j ha).symm
  | false => cases hb : cloB S P j with
    | true => rw [h4 j hb] at ha; cases ha
    | false => rfl
theorem clo_le {S P : Nat → Bool} {n : Nat} (hS : ∀ j, n < j → S j = false) (hP : ∀ j, n < j → P j = false) : ∀ j, n < j → cloB S P j = false
  | 0, h => by omega
  | j + 1, h => by unfold cloB; rw [hP _ h, hS _ h]; rfl
theorem behind_le (q : Nat → Bool) (n : Nat) : ∀ j, n < j → behind q n j = false := fun j h => by unfold behind; rw [decide_eq_false (by omega)]; rfl
theorem behind_at (q : Nat → Bool) {n i : Nat} (h : i < n) : behind q n (i + 1) = q i := by unfold behind; rw [decide_eq_true (show 1 ≤ i + 1 ∧ i + 1 ≤ n by omega)]; simp
/-- The places to which one comes by a byte. -/
def passB (f : Nat → Cel) (n : Nat) (A : Nat → Bool) (c : Nat) : Nat → Bool := fun j => behind (fun i => hasByte (f i).c c) n j && (A (j - 1) || (A j && behind (fun i => (f i).o) n j))
/-- The places behind so many bytes. -/
def runB (f : Nat → Cel) (n : Nat) (t : ByteArray) : Nat → Nat → Bool
  | 0 => cloB (behind (fun i => (f i).k) n) (fun j => decide (0 = j))
  | k + 1 => cloB (behind (fun i => (f i).k) n) (passB f n (runB f n t k) (if h : k < t.size then t[k].toNat else 0))
theorem runB_le (f : Nat → Cel) (n : Nat) (t : ByteArray) : ∀ k j, n < j → runB f n t k j = false
  | 0, j, h => clo_le (behind_le _ n) (fun j hj => decide_eq_false (by omega)) j h
  | k + 1, j, h => clo_le (behind_le _ n) (fun j hj => by unfold passB; rw [behind_le _ n j hj]; rfl) j h
theorem runB_none {f : Nat → Cel} {n : Nat} {t : ByteArray} {k : Nat} (h : ∀ j, runB f n t k j = false) : ∀ d j, runB f n t (k + d) j = false
  | 0, j => h j
  | d + 1, j => by
    have e := runB_none h d
    show cloB (behind (fun i => (f i).k) n) (passB f n (runB f n t (k + d)) (if h : k + d < t.size then t[k + d].toNat else 0)) j = false
    exact cloB_none (fun j => by unfold passB; rw [e (j - 1), e j]; simp) j
theorem lt_pow_of {a n : Nat} {P : Nat → Bool} (h : IsBits a P) (hP : ∀ j, n < j → P j = false) : a < 2 ^ (n + 1) := by
  apply Nat.lt_pow_two_of_testBit
  intro j hj
  rw [h.bit, hP j (by omega)]
theorem bits_shl {a : Nat} {P : Nat → Bool} (h : IsBits a P) (hP : ∀ j, 62 < j → P j = false) : IsBits (a * 2) (fun j => decide (1 ≤ j) && P (j - 1)) := by
  have hl := lt_pow_of h hP
  refine ⟨by omega, fun j => ?_⟩
  cases j with
  | zero => simp
  | succ j =>
    rw [Nat.testBit_succ, Nat.mul_div_cancel _ (by omega), h.bit]
    simp
theorem bits_andNot {a b : Nat} {P Q : Nat → Bool} (h : IsBits a P) (h' : IsBits b Q) : IsBits (a ^^^ (a &&& b)) (fun j => P j && !Q j) :=
  ⟨Nat.xor_lt_two_pow (n := 64) h.lt (and_lt64 h.lt), fun j => by
    rw [Nat.testBit_xor, Nat.testBit_and, h.bit, h'.bit]
    cases P j <;> cases Q j <;> rfl⟩
theorem andNot64 {a b : Nat} (ha : a < 18446744073709551616) : bits .andNot .u64 (a : Int) (b : Int) = ((a ^^^ (a &&& b) : Nat) : Int) := by
  have hv : (BitVec.ofInt 64 (a : Int) &&& ~~~BitVec.ofInt 64 (b : Int)).toNat = a ^^^ (a &&& b) := by
    apply Nat.eq_of_testBit_eq
    intro i
    rw [← BitVec.getLsbD, BitVec.getLsbD_and, BitVec.getLsbD_not, Nat.testBit_xor, Nat.testBit_and, BitVec.ofInt_natCast, BitVec.ofInt_natCast, BitVec.getLsbD_ofNat, BitVec.getLsbD_ofNat]
    by_cases hi : i < 64
    · simp [hi]
      cases a.testBit i <;> cases b.testBit i <;> rfl
    · have h1 : a.testBit i = false := Nat.testBit_lt_two_pow (Nat.lt_of_lt_of_le ha (show 2 ^ 64 ≤ 2 ^ i from Nat.pow_le_pow_right (by decide) (by omega)))
      simp [hi, h1]
  show IntKind.u64.wrap ((BitVec.ofInt 64 (a : Int) &&& ~~~BitVec.ofInt 64 (b : Int)).toNat : Int) = _
  rw [hv]
  exact wraps_u64s _ (Int.natCast_nonneg _) (by exact_mod_cast Nat.xor_lt_two_pow (n := 64) ha (and_lt64 ha))
end Go.Proofs.Ytlgnplnmcdjbiaa
namespace Go.Proofs.Ytlgnplnmcdjbiaa

theorem wraps_u32w (n : Int) (h₀ : 0 ≤ n) (h₁ : n < 2 ^ 32) : IntKind.u32.wrap n = n := by rw [IntKind.wrap_u32]; omega
theorem wraps_i64w (n : Int) (h₀ : 0 ≤ n) (h₁ : n < 2 ^ 32) : IntKind.i64.wrap n = n := by rw [IntKind.wrap_i64]; omega
theorem bits_xor_nat (k : IntKind) (j : Nat) (hj : j ≤ k.bits) (hk : ∀ n : Int, 0 ≤ n → n < 2 ^ j → k.wrap n = n) (a b : Nat) (ha : a < 2 ^ j) (hb : b < 2 ^ j) :
    bits .xor k a b = ((a ^^^ b : Nat) : Int) := by
  have hp : 2 ^ j ≤ 2 ^ k.bits := Nat.pow_le_pow_right (by decide) hj
  have ha' : a % 2 ^ k.bits = a := Nat.mod_eq_of_lt (Nat.lt_of_lt_of_le ha hp)
  have hb' : b % 2 ^ k.bits = b := Nat.mod_eq_of_lt (Nat.lt_of_lt_of_le hb hp)
  have cast : ∀ n : Nat, n < 2 ^ j → ((n : Nat) : Int) < 2 ^ j := fun n h => by exact_mod_cast h
  simp only [bits, BitVec.ofInt_natCast, BitVec.toNat_xor, BitVec.toNat_ofNat, ha', hb']
  exact hk _ (Int.natCast_nonneg _) (cast _ (Nat.xor_lt_two_pow ha hb))
/-- A word: below 2 to the power k. -/
def Word (k : Nat) (x : Int) : Prop := 0 ≤ x ∧ x < 2 ^ k
theorem word_nat {k : Nat} {x : Int} (h : Word k x) : ∃ a : Nat, x = a ∧ a < 2 ^ k := by
  obtain ⟨a, rfl⟩ := Int.eq_ofNat_of_zero_le h.1
  exact ⟨a, rfl, by have := h.2; exact_mod_cast this⟩
theorem word_of {k a : Nat} (h : a < 2 ^ k) : Word k (a : Int) := ⟨Int.natCast_nonneg _, by exact_mod_cast h⟩
theorem word_up {k j : Nat} {x : Int} (h : Word k x) (hk : k ≤ j) : Word j x := by
  obtain ⟨a, rfl, ha⟩ := word_nat h
  exact word_of (Nat.lt_of_lt_of_le ha (Nat.pow_le_pow_right (by decide) hk))
theorem and_same {x y : Int} (hx : Word 32 x) (hy : Word 32 y) : bits .and .u32 x y = bits .and .i64 x y := by
  obtain ⟨a, rfl, ha⟩ := word_nat hx
  obtain ⟨b, rfl, hb⟩ := word_nat hy
  rw [(bits_nat .u32 32 (by decide) wraps_u32w a b ha hb).1, (bits_nat .i64 32 (by decide) wraps_i64w a b ha hb).1]
theorem or_same {x y : Int} (hx : Word 32 x) (hy : Word 32 y) : bits .or .u32 x y = bits .or .i64 x y := by
  obtain ⟨a, rfl, ha⟩ := word_nat hx
  obtain ⟨b, rfl, hb⟩ := word_nat hy
  rw [(bits_nat .u32 32 (by decide) wraps_u32w a b ha hb).2, (bits_nat .i64 32 (by decide) wraps_i64w a b ha hb).2]
theorem xor_same {x y : Int} (hx : Word 32 x) (hy : Word 32 y) : bits .xor .u32 x y = bits .xor .i64 x y := by
  obtain ⟨a, rfl, ha⟩ := word_nat hx
  obtain ⟨b, rfl, hb⟩ := word_nat hy
  rw [bits_xor_nat .u32 32 (by decide) wraps_u32w a b ha hb, bits_xor_nat .i64 32 (by decide) wraps_i64w a b ha hb]
theorem and_word {k : Nat} {x y : Int} (hk : k ≤ 32) (hx : Word k x) (hy : Word k y) : Word k (bits .and .i64 x y) := by
  obtain ⟨a, rfl, ha⟩ := word_nat (word_up hx hk)
  obtain ⟨b, rfl, hb⟩ := word_nat (word_up hy hk)
  rw [(bits_nat .i64 32 (by decide) wraps_i64w a b ha hb).1]
  exact word_of (Nat.and_lt_two_pow _ (by have := hy.2; exact_mod_cast this))
theorem or_word {k : Nat} {x y : Int} (hk : k ≤ 32) (hx : Word k x) (hy : Word k y) : Word k (bits .or .i64 x y) := by
  obtain ⟨a, rfl, ha⟩ := word_nat (word_up hx hk)
  obtain ⟨b, rfl, hb⟩ := word_nat (word_up hy hk)
  rw [(bits_nat .i64 32 (by decide) wraps_i64w a b ha hb).2]
  exact word_of (Nat.or_lt_two_pow (by have := hx.2; exact_mod_cast this) (by have := hy.2; exact_mod_cast this))
theorem xor_word {k : Nat} {x y : Int} (hk : k ≤ 32) (hx : Word k x) (hy : Word k y) : Word k (bits .xor .i64 x y) := by
  obtain ⟨a, rfl, ha⟩ := word_nat (word_up hx hk)
  obtain ⟨b, rfl, hb⟩ := word_nat (word_up hy hk)
  rw [bits_xor_nat .i64 32 (by decide) wraps_i64w a b ha hb]
  exact word_of (Nat.xor_lt_two_pow (by have := hx.2; exact_mod_cast this) (by have := hy.2; exact_mod_cast this))
theorem mask_word {k : Nat} {x : Int} (hk : k ≤ 32) (hx : Word 32 x) : bits .and .i64 x (2 ^ k - 1) = x % 2 ^ k :=
  bits_mask .i64 32 (by decide) wraps_i64w k hk x hx.1 hx.2

/-- The highest bit of a word. -/
theorem top_bit {a : Nat} (h : a < 2 ^ 32) : a / 2 ^ 31 = if a.testBit 31 then 1 else 0 := by
  rw [Nat.testBit_eq_decide_div_mod_eq]
  split <;> rename_i h2 <;> simp at h2 <;> omega
theorem top_ge {a : Nat} (h : a < 2 ^ 32) : a.testBit 31 = decide (2147483648 ≤ a) := by
  rw [Nat.testBit_eq_decide_div_mod_eq]
  by_cases h2 : 2147483648 ≤ a
  · rw [decide_eq_true h2]; simp; omega
  · rw [decide_eq_false h2]; simp; omega
theorem xor_neg (a : Nat) (h : a < 2 ^ 32) : (4294967295 - a).testBit 31 = !a.testBit 31 := by
  rw [top_ge (by omega), top_ge h]
  by_cases h2 : 2147483648 ≤ a
  · simp [h2]; omega
  · simp [h2]; omega
/-- The borrow of a subtraction. -/
theorem borrow_nat (x y d br : Nat) (hx : x < 2 ^ 32) (hy : y < 2 ^ 32) (hbr : br ≤ 1) (hd : (d : Int) = ((x : Int) - y - br) % 4294967296) :
    (((4294967295 - x) &&& y) ||| ((4294967295 - (x ^^^ y)) &&& d)) / 2 ^ 31 = if (x : Int) < y + br then 1 else 0 := by
  have hd2 : d < 2 ^ 32 := by omega
  have hxy := Nat.xor_lt_two_pow hx hy
  have h1 : ((4294967295 - x) &&& y) ||| ((4294967295 - (x ^^^ y)) &&& d) < 2 ^ 32 :=
    Nat.or_lt_two_pow (Nat.and_lt_two_pow _ hy) (Nat.and_lt_two_pow _ hd2)
  rw [top_bit h1, Nat.testBit_or, Nat.testBit_and, Nat.testBit_and, xor_neg x hx, xor_neg _ hxy, Nat.testBit_xor, top_ge hx, top_ge hy, top_ge hd2]
  by_cases a1 : 2147483648 ≤ x <;> by_cases a2 : 2147483648 ≤ y <;> by_cases a3 : 2147483648 ≤ d <;> simp [a1, a2, a3] <;> omega
theorem u32_not (a : Nat) (h : a < 2 ^ 32) : bits .xor .u32 IntKind.u32.max (a : Int) = ((4294967295 - a : Nat) : Int) := by
  have h1 : (BitVec.ofInt 32 (a : Int)).toNat = a := by
    rw [BitVec.ofInt_natCast, BitVec.toNat_ofNat]; exact Nat.mod_eq_of_lt h
  show IntKind.u32.wrap ((BitVec.ofInt 32 IntKind.u32.max ^^^ BitVec.ofInt 32 (a : Int)).toNat : Int) = _
  have hm2 : BitVec.ofInt 32 IntKind.u32.max = BitVec.allOnes 32 := by decide
  rw [hm2, BitVec.allOnes_xor, BitVec.toNat_not, h1, IntKind.wrap_u32]
  omega
end Go.Proofs.Ytlgnplnmcdjbiaa
namespace Go.Proofs.Ytlgnplnmcdjbiaa
open Go.RowKit

/-- Whether a bit of a word is on. -/
def getB (x : Int) (q : Nat) : Bool := bits .and .i64 (x / 2 ^ q) 1 == 1
set_option maxHeartbeats 1000000 in
theorem l02Get_any (b : Int) (sa : Option Addr) (n ka k q : Nat) (f : Nat → Int) (i : Int) (w : World) (hn : n ≤ 1048576) (hr : Row w w.heap.size sa n f) (h0 : 0 ≤ i) (h1 : i / 32 = (k : Int)) (h2 : i % 32 = (q : Int)) (hk : k < n) :
    Calls Try.prog 174 #[.agg #[.int .i64 b, .slice sa n ka], .int .i64 i] w fun e w' => e = .returned (.bool (getB (f k) q)) ∧ Below w.heap.size w w' := by
  obtain ⟨bb, off, rfl, hbb, hca⟩ : ∃ bb off : Nat, sa = some ⟨bb, off, none⟩ ∧ bb < w.heap.size ∧ ∀ i, i < n → w.cell? ⟨bb, off + i, none⟩ = some (.int .i64 (f i)) := by
    rcases hr with h | h
    · omega
    · exact h
  have cz0 := hca k hk
  clear hca hr
  have q1 := boxing w 45 b (some ⟨bb, off, none⟩) n ka
  have HB : Hid (Below w.heap.size w (w.alloc (.cells #[.int .i64 b, .slice (some ⟨bb, off, none⟩) n ka] 45))) := q1.1
  have cz : (w.alloc (.cells #[.int .i64 b, .slice (some ⟨bb, off, none⟩) n ka] 45)).cell? ⟨bb, off + k, none⟩ = some (.int .i64 (f k)) := by rw [q1.1.cell (p := ⟨bb, off + k, none⟩) hbb]; exact cz0
  clear q1
  have hki : (k : Int) < (n : Int) := by omega
  have hk0 : (0 : Int) ≤ (k : Int) := by omega
  have hq0 : (0 : Int) ≤ (q : Int) := by omega
  have hq1 : (q : Int) < 32 := by omega
  go_enter Try.func174, Try.ntmps174
  go_wp2
  go_ret
  exact ⟨rfl, HB.out⟩
end Go.Proofs.Ytlgnplnmcdjbiaa
namespace Go.Proofs.Ytlgnplnmcdjbiaa
open Go.RowKit

theorem bits_andNot_nat (k : IntKind) (j : Nat) (hj : j ≤ k.bits) (hk : ∀ n : Int, 0 ≤ n → n < 2 ^ j → k.wrap n = n) (a b : Nat) (ha : a < 2 ^ j) (hb : b < 2 ^ j) :
    bits .andNot k a b = ((a ^^^ (a &&& b) : Nat) : Int) := by
  have hp : 2 ^ j ≤ 2 ^ k.bits := Nat.pow_le_pow_right (by decide) hj
  have ha' : a % 2 ^ k.bits = a := Nat.mod_eq_of_lt (Nat.lt_of_lt_of_le ha hp)
  have hb' : b % 2 ^ k.bits = b := Nat.mod_eq_of_lt (Nat.lt_of_lt_of_le hb hp)
  have cast : ∀ n : Nat, n < 2 ^ j → ((n : Nat) : Int) < 2 ^ j := fun n h => by exact_mod_cast h
  have hv : (BitVec.ofInt k.bits (a : Int) &&& ~~~BitVec.ofInt k.bits (b : Int)).toNat = a ^^^ (a &&& b) := by
    apply Nat.eq_of_testBit_eq
    intro i
    rw [← BitVec.getLsbD, BitVec.getLsbD_and, BitVec.getLsbD_not, Nat.testBit_xor, Nat.testBit_and, BitVec.ofInt_natCast, BitVec.ofInt_natCast, BitVec.getLsbD_ofNat, BitVec.getLsbD_ofNat]
    by_cases hi : i < k.bits
    · simp [hi]
      cases a.testBit i <;> cases b.testBit i <;> rfl
    · have h1 : a.testBit i = false := Nat.testBit_lt_two_pow (Nat.lt_of_lt_of_le (Nat.lt_of_lt_of_le ha hp) (Nat.pow_le_pow_right (by decide) (by omega)))
      simp [hi, h1]
  show k.wrap ((BitVec.ofInt k.bits (a : Int) &&& ~~~BitVec.ofInt k.bits (b : Int)).toNat : Int) = _
  rw [hv]
  exact hk _ (Int.natCast_nonneg _) (cast _ (Nat.xor_lt_two_pow ha (Nat.and_lt_two_pow _ hb)))
theorem getB_nat (a q : Nat) (h : a < 2 ^ 32) : getB (a : Int) q = a.testBit q := by
  unfold getB
  have e : (a : Int) / 2 ^ q = ((a / 2 ^ q : Nat) : Int) := by simp
  have hl : a / 2 ^ q < 2 ^ 32 := Nat.lt_of_le_of_lt (Nat.div_le_self _ _) h
  rw [e, show (1 : Int) = ((1 : Nat) : Int) from rfl, (bits_nat .i64 32 (by decide) wraps_i64w (a / 2 ^ q) 1 hl (by decide)).1, Nat.and_one_is_mod, Nat.testBit_eq_decide_div_mod_eq]
  by_cases h2 : a / 2 ^ q % 2 = 1
  · rw [h2]; rfl
  · have h3 : a / 2 ^ q % 2 = 0 := by omega
    rw [h3]; rfl
theorem or_bit (x : Int) (q : Nat) (hq : q < 32) (hx : Word 32 x) : bits .or .i64 x (2 ^ q) = if getB x q = true then x else bits .xor .i64 x (2 ^ q) := by
  obtain ⟨a, rfl, ha⟩ := word_nat hx
  have hp : 2 ^ q < 2 ^ 32 := Nat.pow_lt_pow_right (by decide) hq
  have e : (2 : Int) ^ q = ((2 ^ q : Nat) : Int) := by simp
  rw [e, getB_nat a q ha, (bits_nat .i64 32 (by decide) wraps_i64w a _ ha hp).2, bits_xor_nat .i64 32 (by decide) wraps_i64w a _ ha hp]
  split
  · rename_i h
    congr 1
    apply Nat.eq_of_testBit_eq
    intro i
    rw [Nat.testBit_or, Nat.testBit_two_pow]
    by_cases hi : q = i
    · subst hi; simp [h]
    · simp [hi]
  · rename_i h
    congr 1
    apply Nat.eq_of_testBit_eq
    intro i
    rw [Nat.testBit_or, Nat.testBit_xor, Nat.testBit_two_pow]
    by_cases hi : q = i
    · subst hi; simp [h]
    · simp [hi]
theorem off_bit (x : Int) (q : Nat) (hq : q < 32) (hx : Word 32 x) : bits .andNot .i64 x (2 ^ q) = if getB x q = true then bits .xor .i64 x (2 ^ q) else x := by
  obtain ⟨a, rfl, ha⟩ := word_nat hx
  have hp : 2 ^ q < 2 ^ 32 := Nat.pow_lt_pow_right (by decide) hq
  have e : (2 : Int) ^ q = ((2 ^ q : Nat) : Int) := by simp
  rw [e, getB_nat a q ha, bits_andNot_nat .i64 32 (by decide) wraps_i64w a _ ha hp, bits_xor_nat .i64 32 (by decide) wraps_i64w a _ ha hp]
  split
  · rename_i h
    congr 1
    apply Nat.eq_of_testBit_eq
    intro i
    rw [Nat.testBit_xor, Nat.testBit_xor, Nat.testBit_and, Nat.testBit_two_pow]
    by_cases hi : q = i
    · subst hi; simp [h]
    · simp [hi]
  · rename_i h
    congr 1
    apply Nat.eq_of_testBit_eq
    intro i
    rw [Nat.testBit_xor, Nat.testBit_and, Nat.testBit_two_pow]
    by_cases hi : q = i
    · subst hi; simp [h]
    · simp [hi]
/-- The words with one bit as it is asked for. -/
def setF (f : Nat → Int) (k q : Nat) (on : Bool) : Nat → Int := fun i => if i = k then (if getB (f k) q = on then f k else bits .xor .i64 (f k) (2 ^ q)) else f i
theorem set_on (f : Nat → Int) (k q : Nat) (hq : q < 32) (hx : Word 32 (f k)) : ∀ i, (if i = k then bits .or .i64 (f k) (2 ^ q) else f i) = setF f k q true i := by
  intro i
  unfold setF
  split
  · rw [or_bit _ q hq hx]
  · rfl
theorem set_off (f : Nat → Int) (k q : Nat) (hq : q < 32) (hx : Word 32 (f k)) : ∀ i, (if i = k then bits .andNot .i64 (f k) (2 ^ q) else f i) = setF f k q false i := by
  intro i
  unfold setF
  split
  · rw [off_bit _ q hq hx]
    cases getB (f k) q <;> rfl
  · rfl
theorem pow_bit (q : Nat) (hq : q < 32) : ∃ P : Int, (2 : Int) ^ q = P ∧ 0 < P ∧ P ≤ 2147483648 := by
  refine ⟨_, rfl, Int.pow_pos (by decide), ?_⟩
  have e : (2 : Int) ^ q = ((2 ^ q : Nat) : Int) := by simp
  have h2 : 2 ^ q ≤ 2 ^ 31 := Nat.pow_le_pow_right (by decide) (by omega)
  rw [e]
  omega
end Go.Proofs.Ytlgnplnmcdjbiaa
namespace Go.Proofs.Ytlgnplnmcdjbiaa

/-- Words whose bits are told. -/
def VecIs (f : Nat → Int) (P : Nat → Bool) (m : Nat) : Prop := ∀ i, i < m → ∃ a : Nat, f i = (a : Int) ∧ a < 2 ^ 32 ∧ ∀ q, q < 32 → a.testBit q = P (32 * i + q)
theorem VecIs.uniq {f g : Nat → Int} {P : Nat → Bool} {m : Nat} (h : VecIs f P m) (h' : VecIs g P m) : ∀ i, i < m → f i = g i := fun i hi => by
  obtain ⟨a, e1, h1, h2⟩ := h i hi
  obtain ⟨b, e2, h3, h4⟩ := h' i hi
  rw [e1, e2]
  congr 1
  apply Nat.eq_of_testBit_eq
  intro q
  by_cases hq : q < 32
  · rw [h2 q hq, h4 q hq]
  · rw [Nat.testBit_lt_two_pow (Nat.lt_of_lt_of_le h1 (Nat.pow_le_pow_right (by decide) (by omega))), Nat.testBit_lt_two_pow (Nat.lt_of_lt_of_le h3 (Nat.pow_le_pow_right (by decide) (by omega)))]
theorem VecIs.congr {f : Nat → Int} {P Q : Nat → Bool} {m : Nat} (h : VecIs f P m) (e : ∀ j, P j = Q j) : VecIs f Q m := fun i hi => by
  obtain ⟨a, e1, h1, h2⟩ := h i hi
  exact ⟨a, e1, h1, fun q hq => (h2 q hq).trans (e _)⟩
theorem vecIs_zero (m : Nat) : VecIs (fun _ => 0) (fun _ => false) m := fun i _ => ⟨0, rfl, by decide, fun q _ => by simp⟩
/-- The words of a number. -/
def wordsN (x : Nat) : Nat → Int := fun i => ((x / 2 ^ (i * 32) % 4294967296 : Nat) : Int)
theorem vecIs_words {x : Nat} {P : Nat → Bool} (h : IsBits x P) (m : Nat) : VecIs (wordsN x) P m := fun i _ => ⟨x / 2 ^ (i * 32) % 4294967296, rfl, Nat.mod_lt _ (by decide), fun q hq => by
  rw [show (4294967296 : Nat) = 2 ^ 32 from by decide, Nat.testBit_mod_two_pow, Nat.testBit_div_two_pow, h.bit]
  rw [decide_eq_true hq, Bool.true_and]
  congr 1
  omega⟩
theorem VecIs.word {f : Nat → Int} {P : Nat → Bool} {m i : Nat} (h : VecIs f P m) (hi : i < m) : Word 32 (f i) := by
  obtain ⟨a, e1, h1, _⟩ := h i hi
  rw [e1]
  exact word_of h1
theorem VecIs.set {f : Nat → Int} {P : Nat → Bool} {m k q : Nat} (h : VecIs f P m) (hk : k < m) (hq : q < 32) : VecIs (setF f k q true) (fun j => P j || decide (32 * k + q = j)) m := fun i hi => by
  obtain ⟨a, e1, h1, h2⟩ := h i hi
  have hs := set_on f k q hq (h.word hk) i
  by_cases e : i = k
  · subst e
    rw [if_pos rfl] at hs
    have hp : 2 ^ q < 2 ^ 32 := Nat.pow_lt_pow_right (by decide) hq
    rw [e1, show (2 : Int) ^ q = ((2 ^ q : Nat) : Int) by simp, (bits_nat .i64 32 (by decide) wraps_i64w a _ h1 hp).2] at hs
    refine ⟨a ||| 2 ^ q, hs.symm, Nat.or_lt_two_pow h1 hp, fun r hr => ?_⟩
    rw [Nat.testBit_or, h2 r hr, Nat.testBit_two_pow]
    congr 1
    by_cases e2 : q = r
    · subst e2; simp
    · rw [decide_eq_false e2, decide_eq_false (by omega)]
  · rw [if_neg e] at hs
    refine ⟨a, by rw [← hs]; exact e1, h1, fun r hr => ?_⟩
    show a.testBit r = (P (32 * i + r) || decide (32 * k + q = 32 * i + r))
    rw [h2 r hr, decide_eq_false (by omega), Bool.or_false]
theorem behind_ex (q : Nat → Bool) : ∀ n, n ≤ 62 → ∃ x, IsBits x (behind q n)
  | 0, _ => ⟨0, behind_zero q⟩
  | n + 1, h => by
    obtain ⟨x, hx⟩ := behind_ex q n (by omega)
    cases e : q n with
    | true => exact ⟨_, behind_yes hx (by omega) e⟩
    | false => exact ⟨_, behind_no hx e⟩
theorem and_word64 {y : Nat} (h : y < 18446744073709551616) : bits .and .u64 (y : Int) 4294967295 = ((y % 4294967296 : Nat) : Int) := by
  have h2 := and64 (a := y) (b := 4294967295) h (by omega)
  rw [show (4294967295 : Nat) = 2 ^ 32 - 1 from by decide, Nat.and_two_pow_sub_one_eq_mod] at h2
  exact h2
end Go.Proofs.Ytlgnplnmcdjbiaa
