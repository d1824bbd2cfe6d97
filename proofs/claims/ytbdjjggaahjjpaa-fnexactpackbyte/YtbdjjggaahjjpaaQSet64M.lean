/- What is proved here: plain arithmetic on sets of bytes that are kept as four words of 64 bits: one byte more, put together word by word, the lowest byte of what is left. -/
import Derived.Test.YtbdjjggaahjjpaaQClassM
import Derived.Lib.TrailingZeros
import Derived.Laws.BitsLemmas
import Derived.Laws.Bits64b
namespace Go.Proofs.Ytbdjjggaahjjpaa
open Go.RowKit

/-- The byte i is in the set. -/
def inSet (f : Nat → Nat) (i : Nat) : Bool := (f (i / 64)).testBit (i % 64)
/-- Four words. -/
def Set4 (f : Nat → Nat) : Prop := ∀ j, f j < 18446744073709551616
/-- One byte more. -/
def withB (f : Nat → Nat) (b : Nat) : Nat → Nat := fun j => if j = b / 64 then f j ||| 2 ^ (b % 64) else f j
theorem pow_lt64 {k : Nat} (h : k < 64) : 2 ^ k < 18446744073709551616 := by
  have : 2 ^ k < 2 ^ 64 := Nat.pow_lt_pow_right (by decide) h
  simpa using this
theorem or_lt64 {a b : Nat} (ha : a < 18446744073709551616) (hb : b < 18446744073709551616) : a ||| b < 18446744073709551616 := Nat.or_lt_two_pow (n := 64) ha hb
theorem and_lt64 {a b : Nat} (ha : a < 18446744073709551616) : a &&& b < 18446744073709551616 := Nat.lt_of_le_of_lt Nat.and_le_left ha
theorem withB_set {f : Nat → Nat} (h : Set4 f) (b : Nat) : Set4 (withB f b) := fun j => by
  unfold withB
  split
  · exact or_lt64 (h j) (pow_lt64 (Nat.mod_lt _ (by decide)))
  · exact h j
theorem withB_at (f : Nat → Nat) (b : Nat) : withB f b (b / 64) = f (b / 64) ||| 2 ^ (b % 64) := by simp [withB]
theorem withB_off {f : Nat → Nat} {b j : Nat} (h : j ≠ b / 64) : withB f b j = f j := by simp [withB, h]
theorem inSet_with (f : Nat → Nat) (b i : Nat) : inSet (withB f b) i = (inSet f i || (b == i)) := by
  unfold inSet
  by_cases e : i / 64 = b / 64
  · rw [e, withB_at, Nat.testBit_or, Nat.testBit_two_pow]
    congr 1
    by_cases e2 : b = i
    · subst e2; simp
    · have : b % 64 ≠ i % 64 := by omega
      simp [this, e2]
  · rw [withB_off e]
    have : b ≠ i := fun h => e (by rw [h])
    simp [this]
theorem inSet_zero (i : Nat) : inSet (fun _ => 0) i = false := by simp [inSet]
/-- A set stays with a byte just if it is in it. -/
theorem withB_same (f : Nat → Nat) (b : Nat) : f (b / 64) ||| 2 ^ (b % 64) = f (b / 64) ↔ inSet f b = true := by
  constructor
  · intro h
    have := inSet_with f b b
    unfold inSet at this ⊢
    rw [withB_at, h] at this
    simpa using this
  · intro h
    apply Nat.eq_of_testBit_eq
    intro i
    rw [Nat.testBit_or, Nat.testBit_two_pow]
    by_cases e : b % 64 = i
    · subst e
      unfold inSet at h
      simp [h]
    · simp [e]
theorem inSet_or (f g : Nat → Nat) (i : Nat) : inSet (fun j => f j ||| g j) i = (inSet f i || inSet g i) := by simp [inSet]
theorem inSet_and (f g : Nat → Nat) (i : Nat) : inSet (fun j => f j &&& g j) i = (inSet f i && inSet g i) := by simp [inSet]
theorem inSet_not (f : Nat → Nat) (i : Nat) : inSet (fun j => f j ^^^ 18446744073709551615) i = !inSet f i := by
  unfold inSet
  rw [Nat.testBit_xor, show (18446744073709551615 : Nat) = 2 ^ 64 - 1 from by decide, Nat.testBit_two_pow_sub_one]
  have : i % 64 < 64 := Nat.mod_lt _ (by decide)
  simp [this]
/-- The lowest bit that is on, and what is left without it. -/
theorem ctz64_bits (x : Nat) (h0 : x ≠ 0) (h : x < 2 ^ 64) : x.testBit (Lib.ctz 64 x) = true ∧ (∀ i, i < Lib.ctz 64 x → x.testBit i = false) ∧ Lib.ctz 64 x < 64 ∧ ∀ i, (x &&& (x - 1)).testBit i = (x.testBit i && decide (Lib.ctz 64 x < i)) := by
  obtain ⟨m, hm, hk⟩ := Lib.ctzFrom_spec 64 x (by omega) h
  have e : Lib.ctz 64 x = Lib.ctzFrom 64 x := by simp [Lib.ctz, h0]
  rw [e]
  obtain ⟨t, ht⟩ : ∃ t, Lib.ctzFrom 64 x = t := ⟨_, rfl⟩
  rw [ht] at hm hk ⊢
  have hp : 0 < 2 ^ t := Nat.two_pow_pos t
  have hx : ∀ i, x.testBit i = if i < t then false else (2 * m + 1).testBit (i - t) := by
    intro i
    have := Nat.testBit_two_pow_mul_add (2 * m + 1) (b := 0) (i := t) hp i
    rw [Nat.add_zero] at this
    rw [hm, this]
    simp
  have hx1 : ∀ i, (x - 1).testBit i = if i < t then (2 ^ t - 1).testBit i else (2 * m).testBit (i - t) := by
    intro i
    have h2 : x - 1 = 2 ^ t * (2 * m) + (2 ^ t - 1) := by
      rw [hm, Nat.mul_add, Nat.mul_one]
      omega
    rw [h2]
    exact Nat.testBit_two_pow_mul_add (2 * m) (by omega) i
  refine ⟨?_, ?_, hk, ?_⟩
  · rw [hx]
    simp [Nat.testBit_zero]
  · intro i hi
    rw [hx, if_pos hi]
  · intro i
    rw [Nat.testBit_and, hx, hx1]
    by_cases h1 : i < t
    · simp [h1]
    · rw [if_neg h1, if_neg h1]
      by_cases h2 : i = t
      · subst h2
        simp [Nat.testBit_zero]
      · obtain ⟨j, rfl⟩ : ∃ j, i = t + (j + 1) := ⟨i - t - 1, by omega⟩
        have e3 : t + (j + 1) - t = j + 1 := by omega
        rw [e3, Nat.testBit_succ, Nat.testBit_succ]
        have d1 : (2 * m + 1) / 2 = m := by omega
        have d2 : 2 * m / 2 = m := by omega
        rw [d1, d2]
        simp
theorem classL_none {f : Nat → Bool} {a : Nat} : ∀ b, a ≤ b → (∀ i, a ≤ i → i < b → f i = false) → classL f b = classL f a
  | 0, h, _ => by obtain rfl : a = 0 := by omega
                  rfl
  | b + 1, h, hn => by
    by_cases e : a = b + 1
    · rw [e]
    · rw [classL_no (hn b (by omega) (by omega))]
      exact classL_none b (by omega) (fun i h1 h2 => hn i h1 (by omega))
/-- What is left of a word when the bits below p have come. -/
def Rest64 (x p r : Nat) : Prop := r < 18446744073709551616 ∧ ∀ i, r.testBit i = (x.testBit i && decide (p ≤ i))
theorem rest64_start {x : Nat} (h : x < 18446744073709551616) : Rest64 x 0 x := ⟨h, fun i => by simp⟩
theorem rest64_step {x p r : Nat} (h : Rest64 x p r) (h0 : r ≠ 0) : p ≤ Lib.ctz 64 r ∧ Lib.ctz 64 r < 64 ∧ x.testBit (Lib.ctz 64 r) = true ∧ (∀ i, p ≤ i → i < Lib.ctz 64 r → x.testBit i = false) ∧ Rest64 x (Lib.ctz 64 r + 1) (r &&& (r - 1)) := by
  obtain ⟨h1, h2, h3, h4⟩ := ctz64_bits r h0 h.1
  have h5 := h.2 (Lib.ctz 64 r)
  rw [h1] at h5
  have h6 : x.testBit (Lib.ctz 64 r) = true ∧ p ≤ Lib.ctz 64 r := by simpa using h5.symm
  refine ⟨h6.2, h3, h6.1, fun i hi hl => ?_, ?_, fun i => ?_⟩
  · have h7 := h.2 i
    rw [h2 i hl] at h7
    simpa [hi] using h7.symm
  · exact Nat.lt_of_le_of_lt Nat.and_le_left h.1
  · rw [h4 i, h.2 i]
    by_cases hl : Lib.ctz 64 r < i
    · have : p ≤ i := by omega
      have h8 : Lib.ctz 64 r + 1 ≤ i := hl
      simp [hl, this, h8]
    · have h8 : ¬ Lib.ctz 64 r + 1 ≤ i := by omega
      simp [hl, h8]
theorem rest64_end {x p : Nat} (h : Rest64 x p 0) : ∀ i, p ≤ i → x.testBit i = false := by
  intro i hi
  have := h.2 i
  simpa [hi] using this.symm
theorem inSet_word (f : Nat → Nat) (k j : Nat) (hj : j < 64) : inSet f (64 * k + j) = (f k).testBit j := by
  unfold inSet
  have e1 : (64 * k + j) / 64 = k := by omega
  have e2 : (64 * k + j) % 64 = j := by omega
  rw [e1, e2]
/-- One byte comes. -/
theorem byte_step {f : Nat → Nat} {k p r : Nat} (h : Rest64 (f k) p r) (h0 : r ≠ 0) : classL (inSet f) (64 * k + (Lib.ctz 64 r + 1)) = classL (inSet f) (64 * k + p) ++ [((64 * k + Lib.ctz 64 r : Nat) : Int)] ∧ p ≤ Lib.ctz 64 r ∧ Lib.ctz 64 r < 64 ∧ Rest64 (f k) (Lib.ctz 64 r + 1) (r &&& (r - 1)) := by
  obtain ⟨h1, h2, h3, h4, h5⟩ := rest64_step h h0
  refine ⟨?_, h1, h2, h5⟩
  rw [← Nat.add_assoc, classL_yes (by rw [inSet_word f k _ h2]; exact h3), classL_none (64 * k + Lib.ctz 64 r) (a := 64 * k + p) (by omega)]
  intro i hi hl
  obtain ⟨j, rfl⟩ : ∃ j, i = 64 * k + j := ⟨i - 64 * k, by omega⟩
  rw [inSet_word f k j (by omega)]
  exact h4 j (by omega) (by omega)
/-- A word is over. -/
theorem word_end {f : Nat → Nat} {k p : Nat} (hp : p ≤ 64) (h : Rest64 (f k) p 0) : classL (inSet f) (64 * (k + 1)) = classL (inSet f) (64 * k + p) := by
  refine classL_none _ (by omega) (fun i hi hl => ?_)
  obtain ⟨j, rfl⟩ : ∃ j, i = 64 * k + j := ⟨i - 64 * k, by omega⟩
  rw [inSet_word f k j (by omega)]
  exact rest64_end h j (by omega)
theorem wraps_u64s (n : Int) (h₀ : 0 ≤ n) (h₁ : n < 2 ^ 64) : IntKind.u64.wrap n = n := by rw [IntKind.wrap_u64]; omega
theorem rest64_and (r : Nat) (h0 : r ≠ 0) (h : r < 18446744073709551616) : bits .and .u64 (r : Int) ((r : Int) - 1) = ((r &&& (r - 1) : Nat) : Int) := by
  have e : (r : Int) - 1 = ((r - 1 : Nat) : Int) := by omega
  rw [e, (bits_nat .u64 64 (by decide) wraps_u64s r (r - 1) h (by omega)).1]
theorem or64 {a b : Nat} (ha : a < 18446744073709551616) (hb : b < 18446744073709551616) : bits .or .u64 (a : Int) (b : Int) = ((a ||| b : Nat) : Int) := (bits_nat .u64 64 (by decide) wraps_u64s a b ha hb).2
theorem and64 {a b : Nat} (ha : a < 18446744073709551616) (hb : b < 18446744073709551616) : bits .and .u64 (a : Int) (b : Int) = ((a &&& b : Nat) : Int) := (bits_nat .u64 64 (by decide) wraps_u64s a b ha hb).1
theorem xor64 {a b : Nat} (ha : a < 18446744073709551616) (hb : b < 18446744073709551616) : bits .xor .u64 (a : Int) (b : Int) = ((a ^^^ b : Nat) : Int) := by
  have ha' : a % 2 ^ 64 = a := Nat.mod_eq_of_lt ha
  have hb' : b % 2 ^ 64 = b := Nat.mod_eq_of_lt hb
  have e : IntKind.u64.bits = 64 := rfl
  simp only [bits, e, BitVec.ofInt_natCast, BitVec.toNat_xor, BitVec.toNat_ofNat, ha', hb']
  exact wraps_u64s _ (Int.natCast_nonneg _) (by exact_mod_cast Nat.xor_lt_two_pow (n := 64) ha hb)
theorem xor_lt64 {a : Nat} (ha : a < 18446744073709551616) : a ^^^ 18446744073709551615 < 18446744073709551616 := Nat.xor_lt_two_pow (n := 64) ha (by decide)
theorem not64 {a : Nat} (ha : a < 18446744073709551616) : bits .xor .u64 IntKind.u64.max (a : Int) = ((a ^^^ 18446744073709551615 : Nat) : Int) := by
  have e : IntKind.u64.max = ((18446744073709551615 : Nat) : Int) := by decide
  rw [e, xor64 (by decide) ha, Nat.xor_comm]
end Go.Proofs.Ytbdjjggaahjjpaa
