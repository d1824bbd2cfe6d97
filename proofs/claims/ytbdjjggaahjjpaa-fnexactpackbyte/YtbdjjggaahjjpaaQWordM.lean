/- What is proved here: plain arithmetic on words of 32 bits: bit by bit, masks, the borrow of a subtraction. -/
import Derived.Laws.BitsLemmas
namespace Go.Proofs.Ytbdjjggaahjjpaa

theorem wraps_u32w (n : Int) (h₀ : 0 ≤ n) (h₁ : n < 2 ^ 32) : IntKind.u32.wrap n = n := by rw [IntKind.wrap_u32]; omega
theorem wraps_i64w (n : Int) (h₀ : 0 ≤ n) (h₁ : n < 2 ^ 32) : IntKind.i64.wrap n = n := by rw [IntKind.wrap_i64]; omega
theorem bits_xor_nat (k : IntKind) (j : Nat) (hj : j ≤ k.bits) (hk : ∀ n : Int, 0 ≤ n → n < 2 ^ j → k.wrap n = n) (a b : Nat) (ha : a < 2 ^ j) (hb : b < 2 ^ j) :
    bits .xor k a b = ((a ^^^ b : Nat) : Int) := by
  have hp : 2 ^ j ≤ 2 ^ k.bits := Nat.pow_le_pow_right (by decide) hj
  have ha' : a % 2 ^ k.bits = a := Nat.mod_eq_of_lt (Nat.lt_of_lt_of_le ha hp)
  have hb' : b % 2 ^ k.bits = b := Nat.mod_eq_of_lt (Nat.lt_of_lt_of_le hb hp)
  have cast : ∀ n : Nat, n < 2 ^ j → ((n : Nat) : Int) < 2 ^ j := fun n h => by exact_mod_cast h
  simp only [bits, BitVec.ofInt_natCast, BitVec.toNat_xor, BitVec.toNat_ofNat, ha', hb']
  exact hk _ (Int.natCast_nonneg _) (cast _ (Nat.xor_lt_two_pow ha hb))
/-- A word: below 2 to the power k. -/
def Word (k : Nat) (x : Int) : Prop := 0 ≤ x ∧ x < 2 ^ k
theorem word_nat {k : Nat} {x : Int} (h : Word k x) : ∃ a : Nat, x = a ∧ a < 2 ^ k := by
  obtain ⟨a, rfl⟩ := Int.eq_ofNat_of_zero_le h.1
  exact ⟨a, rfl, by have := h.2; exact_mod_cast this⟩
theorem word_of {k a : Nat} (h : a < 2 ^ k) : Word k (a : Int) := ⟨Int.natCast_nonneg _, by exact_mod_cast h⟩
theorem word_up {k j : Nat} {x : Int} (h : Word k x) (hk : k ≤ j) : Word j x := by
  obtain ⟨a, rfl, ha⟩ := word_nat h
  exact word_of (Nat.lt_of_lt_of_le ha (Nat.pow_le_pow_right (by decide) hk))
theorem and_same {x y : Int} (hx : Word 32 x) (hy : Word 32 y) : bits .and .u32 x y = bits .and .i64 x y := by
  obtain ⟨a, rfl, ha⟩ := word_nat hx
  obtain ⟨b, rfl, hb⟩ := word_nat hy
  rw [(bits_nat .u32 32 (by decide) wraps_u32w a b ha hb).1, (bits_nat .i64 32 (by decide) wraps_i64w a b ha hb).1]
theorem or_same {x y : Int} (hx : Word 32 x) (hy : Word 32 y) : bits .or .u32 x y = bits .or .i64 x y := by
  obtain ⟨a, rfl, ha⟩ := word_nat hx
  obtain ⟨b, rfl, hb⟩ := word_nat hy
  rw [(bits_nat .u32 32 (by decide) wraps_u32w a b ha hb).2, (bits_nat .i64 32 (by decide) wraps_i64w a b ha hb).2]
theorem xor_same {x y : Int} (hx : Word 32 x) (hy : Word 32 y) : bits .xor .u32 x y = bits .xor .i64 x y := by
  obtain ⟨a, rfl, ha⟩ := word_nat hx
  obtain ⟨b, rfl, hb⟩ := word_nat hy
  rw [bits_xor_nat .u32 32 (by decide) wraps_u32w a b ha hb, bits_xor_nat .i64 32 (by decide) wraps_i64w a b ha hb]
theorem and_word {k : Nat} {x y : Int} (hk : k ≤ 32) (hx : Word k x) (hy : Word k y) : Word k (bits .and .i64 x y) := by
  obtain ⟨a, rfl, ha⟩ := word_nat (word_up hx hk)
  obtain ⟨b, rfl, hb⟩ := word_nat (word_up hy hk)
  rw [(bits_nat .i64 32 (by decide) wraps_i64w a b ha hb).1]
  exact word_of (Nat.and_lt_two_pow _ (by have := hy.2; exact_mod_cast this))
theorem or_word {k : Nat} {x y : Int} (hk : k ≤ 32) (hx : Word k x) (hy : Word k y) : Word k (bits .or .i64 x y) := by
  obtain ⟨a, rfl, ha⟩ := word_nat (word_up hx hk)
  obtain ⟨b, rfl, hb⟩ := word_nat (word_up hy hk)
  rw [(bits_nat .i64 32 (by decide) wraps_i64w a b ha hb).2]
  exact word_of (Nat.or_lt_two_pow (by have := hx.2; exact_mod_cast this) (by have := hy.2; exact_mod_cast this))
theorem xor_word {k : Nat} {x y : Int} (hk : k ≤ 32) (hx : Word k x) (hy : Word k y) : Word k (bits .xor .i64 x y) := by
  obtain ⟨a, rfl, ha⟩ := word_nat (word_up hx hk)
  obtain ⟨b, rfl, hb⟩ := word_nat (word_up hy hk)
  rw [bits_xor_nat .i64 32 (by decide) wraps_i64w a b ha hb]
  exact word_of (Nat.xor_lt_two_pow (by have := hx.2; exact_mod_cast this) (by have := hy.2; exact_mod_cast this))
theorem mask_word {k : Nat} {x : Int} (hk : k ≤ 32) (hx : Word 32 x) : bits .and .i64 x (2 ^ k - 1) = x % 2 ^ k :=
  bits_mask .i64 32 (by decide) wraps_i64w k hk x hx.1 hx.2

/-- The highest bit of a word. -/
theorem top_bit {a : Nat} (h : a < 2 ^ 32) : a / 2 ^ 31 = if a.testBit 31 then 1 else 0 := by
  rw [Nat.testBit_eq_decide_div_mod_eq]
  split <;> rename_i h2 <;> simp at h2 <;> omega
theorem top_ge {a : Nat} (h : a < 2 ^ 32) : a.testBit 31 = decide (2147483648 ≤ a) := by
  rw [Nat.testBit_eq_decide_div_mod_eq]
  by_cases h2 : 2147483648 ≤ a
  · rw [decide_eq_true h2]; simp; omega
  · rw [decide_eq_false h2]; simp; omega
theorem xor_neg (a : Nat) (h : a < 2 ^ 32) : (4294967295 - a).testBit 31 = !a.testBit 31 := by
  rw [top_ge (by omega), top_ge h]
  by_cases h2 : 2147483648 ≤ a
  · simp [h2]; omega
  · simp [h2]; omega
/-- The borrow of a subtraction. -/
theorem borrow_nat (x y d br : Nat) (hx : x < 2 ^ 32) (hy : y < 2 ^ 32) (hbr : br ≤ 1) (hd : (d : Int) = ((x : Int) - y - br) % 4294967296) :
    (((4294967295 - x) &&& y) ||| ((4294967295 - (x ^^^ y)) &&& d)) / 2 ^ 31 = if (x : Int) < y + br then 1 else 0 := by
  have hd2 : d < 2 ^ 32 := by omega
  have hxy := Nat.xor_lt_two_pow hx hy
  have h1 : ((4294967295 - x) &&& y) ||| ((4294967295 - (x ^^^ y)) &&& d) < 2 ^ 32 :=
    Nat.or_lt_two_pow (Nat.and_lt_two_pow _ hy) (Nat.and_lt_two_pow _ hd2)
  rw [top_bit h1, Nat.testBit_or, Nat.testBit_and, Nat.testBit_and, xor_neg x hx, xor_neg _ hxy, Nat.testBit_xor, top_ge hx, top_ge hy, top_ge hd2]
  by_cases a1 : 2147483648 ≤ x <;> by_cases a2 : 2147483648 ≤ y <;> by_cases a3 : 2147483648 ≤ d <;> simp [a1, a2, a3] <;> omega
theorem u32_not (a : Nat) (h : a < 2 ^ 32) : bits .xor .u32 IntKind.u32.max (a : Int) = ((4294967295 - a : Nat) : Int) := by
  have h1 : (BitVec.ofInt 32 (a : Int)).toNat = a := by
    rw [BitVec.ofInt_natCast, BitVec.toNat_ofNat]; exact Nat.mod_eq_of_lt h
  show IntKind.u32.wrap ((BitVec.ofInt 32 IntKind.u32.max ^^^ BitVec.ofInt 32 (a : Int)).toNat : Int) = _
  have hm2 : BitVec.ofInt 32 IntKind.u32.max = BitVec.allOnes 32 := by decide
  rw [hm2, BitVec.allOnes_xor, BitVec.toNat_not, h1, IntKind.wrap_u32]
  omega
end Go.Proofs.Ytbdjjggaahjjpaa
