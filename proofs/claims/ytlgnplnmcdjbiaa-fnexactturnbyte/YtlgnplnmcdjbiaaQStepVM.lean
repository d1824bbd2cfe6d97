/- What is said here: places as words of 32 bits: put together, and moved up by one, as plain mathematics. -/
import Derived.Test.YtlgnplnmcdjbiaaQStepM
import Derived.Test.YtlgnplnmcdjbiaaQVecM
import Derived.Test.YtlgnplnmcdjbiaaQVecSpecW
namespace Go.Proofs.Ytlgnplnmcdjbiaa
open Go.RowKit

theorem VecIs.or {f g : Nat → Int} {P Q : Nat → Bool} {m : Nat} (h : VecIs f P m) (h' : VecIs g Q m) : VecIs (fun i => bits .or .i64 (f i) (g i)) (fun j => P j || Q j) m := fun i hi => by
  obtain ⟨a, e1, h1, h2⟩ := h i hi
  obtain ⟨b, e2, h3, h4⟩ := h' i hi
  refine ⟨a ||| b, ?_, Nat.or_lt_two_pow h1 h3, fun q hq => by rw [Nat.testBit_or, h2 q hq, h4 q hq]⟩
  show bits .or .i64 (f i) (g i) = _
  rw [e1, e2, (bits_nat .i64 32 (by decide) wraps_i64w a b h1 h3).2]
theorem VecIs.and {f g : Nat → Int} {P Q : Nat → Bool} {m : Nat} (h : VecIs f P m) (h' : VecIs g Q m) : VecIs (fun i => bits .and .i64 (f i) (g i)) (fun j => P j && Q j) m := fun i hi => by
  obtain ⟨a, e1, h1, h2⟩ := h i hi
  obtain ⟨b, e2, h3, h4⟩ := h' i hi
  refine ⟨a &&& b, ?_, Nat.and_lt_two_pow _ h3, fun q hq => by rw [Nat.testBit_and, h2 q hq, h4 q hq]⟩
  show bits .and .i64 (f i) (g i) = _
  rw [e1, e2, (bits_nat .i64 32 (by decide) wraps_i64w a b h1 h3).1]
theorem carry_two {f : Nat → Int} {m : Nat} (h : ∀ i, i < m → 0 ≤ f i ∧ f i ≤ 4294967295) : ∀ k, k < m → carryF 0 f f (k + 1) = f k / 2147483648
  | 0, hk => by
    have := h 0 hk
    show (f 0 + f 0 + 0) / 4294967296 = _
    omega
  | k + 1, hk => by
    have ih := carry_two h k (by omega)
    have h1 := h k (by omega)
    have h2 := h (k + 1) hk
    show (f (k + 1) + f (k + 1) + carryF 0 f f (k + 1)) / 4294967296 = _
    rw [ih]
    omega
/-- Moved up by one, and cut. -/
theorem VecIs.up {f : Nat → Int} {P : Nat → Bool} {n m : Nat} (hm : m = (n + 1 + 31) / 32) (h : VecIs f P m) : VecIs (cutF ((n : Int) + 1) m (sumF 0 f f)) (fun j => decide (1 ≤ j ∧ j ≤ n) && P (j - 1)) m := fun i hi => by
  have hw : ∀ i, i < m → 0 ≤ f i ∧ f i ≤ 4294967295 := fun i hi => by
    obtain ⟨a, e1, h1, _⟩ := h i hi
    rw [e1]
    omega
  obtain ⟨a, e1, h1, h2⟩ := h i hi
  obtain ⟨c, hc, hc1, hcb⟩ : ∃ c : Nat, carryF 0 f f i = (c : Int) ∧ c ≤ 1 ∧ (decide (c = 1)) = (decide (1 ≤ 32 * i) && P (32 * i - 1)) := by
    cases i with
    | zero => exact ⟨0, rfl, by omega, by simp⟩
    | succ k =>
      obtain ⟨d, e3, h5, h6⟩ := h k (by omega)
      refine ⟨d / 2147483648, ?_, by omega, ?_⟩
      · rw [carry_two hw k (by omega), e3]
        omega
      · rw [decide_eq_true (show 1 ≤ 32 * (k + 1) by omega), Bool.true_and, show 32 * (k + 1) - 1 = 32 * k + 31 by omega, ← h6 31 (by omega), Nat.testBit_eq_decide_div_mod_eq]
        have : d / 2147483648 < 2 := by omega
        congr 1
        rw [show (2 : Nat) ^ 31 = 2147483648 by decide, Nat.mod_eq_of_lt this]
  have hs : sumF 0 f f i = (((2 * a + c) % 4294967296 : Nat) : Int) := by
    unfold sumF
    rw [hc, e1]
    omega
  have hsb : ∀ q, q < 32 → ((2 * a + c) % 4294967296).testBit q = (decide (1 ≤ 32 * i + q) && P (32 * i + q - 1)) := fun q hq => by
    rw [show (4294967296 : Nat) = 2 ^ 32 by decide, Nat.testBit_mod_two_pow, decide_eq_true hq, Bool.true_and]
    cases q with
    | zero =>
      rw [Nat.add_zero, ← hcb, Nat.testBit_zero]
      congr 1
      simp only [eq_iff_iff]
      omega
    | succ q =>
      rw [Nat.testBit_succ, show (2 * a + c) / 2 = a by omega, h2 q (by omega), decide_eq_true (show 1 ≤ 32 * i + (q + 1) by omega), Bool.true_and]
      congr 1
  have hzl : (2 * a + c) % 4294967296 < 4294967296 := Nat.mod_lt _ (by decide)
  generalize (2 * a + c) % 4294967296 = z at *
  have hpos : ∀ j, (decide (1 ≤ j ∧ j ≤ n) && P (j - 1)) = ((decide (1 ≤ j) && P (j - 1)) && decide (j ≤ n)) := fun j => by
    by_cases h1 : 1 ≤ j <;> by_cases h2 : j ≤ n <;> simp [h1, h2]
  unfold cutF
  by_cases hl : i + 1 = m ∧ 0 < ((n : Int) + 1) % 32
  · rw [if_pos hl, hs]
    obtain ⟨r, hr⟩ : ∃ r, (n + 1) % 32 = r := ⟨_, rfl⟩
    have hr2 : (((n : Int) + 1) % 32).toNat = r := by omega
    rw [hr2]
    refine ⟨z % 2 ^ r, by simp, Nat.lt_of_le_of_lt (Nat.mod_le _ _) hzl, fun q hq => ?_⟩
    rw [Nat.testBit_mod_two_pow, hsb q hq]
    show _ = (decide (1 ≤ 32 * i + q ∧ 32 * i + q ≤ n) && P (32 * i + q - 1))
    rw [hpos, Bool.and_comm]
    congr 1
    simp only [decide_eq_decide]
    omega
  · rw [if_neg hl, hs]
    refine ⟨z, rfl, hzl, fun q hq => ?_⟩
    rw [hsb q hq]
    show _ = (decide (1 ≤ 32 * i + q ∧ 32 * i + q ≤ n) && P (32 * i + q - 1))
    rw [hpos, decide_eq_true (show 32 * i + q ≤ n by omega), Bool.and_true]
/-- The bits of a right vector. -/
def bitsOf (f : Nat → Int) (n : Nat) : Nat → Bool := fun j => decide (j ≤ n) && (f (j / 32)).toNat.testBit (j % 32)
theorem bitsOf_le (f : Nat → Int) (n : Nat) : ∀ j, n < j → bitsOf f n j = false := fun j h => by unfold bitsOf; rw [decide_eq_false (by omega)]; rfl
theorem vecIs_right {f : Nat → Int} {n m : Nat} (hm : m = (n + 1 + 31) / 32) (h : Right ((n : Int) + 1) m f) : VecIs f (bitsOf f n) m := fun i hi => by
  have h1 := h.2.2.2.1 i hi
  refine ⟨(f i).toNat, by omega, by omega, fun q hq => ?_⟩
  unfold bitsOf
  rw [show (32 * i + q) / 32 = i by omega, show (32 * i + q) % 32 = q by omega]
  by_cases hle : 32 * i + q ≤ n
  · rw [decide_eq_true hle, Bool.true_and]
  · rw [decide_eq_false hle, Bool.false_and]
    obtain rfl : i = m - 1 := by omega
    rcases h.2.2.2.2 with h2 | h2
    · omega
    · obtain ⟨r, hr⟩ : ∃ r, (n + 1) % 32 = r := ⟨_, rfl⟩
      have hr2 : (((n : Int) + 1) % 32).toNat = r := by omega
      rw [hr2] at h2
      have h3 : (f (m - 1)).toNat < 2 ^ r := by
        have : ((f (m - 1)).toNat : Int) < ((2 ^ r : Nat) : Int) := by push_cast; omega
        exact_mod_cast this
      exact Nat.testBit_lt_two_pow (Nat.lt_of_lt_of_le h3 (Nat.pow_le_pow_right (by decide) (by omega)))
theorem right_of_vecIs {f : Nat → Int} {P : Nat → Bool} {n m : Nat} (hn : n ≤ 319) (hm : m = (n + 1 + 31) / 32) (h : VecIs f P m) (hP : ∀ j, n < j → P j = false) : Right ((n : Int) + 1) m f := by
  refine ⟨by omega, by omega, by omega, fun i hi => ?_, ?_⟩
  · obtain ⟨a, e1, h1, _⟩ := h i hi
    rw [e1]
    omega
  · by_cases hz : ((n : Int) + 1) % 32 = 0
    · exact Or.inl hz
    · obtain ⟨a, e1, h1, h2⟩ := h (m - 1) (by omega)
      obtain ⟨r, hr⟩ : ∃ r, (n + 1) % 32 = r := ⟨_, rfl⟩
      have hr2 : (((n : Int) + 1) % 32).toNat = r := by omega
      rw [hr2, e1]
      refine Or.inr ?_
      have h3 : a < 2 ^ r := by
        apply Nat.lt_pow_two_of_testBit
        intro q hq
        by_cases hq2 : q < 32
        · rw [h2 q hq2, hP _ (by omega)]
        · exact Nat.testBit_lt_two_pow (Nat.lt_of_lt_of_le h1 (Nat.pow_le_pow_right (by decide) (by omega)))
      exact_mod_cast h3
/-- A number that has the bits of a right vector. -/
theorem bitsOf_ex (f : Nat → Int) {n : Nat} (hn : n ≤ 62) : ∃ x, IsBits x (bitsOf f n) := ⟨_, bits_valB (fun j hj => bitsOf_le f n j (by omega))⟩
theorem clo_ex {S P : Nat → Bool} {n : Nat} (hn : n ≤ 62) (hS : ∀ j, n < j → S j = false) (hP : ∀ j, n < j → P j = false) : ∃ x, IsBits x (cloB S P) := ⟨_, bits_valB (fun j hj => clo_le hS hP j (by omega))⟩
end Go.Proofs.Ytlgnplnmcdjbiaa
