/- What is said here: places as bits of one number, and as words of 32 bits: they are the same.
   What is said here: words that are laid up by bits into other words, as plain arithmetic. -/
import Derived.Test.YtbdjjggaahjjpaaQCellMToCloM
import Derived.Test.YtbdjjggaahjjpaaQGetBWToSetM
import Derived.WalkKit
namespace Go.Proofs.Ytbdjjggaahjjpaa

/-- Words whose bits are told. -/
def VecIs (f : Nat → Int) (P : Nat → Bool) (m : Nat) : Prop := ∀ i, i < m → ∃ a : Nat, f i = (a : Int) ∧ a < 2 ^ 32 ∧ ∀ q, q < 32 → a.testBit q = P (32 * i + q)
theorem VecIs.uniq {f g : Nat → Int} {P : Nat → Bool} {m : Nat} (h : VecIs f P m) (h' : VecIs g P m) : ∀ i, i < m → f i = g i := fun i hi => by
  obtain ⟨a, e1, h1, h2⟩ := h i hi
  obtain ⟨b, e2, h3, h4⟩ := h' i hi
  rw [e1, e2]
  congr 1
  apply Nat.eq_of_testBit_eq
  intro q
  by_cases hq : q < 32
  · rw [h2 q hq, h4 q hq]
  · rw [Nat.testBit_lt_two_pow (Nat.lt_of_lt_of_le h1 (Nat.pow_le_pow_right (by decide) (by omega))), Nat.testBit_lt_two_pow (Nat.lt_of_lt_of_le h3 (Nat.pow_le_pow_right (by decide) (by omega)))]
theorem VecIs.congr {f : Nat → Int} {P Q : Nat → Bool} {m : Nat} (h : VecIs f P m) (e : ∀ j, P j = Q j) : VecIs f Q m := fun i hi => by
  obtain ⟨a, e1, h1, h2⟩ := h i hi
  exact ⟨a, e1, h1, fun q hq => (h2 q hq).trans (e _)⟩
theorem vecIs_zero (m : Nat) : VecIs (fun _ => 0) (fun _ => false) m := fun i _ => ⟨0, rfl, by decide, fun q _ => by simp⟩
/-- The words of a number. -/
def wordsN (x : Nat) : Nat → Int := fun i => ((x / 2 ^ (i * 32) % 4294967296 : Nat) : Int)
theorem vecIs_words {x : Nat} {P : Nat → Bool} (h : IsBits x P) (m : Nat) : VecIs (wordsN x) P m := fun i _ => ⟨x / 2 ^ (i * 32) % 4294967296, rfl, Nat.mod_lt _ (by decide), fun q hq => by
  rw [show (4294967296 : Nat) = 2 ^ 32 from by decide, Nat.testBit_mod_two_pow, Nat.testBit_div_two_pow, h.bit]
  rw [decide_eq_true hq, Bool.true_and]
  congr 1
  omega⟩
theorem VecIs.word {f : Nat → Int} {P : Nat → Bool} {m i : Nat} (h : VecIs f P m) (hi : i < m) : Word 32 (f i) := by
  obtain ⟨a, e1, h1, _⟩ := h i hi
  rw [e1]
  exact word_of h1
theorem VecIs.set {f : Nat → Int} {P : Nat → Bool} {m k q : Nat} (h : VecIs f P m) (hk : k < m) (hq : q < 32) : VecIs (setF f k q true) (fun j => P j || decide (32 * k + q = j)) m := fun i hi => by
  obtain ⟨a, e1, h1, h2⟩ := h i hi
  have hs := set_on f k q hq (h.word hk) i
  by_cases e : i = k
  · subst e
    rw [if_pos rfl] at hs
    have hp : 2 ^ q < 2 ^ 32 := Nat.pow_lt_pow_right (by decide) hq
    rw [e1, show (2 : Int) ^ q = ((2 ^ q : Nat) : Int) by simp, (bits_nat .i64 32 (by decide) wraps_i64w a _ h1 hp).2] at hs
    refine ⟨a ||| 2 ^ q, hs.symm, Nat.or_lt_two_pow h1 hp, fun r hr => ?_⟩
    rw [Nat.testBit_or, h2 r hr, Nat.testBit_two_pow]
    congr 1
    by_cases e2 : q = r
    · subst e2; simp
    · rw [decide_eq_false e2, decide_eq_false (by omega)]
  · rw [if_neg e] at hs
    refine ⟨a, by rw [← hs]; exact e1, h1, fun r hr => ?_⟩
    show a.testBit r = (P (32 * i + r) || decide (32 * k + q = 32 * i + r))
    rw [h2 r hr, decide_eq_false (by omega), Bool.or_false]
theorem behind_ex (q : Nat → Bool) : ∀ n, n ≤ 62 → ∃ x, IsBits x (behind q n)
  | 0, _ => ⟨0, behind_zero q⟩
  | n + 1, h => by
    obtain ⟨x, hx⟩ := behind_ex q n (by omega)
    cases e : q n with
    | true => exact ⟨_, behind_yes hx (by omega) e⟩
    | false => exact ⟨_, behind_no hx e⟩
theorem and_word64 {y : Nat} (h : y < 18446744073709551616) : bits .and .u64 (y : Int) 4294967295 = ((y % 4294967296 : Nat) : Int) := by
  have h2 := and64 (a := y) (b := 4294967295) h (by omega)
  rw [show (4294967295 : Nat) = 2 ^ 32 - 1 from by decide, Nat.and_two_pow_sub_one_eq_mod] at h2
  exact h2
end Go.Proofs.Ytbdjjggaahjjpaa
namespace Go.Proofs.Ytbdjjggaahjjpaa
open Go.RowKit

theorem wraps_i63 (n : Int) (h₀ : 0 ≤ n) (h₁ : n < 2 ^ 63) : IntKind.i64.wrap n = n := by rw [IntKind.wrap_i64]; omega
theorem up_lt {a u : Nat} (ha : a < 2 ^ 32) (hu : u < 32) : a * 2 ^ u < 2 ^ 63 := by
  have h1 : 2 ^ u ≤ 2 ^ 31 := Nat.pow_le_pow_right (by decide) (by omega)
  have h2 : a * 2 ^ u ≤ a * 2 ^ 31 := Nat.mul_le_mul_left _ h1
  omega
theorem up_wrap {a u : Nat} (ha : a < 2 ^ 32) (hu : u < 32) : wrap64 ((a : Int) * 2 ^ u) = ((a * 2 ^ u : Nat) : Int) := by
  have h := up_lt ha hu
  have e : (a : Int) * 2 ^ u = ((a * 2 ^ u : Nat) : Int) := by simp
  rw [e]
  unfold wrap64
  omega
theorem and_full {y : Nat} (h : y < 2 ^ 63) : bits .and .i64 (y : Int) 4294967295 = ((y % 4294967296 : Nat) : Int) := by
  have h2 := (bits_nat .i64 63 (by decide) wraps_i63 y 4294967295 h (by decide)).1
  rw [show (4294967295 : Nat) = 2 ^ 32 - 1 from by decide, Nat.and_two_pow_sub_one_eq_mod] at h2
  exact h2
theorem or_words {a b : Nat} (ha : a < 2 ^ 32) (hb : b < 2 ^ 32) : bits .or .i64 (a : Int) (b : Int) = ((a ||| b : Nat) : Int) := (bits_nat .i64 32 (by decide) wraps_i64w a b ha hb).2
theorem lo_lt (y : Nat) : y % 4294967296 < 2 ^ 32 := by
  have h := Nat.mod_lt y (show 0 < 4294967296 by decide)
  omega
theorem hi_lt {y : Nat} (h : y < 2 ^ 63) : y / 4294967296 < 2 ^ 32 := by omega
/-- One word is put into another. -/
theorem VecIs.orW {f : Nat → Int} {P : Nat → Bool} {N k x : Nat} (h : VecIs f P N) (hx : x < 2 ^ 32) : VecIs (fun i => if i = k then bits .or .i64 (f k) (x : Int) else f i) (fun j => P j || (decide (j / 32 = k) && x.testBit (j % 32))) N := fun i hi => by
  obtain ⟨a, e1, h1, h2⟩ := h i hi
  by_cases e : i = k
  · subst e
    refine ⟨a ||| x, by show (if i = i then _ else _) = _; rw [if_pos rfl, e1, or_words h1 hx], Nat.or_lt_two_pow h1 hx, fun q hq => ?_⟩
    show _ = (P (32 * i + q) || (decide ((32 * i + q) / 32 = i) && x.testBit ((32 * i + q) % 32)))
    rw [Nat.testBit_or, h2 q hq, decide_eq_true (show (32 * i + q) / 32 = i by omega), Bool.true_and, show (32 * i + q) % 32 = q by omega]
  · simp only [if_neg e]
    refine ⟨a, e1, h1, fun q hq => ?_⟩
    show _ = (P (32 * i + q) || (decide ((32 * i + q) / 32 = k) && x.testBit ((32 * i + q) % 32)))
    rw [decide_eq_false (show ¬ (32 * i + q) / 32 = k by omega), Bool.false_and, Bool.or_false]
    exact h2 q hq
/-- What is laid of the first words. -/
def layW (P R : Nat → Bool) (at0 i : Nat) : Nat → Bool := fun j => P j || (decide (at0 ≤ j ∧ j < at0 + 32 * i) && R (j - at0))
theorem layW_zero (P R : Nat → Bool) (at0 : Nat) : ∀ j, layW P R at0 0 j = P j := fun j => by
  unfold layW
  rw [decide_eq_false (by omega)]
  simp
theorem layW_step {P R : Nat → Bool} {o u i a : Nat} (hu : u < 32) (ha : a < 2 ^ 32) (hR : ∀ q, q < 32 → a.testBit q = R (32 * i + q)) : ∀ j,
    layW P R (32 * o + u) (i + 1) j = ((layW P R (32 * o + u) i j || (decide (j / 32 = o + i) && (a * 2 ^ u % 4294967296).testBit (j % 32))) || (decide (j / 32 = o + i + 1) && (a * 2 ^ u / 4294967296).testBit (j % 32))) := fun j => by
  have hlow : ∀ q, q < 32 → (a * 2 ^ u % 4294967296).testBit q = (decide (u ≤ q) && a.testBit (q - u)) := fun q hq => by
    rw [show (4294967296 : Nat) = 2 ^ 32 from by decide, Nat.testBit_mod_two_pow, decide_eq_true hq, Bool.true_and, ← Nat.shiftLeft_eq, Nat.testBit_shiftLeft]
  have hhigh : ∀ q, (a * 2 ^ u / 4294967296).testBit q = a.testBit (q + 32 - u) := fun q => by
    rw [show (4294967296 : Nat) = 2 ^ 32 from by decide, Nat.testBit_div_two_pow, ← Nat.shiftLeft_eq, Nat.testBit_shiftLeft, decide_eq_true (by omega), Bool.true_and]
    all_goals first | rfl | (congr 1; omega)
  unfold layW
  by_cases h1 : j / 32 = o + i
  · rw [decide_eq_true h1, decide_eq_false (show ¬ j / 32 = o + i + 1 by omega), Bool.true_and, Bool.false_and, Bool.or_false, hlow _ (Nat.mod_lt _ (by decide))]
    by_cases h2 : u ≤ j % 32
    · rw [decide_eq_true h2, Bool.true_and, decide_eq_true (show 32 * o + u ≤ j ∧ j < 32 * o + u + 32 * (i + 1) by omega), decide_eq_false (show ¬ (32 * o + u ≤ j ∧ j < 32 * o + u + 32 * i) by omega), Bool.true_and, Bool.false_and, Bool.or_false]
      rw [hR (j % 32 - u) (by omega)]
      congr 2
      omega
    · rw [decide_eq_false h2, Bool.false_and, Bool.or_false]
      congr 2
      rw [decide_eq_decide]
      omega
  · rw [decide_eq_false h1, Bool.false_and, Bool.or_false]
    by_cases h3 : j / 32 = o + i + 1
    · rw [decide_eq_true h3, Bool.true_and, hhigh]
      by_cases h2 : j % 32 < u
      · rw [decide_eq_true (show 32 * o + u ≤ j ∧ j < 32 * o + u + 32 * (i + 1) by omega), decide_eq_false (show ¬ (32 * o + u ≤ j ∧ j < 32 * o + u + 32 * i) by omega), Bool.true_and, Bool.false_and, Bool.or_false]
        rw [hR (j % 32 + 32 - u) (by omega)]
        congr 2
        omega
      · rw [Nat.testBit_lt_two_pow (Nat.lt_of_lt_of_le ha (Nat.pow_le_pow_right (by decide) (by omega))), Bool.or_false]
        congr 2
        rw [decide_eq_decide]
        omega
    · rw [decide_eq_false h3, Bool.false_and, Bool.or_false]
      congr 2
      rw [decide_eq_decide]
      omega
/-- What goes over is nothing, where the bits end. -/
theorem high_zero {a u i L : Nat} {R : Nat → Bool} (hu : u < 32) (hR : ∀ q, q < 32 → a.testBit q = R (32 * i + q)) (ha : a < 2 ^ 32) (hend : ∀ q, R q = true → q + u < 32 * L) (hi : L ≤ i + 1) : a * 2 ^ u / 4294967296 = 0 := by
  apply Nat.eq_of_testBit_eq
  intro q
  rw [Nat.zero_testBit, show (4294967296 : Nat) = 2 ^ 32 from by decide, Nat.testBit_div_two_pow, ← Nat.shiftLeft_eq, Nat.testBit_shiftLeft]
  by_cases h : q + 32 - u < 32
  · have h1 := hR (q + 32 - u) h
    cases hb : R (32 * i + (q + 32 - u)) with
    | false =>
      rw [hb] at h1
      have e : 32 + q - u = q + 32 - u := by omega
      simp at h1 ⊢
      intro _
      first | exact h1 | (rw [← e] at h1; exact h1)
    | true =>
      have := hend _ hb
      omega
  · rw [show (q + 32 - u) = (q + 32 - u) from rfl]
    have : a.testBit (q + 32 - u) = false := Nat.testBit_lt_two_pow (Nat.lt_of_lt_of_le ha (Nat.pow_le_pow_right (by decide) (by omega)))
    simp at this ⊢
    intro _
    exact this
end Go.Proofs.Ytbdjjggaahjjpaa
