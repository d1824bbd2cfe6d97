/- What is said here: places as bits of one number, and as words of 32 bits: they are the same. -/
import Derived.Test.YtbdjjggaahjjpaaQCloM
import Derived.Test.YtbdjjggaahjjpaaQSetM
namespace Go.Proofs.Ytbdjjggaahjjpaa

/-- Words whose bits are told. -/
def VecIs (f : Nat → Int) (P : Nat → Bool) (m : Nat) : Prop := ∀ i, i < m → ∃ a : Nat, f i = (a : Int) ∧ a < 2 ^ 32 ∧ ∀ q, q < 32 → a.testBit q = P (32 * i + q)
theorem VecIs.uniq {f g : Nat → Int} {P : Nat → Bool} {m : Nat} (h : VecIs f P m) (h' : VecIs g P m) : ∀ i, i < m → f i = g i := fun i hi => by
  obtain ⟨a, e1, h1, h2⟩ := h i hi
  obtain ⟨b, e2, h3, h4⟩ := h' i hi
  rw [e1, e2]
  congr 1
  apply Nat.eq_of_testBit_eq
  intro q
  by_cases hq : q < 32
  · rw [h2 q hq, h4 q hq]
  · rw [Nat.testBit_lt_two_pow (Nat.lt_of_lt_of_le h1 (Nat.pow_le_pow_right (by decide) (by omega))), Nat.testBit_lt_two_pow (Nat.lt_of_lt_of_le h3 (Nat.pow_le_pow_right (by decide) (by omega)))]
theorem VecIs.congr {f : Nat → Int} {P Q : Nat → Bool} {m : Nat} (h : VecIs f P m) (e : ∀ j, P j = Q j) : VecIs f Q m := fun i hi => by
  obtain ⟨a, e1, h1, h2⟩ := h i hi
  exact ⟨a, e1, h1, fun q hq => (h2 q hq).trans (e _)⟩
theorem vecIs_zero (m : Nat) : VecIs (fun _ => 0) (fun _ => false) m := fun i _ => ⟨0, rfl, by decide, fun q _ => by simp⟩
/-- The words of a number. -/
def wordsN (x : Nat) : Nat → Int := fun i => ((x / 2 ^ (i * 32) % 4294967296 : Nat) : Int)
theorem vecIs_words {x : Nat} {P : Nat → Bool} (h : IsBits x P) (m : Nat) : VecIs (wordsN x) P m := fun i _ => ⟨x / 2 ^ (i * 32) % 4294967296, rfl, Nat.mod_lt _ (by decide), fun q hq => by
  rw [show (4294967296 : Nat) = 2 ^ 32 from by decide, Nat.testBit_mod_two_pow, Nat.testBit_div_two_pow, h.bit]
  rw [decide_eq_true hq, Bool.true_and]
  congr 1
  omega⟩
theorem VecIs.word {f : Nat → Int} {P : Nat → Bool} {m i : Nat} (h : VecIs f P m) (hi : i < m) : Word 32 (f i) := by
  obtain ⟨a, e1, h1, _⟩ := h i hi
  rw [e1]
  exact word_of h1
theorem VecIs.set {f : Nat → Int} {P : Nat → Bool} {m k q : Nat} (h : VecIs f P m) (hk : k < m) (hq : q < 32) : VecIs (setF f k q true) (fun j => P j || decide (32 * k + q = j)) m := fun i hi => by
  obtain ⟨a, e1, h1, h2⟩ := h i hi
  have hs := set_on f k q hq (h.word hk) i
  by_cases e : i = k
  · subst e
    rw [if_pos rfl] at hs
    have hp : 2 ^ q < 2 ^ 32 := Nat.pow_lt_pow_right (by decide) hq
    rw [e1, show (2 : Int) ^ q = ((2 ^ q : Nat) : Int) by simp, (bits_nat .i64 32 (by decide) wraps_i64w a _ h1 hp).2] at hs
    refine ⟨a ||| 2 ^ q, hs.symm, Nat.or_lt_two_pow h1 hp, fun r hr => ?_⟩
    rw [Nat.testBit_or, h2 r hr, Nat.testBit_two_pow]
    congr 1
    by_cases e2 : q = r
    · subst e2; simp
    · rw [decide_eq_false e2, decide_eq_false (by omega)]
  · rw [if_neg e] at hs
    refine ⟨a, by rw [← hs]; exact e1, h1, fun r hr => ?_⟩
    show a.testBit r = (P (32 * i + r) || decide (32 * k + q = 32 * i + r))
    rw [h2 r hr, decide_eq_false (by omega), Bool.or_false]
theorem behind_ex (q : Nat → Bool) : ∀ n, n ≤ 62 → ∃ x, IsBits x (behind q n)
  | 0, _ => ⟨0, behind_zero q⟩
  | n + 1, h => by
    obtain ⟨x, hx⟩ := behind_ex q n (by omega)
    cases e : q n with
    | true => exact ⟨_, behind_yes hx (by omega) e⟩
    | false => exact ⟨_, behind_no hx e⟩
theorem and_word64 {y : Nat} (h : y < 18446744073709551616) : bits .and .u64 (y : Int) 4294967295 = ((y % 4294967296 : Nat) : Int) := by
  have h2 := and64 (a := y) (b := 4294967295) h (by omega)
  rw [show (4294967295 : Nat) = 2 ^ 32 - 1 from by decide, Nat.and_two_pow_sub_one_eq_mod] at h2
  exact h2
end Go.Proofs.Ytbdjjggaahjjpaa
