/- What is said here: places of a row as bits of one number, as plain mathematics. -/
import Derived.Test.YtbdjjggaahjjpaaQSet64M
import Derived.Test.YtbdjjggaahjjpaaQClassMToAtPM
namespace Go.Proofs.Ytbdjjggaahjjpaa

/-- A number whose bits are told. -/
structure IsBits (b : Nat) (P : Nat → Bool) : Prop where
  lt : b < 18446744073709551616
  bit : ∀ j, b.testBit j = P j
theorem IsBits.congr {b : Nat} {P Q : Nat → Bool} (h : IsBits b P) (e : ∀ j, P j = Q j) : IsBits b Q := ⟨h.lt, fun j => (h.bit j).trans (e j)⟩
theorem IsBits.uniq {a b : Nat} {P : Nat → Bool} (h : IsBits a P) (h' : IsBits b P) : a = b := Nat.eq_of_testBit_eq (fun j => (h.bit j).trans (h'.bit j).symm)
theorem bits_zero : IsBits 0 (fun _ => false) := ⟨by omega, fun j => by simp⟩
theorem bits_pow {k : Nat} (h : k < 64) : IsBits (2 ^ k) (fun j => decide (k = j)) := ⟨pow_lt64 h, fun j => by rw [Nat.testBit_two_pow]⟩
theorem IsBits.or {a b : Nat} {P Q : Nat → Bool} (h : IsBits a P) (h' : IsBits b Q) : IsBits (a ||| b) (fun j => P j || Q j) := ⟨or_lt64 h.lt h'.lt, fun j => by rw [Nat.testBit_or, h.bit, h'.bit]⟩
theorem IsBits.and {a b : Nat} {P Q : Nat → Bool} (h : IsBits a P) (h' : IsBits b Q) : IsBits (a &&& b) (fun j => P j && Q j) := ⟨and_lt64 h.lt, fun j => by rw [Nat.testBit_and, h.bit, h'.bit]⟩
theorem IsBits.none {b : Nat} {P : Nat → Bool} (h : IsBits b P) : b = 0 ↔ ∀ j, P j = false := by
  constructor
  · rintro rfl j
    rw [← h.bit j]
    simp
  · intro h2
    apply Nat.eq_of_testBit_eq
    intro j
    rw [h.bit, h2]
    simp
/-- The places behind the first k cells of which something holds. -/
def behind (q : Nat → Bool) (k : Nat) : Nat → Bool := fun j => decide (1 ≤ j ∧ j ≤ k) && q (j - 1)
theorem behind_zero (q : Nat → Bool) : IsBits 0 (behind q 0) := bits_zero.congr (fun j => by unfold behind; rw [decide_eq_false (by omega)]; rfl)
theorem behind_yes {q : Nat → Bool} {k b : Nat} (h : IsBits b (behind q k)) (hk : k < 63) (hq : q k = true) : IsBits (b ||| 2 ^ (k + 1)) (behind q (k + 1)) :=
  (h.or (bits_pow (by omega))).congr (fun j => by
    unfold behind
    by_cases e : k + 1 = j
    · subst e
      simp [hq]
    · rw [decide_eq_false e, Bool.or_false]
      by_cases e2 : 1 ≤ j ∧ j ≤ k
      · rw [decide_eq_true e2, decide_eq_true (show 1 ≤ j ∧ j ≤ k + 1 by omega)]
      · rw [decide_eq_false e2, decide_eq_false (show ¬ (1 ≤ j ∧ j ≤ k + 1) by omega)])
theorem behind_no {q : Nat → Bool} {k b : Nat} (h : IsBits b (behind q k)) (hq : q k = false) : IsBits b (behind q (k + 1)) :=
  h.congr (fun j => by
    unfold behind
    by_cases e : k + 1 = j
    · subst e
      simp [hq]
    · by_cases e2 : 1 ≤ j ∧ j ≤ k
      · rw [decide_eq_true e2, decide_eq_true (show 1 ≤ j ∧ j ≤ k + 1 by omega)]
      · rw [decide_eq_false e2, decide_eq_false (show ¬ (1 ≤ j ∧ j ≤ k + 1) by omega)])
end Go.Proofs.Ytbdjjggaahjjpaa
