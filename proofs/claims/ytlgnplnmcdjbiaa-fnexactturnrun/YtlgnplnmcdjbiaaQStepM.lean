/- What is said here: places that are closed by one subtraction are those that are closed step by step, as plain mathematics. -/
import Derived.Test.YtlgnplnmcdjbiaaQClassMToVecIsM
namespace Go.Proofs.Ytlgnplnmcdjbiaa

/-- A number out of its first k bits. -/
def valB (P : Nat → Bool) : Nat → Nat
  | 0 => 0
  | k + 1 => valB P k + (if P k then 2 ^ k else 0)
theorem valB_lt (P : Nat → Bool) : ∀ k, valB P k < 2 ^ k
  | 0 => by simp [valB]
  | k + 1 => by
    have h := valB_lt P k
    unfold valB
    rw [Nat.pow_succ]
    split <;> omega
theorem valB_bit (P : Nat → Bool) : ∀ k j, j < k → (valB P k).testBit j = P j
  | 0, j, h => by omega
  | k + 1, j, h => by
    have hl := valB_lt P k
    unfold valB
    by_cases e : j = k
    · subst e
      cases hp : P j with
      | true => rw [if_pos rfl, Nat.add_comm, Nat.testBit_two_pow_add_eq, Nat.testBit_lt_two_pow hl]; rfl
      | false => rw [if_neg (by simp), Nat.add_zero, Nat.testBit_lt_two_pow hl]
    · have hj : j < k := by omega
      cases hp : P k with
      | true => rw [if_pos rfl, Nat.add_comm, Nat.testBit_two_pow_add_gt hj, valB_bit P k j hj]
      | false => rw [if_neg (by simp), Nat.add_zero, valB_bit P k j hj]
theorem bits_valB {P : Nat → Bool} (h : ∀ j, 64 ≤ j → P j = false) : IsBits (valB P 64) P :=
  ⟨valB_lt P 64, fun j => by
    by_cases hj : j < 64
    · exact valB_bit P 64 j hj
    · rw [Nat.testBit_lt_two_pow (Nat.lt_of_lt_of_le (valB_lt P 64) (Nat.pow_le_pow_right (by decide) (by omega))), h j (by omega)]⟩
/-- What is borrowed at a bit, when one number is taken from another. -/
def borB (D F : Nat → Bool) : Nat → Bool
  | 0 => false
  | j + 1 => (!D j && (F j || borB D F j)) || (F j && borB D F j)
theorem valB_succ (P : Nat → Bool) (k : Nat) : valB P (k + 1) = valB P k + (if P k then 2 ^ k else 0) := rfl
theorem borB_succ (D F : Nat → Bool) (j : Nat) : borB D F (j + 1) = ((!D j && (F j || borB D F j)) || (F j && borB D F j)) := rfl
theorem sub_val (D F : Nat → Bool) : ∀ k, valB D k + (if borB D F k then 2 ^ k else 0) = valB F k + valB (fun j => (D j ^^ (F j ^^ borB D F j))) k
  | 0 => by simp [valB, borB]
  | k + 1 => by
    have h := sub_val D F k
    rw [valB_succ, valB_succ, valB_succ, borB_succ, Nat.pow_succ]
    generalize valB (fun j => (D j ^^ (F j ^^ borB D F j))) k = y at *
    revert h
    cases D k <;> cases F k <;> cases borB D F k <;> simp <;> omega
theorem sub_bits {d f : Nat} {D F : Nat → Bool} (hd : IsBits d D) (hf : IsBits f F) (hb : borB D F 64 = false) (hy : ∀ j, 64 ≤ j → (D j ^^ (F j ^^ borB D F j)) = false) : f ≤ d ∧ IsBits (d - f) (fun j => (D j ^^ (F j ^^ borB D F j))) := by
  have h := sub_val D F 64
  rw [hb, if_neg (by simp), Nat.add_zero] at h
  have h1 := bits_valB hy
  have hD : IsBits (valB D 64) D := bits_valB (fun j hj => by rw [← hd.bit]; exact Nat.testBit_lt_two_pow (Nat.lt_of_lt_of_le hd.lt (show 2 ^ 64 ≤ 2 ^ j from Nat.pow_le_pow_right (by decide) hj)))
  have hF : IsBits (valB F 64) F := bits_valB (fun j hj => by rw [← hf.bit]; exact Nat.testBit_lt_two_pow (Nat.lt_of_lt_of_le hf.lt (show 2 ^ 64 ≤ 2 ^ j from Nat.pow_le_pow_right (by decide) hj)))
  rw [hD.uniq hd, hF.uniq hf] at h
  refine ⟨by omega, ?_⟩
  have e : d - f = valB (fun j => (D j ^^ (F j ^^ borB D F j))) 64 := by omega
  rw [e]
  exact h1
/-- The place ahead of a run, and the last one of a run. -/
def firstB (S : Nat → Bool) : Nat → Bool := fun j => S (j + 1) && !S j
def lastB (S : Nat → Bool) : Nat → Bool := fun j => S j && !S (j + 1)
theorem bor_in {S A : Nat → Bool} : ∀ j, borB (fun j => A j || lastB S j) (firstB S) j = true → S j = true
  | 0, h => by simp [borB] at h
  | j + 1, h => by
    have ih := bor_in (S := S) (A := A) j
    rw [borB_succ] at h
    revert ih h
    generalize borB (fun j => A j || lastB S j) (firstB S) j = z
    unfold firstB lastB
    cases S j <;> cases S (j + 1) <;> cases A j <;> cases z <;> simp
theorem bor_clo {S A : Nat → Bool} (h0 : S 0 = false) : ∀ j, cloB S A j = (A j || (S j && !borB (fun j => A j || lastB S j) (firstB S) j))
  | 0 => by simp [cloB, h0]
  | j + 1 => by
    have ih := bor_clo (S := S) (A := A) h0 j
    have hi := bor_in (S := S) (A := A) j
    rw [borB_succ, show cloB S A (j + 1) = (A (j + 1) || (S (j + 1) && cloB S A j)) from rfl, ih]
    revert hi
    generalize borB (fun j => A j || lastB S j) (firstB S) j = z
    unfold firstB lastB
    cases S j <;> cases S (j + 1) <;> cases A j <;> cases A (j + 1) <;> cases z <;> simp
/-- What is closed by one subtraction is what is closed step by step. -/
theorem clo_sub {a sk fi la n : Nat} {S A : Nat → Bool} (hn : n ≤ 62) (h0 : S 0 = false) (hS : ∀ j, n < j → S j = false) (hA : ∀ j, n < j → A j = false)
    (ha : IsBits a A) (hs : IsBits sk S) (hf : IsBits fi (firstB S)) (hl : IsBits la (lastB S)) :
    fi ≤ (a ||| la) ∧ IsBits (a ||| (sk ^^^ (sk &&& (((a ||| la) - fi) ^^^ (a ||| la))))) (cloB S A) := by
  have hd := ha.or hl
  have hb : borB (fun j => A j || lastB S j) (firstB S) 64 = false := by
    cases e : borB (fun j => A j || lastB S j) (firstB S) 64 with
    | false => rfl
    | true => have := bor_in 64 e; rw [hS 64 (by omega)] at this; cases this
  have hy : ∀ j, 64 ≤ j → ((A j || lastB S j) ^^ (firstB S j ^^ borB (fun j => A j || lastB S j) (firstB S) j)) = false := fun j hj => by
    have e1 : borB (fun j => A j || lastB S j) (firstB S) j = false := by
      cases e : borB (fun j => A j || lastB S j) (firstB S) j with
      | false => rfl
      | true => have := bor_in j e; rw [hS j (by omega)] at this; cases this
    rw [e1]
    unfold lastB firstB
    rw [hA j (by omega), hS j (by omega), hS (j + 1) (by omega)]
    rfl
  obtain ⟨h1, h2⟩ := sub_bits hd hf hb hy
  refine ⟨h1, ?_⟩
  have h3 : IsBits (((a ||| la) - fi) ^^^ (a ||| la)) (fun j => firstB S j ^^ borB (fun j => A j || lastB S j) (firstB S) j) := ⟨Nat.xor_lt_two_pow (n := 64) h2.lt hd.lt, fun j => by
    rw [Nat.testBit_xor, h2.bit, hd.bit]
    cases A j || lastB S j <;> cases firstB S j <;> cases borB (fun j => A j || lastB S j) (firstB S) j <;> rfl⟩
  refine (ha.or (bits_andNot hs h3)).congr (fun j => ?_)
  rw [bor_clo h0 j]
  congr 1
  unfold firstB
  cases hsj : S j <;> simp
end Go.Proofs.Ytlgnplnmcdjbiaa
