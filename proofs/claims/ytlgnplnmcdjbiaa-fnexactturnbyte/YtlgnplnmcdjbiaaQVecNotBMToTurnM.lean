/- What is said here: the words of all bits turned, as plain mathematics.
   What is said here: plain cells that are gone along by turned bits, as plain mathematics: the bits behind each byte, the ends, and that none is left behind a byte that leaves nothing passed, when less is left than there are cells. -/
import Derived.Test.YtlgnplnmcdjbiaaQStepVM
import Derived.Test.YtlgnplnmcdjbiaaQClassMToVecIsM
namespace Go.Proofs.Ytlgnplnmcdjbiaa
open Go.RowKit

theorem VecIs.notC {f : Nat → Int} {P : Nat → Bool} {n m : Nat} (hm : m = (n + 1 + 31) / 32) (h : VecIs f P m) : VecIs (cutF ((n : Int) + 1) m (notF f)) (fun j => decide (j ≤ n) && !P j) m := fun i hi => by
  obtain ⟨a, e1, h1, h2⟩ := h i hi
  have hs : notF f i = ((4294967295 - a : Nat) : Int) := by
    unfold notF
    rw [e1]
    omega
  have hsb : ∀ q, q < 32 → (4294967295 - a).testBit q = !P (32 * i + q) := fun q hq => by
    have hb : (2 ^ 32 - (a + 1)).testBit q = (decide (q < 32) && !a.testBit q) := Nat.testBit_two_pow_sub_succ h1 q
    rw [decide_eq_true hq, Bool.true_and, h2 q hq] at hb
    rw [← hb]
    congr 1
    have : (2 : Nat) ^ 32 = 4294967296 := by decide
    omega
  have hzl : 4294967295 - a < 4294967296 := by omega
  generalize 4294967295 - a = z at *
  unfold cutF
  by_cases hl : i + 1 = m ∧ 0 < ((n : Int) + 1) % 32
  · rw [if_pos hl, hs]
    obtain ⟨r, hr⟩ : ∃ r, (n + 1) % 32 = r := ⟨_, rfl⟩
    have hr2 : (((n : Int) + 1) % 32).toNat = r := by omega
    rw [hr2]
    refine ⟨z % 2 ^ r, by simp, Nat.lt_of_le_of_lt (Nat.mod_le _ _) hzl, fun q hq => ?_⟩
    rw [Nat.testBit_mod_two_pow, hsb q hq]
    show _ = (decide (32 * i + q ≤ n) && !P (32 * i + q))
    congr 1
    simp only [decide_eq_decide]
    omega
  · rw [if_neg hl, hs]
    refine ⟨z, rfl, hzl, fun q hq => ?_⟩
    rw [hsb q hq]
    show _ = (decide (32 * i + q ≤ n) && !P (32 * i + q))
    rw [decide_eq_true (show 32 * i + q ≤ n by omega), Bool.true_and]
end Go.Proofs.Ytlgnplnmcdjbiaa
namespace Go.Proofs.Ytlgnplnmcdjbiaa

/-- All bits of a row. -/
def allB (n : Nat) : Nat → Bool := fun j => decide (j < n)
/-- The bits of the cells that lack a byte. -/
def lackB (f : Nat → Cel) (n c : Nat) : Nat → Bool := fun j => decide (j < n) && !hasByte (f j).c c
/-- The turned bits behind a byte. -/
def turnB (f : Nat → Cel) (n : Nat) (T : Nat → Bool) (c : Nat) : Nat → Bool := fun j => (decide (1 ≤ j ∧ j < n) && T (j - 1)) || lackB f n c j
theorem turn_le (f : Nat → Cel) (n : Nat) (T : Nat → Bool) (c : Nat) : ∀ j, n ≤ j → turnB f n T c j = false := fun j h => by
  unfold turnB lackB
  rw [decide_eq_false (by omega), decide_eq_false (by omega)]
  rfl
/-- A text's byte. -/
def byteT (t : ByteArray) (k : Nat) : Nat := if h : k < t.size then t[k].toNat else 0
theorem byteT_at {t : ByteArray} {k : Nat} (h : k < t.size) : byteT t k = t[k].toNat := by unfold byteT; rw [dif_pos h]
/-- The turned bits behind so many bytes. -/
def turnS (f : Nat → Cel) (n : Nat) (t : ByteArray) : Nat → Nat → Bool
  | 0 => allB n
  | k + 1 => turnB f n (turnS f n t k) (byteT t k)
theorem turnS_le (f : Nat → Cel) (n : Nat) (t : ByteArray) : ∀ k j, n ≤ j → turnS f n t k j = false
  | 0, j, h => decide_eq_false (by omega)
  | k + 1, j, h => turn_le f n _ _ j h
/-- Is there a hit behind so many bytes? -/
def hitT (f : Nat → Cel) (n : Nat) (t : ByteArray) : Nat → Bool
  | 0 => false
  | k + 1 => !turnS f n t (k + 1) (n - 1)
/-- The ends. -/
def turnL (f : Nat → Cel) (n : Nat) (t : ByteArray) : List Int := classL (hitT f n t) (t.size + 1)
theorem turn_stays {f : Nat → Cel} {n : Nat} {t : ByteArray} {k : Nat} (h : ∀ j, turnS f n t k j = allB n j) : ∀ d j, d ≤ j → j < n → turnS f n t (k + d) j = true
  | 0, j, _, hj => by rw [Nat.add_zero, h]; exact decide_eq_true hj
  | d + 1, j, hd, hj => by
    show turnB f n (turnS f n t (k + d)) (byteT t (k + d)) j = true
    unfold turnB
    rw [decide_eq_true (show 1 ≤ j ∧ j < n by omega), turn_stays h d (j - 1) (by omega) (by omega)]
    rfl
/-- Behind a byte that leaves nothing passed there is no end, when less is left than there are cells. -/
theorem turn_early {f : Nat → Cel} {n : Nat} {t : ByteArray} {k : Nat} (h : ∀ j, turnS f n t k j = allB n j) (hk : k ≤ t.size) (hl : t.size - k < n) : classL (hitT f n t) (k + 1) = turnL f n t := by
  have e : ∀ d, d ≤ t.size - k → classL (hitT f n t) (k + d + 1) = classL (hitT f n t) (k + 1) := fun d => by
    induction d with
    | zero => intro _; rfl
    | succ d ih =>
      intro hd
      rw [show k + (d + 1) + 1 = (k + d + 1) + 1 by omega, classL_no, ih (by omega)]
      show (!turnS f n t (k + (d + 1)) (n - 1)) = false
      rw [turn_stays h (d + 1) (n - 1) (by omega) (by omega)]
      rfl
  have := e (t.size - k) (Nat.le_refl _)
  rw [show k + (t.size - k) + 1 = t.size + 1 by omega] at this
  exact this.symm
theorem bits_all {n : Nat} (h : n ≤ 63) : IsBits (2 ^ n - 1) (allB n) := ⟨by have := pow_lt64 (k := n) (by omega); omega, fun j => by rw [Nat.testBit_two_pow_sub_one]; rfl⟩
theorem all_le (n : Nat) : ∀ j, n ≤ j → allB n j = false := fun j h => decide_eq_false (by omega)
/-- A step by numbers. -/
theorem bits_turn {f : Nat → Cel} {n x y : Nat} {T : Nat → Bool} {c : Nat} (hn : n ≤ 62) (hx : IsBits x T) (hT : ∀ j, n ≤ j → T j = false) (hy : IsBits y (lackB f n c)) : IsBits ((x * 2 ||| y) &&& (2 ^ n - 1)) (turnB f n T c) :=
  (((bits_shl hx (fun j hj => hT j (by omega))).or hy).and (bits_all (by omega))).congr (fun j => by
    unfold turnB lackB allB
    by_cases h1 : 1 ≤ j <;> by_cases h2 : j < n <;> simp [h1, h2])
theorem hit_turn {n x : Nat} {T : Nat → Bool} (hn : 1 ≤ n) (hx : IsBits x T) (hT : ∀ j, n ≤ j → T j = false) : x / 2 ^ (n - 1) = if T (n - 1) = true then 1 else 0 := by
  apply Nat.eq_of_testBit_eq
  intro j
  rw [Nat.testBit_div_two_pow, hx.bit]
  cases j with
  | zero =>
    rw [Nat.zero_add]
    cases T (n - 1) <;> rfl
  | succ j =>
    rw [hT _ (by omega)]
    cases T (n - 1) <;> simp [Nat.testBit_succ]
theorem all_turn {n x : Nat} {T : Nat → Bool} (hn : n ≤ 62) (hx : IsBits x T) : x = 2 ^ n - 1 ↔ ∀ j, T j = allB n j := by
  constructor
  · rintro rfl j
    rw [← hx.bit, ← (bits_all (show n ≤ 63 by omega)).bit]
  · intro h
    exact hx.uniq ((bits_all (by omega)).congr (fun j => (h j).symm))
end Go.Proofs.Ytlgnplnmcdjbiaa
