/- What is said here: right rows of cells, as plain mathematics.
   What is said here: places of a row as bits of one number, as plain mathematics.
   What is said here: places that are closed, and passed by a byte, as plain mathematics. -/
import Derived.Test.YtbdjjggaahjjpaaQCellD
import Derived.Test.YtbdjjggaahjjpaaQClassM
import Derived.Test.YtbdjjggaahjjpaaQSet64M
namespace Go.Proofs.Ytbdjjggaahjjpaa
open Go.RowKit

/-- A cell is right. -/
def CellOk (a : Cel) : Prop := RightC a.c ∧ 0 < a.c.size
/-- A row of cells is right. -/
def CellsOk (n : Nat) (f : Nat → Cel) : Prop := 1 ≤ n ∧ n ≤ 60 ∧ ∀ i, i < n → CellOk (f i)
theorem stepCell {f : Nat → Cel} {k : Nat} (h : ∀ i, i < k → CellOk (f i)) (hk : CellOk (f k)) : ∀ i, i < k + 1 → CellOk (f i) := fun i hi => by
  by_cases e : i = k
  · rw [e]; exact hk
  · exact h i (by omega)
theorem emptyC {c : ByteArray} (h : ¬ 0 < c.size) : c = ⟨#[]⟩ := by
  apply ByteArray.ext
  have : c.data.size = 0 := by have : c.size = c.data.size := rfl; omega
  exact Array.size_eq_zero_iff.1 this
theorem someC {c : ByteArray} (h : 0 < c.size) : (¬ c.toList = []) ∧ c.toList.isEmpty = false := by
  rw [ByteArray.toList_eq]
  have h2 : c.data.toList ≠ [] := by
    intro e
    have : c.data.toList.length = c.size := by simp
    rw [e] at this
    simp at this
    omega
  exact ⟨h2, by simpa using h2⟩
theorem noneC {c : ByteArray} (h : ¬ 0 < c.size) : c.toList = [] ∧ c.toList.isEmpty = true := by
  rw [emptyC h, ByteArray.toList_eq]
  exact ⟨rfl, rfl⟩
end Go.Proofs.Ytbdjjggaahjjpaa
namespace Go.Proofs.Ytbdjjggaahjjpaa

/-- A number whose bits are told. -/
structure IsBits (b : Nat) (P : Nat → Bool) : Prop where
  lt : b < 18446744073709551616
  bit : ∀ j, b.testBit j = P j
theorem IsBits.congr {b : Nat} {P Q : Nat → Bool} (h : IsBits b P) (e : ∀ j, P j = Q j) : IsBits b Q := ⟨h.lt, fun j => (h.bit j).trans (e j)⟩
theorem IsBits.uniq {a b : Nat} {P : Nat → Bool} (h : IsBits a P) (h' : IsBits b P) : a = b := Nat.eq_of_testBit_eq (fun j => (h.bit j).trans (h'.bit j).symm)
theorem bits_zero : IsBits 0 (fun _ => false) := ⟨by omega, fun j => by simp⟩
theorem bits_pow {k : Nat} (h : k < 64) : IsBits (2 ^ k) (fun j => decide (k = j)) := ⟨pow_lt64 h, fun j => by rw [Nat.testBit_two_pow]⟩
theorem IsBits.or {a b : Nat} {P Q : Nat → Bool} (h : IsBits a P) (h' : IsBits b Q) : IsBits (a ||| b) (fun j => P j || Q j) := ⟨or_lt64 h.lt h'.lt, fun j => by rw [Nat.testBit_or, h.bit, h'.bit]⟩
theorem IsBits.and {a b : Nat} {P Q : Nat → Bool} (h : IsBits a P) (h' : IsBits b Q) : IsBits (a &&& b) (fun j => P j && Q j) := ⟨and_lt64 h.lt, fun j => by rw [Nat.testBit_and, h.bit, h'.bit]⟩
theorem IsBits.none {b : Nat} {P : Nat → Bool} (h : IsBits b P) : b = 0 ↔ ∀ j, P j = false := by
  constructor
  · rintro rfl j
    rw [← h.bit j]
    simp
  · intro h2
    apply Nat.eq_of_testBit_eq
    intro j
    rw [h.bit, h2]
    simp
/-- The places behind the first k cells of which something holds. -/
def behind (q : Nat → Bool) (k : Nat) : Nat → Bool := fun j => decide (1 ≤ j ∧ j ≤ k) && q (j - 1)
theorem behind_zero (q : Nat → Bool) : IsBits 0 (behind q 0) := bits_zero.congr (fun j => by unfold behind; rw [decide_eq_false (by omega)]; rfl)
theorem behind_yes {q : Nat → Bool} {k b : Nat} (h : IsBits b (behind q k)) (hk : k < 63) (hq : q k = true) : IsBits (b ||| 2 ^ (k + 1)) (behind q (k + 1)) :=
  (h.or (bits_pow (by omega))).congr (fun j => by
    unfold behind
    by_cases e : k + 1 = j
    · subst e
      simp [hq]
    · rw [decide_eq_false e, Bool.or_false]
      by_cases e2 : 1 ≤ j ∧ j ≤ k
      · rw [decide_eq_true e2, decide_eq_true (show 1 ≤ j ∧ j ≤ k + 1 by omega)]
      · rw [decide_eq_false e2, decide_eq_false (show ¬ (1 ≤ j ∧ j ≤ k + 1) by omega)])
theorem behind_no {q : Nat → Bool} {k b : Nat} (h : IsBits b (behind q k)) (hq : q k = false) : IsBits b (behind q (k + 1)) :=
  h.congr (fun j => by
    unfold behind
    by_cases e : k + 1 = j
    · subst e
      simp [hq]
    · by_cases e2 : 1 ≤ j ∧ j ≤ k
      · rw [decide_eq_true e2, decide_eq_true (show 1 ≤ j ∧ j ≤ k + 1 by omega)]
      · rw [decide_eq_false e2, decide_eq_false (show ¬ (1 ≤ j ∧ j ≤ k + 1) by omega)])
end Go.Proofs.Ytbdjjggaahjjpaa
namespace Go.Proofs.Ytbdjjggaahjjpaa

/-- Places, closed: to each one whose next cell may be passed by the place behind that. -/
def cloB (S P : Nat → Bool) : Nat → Bool
  | 0 => P 0
  | j + 1 => P (j + 1) || (S (j + 1) && cloB S P j)
theorem cloB_congr {S P Q : Nat → Bool} (h : ∀ j, P j = Q j) : ∀ j, cloB S P j = cloB S Q j
  | 0 => h 0
  | j + 1 => by unfold cloB; rw [h, cloB_congr h j]
theorem cloB_of {S P : Nat → Bool} : ∀ {j}, P j = true → cloB S P j = true
  | 0, h => h
  | j + 1, h => by unfold cloB; rw [h]; rfl
theorem cloB_none {S P : Nat → Bool} (h : ∀ j, P j = false) : ∀ j, cloB S P j = false
  | 0 => h 0
  | j + 1 => by unfold cloB; rw [h, cloB_none h j]; simp
/-- What has the places, has no more than belongs to them, and is closed, is what is closed. -/
theorem clo_done {S P A : Nat → Bool} (h1 : ∀ j, P j = true → A j = true) (h2 : ∀ j, A j = true → cloB S P j = true) (h3 : ∀ j, A j = true → S (j + 1) = true → A (j + 1) = true) : ∀ j, A j = cloB S P j := by
  have h4 : ∀ j, cloB S P j = true → A j = true := by
    intro j
    induction j with
    | zero => exact h1 0
    | succ j ih =>
      intro h
      unfold cloB at h
      rw [Bool.or_eq_true, Bool.and_eq_true] at h
      rcases h with h | ⟨h, h'⟩
      · exact h1 _ h
      · exact h3 j (ih h') h
  intro j
  cases ha : A j with
  | true => exact (h2 j ha).symm
  | false => cases hb : cloB S P j with
    | true => rw [h4 j hb] at ha; cases ha
    | false => rfl
theorem clo_le {S P : Nat → Bool} {n : Nat} (hS : ∀ j, n < j → S j = false) (hP : ∀ j, n < j → P j = false) : ∀ j, n < j → cloB S P j = false
  | 0, h => by omega
  | j + 1, h => by unfold cloB; rw [hP _ h, hS _ h]; rfl
theorem behind_le (q : Nat → Bool) (n : Nat) : ∀ j, n < j → behind q n j = false := fun j h => by unfold behind; rw [decide_eq_false (by omega)]; rfl
theorem behind_at (q : Nat → Bool) {n i : Nat} (h : i < n) : behind q n (i + 1) = q i := by unfold behind; rw [decide_eq_true (show 1 ≤ i + 1 ∧ i + 1 ≤ n by omega)]; simp
/-- The places to which one comes by a byte. -/
def passB (f : Nat → Cel) (n : Nat) (A : Nat → Bool) (c : Nat) : Nat → Bool := fun j => behind (fun i => hasByte (f i).c c) n j && (A (j - 1) || (A j && behind (fun i => (f i).o) n j))
/-- The places behind so many bytes. -/
def runB (f : Nat → Cel) (n : Nat) (t : ByteArray) : Nat → Nat → Bool
  | 0 => cloB (behind (fun i => (f i).k) n) (fun j => decide (0 = j))
  | k + 1 => cloB (behind (fun i => (f i).k) n) (passB f n (runB f n t k) (if h : k < t.size then t[k].toNat else 0))
theorem runB_le (f : Nat → Cel) (n : Nat) (t : ByteArray) : ∀ k j, n < j → runB f n t k j = false
  | 0, j, h => clo_le (behind_le _ n) (fun j hj => decide_eq_false (by omega)) j h
  | k + 1, j, h => clo_le (behind_le _ n) (fun j hj => by unfold passB; rw [behind_le _ n j hj]; rfl) j h
theorem runB_none {f : Nat → Cel} {n : Nat} {t : ByteArray} {k : Nat} (h : ∀ j, runB f n t k j = false) : ∀ d j, runB f n t (k + d) j = false
  | 0, j => h j
  | d + 1, j => by
    have e := runB_none h d
    show cloB (behind (fun i => (f i).k) n) (passB f n (runB f n t (k + d)) (if h : k + d < t.size then t[k + d].toNat else 0)) j = false
    exact cloB_none (fun j => by unfold passB; rw [e (j - 1), e j]; simp) j
theorem lt_pow_of {a n : Nat} {P : Nat → Bool} (h : IsBits a P) (hP : ∀ j, n < j → P j = false) : a < 2 ^ (n + 1) := by
  apply Nat.lt_pow_two_of_testBit
  intro j hj
  rw [h.bit, hP j (by omega)]
theorem bits_shl {a : Nat} {P : Nat → Bool} (h : IsBits a P) (hP : ∀ j, 62 < j → P j = false) : IsBits (a * 2) (fun j => decide (1 ≤ j) && P (j - 1)) := by
  have hl := lt_pow_of h hP
  refine ⟨by omega, fun j => ?_⟩
  cases j with
  | zero => simp
  | succ j =>
    rw [Nat.testBit_succ, Nat.mul_div_cancel _ (by omega), h.bit]
    simp
theorem bits_andNot {a b : Nat} {P Q : Nat → Bool} (h : IsBits a P) (h' : IsBits b Q) : IsBits (a ^^^ (a &&& b)) (fun j => P j && !Q j) :=
  ⟨Nat.xor_lt_two_pow (n := 64) h.lt (and_lt64 h.lt), fun j => by
    rw [Nat.testBit_xor, Nat.testBit_and, h.bit, h'.bit]
    cases P j <;> cases Q j <;> rfl⟩
theorem andNot64 {a b : Nat} (ha : a < 18446744073709551616) : bits .andNot .u64 (a : Int) (b : Int) = ((a ^^^ (a &&& b) : Nat) : Int) := by
  have hv : (BitVec.ofInt 64 (a : Int) &&& ~~~BitVec.ofInt 64 (b : Int)).toNat = a ^^^ (a &&& b) := by
    apply Nat.eq_of_testBit_eq
    intro i
    rw [← BitVec.getLsbD, BitVec.getLsbD_and, BitVec.getLsbD_not, Nat.testBit_xor, Nat.testBit_and, BitVec.ofInt_natCast, BitVec.ofInt_natCast, BitVec.getLsbD_ofNat, BitVec.getLsbD_ofNat]
    by_cases hi : i < 64
    · simp [hi]
      cases a.testBit i <;> cases b.testBit i <;> rfl
    · have h1 : a.testBit i = false := Nat.testBit_lt_two_pow (Nat.lt_of_lt_of_le ha (show 2 ^ 64 ≤ 2 ^ i from Nat.pow_le_pow_right (by decide) (by omega)))
      simp [hi, h1]
  show IntKind.u64.wrap ((BitVec.ofInt 64 (a : Int) &&& ~~~BitVec.ofInt 64 (b : Int)).toNat : Int) = _
  rw [hv]
  exact wraps_u64s _ (Int.natCast_nonneg _) (by exact_mod_cast Nat.xor_lt_two_pow (n := 64) ha (and_lt64 ha))
end Go.Proofs.Ytbdjjggaahjjpaa
