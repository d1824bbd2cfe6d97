/- What is said here: right rows of cells, as plain mathematics.
   What is said here: places of a row as bits of one number, as plain mathematics.
   What is said here: places that are closed, and passed by a byte, as plain mathematics.
   What is said here: places as bits of one number, and as words of 32 bits: they are the same.
   What is said here: places that are closed by one subtraction are those that are closed step by step, as plain mathematics.
   What is said here: places as words of 32 bits: put together, and moved up by one, as plain mathematics. -/
import Derived.Test.YtlgnplnmcdjbiaaQCellDToMaskD
import Derived.Test.YtlgnplnmcdjbiaaQFnVecMToSet64M
import Derived.Test.YtlgnplnmcdjbiaaQVecMToCtzM
import Derived.Test.YtlgnplnmcdjbiaaQWordsWToWordsForW
namespace Go.Proofs.Ytlgnplnmcdjbiaa
open Go.RowKit

/-- A cell is right. -/
def CellOk (a : Cel) : Prop := RightC a.c ∧ 0 < a.c.size
/-- A row of cells is right. -/
def CellsOk (n : Nat) (f : Nat → Cel) : Prop := 1 ≤ n ∧ n ≤ 60 ∧ ∀ i, i < n → CellOk (f i)
theorem stepCell {f : Nat → Cel} {k : Nat} (h : ∀ i, i < k → CellOk (f i)) (hk : CellOk (f k)) : ∀ i, i < k + 1 → CellOk (f i) := fun i hi => by
  by_cases e : i = k
  · rw [e]; exact hk
  · exact h i (by omega)
theorem emptyC {c : ByteArray} (h : ¬ 0 < c.size) : c = ⟨#[]⟩ := by
  apply ByteArray.ext
  have : c.data.size = 0 := by have : c.size = c.data.size := rfl; omega
  exact Array.size_eq_zero_iff.1 this
theorem someC {c : ByteArray} (h : 0 < c.size) : (¬ c.toList = []) ∧ c.toList.isEmpty = false := by
  rw [ByteArray.toList_eq]
  have h2 : c.data.toList ≠ [] := by
    intro e
    have : c.data.toList.length = c.size := by simp
    rw [e] at this
    simp at this
    omega
  exact ⟨h2, by simpa using h2⟩
theorem noneC {c : ByteArray} (h : ¬ 0 < c.size) : c.toList = [] ∧ c.toList.isEmpty = true := by
  rw [emptyC h, ByteArray.toList_eq]
  exact ⟨rfl, rfl⟩
end Go.Proofs.Ytlgnplnmcdjbiaa
namespace Go.Proofs.Ytlgnplnmcdjbiaa

/-- A number whose bits are told. -/
structure IsBits (b : Nat) (P : Nat → Bool) : Prop where
  lt : b < 18446744073709551616
  bit : ∀ j, b.testBit j = P j
theorem IsBits.congr {b : Nat} {P Q : Nat → Bool} (h : IsBits b P) (e : ∀ j, P j = Q j) : IsBits b Q := ⟨h.lt, fun j => (h.bit j).trans (e j)⟩
theorem IsBits.uniq {a b : Nat} {P : Nat → Bool} (h : IsBits a P) (h' : IsBits b P) : a = b := Nat.eq_of_testBit_eq (fun j => (h.bit j).trans (h'.bit j).symm)
theorem bits_zero : IsBits 0 (fun _ => false) := ⟨by omega, fun j => by simp⟩
theorem bits_pow {k : Nat} (h : k < 64) : IsBits (2 ^ k) (fun j => decide (k = j)) := ⟨pow_lt64 h, fun j => by rw [Nat.testBit_two_pow]⟩
theorem IsBits.or {a b : Nat} {P Q : Nat → Bool} (h : IsBits a P) (h' : IsBits b Q) : IsBits (a ||| b) (fun j => P j || Q j) := ⟨or_lt64 h.lt h'.lt, fun j => by rw [Nat.testBit_or, h.bit, h'.bit]⟩
theorem IsBits.and {a b : Nat} {P Q : Nat → Bool} (h : IsBits a P) (h' : IsBits b Q) : IsBits (a &&& b) (fun j => P j && Q j) := ⟨and_lt64 h.lt, fun j => by rw [Nat.testBit_and, h.bit, h'.bit]⟩
theorem IsBits.none {b : Nat} {P : Nat → Bool} (h : IsBits b P) : b = 0 ↔ ∀ j, P j = false := by
  constructor
  · rintro rfl j
    rw [← h.bit j]
    simp
  · intro h2
    apply Nat.eq_of_testBit_eq
    intro j
    rw [h.bit, h2]
    simp
/-- The places behind the first k cells of which something holds. -/
def behind (q : Nat → Bool) (k : Nat) : Nat → Bool := fun j => decide (1 ≤ j ∧ j ≤ k) && q (j - 1)
theorem behind_zero (q : Nat → Bool) : IsBits 0 (behind q 0) := bits_zero.congr (fun j => by unfold behind; rw [decide_eq_false (by omega)]; rfl)
theorem behind_yes {q : Nat → Bool} {k b : Nat} (h : IsBits b (behind q k)) (hk : k < 63) (hq : q k = true) : IsBits (b ||| 2 ^ (k + 1)) (behind q (k + 1)) :=
  (h.or (bits_pow (by omega))).congr (fun j => by
    unfold behind
    by_cases e : k + 1 = j
    · subst e
      simp [hq]
    · rw [decide_eq_false e, Bool.or_false]
      by_cases e2 : 1 ≤ j ∧ j ≤ k
      · rw [decide_eq_true e2, decide_eq_true (show 1 ≤ j ∧ j ≤ k + 1 by omega)]
      · rw [decide_eq_false e2, decide_eq_false (show ¬ (1 ≤ j ∧ j ≤ k + 1) by omega)])
theorem behind_no {q : Nat → Bool} {k b : Nat} (h : IsBits b (behind q k)) (hq : q k = false) : IsBits b (behind q (k + 1)) :=
  h.congr (fun j => by
    unfold behind
    by_cases e : k + 1 = j
    · subst e
      simp [hq]
    · by_cases e2 : 1 ≤ j ∧ j ≤ k
      · rw [decide_eq_true e2, decide_eq_true (show 1 ≤ j ∧ j ≤ k + 1 by omega)]
      · rw [decide_eq_false e2, decide_eq_false (show ¬ (1 ≤ j ∧ j ≤ k + 1) by omega)])
end Go.Proofs.Ytlgnplnmcdjbiaa
namespace Go.Proofs.Ytlgnplnmcdjbiaa

/-- Places, closed: to each one whose next cell may be passed by the place behind that. -/
def cloB (S P : Nat → Bool) : Nat → Bool
  | 0 => P 0
  | j + 1 => P (j + 1) || (S (j + 1) && cloB S P j)
theorem cloB_congr {S P Q : Nat → Bool} (h : ∀ j, P j = Q j) : ∀ j, cloB S P j = cloB S Q j
  | 0 => h 0
  | j + 1 => by unfold cloB; rw [h, cloB_congr h j]
theorem cloB_of {S P : Nat → Bool} : ∀ {j}, P j = true → cloB S P j = true
  | 0, h => h
  | j + 1, h => by unfold cloB; rw [h]; rfl
theorem cloB_none {S P : Nat → Bool} (h : ∀ j, P j = false) : ∀ j, cloB S P j = false
  | 0 => h 0
  | j + 1 => by unfold cloB; rw [h, cloB_none h j]; simp
/-- What has the places, has no more than belongs to them, and is closed, is what is closed. -/
theorem clo_done {S P A : Nat → Bool} (h1 : ∀ j, P j = true → A j = true) (h2 : ∀ j, A j = true → cloB S P j = true) (h3 : ∀ j, A j = true → S (j + 1) = true → A (j + 1) = true) : ∀ j, A j = cloB S P j := by
  have h4 : ∀ j, cloB S P j = true → A j = true := by
    intro j
    induction j with
    | zero => exact h1 0
    | succ j ih =>
      intro h
      unfold cloB at h
      rw [Bool.or_eq_true, Bool.and_eq_true] at h
      rcases h with h | ⟨h, h'⟩
      · exact h1 _ h
      · exact h3 j (ih h') h
  intro j
  cases ha : A j with
  | true => exact (h2 j ha).symm
  | false => cases hb : cloB S P j with
    | true => rw [h4 j hb] at ha; cases ha
    | false => rfl
theorem clo_le {S P : Nat → Bool} {n : Nat} (hS : ∀ j, n < j → S j = false) (hP : ∀ j, n < j → P j = false) : ∀ j, n < j → cloB S P j = false
  | 0, h => by omega
  | j + 1, h => by unfold cloB; rw [hP _ h, hS _ h]; rfl
theorem behind_le (q : Nat → Bool) (n : Nat) : ∀ j, n < j → behind q n j = false := fun j h => by unfold behind; rw [decide_eq_false (by omega)]; rfl
theorem behind_at (q : Nat → Bool) {n i : Nat} (h : i < n) : behind q n (i + 1) = q i := by unfold behind; rw [decide_eq_true (show 1 ≤ i + 1 ∧ i + 1 ≤ n by omega)]; simp
/-- The places to which one comes by a byte. -/
def passB (f : Nat → Cel) (n : Nat) (A : Nat → Bool) (c : Nat) : Nat → Bool := fun j => behind (fun i => hasByte (f i).c c) n j && (A (j - 1) || (A j && behind (fun i => (f i).o) n j))
/-- The places behind so many bytes. -/
def runB (f : Nat → Cel) (n : Nat) (t : ByteArray) : Nat → Nat → Bool
  | 0 => cloB (behind (fun i => (f i).k) n) (fun j => decide (0 = j))
  | k + 1 => cloB (behind (fun i => (f i).k) n) (passB f n (runB f n t k) (if h : k < t.size then t[k].toNat else 0))
theorem runB_le (f : Nat → Cel) (n : Nat) (t : ByteArray) : ∀ k j, n < j → runB f n t k j = false
  | 0, j, h => clo_le (behind_le _ n) (fun j hj => decide_eq_false (by omega)) j h
  | k + 1, j, h => clo_le (behind_le _ n) (fun j hj => by unfold passB; rw [behind_le _ n j hj]; rfl) j h
theorem runB_none {f : Nat → Cel} {n : Nat} {t : ByteArray} {k : Nat} (h : ∀ j, runB f n t k j = false) : ∀ d j, runB f n t (k + d) j = false
  | 0, j => h j
  | d + 1, j => by
    have e := runB_none h d
    show cloB (behind (fun i => (f i).k) n) (passB f n (runB f n t (k + d)) (if h : k + d < t.size then t[k + d].toNat else 0)) j = false
    exact cloB_none (fun j => by unfold passB; rw [e (j - 1), e j]; simp) j
theorem lt_pow_of {a n : Nat} {P : Nat → Bool} (h : IsBits a P) (hP : ∀ j, n < j → P j = false) : a < 2 ^ (n + 1) := by
  apply Nat.lt_pow_two_of_testBit
  intro j hj
  rw [h.bit, hP j (by omega)]
theorem bits_shl {a : Nat} {P : Nat → Bool} (h : IsBits a P) (hP : ∀ j, 62 < j → P j = false) : IsBits (a * 2) (fun j => decide (1 ≤ j) && P (j - 1)) := by
  have hl := lt_pow_of h hP
  refine ⟨by omega, fun j => ?_⟩
  cases j with
  | zero => simp
  | succ j =>
    rw [Nat.testBit_succ, Nat.mul_div_cancel _ (by omega), h.bit]
    simp
theorem bits_andNot {a b : Nat} {P Q : Nat → Bool} (h : IsBits a P) (h' : IsBits b Q) : IsBits (a ^^^ (a &&& b)) (fun j => P j && !Q j) :=
  ⟨Nat.xor_lt_two_pow (n := 64) h.lt (and_lt64 h.lt), fun j => by
    rw [Nat.testBit_xor, Nat.testBit_and, h.bit, h'.bit]
    cases P j <;> cases Q j <;> rfl⟩
theorem andNot64 {a b : Nat} (ha : a < 18446744073709551616) : bits .andNot .u64 (a : Int) (b : Int) = ((a ^^^ (a &&& b) : Nat) : Int) := by
  have hv : (BitVec.ofInt 64 (a : Int) &&& ~~~BitVec.ofInt 64 (b : Int)).toNat = a ^^^ (a &&& b) := by
    apply Nat.eq_of_testBit_eq
    intro i
    rw [← BitVec.getLsbD, BitVec.getLsbD_and, BitVec.getLsbD_not, Nat.testBit_xor, Nat.testBit_and, BitVec.ofInt_natCast, BitVec.ofInt_natCast, BitVec.getLsbD_ofNat, BitVec.getLsbD_ofNat]
    by_cases hi : i < 64
    · simp [hi]
      cases a.testBit i <;> cases b.testBit i <;> rfl
    · have h1 : a.testBit i = false := Nat.testBit_lt_two_pow (Nat.lt_of_lt_of_le ha (show 2 ^ 64 ≤ 2 ^ i from Nat.pow_le_pow_right (by decide) (by omega)))
      simp [hi, h1]
  show IntKind.u64.wrap ((BitVec.ofInt 64 (a : Int) &&& ~~~BitVec.ofInt 64 (b : Int)).toNat : Int) = _
  rw [hv]
  exact wraps_u64s _ (Int.natCast_nonneg _) (by exact_mod_cast Nat.xor_lt_two_pow (n := 64) ha (and_lt64 ha))
end Go.Proofs.Ytlgnplnmcdjbiaa
namespace Go.Proofs.Ytlgnplnmcdjbiaa

/-- Words whose bits are told. -/
def VecIs (f : Nat → Int) (P : Nat → Bool) (m : Nat) : Prop := ∀ i, i < m → ∃ a : Nat, f i = (a : Int) ∧ a < 2 ^ 32 ∧ ∀ q, q < 32 → a.testBit q = P (32 * i + q)
theorem VecIs.uniq {f g : Nat → Int} {P : Nat → Bool} {m : Nat} (h : VecIs f P m) (h' : VecIs g P m) : ∀ i, i < m → f i = g i := fun i hi => by
  obtain ⟨a, e1, h1, h2⟩ := h i hi
  obtain ⟨b, e2, h3, h4⟩ := h' i hi
  rw [e1, e2]
  congr 1
  apply Nat.eq_of_testBit_eq
  intro q
  by_cases hq : q < 32
  · rw [h2 q hq, h4 q hq]
  · rw [Nat.testBit_lt_two_pow (Nat.lt_of_lt_of_le h1 (Nat.pow_le_pow_right (by decide) (by omega))), Nat.testBit_lt_two_pow (Nat.lt_of_lt_of_le h3 (Nat.pow_le_pow_right (by decide) (by omega)))]
theorem VecIs.congr {f : Nat → Int} {P Q : Nat → Bool} {m : Nat} (h : VecIs f P m) (e : ∀ j, P j = Q j) : VecIs f Q m := fun i hi => by
  obtain ⟨a, e1, h1, h2⟩ := h i hi
  exact ⟨a, e1, h1, fun q hq => (h2 q hq).trans (e _)⟩
theorem vecIs_zero (m : Nat) : VecIs (fun _ => 0) (fun _ => false) m := fun i _ => ⟨0, rfl, by decide, fun q _ => by simp⟩
/-- The words of a number. -/
def wordsN (x : Nat) : Nat → Int := fun i => ((x / 2 ^ (i * 32) % 4294967296 : Nat) : Int)
theorem vecIs_words {x : Nat} {P : Nat → Bool} (h : IsBits x P) (m : Nat) : VecIs (wordsN x) P m := fun i _ => ⟨x / 2 ^ (i * 32) % 4294967296, rfl, Nat.mod_lt _ (by decide), fun q hq => by
  rw [show (4294967296 : Nat) = 2 ^ 32 from by decide, Nat.testBit_mod_two_pow, Nat.testBit_div_two_pow, h.bit]
  rw [decide_eq_true hq, Bool.true_and]
  congr 1
  omega⟩
theorem VecIs.word {f : Nat → Int} {P : Nat → Bool} {m i : Nat} (h : VecIs f P m) (hi : i < m) : Word 32 (f i) := by
  obtain ⟨a, e1, h1, _⟩ := h i hi
  rw [e1]
  exact word_of h1
theorem VecIs.set {f : Nat → Int} {P : Nat → Bool} {m k q : Nat} (h : VecIs f P m) (hk : k < m) (hq : q < 32) : VecIs (setF f k q true) (fun j => P j || decide (32 * k + q = j)) m := fun i hi => by
  obtain ⟨a, e1, h1, h2⟩ := h i hi
  have hs := set_on f k q hq (h.word hk) i
  by_cases e : i = k
  · subst e
    rw [if_pos rfl] at hs
    have hp : 2 ^ q < 2 ^ 32 := Nat.pow_lt_pow_right (by decide) hq
    rw [e1, show (2 : Int) ^ q = ((2 ^ q : Nat) : Int) by simp, (bits_nat .i64 32 (by decide) wraps_i64w a _ h1 hp).2] at hs
    refine ⟨a ||| 2 ^ q, hs.symm, Nat.or_lt_two_pow h1 hp, fun r hr => ?_⟩
    rw [Nat.testBit_or, h2 r hr, Nat.testBit_two_pow]
    congr 1
    by_cases e2 : q = r
    · subst e2; simp
    · rw [decide_eq_false e2, decide_eq_false (by omega)]
  · rw [if_neg e] at hs
    refine ⟨a, by rw [← hs]; exact e1, h1, fun r hr => ?_⟩
    show a.testBit r = (P (32 * i + r) || decide (32 * k + q = 32 * i + r))
    rw [h2 r hr, decide_eq_false (by omega), Bool.or_false]
theorem behind_ex (q : Nat → Bool) : ∀ n, n ≤ 62 → ∃ x, IsBits x (behind q n)
  | 0, _ => ⟨0, behind_zero q⟩
  | n + 1, h => by
    obtain ⟨x, hx⟩ := behind_ex q n (by omega)
    cases e : q n with
    | true => exact ⟨_, behind_yes hx (by omega) e⟩
    | false => exact ⟨_, behind_no hx e⟩
theorem and_word64 {y : Nat} (h : y < 18446744073709551616) : bits .and .u64 (y : Int) 4294967295 = ((y % 4294967296 : Nat) : Int) := by
  have h2 := and64 (a := y) (b := 4294967295) h (by omega)
  rw [show (4294967295 : Nat) = 2 ^ 32 - 1 from by decide, Nat.and_two_pow_sub_one_eq_mod] at h2
  exact h2
end Go.Proofs.Ytlgnplnmcdjbiaa
namespace Go.Proofs.Ytlgnplnmcdjbiaa

/-- A number out of its first k bits. -/
def valB (P : Nat → Bool) : Nat → Nat
  | 0 => 0
  | k + 1 => valB P k + (if P k then 2 ^ k else 0)
theorem valB_lt (P : Nat → Bool) : ∀ k, valB P k < 2 ^ k
  | 0 => by simp [valB]
  | k + 1 => by
    have h := valB_lt P k
    unfold valB
    rw [Nat.pow_succ]
    split <;> omega
theorem valB_bit (P : Nat → Bool) : ∀ k j, j < k → (valB P k).testBit j = P j
  | 0, j, h => by omega
  | k + 1, j, h => by
    have hl := valB_lt P k
    unfold valB
    by_cases e : j = k
    · subst e
      cases hp : P j with
      | true => rw [if_pos rfl, Nat.add_comm, Nat.testBit_two_pow_add_eq, Nat.testBit_lt_two_pow hl]; rfl
      | false => rw [if_neg (by simp), Nat.add_zero, Nat.testBit_lt_two_pow hl]
    · have hj : j < k := by omega
      cases hp : P k with
      | true => rw [if_pos rfl, Nat.add_comm, Nat.testBit_two_pow_add_gt hj, valB_bit P k j hj]
      | false => rw [if_neg (by simp), Nat.add_zero, valB_bit P k j hj]
theorem bits_valB {P : Nat → Bool} (h : ∀ j, 64 ≤ j → P j = false) : IsBits (valB P 64) P :=
  ⟨valB_lt P 64, fun j => by
    by_cases hj : j < 64
    · exact valB_bit P 64 j hj
    · rw [Nat.testBit_lt_two_pow (Nat.lt_of_lt_of_le (valB_lt P 64) (Nat.pow_le_pow_right (by decide) (by omega))), h j (by omega)]⟩
/-- What is borrowed at a bit, when one number is taken from another. -/
def borB (D F : Nat → Bool) : Nat → Bool
  | 0 => false
  | j + 1 => (!D j && (F j || borB D F j)) || (F j && borB D F j)
theorem valB_succ (P : Nat → Bool) (k : Nat) : valB P (k + 1) = valB P k + (if P k then 2 ^ k else 0) := rfl
theorem borB_succ (D F : Nat → Bool) (j : Nat) : borB D F (j + 1) = ((!D j && (F j || borB D F j)) || (F j && borB D F j)) := rfl
theorem sub_val (D F : Nat → Bool) : ∀ k, valB D k + (if borB D F k then 2 ^ k else 0) = valB F k + valB (fun j => (D j ^^ (F j ^^ borB D F j))) k
  | 0 => by simp [valB, borB]
  | k + 1 => by
    have h := sub_val D F k
    rw [valB_succ, valB_succ, valB_succ, borB_succ, Nat.pow_succ]
    generalize valB (fun j => (D j ^^ (F j ^^ borB D F j))) k = y at *
    revert h
    cases D k <;> cases F k <;> cases borB D F k <;> simp <;> omega
theorem sub_bits {d f : Nat} {D F : Nat → Bool} (hd : IsBits d D) (hf : IsBits f F) (hb : borB D F 64 = false) (hy : ∀ j, 64 ≤ j → (D j ^^ (F j ^^ borB D F j)) = false) : f ≤ d ∧ IsBits (d - f) (fun j => (D j ^^ (F j ^^ borB D F j))) := by
  have h := sub_val D F 64
  rw [hb, if_neg (by simp), Nat.add_zero] at h
  have h1 := bits_valB hy
  have hD : IsBits (valB D 64) D := bits_valB (fun j hj => by rw [← hd.bit]; exact Nat.testBit_lt_two_pow (Nat.lt_of_lt_of_le hd.lt (show 2 ^ 64 ≤ 2 ^ j from Nat.pow_le_pow_right (by decide) hj)))
  have hF : IsBits (valB F 64) F := bits_valB (fun j hj => by rw [← hf.bit]; exact Nat.testBit_lt_two_pow (Nat.lt_of_lt_of_le hf.lt (show 2 ^ 64 ≤ 2 ^ j from Nat.pow_le_pow_right (by decide) hj)))
  rw [hD.uniq hd, hF.uniq hf] at h
  refine ⟨by omega, ?_⟩
  have e : d - f = valB (fun j => (D j ^^ (F j ^^ borB D F j))) 64 := by omega
  rw [e]
  exact h1
/-- The place ahead of a run, and the last one of a run. -/
def firstB (S : Nat → Bool) : Nat → Bool := fun j => S (j + 1) && !S j
def lastB (S : Nat → Bool) : Nat → Bool := fun j => S j && !S (j + 1)
theorem bor_in {S A : Nat → Bool} : ∀ j, borB (fun j => A j || lastB S j) (firstB S) j = true → S j = true
  | 0, h => by simp [borB] at h
  | j + 1, h => by
    have ih := bor_in (S := S) (A := A) j
    rw [borB_succ] at h
    revert ih h
    generalize borB (fun j => A j || lastB S j) (firstB S) j = z
    unfold firstB lastB
    cases S j <;> cases S (j + 1) <;> cases A j <;> cases z <;> simp
theorem bor_clo {S A : Nat → Bool} (h0 : S 0 = false) : ∀ j, cloB S A j = (A j || (S j && !borB (fun j => A j || lastB S j) (firstB S) j))
  | 0 => by simp [cloB, h0]
  | j + 1 => by
    have ih := bor_clo (S := S) (A := A) h0 j
    have hi := bor_in (S := S) (A := A) j
    rw [borB_succ, show cloB S A (j + 1) = (A (j + 1) || (S (j + 1) && cloB S A j)) from rfl, ih]
    revert hi
    generalize borB (fun j => A j || lastB S j) (firstB S) j = z
    unfold firstB lastB
    cases S j <;> cases S (j + 1) <;> cases A j <;> cases A (j + 1) <;> cases z <;> simp
/-- What is closed by one subtraction is what is closed step by step. -/
theorem clo_sub {a sk fi la n : Nat} {S A : Nat → Bool} (hn : n ≤ 62) (h0 : S 0 = false) (hS : ∀ j, n < j → S j = false) (hA : ∀ j, n < j → A j = false)
    (ha : IsBits a A) (hs : IsBits sk S) (hf : IsBits fi (firstB S)) (hl : IsBits la (lastB S)) :
    fi ≤ (a ||| la) ∧ IsBits (a ||| (sk ^^^ (sk &&& (((a ||| la) - fi) ^^^ (a ||| la))))) (cloB S A) := by
  have hd := ha.or hl
  have hb : borB (fun j => A j || lastB S j) (firstB S) 64 = false := by
    cases e : borB (fun j => A j || lastB S j) (firstB S) 64 with
    | false => rfl
    | true => have := bor_in 64 e; rw [hS 64 (by omega)] at this; cases this
  have hy : ∀ j, 64 ≤ j → ((A j || lastB S j) ^^ (firstB S j ^^ borB (fun j => A j || lastB S j) (firstB S) j)) = false := fun j hj => by
    have e1 : borB (fun j => A j || lastB S j) (firstB S) j = false := by
      cases e : borB (fun j => A j || lastB S j) (firstB S) j with
      | false => rfl
      | true => have := bor_in j e; rw [hS j (by omega)] at this; cases this
    rw [e1]
    unfold lastB firstB
    rw [hA j (by omega), hS j (by omega), hS (j + 1) (by omega)]
    rfl
  obtain ⟨h1, h2⟩ := sub_bits hd hf hb hy
  refine ⟨h1, ?_⟩
  have h3 : IsBits (((a ||| la) - fi) ^^^ (a ||| la)) (fun j => firstB S j ^^ borB (fun j => A j || lastB S j) (firstB S) j) := ⟨Nat.xor_lt_two_pow (n := 64) h2.lt hd.lt, fun j => by
    rw [Nat.testBit_xor, h2.bit, hd.bit]
    cases A j || lastB S j <;> cases firstB S j <;> cases borB (fun j => A j || lastB S j) (firstB S) j <;> rfl⟩
  refine (ha.or (bits_andNot hs h3)).congr (fun j => ?_)
  rw [bor_clo h0 j]
  congr 1
  unfold firstB
  cases hsj : S j <;> simp
end Go.Proofs.Ytlgnplnmcdjbiaa
namespace Go.Proofs.Ytlgnplnmcdjbiaa
open Go.RowKit

theorem VecIs.or {f g : Nat → Int} {P Q : Nat → Bool} {m : Nat} (h : VecIs f P m) (h' : VecIs g Q m) : VecIs (fun i => bits .or .i64 (f i) (g i)) (fun j => P j || Q j) m := fun i hi => by
  obtain ⟨a, e1, h1, h2⟩ := h i hi
  obtain ⟨b, e2, h3, h4⟩ := h' i hi
  refine ⟨a ||| b, ?_, Nat.or_lt_two_pow h1 h3, fun q hq => by rw [Nat.testBit_or, h2 q hq, h4 q hq]⟩
  show bits .or .i64 (f i) (g i) = _
  rw [e1, e2, (bits_nat .i64 32 (by decide) wraps_i64w a b h1 h3).2]
theorem VecIs.and {f g : Nat → Int} {P Q : Nat → Bool} {m : Nat} (h : VecIs f P m) (h' : VecIs g Q m) : VecIs (fun i => bits .and .i64 (f i) (g i)) (fun j => P j && Q j) m := fun i hi => by
  obtain ⟨a, e1, h1, h2⟩ := h i hi
  obtain ⟨b, e2, h3, h4⟩ := h' i hi
  refine ⟨a &&& b, ?_, Nat.and_lt_two_pow _ h3, fun q hq => by rw [Nat.testBit_and, h2 q hq, h4 q hq]⟩
  show bits .and .i64 (f i) (g i) = _
  rw [e1, e2, (bits_nat .i64 32 (by decide) wraps_i64w a b h1 h3).1]
theorem carry_two {f : Nat → Int} {m : Nat} (h : ∀ i, i < m → 0 ≤ f i ∧ f i ≤ 4294967295) : ∀ k, k < m → carryF 0 f f (k + 1) = f k / 2147483648
  | 0, hk => by
    have := h 0 hk
    show (f 0 + f 0 + 0) / 4294967296 = _
    omega
  | k + 1, hk => by
    have ih := carry_two h k (by omega)
    have h1 := h k (by omega)
    have h2 := h (k + 1) hk
    show (f (k + 1) + f (k + 1) + carryF 0 f f (k + 1)) / 4294967296 = _
    rw [ih]
    omega
/-- Moved up by one, and cut. -/
theorem VecIs.up {f : Nat → Int} {P : Nat → Bool} {n m : Nat} (hm : m = (n + 1 + 31) / 32) (h : VecIs f P m) : VecIs (cutF ((n : Int) + 1) m (sumF 0 f f)) (fun j => decide (1 ≤ j ∧ j ≤ n) && P (j - 1)) m := fun i hi => by
  have hw : ∀ i, i < m → 0 ≤ f i ∧ f i ≤ 4294967295 := fun i hi => by
    obtain ⟨a, e1, h1, _⟩ := h i hi
    rw [e1]
    omega
  obtain ⟨a, e1, h1, h2⟩ := h i hi
  obtain ⟨c, hc, hc1, hcb⟩ : ∃ c : Nat, carryF 0 f f i = (c : Int) ∧ c ≤ 1 ∧ (decide (c = 1)) = (decide (1 ≤ 32 * i) && P (32 * i - 1)) := by
    cases i with
    | zero => exact ⟨0, rfl, by omega, by simp⟩
    | succ k =>
      obtain ⟨d, e3, h5, h6⟩ := h k (by omega)
      refine ⟨d / 2147483648, ?_, by omega, ?_⟩
      · rw [carry_two hw k (by omega), e3]
        omega
      · rw [decide_eq_true (show 1 ≤ 32 * (k + 1) by omega), Bool.true_and, show 32 * (k + 1) - 1 = 32 * k + 31 by omega, ← h6 31 (by omega), Nat.testBit_eq_decide_div_mod_eq]
        have : d / 2147483648 < 2 := by omega
        congr 1
        rw [show (2 : Nat) ^ 31 = 2147483648 by decide, Nat.mod_eq_of_lt this]
  have hs : sumF 0 f f i = (((2 * a + c) % 4294967296 : Nat) : Int) := by
    unfold sumF
    rw [hc, e1]
    omega
  have hsb : ∀ q, q < 32 → ((2 * a + c) % 4294967296).testBit q = (decide (1 ≤ 32 * i + q) && P (32 * i + q - 1)) := fun q hq => by
    rw [show (4294967296 : Nat) = 2 ^ 32 by decide, Nat.testBit_mod_two_pow, decide_eq_true hq, Bool.true_and]
    cases q with
    | zero =>
      rw [Nat.add_zero, ← hcb, Nat.testBit_zero]
      congr 1
      simp only [eq_iff_iff]
      omega
    | succ q =>
      rw [Nat.testBit_succ, show (2 * a + c) / 2 = a by omega, h2 q (by omega), decide_eq_true (show 1 ≤ 32 * i + (q + 1) by omega), Bool.true_and]
      congr 1
  have hzl : (2 * a + c) % 4294967296 < 4294967296 := Nat.mod_lt _ (by decide)
  generalize (2 * a + c) % 4294967296 = z at *
  have hpos : ∀ j, (decide (1 ≤ j ∧ j ≤ n) && P (j - 1)) = ((decide (1 ≤ j) && P (j - 1)) && decide (j ≤ n)) := fun j => by
    by_cases h1 : 1 ≤ j <;> by_cases h2 : j ≤ n <;> simp [h1, h2]
  unfold cutF
  by_cases hl : i + 1 = m ∧ 0 < ((n : Int) + 1) % 32
  · rw [if_pos hl, hs]
    obtain ⟨r, hr⟩ : ∃ r, (n + 1) % 32 = r := ⟨_, rfl⟩
    have hr2 : (((n : Int) + 1) % 32).toNat = r := by omega
    rw [hr2]
    refine ⟨z % 2 ^ r, by simp, Nat.lt_of_le_of_lt (Nat.mod_le _ _) hzl, fun q hq => ?_⟩
    rw [Nat.testBit_mod_two_pow, hsb q hq]
    show _ = (decide (1 ≤ 32 * i + q ∧ 32 * i + q ≤ n) && P (32 * i + q - 1))
    rw [hpos, Bool.and_comm]
    congr 1
    simp only [decide_eq_decide]
    omega
  · rw [if_neg hl, hs]
    refine ⟨z, rfl, hzl, fun q hq => ?_⟩
    rw [hsb q hq]
    show _ = (decide (1 ≤ 32 * i + q ∧ 32 * i + q ≤ n) && P (32 * i + q - 1))
    rw [hpos, decide_eq_true (show 32 * i + q ≤ n by omega), Bool.and_true]
/-- The bits of a right vector. -/
def bitsOf (f : Nat → Int) (n : Nat) : Nat → Bool := fun j => decide (j ≤ n) && (f (j / 32)).toNat.testBit (j % 32)
theorem bitsOf_le (f : Nat → Int) (n : Nat) : ∀ j, n < j → bitsOf f n j = false := fun j h => by unfold bitsOf; rw [decide_eq_false (by omega)]; rfl
theorem vecIs_right {f : Nat → Int} {n m : Nat} (hm : m = (n + 1 + 31) / 32) (h : Right ((n : Int) + 1) m f) : VecIs f (bitsOf f n) m := fun i hi => by
  have h1 := h.2.2.2.1 i hi
  refine ⟨(f i).toNat, by omega, by omega, fun q hq => ?_⟩
  unfold bitsOf
  rw [show (32 * i + q) / 32 = i by omega, show (32 * i + q) % 32 = q by omega]
  by_cases hle : 32 * i + q ≤ n
  · rw [decide_eq_true hle, Bool.true_and]
  · rw [decide_eq_false hle, Bool.false_and]
    obtain rfl : i = m - 1 := by omega
    rcases h.2.2.2.2 with h2 | h2
    · omega
    · obtain ⟨r, hr⟩ : ∃ r, (n + 1) % 32 = r := ⟨_, rfl⟩
      have hr2 : (((n : Int) + 1) % 32).toNat = r := by omega
      rw [hr2] at h2
      have h3 : (f (m - 1)).toNat < 2 ^ r := by
        have : ((f (m - 1)).toNat : Int) < ((2 ^ r : Nat) : Int) := by push_cast; omega
        exact_mod_cast this
      exact Nat.testBit_lt_two_pow (Nat.lt_of_lt_of_le h3 (Nat.pow_le_pow_right (by decide) (by omega)))
theorem right_of_vecIs {f : Nat → Int} {P : Nat → Bool} {n m : Nat} (hn : n ≤ 319) (hm : m = (n + 1 + 31) / 32) (h : VecIs f P m) (hP : ∀ j, n < j → P j = false) : Right ((n : Int) + 1) m f := by
  refine ⟨by omega, by omega, by omega, fun i hi => ?_, ?_⟩
  · obtain ⟨a, e1, h1, _⟩ := h i hi
    rw [e1]
    omega
  · by_cases hz : ((n : Int) + 1) % 32 = 0
    · exact Or.inl hz
    · obtain ⟨a, e1, h1, h2⟩ := h (m - 1) (by omega)
      obtain ⟨r, hr⟩ : ∃ r, (n + 1) % 32 = r := ⟨_, rfl⟩
      have hr2 : (((n : Int) + 1) % 32).toNat = r := by omega
      rw [hr2, e1]
      refine Or.inr ?_
      have h3 : a < 2 ^ r := by
        apply Nat.lt_pow_two_of_testBit
        intro q hq
        by_cases hq2 : q < 32
        · rw [h2 q hq2, hP _ (by omega)]
        · exact Nat.testBit_lt_two_pow (Nat.lt_of_lt_of_le h1 (Nat.pow_le_pow_right (by decide) (by omega)))
      exact_mod_cast h3
/-- A number that has the bits of a right vector. -/
theorem bitsOf_ex (f : Nat → Int) {n : Nat} (hn : n ≤ 62) : ∃ x, IsBits x (bitsOf f n) := ⟨_, bits_valB (fun j hj => bitsOf_le f n j (by omega))⟩
theorem clo_ex {S P : Nat → Bool} {n : Nat} (hn : n ≤ 62) (hS : ∀ j, n < j → S j = false) (hP : ∀ j, n < j → P j = false) : ∃ x, IsBits x (cloB S P) := ⟨_, bits_valB (fun j hj => clo_le hS hP j (by omega))⟩
end Go.Proofs.Ytlgnplnmcdjbiaa
