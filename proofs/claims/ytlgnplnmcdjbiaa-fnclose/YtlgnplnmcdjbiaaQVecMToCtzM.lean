/- What is proved here: plain arithmetic on the words of vectors: what is cut, what is taken away word by word.
   What is proved here: the specification's l02Get says whether a bit of a word is on; nothing that was there turns.
   What is proved here: plain arithmetic on one bit of a word: set, taken away, asked for.
   What is proved here: plain arithmetic on the bits that are on: the lowest of a word, what is left without it, the list of all of a row of words. -/
import Derived.Test.YtlgnplnmcdjbiaaQWordsWToWordsForW
import Derived.Test.YtlgnplnmcdjbiaaQImplRightW
import Derived.Test.YtlgnplnmcdjbiaaQRowsDToVecS
import Derived.Lib.TrailingZeros
namespace Go.Proofs.Ytlgnplnmcdjbiaa

theorem cut_same {b : Int} {n : Nat} {f r : Nat → Int} (h : b % 32 = 0 ∨ 0 ≤ r (n - 1) ∧ r (n - 1) < 2 ^ (b % 32).toNat) (he : ∀ i, i < n → f i = r i) : ∀ i, i < n → cutF b n f i = r i := by
  intro i hi
  unfold cutF
  split
  · rename_i h2
    obtain rfl : i = n - 1 := by omega
    rw [he _ hi]
    rcases h with h | h
    · omega
    · exact Int.emod_eq_of_lt h.1 h.2
  · exact he i hi
theorem Right.word {b : Int} {n i : Nat} {f : Nat → Int} (h : Right b n f) (hi : i < n) : Word 32 (f i) := by
  have := h.2.2.2.1 i hi
  exact ⟨this.1, by omega⟩
theorem Right.last {b : Int} {n : Nat} {f : Nat → Int} (h : Right b n f) (ho : ¬ b % 32 = 0) : Word (b % 32).toNat (f (n - 1)) := by
  have hn : 0 < n := by have := h.2.2.1; have := h.1; omega
  exact ⟨(h.2.2.2.1 (n - 1) (by omega)).1, by rcases h.2.2.2.2 with h | h <;> first | exact h | omega⟩
/-- The borrow out of word k. -/
def borF (f g : Nat → Int) : Nat → Int
  | 0 => 0
  | k + 1 => if f k < g k + borF f g k then 1 else 0
/-- The words of a difference. -/
def difF (f g : Nat → Int) : Nat → Int := fun i => (f i - g i - borF f g i) % 4294967296
theorem bor_range (f g : Nat → Int) : ∀ k, 0 ≤ borF f g k ∧ borF f g k ≤ 1
  | 0 => by simp [borF]
  | k + 1 => by unfold borF; split <;> omega
theorem bor_carry {b : Int} {n : Nat} {f g : Nat → Int} (h1 : ∀ i, i < n → 0 ≤ f i ∧ f i ≤ 4294967295) (h2 : ∀ i, i < n → 0 ≤ g i ∧ g i ≤ 4294967295) : ∀ k, k < n → carryF 1 f (cutF b n (notF g)) k = 1 - borF f g k
  | 0, _ => by simp [carryF, borF]
  | k + 1, hk => by
    have ih := bor_carry (b := b) h1 h2 k (by omega)
    have a := h1 k (by omega)
    have c := h2 k (by omega)
    have d := bor_range f g k
    have e : cutF b n (notF g) k = 4294967295 - g k := by unfold cutF notF; rw [if_neg (by omega)]
    unfold carryF borF
    rw [ih, e]
    split <;> omega
theorem sub_same {b : Int} {n : Nat} {f g : Nat → Int} (h1 : ∀ i, i < n → 0 ≤ f i ∧ f i ≤ 4294967295) (h2 : ∀ i, i < n → 0 ≤ g i ∧ g i ≤ 4294967295) : ∀ i, i < n → cutF b n (difF f g) i = cutF b n (sumF 1 f (cutF b n (notF g))) i := by
  intro i hi
  have hc := bor_carry (b := b) h1 h2 i hi
  have a := h1 i hi
  have c := h2 i hi
  have d := bor_range f g i
  by_cases hl : i + 1 = n ∧ 0 < b % 32
  · have e : cutF b n (notF g) i = (4294967295 - g i) % 2 ^ (b % 32).toNat := by unfold cutF notF; rw [if_pos hl]
    have e1 : cutF b n (difF f g) i = (f i - g i - borF f g i) % 4294967296 % 2 ^ (b % 32).toNat := by unfold cutF difF; rw [if_pos hl]
    have e2 : cutF b n (sumF 1 f (cutF b n (notF g))) i = (f i + (4294967295 - g i) % 2 ^ (b % 32).toNat + (1 - borF f g i)) % 4294967296 % 2 ^ (b % 32).toNat := by
      rw [← e, ← hc]
      unfold sumF
      rw [cutF, if_pos hl]
    rw [e1, e2]
    obtain ⟨P, hP⟩ : ∃ P : Int, (2 : Int) ^ (b % 32).toNat = P := ⟨_, rfl⟩
    have hd : P ∣ 4294967296 := by
      rw [← hP]
      have : (4294967296 : Int) = 2 ^ 32 := by decide
      rw [this]
      exact ⟨2 ^ (32 - (b % 32).toNat), by rw [← Int.pow_add]; congr 1; omega⟩
    rw [hP, Int.emod_emod_of_dvd _ hd, Int.emod_emod_of_dvd _ hd]
    have h3 : (4294967295 - g i) % P = 4294967295 - g i - P * ((4294967295 - g i) / P) := by rw [Int.emod_def]
    obtain ⟨Q, hQ⟩ := hd
    have h4 : f i + (4294967295 - g i) % P + (1 - borF f g i) = (f i - g i - borF f g i) + P * (Q - (4294967295 - g i) / P) := by
      rw [h3, Int.mul_sub, ← hQ]
      omega
    rw [h4, Int.add_mul_emod_self_left]
  · have e : cutF b n (notF g) i = 4294967295 - g i := by unfold cutF notF; rw [if_neg hl]
    have e1 : cutF b n (difF f g) i = (f i - g i - borF f g i) % 4294967296 := by unfold cutF difF; rw [if_neg hl]
    have e2 : cutF b n (sumF 1 f (cutF b n (notF g))) i = (f i + (4294967295 - g i) + (1 - borF f g i)) % 4294967296 := by
      rw [← e, ← hc]
      unfold sumF
      rw [cutF, if_neg hl]
    rw [e1, e2]
    omega
/-- What is cut, by the bits of the last word. -/
theorem cut_last (b : Int) (n : Nat) (r : Nat → Int) (i : Nat) (h : ∀ i, i < n → r i < 4294967296 ∧ 0 ≤ r i) (hi : i < n) : cutF b n r i = if i + 1 = n then r i % 2 ^ lastBits b else r i := by
  have := h i hi
  unfold cutF lastBits
  by_cases e : i + 1 = n
  · by_cases e2 : b % 32 = 0
    · rw [if_neg (by omega), if_pos e, if_pos e2]
      omega
    · rw [if_pos (by omega), if_pos e, if_neg e2]
  · rw [if_neg (by omega), if_neg e]
end Go.Proofs.Ytlgnplnmcdjbiaa
namespace Go.Proofs.Ytlgnplnmcdjbiaa
open Go.RowKit

/-- Whether a bit of a word is on. -/
def getB (x : Int) (q : Nat) : Bool := bits .and .i64 (x / 2 ^ q) 1 == 1
set_option maxHeartbeats 1000000 in
theorem l02Get_any (b : Int) (sa : Option Addr) (n ka k q : Nat) (f : Nat → Int) (i : Int) (w : World) (hn : n ≤ 1048576) (hr : Row w w.heap.size sa n f) (h0 : 0 ≤ i) (h1 : i / 32 = (k : Int)) (h2 : i % 32 = (q : Int)) (hk : k < n) :
    Calls Try.prog 174 #[.agg #[.int .i64 b, .slice sa n ka], .int .i64 i] w fun e w' => e = .returned (.bool (getB (f k) q)) ∧ Below w.heap.size w w' := by
  obtain ⟨bb, off, rfl, hbb, hca⟩ : ∃ bb off : Nat, sa = some ⟨bb, off, none⟩ ∧ bb < w.heap.size ∧ ∀ i, i < n → w.cell? ⟨bb, off + i, none⟩ = some (.int .i64 (f i)) := by
    rcases hr with h | h
    · omega
    · exact h
  have cz0 := hca k hk
  clear hca hr
  have q1 := boxing w 45 b (some ⟨bb, off, none⟩) n ka
  have HB : Hid (Below w.heap.size w (w.alloc (.cells #[.int .i64 b, .slice (some ⟨bb, off, none⟩) n ka] 45))) := q1.1
  have cz : (w.alloc (.cells #[.int .i64 b, .slice (some ⟨bb, off, none⟩) n ka] 45)).cell? ⟨bb, off + k, none⟩ = some (.int .i64 (f k)) := by rw [q1.1.cell (p := ⟨bb, off + k, none⟩) hbb]; exact cz0
  clear q1
  have hki : (k : Int) < (n : Int) := by omega
  have hk0 : (0 : Int) ≤ (k : Int) := by omega
  have hq0 : (0 : Int) ≤ (q : Int) := by omega
  have hq1 : (q : Int) < 32 := by omega
  go_enter Try.func174, Try.ntmps174
  go_wp2
  go_ret
  exact ⟨rfl, HB.out⟩
end Go.Proofs.Ytlgnplnmcdjbiaa
namespace Go.Proofs.Ytlgnplnmcdjbiaa
open Go.RowKit

theorem bits_andNot_nat (k : IntKind) (j : Nat) (hj : j ≤ k.bits) (hk : ∀ n : Int, 0 ≤ n → n < 2 ^ j → k.wrap n = n) (a b : Nat) (ha : a < 2 ^ j) (hb : b < 2 ^ j) :
    bits .andNot k a b = ((a ^^^ (a &&& b) : Nat) : Int) := by
  have hp : 2 ^ j ≤ 2 ^ k.bits := Nat.pow_le_pow_right (by decide) hj
  have ha' : a % 2 ^ k.bits = a := Nat.mod_eq_of_lt (Nat.lt_of_lt_of_le ha hp)
  have hb' : b % 2 ^ k.bits = b := Nat.mod_eq_of_lt (Nat.lt_of_lt_of_le hb hp)
  have cast : ∀ n : Nat, n < 2 ^ j → ((n : Nat) : Int) < 2 ^ j := fun n h => by exact_mod_cast h
  have hv : (BitVec.ofInt k.bits (a : Int) &&& ~~~BitVec.ofInt k.bits (b : Int)).toNat = a ^^^ (a &&& b) := by
    apply Nat.eq_of_testBit_eq
    intro i
    rw [← BitVec.getLsbD, BitVec.getLsbD_and, BitVec.getLsbD_not, Nat.testBit_xor, Nat.testBit_and, BitVec.ofInt_natCast, BitVec.ofInt_natCast, BitVec.getLsbD_ofNat, BitVec.getLsbD_ofNat]
    by_cases hi : i < k.bits
    · simp [hi]
      cases a.testBit i <;> cases b.testBit i <;> rfl
    · have h1 : a.testBit i = false := Nat.testBit_lt_two_pow (Nat.lt_of_lt_of_le (Nat.lt_of_lt_of_le ha hp) (Nat.pow_le_pow_right (by decide) (by omega)))
      simp [hi, h1]
  show k.wrap ((BitVec.ofInt k.bits (a : Int) &&& ~~~BitVec.ofInt k.bits (b : Int)).toNat : Int) = _
  rw [hv]
  exact hk _ (Int.natCast_nonneg _) (cast _ (Nat.xor_lt_two_pow ha (Nat.and_lt_two_pow _ hb)))
theorem getB_nat (a q : Nat) (h : a < 2 ^ 32) : getB (a : Int) q = a.testBit q := by
  unfold getB
  have e : (a : Int) / 2 ^ q = ((a / 2 ^ q : Nat) : Int) := by simp
  have hl : a / 2 ^ q < 2 ^ 32 := Nat.lt_of_le_of_lt (Nat.div_le_self _ _) h
  rw [e, show (1 : Int) = ((1 : Nat) : Int) from rfl, (bits_nat .i64 32 (by decide) wraps_i64w (a / 2 ^ q) 1 hl (by decide)).1, Nat.and_one_is_mod, Nat.testBit_eq_decide_div_mod_eq]
  by_cases h2 : a / 2 ^ q % 2 = 1
  · rw [h2]; rfl
  · have h3 : a / 2 ^ q % 2 = 0 := by omega
    rw [h3]; rfl
theorem or_bit (x : Int) (q : Nat) (hq : q < 32) (hx : Word 32 x) : bits .or .i64 x (2 ^ q) = if getB x q = true then x else bits .xor .i64 x (2 ^ q) := by
  obtain ⟨a, rfl, ha⟩ := word_nat hx
  have hp : 2 ^ q < 2 ^ 32 := Nat.pow_lt_pow_right (by decide) hq
  have e : (2 : Int) ^ q = ((2 ^ q : Nat) : Int) := by simp
  rw [e, getB_nat a q ha, (bits_nat .i64 32 (by decide) wraps_i64w a _ ha hp).2, bits_xor_nat .i64 32 (by decide) wraps_i64w a _ ha hp]
  split
  · rename_i h
    congr 1
    apply Nat.eq_of_testBit_eq
    intro i
    rw [Nat.testBit_or, Nat.testBit_two_pow]
    by_cases hi : q = i
    · subst hi; simp [h]
    · simp [hi]
  · rename_i h
    congr 1
    apply Nat.eq_of_testBit_eq
    intro i
    rw [Nat.testBit_or, Nat.testBit_xor, Nat.testBit_two_pow]
    by_cases hi : q = i
    · subst hi; simp [h]
    · simp [hi]
theorem off_bit (x : Int) (q : Nat) (hq : q < 32) (hx : Word 32 x) : bits .andNot .i64 x (2 ^ q) = if getB x q = true then bits .xor .i64 x (2 ^ q) else x := by
  obtain ⟨a, rfl, ha⟩ := word_nat hx
  have hp : 2 ^ q < 2 ^ 32 := Nat.pow_lt_pow_right (by decide) hq
  have e : (2 : Int) ^ q = ((2 ^ q : Nat) : Int) := by simp
  rw [e, getB_nat a q ha, bits_andNot_nat .i64 32 (by decide) wraps_i64w a _ ha hp, bits_xor_nat .i64 32 (by decide) wraps_i64w a _ ha hp]
  split
  · rename_i h
    congr 1
    apply Nat.eq_of_testBit_eq
    intro i
    rw [Nat.testBit_xor, Nat.testBit_xor, Nat.testBit_and, Nat.testBit_two_pow]
    by_cases hi : q = i
    · subst hi; simp [h]
    · simp [hi]
  · rename_i h
    congr 1
    apply Nat.eq_of_testBit_eq
    intro i
    rw [Nat.testBit_xor, Nat.testBit_and, Nat.testBit_two_pow]
    by_cases hi : q = i
    · subst hi; simp [h]
    · simp [hi]
/-- The words with one bit as it is asked for. -/
def setF (f : Nat → Int) (k q : Nat) (on : Bool) : Nat → Int := fun i => if i = k then (if getB (f k) q = on then f k else bits .xor .i64 (f k) (2 ^ q)) else f i
theorem set_on (f : Nat → Int) (k q : Nat) (hq : q < 32) (hx : Word 32 (f k)) : ∀ i, (if i = k then bits .or .i64 (f k) (2 ^ q) else f i) = setF f k q true i := by
  intro i
  unfold setF
  split
  · rw [or_bit _ q hq hx]
  · rfl
theorem set_off (f : Nat → Int) (k q : Nat) (hq : q < 32) (hx : Word 32 (f k)) : ∀ i, (if i = k then bits .andNot .i64 (f k) (2 ^ q) else f i) = setF f k q false i := by
  intro i
  unfold setF
  split
  · rw [off_bit _ q hq hx]
    cases getB (f k) q <;> rfl
  · rfl
theorem pow_bit (q : Nat) (hq : q < 32) : ∃ P : Int, (2 : Int) ^ q = P ∧ 0 < P ∧ P ≤ 2147483648 := by
  refine ⟨_, rfl, Int.pow_pos (by decide), ?_⟩
  have e : (2 : Int) ^ q = ((2 ^ q : Nat) : Int) := by simp
  have h2 : 2 ^ q ≤ 2 ^ 31 := Nat.pow_le_pow_right (by decide) (by omega)
  rw [e]
  omega
end Go.Proofs.Ytlgnplnmcdjbiaa
namespace Go.Proofs.Ytlgnplnmcdjbiaa
open Go.RowKit

/-- The lowest bit that is on, and what is left without it. -/
theorem ctz_bits (x : Nat) (h0 : x ≠ 0) (h : x < 2 ^ 32) : x.testBit (Lib.ctz 32 x) = true ∧ (∀ i, i < Lib.ctz 32 x → x.testBit i = false) ∧ Lib.ctz 32 x < 32 ∧ ∀ i, (x &&& (x - 1)).testBit i = (x.testBit i && decide (Lib.ctz 32 x < i)) := by
  obtain ⟨m, hm, hk⟩ := Lib.ctzFrom_spec 32 x (by omega) h
  have e : Lib.ctz 32 x = Lib.ctzFrom 32 x := by simp [Lib.ctz, h0]
  rw [e]
  obtain ⟨t, ht⟩ : ∃ t, Lib.ctzFrom 32 x = t := ⟨_, rfl⟩
  rw [ht] at hm hk ⊢
  have hp : 0 < 2 ^ t := Nat.two_pow_pos t
  have hx : ∀ i, x.testBit i = if i < t then false else (2 * m + 1).testBit (i - t) := by
    intro i
    have := Nat.testBit_two_pow_mul_add (2 * m + 1) (b := 0) (i := t) hp i
    rw [Nat.add_zero] at this
    rw [hm, this]
    simp
  have hx1 : ∀ i, (x - 1).testBit i = if i < t then (2 ^ t - 1).testBit i else (2 * m).testBit (i - t) := by
    intro i
    have h2 : x - 1 = 2 ^ t * (2 * m) + (2 ^ t - 1) := by
      rw [hm, Nat.mul_add, Nat.mul_one]
      omega
    rw [h2]
    exact Nat.testBit_two_pow_mul_add (2 * m) (by omega) i
  refine ⟨?_, ?_, hk, ?_⟩
  · rw [hx]
    simp [Nat.testBit_zero]
  · intro i hi
    rw [hx, if_pos hi]
  · intro i
    rw [Nat.testBit_and, hx, hx1]
    by_cases h1 : i < t
    · simp [h1]
    · rw [if_neg h1, if_neg h1]
      by_cases h2 : i = t
      · subst h2
        simp [Nat.testBit_zero]
      · obtain ⟨j, rfl⟩ : ∃ j, i = t + (j + 1) := ⟨i - t - 1, by omega⟩
        have e3 : t + (j + 1) - t = j + 1 := by omega
        rw [e3, Nat.testBit_succ, Nat.testBit_succ]
        have d1 : (2 * m + 1) / 2 = m := by omega
        have d2 : 2 * m / 2 = m := by omega
        rw [d1, d2]
        simp
/-- Whether a bit of a row of words is on. -/
def bitOn (f : Nat → Int) (i : Nat) : Bool := (f (i / 32)).toNat.testBit (i % 32)
/-- The bits below m that are on, the lowest first. -/
def bitsL (f : Nat → Int) (m : Nat) : List Int := ((List.range m).filter (bitOn f)).map fun i : Nat => (i : Int)
theorem bitsL_zero (f : Nat → Int) : bitsL f 0 = [] := rfl
theorem bitsL_on {f : Nat → Int} {m : Nat} (h : bitOn f m = true) : bitsL f (m + 1) = bitsL f m ++ [(m : Int)] := by
  simp [bitsL, List.range_succ, List.filter_append, h]
theorem bitsL_off {f : Nat → Int} {m : Nat} (h : bitOn f m = false) : bitsL f (m + 1) = bitsL f m := by
  simp [bitsL, List.range_succ, List.filter_append, h]
theorem bitsL_none {f : Nat → Int} {a : Nat} : ∀ b, a ≤ b → (∀ i, a ≤ i → i < b → bitOn f i = false) → bitsL f b = bitsL f a
  | 0, h, _ => by obtain rfl : a = 0 := by omega
                  rfl
  | b + 1, h, hn => by
    by_cases e : a = b + 1
    · rw [e]
    · rw [bitsL_off (hn b (by omega) (by omega))]
      exact bitsL_none b (by omega) (fun i h1 h2 => hn i h1 (by omega))
theorem bitsL_pre (f : Nat → Int) (a : Nat) : ∀ b, a ≤ b → ∃ r, bitsL f b = bitsL f a ++ r
  | 0, h => by obtain rfl : a = 0 := by omega
               exact ⟨[], by simp⟩
  | b + 1, h => by
    by_cases e : a = b + 1
    · exact ⟨[], by rw [e]; simp⟩
    · obtain ⟨r, hr⟩ := bitsL_pre f a b (by omega)
      by_cases hb : bitOn f b = true
      · exact ⟨r ++ [(b : Int)], by rw [bitsL_on hb, hr]; simp⟩
      · exact ⟨r, by rw [bitsL_off (by simpa using hb), hr]⟩
theorem bitsL_len (f : Nat → Int) : ∀ m, (bitsL f m).length ≤ m
  | 0 => by simp [bitsL]
  | m + 1 => by
    have := bitsL_len f m
    by_cases hb : bitOn f m = true
    · rw [bitsL_on hb]; simp; omega
    · rw [bitsL_off (by simpa using hb)]; omega
theorem bitsL_step {f : Nat → Int} {a t : Nat} (h : a ≤ t) (hn : ∀ i, a ≤ i → i < t → bitOn f i = false) (ho : bitOn f t = true) : bitsL f (t + 1) = bitsL f a ++ [(t : Int)] := by
  rw [bitsL_on ho, bitsL_none t h hn]
theorem bitsL_mem {f : Nat → Int} {m : Nat} {x : Int} (h : x ∈ bitsL f m) : ∃ i : Nat, x = i ∧ i < m := by
  unfold bitsL at h
  obtain ⟨i, hi, rfl⟩ := List.mem_map.1 h
  have := List.mem_filter.1 hi
  exact ⟨i, rfl, by simpa using this.1⟩
/-- What is left of a word when the bits below p have come. -/
def Rest (x p r : Nat) : Prop := r < 2 ^ 32 ∧ ∀ i, r.testBit i = (x.testBit i && decide (p ≤ i))
theorem rest_start {x : Nat} (h : x < 2 ^ 32) : Rest x 0 x := ⟨h, fun i => by simp⟩
theorem rest_step {x p r : Nat} (h : Rest x p r) (h0 : r ≠ 0) : p ≤ Lib.ctz 32 r ∧ Lib.ctz 32 r < 32 ∧ x.testBit (Lib.ctz 32 r) = true ∧ (∀ i, p ≤ i → i < Lib.ctz 32 r → x.testBit i = false) ∧ Rest x (Lib.ctz 32 r + 1) (r &&& (r - 1)) := by
  obtain ⟨h1, h2, h3, h4⟩ := ctz_bits r h0 h.1
  have h5 := h.2 (Lib.ctz 32 r)
  rw [h1] at h5
  have h6 : x.testBit (Lib.ctz 32 r) = true ∧ p ≤ Lib.ctz 32 r := by simpa using h5.symm
  refine ⟨h6.2, h3, h6.1, fun i hi hl => ?_, ?_, fun i => ?_⟩
  · have h7 := h.2 i
    rw [h2 i hl] at h7
    simpa [hi] using h7.symm
  · exact Nat.lt_of_le_of_lt Nat.and_le_left h.1
  · rw [h4 i, h.2 i]
    by_cases hl : Lib.ctz 32 r < i
    · have : p ≤ i := by omega
      have h8 : Lib.ctz 32 r + 1 ≤ i := hl
      simp [hl, this, h8]
    · have h8 : ¬ Lib.ctz 32 r + 1 ≤ i := by omega
      simp [hl, h8]
theorem rest_end {x p : Nat} (h : Rest x p 0) : ∀ i, p ≤ i → x.testBit i = false := by
  intro i hi
  have := h.2 i
  simpa [hi] using this.symm
theorem word_on (f : Nat → Int) (k j : Nat) (hj : j < 32) : bitOn f (32 * k + j) = (f k).toNat.testBit j := by
  unfold bitOn
  have e1 : (32 * k + j) / 32 = k := by omega
  have e2 : (32 * k + j) % 32 = j := by omega
  rw [e1, e2]
/-- One bit of a word comes. -/
theorem come_step {f : Nat → Int} {k p r : Nat} (h : Rest (f k).toNat p r) (h0 : r ≠ 0) : bitsL f (32 * k + (Lib.ctz 32 r + 1)) = bitsL f (32 * k + p) ++ [((32 * k + Lib.ctz 32 r : Nat) : Int)] ∧ p ≤ Lib.ctz 32 r ∧ Lib.ctz 32 r < 32 ∧ Rest (f k).toNat (Lib.ctz 32 r + 1) (r &&& (r - 1)) := by
  obtain ⟨h1, h2, h3, h4, h5⟩ := rest_step h h0
  refine ⟨?_, h1, h2, h5⟩
  rw [← Nat.add_assoc]
  refine bitsL_step (by omega) (fun i hi hl => ?_) ?_
  · obtain ⟨j, rfl⟩ : ∃ j, i = 32 * k + j := ⟨i - 32 * k, by omega⟩
    rw [word_on f k j (by omega)]
    exact h4 j (by omega) (by omega)
  · rw [word_on f k _ h2]
    exact h3
/-- A word is over. -/
theorem come_end {f : Nat → Int} {k p : Nat} (hp : p ≤ 32) (h : Rest (f k).toNat p 0) : bitsL f (32 * (k + 1)) = bitsL f (32 * k + p) := by
  refine bitsL_none _ (by omega) (fun i hi hl => ?_)
  obtain ⟨j, rfl⟩ : ∃ j, i = 32 * k + j := ⟨i - 32 * k, by omega⟩
  rw [word_on f k j (by omega)]
  exact rest_end h j (by omega)
theorem rest_and (r : Nat) (h0 : r ≠ 0) (h : r < 2 ^ 32) : bits .and .u32 (r : Int) ((r : Int) - 1) = ((r &&& (r - 1) : Nat) : Int) := by
  have e : (r : Int) - 1 = ((r - 1 : Nat) : Int) := by omega
  rw [e, (bits_nat .u32 32 (by decide) wraps_u32w r (r - 1) h (by omega)).1]
/-- A right vector has no bit on from its bits on. -/
theorem right_bits {b : Int} {n : Nat} {f : Nat → Int} (h : Right b n f) : bitsL f (32 * n) = bitsL f b.toNat := by
  obtain ⟨h1, h2, h3, h4, h5⟩ := h
  refine bitsL_none _ (by omega) (fun i hi hl => ?_)
  have hn : 0 < n := by omega
  obtain ⟨j, rfl⟩ : ∃ j, i = 32 * (n - 1) + j := ⟨i - 32 * (n - 1), by omega⟩
  rw [word_on f (n - 1) j (by omega)]
  have hr := h4 (n - 1) (by omega)
  rcases h5 with h5 | h5
  · omega
  · have h6 : (f (n - 1)).toNat < 2 ^ (b % 32).toNat := by
      have e : ((f (n - 1)).toNat : Int) = f (n - 1) := by omega
      have : ((f (n - 1)).toNat : Int) < ((2 ^ (b % 32).toNat : Nat) : Int) := by rw [e]; simpa using h5
      exact_mod_cast this
    exact Nat.testBit_lt_two_pow (Nat.lt_of_lt_of_le h6 (Nat.pow_le_pow_right (by decide) (by omega)))
theorem getB_on {b : Int} {n : Nat} {f : Nat → Int} (h : Right b n f) (i : Nat) (hi : (i : Int) < b) : getB (f (i / 32)) (i % 32) = bitOn f i := by
  have hr := h.2.2.2.1 (i / 32) (by have := h.2.2.1; omega)
  unfold bitOn
  rw [← getB_nat _ _ (by omega)]
  congr 1
  omega
/-- The bits that come. -/
def Come (b : Int) (m : Nat) (f : Nat → Int) (L : List Int) : Prop := (Right b m f → L = bitsL f (32 * m)) ∧ (¬ Right b m f → L = [])
theorem come_some (b : Int) (m : Nat) (f : Nat → Int) : ∃ L, Come b m f L := by
  by_cases h : Right b m f
  · exact ⟨_, fun _ => rfl, fun h2 => absurd h h2⟩
  · exact ⟨[], fun h2 => absurd h2 h, fun _ => rfl⟩
theorem Come.len {b : Int} {m : Nat} {f : Nat → Int} {L : List Int} (h : Come b m f L) : L.length ≤ 320 := by
  by_cases h2 : Right b m f
  · rw [h.1 h2]
    have := bitsL_len f (32 * m)
    have := h2.2.2.1
    have := h2.2.1
    omega
  · rw [h.2 h2]
    simp
theorem low_found {b : Int} {m k : Nat} {f : Nat → Int} {L : List Int} (h : Right b m f) (hL : Come b m f L) (hk : (k : Int) < b) (ho : bitOn f k = true) (hn : bitsL f k = []) : L.head?.getD (-1) = (k : Int) := by
  obtain ⟨r, hr⟩ := bitsL_pre f (k + 1) b.toNat (by omega)
  rw [hL.1 h, right_bits h, hr, bitsL_on ho, hn]
  rfl
theorem low_none {b : Int} {m : Nat} {f : Nat → Int} {L : List Int} (h : Right b m f) (hL : Come b m f L) (hn : bitsL f b.toNat = []) : L.head?.getD (-1) = -1 := by
  rw [hL.1 h, right_bits h, hn]
  rfl
theorem high_found {b : Int} {m k : Nat} {f : Nat → Int} {L : List Int} (h : Right b m f) (hL : Come b m f L) (ho : bitOn f k = true) (hn : bitsL f b.toNat = bitsL f (k + 1)) : L.getLast?.getD (-1) = (k : Int) := by
  rw [hL.1 h, right_bits h, hn, bitsL_on ho]
  simp
theorem high_none {b : Int} {m : Nat} {f : Nat → Int} {L : List Int} (h : Right b m f) (hL : Come b m f L) (hn : bitsL f b.toNat = bitsL f 0) : L.getLast?.getD (-1) = -1 := by
  rw [hL.1 h, right_bits h, hn, bitsL_zero]
  rfl
theorem count_all {b : Int} {m : Nat} {f : Nat → Int} {L : List Int} (h : Right b m f) (hL : Come b m f L) : L.length = (bitsL f b.toNat).length := by
  rw [hL.1 h, right_bits h]
end Go.Proofs.Ytlgnplnmcdjbiaa
