/- What is proved here: the specification's l02Get says whether a bit of a word is on; nothing that was there turns.
   What is proved here: plain arithmetic on one bit of a word: set, taken away, asked for.
   What is proved here: plain arithmetic on the bits that are on: the lowest of a word, what is left without it, the list of all of a row of words.
   What is proved here: plain arithmetic for the law of vectors: what is taken away is added again; the counts. -/
import Derived.Test.YthnnenbpbkmbhaaDoorQRowsDToVecS
import Derived.Test.YthnnenbpbkmbhaaDoorQVecSpecWToWordsForW
import Derived.Lib.TrailingZeros
import Derived.Test.YthnnenbpbkmbhaaDoorQImplRightWToVecM
namespace Go.Proofs.YthnnenbpbkmbhaaDoor
open Go.RowKit

/-- Whether a bit of a word is on. -/
def getB (x : Int) (q : Nat) : Bool := bits .and .i64 (x / 2 ^ q) 1 == 1
set_option maxHeartbeats 1000000 in
theorem l02Get_any (b : Int) (sa : Option Addr) (n ka k q : Nat) (f : Nat → Int) (i : Int) (w : World) (hn : n ≤ 1048576) (hr : Row w w.heap.size sa n f) (h0 : 0 ≤ i) (h1 : i / 32 = (k : Int)) (h2 : i % 32 = (q : Int)) (hk : k < n) :
    Calls Tryd.prog 71 #[.agg #[.int .i64 b, .slice sa n ka], .int .i64 i] w fun e w' => e = .returned (.bool (getB (f k) q)) ∧ Below w.heap.size w w' := by
  obtain ⟨bb, off, rfl, hbb, hca⟩ : ∃ bb off : Nat, sa = some ⟨bb, off, none⟩ ∧ bb < w.heap.size ∧ ∀ i, i < n → w.cell? ⟨bb, off + i, none⟩ = some (.int .i64 (f i)) := by
    rcases hr with h | h
    · omega
    · exact h
  have cz0 := hca k hk
  clear hca hr
  have q1 := boxing w 25 b (some ⟨bb, off, none⟩) n ka
  have HB : Hid (Below w.heap.size w (w.alloc (.cells #[.int .i64 b, .slice (some ⟨bb, off, none⟩) n ka] 25))) := q1.1
  have cz : (w.alloc (.cells #[.int .i64 b, .slice (some ⟨bb, off, none⟩) n ka] 25)).cell? ⟨bb, off + k, none⟩ = some (.int .i64 (f k)) := by rw [q1.1.cell (p := ⟨bb, off + k, none⟩) hbb]; exact cz0
  clear q1
  have hki : (k : Int) < (n : Int) := by omega
  have hk0 : (0 : Int) ≤ (k : Int) := by omega
  have hq0 : (0 : Int) ≤ (q : Int) := by omega
  have hq1 : (q : Int) < 32 := by omega
  go_enter Tryd.func71, Tryd.ntmps71
  go_wp2
  go_ret
  exact ⟨rfl, HB.out⟩
end Go.Proofs.YthnnenbpbkmbhaaDoor
namespace Go.Proofs.YthnnenbpbkmbhaaDoor
open Go.RowKit

theorem bits_andNot_nat (k : IntKind) (j : Nat) (hj : j ≤ k.bits) (hk : ∀ n : Int, 0 ≤ n → n < 2 ^ j → k.wrap n = n) (a b : Nat) (ha : a < 2 ^ j) (hb : b < 2 ^ j) :
    bits .andNot k a b = ((a ^^^ (a &&& b) : Nat) : Int) := by
  have hp : 2 ^ j ≤ 2 ^ k.bits := Nat.pow_le_pow_right (by decide) hj
  have ha' : a % 2 ^ k.bits = a := Nat.mod_eq_of_lt (Nat.lt_of_lt_of_le ha hp)
  have hb' : b % 2 ^ k.bits = b := Nat.mod_eq_of_lt (Nat.lt_of_lt_of_le hb hp)
  have cast : ∀ n : Nat, n < 2 ^ j → ((n : Nat) : Int) < 2 ^ j := fun n h => by exact_mod_cast h
  have hv : (BitVec.ofInt k.bits (a : Int) &&& ~~~BitVec.ofInt k.bits (b : Int)).toNat = a ^^^ (a &&& b) := by
    apply Nat.eq_of_testBit_eq
    intro i
    rw [← BitVec.getLsbD, BitVec.getLsbD_and, BitVec.getLsbD_not, Nat.testBit_xor, Nat.testBit_and, BitVec.ofInt_natCast, BitVec.ofInt_natCast, BitVec.getLsbD_ofNat, BitVec.getLsbD_ofNat]
    by_cases hi : i < k.bits
    · simp [hi]
      cases a.testBit i <;> cases b.testBit i <;> rfl
    · have h1 : a.testBit i = false := Nat.testBit_lt_two_pow (Nat.lt_of_lt_of_le (Nat.lt_of_lt_of_le ha hp) (Nat.pow_le_pow_right (by decide) (by omega)))
      simp [hi, h1]
  show k.wrap ((BitVec.ofInt k.bits (a : Int) &&& ~~~BitVec.ofInt k.bits (b : Int)).toNat : Int) = _
  rw [hv]
  exact hk _ (Int.natCast_nonneg _) (cast _ (Nat.xor_lt_two_pow ha (Nat.and_lt_two_pow _ hb)))
theorem getB_nat (a q : Nat) (h : a < 2 ^ 32) : getB (a : Int) q = a.testBit q := by
  unfold getB
  have e : (a : Int) / 2 ^ q = ((a / 2 ^ q : Nat) : Int) := by simp
  have hl : a / 2 ^ q < 2 ^ 32 := Nat.lt_of_le_of_lt (Nat.div_le_self _ _) h
  rw [e, show (1 : Int) = ((1 : Nat) : Int) from rfl, (bits_nat .i64 32 (by decide) wraps_i64w (a / 2 ^ q) 1 hl (by decide)).1, Nat.and_one_is_mod, Nat.testBit_eq_decide_div_mod_eq]
  by_cases h2 : a / 2 ^ q % 2 = 1
  · rw [h2]; rfl
  · have h3 : a / 2 ^ q % 2 = 0 := by omega
    rw [h3]; rfl
theorem or_bit (x : Int) (q : Nat) (hq : q < 32) (hx : Word 32 x) : bits .or .i64 x (2 ^ q) = if getB x q = true then x else bits .xor .i64 x (2 ^ q) := by
  obtain ⟨a, rfl, ha⟩ := word_nat hx
  have hp : 2 ^ q < 2 ^ 32 := Nat.pow_lt_pow_right (by decide) hq
  have e : (2 : Int) ^ q = ((2 ^ q : Nat) : Int) := by simp
  rw [e, getB_nat a q ha, (bits_nat .i64 32 (by decide) wraps_i64w a _ ha hp).2, bits_xor_nat .i64 32 (by decide) wraps_i64w a _ ha hp]
  split
  · rename_i h
    congr 1
    apply Nat.eq_of_testBit_eq
    intro i
    rw [Nat.testBit_or, Nat.testBit_two_pow]
    by_cases hi : q = i
    · subst hi; simp [h]
    · simp [hi]
  · rename_i h
    congr 1
    apply Nat.eq_of_testBit_eq
    intro i
    rw [Nat.testBit_or, Nat.testBit_xor, Nat.testBit_two_pow]
    by_cases hi : q = i
    · subst hi; simp [h]
    · simp [hi]
theorem off_bit (x : Int) (q : Nat) (hq : q < 32) (hx : Word 32 x) : bits .andNot .i64 x (2 ^ q) = if getB x q = true then bits .xor .i64 x (2 ^ q) else x := by
  obtain ⟨a, rfl, ha⟩ := word_nat hx
  have hp : 2 ^ q < 2 ^ 32 := Nat.pow_lt_pow_right (by decide) hq
  have e : (2 : Int) ^ q = ((2 ^ q : Nat) : Int) := by simp
  rw [e, getB_nat a q ha, bits_andNot_nat .i64 32 (by decide) wraps_i64w a _ ha hp, bits_xor_nat .i64 32 (by decide) wraps_i64w a _ ha hp]
  split
  · rename_i h
    congr 1
    apply Nat.eq_of_testBit_eq
    intro i
    rw [Nat.testBit_xor, Nat.testBit_xor, Nat.testBit_and, Nat.testBit_two_pow]
    by_cases hi : q = i
    · subst hi; simp [h]
    · simp [hi]
  · rename_i h
    congr 1
    apply Nat.eq_of_testBit_eq
    intro i
    rw [Nat.testBit_xor, Nat.testBit_and, Nat.testBit_two_pow]
    by_cases hi : q = i
    · subst hi; simp [h]
    · simp [hi]
/-- The words with one bit as it is asked for. -/
def setF (f : Nat → Int) (k q : Nat) (on : Bool) : Nat → Int := fun i => if i = k then (if getB (f k) q = on then f k else bits .xor .i64 (f k) (2 ^ q)) else f i
theorem set_on (f : Nat → Int) (k q : Nat) (hq : q < 32) (hx : Word 32 (f k)) : ∀ i, (if i = k then bits .or .i64 (f k) (2 ^ q) else f i) = setF f k q true i := by
  intro i
  unfold setF
  split
  · rw [or_bit _ q hq hx]
  · rfl
theorem set_off (f : Nat → Int) (k q : Nat) (hq : q < 32) (hx : Word 32 (f k)) : ∀ i, (if i = k then bits .andNot .i64 (f k) (2 ^ q) else f i) = setF f k q false i := by
  intro i
  unfold setF
  split
  · rw [off_bit _ q hq hx]
    cases getB (f k) q <;> rfl
  · rfl
theorem pow_bit (q : Nat) (hq : q < 32) : ∃ P : Int, (2 : Int) ^ q = P ∧ 0 < P ∧ P ≤ 2147483648 := by
  refine ⟨_, rfl, Int.pow_pos (by decide), ?_⟩
  have e : (2 : Int) ^ q = ((2 ^ q : Nat) : Int) := by simp
  have h2 : 2 ^ q ≤ 2 ^ 31 := Nat.pow_le_pow_right (by decide) (by omega)
  rw [e]
  omega
end Go.Proofs.YthnnenbpbkmbhaaDoor
namespace Go.Proofs.YthnnenbpbkmbhaaDoor
open Go.RowKit

/-- The lowest bit that is on, and what is left without it. -/
theorem ctz_bits (x : Nat) (h0 : x ≠ 0) (h : x < 2 ^ 32) : x.testBit (Lib.ctz 32 x) = true ∧ (∀ i, i < Lib.ctz 32 x → x.testBit i = false) ∧ Lib.ctz 32 x < 32 ∧ ∀ i, (x &&& (x - 1)).testBit i = (x.testBit i && decide (Lib.ctz 32 x < i)) := by
  obtain ⟨m, hm, hk⟩ := Lib.ctzFrom_spec 32 x (by omega) h
  have e : Lib.ctz 32 x = Lib.ctzFrom 32 x := by simp [Lib.ctz, h0]
  rw [e]
  obtain ⟨t, ht⟩ : ∃ t, Lib.ctzFrom 32 x = t := ⟨_, rfl⟩
  rw [ht] at hm hk ⊢
  have hp : 0 < 2 ^ t := Nat.two_pow_pos t
  have hx : ∀ i, x.testBit i = if i < t then false else (2 * m + 1).testBit (i - t) := by
    intro i
    have := Nat.testBit_two_pow_mul_add (2 * m + 1) (b := 0) (i := t) hp i
    rw [Nat.add_zero] at this
    rw [hm, this]
    simp
  have hx1 : ∀ i, (x - 1).testBit i = if i < t then (2 ^ t - 1).testBit i else (2 * m).testBit (i - t) := by
    intro i
    have h2 : x - 1 = 2 ^ t * (2 * m) + (2 ^ t - 1) := by
      rw [hm, Nat.mul_add, Nat.mul_one]
      omega
    rw [h2]
    exact Nat.testBit_two_pow_mul_add (2 * m) (by omega) i
  refine ⟨?_, ?_, hk, ?_⟩
  · rw [hx]
    simp [Nat.testBit_zero]
  · intro i hi
    rw [hx, if_pos hi]
  · intro i
    rw [Nat.testBit_and, hx, hx1]
    by_cases h1 : i < t
    · simp [h1]
    · rw [if_neg h1, if_neg h1]
      by_cases h2 : i = t
      · subst h2
        simp [Nat.testBit_zero]
      · obtain ⟨j, rfl⟩ : ∃ j, i = t + (j + 1) := ⟨i - t - 1, by omega⟩
        have e3 : t + (j + 1) - t = j + 1 := by omega
        rw [e3, Nat.testBit_succ, Nat.testBit_succ]
        have d1 : (2 * m + 1) / 2 = m := by omega
        have d2 : 2 * m / 2 = m := by omega
        rw [d1, d2]
        simp
/-- Whether a bit of a row of words is on. -/
def bitOn (f : Nat → Int) (i : Nat) : Bool := (f (i / 32)).toNat.testBit (i % 32)
/-- The bits below m that are on, the lowest first. -/
def bitsL (f : Nat → Int) (m : Nat) : List Int := ((List.range m).filter (bitOn f)).map fun i : Nat => (i : Int)
theorem bitsL_zero (f : Nat → Int) : bitsL f 0 = [] := rfl
theorem bitsL_on {f : Nat → Int} {m : Nat} (h : bitOn f m = true) : bitsL f (m + 1) = bitsL f m ++ [(m : Int)] := by
  simp [bitsL, List.range_succ, List.filter_append, h]
theorem bitsL_off {f : Nat → Int} {m : Nat} (h : bitOn f m = false) : bitsL f (m + 1) = bitsL f m := by
  simp [bitsL, List.range_succ, List.filter_append, h]
theorem bitsL_none {f : Nat → Int} {a : Nat} : ∀ b, a ≤ b → (∀ i, a ≤ i → i < b → bitOn f i = false) → bitsL f b = bitsL f a
  | 0, h, _ => by obtain rfl : a = 0 := by omega
                  rfl
  | b + 1, h, hn => by
    by_cases e : a = b + 1
    · rw [e]
    · rw [bitsL_off (hn b (by omega) (by omega))]
      exact bitsL_none b (by omega) (fun i h1 h2 => hn i h1 (by omega))
theorem bitsL_pre (f : Nat → Int) (a : Nat) : ∀ b, a ≤ b → ∃ r, bitsL f b = bitsL f a ++ r
  | 0, h => by obtain rfl : a = 0 := by omega
               exact ⟨[], by simp⟩
  | b + 1, h => by
    by_cases e : a = b + 1
    · exact ⟨[], by rw [e]; simp⟩
    · obtain ⟨r, hr⟩ := bitsL_pre f a b (by omega)
      by_cases hb : bitOn f b = true
      · exact ⟨r ++ [(b : Int)], by rw [bitsL_on hb, hr]; simp⟩
      · exact ⟨r, by rw [bitsL_off (by simpa using hb), hr]⟩
theorem bitsL_len (f : Nat → Int) : ∀ m, (bitsL f m).length ≤ m
  | 0 => by simp [bitsL]
  | m + 1 => by
    have := bitsL_len f m
    by_cases hb : bitOn f m = true
    · rw [bitsL_on hb]; simp; omega
    · rw [bitsL_off (by simpa using hb)]; omega
theorem bitsL_step {f : Nat → Int} {a t : Nat} (h : a ≤ t) (hn : ∀ i, a ≤ i → i < t → bitOn f i = false) (ho : bitOn f t = true) : bitsL f (t + 1) = bitsL f a ++ [(t : Int)] := by
  rw [bitsL_on ho, bitsL_none t h hn]
theorem bitsL_mem {f : Nat → Int} {m : Nat} {x : Int} (h : x ∈ bitsL f m) : ∃ i : Nat, x = i ∧ i < m := by
  unfold bitsL at h
  obtain ⟨i, hi, rfl⟩ := List.mem_map.1 h
  have := List.mem_filter.1 hi
  exact ⟨i, rfl, by simpa using this.1⟩
/-- What is left of a word when the bits below p have come. -/
def Rest (x p r : Nat) : Prop := r < 2 ^ 32 ∧ ∀ i, r.testBit i = (x.testBit i && decide (p ≤ i))
theorem rest_start {x : Nat} (h : x < 2 ^ 32) : Rest x 0 x := ⟨h, fun i => by simp⟩
theorem rest_step {x p r : Nat} (h : Rest x p r) (h0 : r ≠ 0) : p ≤ Lib.ctz 32 r ∧ Lib.ctz 32 r < 32 ∧ x.testBit (Lib.ctz 32 r) = true ∧ (∀ i, p ≤ i → i < Lib.ctz 32 r → x.testBit i = false) ∧ Rest x (Lib.ctz 32 r + 1) (r &&& (r - 1)) := by
  obtain ⟨h1, h2, h3, h4⟩ := ctz_bits r h0 h.1
  have h5 := h.2 (Lib.ctz 32 r)
  rw [h1] at h5
  have h6 : x.testBit (Lib.ctz 32 r) = true ∧ p ≤ Lib.ctz 32 r := by simpa using h5.symm
  refine ⟨h6.2, h3, h6.1, fun i hi hl => ?_, ?_, fun i => ?_⟩
  · have h7 := h.2 i
    rw [h2 i hl] at h7
    simpa [hi] using h7.symm
  · exact Nat.lt_of_le_of_lt Nat.and_le_left h.1
  · rw [h4 i, h.2 i]
    by_cases hl : Lib.ctz 32 r < i
    · have : p ≤ i := by omega
      have h8 : Lib.ctz 32 r + 1 ≤ i := hl
      simp [hl, this, h8]
    · have h8 : ¬ Lib.ctz 32 r + 1 ≤ i := by omega
      simp [hl, h8]
theorem rest_end {x p : Nat} (h : Rest x p 0) : ∀ i, p ≤ i → x.testBit i = false := by
  intro i hi
  have := h.2 i
  simpa [hi] using this.symm
theorem word_on (f : Nat → Int) (k j : Nat) (hj : j < 32) : bitOn f (32 * k + j) = (f k).toNat.testBit j := by
  unfold bitOn
  have e1 : (32 * k + j) / 32 = k := by omega
  have e2 : (32 * k + j) % 32 = j := by omega
  rw [e1, e2]
/-- One bit of a word comes. -/
theorem come_step {f : Nat → Int} {k p r : Nat} (h : Rest (f k).toNat p r) (h0 : r ≠ 0) : bitsL f (32 * k + (Lib.ctz 32 r + 1)) = bitsL f (32 * k + p) ++ [((32 * k + Lib.ctz 32 r : Nat) : Int)] ∧ p ≤ Lib.ctz 32 r ∧ Lib.ctz 32 r < 32 ∧ Rest (f k).toNat (Lib.ctz 32 r + 1) (r &&& (r - 1)) := by
  obtain ⟨h1, h2, h3, h4, h5⟩ := rest_step h h0
  refine ⟨?_, h1, h2, h5⟩
  rw [← Nat.add_assoc]
  refine bitsL_step (by omega) (fun i hi hl => ?_) ?_
  · obtain ⟨j, rfl⟩ : ∃ j, i = 32 * k + j := ⟨i - 32 * k, by omega⟩
    rw [word_on f k j (by omega)]
    exact h4 j (by omega) (by omega)
  · rw [word_on f k _ h2]
    exact h3
/-- A word is over. -/
theorem come_end {f : Nat → Int} {k p : Nat} (hp : p ≤ 32) (h : Rest (f k).toNat p 0) : bitsL f (32 * (k + 1)) = bitsL f (32 * k + p) := by
  refine bitsL_none _ (by omega) (fun i hi hl => ?_)
  obtain ⟨j, rfl⟩ : ∃ j, i = 32 * k + j := ⟨i - 32 * k, by omega⟩
  rw [word_on f k j (by omega)]
  exact rest_end h j (by omega)
theorem rest_and (r : Nat) (h0 : r ≠ 0) (h : r < 2 ^ 32) : bits .and .u32 (r : Int) ((r : Int) - 1) = ((r &&& (r - 1) : Nat) : Int) := by
  have e : (r : Int) - 1 = ((r - 1 : Nat) : Int) := by omega
  rw [e, (bits_nat .u32 32 (by decide) wraps_u32w r (r - 1) h (by omega)).1]
/-- A right vector has no bit on from its bits on. -/
theorem right_bits {b : Int} {n : Nat} {f : Nat → Int} (h : Right b n f) : bitsL f (32 * n) = bitsL f b.toNat := by
  obtain ⟨h1, h2, h3, h4, h5⟩ := h
  refine bitsL_none _ (by omega) (fun i hi hl => ?_)
  have hn : 0 < n := by omega
  obtain ⟨j, rfl⟩ : ∃ j, i = 32 * (n - 1) + j := ⟨i - 32 * (n - 1), by omega⟩
  rw [word_on f (n - 1) j (by omega)]
  have hr := h4 (n - 1) (by omega)
  rcases h5 with h5 | h5
  · omega
  · have h6 : (f (n - 1)).toNat < 2 ^ (b % 32).toNat := by
      have e : ((f (n - 1)).toNat : Int) = f (n - 1) := by omega
      have : ((f (n - 1)).toNat : Int) < ((2 ^ (b % 32).toNat : Nat) : Int) := by rw [e]; simpa using h5
      exact_mod_cast this
    exact Nat.testBit_lt_two_pow (Nat.lt_of_lt_of_le h6 (Nat.pow_le_pow_right (by decide) (by omega)))
theorem getB_on {b : Int} {n : Nat} {f : Nat → Int} (h : Right b n f) (i : Nat) (hi : (i : Int) < b) : getB (f (i / 32)) (i % 32) = bitOn f i := by
  have hr := h.2.2.2.1 (i / 32) (by have := h.2.2.1; omega)
  unfold bitOn
  rw [← getB_nat _ _ (by omega)]
  congr 1
  omega
/-- The bits that come. -/
def Come (b : Int) (m : Nat) (f : Nat → Int) (L : List Int) : Prop := (Right b m f → L = bitsL f (32 * m)) ∧ (¬ Right b m f → L = [])
theorem come_some (b : Int) (m : Nat) (f : Nat → Int) : ∃ L, Come b m f L := by
  by_cases h : Right b m f
  · exact ⟨_, fun _ => rfl, fun h2 => absurd h h2⟩
  · exact ⟨[], fun h2 => absurd h2 h, fun _ => rfl⟩
theorem Come.len {b : Int} {m : Nat} {f : Nat → Int} {L : List Int} (h : Come b m f L) : L.length ≤ 320 := by
  by_cases h2 : Right b m f
  · rw [h.1 h2]
    have := bitsL_len f (32 * m)
    have := h2.2.2.1
    have := h2.2.1
    omega
  · rw [h.2 h2]
    simp
theorem low_found {b : Int} {m k : Nat} {f : Nat → Int} {L : List Int} (h : Right b m f) (hL : Come b m f L) (hk : (k : Int) < b) (ho : bitOn f k = true) (hn : bitsL f k = []) : L.head?.getD (-1) = (k : Int) := by
  obtain ⟨r, hr⟩ := bitsL_pre f (k + 1) b.toNat (by omega)
  rw [hL.1 h, right_bits h, hr, bitsL_on ho, hn]
  rfl
theorem low_none {b : Int} {m : Nat} {f : Nat → Int} {L : List Int} (h : Right b m f) (hL : Come b m f L) (hn : bitsL f b.toNat = []) : L.head?.getD (-1) = -1 := by
  rw [hL.1 h, right_bits h, hn]
  rfl
theorem high_found {b : Int} {m k : Nat} {f : Nat → Int} {L : List Int} (h : Right b m f) (hL : Come b m f L) (ho : bitOn f k = true) (hn : bitsL f b.toNat = bitsL f (k + 1)) : L.getLast?.getD (-1) = (k : Int) := by
  rw [hL.1 h, right_bits h, hn, bitsL_on ho]
  simp
theorem high_none {b : Int} {m : Nat} {f : Nat → Int} {L : List Int} (h : Right b m f) (hL : Come b m f L) (hn : bitsL f b.toNat = bitsL f 0) : L.getLast?.getD (-1) = -1 := by
  rw [hL.1 h, right_bits h, hn, bitsL_zero]
  rfl
theorem count_all {b : Int} {m : Nat} {f : Nat → Int} {L : List Int} (h : Right b m f) (hL : Come b m f L) : L.length = (bitsL f b.toNat).length := by
  rw [hL.1 h, right_bits h]
end Go.Proofs.YthnnenbpbkmbhaaDoor
namespace Go.Proofs.YthnnenbpbkmbhaaDoor
open Go.RowKit

/-- The words of what was taken away and added again carry as they borrowed. -/
theorem carry_back {b : Int} {n : Nat} {f g : Nat → Int} (h1 : ∀ i, i < n → 0 ≤ f i ∧ f i ≤ 4294967295) (h2 : ∀ i, i < n → 0 ≤ g i ∧ g i ≤ 4294967295) : ∀ k, k < n → carryF 0 (cutF b n (difF f g)) g k = borF f g k
  | 0, _ => rfl
  | k + 1, hk => by
    have ih := carry_back (b := b) h1 h2 k (by omega)
    have a := h1 k (by omega)
    have c := h2 k (by omega)
    have d := bor_range f g k
    have e : cutF b n (difF f g) k = (f k - g k - borF f g k) % 4294967296 := by unfold cutF difF; rw [if_neg (by omega)]
    unfold carryF borF
    rw [ih, e]
    split <;> omega
/-- What is taken away is added again. -/
theorem sub_add {b : Int} {n : Nat} {f g : Nat → Int} (h1 : Right b n f) (h2 : Right b n g) : ∀ i, i < n → cutF b n (sumF 0 (cutF b n (difF f g)) g) i = f i := by
  intro i hi
  have hf := h1.2.2.2.1
  have hg := h2.2.2.2.1
  have hc := carry_back (b := b) hf hg i hi
  have a := hf i hi
  have c := hg i hi
  have d := bor_range f g i
  by_cases hl : i + 1 = n ∧ 0 < b % 32
  · obtain ⟨P, hP⟩ : ∃ P : Int, (2 : Int) ^ (b % 32).toNat = P := ⟨_, rfl⟩
    have hdv : P ∣ 4294967296 := by
      rw [← hP, show (4294967296 : Int) = 2 ^ 32 from by decide]
      exact ⟨2 ^ (32 - (b % 32).toNat), by rw [← Int.pow_add]; congr 1; omega⟩
    have e : cutF b n (difF f g) i = (f i - g i - borF f g i) % P := by
      unfold cutF difF
      rw [if_pos hl, hP, Int.emod_emod_of_dvd _ hdv]
    have e2 : cutF b n (sumF 0 (cutF b n (difF f g)) g) i = ((f i - g i - borF f g i) % P + g i + borF f g i) % P := by
      unfold sumF
      rw [cutF, if_pos hl, hP, e, hc, Int.emod_emod_of_dvd _ hdv]
    have hlast : f i < P := by
      have hi1 : i = n - 1 := by omega
      rcases h1.2.2.2.2 with h | h
      · omega
      · rw [hi1, ← hP]; exact h
    rw [e2]
    have h3 : (f i - g i - borF f g i) % P = f i - g i - borF f g i - P * ((f i - g i - borF f g i) / P) := by rw [Int.emod_def]
    have h4 : (f i - g i - borF f g i) % P + g i + borF f g i = f i + P * (-((f i - g i - borF f g i) / P)) := by
      rw [h3, Int.mul_neg]
      omega
    rw [h4, Int.add_mul_emod_self_left, Int.emod_eq_of_lt a.1 hlast]
  · have e : cutF b n (difF f g) i = (f i - g i - borF f g i) % 4294967296 := by unfold cutF difF; rw [if_neg hl]
    have e2 : cutF b n (sumF 0 (cutF b n (difF f g)) g) i = ((f i - g i - borF f g i) % 4294967296 + g i + borF f g i) % 4294967296 := by
      unfold sumF
      rw [cutF, if_neg hl, e, hc]
    rw [e2]
    omega
theorem sum_congr {cr : Int} {f f' g g' : Nat → Int} {n : Nat} (hf : ∀ i, i < n → f i = f' i) (hg : ∀ i, i < n → g i = g' i) : (∀ k, k ≤ n → carryF cr f g k = carryF cr f' g' k) ∧ ∀ i, i < n → sumF cr f g i = sumF cr f' g' i := by
  have hc : ∀ k, k ≤ n → carryF cr f g k = carryF cr f' g' k := by
    intro k
    induction k with
    | zero => intro _; rfl
    | succ k ih =>
      intro hk
      unfold carryF
      rw [ih (by omega), hf k (by omega), hg k (by omega)]
  refine ⟨hc, fun i hi => ?_⟩
  unfold sumF
  rw [hc i (by omega), hf i hi, hg i hi]
theorem cut_congr {b : Int} {n : Nat} {f f' : Nat → Int} (h : ∀ i, i < n → f i = f' i) : ∀ i, i < n → cutF b n f i = cutF b n f' i := by
  intro i hi
  unfold cutF
  rw [h i hi]
/-- What is cut is right. -/
theorem cut_right {b : Int} {n : Nat} {f : Nat → Int} (hb0 : 1 ≤ b) (hb1 : b ≤ 320) (hn : (n : Int) = (b + 31) / 32) (h : ∀ i, i < n → 0 ≤ f i ∧ f i ≤ 4294967295) : Right b n (cutF b n f) := by
  have hp : (0 : Int) < 2 ^ (b % 32).toNat := Int.pow_pos (by decide)
  refine ⟨hb0, hb1, hn, fun i hi => ?_, ?_⟩
  · have := h i hi
    unfold cutF
    split
    · have h1 := Int.emod_nonneg (f i) (Int.ne_of_gt hp)
      have h2 : f i % 2 ^ (b % 32).toNat ≤ f i := by
        have h3 := Int.emod_add_mul_ediv (f i) (2 ^ (b % 32).toNat)
        have h4 : 0 ≤ 2 ^ (b % 32).toNat * (f i / 2 ^ (b % 32).toNat) := Int.mul_nonneg (Int.le_of_lt hp) (Int.ediv_nonneg this.1 (Int.le_of_lt hp))
        omega
      omega
    · exact this
  · by_cases ho : b % 32 = 0
    · exact Or.inl ho
    · refine Or.inr ?_
      unfold cutF
      rw [if_pos ⟨by omega, by omega⟩]
      exact Int.emod_lt_of_pos _ hp
/-- Counting what is on in both and in just one. -/
theorem count_pair (f g x z : Nat → Int) : ∀ m, (∀ i, i < m → bitOn x i = (bitOn f i && bitOn g i)) → (∀ i, i < m → bitOn z i = (bitOn f i != bitOn g i)) → (bitsL f m).length + (bitsL g m).length = (bitsL z m).length + 2 * (bitsL x m).length
  | 0, _, _ => rfl
  | m + 1, hx, hz => by
    have ih := count_pair f g x z m (fun i hi => hx i (by omega)) (fun i hi => hz i (by omega))
    have hl : ∀ h : Nat → Int, (bitsL h (m + 1)).length = (bitsL h m).length + if bitOn h m then 1 else 0 := by
      intro h
      unfold bitsL
      rw [List.range_succ, List.filter_append]
      cases hb : bitOn h m <;> simp [hb]
    rw [hl f, hl g, hl z, hl x, hx m (by omega), hz m (by omega)]
    cases bitOn f m <;> cases bitOn g m <;> simp <;> omega
theorem place_lt {b : Int} {n i : Nat} {f : Nat → Int} (h : Right b n f) (hi : (i : Int) < b) : i / 32 < n := by have := h.2.2.1; omega
theorem on_and {b : Int} {n i : Nat} {f g : Nat → Int} (h1 : Right b n f) (h2 : Right b n g) (hi : (i : Int) < b) : bitOn (fun i => bits .and .i64 (f i) (g i)) i = (bitOn f i && bitOn g i) := by
  have hk := place_lt h1 hi
  unfold bitOn
  dsimp only
  obtain ⟨a, ha, ha2⟩ := word_nat (h1.word hk)
  obtain ⟨c, hc, hc2⟩ := word_nat (h2.word hk)
  rw [ha, hc, (bits_nat .i64 32 (by decide) wraps_i64w a c ha2 hc2).1]
  simp
theorem on_or {b : Int} {n i : Nat} {f g : Nat → Int} (h1 : Right b n f) (h2 : Right b n g) (hi : (i : Int) < b) : bitOn (fun i => bits .or .i64 (f i) (g i)) i = (bitOn f i || bitOn g i) := by
  have hk := place_lt h1 hi
  unfold bitOn
  dsimp only
  obtain ⟨a, ha, ha2⟩ := word_nat (h1.word hk)
  obtain ⟨c, hc, hc2⟩ := word_nat (h2.word hk)
  rw [ha, hc, (bits_nat .i64 32 (by decide) wraps_i64w a c ha2 hc2).2]
  simp
theorem on_xor {b : Int} {n i : Nat} {f g : Nat → Int} (h1 : Right b n f) (h2 : Right b n g) (hi : (i : Int) < b) : bitOn (fun i => bits .xor .i64 (f i) (g i)) i = (bitOn f i != bitOn g i) := by
  have hk := place_lt h1 hi
  unfold bitOn
  dsimp only
  obtain ⟨a, ha, ha2⟩ := word_nat (h1.word hk)
  obtain ⟨c, hc, hc2⟩ := word_nat (h2.word hk)
  rw [ha, hc, bits_xor_nat .i64 32 (by decide) wraps_i64w a c ha2 hc2]
  simp
/-- A bit ahead of the cut stays. -/
theorem on_cut {b : Int} {n i : Nat} {f : Nat → Int} (hn : (n : Int) = (b + 31) / 32) (h0 : 0 ≤ f (i / 32)) (hi : (i : Int) < b) : bitOn (cutF b n f) i = bitOn f i := by
  unfold bitOn cutF
  split
  · rename_i h
    obtain ⟨a, ha⟩ := Int.eq_ofNat_of_zero_le h0
    have e : (f (i / 32) % 2 ^ (b % 32).toNat).toNat = a % 2 ^ (b % 32).toNat := by
      rw [ha]
      have : ((a : Int) % 2 ^ (b % 32).toNat) = ((a % 2 ^ (b % 32).toNat : Nat) : Int) := by simp
      rw [this, Int.toNat_natCast]
    rw [e, ha, Int.toNat_natCast, Nat.testBit_mod_two_pow]
    have : i % 32 < (b % 32).toNat := by omega
    simp [this]
  · rfl
theorem not_bit (a q : Nat) (h : a < 2 ^ 32) (hq : q < 32) : (4294967295 - a).testBit q = !a.testBit q := by
  have := Nat.testBit_two_pow_sub_succ h q
  rw [show 2 ^ 32 - (a + 1) = 4294967295 - a from by omega] at this
  rw [this]
  simp [hq]
theorem on_not {b : Int} {n i : Nat} {f : Nat → Int} (h : Right b n f) (hi : (i : Int) < b) : bitOn (cutF b n (notF f)) i = !bitOn f i := by
  have hk := place_lt h hi
  obtain ⟨a, ha, ha2⟩ := word_nat (h.word hk)
  rw [on_cut h.2.2.1 (by unfold notF; rw [ha]; omega) hi]
  unfold bitOn notF
  rw [ha]
  have e : ((4294967295 : Int) - (a : Int)).toNat = 4294967295 - a := by omega
  rw [e, Int.toNat_natCast]
  exact not_bit a _ ha2 (Nat.mod_lt _ (by decide))
theorem up_bit (a c q : Nat) (hc : c ≤ 1) (hq : q < 32) : ((2 * a + c) % 4294967296).testBit q = if q = 0 then decide (c = 1) else a.testBit (q - 1) := by
  rw [show (4294967296 : Nat) = 2 ^ 32 from rfl, Nat.testBit_mod_two_pow]
  simp only [hq, decide_true, Bool.true_and]
  cases q with
  | zero =>
    rw [Nat.testBit_zero]
    simp
    omega
  | succ q =>
    rw [Nat.testBit_succ]
    have : (2 * a + c) / 2 = a := by omega
    rw [this]
    simp
theorem on_up {b : Int} {n i : Nat} {f : Nat → Int} (h : Right b n f) (hi : (i : Int) < b) : bitOn (cutF b n (sumF 0 f f)) i = if i = 0 then false else bitOn f (i - 1) := by
  have hk := place_lt h hi
  rw [on_cut h.2.2.1 (by unfold sumF; omega) hi]
  obtain ⟨a, ha, ha2⟩ := word_nat (h.word hk)
  obtain ⟨hc0, hc1⟩ := carry_range (cr := 0) (by decide) (by decide) h.2.2.2.1 h.2.2.2.1 (i / 32) (by omega)
  obtain ⟨c, hc⟩ := Int.eq_ofNat_of_zero_le hc0
  have e : (sumF 0 f f (i / 32)).toNat = (2 * a + c) % 4294967296 := by
    unfold sumF
    rw [ha, hc]
    omega
  show (sumF 0 f f (i / 32)).toNat.testBit (i % 32) = _
  rw [e, up_bit a c (i % 32) (by omega) (Nat.mod_lt _ (by decide))]
  by_cases hq : i % 32 = 0
  · rw [if_pos hq]
    by_cases h0 : i = 0
    · subst h0
      rw [if_pos rfl]
      have : c = 0 := by
        have : carryF 0 f f 0 = 0 := rfl
        rw [show (0 : Nat) / 32 = 0 from rfl, this] at hc
        omega
      simp [this]
    · rw [if_neg h0]
      obtain ⟨k, hk2⟩ : ∃ k, i / 32 = k + 1 := ⟨i / 32 - 1, by omega⟩
      obtain ⟨d, hd, hd2⟩ := word_nat (h.word (i := k) (by omega))
      obtain ⟨hp0, hp1⟩ := carry_range (cr := 0) (by decide) (by decide) h.2.2.2.1 h.2.2.2.1 k (by omega)
      have hcc : (c : Int) = (f k + f k + carryF 0 f f k) / 4294967296 := by rw [← hc, hk2]; rfl
      have e2 : (i - 1) / 32 = k := by omega
      have e3 : (i - 1) % 32 = 31 := by omega
      unfold bitOn
      rw [e2, e3, hd, Int.toNat_natCast, Nat.testBit_eq_decide_div_mod_eq]
      rw [hd] at hcc
      congr 1
      simp only [eq_iff_iff]
      omega
  · rw [if_neg hq]
    have h0 : ¬ i = 0 := by omega
    rw [if_neg h0]
    have e2 : (i - 1) / 32 = i / 32 := by omega
    have e3 : (i - 1) % 32 = i % 32 - 1 := by omega
    unfold bitOn
    rw [e2, e3, ha, Int.toNat_natCast]
/-- A bit that is set is as it is asked for. -/
theorem set_bit (x : Int) (q : Nat) (on : Bool) (hq : q < 32) (hx : Word 32 x) : Word 32 (if getB x q = on then x else bits .xor .i64 x (2 ^ q)) ∧ getB (if getB x q = on then x else bits .xor .i64 x (2 ^ q)) q = on ∧ ∀ j : Nat, x < 2 ^ j → q < j → j ≤ 32 → (if getB x q = on then x else bits .xor .i64 x (2 ^ q)) < 2 ^ j := by
  obtain ⟨a, rfl, ha⟩ := word_nat hx
  have hp : 2 ^ q < 2 ^ 32 := Nat.pow_lt_pow_right (by decide) hq
  have e : (2 : Int) ^ q = ((2 ^ q : Nat) : Int) := by simp
  rw [e, bits_xor_nat .i64 32 (by decide) wraps_i64w a _ ha hp]
  have hl := Nat.xor_lt_two_pow ha hp
  by_cases h : getB (a : Int) q = on
  · rw [if_pos h]
    exact ⟨hx, h, fun j hj _ _ => hj⟩
  · rw [if_neg h]
    refine ⟨⟨Int.natCast_nonneg _, by exact_mod_cast hl⟩, ?_, fun j hj hqj _ => ?_⟩
    · rw [getB_nat _ _ hl, Nat.testBit_xor, Nat.testBit_two_pow]
      rw [getB_nat _ _ ha] at h
      cases hb : a.testBit q <;> cases on <;> simp_all
    · have h1 : a < 2 ^ j := by exact_mod_cast hj
      have h2 : 2 ^ q < 2 ^ j := Nat.pow_lt_pow_right (by decide) hqj
      have := Nat.xor_lt_two_pow h1 h2
      exact_mod_cast this
theorem set_right {b : Int} {n k q : Nat} {f : Nat → Int} {i : Int} (on : Bool) (h : Right b n f) (h1 : i < b) (hk : i / 32 = (k : Int)) (hq : i % 32 = (q : Int)) : Right b n (setF f k q on) ∧ getB (setF f k q on k) q = on := by
  have hkn : k < n := by have := h.2.2.1; omega
  obtain ⟨w1, w2, w3⟩ := set_bit (f k) q on (by omega) (h.word hkn)
  have ek : setF f k q on k = if getB (f k) q = on then f k else bits .xor .i64 (f k) (2 ^ q) := by unfold setF; rw [if_pos rfl]
  refine ⟨⟨h.1, h.2.1, h.2.2.1, fun j hj => ?_, ?_⟩, by rw [ek]; exact w2⟩
  · by_cases e : j = k
    · subst e
      rw [ek]
      exact ⟨w1.1, by have := w1.2; omega⟩
    · have : setF f k q on j = f j := by unfold setF; rw [if_neg e]
      rw [this]
      exact h.2.2.2.1 j hj
  · rcases h.2.2.2.2 with h5 | h5
    · exact Or.inl h5
    · by_cases ho : b % 32 = 0
      · exact Or.inl ho
      · refine Or.inr ?_
        by_cases e : n - 1 = k
        · rw [e, ek]
          rw [e] at h5
          exact w3 _ h5 (by have := h.2.2.1; omega) (by omega)
        · have : setF f k q on (n - 1) = f (n - 1) := by unfold setF; rw [if_neg e]
          rw [this]
          exact h5
end Go.Proofs.YthnnenbpbkmbhaaDoor
