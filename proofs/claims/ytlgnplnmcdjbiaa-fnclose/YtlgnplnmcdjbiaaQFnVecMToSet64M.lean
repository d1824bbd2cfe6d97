/- What is proved here: plain arithmetic for the law of vectors: what is taken away is added again; the counts.
   What is said here: the words of places that are closed by one subtraction under given masks; what they are put together of is right.
   What is said here: classes of bytes as plain functions: which bytes a text has, the class of those of which a row says so.
   What is proved here: plain arithmetic on sets of bytes that are kept as four words of 64 bits: one byte more, put together word by word, the lowest byte of what is left. -/
import Derived.Test.YtlgnplnmcdjbiaaQVecMToCtzM
import Derived.Test.YtlgnplnmcdjbiaaQCellDToMaskD
import Derived.Test.YtlgnplnmcdjbiaaQWordsWToWordsForW
import Derived.Test.YtlgnplnmcdjbiaaProg
import Derived.WalkKit
import Derived.Laws.BytesArg
import Derived.Maps.AppendAt
import Derived.Lib.TrailingZeros
import Derived.Laws.BitsLemmas
import Derived.Laws.Bits64b
namespace Go.Proofs.Ytlgnplnmcdjbiaa
open Go.RowKit

/-- The words of what was taken away and added again carry as they borrowed. -/
theorem carry_back {b : Int} {n : Nat} {f g : Nat → Int} (h1 : ∀ i, i < n → 0 ≤ f i ∧ f i ≤ 4294967295) (h2 : ∀ i, i < n → 0 ≤ g i ∧ g i ≤ 4294967295) : ∀ k, k < n → carryF 0 (cutF b n (difF f g)) g k = borF f g k
  | 0, _ => rfl
  | k + 1, hk => by
    have ih := carry_back (b := b) h1 h2 k (by omega)
    have a := h1 k (by omega)
    have c := h2 k (by omega)
    have d := bor_range f g k
    have e : cutF b n (difF f g) k = (f k - g k - borF f g k) % 4294967296 := by unfold cutF difF; rw [if_neg (by omega)]
    unfold carryF borF
    rw [ih, e]
    split <;> omega
/-- What is taken away is added again. -/
theorem sub_add {b : Int} {n : Nat} {f g : Nat → Int} (h1 : Right b n f) (h2 : Right b n g) : ∀ i, i < n → cutF b n (sumF 0 (cutF b n (difF f g)) g) i = f i := by
  intro i hi
  have hf := h1.2.2.2.1
  have hg := h2.2.2.2.1
  have hc := carry_back (b := b) hf hg i hi
  have a := hf i hi
  have c := hg i hi
  have d := bor_range f g i
  by_cases hl : i + 1 = n ∧ 0 < b % 32
  · obtain ⟨P, hP⟩ : ∃ P : Int, (2 : Int) ^ (b % 32).toNat = P := ⟨_, rfl⟩
    have hdv : P ∣ 4294967296 := by
      rw [← hP, show (4294967296 : Int) = 2 ^ 32 from by decide]
      exact ⟨2 ^ (32 - (b % 32).toNat), by rw [← Int.pow_add]; congr 1; omega⟩
    have e : cutF b n (difF f g) i = (f i - g i - borF f g i) % P := by
      unfold cutF difF
      rw [if_pos hl, hP, Int.emod_emod_of_dvd _ hdv]
    have e2 : cutF b n (sumF 0 (cutF b n (difF f g)) g) i = ((f i - g i - borF f g i) % P + g i + borF f g i) % P := by
      unfold sumF
      rw [cutF, if_pos hl, hP, e, hc, Int.emod_emod_of_dvd _ hdv]
    have hlast : f i < P := by
      have hi1 : i = n - 1 := by omega
      rcases h1.2.2.2.2 with h | h
      · omega
      · rw [hi1, ← hP]; exact h
    rw [e2]
    have h3 : (f i - g i - borF f g i) % P = f i - g i - borF f g i - P * ((f i - g i - borF f g i) / P) := by rw [Int.emod_def]
    have h4 : (f i - g i - borF f g i) % P + g i + borF f g i = f i + P * (-((f i - g i - borF f g i) / P)) := by
      rw [h3, Int.mul_neg]
      omega
    rw [h4, Int.add_mul_emod_self_left, Int.emod_eq_of_lt a.1 hlast]
  · have e : cutF b n (difF f g) i = (f i - g i - borF f g i) % 4294967296 := by unfold cutF difF; rw [if_neg hl]
    have e2 : cutF b n (sumF 0 (cutF b n (difF f g)) g) i = ((f i - g i - borF f g i) % 4294967296 + g i + borF f g i) % 4294967296 := by
      unfold sumF
      rw [cutF, if_neg hl, e, hc]
    rw [e2]
    omega
theorem sum_congr {cr : Int} {f f' g g' : Nat → Int} {n : Nat} (hf : ∀ i, i < n → f i = f' i) (hg : ∀ i, i < n → g i = g' i) : (∀ k, k ≤ n → carryF cr f g k = carryF cr f' g' k) ∧ ∀ i, i < n → sumF cr f g i = sumF cr f' g' i := by
  have hc : ∀ k, k ≤ n → carryF cr f g k = carryF cr f' g' k := by
    intro k
    induction k with
    | zero => intro _; rfl
    | succ k ih =>
      intro hk
      unfold carryF
      rw [ih (by omega), hf k (by omega), hg k (by omega)]
  refine ⟨hc, fun i hi => ?_⟩
  unfold sumF
  rw [hc i (by omega), hf i hi, hg i hi]
theorem cut_congr {b : Int} {n : Nat} {f f' : Nat → Int} (h : ∀ i, i < n → f i = f' i) : ∀ i, i < n → cutF b n f i = cutF b n f' i := by
  intro i hi
  unfold cutF
  rw [h i hi]
/-- What is cut is right. -/
theorem cut_right {b : Int} {n : Nat} {f : Nat → Int} (hb0 : 1 ≤ b) (hb1 : b ≤ 320) (hn : (n : Int) = (b + 31) / 32) (h : ∀ i, i < n → 0 ≤ f i ∧ f i ≤ 4294967295) : Right b n (cutF b n f) := by
  have hp : (0 : Int) < 2 ^ (b % 32).toNat := Int.pow_pos (by decide)
  refine ⟨hb0, hb1, hn, fun i hi => ?_, ?_⟩
  · have := h i hi
    unfold cutF
    split
    · have h1 := Int.emod_nonneg (f i) (Int.ne_of_gt hp)
      have h2 : f i % 2 ^ (b % 32).toNat ≤ f i := by
        have h3 := Int.emod_add_mul_ediv (f i) (2 ^ (b % 32).toNat)
        have h4 : 0 ≤ 2 ^ (b % 32).toNat * (f i / 2 ^ (b % 32).toNat) := Int.mul_nonneg (Int.le_of_lt hp) (Int.ediv_nonneg this.1 (Int.le_of_lt hp))
        omega
      omega
    · exact this
  · by_cases ho : b % 32 = 0
    · exact Or.inl ho
    · refine Or.inr ?_
      unfold cutF
      rw [if_pos ⟨by omega, by omega⟩]
      exact Int.emod_lt_of_pos _ hp
/-- Counting what is on in both and in just one. -/
theorem count_pair (f g x z : Nat → Int) : ∀ m, (∀ i, i < m → bitOn x i = (bitOn f i && bitOn g i)) → (∀ i, i < m → bitOn z i = (bitOn f i != bitOn g i)) → (bitsL f m).length + (bitsL g m).length = (bitsL z m).length + 2 * (bitsL x m).length
  | 0, _, _ => rfl
  | m + 1, hx, hz => by
    have ih := count_pair f g x z m (fun i hi => hx i (by omega)) (fun i hi => hz i (by omega))
    have hl : ∀ h : Nat → Int, (bitsL h (m + 1)).length = (bitsL h m).length + if bitOn h m then 1 else 0 := by
      intro h
      unfold bitsL
      rw [List.range_succ, List.filter_append]
      cases hb : bitOn h m <;> simp [hb]
    rw [hl f, hl g, hl z, hl x, hx m (by omega), hz m (by omega)]
    cases bitOn f m <;> cases bitOn g m <;> simp <;> omega
theorem place_lt {b : Int} {n i : Nat} {f : Nat → Int} (h : Right b n f) (hi : (i : Int) < b) : i / 32 < n := by have := h.2.2.1; omega
theorem on_and {b : Int} {n i : Nat} {f g : Nat → Int} (h1 : Right b n f) (h2 : Right b n g) (hi : (i : Int) < b) : bitOn (fun i => bits .and .i64 (f i) (g i)) i = (bitOn f i && bitOn g i) := by
  have hk := place_lt h1 hi
  unfold bitOn
  dsimp only
  obtain ⟨a, ha, ha2⟩ := word_nat (h1.word hk)
  obtain ⟨c, hc, hc2⟩ := word_nat (h2.word hk)
  rw [ha, hc, (bits_nat .i64 32 (by decide) wraps_i64w a c ha2 hc2).1]
  simp
theorem on_or {b : Int} {n i : Nat} {f g : Nat → Int} (h1 : Right b n f) (h2 : Right b n g) (hi : (i : Int) < b) : bitOn (fun i => bits .or .i64 (f i) (g i)) i = (bitOn f i || bitOn g i) := by
  have hk := place_lt h1 hi
  unfold bitOn
  dsimp only
  obtain ⟨a, ha, ha2⟩ := word_nat (h1.word hk)
  obtain ⟨c, hc, hc2⟩ := word_nat (h2.word hk)
  rw [ha, hc, (bits_nat .i64 32 (by decide) wraps_i64w a c ha2 hc2).2]
  simp
theorem on_xor {b : Int} {n i : Nat} {f g : Nat → Int} (h1 : Right b n f) (h2 : Right b n g) (hi : (i : Int) < b) : bitOn (fun i => bits .xor .i64 (f i) (g i)) i = (bitOn f i != bitOn g i) := by
  have hk := place_lt h1 hi
  unfold bitOn
  dsimp only
  obtain ⟨a, ha, ha2⟩ := word_nat (h1.word hk)
  obtain ⟨c, hc, hc2⟩ := word_nat (h2.word hk)
  rw [ha, hc, bits_xor_nat .i64 32 (by decide) wraps_i64w a c ha2 hc2]
  simp
/-- A bit ahead of the cut stays. -/
theorem on_cut {b : Int} {n i : Nat} {f : Nat → Int} (hn : (n : Int) = (b + 31) / 32) (h0 : 0 ≤ f (i / 32)) (hi : (i : Int) < b) : bitOn (cutF b n f) i = bitOn f i := by
  unfold bitOn cutF
  split
  · rename_i h
    obtain ⟨a, ha⟩ := Int.eq_ofNat_of_zero_le h0
    have e : (f (i / 32) % 2 ^ (b % 32).toNat).toNat = a % 2 ^ (b % 32).toNat := by
      rw [ha]
      have : ((a : Int) % 2 ^ (b % 32).toNat) = ((a % 2 ^ (b % 32).toNat : Nat) : Int) := by simp
      rw [this, Int.toNat_natCast]
    rw [e, ha, Int.toNat_natCast, Nat.testBit_mod_two_pow]
    have : i % 32 < (b % 32).toNat := by omega
    simp [this]
  · rfl
theorem not_bit (a q : Nat) (h : a < 2 ^ 32) (hq : q < 32) : (4294967295 - a).testBit q = !a.testBit q := by
  have := Nat.testBit_two_pow_sub_succ h q
  rw [show 2 ^ 32 - (a + 1) = 4294967295 - a from by omega] at this
  rw [this]
  simp [hq]
theorem on_not {b : Int} {n i : Nat} {f : Nat → Int} (h : Right b n f) (hi : (i : Int) < b) : bitOn (cutF b n (notF f)) i = !bitOn f i := by
  have hk := place_lt h hi
  obtain ⟨a, ha, ha2⟩ := word_nat (h.word hk)
  rw [on_cut h.2.2.1 (by unfold notF; rw [ha]; omega) hi]
  unfold bitOn notF
  rw [ha]
  have e : ((4294967295 : Int) - (a : Int)).toNat = 4294967295 - a := by omega
  rw [e, Int.toNat_natCast]
  exact not_bit a _ ha2 (Nat.mod_lt _ (by decide))
theorem up_bit (a c q : Nat) (hc : c ≤ 1) (hq : q < 32) : ((2 * a + c) % 4294967296).testBit q = if q = 0 then decide (c = 1) else a.testBit (q - 1) := by
  rw [show (4294967296 : Nat) = 2 ^ 32 from rfl, Nat.testBit_mod_two_pow]
  simp only [hq, decide_true, Bool.true_and]
  cases q with
  | zero =>
    rw [Nat.testBit_zero]
    simp
    omega
  | succ q =>
    rw [Nat.testBit_succ]
    have : (2 * a + c) / 2 = a := by omega
    rw [this]
    simp
theorem on_up {b : Int} {n i : Nat} {f : Nat → Int} (h : Right b n f) (hi : (i : Int) < b) : bitOn (cutF b n (sumF 0 f f)) i = if i = 0 then false else bitOn f (i - 1) := by
  have hk := place_lt h hi
  rw [on_cut h.2.2.1 (by unfold sumF; omega) hi]
  obtain ⟨a, ha, ha2⟩ := word_nat (h.word hk)
  obtain ⟨hc0, hc1⟩ := carry_range (cr := 0) (by decide) (by decide) h.2.2.2.1 h.2.2.2.1 (i / 32) (by omega)
  obtain ⟨c, hc⟩ := Int.eq_ofNat_of_zero_le hc0
  have e : (sumF 0 f f (i / 32)).toNat = (2 * a + c) % 4294967296 := by
    unfold sumF
    rw [ha, hc]
    omega
  show (sumF 0 f f (i / 32)).toNat.testBit (i % 32) = _
  rw [e, up_bit a c (i % 32) (by omega) (Nat.mod_lt _ (by decide))]
  by_cases hq : i % 32 = 0
  · rw [if_pos hq]
    by_cases h0 : i = 0
    · subst h0
      rw [if_pos rfl]
      have : c = 0 := by
        have : carryF 0 f f 0 = 0 := rfl
        rw [show (0 : Nat) / 32 = 0 from rfl, this] at hc
        omega
      simp [this]
    · rw [if_neg h0]
      obtain ⟨k, hk2⟩ : ∃ k, i / 32 = k + 1 := ⟨i / 32 - 1, by omega⟩
      obtain ⟨d, hd, hd2⟩ := word_nat (h.word (i := k) (by omega))
      obtain ⟨hp0, hp1⟩ := carry_range (cr := 0) (by decide) (by decide) h.2.2.2.1 h.2.2.2.1 k (by omega)
      have hcc : (c : Int) = (f k + f k + carryF 0 f f k) / 4294967296 := by rw [← hc, hk2]; rfl
      have e2 : (i - 1) / 32 = k := by omega
      have e3 : (i - 1) % 32 = 31 := by omega
      unfold bitOn
      rw [e2, e3, hd, Int.toNat_natCast, Nat.testBit_eq_decide_div_mod_eq]
      rw [hd] at hcc
      congr 1
      simp only [eq_iff_iff]
      omega
  · rw [if_neg hq]
    have h0 : ¬ i = 0 := by omega
    rw [if_neg h0]
    have e2 : (i - 1) / 32 = i / 32 := by omega
    have e3 : (i - 1) % 32 = i % 32 - 1 := by omega
    unfold bitOn
    rw [e2, e3, ha, Int.toNat_natCast]
/-- A bit that is set is as it is asked for. -/
theorem set_bit (x : Int) (q : Nat) (on : Bool) (hq : q < 32) (hx : Word 32 x) : Word 32 (if getB x q = on then x else bits .xor .i64 x (2 ^ q)) ∧ getB (if getB x q = on then x else bits .xor .i64 x (2 ^ q)) q = on ∧ ∀ j : Nat, x < 2 ^ j → q < j → j ≤ 32 → (if getB x q = on then x else bits .xor .i64 x (2 ^ q)) < 2 ^ j := by
  obtain ⟨a, rfl, ha⟩ := word_nat hx
  have hp : 2 ^ q < 2 ^ 32 := Nat.pow_lt_pow_right (by decide) hq
  have e : (2 : Int) ^ q = ((2 ^ q : Nat) : Int) := by simp
  rw [e, bits_xor_nat .i64 32 (by decide) wraps_i64w a _ ha hp]
  have hl := Nat.xor_lt_two_pow ha hp
  by_cases h : getB (a : Int) q = on
  · rw [if_pos h]
    exact ⟨hx, h, fun j hj _ _ => hj⟩
  · rw [if_neg h]
    refine ⟨⟨Int.natCast_nonneg _, by exact_mod_cast hl⟩, ?_, fun j hj hqj _ => ?_⟩
    · rw [getB_nat _ _ hl, Nat.testBit_xor, Nat.testBit_two_pow]
      rw [getB_nat _ _ ha] at h
      cases hb : a.testBit q <;> cases on <;> simp_all
    · have h1 : a < 2 ^ j := by exact_mod_cast hj
      have h2 : 2 ^ q < 2 ^ j := Nat.pow_lt_pow_right (by decide) hqj
      have := Nat.xor_lt_two_pow h1 h2
      exact_mod_cast this
theorem set_right {b : Int} {n k q : Nat} {f : Nat → Int} {i : Int} (on : Bool) (h : Right b n f) (h1 : i < b) (hk : i / 32 = (k : Int)) (hq : i % 32 = (q : Int)) : Right b n (setF f k q on) ∧ getB (setF f k q on k) q = on := by
  have hkn : k < n := by have := h.2.2.1; omega
  obtain ⟨w1, w2, w3⟩ := set_bit (f k) q on (by omega) (h.word hkn)
  have ek : setF f k q on k = if getB (f k) q = on then f k else bits .xor .i64 (f k) (2 ^ q) := by unfold setF; rw [if_pos rfl]
  refine ⟨⟨h.1, h.2.1, h.2.2.1, fun j hj => ?_, ?_⟩, by rw [ek]; exact w2⟩
  · by_cases e : j = k
    · subst e
      rw [ek]
      exact ⟨w1.1, by have := w1.2; omega⟩
    · have : setF f k q on j = f j := by unfold setF; rw [if_neg e]
      rw [this]
      exact h.2.2.2.1 j hj
  · rcases h.2.2.2.2 with h5 | h5
    · exact Or.inl h5
    · by_cases ho : b % 32 = 0
      · exact Or.inl ho
      · refine Or.inr ?_
        by_cases e : n - 1 = k
        · rw [e, ek]
          rw [e] at h5
          exact w3 _ h5 (by have := h.2.2.1; omega) (by omega)
        · have : setF f k q on (n - 1) = f (n - 1) := by unfold setF; rw [if_neg e]
          rw [this]
          exact h5
end Go.Proofs.Ytlgnplnmcdjbiaa
namespace Go.Proofs.Ytlgnplnmcdjbiaa
open Go.RowKit

theorem right_orM {b : Int} {n : Nat} {f g : Nat → Int} (h1 : Right b n f) (h2 : Right b n g) : Right b n (fun i => bits .or .i64 (f i) (g i)) := by
  refine ⟨h1.1, h1.2.1, h1.2.2.1, fun i hi => ?_, ?_⟩
  · have h := or_word (Nat.le_refl 32) (h1.word hi) (h2.word hi)
    have h3 : bits .or .i64 (f i) (g i) < 4294967296 := h.2
    exact ⟨h.1, Int.le_of_lt_add_one h3⟩
  · by_cases h0 : b % 32 = 0
    · exact Or.inl h0
    · exact Or.inr (or_word (k := (b % 32).toNat) (by omega) (h1.last h0) (h2.last h0)).2
theorem right_andM {b : Int} {n : Nat} {f g : Nat → Int} (h1 : Right b n f) (h2 : Right b n g) : Right b n (fun i => bits .and .i64 (f i) (g i)) := by
  refine ⟨h1.1, h1.2.1, h1.2.2.1, fun i hi => ?_, ?_⟩
  · have h := and_word (Nat.le_refl 32) (h1.word hi) (h2.word hi)
    have h3 : bits .and .i64 (f i) (g i) < 4294967296 := h.2
    exact ⟨h.1, Int.le_of_lt_add_one h3⟩
  · by_cases h0 : b % 32 = 0
    · exact Or.inl h0
    · exact Or.inr (and_word (k := (b % 32).toNat) (by omega) (h1.last h0) (h2.last h0)).2
theorem right_xorM {b : Int} {n : Nat} {f g : Nat → Int} (h1 : Right b n f) (h2 : Right b n g) : Right b n (fun i => bits .xor .i64 (f i) (g i)) := by
  refine ⟨h1.1, h1.2.1, h1.2.2.1, fun i hi => ?_, ?_⟩
  · have h := xor_word (Nat.le_refl 32) (h1.word hi) (h2.word hi)
    have h3 : bits .xor .i64 (f i) (g i) < 4294967296 := h.2
    exact ⟨h.1, Int.le_of_lt_add_one h3⟩
  · by_cases h0 : b % 32 = 0
    · exact Or.inl h0
    · exact Or.inr (xor_word (k := (b % 32).toNat) (by omega) (h1.last h0) (h2.last h0)).2
theorem right_notM {b : Int} {n : Nat} {f : Nat → Int} (h : Right b n f) : Right b n (cutF b n (notF f)) :=
  cut_right h.1 h.2.1 h.2.2.1 (fun i hi => by have := h.2.2.2.1 i hi; unfold notF; omega)
theorem right_subM {b : Int} {n : Nat} {f g : Nat → Int} (h : Right b n f) : Right b n (cutF b n (sumF 1 f (cutF b n (notF g)))) :=
  cut_right h.1 h.2.1 h.2.2.1 (fun i _ => by unfold sumF; omega)
/-- The steps of one subtraction: First, Last, Block, the places. -/
def cyD (l g : Nat → Int) : Nat → Int := fun i => bits .or .i64 (g i) (l i)
def cyS (b : Int) (n : Nat) (f l g : Nat → Int) : Nat → Int := cutF b n (sumF 1 (cyD l g) (cutF b n (notF f)))
def cyX (b : Int) (n : Nat) (f l g : Nat → Int) : Nat → Int := fun i => bits .xor .i64 (cyS b n f l g i) (cyD l g i)
def cyN (b : Int) (n : Nat) (f l g : Nat → Int) : Nat → Int := cutF b n (notF (cyX b n f l g))
def cyA (b : Int) (n : Nat) (f l k g : Nat → Int) : Nat → Int := fun i => bits .and .i64 (k i) (cyN b n f l g i)
def cyF (b : Int) (n : Nat) (f l k g : Nat → Int) : Nat → Int := fun i => bits .or .i64 (g i) (cyA b n f l k g i)
theorem cyD_right {b : Int} {n : Nat} {l g : Nat → Int} (hl : Right b n l) (hg : Right b n g) : Right b n (cyD l g) := right_orM hg hl
theorem cyS_right {b : Int} {n : Nat} {f l g : Nat → Int} (hl : Right b n l) (hg : Right b n g) : Right b n (cyS b n f l g) := right_subM (cyD_right hl hg)
theorem cyX_right {b : Int} {n : Nat} {f l g : Nat → Int} (hl : Right b n l) (hg : Right b n g) : Right b n (cyX b n f l g) := right_xorM (cyS_right hl hg) (cyD_right hl hg)
theorem cyN_right {b : Int} {n : Nat} {f l g : Nat → Int} (hl : Right b n l) (hg : Right b n g) : Right b n (cyN b n f l g) := right_notM (cyX_right hl hg)
theorem cyA_right {b : Int} {n : Nat} {f l k g : Nat → Int} (hl : Right b n l) (hk : Right b n k) (hg : Right b n g) : Right b n (cyA b n f l k g) := right_andM hk (cyN_right hl hg)
theorem own_low {W : World} {lo lo' n : Nat} {s : Option Addr} {f : Nat → Int} (h : OwnS W lo s n f) (hl : lo' ≤ lo) : OwnS W lo' s n f := by
  rcases h with h | ⟨g5, h1, h2, h3⟩
  · exact Or.inl h
  · exact Or.inr ⟨g5, h1, Nat.le_trans hl h2, h3⟩
theorem right_pos {b : Int} {n : Nat} {f : Nat → Int} (h : Right b n f) : 0 < n := by
  have h1 := h.1
  have h2 := h.2.2.1
  omega
end Go.Proofs.Ytlgnplnmcdjbiaa
namespace Go.Proofs.Ytlgnplnmcdjbiaa
open Go.RowKit

/-- Byte b is among the first k of the text. -/
def hasUpTo (t : ByteArray) (k b : Nat) : Bool := (t.data.toList.take k).any (fun c => c.toNat == b)
/-- Byte b is in the text. -/
def hasByte (t : ByteArray) (b : Nat) : Bool := t.data.toList.any (fun c => c.toNat == b)
theorem hasUpTo_zero (t : ByteArray) (b : Nat) : hasUpTo t 0 b = false := by simp [hasUpTo]
theorem hasUpTo_succ (t : ByteArray) (k b : Nat) (h : k < t.size) : hasUpTo t (k + 1) b = (hasUpTo t k b || (t[k].toNat == b)) := by
  unfold hasUpTo
  rw [List.take_succ_eq_append_getElem (by simpa using h), List.any_append]
  simp
  rfl
theorem hasUpTo_all (t : ByteArray) (b : Nat) : hasUpTo t t.size b = hasByte t b := by
  unfold hasUpTo hasByte
  rw [List.take_of_length_le (by simp)]
/-- The first k bytes of which a row says so. -/
def classL (f : Nat → Bool) (k : Nat) : List Int := ((List.range k).filter f).map fun i : Nat => (i : Int)
theorem classL_zero (f : Nat → Bool) : classL f 0 = [] := rfl
theorem classL_yes {f : Nat → Bool} {k : Nat} (h : f k = true) : classL f (k + 1) = classL f k ++ [(k : Int)] := by
  simp [classL, List.range_succ, List.filter_append, h]
theorem classL_no {f : Nat → Bool} {k : Nat} (h : f k = false) : classL f (k + 1) = classL f k := by
  simp [classL, List.range_succ, List.filter_append, h]
theorem classL_len (f : Nat → Bool) : ∀ k, (classL f k).length ≤ k
  | 0 => by simp [classL]
  | k + 1 => by
    have := classL_len f k
    by_cases hb : f k = true
    · rw [classL_yes hb]; simp; omega
    · rw [classL_no (by simpa using hb)]; omega
theorem classL_congr {f g : Nat → Bool} {k : Nat} (h : ∀ i, i < k → f i = g i) : classL f k = classL g k := by
  unfold classL
  congr 1
  apply List.filter_congr
  intro i hi
  exact h i (List.mem_range.1 hi)
/-- The class of the bytes of which a row says so. -/
def classT (f : Nat → Bool) : ByteArray := strOfNums (classL f 256)
theorem classT_congr {f g : Nat → Bool} (h : ∀ i, i < 256 → f i = g i) : classT f = classT g := by unfold classT; rw [classL_congr h]
/-- A right class. -/
def RightC (t : ByteArray) : Prop := ∀ (i : Nat) (h : i + 1 < t.size), t[i].toNat < t[i + 1].toNat
def RightTo (t : ByteArray) (k : Nat) : Prop := ∀ (i : Nat) (h : i + 1 < t.size), i + 1 < k → t[i].toNat < t[i + 1].toNat
/-- What a fold adds. -/
def foldB (f : Nat → Bool) (k : Nat) : Nat → Bool := fun i => if 65 ≤ i ∧ i < 65 + k then f i || f (i + 32) else if 97 ≤ i ∧ i < 97 + k then f (i - 32) || f i else f i
theorem foldB_zero (f : Nat → Bool) (i : Nat) : foldB f 0 i = f i := by unfold foldB; rw [if_neg (by omega), if_neg (by omega)]
end Go.Proofs.Ytlgnplnmcdjbiaa
namespace Go.Proofs.Ytlgnplnmcdjbiaa
open Go.RowKit

/-- The byte i is in the set. -/
def inSet (f : Nat → Nat) (i : Nat) : Bool := (f (i / 64)).testBit (i % 64)
/-- Four words. -/
def Set4 (f : Nat → Nat) : Prop := ∀ j, f j < 18446744073709551616
/-- One byte more. -/
def withB (f : Nat → Nat) (b : Nat) : Nat → Nat := fun j => if j = b / 64 then f j ||| 2 ^ (b % 64) else f j
theorem pow_lt64 {k : Nat} (h : k < 64) : 2 ^ k < 18446744073709551616 := by
  have : 2 ^ k < 2 ^ 64 := Nat.pow_lt_pow_right (by decide) h
  simpa using this
theorem or_lt64 {a b : Nat} (ha : a < 18446744073709551616) (hb : b < 18446744073709551616) : a ||| b < 18446744073709551616 := Nat.or_lt_two_pow (n := 64) ha hb
theorem and_lt64 {a b : Nat} (ha : a < 18446744073709551616) : a &&& b < 18446744073709551616 := Nat.lt_of_le_of_lt Nat.and_le_left ha
theorem withB_set {f : Nat → Nat} (h : Set4 f) (b : Nat) : Set4 (withB f b) := fun j => by
  unfold withB
  split
  · exact or_lt64 (h j) (pow_lt64 (Nat.mod_lt _ (by decide)))
  · exact h j
theorem withB_at (f : Nat → Nat) (b : Nat) : withB f b (b / 64) = f (b / 64) ||| 2 ^ (b % 64) := by simp [withB]
theorem withB_off {f : Nat → Nat} {b j : Nat} (h : j ≠ b / 64) : withB f b j = f j := by simp [withB, h]
theorem inSet_with (f : Nat → Nat) (b i : Nat) : inSet (withB f b) i = (inSet f i || (b == i)) := by
  unfold inSet
  by_cases e : i / 64 = b / 64
  · rw [e, withB_at, Nat.testBit_or, Nat.testBit_two_pow]
    congr 1
    by_cases e2 : b = i
    · subst e2; simp
    · have : b % 64 ≠ i % 64 := by omega
      simp [this, e2]
  · rw [withB_off e]
    have : b ≠ i := fun h => e (by rw [h])
    simp [this]
theorem inSet_zero (i : Nat) : inSet (fun _ => 0) i = false := by simp [inSet]
/-- A set stays with a byte just if it is in it. -/
theorem withB_same (f : Nat → Nat) (b : Nat) : f (b / 64) ||| 2 ^ (b % 64) = f (b / 64) ↔ inSet f b = true := by
  constructor
  · intro h
    have := inSet_with f b b
    unfold inSet at this ⊢
    rw [withB_at, h] at this
    simpa using this
  · intro h
    apply Nat.eq_of_testBit_eq
    intro i
    rw [Nat.testBit_or, Nat.testBit_two_pow]
    by_cases e : b % 64 = i
    · subst e
      unfold inSet at h
      simp [h]
    · simp [e]
theorem inSet_or (f g : Nat → Nat) (i : Nat) : inSet (fun j => f j ||| g j) i = (inSet f i || inSet g i) := by simp [inSet]
theorem inSet_and (f g : Nat → Nat) (i : Nat) : inSet (fun j => f j &&& g j) i = (inSet f i && inSet g i) := by simp [inSet]
theorem inSet_not (f : Nat → Nat) (i : Nat) : inSet (fun j => f j ^^^ 18446744073709551615) i = !inSet f i := by
  unfold inSet
  rw [Nat.testBit_xor, show (18446744073709551615 : Nat) = 2 ^ 64 - 1 from by decide, Nat.testBit_two_pow_sub_one]
  have : i % 64 < 64 := Nat.mod_lt _ (by decide)
  simp [this]
/-- The lowest bit that is on, and what is left without it. -/
theorem ctz64_bits (x : Nat) (h0 : x ≠ 0) (h : x < 2 ^ 64) : x.testBit (Lib.ctz 64 x) = true ∧ (∀ i, i < Lib.ctz 64 x → x.testBit i = false) ∧ Lib.ctz 64 x < 64 ∧ ∀ i, (x &&& (x - 1)).testBit i = (x.testBit i && decide (Lib.ctz 64 x < i)) := by
  obtain ⟨m, hm, hk⟩ := Lib.ctzFrom_spec 64 x (by omega) h
  have e : Lib.ctz 64 x = Lib.ctzFrom 64 x := by simp [Lib.ctz, h0]
  rw [e]
  obtain ⟨t, ht⟩ : ∃ t, Lib.ctzFrom 64 x = t := ⟨_, rfl⟩
  rw [ht] at hm hk ⊢
  have hp : 0 < 2 ^ t := Nat.two_pow_pos t
  have hx : ∀ i, x.testBit i = if i < t then false else (2 * m + 1).testBit (i - t) := by
    intro i
    have := Nat.testBit_two_pow_mul_add (2 * m + 1) (b := 0) (i := t) hp i
    rw [Nat.add_zero] at this
    rw [hm, this]
    simp
  have hx1 : ∀ i, (x - 1).testBit i = if i < t then (2 ^ t - 1).testBit i else (2 * m).testBit (i - t) := by
    intro i
    have h2 : x - 1 = 2 ^ t * (2 * m) + (2 ^ t - 1) := by
      rw [hm, Nat.mul_add, Nat.mul_one]
      omega
    rw [h2]
    exact Nat.testBit_two_pow_mul_add (2 * m) (by omega) i
  refine ⟨?_, ?_, hk, ?_⟩
  · rw [hx]
    simp [Nat.testBit_zero]
  · intro i hi
    rw [hx, if_pos hi]
  · intro i
    rw [Nat.testBit_and, hx, hx1]
    by_cases h1 : i < t
    · simp [h1]
    · rw [if_neg h1, if_neg h1]
      by_cases h2 : i = t
      · subst h2
        simp [Nat.testBit_zero]
      · obtain ⟨j, rfl⟩ : ∃ j, i = t + (j + 1) := ⟨i - t - 1, by omega⟩
        have e3 : t + (j + 1) - t = j + 1 := by omega
        rw [e3, Nat.testBit_succ, Nat.testBit_succ]
        have d1 : (2 * m + 1) / 2 = m := by omega
        have d2 : 2 * m / 2 = m := by omega
        rw [d1, d2]
        simp
theorem classL_none {f : Nat → Bool} {a : Nat} : ∀ b, a ≤ b → (∀ i, a ≤ i → i < b → f i = false) → classL f b = classL f a
  | 0, h, _ => by obtain rfl : a = 0 := by omega
                  rfl
  | b + 1, h, hn => by
    by_cases e : a = b + 1
    · rw [e]
    · rw [classL_no (hn b (by omega) (by omega))]
      exact classL_none b (by omega) (fun i h1 h2 => hn i h1 (by omega))
/-- What is left of a word when the bits below p have come. -/
def Rest64 (x p r : Nat) : Prop := r < 18446744073709551616 ∧ ∀ i, r.testBit i = (x.testBit i && decide (p ≤ i))
theorem rest64_start {x : Nat} (h : x < 18446744073709551616) : Rest64 x 0 x := ⟨h, fun i => by simp⟩
theorem rest64_step {x p r : Nat} (h : Rest64 x p r) (h0 : r ≠ 0) : p ≤ Lib.ctz 64 r ∧ Lib.ctz 64 r < 64 ∧ x.testBit (Lib.ctz 64 r) = true ∧ (∀ i, p ≤ i → i < Lib.ctz 64 r → x.testBit i = false) ∧ Rest64 x (Lib.ctz 64 r + 1) (r &&& (r - 1)) := by
  obtain ⟨h1, h2, h3, h4⟩ := ctz64_bits r h0 h.1
  have h5 := h.2 (Lib.ctz 64 r)
  rw [h1] at h5
  have h6 : x.testBit (Lib.ctz 64 r) = true ∧ p ≤ Lib.ctz 64 r := by simpa using h5.symm
  refine ⟨h6.2, h3, h6.1, fun i hi hl => ?_, ?_, fun i => ?_⟩
  · have h7 := h.2 i
    rw [h2 i hl] at h7
    simpa [hi] using h7.symm
  · exact Nat.lt_of_le_of_lt Nat.and_le_left h.1
  · rw [h4 i, h.2 i]
    by_cases hl : Lib.ctz 64 r < i
    · have : p ≤ i := by omega
      have h8 : Lib.ctz 64 r + 1 ≤ i := hl
      simp [hl, this, h8]
    · have h8 : ¬ Lib.ctz 64 r + 1 ≤ i := by omega
      simp [hl, h8]
theorem rest64_end {x p : Nat} (h : Rest64 x p 0) : ∀ i, p ≤ i → x.testBit i = false := by
  intro i hi
  have := h.2 i
  simpa [hi] using this.symm
theorem inSet_word (f : Nat → Nat) (k j : Nat) (hj : j < 64) : inSet f (64 * k + j) = (f k).testBit j := by
  unfold inSet
  have e1 : (64 * k + j) / 64 = k := by omega
  have e2 : (64 * k + j) % 64 = j := by omega
  rw [e1, e2]
/-- One byte comes. -/
theorem byte_step {f : Nat → Nat} {k p r : Nat} (h : Rest64 (f k) p r) (h0 : r ≠ 0) : classL (inSet f) (64 * k + (Lib.ctz 64 r + 1)) = classL (inSet f) (64 * k + p) ++ [((64 * k + Lib.ctz 64 r : Nat) : Int)] ∧ p ≤ Lib.ctz 64 r ∧ Lib.ctz 64 r < 64 ∧ Rest64 (f k) (Lib.ctz 64 r + 1) (r &&& (r - 1)) := by
  obtain ⟨h1, h2, h3, h4, h5⟩ := rest64_step h h0
  refine ⟨?_, h1, h2, h5⟩
  rw [← Nat.add_assoc, classL_yes (by rw [inSet_word f k _ h2]; exact h3), classL_none (64 * k + Lib.ctz 64 r) (a := 64 * k + p) (by omega)]
  intro i hi hl
  obtain ⟨j, rfl⟩ : ∃ j, i = 64 * k + j := ⟨i - 64 * k, by omega⟩
  rw [inSet_word f k j (by omega)]
  exact h4 j (by omega) (by omega)
/-- A word is over. -/
theorem word_end {f : Nat → Nat} {k p : Nat} (hp : p ≤ 64) (h : Rest64 (f k) p 0) : classL (inSet f) (64 * (k + 1)) = classL (inSet f) (64 * k + p) := by
  refine classL_none _ (by omega) (fun i hi hl => ?_)
  obtain ⟨j, rfl⟩ : ∃ j, i = 64 * k + j := ⟨i - 64 * k, by omega⟩
  rw [inSet_word f k j (by omega)]
  exact rest64_end h j (by omega)
theorem wraps_u64s (n : Int) (h₀ : 0 ≤ n) (h₁ : n < 2 ^ 64) : IntKind.u64.wrap n = n := by rw [IntKind.wrap_u64]; omega
theorem rest64_and (r : Nat) (h0 : r ≠ 0) (h : r < 18446744073709551616) : bits .and .u64 (r : Int) ((r : Int) - 1) = ((r &&& (r - 1) : Nat) : Int) := by
  have e : (r : Int) - 1 = ((r - 1 : Nat) : Int) := by omega
  rw [e, (bits_nat .u64 64 (by decide) wraps_u64s r (r - 1) h (by omega)).1]
theorem or64 {a b : Nat} (ha : a < 18446744073709551616) (hb : b < 18446744073709551616) : bits .or .u64 (a : Int) (b : Int) = ((a ||| b : Nat) : Int) := (bits_nat .u64 64 (by decide) wraps_u64s a b ha hb).2
theorem and64 {a b : Nat} (ha : a < 18446744073709551616) (hb : b < 18446744073709551616) : bits .and .u64 (a : Int) (b : Int) = ((a &&& b : Nat) : Int) := (bits_nat .u64 64 (by decide) wraps_u64s a b ha hb).1
theorem xor64 {a b : Nat} (ha : a < 18446744073709551616) (hb : b < 18446744073709551616) : bits .xor .u64 (a : Int) (b : Int) = ((a ^^^ b : Nat) : Int) := by
  have ha' : a % 2 ^ 64 = a := Nat.mod_eq_of_lt ha
  have hb' : b % 2 ^ 64 = b := Nat.mod_eq_of_lt hb
  have e : IntKind.u64.bits = 64 := rfl
  simp only [bits, e, BitVec.ofInt_natCast, BitVec.toNat_xor, BitVec.toNat_ofNat, ha', hb']
  exact wraps_u64s _ (Int.natCast_nonneg _) (by exact_mod_cast Nat.xor_lt_two_pow (n := 64) ha hb)
theorem xor_lt64 {a : Nat} (ha : a < 18446744073709551616) : a ^^^ 18446744073709551615 < 18446744073709551616 := Nat.xor_lt_two_pow (n := 64) ha (by decide)
theorem not64 {a : Nat} (ha : a < 18446744073709551616) : bits .xor .u64 IntKind.u64.max (a : Int) = ((a ^^^ 18446744073709551615 : Nat) : Int) := by
  have e : IntKind.u64.max = ((18446744073709551615 : Nat) : Int) := by decide
  rw [e, xor64 (by decide) ha, Nat.xor_comm]
end Go.Proofs.Ytlgnplnmcdjbiaa
