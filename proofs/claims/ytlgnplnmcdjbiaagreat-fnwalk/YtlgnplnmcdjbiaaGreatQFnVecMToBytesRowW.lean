/- What is proved here: plain arithmetic for the law of vectors: what is taken away is added again; the counts.
   What is said here: the words of places that are closed by one subtraction under given masks; what they are put together of is right.
   What is said here: the words of all bits turned, as plain mathematics.
   What is said here: places in words of 32 bits, turned, taken from one another; a row's own masks close places by one subtraction as they are closed step by step, as plain mathematics.
   What is said here: closing twice is closing once; what was closed together was closed alone; words of places that are put together, as plain mathematics.
   What is proved here: a slice of bytes that the call owns, made into a text. -/
import Derived.Test.YtlgnplnmcdjbiaaGreatQImplRightWToCellS
import Derived.Test.YtlgnplnmcdjbiaaGreatQFnWalkMToCtzM
import Derived.Test.YtlgnplnmcdjbiaaGreatQMaskDToSpecMaskW
import Derived.Test.YtlgnplnmcdjbiaaGreatQSpecKVecWToWordsForW
import Derived.Test.YtlgnplnmcdjbiaaGreatQCellMToWordM
import Derived.Test.YtlgnplnmcdjbiaaGreatProg
import Derived.WalkKit
import Derived.Laws.BytesArg
import Derived.Maps.AppendAt
import Derived.Maps.Range
namespace Go.Proofs.YtlgnplnmcdjbiaaGreat
open Go.RowKit

/-- The words of what was taken away and added again carry as they borrowed. -/
theorem carry_back {b : Int} {n : Nat} {f g : Nat → Int} (h1 : ∀ i, i < n → 0 ≤ f i ∧ f i ≤ 4294967295) (h2 : ∀ i, i < n → 0 ≤ g i ∧ g i ≤ 4294967295) : ∀ k, k < n → carryF 0 (cutF b n (difF f g)) g k = borF f g k
  | 0, _ => rfl
  | k + 1, hk => by
    have ih := carry_back (b := b) h1 h2 k (by omega)
    have a := h1 k (by omega)
    have c := h2 k (by omega)
    have d := bor_range f g k
    have e : cutF b n (difF f g) k = (f k - g k - borF f g k) % 4294967296 := by unfold cutF difF; rw [if_neg (by omega)]
    unfold carryF borF
    rw [ih, e]
    split <;> omega
/-- What is taken away is added again. -/
theorem sub_add {b : Int} {n : Nat} {f g : Nat → Int} (h1 : Right b n f) (h2 : Right b n g) : ∀ i, i < n → cutF b n (sumF 0 (cutF b n (difF f g)) g) i = f i := by
  intro i hi
  have hf := h1.2.2.2.1
  have hg := h2.2.2.2.1
  have hc := carry_back (b := b) hf hg i hi
  have a := hf i hi
  have c := hg i hi
  have d := bor_range f g i
  by_cases hl : i + 1 = n ∧ 0 < b % 32
  · obtain ⟨P, hP⟩ : ∃ P : Int, (2 : Int) ^ (b % 32).toNat = P := ⟨_, rfl⟩
    have hdv : P ∣ 4294967296 := by
      rw [← hP, show (4294967296 : Int) = 2 ^ 32 from by decide]
      exact ⟨2 ^ (32 - (b % 32).toNat), by rw [← Int.pow_add]; congr 1; omega⟩
    have e : cutF b n (difF f g) i = (f i - g i - borF f g i) % P := by
      unfold cutF difF
      rw [if_pos hl, hP, Int.emod_emod_of_dvd _ hdv]
    have e2 : cutF b n (sumF 0 (cutF b n (difF f g)) g) i = ((f i - g i - borF f g i) % P + g i + borF f g i) % P := by
      unfold sumF
      rw [cutF, if_pos hl, hP, e, hc, Int.emod_emod_of_dvd _ hdv]
    have hlast : f i < P := by
      have hi1 : i = n - 1 := by omega
      rcases h1.2.2.2.2 with h | h
      · omega
      · rw [hi1, ← hP]; exact h
    rw [e2]
    have h3 : (f i - g i - borF f g i) % P = f i - g i - borF f g i - P * ((f i - g i - borF f g i) / P) := by rw [Int.emod_def]
    have h4 : (f i - g i - borF f g i) % P + g i + borF f g i = f i + P * (-((f i - g i - borF f g i) / P)) := by
      rw [h3, Int.mul_neg]
      omega
    rw [h4, Int.add_mul_emod_self_left, Int.emod_eq_of_lt a.1 hlast]
  · have e : cutF b n (difF f g) i = (f i - g i - borF f g i) % 4294967296 := by unfold cutF difF; rw [if_neg hl]
    have e2 : cutF b n (sumF 0 (cutF b n (difF f g)) g) i = ((f i - g i - borF f g i) % 4294967296 + g i + borF f g i) % 4294967296 := by
      unfold sumF
      rw [cutF, if_neg hl, e, hc]
    rw [e2]
    omega
theorem sum_congr {cr : Int} {f f' g g' : Nat → Int} {n : Nat} (hf : ∀ i, i < n → f i = f' i) (hg : ∀ i, i < n → g i = g' i) : (∀ k, k ≤ n → carryF cr f g k = carryF cr f' g' k) ∧ ∀ i, i < n → sumF cr f g i = sumF cr f' g' i := by
  have hc : ∀ k, k ≤ n → carryF cr f g k = carryF cr f' g' k := by
    intro k
    induction k with
    | zero => intro _; rfl
    | succ k ih =>
      intro hk
      unfold carryF
      rw [ih (by omega), hf k (by omega), hg k (by omega)]
  refine ⟨hc, fun i hi => ?_⟩
  unfold sumF
  rw [hc i (by omega), hf i hi, hg i hi]
theorem cut_congr {b : Int} {n : Nat} {f f' : Nat → Int} (h : ∀ i, i < n → f i = f' i) : ∀ i, i < n → cutF b n f i = cutF b n f' i := by
  intro i hi
  unfold cutF
  rw [h i hi]
/-- What is cut is right. -/
theorem cut_right {b : Int} {n : Nat} {f : Nat → Int} (hb0 : 1 ≤ b) (hb1 : b ≤ 320) (hn : (n : Int) = (b + 31) / 32) (h : ∀ i, i < n → 0 ≤ f i ∧ f i ≤ 4294967295) : Right b n (cutF b n f) := by
  have hp : (0 : Int) < 2 ^ (b % 32).toNat := Int.pow_pos (by decide)
  refine ⟨hb0, hb1, hn, fun i hi => ?_, ?_⟩
  · have := h i hi
    unfold cutF
    split
    · have h1 := Int.emod_nonneg (f i) (Int.ne_of_gt hp)
      have h2 : f i % 2 ^ (b % 32).toNat ≤ f i := by
        have h3 := Int.emod_add_mul_ediv (f i) (2 ^ (b % 32).toNat)
        have h4 : 0 ≤ 2 ^ (b % 32).toNat * (f i / 2 ^ (b % 32).toNat) := Int.mul_nonneg (Int.le_of_lt hp) (Int.ediv_nonneg this.1 (Int.le_of_lt hp))
        omega
      omega
    · exact this
  · by_cases ho : b % 32 = 0
    · exact Or.inl ho
    · refine Or.inr ?_
      unfold cutF
      rw [if_pos ⟨by omega, by omega⟩]
      exact Int.emod_lt_of_pos _ hp
/-- Counting what is on in both and in just one. -/
theorem count_pair (f g x z : Nat → Int) : ∀ m, (∀ i, i < m → bitOn x i = (bitOn f i && bitOn g i)) → (∀ i, i < m → bitOn z i = (bitOn f i != bitOn g i)) → (bitsL f m).length + (bitsL g m).length = (bitsL z m).length + 2 * (bitsL x m).length
  | 0, _, _ => rfl
  | m + 1, hx, hz => by
    have ih := count_pair f g x z m (fun i hi => hx i (by omega)) (fun i hi => hz i (by omega))
    have hl : ∀ h : Nat → Int, (bitsL h (m + 1)).length = (bitsL h m).length + if bitOn h m then 1 else 0 := by
      intro h
      unfold bitsL
      rw [List.range_succ, List.filter_append]
      cases hb : bitOn h m <;> simp [hb]
    rw [hl f, hl g, hl z, hl x, hx m (by omega), hz m (by omega)]
    cases bitOn f m <;> cases bitOn g m <;> simp <;> omega
theorem place_lt {b : Int} {n i : Nat} {f : Nat → Int} (h : Right b n f) (hi : (i : Int) < b) : i / 32 < n := by have := h.2.2.1; omega
theorem on_and {b : Int} {n i : Nat} {f g : Nat → Int} (h1 : Right b n f) (h2 : Right b n g) (hi : (i : Int) < b) : bitOn (fun i => bits .and .i64 (f i) (g i)) i = (bitOn f i && bitOn g i) := by
  have hk := place_lt h1 hi
  unfold bitOn
  dsimp only
  obtain ⟨a, ha, ha2⟩ := word_nat (h1.word hk)
  obtain ⟨c, hc, hc2⟩ := word_nat (h2.word hk)
  rw [ha, hc, (bits_nat .i64 32 (by decide) wraps_i64w a c ha2 hc2).1]
  simp
theorem on_or {b : Int} {n i : Nat} {f g : Nat → Int} (h1 : Right b n f) (h2 : Right b n g) (hi : (i : Int) < b) : bitOn (fun i => bits .or .i64 (f i) (g i)) i = (bitOn f i || bitOn g i) := by
  have hk := place_lt h1 hi
  unfold bitOn
  dsimp only
  obtain ⟨a, ha, ha2⟩ := word_nat (h1.word hk)
  obtain ⟨c, hc, hc2⟩ := word_nat (h2.word hk)
  rw [ha, hc, (bits_nat .i64 32 (by decide) wraps_i64w a c ha2 hc2).2]
  simp
theorem on_xor {b : Int} {n i : Nat} {f g : Nat → Int} (h1 : Right b n f) (h2 : Right b n g) (hi : (i : Int) < b) : bitOn (fun i => bits .xor .i64 (f i) (g i)) i = (bitOn f i != bitOn g i) := by
  have hk := place_lt h1 hi
  unfold bitOn
  dsimp only
  obtain ⟨a, ha, ha2⟩ := word_nat (h1.word hk)
  obtain ⟨c, hc, hc2⟩ := word_nat (h2.word hk)
  rw [ha, hc, bits_xor_nat .i64 32 (by decide) wraps_i64w a c ha2 hc2]
  simp
/-- A bit ahead of the cut stays. -/
theorem on_cut {b : Int} {n i : Nat} {f : Nat → Int} (hn : (n : Int) = (b + 31) / 32) (h0 : 0 ≤ f (i / 32)) (hi : (i : Int) < b) : bitOn (cutF b n f) i = bitOn f i := by
  unfold bitOn cutF
  split
  · rename_i h
    obtain ⟨a, ha⟩ := Int.eq_ofNat_of_zero_le h0
    have e : (f (i / 32) % 2 ^ (b % 32).toNat).toNat = a % 2 ^ (b % 32).toNat := by
      rw [ha]
      have : ((a : Int) % 2 ^ (b % 32).toNat) = ((a % 2 ^ (b % 32).toNat : Nat) : Int) := by simp
      rw [this, Int.toNat_natCast]
    rw [e, ha, Int.toNat_natCast, Nat.testBit_mod_two_pow]
    have : i % 32 < (b % 32).toNat := by omega
    simp [this]
  · rfl
theorem not_bit (a q : Nat) (h : a < 2 ^ 32) (hq : q < 32) : (4294967295 - a).testBit q = !a.testBit q := by
  have := Nat.testBit_two_pow_sub_succ h q
  rw [show 2 ^ 32 - (a + 1) = 4294967295 - a from by omega] at this
  rw [this]
  simp [hq]
theorem on_not {b : Int} {n i : Nat} {f : Nat → Int} (h : Right b n f) (hi : (i : Int) < b) : bitOn (cutF b n (notF f)) i = !bitOn f i := by
  have hk := place_lt h hi
  obtain ⟨a, ha, ha2⟩ := word_nat (h.word hk)
  rw [on_cut h.2.2.1 (by unfold notF; rw [ha]; omega) hi]
  unfold bitOn notF
  rw [ha]
  have e : ((4294967295 : Int) - (a : Int)).toNat = 4294967295 - a := by omega
  rw [e, Int.toNat_natCast]
  exact not_bit a _ ha2 (Nat.mod_lt _ (by decide))
theorem up_bit (a c q : Nat) (hc : c ≤ 1) (hq : q < 32) : ((2 * a + c) % 4294967296).testBit q = if q = 0 then decide (c = 1) else a.testBit (q - 1) := by
  rw [show (4294967296 : Nat) = 2 ^ 32 from rfl, Nat.testBit_mod_two_pow]
  simp only [hq, decide_true, Bool.true_and]
  cases q with
  | zero =>
    rw [Nat.testBit_zero]
    simp
    omega
  | succ q =>
    rw [Nat.testBit_succ]
    have : (2 * a + c) / 2 = a := by omega
    rw [this]
    simp
theorem on_up {b : Int} {n i : Nat} {f : Nat → Int} (h : Right b n f) (hi : (i : Int) < b) : bitOn (cutF b n (sumF 0 f f)) i = if i = 0 then false else bitOn f (i - 1) := by
  have hk := place_lt h hi
  rw [on_cut h.2.2.1 (by unfold sumF; omega) hi]
  obtain ⟨a, ha, ha2⟩ := word_nat (h.word hk)
  obtain ⟨hc0, hc1⟩ := carry_range (cr := 0) (by decide) (by decide) h.2.2.2.1 h.2.2.2.1 (i / 32) (by omega)
  obtain ⟨c, hc⟩ := Int.eq_ofNat_of_zero_le hc0
  have e : (sumF 0 f f (i / 32)).toNat = (2 * a + c) % 4294967296 := by
    unfold sumF
    rw [ha, hc]
    omega
  show (sumF 0 f f (i / 32)).toNat.testBit (i % 32) = _
  rw [e, up_bit a c (i % 32) (by omega) (Nat.mod_lt _ (by decide))]
  by_cases hq : i % 32 = 0
  · rw [if_pos hq]
    by_cases h0 : i = 0
    · subst h0
      rw [if_pos rfl]
      have : c = 0 := by
        have : carryF 0 f f 0 = 0 := rfl
        rw [show (0 : Nat) / 32 = 0 from rfl, this] at hc
        omega
      simp [this]
    · rw [if_neg h0]
      obtain ⟨k, hk2⟩ : ∃ k, i / 32 = k + 1 := ⟨i / 32 - 1, by omega⟩
      obtain ⟨d, hd, hd2⟩ := word_nat (h.word (i := k) (by omega))
      obtain ⟨hp0, hp1⟩ := carry_range (cr := 0) (by decide) (by decide) h.2.2.2.1 h.2.2.2.1 k (by omega)
      have hcc : (c : Int) = (f k + f k + carryF 0 f f k) / 4294967296 := by rw [← hc, hk2]; rfl
      have e2 : (i - 1) / 32 = k := by omega
      have e3 : (i - 1) % 32 = 31 := by omega
      unfold bitOn
      rw [e2, e3, hd, Int.toNat_natCast, Nat.testBit_eq_decide_div_mod_eq]
      rw [hd] at hcc
      congr 1
      simp only [eq_iff_iff]
      omega
  · rw [if_neg hq]
    have h0 : ¬ i = 0 := by omega
    rw [if_neg h0]
    have e2 : (i - 1) / 32 = i / 32 := by omega
    have e3 : (i - 1) % 32 = i % 32 - 1 := by omega
    unfold bitOn
    rw [e2, e3, ha, Int.toNat_natCast]
/-- A bit that is set is as it is asked for. -/
theorem set_bit (x : Int) (q : Nat) (on : Bool) (hq : q < 32) (hx : Word 32 x) : Word 32 (if getB x q = on then x else bits .xor .i64 x (2 ^ q)) ∧ getB (if getB x q = on then x else bits .xor .i64 x (2 ^ q)) q = on ∧ ∀ j : Nat, x < 2 ^ j → q < j → j ≤ 32 → (if getB x q = on then x else bits .xor .i64 x (2 ^ q)) < 2 ^ j := by
  obtain ⟨a, rfl, ha⟩ := word_nat hx
  have hp : 2 ^ q < 2 ^ 32 := Nat.pow_lt_pow_right (by decide) hq
  have e : (2 : Int) ^ q = ((2 ^ q : Nat) : Int) := by simp
  rw [e, bits_xor_nat .i64 32 (by decide) wraps_i64w a _ ha hp]
  have hl := Nat.xor_lt_two_pow ha hp
  by_cases h : getB (a : Int) q = on
  · rw [if_pos h]
    exact ⟨hx, h, fun j hj _ _ => hj⟩
  · rw [if_neg h]
    refine ⟨⟨Int.natCast_nonneg _, by exact_mod_cast hl⟩, ?_, fun j hj hqj _ => ?_⟩
    · rw [getB_nat _ _ hl, Nat.testBit_xor, Nat.testBit_two_pow]
      rw [getB_nat _ _ ha] at h
      cases hb : a.testBit q <;> cases on <;> simp_all
    · have h1 : a < 2 ^ j := by exact_mod_cast hj
      have h2 : 2 ^ q < 2 ^ j := Nat.pow_lt_pow_right (by decide) hqj
      have := Nat.xor_lt_two_pow h1 h2
      exact_mod_cast this
theorem set_right {b : Int} {n k q : Nat} {f : Nat → Int} {i : Int} (on : Bool) (h : Right b n f) (h1 : i < b) (hk : i / 32 = (k : Int)) (hq : i % 32 = (q : Int)) : Right b n (setF f k q on) ∧ getB (setF f k q on k) q = on := by
  have hkn : k < n := by have := h.2.2.1; omega
  obtain ⟨w1, w2, w3⟩ := set_bit (f k) q on (by omega) (h.word hkn)
  have ek : setF f k q on k = if getB (f k) q = on then f k else bits .xor .i64 (f k) (2 ^ q) := by unfold setF; rw [if_pos rfl]
  refine ⟨⟨h.1, h.2.1, h.2.2.1, fun j hj => ?_, ?_⟩, by rw [ek]; exact w2⟩
  · by_cases e : j = k
    · subst e
      rw [ek]
      exact ⟨w1.1, by have := w1.2; omega⟩
    · have : setF f k q on j = f j := by unfold setF; rw [if_neg e]
      rw [this]
      exact h.2.2.2.1 j hj
  · rcases h.2.2.2.2 with h5 | h5
    · exact Or.inl h5
    · by_cases ho : b % 32 = 0
      · exact Or.inl ho
      · refine Or.inr ?_
        by_cases e : n - 1 = k
        · rw [e, ek]
          rw [e] at h5
          exact w3 _ h5 (by have := h.2.2.1; omega) (by omega)
        · have : setF f k q on (n - 1) = f (n - 1) := by unfold setF; rw [if_neg e]
          rw [this]
          exact h5
end Go.Proofs.YtlgnplnmcdjbiaaGreat
namespace Go.Proofs.YtlgnplnmcdjbiaaGreat
open Go.RowKit

theorem right_orM {b : Int} {n : Nat} {f g : Nat → Int} (h1 : Right b n f) (h2 : Right b n g) : Right b n (fun i => bits .or .i64 (f i) (g i)) := by
  refine ⟨h1.1, h1.2.1, h1.2.2.1, fun i hi => ?_, ?_⟩
  · have h := or_word (Nat.le_refl 32) (h1.word hi) (h2.word hi)
    have h3 : bits .or .i64 (f i) (g i) < 4294967296 := h.2
    exact ⟨h.1, Int.le_of_lt_add_one h3⟩
  · by_cases h0 : b % 32 = 0
    · exact Or.inl h0
    · exact Or.inr (or_word (k := (b % 32).toNat) (by omega) (h1.last h0) (h2.last h0)).2
theorem right_andM {b : Int} {n : Nat} {f g : Nat → Int} (h1 : Right b n f) (h2 : Right b n g) : Right b n (fun i => bits .and .i64 (f i) (g i)) := by
  refine ⟨h1.1, h1.2.1, h1.2.2.1, fun i hi => ?_, ?_⟩
  · have h := and_word (Nat.le_refl 32) (h1.word hi) (h2.word hi)
    have h3 : bits .and .i64 (f i) (g i) < 4294967296 := h.2
    exact ⟨h.1, Int.le_of_lt_add_one h3⟩
  · by_cases h0 : b % 32 = 0
    · exact Or.inl h0
    · exact Or.inr (and_word (k := (b % 32).toNat) (by omega) (h1.last h0) (h2.last h0)).2
theorem right_xorM {b : Int} {n : Nat} {f g : Nat → Int} (h1 : Right b n f) (h2 : Right b n g) : Right b n (fun i => bits .xor .i64 (f i) (g i)) := by
  refine ⟨h1.1, h1.2.1, h1.2.2.1, fun i hi => ?_, ?_⟩
  · have h := xor_word (Nat.le_refl 32) (h1.word hi) (h2.word hi)
    have h3 : bits .xor .i64 (f i) (g i) < 4294967296 := h.2
    exact ⟨h.1, Int.le_of_lt_add_one h3⟩
  · by_cases h0 : b % 32 = 0
    · exact Or.inl h0
    · exact Or.inr (xor_word (k := (b % 32).toNat) (by omega) (h1.last h0) (h2.last h0)).2
theorem right_notM {b : Int} {n : Nat} {f : Nat → Int} (h : Right b n f) : Right b n (cutF b n (notF f)) :=
  cut_right h.1 h.2.1 h.2.2.1 (fun i hi => by have := h.2.2.2.1 i hi; unfold notF; omega)
theorem right_subM {b : Int} {n : Nat} {f g : Nat → Int} (h : Right b n f) : Right b n (cutF b n (sumF 1 f (cutF b n (notF g)))) :=
  cut_right h.1 h.2.1 h.2.2.1 (fun i _ => by unfold sumF; omega)
/-- The steps of one subtraction: First, Last, Block, the places. -/
def cyD (l g : Nat → Int) : Nat → Int := fun i => bits .or .i64 (g i) (l i)
def cyS (b : Int) (n : Nat) (f l g : Nat → Int) : Nat → Int := cutF b n (sumF 1 (cyD l g) (cutF b n (notF f)))
def cyX (b : Int) (n : Nat) (f l g : Nat → Int) : Nat → Int := fun i => bits .xor .i64 (cyS b n f l g i) (cyD l g i)
def cyN (b : Int) (n : Nat) (f l g : Nat → Int) : Nat → Int := cutF b n (notF (cyX b n f l g))
def cyA (b : Int) (n : Nat) (f l k g : Nat → Int) : Nat → Int := fun i => bits .and .i64 (k i) (cyN b n f l g i)
def cyF (b : Int) (n : Nat) (f l k g : Nat → Int) : Nat → Int := fun i => bits .or .i64 (g i) (cyA b n f l k g i)
theorem cyD_right {b : Int} {n : Nat} {l g : Nat → Int} (hl : Right b n l) (hg : Right b n g) : Right b n (cyD l g) := right_orM hg hl
theorem cyS_right {b : Int} {n : Nat} {f l g : Nat → Int} (hl : Right b n l) (hg : Right b n g) : Right b n (cyS b n f l g) := right_subM (cyD_right hl hg)
theorem cyX_right {b : Int} {n : Nat} {f l g : Nat → Int} (hl : Right b n l) (hg : Right b n g) : Right b n (cyX b n f l g) := right_xorM (cyS_right hl hg) (cyD_right hl hg)
theorem cyN_right {b : Int} {n : Nat} {f l g : Nat → Int} (hl : Right b n l) (hg : Right b n g) : Right b n (cyN b n f l g) := right_notM (cyX_right hl hg)
theorem cyA_right {b : Int} {n : Nat} {f l k g : Nat → Int} (hl : Right b n l) (hk : Right b n k) (hg : Right b n g) : Right b n (cyA b n f l k g) := right_andM hk (cyN_right hl hg)
theorem own_low {W : World} {lo lo' n : Nat} {s : Option Addr} {f : Nat → Int} (h : OwnS W lo s n f) (hl : lo' ≤ lo) : OwnS W lo' s n f := by
  rcases h with h | ⟨g5, h1, h2, h3⟩
  · exact Or.inl h
  · exact Or.inr ⟨g5, h1, Nat.le_trans hl h2, h3⟩
theorem right_pos {b : Int} {n : Nat} {f : Nat → Int} (h : Right b n f) : 0 < n := by
  have h1 := h.1
  have h2 := h.2.2.1
  omega
end Go.Proofs.YtlgnplnmcdjbiaaGreat
namespace Go.Proofs.YtlgnplnmcdjbiaaGreat
open Go.RowKit

theorem VecIs.notC {f : Nat → Int} {P : Nat → Bool} {n m : Nat} (hm : m = (n + 1 + 31) / 32) (h : VecIs f P m) : VecIs (cutF ((n : Int) + 1) m (notF f)) (fun j => decide (j ≤ n) && !P j) m := fun i hi => by
  obtain ⟨a, e1, h1, h2⟩ := h i hi
  have hs : notF f i = ((4294967295 - a : Nat) : Int) := by
    unfold notF
    rw [e1]
    omega
  have hsb : ∀ q, q < 32 → (4294967295 - a).testBit q = !P (32 * i + q) := fun q hq => by
    have hb : (2 ^ 32 - (a + 1)).testBit q = (decide (q < 32) && !a.testBit q) := Nat.testBit_two_pow_sub_succ h1 q
    rw [decide_eq_true hq, Bool.true_and, h2 q hq] at hb
    rw [← hb]
    congr 1
    have : (2 : Nat) ^ 32 = 4294967296 := by decide
    omega
  have hzl : 4294967295 - a < 4294967296 := by omega
  generalize 4294967295 - a = z at *
  unfold cutF
  by_cases hl : i + 1 = m ∧ 0 < ((n : Int) + 1) % 32
  · rw [if_pos hl, hs]
    obtain ⟨r, hr⟩ : ∃ r, (n + 1) % 32 = r := ⟨_, rfl⟩
    have hr2 : (((n : Int) + 1) % 32).toNat = r := by omega
    rw [hr2]
    refine ⟨z % 2 ^ r, by simp, Nat.lt_of_le_of_lt (Nat.mod_le _ _) hzl, fun q hq => ?_⟩
    rw [Nat.testBit_mod_two_pow, hsb q hq]
    show _ = (decide (32 * i + q ≤ n) && !P (32 * i + q))
    congr 1
    simp only [decide_eq_decide]
    omega
  · rw [if_neg hl, hs]
    refine ⟨z, rfl, hzl, fun q hq => ?_⟩
    rw [hsb q hq]
    show _ = (decide (32 * i + q ≤ n) && !P (32 * i + q))
    rw [decide_eq_true (show 32 * i + q ≤ n by omega), Bool.true_and]
end Go.Proofs.YtlgnplnmcdjbiaaGreat
namespace Go.Proofs.YtlgnplnmcdjbiaaGreat
open Go.RowKit

theorem VecIs.xor {f g : Nat → Int} {P Q : Nat → Bool} {m : Nat} (h : VecIs f P m) (h' : VecIs g Q m) : VecIs (fun i => bits .xor .i64 (f i) (g i)) (fun j => (P j ^^ Q j)) m := fun i hi => by
  obtain ⟨a, e1, h1, h2⟩ := h i hi
  obtain ⟨b, e2, h3, h4⟩ := h' i hi
  refine ⟨a ^^^ b, ?_, Nat.xor_lt_two_pow h1 h3, fun q hq => by rw [Nat.testBit_xor, h2 q hq, h4 q hq]⟩
  show bits .xor .i64 (f i) (g i) = _
  rw [e1, e2, bits_xor_nat .i64 32 (by decide) wraps_i64w a b h1 h3]
/-- The words of a difference that is no less than none. -/
theorem dif_words {d f : Nat → Int} {x y m : Nat} (hm : m ≤ 2) (hx : x < 2 ^ (32 * m)) (hle : y ≤ x) (hd : ∀ i, i < m → d i = wordsN x i) (hf : ∀ i, i < m → f i = wordsN y i) : ∀ i, i < m → difF d f i = wordsN (x - y) i := fun i hi => by
  have hc : (m = 1 ∧ i = 0) ∨ (m = 2 ∧ i = 0) ∨ (m = 2 ∧ i = 1) := by omega
  rcases hc with ⟨rfl, rfl⟩ | ⟨rfl, rfl⟩ | ⟨rfl, rfl⟩
  · have e1 := hd 0 (by omega)
    have e2 := hf 0 (by omega)
    unfold wordsN at e1 e2 ⊢
    unfold difF borF
    rw [e1, e2]
    omega
  · have e1 := hd 0 (by omega)
    have e2 := hf 0 (by omega)
    unfold wordsN at e1 e2 ⊢
    unfold difF borF
    rw [e1, e2]
    omega
  · have e1 := hd 0 (by omega)
    have e2 := hf 0 (by omega)
    have e3 := hd 1 (by omega)
    have e4 := hf 1 (by omega)
    have hb : borF d f 1 = if d 0 < f 0 + 0 then 1 else 0 := rfl
    unfold difF
    rw [hb]
    unfold wordsN at e1 e2 e3 e4 ⊢
    rw [e1, e2, e3, e4]
    have p1 : (2 : Nat) ^ (0 * 32) = 1 := by decide
    have p2 : (2 : Nat) ^ (1 * 32) = 4294967296 := by decide
    have p3 : (2 : Nat) ^ (32 * 2) = 18446744073709551616 := by decide
    rw [p3] at hx
    rw [p1, p2]
    split <;> omega
theorem cy_bits {f l k g : Nat → Int} {S A : Nat → Bool} {n m : Nat} (hn : n ≤ 60) (hm : m = (n + 1 + 31) / 32) (h0 : S 0 = false) (hS : ∀ j, n < j → S j = false) (hA : ∀ j, n < j → A j = false)
    (hf : VecIs f (firstB S) m) (hl : VecIs l (lastB S) m) (hk : VecIs k S m) (hg : VecIs g A m) : VecIs (cyF ((n : Int) + 1) m f l k g) (cloB S A) m := by
  have hF : ∀ j, n < j → firstB S j = false := fun j hj => by unfold firstB; rw [hS (j + 1) (by omega)]; rfl
  have hL : ∀ j, n < j → lastB S j = false := fun j hj => by unfold lastB; rw [hS j hj]; rfl
  have ia := bits_valB (P := A) (fun j hj => hA j (by omega))
  have ik := bits_valB (P := S) (fun j hj => hS j (by omega))
  have iF := bits_valB (P := firstB S) (fun j hj => hF j (by omega))
  have iL := bits_valB (P := lastB S) (fun j hj => hL j (by omega))
  obtain ⟨hle, hX⟩ := clo_sub (n := n) (by omega) h0 hS hA ia ik iF iL
  have iD := ia.or iL
  generalize valB A 64 = a at *
  generalize valB S 64 = bl at *
  generalize valB (firstB S) 64 = fi at *
  generalize valB (lastB S) 64 = la at *
  have hDn : ∀ j, n < j → (A j || lastB S j) = false := fun j hj => by rw [hA j hj, hL j hj]; rfl
  have hDl := lt_pow_of iD hDn
  have hm2 : m ≤ 2 := by omega
  have hD2 : a ||| la < 2 ^ (32 * m) := Nat.lt_of_lt_of_le hDl (Nat.pow_le_pow_right (by decide) (by omega))
  have hd := hg.or hl
  have ed : ∀ i, i < m → cyD l g i = wordsN (a ||| la) i := hd.uniq (vecIs_words iD m)
  have ef : ∀ i, i < m → f i = wordsN fi i := hf.uniq (vecIs_words iF m)
  have hdif := dif_words hm2 hD2 hle ed ef
  have hDF : (a ||| la) - fi < 2 ^ (n + 1) := Nat.lt_of_le_of_lt (Nat.sub_le _ _) hDl
  have iS : IsBits ((a ||| la) - fi) (fun j => ((a ||| la) - fi).testBit j) := ⟨Nat.lt_of_lt_of_le hDF (Nat.le_trans (Nat.pow_le_pow_right (by decide) (show n + 1 ≤ 64 by omega)) (by decide)), fun _ => rfl⟩
  have hSn : ∀ j, n < j → ((a ||| la) - fi).testBit j = false := fun j hj => Nat.testBit_lt_two_pow (Nat.lt_of_lt_of_le hDF (Nat.pow_le_pow_right (by decide) (by omega)))
  have hR := right_of_vecIs (by omega) hm (vecIs_words iS m) hSn
  have hrange : ∀ (u : Nat → Int) (P : Nat → Bool), VecIs u P m → ∀ i, i < m → 0 ≤ u i ∧ u i ≤ 4294967295 := fun u P h i hi => by
    obtain ⟨z, e1, h1, _⟩ := h i hi
    rw [e1]
    omega
  have hcy : VecIs (cyS ((n : Int) + 1) m f l g) (fun j => ((a ||| la) - fi).testBit j) m := fun i hi => by
    have e1 : cyS ((n : Int) + 1) m f l g i = wordsN ((a ||| la) - fi) i := by
      have e9 : cutF ((n : Int) + 1) m (difF (cyD l g) f) i = cyS ((n : Int) + 1) m f l g i := sub_same (b := (n : Int) + 1) (hrange _ _ hd) (hrange _ _ hf) i hi
      rw [← e9]
      exact cut_same (hR.2.2.2.2.imp id (fun h => ⟨(hR.2.2.2.1 (m - 1) (by omega)).1, h⟩)) hdif i hi
    obtain ⟨z, e2, h2, h3⟩ := vecIs_words iS m i hi
    exact ⟨z, by rw [e1]; exact e2, h2, h3⟩
  have hx := hcy.xor hd
  have hnot := hx.notC hm
  have hor := hg.or (hk.and hnot)
  refine hor.congr (fun j => ?_)
  have hb := hX.bit j
  rw [Nat.testBit_or, Nat.testBit_xor, Nat.testBit_and, Nat.testBit_xor, ia.bit, ik.bit, iD.bit] at hb
  rw [← hb]
  by_cases hj : j ≤ n
  · rw [decide_eq_true hj]
    cases A j <;> cases S j <;> cases lastB S j <;> cases ((a ||| la) - fi).testBit j <;> rfl
  · rw [hS j (by omega)]
    simp
end Go.Proofs.YtlgnplnmcdjbiaaGreat
namespace Go.Proofs.YtlgnplnmcdjbiaaGreat
open Go.RowKit

theorem cloB_twice (S P : Nat → Bool) : ∀ j, cloB S (cloB S P) j = cloB S P j
  | 0 => rfl
  | j + 1 => by
    show (cloB S P (j + 1) || (S (j + 1) && cloB S (cloB S P) j)) = cloB S P (j + 1)
    rw [cloB_twice S P j]
    show ((P (j + 1) || (S (j + 1) && cloB S P j)) || (S (j + 1) && cloB S P j)) = (P (j + 1) || (S (j + 1) && cloB S P j))
    cases P (j + 1) <;> cases S (j + 1) <;> cases cloB S P j <;> rfl
theorem cloB_or (S P Q : Nat → Bool) : ∀ j, cloB S (fun j => P j || Q j) j = (cloB S P j || cloB S Q j)
  | 0 => rfl
  | j + 1 => by
    show ((P (j + 1) || Q (j + 1)) || (S (j + 1) && cloB S (fun j => P j || Q j) j)) = ((P (j + 1) || (S (j + 1) && cloB S P j)) || (Q (j + 1) || (S (j + 1) && cloB S Q j)))
    rw [cloB_or S P Q j]
    cases P (j + 1) <;> cases Q (j + 1) <;> cases S (j + 1) <;> cases cloB S P j <;> cases cloB S Q j <;> rfl
theorem cloB_and (S P : Nat → Bool) : ∀ j, (cloB S P j && P j) = P j := fun j => by
  cases hp : P j with
  | false => simp
  | true => rw [cloB_of hp]; rfl
/-- The bits of words. -/
theorem bitsOf_is {f : Nat → Int} {P : Nat → Bool} {n m : Nat} (hm : m = (n + 1 + 31) / 32) (h : VecIs f P m) (hP : ∀ j, n < j → P j = false) : ∀ j, bitsOf f n j = P j := fun j => by
  unfold bitsOf
  by_cases hj : j ≤ n
  · obtain ⟨a, e, _, h2⟩ := h (j / 32) (by omega)
    rw [decide_eq_true hj, Bool.true_and, e, show ((a : Nat) : Int).toNat = a by simp, h2 (j % 32) (by omega), show 32 * (j / 32) + j % 32 = j by omega]
  · rw [decide_eq_false hj, hP j (by omega)]
    rfl
theorem newVec_congr {w w' : World} {b : Int} {n : Nat} {f g : Nat → Int} {e : Ending} (h : NewVec w b n f e w') (hfg : ∀ i, i < n → f i = g i) : NewVec w b n g e w' := by
  obtain ⟨s, c, e1, hb, ho⟩ := h
  exact ⟨s, c, e1, hb, ho.congr hfg⟩
end Go.Proofs.YtlgnplnmcdjbiaaGreat
namespace Go.Proofs.YtlgnplnmcdjbiaaGreat
open Go.RowKit

theorem Tryz.drawInfo : (Tryz.prog.info? 5).map (fun i => (i.zero, i.size, i.bytes)) = some (some (.int .u8 0), 1, 1) := by kernel_rfl
theorem convRow {w : World} {base n : Nat} {v : Value} {M : List Int} (h : w.ownsRow base 5 1 v n (M.map (Value.int .u8))) :
    (convert 22 9 v).run Tryz.prog w = .ok (.string (strOfNums M)) w := by
  have hl : M.length = n := by simpa using h.1
  obtain ⟨_, ⟨rfl, h0⟩ | ⟨g, cap, cur, rfl, hg, hh, hnc, hm, hs, ht⟩⟩ := h
  · obtain rfl : M = [] := List.length_eq_zero_iff.1 (by omega)
    exact run_convert_bytes_nil (P := Tryz.prog) w 22 5 Tryz.underlying22 Tryz.underlying5 0 0 9 Tryz.underlying9
  · refine run_convert_bytes_arg (P := Tryz.prog) w 22 5 Tryz.underlying22 Tryz.underlying5 g 0 n cap M hl (fun i hi => ?_) 9 Tryz.underlying9
    have h1 : (cur.toList.take (n * 1))[i]? = (M.map (Value.int .u8))[i]? := by rw [ht]
    rw [List.getElem?_take_of_lt (by omega), List.getElem?_map] at h1
    have h2 : M[i]? = some (M.getD i 0) := by rw [List.getD, List.getElem?_eq_getElem (by omega)]; rfl
    rw [h2] at h1
    simpa [World.cell?, hh] using h1
end Go.Proofs.YtlgnplnmcdjbiaaGreat
