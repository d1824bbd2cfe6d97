/- What is proved here: plain arithmetic for the law of vectors: what is taken away is added again; the counts. -/
import Derived.Test.YtlgnplnmcdjbiaaQVecM
import Derived.Test.YtlgnplnmcdjbiaaQGetBWToCtzM
namespace Go.Proofs.Ytlgnplnmcdjbiaa
open Go.RowKit

/-- The words of what was taken away and added again carry as they borrowed. -/
theorem carry_back {b : Int} {n : Nat} {f g : Nat → Int} (h1 : ∀ i, i < n → 0 ≤ f i ∧ f i ≤ 4294967295) (h2 : ∀ i, i < n → 0 ≤ g i ∧ g i ≤ 4294967295) : ∀ k, k < n → carryF 0 (cutF b n (difF f g)) g k = borF f g k
  | 0, _ => rfl
  | k + 1, hk => by
    have ih := carry_back (b := b) h1 h2 k (by omega)
    have a := h1 k (by omega)
    have c := h2 k (by omega)
    have d := bor_range f g k
    have e : cutF b n (difF f g) k = (f k - g k - borF f g k) % 4294967296 := by unfold cutF difF; rw [if_neg (by omega)]
    unfold carryF borF
    rw [ih, e]
    split <;> omega
/-- What is taken away is added again. -/
theorem sub_add {b : Int} {n : Nat} {f g : Nat → Int} (h1 : Right b n f) (h2 : Right b n g) : ∀ i, i < n → cutF b n (sumF 0 (cutF b n (difF f g)) g) i = f i := by
  intro i hi
  have hf := h1.2.2.2.1
  have hg := h2.2.2.2.1
  have hc := carry_back (b := b) hf hg i hi
  have a := hf i hi
  have c := hg i hi
  have d := bor_range f g i
  by_cases hl : i + 1 = n ∧ 0 < b % 32
  · obtain ⟨P, hP⟩ : ∃ P : Int, (2 : Int) ^ (b % 32).toNat = P := ⟨_, rfl⟩
    have hdv : P ∣ 4294967296 := by
      rw [← hP, show (4294967296 : Int) = 2 ^ 32 from by decide]
      exact ⟨2 ^ (32 - (b % 32).toNat), by rw [← Int.pow_add]; congr 1; omega⟩
    have e : cutF b n (difF f g) i = (f i - g i - borF f g i) % P := by
      unfold cutF difF
      rw [if_pos hl, hP, Int.emod_emod_of_dvd _ hdv]
    have e2 : cutF b n (sumF 0 (cutF b n (difF f g)) g) i = ((f i - g i - borF f g i) % P + g i + borF f g i) % P := by
      unfold sumF
      rw [cutF, if_pos hl, hP, e, hc, Int.emod_emod_of_dvd _ hdv]
    have hlast : f i < P := by
      have hi1 : i = n - 1 := by omega
      rcases h1.2.2.2.2 with h | h
      · omega
      · rw [hi1, ← hP]; exact h
    rw [e2]
    have h3 : (f i - g i - borF f g i) % P = f i - g i - borF f g i - P * ((f i - g i - borF f g i) / P) := by rw [Int.emod_def]
    have h4 : (f i - g i - borF f g i) % P + g i + borF f g i = f i + P * (-((f i - g i - borF f g i) / P)) := by
      rw [h3, Int.mul_neg]
      omega
    rw [h4, Int.add_mul_emod_self_left, Int.emod_eq_of_lt a.1 hlast]
  · have e : cutF b n (difF f g) i = (f i - g i - borF f g i) % 4294967296 := by unfold cutF difF; rw [if_neg hl]
    have e2 : cutF b n (sumF 0 (cutF b n (difF f g)) g) i = ((f i - g i - borF f g i) % 4294967296 + g i + borF f g i) % 4294967296 := by
      unfold sumF
      rw [cutF, if_neg hl, e, hc]
    rw [e2]
    omega
theorem sum_congr {cr : Int} {f f' g g' : Nat → Int} {n : Nat} (hf : ∀ i, i < n → f i = f' i) (hg : ∀ i, i < n → g i = g' i) : (∀ k, k ≤ n → carryF cr f g k = carryF cr f' g' k) ∧ ∀ i, i < n → sumF cr f g i = sumF cr f' g' i := by
  have hc : ∀ k, k ≤ n → carryF cr f g k = carryF cr f' g' k := by
    intro k
    induction k with
    | zero => intro _; rfl
    | succ k ih =>
      intro hk
      unfold carryF
      rw [ih (by omega), hf k (by omega), hg k (by omega)]
  refine ⟨hc, fun i hi => ?_⟩
  unfold sumF
  rw [hc i (by omega), hf i hi, hg i hi]
theorem cut_congr {b : Int} {n : Nat} {f f' : Nat → Int} (h : ∀ i, i < n → f i = f' i) : ∀ i, i < n → cutF b n f i = cutF b n f' i := by
  intro i hi
  unfold cutF
  rw [h i hi]
/-- What is cut is right. -/
theorem cut_right {b : Int} {n : Nat} {f : Nat → Int} (hb0 : 1 ≤ b) (hb1 : b ≤ 320) (hn : (n : Int) = (b + 31) / 32) (h : ∀ i, i < n → 0 ≤ f i ∧ f i ≤ 4294967295) : Right b n (cutF b n f) := by
  have hp : (0 : Int) < 2 ^ (b % 32).toNat := Int.pow_pos (by decide)
  refine ⟨hb0, hb1, hn, fun i hi => ?_, ?_⟩
  · have := h i hi
    unfold cutF
    split
    · have h1 := Int.emod_nonneg (f i) (Int.ne_of_gt hp)
      have h2 : f i % 2 ^ (b % 32).toNat ≤ f i := by
        have h3 := Int.emod_add_mul_ediv (f i) (2 ^ (b % 32).toNat)
        have h4 : 0 ≤ 2 ^ (b % 32).toNat * (f i / 2 ^ (b % 32).toNat) := Int.mul_nonneg (Int.le_of_lt hp) (Int.ediv_nonneg this.1 (Int.le_of_lt hp))
        omega
      omega
    · exact this
  · by_cases ho : b % 32 = 0
    · exact Or.inl ho
    · refine Or.inr ?_
      unfold cutF
      rw [if_pos ⟨by omega, by omega⟩]
      exact Int.emod_lt_of_pos _ hp
/-- Counting what is on in both and in just one. -/
theorem count_pair (f g x z : Nat → Int) : ∀ m, (∀ i, i < m → bitOn x i = (bitOn f i && bitOn g i)) → (∀ i, i < m → bitOn z i = (bitOn f i != bitOn g i)) → (bitsL f m).length + (bitsL g m).length = (bitsL z m).length + 2 * (bitsL x m).length
  | 0, _, _ => rfl
  | m + 1, hx, hz => by
    have ih := count_pair f g x z m (fun i hi => hx i (by omega)) (fun i hi => hz i (by omega))
    have hl : ∀ h : Nat → Int, (bitsL h (m + 1)).length = (bitsL h m).length + if bitOn h m then 1 else 0 := by
      intro h
      unfold bitsL
      rw [List.range_succ, List.filter_append]
      cases hb : bitOn h m <;> simp [hb]
    rw [hl f, hl g, hl z, hl x, hx m (by omega), hz m (by omega)]
    cases bitOn f m <;> cases bitOn g m <;> simp <;> omega
theorem place_lt {b : Int} {n i : Nat} {f : Nat → Int} (h : Right b n f) (hi : (i : Int) < b) : i / 32 < n := by have := h.2.2.1; omega
theorem on_and {b : Int} {n i : Nat} {f g : Nat → Int} (h1 : Right b n f) (h2 : Right b n g) (hi : (i : Int) < b) : bitOn (fun i => bits .and .i64 (f i) (g i)) i = (bitOn f i && bitOn g i) := by
  have hk := place_lt h1 hi
  unfold bitOn
  dsimp only
  obtain ⟨a, ha, ha2⟩ := word_nat (h1.word hk)
  obtain ⟨c, hc, hc2⟩ := word_nat (h2.word hk)
  rw [ha, hc, (bits_nat .i64 32 (by decide) wraps_i64w a c ha2 hc2).1]
  simp
theorem on_or {b : Int} {n i : Nat} {f g : Nat → Int} (h1 : Right b n f) (h2 : Right b n g) (hi : (i : Int) < b) : bitOn (fun i => bits .or .i64 (f i) (g i)) i = (bitOn f i || bitOn g i) := by
  have hk := place_lt h1 hi
  unfold bitOn
  dsimp only
  obtain ⟨a, ha, ha2⟩ := word_nat (h1.word hk)
  obtain ⟨c, hc, hc2⟩ := word_nat (h2.word hk)
  rw [ha, hc, (bits_nat .i64 32 (by decide) wraps_i64w a c ha2 hc2).2]
  simp
theorem on_xor {b : Int} {n i : Nat} {f g : Nat → Int} (h1 : Right b n f) (h2 : Right b n g) (hi : (i : Int) < b) : bitOn (fun i => bits .xor .i64 (f i) (g i)) i = (bitOn f i != bitOn g i) := by
  have hk := place_lt h1 hi
  unfold bitOn
  dsimp only
  obtain ⟨a, ha, ha2⟩ := word_nat (h1.word hk)
  obtain ⟨c, hc, hc2⟩ := word_nat (h2.word hk)
  rw [ha, hc, bits_xor_nat .i64 32 (by decide) wraps_i64w a c ha2 hc2]
  simp
/-- A bit ahead of the cut stays. -/
theorem on_cut {b : Int} {n i : Nat} {f : Nat → Int} (hn : (n : Int) = (b + 31) / 32) (h0 : 0 ≤ f (i / 32)) (hi : (i : Int) < b) : bitOn (cutF b n f) i = bitOn f i := by
  unfold bitOn cutF
  split
  · rename_i h
    obtain ⟨a, ha⟩ := Int.eq_ofNat_of_zero_le h0
    have e : (f (i / 32) % 2 ^ (b % 32).toNat).toNat = a % 2 ^ (b % 32).toNat := by
      rw [ha]
      have : ((a : Int) % 2 ^ (b % 32).toNat) = ((a % 2 ^ (b % 32).toNat : Nat) : Int) := by simp
      rw [this, Int.toNat_natCast]
    rw [e, ha, Int.toNat_natCast, Nat.testBit_mod_two_pow]
    have : i % 32 < (b % 32).toNat := by omega
    simp [this]
  · rfl
theorem not_bit (a q : Nat) (h : a < 2 ^ 32) (hq : q < 32) : (4294967295 - a).testBit q = !a.testBit q := by
  have := Nat.testBit_two_pow_sub_succ h q
  rw [show 2 ^ 32 - (a + 1) = 4294967295 - a from by omega] at this
  rw [this]
  simp [hq]
theorem on_not {b : Int} {n i : Nat} {f : Nat → Int} (h : Right b n f) (hi : (i : Int) < b) : bitOn (cutF b n (notF f)) i = !bitOn f i := by
  have hk := place_lt h hi
  obtain ⟨a, ha, ha2⟩ := word_nat (h.word hk)
  rw [on_cut h.2.2.1 (by unfold notF; rw [ha]; omega) hi]
  unfold bitOn notF
  rw [ha]
  have e : ((4294967295 : Int) - (a : Int)).toNat = 4294967295 - a := by omega
  rw [e, Int.toNat_natCast]
  exact not_bit a _ ha2 (Nat.mod_lt _ (by decide))
theorem up_bit (a c q : Nat) (hc : c ≤ 1) (hq : q < 32) : ((2 * a + c) % 4294967296).testBit q = if q = 0 then decide (c = 1) else a.testBit (q - 1) := by
  rw [show (4294967296 : Nat) = 2 ^ 32 from rfl, Nat.testBit_mod_two_pow]
  simp only [hq, decide_true, Bool.true_and]
  cases q with
  | zero =>
    rw [Nat.testBit_zero]
    simp
    omega
  | succ q =>
    rw [Nat.testBit_succ]
    have : (2 * a + c) / 2 = a := by omega
    rw [this]
    simp
theorem on_up {b : Int} {n i : Nat} {f : Nat → Int} (h : Right b n f) (hi : (i : Int) < b) : bitOn (cutF b n (sumF 0 f f)) i = if i = 0 then false else bitOn f (i - 1) := by
  have hk := place_lt h hi
  rw [on_cut h.2.2.1 (by unfold sumF; omega) hi]
  obtain ⟨a, ha, ha2⟩ := word_nat (h.word hk)
  obtain ⟨hc0, hc1⟩ := carry_range (cr := 0) (by decide) (by decide) h.2.2.2.1 h.2.2.2.1 (i / 32) (by omega)
  obtain ⟨c, hc⟩ := Int.eq_ofNat_of_zero_le hc0
  have e : (sumF 0 f f (i / 32)).toNat = (2 * a + c) % 4294967296 := by
    unfold sumF
    rw [ha, hc]
    omega
  show (sumF 0 f f (i / 32)).toNat.testBit (i % 32) = _
  rw [e, up_bit a c (i % 32) (by omega) (Nat.mod_lt _ (by decide))]
  by_cases hq : i % 32 = 0
  · rw [if_pos hq]
    by_cases h0 : i = 0
    · subst h0
      rw [if_pos rfl]
      have : c = 0 := by
        have : carryF 0 f f 0 = 0 := rfl
        rw [show (0 : Nat) / 32 = 0 from rfl, this] at hc
        omega
      simp [this]
    · rw [if_neg h0]
      obtain ⟨k, hk2⟩ : ∃ k, i / 32 = k + 1 := ⟨i / 32 - 1, by omega⟩
      obtain ⟨d, hd, hd2⟩ := word_nat (h.word (i := k) (by omega))
      obtain ⟨hp0, hp1⟩ := carry_range (cr := 0) (by decide) (by decide) h.2.2.2.1 h.2.2.2.1 k (by omega)
      have hcc : (c : Int) = (f k + f k + carryF 0 f f k) / 4294967296 := by rw [← hc, hk2]; rfl
      have e2 : (i - 1) / 32 = k := by omega
      have e3 : (i - 1) % 32 = 31 := by omega
      unfold bitOn
      rw [e2, e3, hd, Int.toNat_natCast, Nat.testBit_eq_decide_div_mod_eq]
      rw [hd] at hcc
      congr 1
      simp only [eq_iff_iff]
      omega
  · rw [if_neg hq]
    have h0 : ¬ i = 0 := by omega
    rw [if_neg h0]
    have e2 : (i - 1) / 32 = i / 32 := by omega
    have e3 : (i - 1) % 32 = i % 32 - 1 := by omega
    unfold bitOn
    rw [e2, e3, ha, Int.toNat_natCast]
/-- A bit that is set is as it is asked for. -/
theorem set_bit (x : Int) (q : Nat) (on : Bool) (hq : q < 32) (hx : Word 32 x) : Word 32 (if getB x q = on then x else bits .xor .i64 x (2 ^ q)) ∧ getB (if getB x q = on then x else bits .xor .i64 x (2 ^ q)) q = on ∧ ∀ j : Nat, x < 2 ^ j → q < j → j ≤ 32 → (if getB x q = on then x else bits .xor .i64 x (2 ^ q)) < 2 ^ j := by
  obtain ⟨a, rfl, ha⟩ := word_nat hx
  have hp : 2 ^ q < 2 ^ 32 := Nat.pow_lt_pow_right (by decide) hq
  have e : (2 : Int) ^ q = ((2 ^ q : Nat) : Int) := by simp
  rw [e, bits_xor_nat .i64 32 (by decide) wraps_i64w a _ ha hp]
  have hl := Nat.xor_lt_two_pow ha hp
  by_cases h : getB (a : Int) q = on
  · rw [if_pos h]
    exact ⟨hx, h, fun j hj _ _ => hj⟩
  · rw [if_neg h]
    refine ⟨⟨Int.natCast_nonneg _, by exact_mod_cast hl⟩, ?_, fun j hj hqj _ => ?_⟩
    · rw [getB_nat _ _ hl, Nat.testBit_xor, Nat.testBit_two_pow]
      rw [getB_nat _ _ ha] at h
      cases hb : a.testBit q <;> cases on <;> simp_all
    · have h1 : a < 2 ^ j := by exact_mod_cast hj
      have h2 : 2 ^ q < 2 ^ j := Nat.pow_lt_pow_right (by decide) hqj
      have := Nat.xor_lt_two_pow h1 h2
      exact_mod_cast this
theorem set_right {b : Int} {n k q : Nat} {f : Nat → Int} {i : Int} (on : Bool) (h : Right b n f) (h1 : i < b) (hk : i / 32 = (k : Int)) (hq : i % 32 = (q : Int)) : Right b n (setF f k q on) ∧ getB (setF f k q on k) q = on := by
  have hkn : k < n := by have := h.2.2.1; omega
  obtain ⟨w1, w2, w3⟩ := set_bit (f k) q on (by omega) (h.word hkn)
  have ek : setF f k q on k = if getB (f k) q = on then f k else bits .xor .i64 (f k) (2 ^ q) := by unfold setF; rw [if_pos rfl]
  refine ⟨⟨h.1, h.2.1, h.2.2.1, fun j hj => ?_, ?_⟩, by rw [ek]; exact w2⟩
  · by_cases e : j = k
    · subst e
      rw [ek]
      exact ⟨w1.1, by have := w1.2; omega⟩
    · have : setF f k q on j = f j := by unfold setF; rw [if_neg e]
      rw [this]
      exact h.2.2.2.1 j hj
  · rcases h.2.2.2.2 with h5 | h5
    · exact Or.inl h5
    · by_cases ho : b % 32 = 0
      · exact Or.inl ho
      · refine Or.inr ?_
        by_cases e : n - 1 = k
        · rw [e, ek]
          rw [e] at h5
          exact w3 _ h5 (by have := h.2.2.1; omega) (by omega)
        · have : setF f k q on (n - 1) = f (n - 1) := by unfold setF; rw [if_neg e]
          rw [this]
          exact h5
end Go.Proofs.Ytlgnplnmcdjbiaa
