/- What is said here: where a walk stands is to where one comes from any beginning; it hits at the ends of pieces; of the cells of right atoms these are the atoms' pieces; each end is one of a piece that fits: plain mathematics.
   What is proved here: plain arithmetic on the bits that are on: the lowest of a word, what is left without it, the list of all of a row of words. -/
import Derived.Test.YtlgnplnmcdjbiaaGreatQRunMToMeanM
import Derived.Test.YtlgnplnmcdjbiaaGreatQKOfMToCutKM
import Derived.Test.YtlgnplnmcdjbiaaGreatQSpecKRightWToIsW
import Derived.Test.YtlgnplnmcdjbiaaGreatQGetBWToClassRightW
import Derived.Test.YtlgnplnmcdjbiaaGreatQSpecKVecWToWordsForW
import Derived.Lib.TrailingZeros
namespace Go.Proofs.YtlgnplnmcdjbiaaGreat
open Go.RowKit

theorem byteN_get {t : ByteArray} {k : Nat} (h : k < t.size) : byteN t k = t[k].toNat := by unfold byteN; rw [dif_pos h]
/-- A step from where one comes from any beginning. -/
theorem step_ex {t : ByteArray} {f : Nat → Cel} {n k : Nat} {A : Nat → Bool} (hk : k < t.size) (hA : ∀ j, j ≤ n → (A j = true ↔ ∃ s, s ≤ k ∧ At t f s k j)) : ∀ j, j ≤ n → (stepB f n A (byteN t k) j = true ↔ ∃ s, s ≤ k ∧ At t f s (k + 1) j)
  | 0, _ => by
    unfold stepB cloB passB behind
    simp only [at_zero]
    constructor
    · intro h
      simp at h
    · rintro ⟨s, h1, h2⟩
      omega
  | j + 1, hj => by
    have ih := step_ex hk hA j (by omega)
    show ((passB f n A (byteN t k) (j + 1) || (skipB f n (j + 1) && stepB f n A (byteN t k) j)) = true) ↔ _
    rw [skip_at (show j < n by omega)]
    unfold passB
    rw [behind_at _ (show j < n by omega), behind_at _ (show j < n by omega), byteN_get hk, ← takes_hasK hk]
    rw [byteN_get hk] at ih
    have h1 := hA j (by omega)
    have h2 := hA (j + 1) hj
    simp only [Nat.add_sub_cancel, Bool.or_eq_true, Bool.and_eq_true]
    rw [h1, h2, ih]
    constructor
    · rintro (⟨h3, ⟨s, hs, h4⟩ | ⟨⟨s, hs, h4⟩, h5⟩⟩ | ⟨h3, s, hs, h4⟩)
      · exact ⟨s, hs, (at_step hs).2 (Or.inl ⟨h3, Or.inl h4⟩)⟩
      · exact ⟨s, hs, (at_step hs).2 (Or.inl ⟨h3, Or.inr ⟨h5, h4⟩⟩)⟩
      · exact ⟨s, hs, (at_step hs).2 (Or.inr ⟨h3, h4⟩)⟩
    · rintro ⟨s, hs, h3⟩
      rcases (at_step hs).1 h3 with ⟨h4, h5 | ⟨h5, h6⟩⟩ | ⟨h4, h5⟩
      · exact Or.inl ⟨h4, Or.inl ⟨s, hs, h5⟩⟩
      · exact Or.inl ⟨h4, Or.inr ⟨⟨s, hs, h6⟩, h5⟩⟩
      · exact Or.inr ⟨h4, s, hs, h5⟩
theorem walk_at {t : ByteArray} {f : Nat → Cel} {n : Nat} : ∀ k, k ≤ t.size → ∀ j, j ≤ n → (walkS f n t k j = true ↔ ∃ s, s ≤ k ∧ At t f s k j)
  | 0, _ => fun j hj => by
    rw [show walkS f n t 0 j = cloB (behind (fun i => (f i).k) n) (fun j => decide (0 = j)) j from rfl, start_at (t := t) (s := 0) j hj]
    constructor
    · intro h
      exact ⟨0, Nat.le_refl _, h⟩
    · rintro ⟨s, hs, h⟩
      obtain rfl : s = 0 := by omega
      exact h
  | k + 1, hk => fun j hj => by
    have h1 := step_ex (A := walkS f n t k) (show k < t.size by omega) (walk_at (f := f) k (by omega)) j hj
    have h2 := start_at (t := t) (f := f) (n := n) (s := k + 1) j hj
    show (stepB f n (walkS f n t k) (byteN t k) j || startB f n j) = true ↔ _
    rw [Bool.or_eq_true, h1, show startB f n j = cloB (behind (fun i => (f i).k) n) (fun j => decide (0 = j)) j from rfl, h2]
    constructor
    · rintro (⟨s, hs, h⟩ | h)
      · exact ⟨s, by omega, h⟩
      · exact ⟨k + 1, Nat.le_refl _, h⟩
    · rintro ⟨s, hs, h⟩
      by_cases e : s = k + 1
      · rw [e] at h
        exact Or.inr h
      · exact Or.inl ⟨s, by omega, h⟩
/-- A walk hits where a piece ends. -/
theorem hit_at {t : ByteArray} {f : Nat → Cel} {n : Nat} : ∀ e, e ≤ t.size → (hitP f n t e = true ↔ ∃ s, s < e ∧ At t f s e n)
  | 0, _ => ⟨fun h => (by cases h), fun ⟨s, h, _⟩ => (by omega)⟩
  | k + 1, hk => by
    show stepB f n (walkS f n t k) (byteN t k) n = true ↔ _
    rw [step_ex (A := walkS f n t k) (show k < t.size by omega) (walk_at (f := f) k (by omega)) n (Nat.le_refl _)]
    exact ⟨fun ⟨s, h1, h2⟩ => ⟨s, by omega, h2⟩, fun ⟨s, h1, h2⟩ => ⟨s, by omega, h2⟩⟩
/-- The walk along the cells of right atoms hits at the ends of their pieces. -/
theorem hit_cuts {t : ByteArray} {L : List Atm} (h : ∀ a ∈ L, AtomRight a) : ∀ e, e ≤ t.size → (hitP (fun i => (cellsP L).getD i cel0) (cellsP L).length t e = true ↔ ∃ s, s < e ∧ Cuts t L s e) := fun e he => by
  rw [hit_at e he]
  unfold At
  rw [cellsL_getD]
  exact ⟨fun ⟨s, h1, h2⟩ => ⟨s, h1, (cells_cut h).1 h2⟩, fun ⟨s, h1, h2⟩ => ⟨s, h1, (cells_cut h).2 h2⟩⟩
/-- A piece of a text. -/
theorem extract_size {t : ByteArray} {s e : Nat} (_hs : s ≤ e) (he : e ≤ t.size) : (t.extract s e).size = e - s := by
  rw [ByteArray.size_extract]
  omega
theorem takes_extract {t c : ByteArray} {s e k : Nat} (hs : s ≤ e) (he : e ≤ t.size) (hk : k < e - s) : takesB (t.extract s e) c k = takesB t c (s + k) := by
  have h1 : k < (t.extract s e).size := by rw [extract_size hs he]; exact hk
  rw [takes_hasK h1, takes_hasK (show s + k < t.size by omega), ByteArray.getElem_extract]
theorem run_extract {t c : ByteArray} {s e a m : Nat} (hs : s ≤ e) (he : e ≤ t.size) (hm : a + m ≤ e - s) (h : RunC t c (s + a) m) : RunC (t.extract s e) c a m := fun j hj => by
  rw [takes_extract hs he (by omega), ← Nat.add_assoc]
  exact h j hj
theorem cut_extract {t : ByteArray} {s e : Nat} (hs : s ≤ e) (he : e ≤ t.size) : ∀ {L : List Cel} {a b : Nat}, b ≤ e - s → CutK t L (s + a) (s + b) → CutK (t.extract s e) L a b
  | [], a, b, _, h => by have : s + a = s + b := h; show a = b; omega
  | x :: L, a, b, hb, ⟨m, h1, h2, h3⟩ => by
    have h4 := h3.le
    exact ⟨m, h1, run_extract hs he (by omega) h2, cut_extract hs he hb (by rw [← Nat.add_assoc]; exact h3)⟩
/-- Each end at which a walk hits is one of a piece that fits. -/
theorem hit_fits {t : ByteArray} {f : Nat → Cel} {n e : Nat} (hk : CellsOk n f) (ht : t.size ≤ 8000) (he : e ≤ t.size) (h : hitP f n t e = true) : ∃ s, s < e ∧ FitK n f (t.extract s e) := by
  obtain ⟨s, h1, h2⟩ := (hit_at e he).1 h
  have hz := extract_size (t := t) (show s ≤ e by omega) he
  refine ⟨s, h1, by omega, hk, ?_⟩
  rw [run_at _ (Nat.le_refl _) n (Nat.le_refl _), hz]
  exact cut_extract (by omega) he (Nat.le_refl _) (by rw [Nat.add_zero, show s + (e - s) = e by omega]; exact h2)
theorem classL_mem {p : Nat → Bool} {k : Nat} {i : Nat} (h : i < (classL p k).length) : ∃ e : Nat, e < k ∧ p e = true ∧ (classL p k).getD i 0 = (e : Int) := by
  have h1 : (classL p k)[i] ∈ classL p k := List.getElem_mem h
  have h2 : (classL p k).getD i 0 = (classL p k)[i] := by simp [List.getD, h]
  rw [h2]
  generalize (classL p k)[i] = x at *
  unfold classL at h1
  obtain ⟨e, h3, h4⟩ := List.mem_map.1 h1
  obtain ⟨h5, h6⟩ := List.mem_filter.1 h3
  exact ⟨e, List.mem_range.1 h5, h6, h4.symm⟩
/-- Each end of a run, and a piece that fits. -/
theorem run_ends {t : ByteArray} {f : Nat → Cel} {n i : Nat} (hk : CellsOk n f) (ht : t.size ≤ 8000) (h : i < (runL f n t).length) : ∃ e : Nat, e ≤ t.size ∧ (runL f n t).getD i 0 = (e : Int) ∧ ∃ s, s < e ∧ FitK n f (t.extract s e) := by
  obtain ⟨e, h1, h2, h3⟩ := classL_mem h
  exact ⟨e, by omega, h3, hit_fits hk ht (by omega) h2⟩
end Go.Proofs.YtlgnplnmcdjbiaaGreat
namespace Go.Proofs.YtlgnplnmcdjbiaaGreat
open Go.RowKit

/-- The lowest bit that is on, and what is left without it. -/
theorem ctz_bits (x : Nat) (h0 : x ≠ 0) (h : x < 2 ^ 32) : x.testBit (Lib.ctz 32 x) = true ∧ (∀ i, i < Lib.ctz 32 x → x.testBit i = false) ∧ Lib.ctz 32 x < 32 ∧ ∀ i, (x &&& (x - 1)).testBit i = (x.testBit i && decide (Lib.ctz 32 x < i)) := by
  obtain ⟨m, hm, hk⟩ := Lib.ctzFrom_spec 32 x (by omega) h
  have e : Lib.ctz 32 x = Lib.ctzFrom 32 x := by simp [Lib.ctz, h0]
  rw [e]
  obtain ⟨t, ht⟩ : ∃ t, Lib.ctzFrom 32 x = t := ⟨_, rfl⟩
  rw [ht] at hm hk ⊢
  have hp : 0 < 2 ^ t := Nat.two_pow_pos t
  have hx : ∀ i, x.testBit i = if i < t then false else (2 * m + 1).testBit (i - t) := by
    intro i
    have := Nat.testBit_two_pow_mul_add (2 * m + 1) (b := 0) (i := t) hp i
    rw [Nat.add_zero] at this
    rw [hm, this]
    simp
  have hx1 : ∀ i, (x - 1).testBit i = if i < t then (2 ^ t - 1).testBit i else (2 * m).testBit (i - t) := by
    intro i
    have h2 : x - 1 = 2 ^ t * (2 * m) + (2 ^ t - 1) := by
      rw [hm, Nat.mul_add, Nat.mul_one]
      omega
    rw [h2]
    exact Nat.testBit_two_pow_mul_add (2 * m) (by omega) i
  refine ⟨?_, ?_, hk, ?_⟩
  · rw [hx]
    simp [Nat.testBit_zero]
  · intro i hi
    rw [hx, if_pos hi]
  · intro i
    rw [Nat.testBit_and, hx, hx1]
    by_cases h1 : i < t
    · simp [h1]
    · rw [if_neg h1, if_neg h1]
      by_cases h2 : i = t
      · subst h2
        simp [Nat.testBit_zero]
      · obtain ⟨j, rfl⟩ : ∃ j, i = t + (j + 1) := ⟨i - t - 1, by omega⟩
        have e3 : t + (j + 1) - t = j + 1 := by omega
        rw [e3, Nat.testBit_succ, Nat.testBit_succ]
        have d1 : (2 * m + 1) / 2 = m := by omega
        have d2 : 2 * m / 2 = m := by omega
        rw [d1, d2]
        simp
/-- Whether a bit of a row of words is on. -/
def bitOn (f : Nat → Int) (i : Nat) : Bool := (f (i / 32)).toNat.testBit (i % 32)
/-- The bits below m that are on, the lowest first. -/
def bitsL (f : Nat → Int) (m : Nat) : List Int := ((List.range m).filter (bitOn f)).map fun i : Nat => (i : Int)
theorem bitsL_zero (f : Nat → Int) : bitsL f 0 = [] := rfl
theorem bitsL_on {f : Nat → Int} {m : Nat} (h : bitOn f m = true) : bitsL f (m + 1) = bitsL f m ++ [(m : Int)] := by
  simp [bitsL, List.range_succ, List.filter_append, h]
theorem bitsL_off {f : Nat → Int} {m : Nat} (h : bitOn f m = false) : bitsL f (m + 1) = bitsL f m := by
  simp [bitsL, List.range_succ, List.filter_append, h]
theorem bitsL_none {f : Nat → Int} {a : Nat} : ∀ b, a ≤ b → (∀ i, a ≤ i → i < b → bitOn f i = false) → bitsL f b = bitsL f a
  | 0, h, _ => by obtain rfl : a = 0 := by omega
                  rfl
  | b + 1, h, hn => by
    by_cases e : a = b + 1
    · rw [e]
    · rw [bitsL_off (hn b (by omega) (by omega))]
      exact bitsL_none b (by omega) (fun i h1 h2 => hn i h1 (by omega))
theorem bitsL_pre (f : Nat → Int) (a : Nat) : ∀ b, a ≤ b → ∃ r, bitsL f b = bitsL f a ++ r
  | 0, h => by obtain rfl : a = 0 := by omega
               exact ⟨[], by simp⟩
  | b + 1, h => by
    by_cases e : a = b + 1
    · exact ⟨[], by rw [e]; simp⟩
    · obtain ⟨r, hr⟩ := bitsL_pre f a b (by omega)
      by_cases hb : bitOn f b = true
      · exact ⟨r ++ [(b : Int)], by rw [bitsL_on hb, hr]; simp⟩
      · exact ⟨r, by rw [bitsL_off (by simpa using hb), hr]⟩
theorem bitsL_len (f : Nat → Int) : ∀ m, (bitsL f m).length ≤ m
  | 0 => by simp [bitsL]
  | m + 1 => by
    have := bitsL_len f m
    by_cases hb : bitOn f m = true
    · rw [bitsL_on hb]; simp; omega
    · rw [bitsL_off (by simpa using hb)]; omega
theorem bitsL_step {f : Nat → Int} {a t : Nat} (h : a ≤ t) (hn : ∀ i, a ≤ i → i < t → bitOn f i = false) (ho : bitOn f t = true) : bitsL f (t + 1) = bitsL f a ++ [(t : Int)] := by
  rw [bitsL_on ho, bitsL_none t h hn]
theorem bitsL_mem {f : Nat → Int} {m : Nat} {x : Int} (h : x ∈ bitsL f m) : ∃ i : Nat, x = i ∧ i < m := by
  unfold bitsL at h
  obtain ⟨i, hi, rfl⟩ := List.mem_map.1 h
  have := List.mem_filter.1 hi
  exact ⟨i, rfl, by simpa using this.1⟩
/-- What is left of a word when the bits below p have come. -/
def Rest (x p r : Nat) : Prop := r < 2 ^ 32 ∧ ∀ i, r.testBit i = (x.testBit i && decide (p ≤ i))
theorem rest_start {x : Nat} (h : x < 2 ^ 32) : Rest x 0 x := ⟨h, fun i => by simp⟩
theorem rest_step {x p r : Nat} (h : Rest x p r) (h0 : r ≠ 0) : p ≤ Lib.ctz 32 r ∧ Lib.ctz 32 r < 32 ∧ x.testBit (Lib.ctz 32 r) = true ∧ (∀ i, p ≤ i → i < Lib.ctz 32 r → x.testBit i = false) ∧ Rest x (Lib.ctz 32 r + 1) (r &&& (r - 1)) := by
  obtain ⟨h1, h2, h3, h4⟩ := ctz_bits r h0 h.1
  have h5 := h.2 (Lib.ctz 32 r)
  rw [h1] at h5
  have h6 : x.testBit (Lib.ctz 32 r) = true ∧ p ≤ Lib.ctz 32 r := by simpa using h5.symm
  refine ⟨h6.2, h3, h6.1, fun i hi hl => ?_, ?_, fun i => ?_⟩
  · have h7 := h.2 i
    rw [h2 i hl] at h7
    simpa [hi] using h7.symm
  · exact Nat.lt_of_le_of_lt Nat.and_le_left h.1
  · rw [h4 i, h.2 i]
    by_cases hl : Lib.ctz 32 r < i
    · have : p ≤ i := by omega
      have h8 : Lib.ctz 32 r + 1 ≤ i := hl
      simp [hl, this, h8]
    · have h8 : ¬ Lib.ctz 32 r + 1 ≤ i := by omega
      simp [hl, h8]
theorem rest_end {x p : Nat} (h : Rest x p 0) : ∀ i, p ≤ i → x.testBit i = false := by
  intro i hi
  have := h.2 i
  simpa [hi] using this.symm
theorem word_on (f : Nat → Int) (k j : Nat) (hj : j < 32) : bitOn f (32 * k + j) = (f k).toNat.testBit j := by
  unfold bitOn
  have e1 : (32 * k + j) / 32 = k := by omega
  have e2 : (32 * k + j) % 32 = j := by omega
  rw [e1, e2]
/-- One bit of a word comes. -/
theorem come_step {f : Nat → Int} {k p r : Nat} (h : Rest (f k).toNat p r) (h0 : r ≠ 0) : bitsL f (32 * k + (Lib.ctz 32 r + 1)) = bitsL f (32 * k + p) ++ [((32 * k + Lib.ctz 32 r : Nat) : Int)] ∧ p ≤ Lib.ctz 32 r ∧ Lib.ctz 32 r < 32 ∧ Rest (f k).toNat (Lib.ctz 32 r + 1) (r &&& (r - 1)) := by
  obtain ⟨h1, h2, h3, h4, h5⟩ := rest_step h h0
  refine ⟨?_, h1, h2, h5⟩
  rw [← Nat.add_assoc]
  refine bitsL_step (by omega) (fun i hi hl => ?_) ?_
  · obtain ⟨j, rfl⟩ : ∃ j, i = 32 * k + j := ⟨i - 32 * k, by omega⟩
    rw [word_on f k j (by omega)]
    exact h4 j (by omega) (by omega)
  · rw [word_on f k _ h2]
    exact h3
/-- A word is over. -/
theorem come_end {f : Nat → Int} {k p : Nat} (hp : p ≤ 32) (h : Rest (f k).toNat p 0) : bitsL f (32 * (k + 1)) = bitsL f (32 * k + p) := by
  refine bitsL_none _ (by omega) (fun i hi hl => ?_)
  obtain ⟨j, rfl⟩ : ∃ j, i = 32 * k + j := ⟨i - 32 * k, by omega⟩
  rw [word_on f k j (by omega)]
  exact rest_end h j (by omega)
theorem rest_and (r : Nat) (h0 : r ≠ 0) (h : r < 2 ^ 32) : bits .and .u32 (r : Int) ((r : Int) - 1) = ((r &&& (r - 1) : Nat) : Int) := by
  have e : (r : Int) - 1 = ((r - 1 : Nat) : Int) := by omega
  rw [e, (bits_nat .u32 32 (by decide) wraps_u32w r (r - 1) h (by omega)).1]
/-- A right vector has no bit on from its bits on. -/
theorem right_bits {b : Int} {n : Nat} {f : Nat → Int} (h : Right b n f) : bitsL f (32 * n) = bitsL f b.toNat := by
  obtain ⟨h1, h2, h3, h4, h5⟩ := h
  refine bitsL_none _ (by omega) (fun i hi hl => ?_)
  have hn : 0 < n := by omega
  obtain ⟨j, rfl⟩ : ∃ j, i = 32 * (n - 1) + j := ⟨i - 32 * (n - 1), by omega⟩
  rw [word_on f (n - 1) j (by omega)]
  have hr := h4 (n - 1) (by omega)
  rcases h5 with h5 | h5
  · omega
  · have h6 : (f (n - 1)).toNat < 2 ^ (b % 32).toNat := by
      have e : ((f (n - 1)).toNat : Int) = f (n - 1) := by omega
      have : ((f (n - 1)).toNat : Int) < ((2 ^ (b % 32).toNat : Nat) : Int) := by rw [e]; simpa using h5
      exact_mod_cast this
    exact Nat.testBit_lt_two_pow (Nat.lt_of_lt_of_le h6 (Nat.pow_le_pow_right (by decide) (by omega)))
theorem getB_on {b : Int} {n : Nat} {f : Nat → Int} (h : Right b n f) (i : Nat) (hi : (i : Int) < b) : getB (f (i / 32)) (i % 32) = bitOn f i := by
  have hr := h.2.2.2.1 (i / 32) (by have := h.2.2.1; omega)
  unfold bitOn
  rw [← getB_nat _ _ (by omega)]
  congr 1
  omega
/-- The bits that come. -/
def Come (b : Int) (m : Nat) (f : Nat → Int) (L : List Int) : Prop := (Right b m f → L = bitsL f (32 * m)) ∧ (¬ Right b m f → L = [])
theorem come_some (b : Int) (m : Nat) (f : Nat → Int) : ∃ L, Come b m f L := by
  by_cases h : Right b m f
  · exact ⟨_, fun _ => rfl, fun h2 => absurd h h2⟩
  · exact ⟨[], fun h2 => absurd h2 h, fun _ => rfl⟩
theorem Come.len {b : Int} {m : Nat} {f : Nat → Int} {L : List Int} (h : Come b m f L) : L.length ≤ 320 := by
  by_cases h2 : Right b m f
  · rw [h.1 h2]
    have := bitsL_len f (32 * m)
    have := h2.2.2.1
    have := h2.2.1
    omega
  · rw [h.2 h2]
    simp
theorem low_found {b : Int} {m k : Nat} {f : Nat → Int} {L : List Int} (h : Right b m f) (hL : Come b m f L) (hk : (k : Int) < b) (ho : bitOn f k = true) (hn : bitsL f k = []) : L.head?.getD (-1) = (k : Int) := by
  obtain ⟨r, hr⟩ := bitsL_pre f (k + 1) b.toNat (by omega)
  rw [hL.1 h, right_bits h, hr, bitsL_on ho, hn]
  rfl
theorem low_none {b : Int} {m : Nat} {f : Nat → Int} {L : List Int} (h : Right b m f) (hL : Come b m f L) (hn : bitsL f b.toNat = []) : L.head?.getD (-1) = -1 := by
  rw [hL.1 h, right_bits h, hn]
  rfl
theorem high_found {b : Int} {m k : Nat} {f : Nat → Int} {L : List Int} (h : Right b m f) (hL : Come b m f L) (ho : bitOn f k = true) (hn : bitsL f b.toNat = bitsL f (k + 1)) : L.getLast?.getD (-1) = (k : Int) := by
  rw [hL.1 h, right_bits h, hn, bitsL_on ho]
  simp
theorem high_none {b : Int} {m : Nat} {f : Nat → Int} {L : List Int} (h : Right b m f) (hL : Come b m f L) (hn : bitsL f b.toNat = bitsL f 0) : L.getLast?.getD (-1) = -1 := by
  rw [hL.1 h, right_bits h, hn, bitsL_zero]
  rfl
theorem count_all {b : Int} {m : Nat} {f : Nat → Int} {L : List Int} (h : Right b m f) (hL : Come b m f L) : L.length = (bitsL f b.toNat).length := by
  rw [hL.1 h, right_bits h]
end Go.Proofs.YtlgnplnmcdjbiaaGreat
