/- What is proved here: plain arithmetic on the words of vectors: what is cut, what is taken away word by word. -/
import Derived.Test.YtlgnplnmcdjbiaaQVecFToWordsForW
import Derived.Test.YtlgnplnmcdjbiaaQImplRightW
namespace Go.Proofs.Ytlgnplnmcdjbiaa

theorem cut_same {b : Int} {n : Nat} {f r : Nat → Int} (h : b % 32 = 0 ∨ 0 ≤ r (n - 1) ∧ r (n - 1) < 2 ^ (b % 32).toNat) (he : ∀ i, i < n → f i = r i) : ∀ i, i < n → cutF b n f i = r i := by
  intro i hi
  unfold cutF
  split
  · rename_i h2
    obtain rfl : i = n - 1 := by omega
    rw [he _ hi]
    rcases h with h | h
    · omega
    · exact Int.emod_eq_of_lt h.1 h.2
  · exact he i hi
theorem Right.word {b : Int} {n i : Nat} {f : Nat → Int} (h : Right b n f) (hi : i < n) : Word 32 (f i) := by
  have := h.2.2.2.1 i hi
  exact ⟨this.1, by omega⟩
theorem Right.last {b : Int} {n : Nat} {f : Nat → Int} (h : Right b n f) (ho : ¬ b % 32 = 0) : Word (b % 32).toNat (f (n - 1)) := by
  have hn : 0 < n := by have := h.2.2.1; have := h.1; omega
  exact ⟨(h.2.2.2.1 (n - 1) (by omega)).1, by rcases h.2.2.2.2 with h | h <;> first | exact h | omega⟩
/-- The borrow out of word k. -/
def borF (f g : Nat → Int) : Nat → Int
  | 0 => 0
  | k + 1 => if f k < g k + borF f g k then 1 else 0
/-- The words of a difference. -/
def difF (f g : Nat → Int) : Nat → Int := fun i => (f i - g i - borF f g i) % 4294967296
theorem bor_range (f g : Nat → Int) : ∀ k, 0 ≤ borF f g k ∧ borF f g k ≤ 1
  | 0 => by simp [borF]
  | k + 1 => by unfold borF; split <;> omega
theorem bor_carry {b : Int} {n : Nat} {f g : Nat → Int} (h1 : ∀ i, i < n → 0 ≤ f i ∧ f i ≤ 4294967295) (h2 : ∀ i, i < n → 0 ≤ g i ∧ g i ≤ 4294967295) : ∀ k, k < n → carryF 1 f (cutF b n (notF g)) k = 1 - borF f g k
  | 0, _ => by simp [carryF, borF]
  | k + 1, hk => by
    have ih := bor_carry (b := b) h1 h2 k (by omega)
    have a := h1 k (by omega)
    have c := h2 k (by omega)
    have d := bor_range f g k
    have e : cutF b n (notF g) k = 4294967295 - g k := by unfold cutF notF; rw [if_neg (by omega)]
    unfold carryF borF
    rw [ih, e]
    split <;> omega
theorem sub_same {b : Int} {n : Nat} {f g : Nat → Int} (h1 : ∀ i, i < n → 0 ≤ f i ∧ f i ≤ 4294967295) (h2 : ∀ i, i < n → 0 ≤ g i ∧ g i ≤ 4294967295) : ∀ i, i < n → cutF b n (difF f g) i = cutF b n (sumF 1 f (cutF b n (notF g))) i := by
  intro i hi
  have hc := bor_carry (b := b) h1 h2 i hi
  have a := h1 i hi
  have c := h2 i hi
  have d := bor_range f g i
  by_cases hl : i + 1 = n ∧ 0 < b % 32
  · have e : cutF b n (notF g) i = (4294967295 - g i) % 2 ^ (b % 32).toNat := by unfold cutF notF; rw [if_pos hl]
    have e1 : cutF b n (difF f g) i = (f i - g i - borF f g i) % 4294967296 % 2 ^ (b % 32).toNat := by unfold cutF difF; rw [if_pos hl]
    have e2 : cutF b n (sumF 1 f (cutF b n (notF g))) i = (f i + (4294967295 - g i) % 2 ^ (b % 32).toNat + (1 - borF f g i)) % 4294967296 % 2 ^ (b % 32).toNat := by
      rw [← e, ← hc]
      unfold sumF
      rw [cutF, if_pos hl]
    rw [e1, e2]
    obtain ⟨P, hP⟩ : ∃ P : Int, (2 : Int) ^ (b % 32).toNat = P := ⟨_, rfl⟩
    have hd : P ∣ 4294967296 := by
      rw [← hP]
      have : (4294967296 : Int) = 2 ^ 32 := by decide
      rw [this]
      exact ⟨2 ^ (32 - (b % 32).toNat), by rw [← Int.pow_add]; congr 1; omega⟩
    rw [hP, Int.emod_emod_of_dvd _ hd, Int.emod_emod_of_dvd _ hd]
    have h3 : (4294967295 - g i) % P = 4294967295 - g i - P * ((4294967295 - g i) / P) := by rw [Int.emod_def]
    obtain ⟨Q, hQ⟩ := hd
    have h4 : f i + (4294967295 - g i) % P + (1 - borF f g i) = (f i - g i - borF f g i) + P * (Q - (4294967295 - g i) / P) := by
      rw [h3, Int.mul_sub, ← hQ]
      omega
    rw [h4, Int.add_mul_emod_self_left]
  · have e : cutF b n (notF g) i = 4294967295 - g i := by unfold cutF notF; rw [if_neg hl]
    have e1 : cutF b n (difF f g) i = (f i - g i - borF f g i) % 4294967296 := by unfold cutF difF; rw [if_neg hl]
    have e2 : cutF b n (sumF 1 f (cutF b n (notF g))) i = (f i + (4294967295 - g i) + (1 - borF f g i)) % 4294967296 := by
      rw [← e, ← hc]
      unfold sumF
      rw [cutF, if_neg hl]
    rw [e1, e2]
    omega
/-- What is cut, by the bits of the last word. -/
theorem cut_last (b : Int) (n : Nat) (r : Nat → Int) (i : Nat) (h : ∀ i, i < n → r i < 4294967296 ∧ 0 ≤ r i) (hi : i < n) : cutF b n r i = if i + 1 = n then r i % 2 ^ lastBits b else r i := by
  have := h i hi
  unfold cutF lastBits
  by_cases e : i + 1 = n
  · by_cases e2 : b % 32 = 0
    · rw [if_neg (by omega), if_pos e, if_pos e2]
      omega
    · rw [if_pos (by omega), if_pos e, if_neg e2]
  · rw [if_neg (by omega), if_neg e]
end Go.Proofs.Ytlgnplnmcdjbiaa
