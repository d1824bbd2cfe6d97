/- What is proved here: the program's VecRight says whether a vector is right; nothing that was there turns.
   What is proved here: plain arithmetic on the words of vectors: what is cut, what is taken away word by word. -/
import Derived.Test.YtfeolbgenpknfaaGreatQSpecKVecWToWordsForW
import Derived.Test.YtfeolbgenpknfaaGreatQCellMToWordM
namespace Go.Proofs.YtfeolbgenpknfaaGreat
open Go.RowKit

/-- How many bits the last word has. -/
def lastBits (b : Int) : Nat := if b % 32 = 0 then 32 else (b % 32).toNat
theorem lastBits_le (b : Int) : lastBits b ≤ 32 := by unfold lastBits; split <;> omega
theorem lastBits_pos (b : Int) : 1 ≤ lastBits b := by unfold lastBits; split <;> omega
/-- What may be on in the last word. -/
def maskOf (b : Int) : Int := 2 ^ lastBits b - 1
theorem mask_nat : ∀ j : Nat, j < 32 → 4294967295 / 2 ^ j = 2 ^ (32 - j) - 1 := by decide
theorem mask_shift (b : Int) : (4294967295 : Int) / 2 ^ ((b + 31) / 32 * 32 - b).toNat = maskOf b := by
  obtain ⟨j, hj⟩ : ∃ j : Nat, ((b + 31) / 32 * 32 - b).toNat = j := ⟨_, rfl⟩
  have hj2 : j < 32 := by omega
  have hl : lastBits b = 32 - j := by unfold lastBits; split <;> omega
  rw [hj, maskOf, hl]
  have h := mask_nat j hj2
  have hp : 0 < 2 ^ (32 - j) := Nat.two_pow_pos _
  have h2 : ((4294967295 / 2 ^ j : Nat) : Int) = ((2 ^ (32 - j) - 1 : Nat) : Int) := by rw [h]
  rw [Int.natCast_sub hp] at h2
  simpa using h2
theorem mask_le (b x : Int) (h0 : 0 ≤ x) (h1 : x ≤ 4294967295) : x ≤ maskOf b ↔ (b % 32 = 0 ∨ x < 2 ^ (b % 32).toNat) := by
  unfold maskOf lastBits
  split
  · rename_i h
    constructor
    · intro _; exact Or.inl h
    · intro _; omega
  · rename_i h
    constructor
    · intro h2; exact Or.inr (by omega)
    · intro h2
      rcases h2 with h2 | h2
      · exact absurd h2 h
      · omega

theorem lastMask_any (b : Int) (w : World) (h0 : 1 ≤ b) (h1 : b ≤ 320) :
    Calls Tryz.prog 97 #[.int .i64 b] w fun e w' => e = .returned (.int .i64 (maskOf b)) ∧ w' = w := by
  have hm : Hid ((4294967295 : Int) / 2 ^ ((b + 31) / 32 * 32 - b).toNat = maskOf b) := mask_shift b
  go_enter Tryz.func97, Tryz.ntmps97
  go_wp2_with fail
  refine (wordsFor_any b w (by omega) h1).mono ?_
  rintro e w1 ⟨rfl, rfl⟩
  go_wp2
  go_ret
  exact ⟨by first | rfl | (rw [hm.out]; rfl), rfl⟩

open Classical in
set_option maxHeartbeats 2000000 in
theorem implRight_any (b : Int) (sa : Option Addr) (n cap : Nat) (f : Nat → Int) (w : World) (hn : n ≤ 1048576) (hr : Row w w.heap.size sa n f) :
    Calls Tryz.prog 77 #[.agg #[.int .i64 b, .slice sa n cap]] w fun e w' => e = .returned (.bool (decide (Right b n f))) ∧ Below w.heap.size w w' := by
  have HR : Hid (Row w w.heap.size sa n f) := hr
  clear hr
  have hb0 : Below w.heap.size w (w.alloc (.cells #[.int .i64 b, .slice sa n cap] 29)) := (Below.refl _ _).alloc (Nat.le_refl _) _
  have HB0 : Hid (Below w.heap.size w (w.alloc (.cells #[.int .i64 b, .slice sa n cap] 29))) := hb0
  clear hb0
  by_cases h1 : 1 ≤ b ∧ b ≤ 320
  · obtain ⟨hb1, hb2⟩ := h1
    by_cases h2 : (n : Int) = (b + 31) / 32
    · have HH : Hid ((n : Int) = (b + 31) / 32) := h2
      have hn0 : 0 < n := by omega
      go_enter Tryz.func77, Tryz.ntmps77
      go_wp2_with fail
      go_quiet (first | (go_at_call 96; exact Calls.quiet_of_same (wordsFor_any _ _ (by omega) (by omega))))
      go_wp2
      clear h2
      have e1 : decide (b < 1) = false := decide_eq_false (by omega)
      have e2 : decide (320 < b) = false := decide_eq_false (by omega)
      simp only [e1, e2, Bool.or_self]
      clear e1 e2
      go_loopw [4, 25] (fun _ i wr => ∃ k : Nat, k ≤ n ∧ i = .int .i64 (k : Int) ∧ Below w.heap.size w wr ∧ Boxed wr w.heap.size 29 b sa n cap ∧ ∀ i, i < k → 0 ≤ f i ∧ f i ≤ 4294967295) (fun _ i _ => n - (intOf i).toNat)
      case atStart => exact ⟨0, Nat.zero_le _, rfl, below_drewN _ HB0.out, (boxing w _ b sa n cap).2.1, fun i hi => by omega⟩
      case round =>
        obtain ⟨k, hk, rfl, hbel, hbx, hall⟩ := hrel
        have HW : Hid (Below w.heap.size w wr) := hbel
        have HX : Hid (Boxed wr w.heap.size 29 b sa n cap) := hbx
        have HALL : Hid (∀ i, i < k → 0 ≤ f i ∧ f i ≤ 4294967295) := hall
        obtain ⟨cv0, cv1⟩ := hbx.cells
        clear hbx hall
        by_cases hkl : k < n
        · obtain ⟨ba, oa, rfl, hba, hca⟩ : ∃ bb off : Nat, sa = some ⟨bb, off, none⟩ ∧ bb < w.heap.size ∧ ∀ i, i < n → w.cell? ⟨bb, off + i, none⟩ = some (.int .i64 (f i)) := by
            rcases HR.out with h | h
            · omega
            · exact h
          have cz : wr.cell? ⟨ba, oa + k, none⟩ = some (.int .i64 (f k)) := by rw [hbel.cell (p := ⟨ba, oa + k, none⟩) hba]; exact hca k hkl
          clear hca hbel
          have hki : (k : Int) < (b + 31) / 32 := by have := HH.out; omega
          have hk0 : (0 : Int) ≤ (k : Int) := by omega
          by_cases hf : 0 ≤ f k ∧ f k ≤ 4294967295
          · have HF : Hid (0 ≤ f k ∧ f k ≤ 4294967295) := hf
            obtain ⟨hf1, hf2⟩ := hf
            go_wp2
            go_roundw
            case rel => exact ⟨k + 1, by omega, by go_num, HW.out, HX.out, fun i hi => by
              by_cases e : i = k
              · subst e; exact HF.out
              · exact HALL.out i (by omega)⟩
            case measure => simp [intOf]; omega
          · have hno : decide (Right b n f) = false := decide_eq_false (fun h => hf (h.2.2.2.1 k hkl))
            rcases (show f k < 0 ∨ 0 ≤ f k ∧ 4294967295 < f k from by omega) with hf1 | ⟨hf1, hf2⟩
            · clear hf
              go_wp2
              go_ret
              exact ⟨by first | rfl | (rw [hno]; rfl), HW.out⟩
            · clear hf
              go_wp2
              go_ret
              exact ⟨by first | rfl | (rw [hno]; rfl), HW.out⟩
        · have hki : ¬ (k : Int) < (b + 31) / 32 := by have := HH.out; omega
          obtain rfl : k = n := by omega
          obtain ⟨m, rfl⟩ : ∃ m, k = m + 1 := ⟨k - 1, by omega⟩
          obtain ⟨ba, oa, rfl, hba, hca⟩ : ∃ bb off : Nat, sa = some ⟨bb, off, none⟩ ∧ bb < w.heap.size ∧ ∀ i, i < m + 1 → w.cell? ⟨bb, off + i, none⟩ = some (.int .i64 (f i)) := by
            rcases HR.out with h | h
            · omega
            · exact h
          have cz : wr.cell? ⟨ba, oa + m, none⟩ = some (.int .i64 (f m)) := by rw [hbel.cell (p := ⟨ba, oa + m, none⟩) hba]; exact hca m (by omega)
          have hlast := HALL.out m (by omega)
          have hl : Hid (f m ≤ maskOf b ↔ (b % 32 = 0 ∨ f m < 2 ^ (b % 32).toNat)) := mask_le b (f m) hlast.1 hlast.2
          clear hca hbel
          go_wp2_with fail
          go_quiet (first | (go_at_call 97; exact Calls.quiet_of_same (lastMask_any _ _ (by omega) (by omega))))
          go_wp2
          go_ret
          refine ⟨ret_bool ?_, below_drewN _ HW.out⟩
          simp only [decide_eq_true_eq, hl.out]
          exact ⟨fun h => ⟨hb1, hb2, HH.out, HALL.out, h⟩, fun h => h.2.2.2.2⟩
    · have hno : decide (Right b n f) = false := decide_eq_false (fun h => h2 h.2.2.1)
      rw [hno]
      have e3 : ((n : Int) != (b + 31) / 32) = true := by simp [h2]
      go_enter Tryz.func77, Tryz.ntmps77
      go_wp2_with fail
      go_quiet (first | (go_at_call 96; exact Calls.quiet_of_same (wordsFor_any _ _ (by omega) (by omega))))
      go_wp2
      go_ret
      exact ⟨rfl, below_drewN _ HB0.out⟩
  · have hno : decide (Right b n f) = false := decide_eq_false (fun h => h1 ⟨h.1, h.2.1⟩)
    rw [hno]
    rcases (show b < 1 ∨ 1 ≤ b ∧ 320 < b from by omega) with hx | ⟨hx, hx2⟩
    · clear h1
      go_enter Tryz.func77, Tryz.ntmps77
      go_wp2_with fail
      go_quiet (fail)
      go_wp2
      go_ret
      exact ⟨rfl, below_drewN _ HB0.out⟩
    · clear h1
      go_enter Tryz.func77, Tryz.ntmps77
      go_wp2_with fail
      go_quiet (fail)
      go_wp2
      go_ret
      exact ⟨rfl, below_drewN _ HB0.out⟩
end Go.Proofs.YtfeolbgenpknfaaGreat
namespace Go.Proofs.YtfeolbgenpknfaaGreat

theorem cut_same {b : Int} {n : Nat} {f r : Nat → Int} (h : b % 32 = 0 ∨ 0 ≤ r (n - 1) ∧ r (n - 1) < 2 ^ (b % 32).toNat) (he : ∀ i, i < n → f i = r i) : ∀ i, i < n → cutF b n f i = r i := by
  intro i hi
  unfold cutF
  split
  · rename_i h2
    obtain rfl : i = n - 1 := by omega
    rw [he _ hi]
    rcases h with h | h
    · omega
    · exact Int.emod_eq_of_lt h.1 h.2
  · exact he i hi
theorem Right.word {b : Int} {n i : Nat} {f : Nat → Int} (h : Right b n f) (hi : i < n) : Word 32 (f i) := by
  have := h.2.2.2.1 i hi
  exact ⟨this.1, by omega⟩
theorem Right.last {b : Int} {n : Nat} {f : Nat → Int} (h : Right b n f) (ho : ¬ b % 32 = 0) : Word (b % 32).toNat (f (n - 1)) := by
  have hn : 0 < n := by have := h.2.2.1; have := h.1; omega
  exact ⟨(h.2.2.2.1 (n - 1) (by omega)).1, by rcases h.2.2.2.2 with h | h <;> first | exact h | omega⟩
/-- The borrow out of word k. -/
def borF (f g : Nat → Int) : Nat → Int
  | 0 => 0
  | k + 1 => if f k < g k + borF f g k then 1 else 0
/-- The words of a difference. -/
def difF (f g : Nat → Int) : Nat → Int := fun i => (f i - g i - borF f g i) % 4294967296
theorem bor_range (f g : Nat → Int) : ∀ k, 0 ≤ borF f g k ∧ borF f g k ≤ 1
  | 0 => by simp [borF]
  | k + 1 => by unfold borF; split <;> omega
theorem bor_carry {b : Int} {n : Nat} {f g : Nat → Int} (h1 : ∀ i, i < n → 0 ≤ f i ∧ f i ≤ 4294967295) (h2 : ∀ i, i < n → 0 ≤ g i ∧ g i ≤ 4294967295) : ∀ k, k < n → carryF 1 f (cutF b n (notF g)) k = 1 - borF f g k
  | 0, _ => by simp [carryF, borF]
  | k + 1, hk => by
    have ih := bor_carry (b := b) h1 h2 k (by omega)
    have a := h1 k (by omega)
    have c := h2 k (by omega)
    have d := bor_range f g k
    have e : cutF b n (notF g) k = 4294967295 - g k := by unfold cutF notF; rw [if_neg (by omega)]
    unfold carryF borF
    rw [ih, e]
    split <;> omega
theorem sub_same {b : Int} {n : Nat} {f g : Nat → Int} (h1 : ∀ i, i < n → 0 ≤ f i ∧ f i ≤ 4294967295) (h2 : ∀ i, i < n → 0 ≤ g i ∧ g i ≤ 4294967295) : ∀ i, i < n → cutF b n (difF f g) i = cutF b n (sumF 1 f (cutF b n (notF g))) i := by
  intro i hi
  have hc := bor_carry (b := b) h1 h2 i hi
  have a := h1 i hi
  have c := h2 i hi
  have d := bor_range f g i
  by_cases hl : i + 1 = n ∧ 0 < b % 32
  · have e : cutF b n (notF g) i = (4294967295 - g i) % 2 ^ (b % 32).toNat := by unfold cutF notF; rw [if_pos hl]
    have e1 : cutF b n (difF f g) i = (f i - g i - borF f g i) % 4294967296 % 2 ^ (b % 32).toNat := by unfold cutF difF; rw [if_pos hl]
    have e2 : cutF b n (sumF 1 f (cutF b n (notF g))) i = (f i + (4294967295 - g i) % 2 ^ (b % 32).toNat + (1 - borF f g i)) % 4294967296 % 2 ^ (b % 32).toNat := by
      rw [← e, ← hc]
      unfold sumF
      rw [cutF, if_pos hl]
    rw [e1, e2]
    obtain ⟨P, hP⟩ : ∃ P : Int, (2 : Int) ^ (b % 32).toNat = P := ⟨_, rfl⟩
    have hd : P ∣ 4294967296 := by
      rw [← hP]
      have : (4294967296 : Int) = 2 ^ 32 := by decide
      rw [this]
      exact ⟨2 ^ (32 - (b % 32).toNat), by rw [← Int.pow_add]; congr 1; omega⟩
    rw [hP, Int.emod_emod_of_dvd _ hd, Int.emod_emod_of_dvd _ hd]
    have h3 : (4294967295 - g i) % P = 4294967295 - g i - P * ((4294967295 - g i) / P) := by rw [Int.emod_def]
    obtain ⟨Q, hQ⟩ := hd
    have h4 : f i + (4294967295 - g i) % P + (1 - borF f g i) = (f i - g i - borF f g i) + P * (Q - (4294967295 - g i) / P) := by
      rw [h3, Int.mul_sub, ← hQ]
      omega
    rw [h4, Int.add_mul_emod_self_left]
  · have e : cutF b n (notF g) i = 4294967295 - g i := by unfold cutF notF; rw [if_neg hl]
    have e1 : cutF b n (difF f g) i = (f i - g i - borF f g i) % 4294967296 := by unfold cutF difF; rw [if_neg hl]
    have e2 : cutF b n (sumF 1 f (cutF b n (notF g))) i = (f i + (4294967295 - g i) + (1 - borF f g i)) % 4294967296 := by
      rw [← e, ← hc]
      unfold sumF
      rw [cutF, if_neg hl]
    rw [e1, e2]
    omega
/-- What is cut, by the bits of the last word. -/
theorem cut_last (b : Int) (n : Nat) (r : Nat → Int) (i : Nat) (h : ∀ i, i < n → r i < 4294967296 ∧ 0 ≤ r i) (hi : i < n) : cutF b n r i = if i + 1 = n then r i % 2 ^ lastBits b else r i := by
  have := h i hi
  unfold cutF lastBits
  by_cases e : i + 1 = n
  · by_cases e2 : b % 32 = 0
    · rw [if_neg (by omega), if_pos e, if_pos e2]
      omega
    · rw [if_pos (by omega), if_pos e, if_neg e2]
  · rw [if_neg (by omega), if_neg e]
end Go.Proofs.YtfeolbgenpknfaaGreat
