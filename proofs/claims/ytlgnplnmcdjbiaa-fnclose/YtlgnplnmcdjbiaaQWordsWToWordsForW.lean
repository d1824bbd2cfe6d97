/- What is proved here: how many words so many bits want, as the specification says it; the world stays.
   What is proved here: the specification's l02Is says whether a number is in a span; the world stays.
   What is proved here: the specification's VecRight says whether a vector is right; nothing that was there turns.
   What is said here: the words of what is cut, added and turned, as plain functions.
   What is proved here: plain arithmetic on words of 32 bits: bit by bit, masks, the borrow of a subtraction.
   What is proved here: how many words so many bits want, as the program says it; the world stays. -/
import Derived.Test.YtlgnplnmcdjbiaaQRowsDToVecS
import Derived.Test.YtlgnplnmcdjbiaaProg
import Derived.WalkKit
import Derived.Deep.QuietTactic
import Derived.BigQuiet
import Derived.Laws.BitsLemmas
namespace Go.Proofs.Ytlgnplnmcdjbiaa
open Go.RowKit

theorem words_any (b : Int) (w : World) (h0 : 0 ≤ b) (h1 : b ≤ 320) :
    Calls Try.prog 188 #[.int .i64 b] w fun e w' => e = .returned (.int .i64 ((b + 31) / 32)) ∧ w' = w := by
  go_enter Try.func188, Try.ntmps188
  go_wp2
  go_ret
  exact ⟨rfl, rfl⟩
end Go.Proofs.Ytlgnplnmcdjbiaa
namespace Go.Proofs.Ytlgnplnmcdjbiaa
open Go.RowKit

theorem is_any (x lo hi : Int) (w : World) :
    Calls Try.prog 92 #[.int .i64 x, .int .i64 lo, .int .i64 hi] w fun e w' => e = .returned (.bool (decide (lo ≤ x) && decide (x ≤ hi))) ∧ w' = w := by
  by_cases h : lo ≤ x
  · go_enter Try.func92, Try.ntmps92
    go_wp2
    go_ret
    exact ⟨by simp [h], rfl⟩
  · go_enter Try.func92, Try.ntmps92
    go_wp2
    go_ret
    exact ⟨by simp; omega, rfl⟩
theorem is_yes (x lo hi : Int) (w : World) (h0 : lo ≤ x) (h1 : x ≤ hi) :
    Calls Try.prog 92 #[.int .i64 x, .int .i64 lo, .int .i64 hi] w fun e w' => e = .returned (.bool true) ∧ w' = w :=
  (is_any x lo hi w).mono fun _ _ h => ⟨by rw [h.1]; simp [h0, h1], h.2⟩
theorem is_no (x lo hi : Int) (w : World) (h : ¬ (lo ≤ x ∧ x ≤ hi)) :
    Calls Try.prog 92 #[.int .i64 x, .int .i64 lo, .int .i64 hi] w fun e w' => e = .returned (.bool false) ∧ w' = w :=
  (is_any x lo hi w).mono fun _ _ k => ⟨by
    rw [k.1]
    have e : (decide (lo ≤ x) && decide (x ≤ hi)) = false := by simp; omega
    rw [e], k.2⟩
end Go.Proofs.Ytlgnplnmcdjbiaa
namespace Go.Proofs.Ytlgnplnmcdjbiaa
open Go.RowKit

/-- A right vector. -/
def Right (b : Int) (n : Nat) (f : Nat → Int) : Prop :=
  1 ≤ b ∧ b ≤ 320 ∧ (n : Int) = (b + 31) / 32 ∧ (∀ i, i < n → 0 ≤ f i ∧ f i ≤ 4294967295) ∧ (b % 32 = 0 ∨ f (n - 1) < 2 ^ (b % 32).toNat)


theorem ret_bool {p : Prop} [Decidable p] {x : Bool} (h : x = true ↔ p) : Ending.returned (.bool x) = .returned (.bool (decide p)) := by
  congr 2
  by_cases hp : p
  · rw [h.2 hp, decide_eq_true hp]
  · rw [decide_eq_false hp]
    cases x
    · rfl
    · exact absurd (h.1 rfl) hp

theorem below_drewN {a w : World} {B : Nat} (n : Nat) (h : Below B a w) : Below B a (w.drewN n) := ⟨h.os, h.tape, h.output, h.size, h.block⟩
theorem shr_zero (x : Int) (k : Nat) (h : 0 ≤ x) : x / 2 ^ k = 0 ↔ x < 2 ^ k := by
  have hp : (0 : Int) < 2 ^ k := Int.pow_pos (by decide)
  constructor
  · intro h1
    have h2 := Int.emod_add_mul_ediv x (2 ^ k)
    have h3 := Int.emod_lt_of_pos x hp
    rw [h1] at h2
    omega
  · intro h1
    exact Int.ediv_eq_zero_of_lt h h1

open Classical in
set_option maxHeartbeats 2000000 in
theorem specRight_any (b : Int) (sa : Option Addr) (n cap : Nat) (f : Nat → Int) (w : World) (hn : n ≤ 1048576) (hr : Row w w.heap.size sa n f) :
    Calls Try.prog 125 #[.agg #[.int .i64 b, .slice sa n cap]] w fun e w' => e = .returned (.bool (decide (Right b n f))) ∧ Below w.heap.size w w' := by
  have HR : Hid (Row w w.heap.size sa n f) := hr
  clear hr
  have hb0 : Below w.heap.size w (w.alloc (.cells #[.int .i64 b, .slice sa n cap] 45)) := (Below.refl _ _).alloc (Nat.le_refl _) _
  have HB0 : Hid (Below w.heap.size w (w.alloc (.cells #[.int .i64 b, .slice sa n cap] 45))) := hb0
  clear hb0
  by_cases h1 : 1 ≤ b ∧ b ≤ 320
  · obtain ⟨hb1, hb2⟩ := h1
    by_cases h2 : (n : Int) = (b + 31) / 32
    · go_enter Try.func125, Try.ntmps125
      go_wp2_with fail
      go_quiet (first | (go_at_call 92; exact Calls.quiet_of_same (is_yes _ _ _ _ (by omega) (by omega))) | (go_at_call 188; exact Calls.quiet_of_same (words_any _ _ (by omega) (by omega))))
      go_wp2
      have HH : Hid ((n : Int) = (b + 31) / 32) := h2
      have hn0 : 0 < n := by omega
      clear h2
      go_loopw [2, 3] (fun _ i wr => ∃ k : Nat, k ≤ n ∧ i = .int .i64 (k : Int) ∧ Below w.heap.size w wr ∧ Boxed wr w.heap.size 45 b sa n cap ∧ ∀ i, i < k → 0 ≤ f i ∧ f i ≤ 4294967295) (fun _ i _ => n - (intOf i).toNat)
      case atStart => exact ⟨0, Nat.zero_le _, rfl, below_drewN _ HB0.out, (boxing w _ b sa n cap).2.1, fun i hi => by omega⟩
      case round =>
        obtain ⟨k, hk, rfl, hbel, hbx, hall⟩ := hrel
        have HW : Hid (Below w.heap.size w wr) := hbel
        have HX : Hid (Boxed wr w.heap.size 45 b sa n cap) := hbx
        have HALL : Hid (∀ i, i < k → 0 ≤ f i ∧ f i ≤ 4294967295) := hall
        obtain ⟨cv0, cv1⟩ := hbx.cells
        clear hbx hall
        by_cases hkl : k < n
        · obtain ⟨ba, oa, rfl, hba, hca⟩ : ∃ bb off : Nat, sa = some ⟨bb, off, none⟩ ∧ bb < w.heap.size ∧ ∀ i, i < n → w.cell? ⟨bb, off + i, none⟩ = some (.int .i64 (f i)) := by
            rcases HR.out with h | h
            · omega
            · exact h
          have cz : wr.cell? ⟨ba, oa + k, none⟩ = some (.int .i64 (f k)) := by rw [hbel.cell (p := ⟨ba, oa + k, none⟩) hba]; exact hca k hkl
          clear hca hbel
          have hki : (k : Int) < (n : Int) := by omega
          have hk0 : (0 : Int) ≤ (k : Int) := by omega
          by_cases hf : 0 ≤ f k ∧ f k ≤ 4294967295
          · have HF : Hid (0 ≤ f k ∧ f k ≤ 4294967295) := hf
            clear hf
            go_wp2_with fail
            refine (is_yes _ _ _ _ HF.out.1 HF.out.2).mono ?_
            rintro e w1 ⟨rfl, hw⟩
            rw [hw]
            clear hw w1
            go_wp2
            go_roundw
            case rel => exact ⟨k + 1, by omega, by go_num, HW.out, HX.out, fun i hi => by
              by_cases e : i = k
              · subst e; exact HF.out
              · exact HALL.out i (by omega)⟩
            case measure => simp [intOf]; omega
          · have HF : Hid (¬ (0 ≤ f k ∧ f k ≤ 4294967295)) := hf
            have hno : decide (Right b n f) = false := decide_eq_false (fun h => hf (h.2.2.2.1 k hkl))
            clear hf
            go_wp2_with fail
            refine (is_no _ _ _ _ HF.out).mono ?_
            rintro e w1 ⟨rfl, hw⟩
            rw [hw]
            clear hw w1
            go_wp2
            go_ret
            exact ⟨by first | rfl | (rw [hno]; rfl), HW.out⟩
        · have hki : ¬ (k : Int) < (n : Int) := by omega
          obtain rfl : k = n := by omega
          obtain ⟨m, rfl⟩ : ∃ m, k = m + 1 := ⟨k - 1, by omega⟩
          obtain ⟨ba, oa, rfl, hba, hca⟩ : ∃ bb off : Nat, sa = some ⟨bb, off, none⟩ ∧ bb < w.heap.size ∧ ∀ i, i < m + 1 → w.cell? ⟨bb, off + i, none⟩ = some (.int .i64 (f i)) := by
            rcases HR.out with h | h
            · omega
            · exact h
          have cz : wr.cell? ⟨ba, oa + m, none⟩ = some (.int .i64 (f m)) := by rw [hbel.cell (p := ⟨ba, oa + m, none⟩) hba]; exact hca m (by omega)
          have hlast := HALL.out m (by omega)
          clear hca hbel
          by_cases ho : b % 32 = 0
          · have hyes : decide (Right b (m + 1) f) = true := decide_eq_true ⟨hb1, hb2, HH.out, HALL.out, Or.inl ho⟩
            go_wp2
            go_ret
            exact ⟨by first | rfl | (rw [hyes]; rfl), HW.out⟩
          · have HO : Hid (¬ b % 32 = 0) := ho
            go_wp2
            go_ret
            refine ⟨ret_bool ?_, HW.out⟩
            have hsh := shr_zero (f m) (b % 32).toNat hlast.1
            simp only [Bool.or_eq_true, beq_iff_eq, hsh]
            exact ⟨fun h => ⟨hb1, hb2, HH.out, HALL.out, h⟩, fun h => h.2.2.2.2⟩
    · have hno : decide (Right b n f) = false := decide_eq_false (fun h => h2 h.2.2.1)
      rw [hno]
      have HN : Hid (¬ (n : Int) = (b + 31) / 32) := h2
      go_enter Try.func125, Try.ntmps125
      go_wp2_with fail
      go_quiet (first | (go_at_call 92; exact Calls.quiet_of_same (is_yes _ _ _ _ (by omega) (by omega))) | (go_at_call 188; exact Calls.quiet_of_same (words_any _ _ (by omega) (by omega))))
      go_wp2
      go_ret
      exact ⟨rfl, below_drewN _ HB0.out⟩
  · have hno : decide (Right b n f) = false := decide_eq_false (fun h => h1 ⟨h.1, h.2.1⟩)
    rw [hno]
    go_enter Try.func125, Try.ntmps125
    go_wp2_with fail
    go_quiet (first | (go_at_call 92; exact Calls.quiet_of_same (is_no _ _ _ _ h1)))
    go_wp2
    go_ret
    exact ⟨rfl, below_drewN _ HB0.out⟩
end Go.Proofs.Ytlgnplnmcdjbiaa
namespace Go.Proofs.Ytlgnplnmcdjbiaa
open Go.RowKit

/-- The words, the bits behind the last turned off. -/
def cutF (b : Int) (n : Nat) (f : Nat → Int) : Nat → Int := fun i => if i + 1 = n ∧ 0 < b % 32 then f i % 2 ^ (b % 32).toNat else f i
/-- The carry into word k. -/
def carryF (cr : Int) (f g : Nat → Int) : Nat → Int
  | 0 => cr
  | k + 1 => (f k + g k + carryF cr f g k) / 4294967296
/-- The words of a sum. -/
def sumF (cr : Int) (f g : Nat → Int) : Nat → Int := fun i => (f i + g i + carryF cr f g i) % 4294967296
theorem carry_range {cr : Int} {f g : Nat → Int} {n : Nat} (h0 : 0 ≤ cr) (h1 : cr ≤ 1) (hf : ∀ i, i < n → 0 ≤ f i ∧ f i ≤ 4294967295) (hg : ∀ i, i < n → 0 ≤ g i ∧ g i ≤ 4294967295) : ∀ k, k ≤ n → 0 ≤ carryF cr f g k ∧ carryF cr f g k ≤ 1
  | 0, _ => ⟨h0, h1⟩
  | k + 1, hk => by
    have ih := carry_range h0 h1 hf hg k (by omega)
    have a := hf k (by omega)
    have b := hg k (by omega)
    unfold carryF
    omega
/-- The words turned. -/
def notF (f : Nat → Int) : Nat → Int := fun i => 4294967295 - f i
end Go.Proofs.Ytlgnplnmcdjbiaa
namespace Go.Proofs.Ytlgnplnmcdjbiaa

theorem wraps_u32w (n : Int) (h₀ : 0 ≤ n) (h₁ : n < 2 ^ 32) : IntKind.u32.wrap n = n := by rw [IntKind.wrap_u32]; omega
theorem wraps_i64w (n : Int) (h₀ : 0 ≤ n) (h₁ : n < 2 ^ 32) : IntKind.i64.wrap n = n := by rw [IntKind.wrap_i64]; omega
theorem bits_xor_nat (k : IntKind) (j : Nat) (hj : j ≤ k.bits) (hk : ∀ n : Int, 0 ≤ n → n < 2 ^ j → k.wrap n = n) (a b : Nat) (ha : a < 2 ^ j) (hb : b < 2 ^ j) :
    bits .xor k a b = ((a ^^^ b : Nat) : Int) := by
  have hp : 2 ^ j ≤ 2 ^ k.bits := Nat.pow_le_pow_right (by decide) hj
  have ha' : a % 2 ^ k.bits = a := Nat.mod_eq_of_lt (Nat.lt_of_lt_of_le ha hp)
  have hb' : b % 2 ^ k.bits = b := Nat.mod_eq_of_lt (Nat.lt_of_lt_of_le hb hp)
  have cast : ∀ n : Nat, n < 2 ^ j → ((n : Nat) : Int) < 2 ^ j := fun n h => by exact_mod_cast h
  simp only [bits, BitVec.ofInt_natCast, BitVec.toNat_xor, BitVec.toNat_ofNat, ha', hb']
  exact hk _ (Int.natCast_nonneg _) (cast _ (Nat.xor_lt_two_pow ha hb))
/-- A word: below 2 to the power k. -/
def Word (k : Nat) (x : Int) : Prop := 0 ≤ x ∧ x < 2 ^ k
theorem word_nat {k : Nat} {x : Int} (h : Word k x) : ∃ a : Nat, x = a ∧ a < 2 ^ k := by
  obtain ⟨a, rfl⟩ := Int.eq_ofNat_of_zero_le h.1
  exact ⟨a, rfl, by have := h.2; exact_mod_cast this⟩
theorem word_of {k a : Nat} (h : a < 2 ^ k) : Word k (a : Int) := ⟨Int.natCast_nonneg _, by exact_mod_cast h⟩
theorem word_up {k j : Nat} {x : Int} (h : Word k x) (hk : k ≤ j) : Word j x := by
  obtain ⟨a, rfl, ha⟩ := word_nat h
  exact word_of (Nat.lt_of_lt_of_le ha (Nat.pow_le_pow_right (by decide) hk))
theorem and_same {x y : Int} (hx : Word 32 x) (hy : Word 32 y) : bits .and .u32 x y = bits .and .i64 x y := by
  obtain ⟨a, rfl, ha⟩ := word_nat hx
  obtain ⟨b, rfl, hb⟩ := word_nat hy
  rw [(bits_nat .u32 32 (by decide) wraps_u32w a b ha hb).1, (bits_nat .i64 32 (by decide) wraps_i64w a b ha hb).1]
theorem or_same {x y : Int} (hx : Word 32 x) (hy : Word 32 y) : bits .or .u32 x y = bits .or .i64 x y := by
  obtain ⟨a, rfl, ha⟩ := word_nat hx
  obtain ⟨b, rfl, hb⟩ := word_nat hy
  rw [(bits_nat .u32 32 (by decide) wraps_u32w a b ha hb).2, (bits_nat .i64 32 (by decide) wraps_i64w a b ha hb).2]
theorem xor_same {x y : Int} (hx : Word 32 x) (hy : Word 32 y) : bits .xor .u32 x y = bits .xor .i64 x y := by
  obtain ⟨a, rfl, ha⟩ := word_nat hx
  obtain ⟨b, rfl, hb⟩ := word_nat hy
  rw [bits_xor_nat .u32 32 (by decide) wraps_u32w a b ha hb, bits_xor_nat .i64 32 (by decide) wraps_i64w a b ha hb]
theorem and_word {k : Nat} {x y : Int} (hk : k ≤ 32) (hx : Word k x) (hy : Word k y) : Word k (bits .and .i64 x y) := by
  obtain ⟨a, rfl, ha⟩ := word_nat (word_up hx hk)
  obtain ⟨b, rfl, hb⟩ := word_nat (word_up hy hk)
  rw [(bits_nat .i64 32 (by decide) wraps_i64w a b ha hb).1]
  exact word_of (Nat.and_lt_two_pow _ (by have := hy.2; exact_mod_cast this))
theorem or_word {k : Nat} {x y : Int} (hk : k ≤ 32) (hx : Word k x) (hy : Word k y) : Word k (bits .or .i64 x y) := by
  obtain ⟨a, rfl, ha⟩ := word_nat (word_up hx hk)
  obtain ⟨b, rfl, hb⟩ := word_nat (word_up hy hk)
  rw [(bits_nat .i64 32 (by decide) wraps_i64w a b ha hb).2]
  exact word_of (Nat.or_lt_two_pow (by have := hx.2; exact_mod_cast this) (by have := hy.2; exact_mod_cast this))
theorem xor_word {k : Nat} {x y : Int} (hk : k ≤ 32) (hx : Word k x) (hy : Word k y) : Word k (bits .xor .i64 x y) := by
  obtain ⟨a, rfl, ha⟩ := word_nat (word_up hx hk)
  obtain ⟨b, rfl, hb⟩ := word_nat (word_up hy hk)
  rw [bits_xor_nat .i64 32 (by decide) wraps_i64w a b ha hb]
  exact word_of (Nat.xor_lt_two_pow (by have := hx.2; exact_mod_cast this) (by have := hy.2; exact_mod_cast this))
theorem mask_word {k : Nat} {x : Int} (hk : k ≤ 32) (hx : Word 32 x) : bits .and .i64 x (2 ^ k - 1) = x % 2 ^ k :=
  bits_mask .i64 32 (by decide) wraps_i64w k hk x hx.1 hx.2

/-- The highest bit of a word. -/
theorem top_bit {a : Nat} (h : a < 2 ^ 32) : a / 2 ^ 31 = if a.testBit 31 then 1 else 0 := by
  rw [Nat.testBit_eq_decide_div_mod_eq]
  split <;> rename_i h2 <;> simp at h2 <;> omega
theorem top_ge {a : Nat} (h : a < 2 ^ 32) : a.testBit 31 = decide (2147483648 ≤ a) := by
  rw [Nat.testBit_eq_decide_div_mod_eq]
  by_cases h2 : 2147483648 ≤ a
  · rw [decide_eq_true h2]; simp; omega
  · rw [decide_eq_false h2]; simp; omega
theorem xor_neg (a : Nat) (h : a < 2 ^ 32) : (4294967295 - a).testBit 31 = !a.testBit 31 := by
  rw [top_ge (by omega), top_ge h]
  by_cases h2 : 2147483648 ≤ a
  · simp [h2]; omega
  · simp [h2]; omega
/-- The borrow of a subtraction. -/
theorem borrow_nat (x y d br : Nat) (hx : x < 2 ^ 32) (hy : y < 2 ^ 32) (hbr : br ≤ 1) (hd : (d : Int) = ((x : Int) - y - br) % 4294967296) :
    (((4294967295 - x) &&& y) ||| ((4294967295 - (x ^^^ y)) &&& d)) / 2 ^ 31 = if (x : Int) < y + br then 1 else 0 := by
  have hd2 : d < 2 ^ 32 := by omega
  have hxy := Nat.xor_lt_two_pow hx hy
  have h1 : ((4294967295 - x) &&& y) ||| ((4294967295 - (x ^^^ y)) &&& d) < 2 ^ 32 :=
    Nat.or_lt_two_pow (Nat.and_lt_two_pow _ hy) (Nat.and_lt_two_pow _ hd2)
  rw [top_bit h1, Nat.testBit_or, Nat.testBit_and, Nat.testBit_and, xor_neg x hx, xor_neg _ hxy, Nat.testBit_xor, top_ge hx, top_ge hy, top_ge hd2]
  by_cases a1 : 2147483648 ≤ x <;> by_cases a2 : 2147483648 ≤ y <;> by_cases a3 : 2147483648 ≤ d <;> simp [a1, a2, a3] <;> omega
theorem u32_not (a : Nat) (h : a < 2 ^ 32) : bits .xor .u32 IntKind.u32.max (a : Int) = ((4294967295 - a : Nat) : Int) := by
  have h1 : (BitVec.ofInt 32 (a : Int)).toNat = a := by
    rw [BitVec.ofInt_natCast, BitVec.toNat_ofNat]; exact Nat.mod_eq_of_lt h
  show IntKind.u32.wrap ((BitVec.ofInt 32 IntKind.u32.max ^^^ BitVec.ofInt 32 (a : Int)).toNat : Int) = _
  have hm2 : BitVec.ofInt 32 IntKind.u32.max = BitVec.allOnes 32 := by decide
  rw [hm2, BitVec.allOnes_xor, BitVec.toNat_not, h1, IntKind.wrap_u32]
  omega
end Go.Proofs.Ytlgnplnmcdjbiaa
namespace Go.Proofs.Ytlgnplnmcdjbiaa
open Go.RowKit

theorem wordsFor_any (b : Int) (w : World) (h0 : 0 ≤ b) (h1 : b ≤ 320) :
    Calls Try.prog 175 #[.int .i64 b] w fun e w' => e = .returned (.int .i64 ((b + 31) / 32)) ∧ w' = w := by
  have h2 : b + 32 - 1 = b + 31 := by omega
  go_enter Try.func175, Try.ntmps175
  go_wp2
  go_ret
  exact ⟨by first | rfl | (rw [h2]), rfl⟩
end Go.Proofs.Ytlgnplnmcdjbiaa
