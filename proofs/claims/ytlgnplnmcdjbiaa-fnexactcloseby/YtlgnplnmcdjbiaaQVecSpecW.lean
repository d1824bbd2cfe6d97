/- What is proved here: the specification's VecRight says whether a vector is right; nothing that was there turns. -/
import Derived.Test.YtlgnplnmcdjbiaaQWordsWToIsW
import Derived.Deep.QuietTactic
import Derived.BigQuiet
namespace Go.Proofs.Ytlgnplnmcdjbiaa
open Go.RowKit

/-- A right vector. -/
def Right (b : Int) (n : Nat) (f : Nat → Int) : Prop :=
  1 ≤ b ∧ b ≤ 320 ∧ (n : Int) = (b + 31) / 32 ∧ (∀ i, i < n → 0 ≤ f i ∧ f i ≤ 4294967295) ∧ (b % 32 = 0 ∨ f (n - 1) < 2 ^ (b % 32).toNat)


theorem ret_bool {p : Prop} [Decidable p] {x : Bool} (h : x = true ↔ p) : Ending.returned (.bool x) = .returned (.bool (decide p)) := by
  congr 2
  by_cases hp : p
  · rw [h.2 hp, decide_eq_true hp]
  · rw [decide_eq_false hp]
    cases x
    · rfl
    · exact absurd (h.1 rfl) hp

theorem below_drewN {a w : World} {B : Nat} (n : Nat) (h : Below B a w) : Below B a (w.drewN n) := ⟨h.os, h.tape, h.output, h.size, h.block⟩
theorem shr_zero (x : Int) (k : Nat) (h : 0 ≤ x) : x / 2 ^ k = 0 ↔ x < 2 ^ k := by
  have hp : (0 : Int) < 2 ^ k := Int.pow_pos (by decide)
  constructor
  · intro h1
    have h2 := Int.emod_add_mul_ediv x (2 ^ k)
    have h3 := Int.emod_lt_of_pos x hp
    rw [h1] at h2
    omega
  · intro h1
    exact Int.ediv_eq_zero_of_lt h h1

open Classical in
set_option maxHeartbeats 2000000 in
theorem specRight_any (b : Int) (sa : Option Addr) (n cap : Nat) (f : Nat → Int) (w : World) (hn : n ≤ 1048576) (hr : Row w w.heap.size sa n f) :
    Calls Try.prog 125 #[.agg #[.int .i64 b, .slice sa n cap]] w fun e w' => e = .returned (.bool (decide (Right b n f))) ∧ Below w.heap.size w w' := by
  have HR : Hid (Row w w.heap.size sa n f) := hr
  clear hr
  have hb0 : Below w.heap.size w (w.alloc (.cells #[.int .i64 b, .slice sa n cap] 45)) := (Below.refl _ _).alloc (Nat.le_refl _) _
  have HB0 : Hid (Below w.heap.size w (w.alloc (.cells #[.int .i64 b, .slice sa n cap] 45))) := hb0
  clear hb0
  by_cases h1 : 1 ≤ b ∧ b ≤ 320
  · obtain ⟨hb1, hb2⟩ := h1
    by_cases h2 : (n : Int) = (b + 31) / 32
    · go_enter Try.func125, Try.ntmps125
      go_wp2_with fail
      go_quiet (first | (go_at_call 92; exact Calls.quiet_of_same (is_yes _ _ _ _ (by omega) (by omega))) | (go_at_call 188; exact Calls.quiet_of_same (words_any _ _ (by omega) (by omega))))
      go_wp2
      have HH : Hid ((n : Int) = (b + 31) / 32) := h2
      have hn0 : 0 < n := by omega
      clear h2
      go_loopw [2, 3] (fun _ i wr => ∃ k : Nat, k ≤ n ∧ i = .int .i64 (k : Int) ∧ Below w.heap.size w wr ∧ Boxed wr w.heap.size 45 b sa n cap ∧ ∀ i, i < k → 0 ≤ f i ∧ f i ≤ 4294967295) (fun _ i _ => n - (intOf i).toNat)
      case atStart => exact ⟨0, Nat.zero_le _, rfl, below_drewN _ HB0.out, (boxing w _ b sa n cap).2.1, fun i hi => by omega⟩
      case round =>
        obtain ⟨k, hk, rfl, hbel, hbx, hall⟩ := hrel
        have HW : Hid (Below w.heap.size w wr) := hbel
        have HX : Hid (Boxed wr w.heap.size 45 b sa n cap) := hbx
        have HALL : Hid (∀ i, i < k → 0 ≤ f i ∧ f i ≤ 4294967295) := hall
        obtain ⟨cv0, cv1⟩ := hbx.cells
        clear hbx hall
        by_cases hkl : k < n
        · obtain ⟨ba, oa, rfl, hba, hca⟩ : ∃ bb off : Nat, sa = some ⟨bb, off, none⟩ ∧ bb < w.heap.size ∧ ∀ i, i < n → w.cell? ⟨bb, off + i, none⟩ = some (.int .i64 (f i)) := by
            rcases HR.out with h | h
            · omega
            · exact h
          have cz : wr.cell? ⟨ba, oa + k, none⟩ = some (.int .i64 (f k)) := by rw [hbel.cell (p := ⟨ba, oa + k, none⟩) hba]; exact hca k hkl
          clear hca hbel
          have hki : (k : Int) < (n : Int) := by omega
          have hk0 : (0 : Int) ≤ (k : Int) := by omega
          by_cases hf : 0 ≤ f k ∧ f k ≤ 4294967295
          · have HF : Hid (0 ≤ f k ∧ f k ≤ 4294967295) := hf
            clear hf
            go_wp2_with fail
            refine (is_yes _ _ _ _ HF.out.1 HF.out.2).mono ?_
            rintro e w1 ⟨rfl, hw⟩
            rw [hw]
            clear hw w1
            go_wp2
            go_roundw
            case rel => exact ⟨k + 1, by omega, by go_num, HW.out, HX.out, fun i hi => by
              by_cases e : i = k
              · subst e; exact HF.out
              · exact HALL.out i (by omega)⟩
            case measure => simp [intOf]; omega
          · have HF : Hid (¬ (0 ≤ f k ∧ f k ≤ 4294967295)) := hf
            have hno : decide (Right b n f) = false := decide_eq_false (fun h => hf (h.2.2.2.1 k hkl))
            clear hf
            go_wp2_with fail
            refine (is_no _ _ _ _ HF.out).mono ?_
            rintro e w1 ⟨rfl, hw⟩
            rw [hw]
            clear hw w1
            go_wp2
            go_ret
            exact ⟨by first | rfl | (rw [hno]; rfl), HW.out⟩
        · have hki : ¬ (k : Int) < (n : Int) := by omega
          obtain rfl : k = n := by omega
          obtain ⟨m, rfl⟩ : ∃ m, k = m + 1 := ⟨k - 1, by omega⟩
          obtain ⟨ba, oa, rfl, hba, hca⟩ : ∃ bb off : Nat, sa = some ⟨bb, off, none⟩ ∧ bb < w.heap.size ∧ ∀ i, i < m + 1 → w.cell? ⟨bb, off + i, none⟩ = some (.int .i64 (f i)) := by
            rcases HR.out with h | h
            · omega
            · exact h
          have cz : wr.cell? ⟨ba, oa + m, none⟩ = some (.int .i64 (f m)) := by rw [hbel.cell (p := ⟨ba, oa + m, none⟩) hba]; exact hca m (by omega)
          have hlast := HALL.out m (by omega)
          clear hca hbel
          by_cases ho : b % 32 = 0
          · have hyes : decide (Right b (m + 1) f) = true := decide_eq_true ⟨hb1, hb2, HH.out, HALL.out, Or.inl ho⟩
            go_wp2
            go_ret
            exact ⟨by first | rfl | (rw [hyes]; rfl), HW.out⟩
          · have HO : Hid (¬ b % 32 = 0) := ho
            go_wp2
            go_ret
            refine ⟨ret_bool ?_, HW.out⟩
            have hsh := shr_zero (f m) (b % 32).toNat hlast.1
            simp only [Bool.or_eq_true, beq_iff_eq, hsh]
            exact ⟨fun h => ⟨hb1, hb2, HH.out, HALL.out, h⟩, fun h => h.2.2.2.2⟩
    · have hno : decide (Right b n f) = false := decide_eq_false (fun h => h2 h.2.2.1)
      rw [hno]
      have HN : Hid (¬ (n : Int) = (b + 31) / 32) := h2
      go_enter Try.func125, Try.ntmps125
      go_wp2_with fail
      go_quiet (first | (go_at_call 92; exact Calls.quiet_of_same (is_yes _ _ _ _ (by omega) (by omega))) | (go_at_call 188; exact Calls.quiet_of_same (words_any _ _ (by omega) (by omega))))
      go_wp2
      go_ret
      exact ⟨rfl, below_drewN _ HB0.out⟩
  · have hno : decide (Right b n f) = false := decide_eq_false (fun h => h1 ⟨h.1, h.2.1⟩)
    rw [hno]
    go_enter Try.func125, Try.ntmps125
    go_wp2_with fail
    go_quiet (first | (go_at_call 92; exact Calls.quiet_of_same (is_no _ _ _ _ h1)))
    go_wp2
    go_ret
    exact ⟨rfl, below_drewN _ HB0.out⟩
end Go.Proofs.Ytlgnplnmcdjbiaa
