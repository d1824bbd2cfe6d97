/- What is proved here: the specification's l02Two says whether two vectors are right and of as many bits; nothing that was there turns. -/
import Derived.Test.YtlgnplnmcdjbiaaQVecCopyW
namespace Go.Proofs.Ytlgnplnmcdjbiaa
open Go.RowKit

open Classical in
set_option maxHeartbeats 2000000 in
theorem two_any (b c : Int) (sa sb : Option Addr) (n m ka kb : Nat) (f g : Nat → Int) (w : World) (hn : n ≤ 1048576) (hm : m ≤ 1048576) (ha : Row w w.heap.size sa n f) (hb : Row w w.heap.size sb m g) :
    Calls Try.prog 115 #[.agg #[.int .i64 b, .slice sa n ka], .agg #[.int .i64 c, .slice sb m kb]] w fun e w' => e = .returned (.bool (decide (Right b n f ∧ Right c m g ∧ b = c))) ∧ Below w.heap.size w w' := by
  have HA : Hid (Row w w.heap.size sa n f) := ha
  have HB : Hid (Row w w.heap.size sb m g) := hb
  clear ha hb
  have C1 := fun W h => specRight_any b sa n ka f W hn h
  have C2 := fun W h => specRight_any c sb m kb g W hm h
  have HC1 : Hid (∀ W, Row W W.heap.size sa n f → Calls Try.prog 125 #[.agg #[.int .i64 b, .slice sa n ka]] W fun e w' => e = .returned (.bool (decide (Right b n f))) ∧ Below W.heap.size W w') := C1
  have HC2 : Hid (∀ W, Row W W.heap.size sb m g → Calls Try.prog 125 #[.agg #[.int .i64 c, .slice sb m kb]] W fun e w' => e = .returned (.bool (decide (Right c m g))) ∧ Below W.heap.size W w') := C2
  clear C1 C2
  by_cases h1 : Right b n f
  · by_cases h2 : Right c m g
    · have e0 : decide (Right b n f ∧ Right c m g ∧ b = c) = decide (b = c) := by simp [h1, h2]
      rw [e0]
      have e1 : decide (Right b n f) = true := decide_eq_true h1
      have e2 : decide (Right c m g) = true := decide_eq_true h2
      rw [e1] at HC1
      rw [e2] at HC2
      clear h1 h2 e0 e1 e2
      go_enter Try.func115, Try.ntmps115
      go_wp2_with fail
      have q1 := boxing w 45 b sa n ka
      generalize w.alloc (.cells #[.int .i64 b, .slice sa n ka] 45) = v1 at *
      have q2 := boxing v1 45 c sb m kb
      generalize v1.alloc (.cells #[.int .i64 c, .slice sb m kb] 45) = v2 at *
      have X1 : Hid (Boxed v2 w.heap.size 45 b sa n ka) := q1.2.1.kept q2.1 rfl
      have X2 : Hid (Boxed v2 (w.heap.size + 1) 45 c sb m kb) := by rw [← q1.2.2]; exact q2.2.1
      have S2 : Hid (Since w v2) := since_call (since_call (since_refl _) q1.1) q2.1
      clear q1 q2
      refine (HC1.out _ (row_since HA.out S2.out)).mono ?_
      rintro e w3 ⟨rfl, hb3⟩
      have S3 : Hid (Since w w3) := since_call S2.out hb3
      have Y1 : Hid (Boxed w3 w.heap.size 45 b sa n ka) := X1.out.kept hb3 rfl
      have Y2 : Hid (Boxed w3 (w.heap.size + 1) 45 c sb m kb) := X2.out.kept hb3 rfl
      clear hb3 X1 X2 S2
      obtain ⟨ca0, ca1⟩ := Y1.out.cells
      obtain ⟨cb0, cb1⟩ := Y2.out.cells
      go_wp2_with fail
      refine (HC2.out _ (row_since HB.out S3.out)).mono ?_
      clear ca0 ca1 cb0 cb1
      rintro e w4 ⟨rfl, hb4⟩
      have S4 : Hid (Since w w4) := since_call S3.out hb4
      obtain ⟨ca0, ca1⟩ := (Y1.out.kept hb4 rfl).cells
      obtain ⟨cb0, cb1⟩ := (Y2.out.kept hb4 rfl).cells
      clear hb4
      go_wp2
      go_ret
      exact ⟨ret_bool (by simp), S4.out.below⟩
    · have e0 : decide (Right b n f ∧ Right c m g ∧ b = c) = false := by simp [h2]
      rw [e0]
      have e1 : decide (Right b n f) = true := decide_eq_true h1
      have e2 : decide (Right c m g) = false := decide_eq_false h2
      rw [e1] at HC1
      rw [e2] at HC2
      clear h1 h2 e0 e1 e2
      go_enter Try.func115, Try.ntmps115
      go_wp2_with fail
      have q1 := boxing w 45 b sa n ka
      generalize w.alloc (.cells #[.int .i64 b, .slice sa n ka] 45) = v1 at *
      have q2 := boxing v1 45 c sb m kb
      generalize v1.alloc (.cells #[.int .i64 c, .slice sb m kb] 45) = v2 at *
      have X1 : Hid (Boxed v2 w.heap.size 45 b sa n ka) := q1.2.1.kept q2.1 rfl
      have X2 : Hid (Boxed v2 (w.heap.size + 1) 45 c sb m kb) := by rw [← q1.2.2]; exact q2.2.1
      have S2 : Hid (Since w v2) := since_call (since_call (since_refl _) q1.1) q2.1
      clear q1 q2
      refine (HC1.out _ (row_since HA.out S2.out)).mono ?_
      rintro e w3 ⟨rfl, hb3⟩
      have S3 : Hid (Since w w3) := since_call S2.out hb3
      obtain ⟨ca0, ca1⟩ := (X1.out.kept hb3 rfl).cells
      obtain ⟨cb0, cb1⟩ := (X2.out.kept hb3 rfl).cells
      clear hb3 X1 X2 S2
      go_wp2_with fail
      refine (HC2.out _ (row_since HB.out S3.out)).mono ?_
      clear ca0 ca1 cb0 cb1
      rintro e w4 ⟨rfl, hb4⟩
      have S4 : Hid (Since w w4) := since_call S3.out hb4
      clear hb4
      go_wp2
      go_ret
      exact ⟨rfl, S4.out.below⟩
  · have e0 : decide (Right b n f ∧ Right c m g ∧ b = c) = false := by simp [h1]
    rw [e0]
    have e1 : decide (Right b n f) = false := decide_eq_false h1
    rw [e1] at HC1
    clear h1 e0 e1 HC2
    go_enter Try.func115, Try.ntmps115
    go_wp2_with fail
    have q1 := boxing w 45 b sa n ka
    generalize w.alloc (.cells #[.int .i64 b, .slice sa n ka] 45) = v1 at *
    have q2 := boxing v1 45 c sb m kb
    generalize v1.alloc (.cells #[.int .i64 c, .slice sb m kb] 45) = v2 at *
    have S2 : Hid (Since w v2) := since_call (since_call (since_refl _) q1.1) q2.1
    clear q1 q2
    refine (HC1.out _ (row_since HA.out S2.out)).mono ?_
    rintro e w3 ⟨rfl, hb3⟩
    have S3 : Hid (Since w w3) := since_call S2.out hb3
    clear hb3 S2
    go_wp2
    go_ret
    exact ⟨rfl, S3.out.below⟩

theorem words_same {b c : Int} {n m : Nat} {f g : Nat → Int} (h1 : Right b n f) (h2 : Right c m g) (h : b = c) : n = m ∧ 0 < n := by
  have e1 := h1.2.2.1
  have e2 := h2.2.2.1
  have := h1.1
  omega
end Go.Proofs.Ytlgnplnmcdjbiaa
