/- What is proved here: the specification's VecAdd hands back the sum, in new memory, or nothing; nothing that was there turns. -/
import Derived.Test.YtcmnmlginoojkagVecTwoW
import Derived.Test.YtcmnmlginoojkagVecAddW
namespace Go.Proofs.Ytcmnmlginoojkag
open Go.RowKit

open Classical in
set_option maxHeartbeats 2000000 in
theorem specVecAdd_yes (b : Int) (sa sb : Option Addr) (n ka kb : Nat) (f g : Nat → Int) (w : World) (hn : n ≤ 1048576) (ha : Row w w.heap.size sa n f) (hb : Row w w.heap.size sb n g) (h1 : Right b n f) (h2 : Right b n g) :
    Calls Try.prog 19 #[.agg #[.int .i64 b, .slice sa n ka], .agg #[.int .i64 b, .slice sb n kb]] w fun e w' => NewVec w b n (cutF b n (sumF 0 f g)) e w' := by
  have HA : Hid (Row w w.heap.size sa n f) := ha
  have HB : Hid (Row w w.heap.size sb n g) := hb
  have hn0 := (words_same h1 h2 rfl).2
  have hbb := h1.1
  have hbc := h1.2.1
  have HF : Hid (∀ i, i < n → 0 ≤ f i ∧ f i ≤ 4294967295) := h1.2.2.2.1
  have HGG : Hid (∀ i, i < n → 0 ≤ g i ∧ g i ≤ 4294967295) := h2.2.2.2.1
  have C1 := fun W h h' => two_any b b sa sb n n ka kb f g W hn hn h h'
  have e1 : decide (Right b n f ∧ Right b n g ∧ b = b) = true := decide_eq_true ⟨h1, h2, rfl⟩
  rw [e1] at C1
  have HC1 : Hid (∀ W, Row W W.heap.size sa n f → Row W W.heap.size sb n g → Calls Try.prog 24 #[.agg #[.int .i64 b, .slice sa n ka], .agg #[.int .i64 b, .slice sb n kb]] W fun e w' => e = .returned (.bool true) ∧ Below W.heap.size W w') := C1
  clear C1 e1 ha hb h1 h2
  go_enter Try.func19, Try.ntmps19
  go_wp2_with fail
  have q1 := boxing w 26 b sa n ka
  generalize w.alloc (.cells #[.int .i64 b, .slice sa n ka] 26) = v1 at *
  have q2 := boxing v1 26 b sb n kb
  generalize v1.alloc (.cells #[.int .i64 b, .slice sb n kb] 26) = v2 at *
  have q3 := boxing v2 26 0 none 0 0
  generalize v2.alloc (.cells #[.int .i64 0, .slice none 0 0] 26) = v3 at *
  have X1 : Hid (Boxed v3 w.heap.size 26 b sa n ka) := (q1.2.1.kept q2.1 rfl).kept q3.1 rfl
  have X2 : Hid (Boxed v3 (w.heap.size + 1) 26 b sb n kb) := by rw [← q1.2.2]; exact q2.2.1.kept q3.1 rfl
  have X3 : Hid (Boxed v3 (w.heap.size + 2) 26 0 none 0 0) := by rw [show w.heap.size + 2 = v2.heap.size by rw [q2.2.2, q1.2.2]]; exact q3.2.1
  have S3 : Hid (Since w v3) := since_call (since_call (since_call (since_refl _) q1.1) q2.1) q3.1
  have z3 : v3.heap.size = w.heap.size + 3 := by rw [q3.2.2, q2.2.2, q1.2.2]
  clear q1 q2 q3
  refine (HC1.out _ (row_since HA.out S3.out) (row_since HB.out S3.out)).mono ?_
  rintro e w4 ⟨rfl, hb4⟩
  have z4 : w.heap.size + 3 ≤ w4.heap.size := by have := hb4.size; omega
  have Y1 : Hid (Boxed w4 w.heap.size 26 b sa n ka) := X1.out.kept hb4 rfl
  have Y2 : Hid (Boxed w4 (w.heap.size + 1) 26 b sb n kb) := X2.out.kept hb4 rfl
  have Y3 : Hid (Boxed w4 (w.heap.size + 2) 26 0 none 0 0) := X3.out.kept hb4 rfl
  have S4 : Hid (Since w w4) := since_call S3.out hb4
  clear hb4 X1 X2 X3 S3 z3
  obtain ⟨ca0, ca1⟩ := Y1.out.cells
  obtain ⟨cb0, cb1⟩ := Y2.out.cells
  go_wp2_with fail
  refine (add_any b b sa sb n ka kb f g 0 w4 hbb hbc (by omega) (by omega) HF.out HGG.out hn0 hn (row_since HA.out S4.out) (row_since HB.out S4.out)).mono ?_
  clear ca0 ca1 cb0 cb1
  rintro e w5 ⟨s5, c5, rfl, hb5, ho5⟩
  unfold vecV
  obtain ⟨cc0, cc1, cc2, cc3⟩ := (Y3.out.kept hb5 rfl).four
  have HO : Hid (OwnS w5 w4.heap.size s5 n (cutF b n (sumF 0 f g))) := ho5
  have S5 : Hid (Since w w5) := since_call S4.out hb5
  clear hb5 ho5 Y1 Y2 Y3
  go_wp2
  refine bodyPost_ret (v := vecV b s5 n c5) (by simp [results, Try.results19, go_sem, vecV, cc0, cc1]) rfl ?_
  refine ⟨_, _, rfl, (since_set (since_set S5.out (by show w.heap.size ≤ w.heap.size + 2; omega)) (by show w.heap.size ≤ w.heap.size + 2; omega)).below, ?_⟩
  rcases HO.out with h | ⟨g5, h1, h2, h3⟩
  · exact Or.inl h
  · exact Or.inr ⟨g5, h1, by omega, (h3.setOther _ _ (by show w.heap.size + 2 ≠ g5; omega)).setOther _ _ (by show w.heap.size + 2 ≠ g5; omega)⟩

open Classical in
set_option maxHeartbeats 2000000 in
theorem specVecAdd_no (b c : Int) (sa sb : Option Addr) (n m ka kb : Nat) (f g : Nat → Int) (w : World) (hn : n ≤ 1048576) (hm : m ≤ 1048576) (ha : Row w w.heap.size sa n f) (hb : Row w w.heap.size sb m g) (hno : ¬ (Right b n f ∧ Right c m g ∧ b = c)) :
    Calls Try.prog 19 #[.agg #[.int .i64 b, .slice sa n ka], .agg #[.int .i64 c, .slice sb m kb]] w fun e w' => NewVec w 0 0 (fun _ => 0) e w' := by
  have HA : Hid (Row w w.heap.size sa n f) := ha
  have HB : Hid (Row w w.heap.size sb m g) := hb
  have C1 := fun W h h' => two_any b c sa sb n m ka kb f g W hn hm h h'
  have e1 : decide (Right b n f ∧ Right c m g ∧ b = c) = false := decide_eq_false hno
  rw [e1] at C1
  have HC1 : Hid (∀ W, Row W W.heap.size sa n f → Row W W.heap.size sb m g → Calls Try.prog 24 #[.agg #[.int .i64 b, .slice sa n ka], .agg #[.int .i64 c, .slice sb m kb]] W fun e w' => e = .returned (.bool false) ∧ Below W.heap.size W w') := C1
  clear C1 e1 ha hb hno
  go_enter Try.func19, Try.ntmps19
  go_wp2_with fail
  have q1 := boxing w 26 b sa n ka
  generalize w.alloc (.cells #[.int .i64 b, .slice sa n ka] 26) = v1 at *
  have q2 := boxing v1 26 c sb m kb
  generalize v1.alloc (.cells #[.int .i64 c, .slice sb m kb] 26) = v2 at *
  have q3 := boxing v2 26 0 none 0 0
  generalize v2.alloc (.cells #[.int .i64 0, .slice none 0 0] 26) = v3 at *
  have X3 : Hid (Boxed v3 (w.heap.size + 2) 26 0 none 0 0) := by rw [show w.heap.size + 2 = v2.heap.size by rw [q2.2.2, q1.2.2]]; exact q3.2.1
  have S3 : Hid (Since w v3) := since_call (since_call (since_call (since_refl _) q1.1) q2.1) q3.1
  clear q1 q2 q3
  refine (HC1.out _ (row_since HA.out S3.out) (row_since HB.out S3.out)).mono ?_
  rintro e w4 ⟨rfl, hb4⟩
  obtain ⟨cc0, cc1, cc2, cc3⟩ := (X3.out.kept hb4 rfl).four
  have S4 : Hid (Since w w4) := since_call S3.out hb4
  clear hb4 X3 S3
  go_wp2
  refine bodyPost_ret (v := vecV 0 none 0 0) (by simp [results, Try.results19, go_sem, vecV, cc0, cc1]) rfl ?_
  exact ⟨_, _, rfl, (since_set (since_set S4.out (by show w.heap.size ≤ w.heap.size + 2; omega)) (by show w.heap.size ≤ w.heap.size + 2; omega)).below, Or.inl rfl⟩
end Go.Proofs.Ytcmnmlginoojkag
