/- What is proved here: the specification's VecUp hands back the words doubled, in new memory, or nothing; nothing that was there turns. -/
import Derived.Test.YthnnenbpbkmbhaaDoorQVecAddWToSpecSubW
namespace Go.Proofs.YthnnenbpbkmbhaaDoor
open Go.RowKit

open Classical in
set_option maxHeartbeats 2000000 in
theorem specVecUp_yes (b : Int) (sa : Option Addr) (n ka : Nat) (f : Nat → Int) (w : World) (hn : n ≤ 1048576) (ha : Row w w.heap.size sa n f) (h1 : Right b n f) :
    Calls Tryd.prog 25 #[.agg #[.int .i64 b, .slice sa n ka]] w fun e w' => NewVec w b n (cutF b n (sumF 0 f f)) e w' := by
  have HA : Hid (Row w w.heap.size sa n f) := ha
  have hn0 : 0 < n := by have e1 := h1.2.2.1; have := h1.1; omega
  have hbb := h1.1
  have hbc := h1.2.1
  have HF : Hid (∀ i, i < n → 0 ≤ f i ∧ f i ≤ 4294967295) := h1.2.2.2.1
  have C1 := fun W h => specRight_any b sa n ka f W hn h
  have e1 : decide (Right b n f) = true := decide_eq_true h1
  rw [e1] at C1
  have HC1 : Hid (∀ W, Row W W.heap.size sa n f → Calls Tryd.prog 33 #[.agg #[.int .i64 b, .slice sa n ka]] W fun e w' => e = .returned (.bool true) ∧ Below W.heap.size W w') := C1
  clear C1 e1 ha h1
  go_enter Tryd.func25, Tryd.ntmps25
  go_wp2_with fail
  have q1 := boxing w 25 b sa n ka
  generalize w.alloc (.cells #[.int .i64 b, .slice sa n ka] 25) = v1 at *
  have q3 := boxing v1 25 0 none 0 0
  generalize v1.alloc (.cells #[.int .i64 0, .slice none 0 0] 25) = v3 at *
  have X1 : Hid (Boxed v3 w.heap.size 25 b sa n ka) := q1.2.1.kept q3.1 rfl
  have X3 : Hid (Boxed v3 (w.heap.size + 1) 25 0 none 0 0) := by rw [← q1.2.2]; exact q3.2.1
  have S3 : Hid (Since w v3) := since_call (since_call (since_refl _) q1.1) q3.1
  have z3 : v3.heap.size = w.heap.size + 2 := by rw [q3.2.2, q1.2.2]
  clear q1 q3
  refine (HC1.out _ (row_since HA.out S3.out)).mono ?_
  rintro e w4 ⟨rfl, hb4⟩
  have z4 : w.heap.size + 2 ≤ w4.heap.size := by have := hb4.size; omega
  have Y1 : Hid (Boxed w4 w.heap.size 25 b sa n ka) := X1.out.kept hb4 rfl
  have Y3 : Hid (Boxed w4 (w.heap.size + 1) 25 0 none 0 0) := X3.out.kept hb4 rfl
  have S4 : Hid (Since w w4) := since_call S3.out hb4
  clear hb4 X1 X3 S3 z3
  obtain ⟨ca0, ca1⟩ := Y1.out.cells
  go_wp2_with fail
  refine (add_any b b sa sa n ka ka f f 0 w4 hbb hbc (by omega) (by omega) HF.out HF.out hn0 hn (row_since HA.out S4.out) (row_since HA.out S4.out)).mono ?_
  clear ca0 ca1
  rintro e w5 ⟨s5, c5, rfl, hb5, ho5⟩
  unfold vecV
  obtain ⟨cc0, cc1, cc2, cc3⟩ := (Y3.out.kept hb5 rfl).four
  have HO : Hid (OwnS w5 w4.heap.size s5 n (cutF b n (sumF 0 f f))) := ho5
  have S5 : Hid (Since w w5) := since_call S4.out hb5
  clear hb5 ho5 Y1 Y3
  go_wp2
  refine bodyPost_ret (v := vecV b s5 n c5) (by simp [results, Tryd.results25, go_sem, vecV, cc0, cc1]) rfl ?_
  refine ⟨_, _, rfl, (since_set (since_set S5.out (by show w.heap.size ≤ w.heap.size + 1; omega)) (by show w.heap.size ≤ w.heap.size + 1; omega)).below, ?_⟩
  rcases HO.out with h | ⟨g5, h1, h2, h3⟩
  · exact Or.inl h
  · exact Or.inr ⟨g5, h1, by omega, (h3.setOther _ _ (by show w.heap.size + 1 ≠ g5; omega)).setOther _ _ (by show w.heap.size + 1 ≠ g5; omega)⟩

open Classical in
set_option maxHeartbeats 2000000 in
theorem specVecUp_no (b : Int) (sa : Option Addr) (n ka : Nat) (f : Nat → Int) (w : World) (hn : n ≤ 1048576) (ha : Row w w.heap.size sa n f) (hno : ¬ Right b n f) :
    Calls Tryd.prog 25 #[.agg #[.int .i64 b, .slice sa n ka]] w fun e w' => NewVec w 0 0 (fun _ => 0) e w' := by
  have HA : Hid (Row w w.heap.size sa n f) := ha
  have C1 := fun W h => specRight_any b sa n ka f W hn h
  have e1 : decide (Right b n f) = false := decide_eq_false hno
  rw [e1] at C1
  have HC1 : Hid (∀ W, Row W W.heap.size sa n f → Calls Tryd.prog 33 #[.agg #[.int .i64 b, .slice sa n ka]] W fun e w' => e = .returned (.bool false) ∧ Below W.heap.size W w') := C1
  clear C1 e1 ha hno
  go_enter Tryd.func25, Tryd.ntmps25
  go_wp2_with fail
  have q1 := boxing w 25 b sa n ka
  generalize w.alloc (.cells #[.int .i64 b, .slice sa n ka] 25) = v1 at *
  have q3 := boxing v1 25 0 none 0 0
  generalize v1.alloc (.cells #[.int .i64 0, .slice none 0 0] 25) = v3 at *
  have X3 : Hid (Boxed v3 (w.heap.size + 1) 25 0 none 0 0) := by rw [← q1.2.2]; exact q3.2.1
  have S3 : Hid (Since w v3) := since_call (since_call (since_refl _) q1.1) q3.1
  clear q1 q3
  refine (HC1.out _ (row_since HA.out S3.out)).mono ?_
  rintro e w4 ⟨rfl, hb4⟩
  obtain ⟨cc0, cc1, cc2, cc3⟩ := (X3.out.kept hb4 rfl).four
  have S4 : Hid (Since w w4) := since_call S3.out hb4
  clear hb4 X3 S3
  go_wp2
  refine bodyPost_ret (v := vecV 0 none 0 0) (by simp [results, Tryd.results25, go_sem, vecV, cc0, cc1]) rfl ?_
  exact ⟨_, _, rfl, (since_set (since_set S4.out (by show w.heap.size ≤ w.heap.size + 1; omega)) (by show w.heap.size ≤ w.heap.size + 1; omega)).below, Or.inl rfl⟩
end Go.Proofs.YthnnenbpbkmbhaaDoor
