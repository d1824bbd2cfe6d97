/- What is proved here: the specification's VecOr hands back the words put together, in new memory, or nothing; nothing that was there turns.
   What is proved here: the specification's VecNot hands back the words turned, in new memory, or nothing; nothing that was there turns.
   What is proved here: the specification's VecSet hands back the words with one bit as it is asked for, in new memory, or nothing; nothing that was there turns.
   What is said here: what FnClose calls, at drawn inputs: the program and the specification answer with the same, whatever the world behind. -/
import Derived.Test.YtlgnplnmcdjbiaaQWalkOfWToSubAnyW
import Derived.Test.YtlgnplnmcdjbiaaQVecAndWToGetS
import Derived.Test.YtlgnplnmcdjbiaaQMakeWToVecNotW
import Derived.Test.YtlgnplnmcdjbiaaQL02SetWToSpecMaskW
import Derived.BigRegion
import Derived.Test.YtlgnplnmcdjbiaaQVecNotBMToDrawW
import Derived.Test.YtlgnplnmcdjbiaaQImplMaskWToDrawClEW
import Derived.Test.YtlgnplnmcdjbiaaQImplCloWToOnceAtW
import Derived.Test.YtlgnplnmcdjbiaaQSpecStartWToVecAddW
import Derived.Test.YtlgnplnmcdjbiaaQSpecCByWToSpecCBnW
import Derived.Test.YtlgnplnmcdjbiaaQFnSubWToImplCByW
import Derived.Test.YtlgnplnmcdjbiaaQAsManyNWToSpecAndW
import Derived.Test.YtlgnplnmcdjbiaaQFnVecMToSet64M
namespace Go.Proofs.Ytlgnplnmcdjbiaa
open Go.RowKit

open Classical in
set_option maxHeartbeats 2000000 in
theorem specVecOr_yes (b : Int) (sa sb : Option Addr) (n ka kb : Nat) (f g : Nat → Int) (w : World) (hn : n ≤ 1048576) (ha : Row w w.heap.size sa n f) (hb : Row w w.heap.size sb n g) (h1 : Right b n f) (h2 : Right b n g) :
    Calls Try.prog 43 #[.agg #[.int .i64 b, .slice sa n ka], .agg #[.int .i64 b, .slice sb n kb]] w fun e w' => NewVec w b n (fun i => bits .or .i64 (f i) (g i)) e w' := by
  have HA : Hid (Row w w.heap.size sa n f) := ha
  have HB : Hid (Row w w.heap.size sb n g) := hb
  have hn0 := (words_same h1 h2 rfl).2
  have C1 := fun W h h' => two_any b b sa sb n n ka kb f g W hn hn h h'
  have e1 : decide (Right b n f ∧ Right b n g ∧ b = b) = true := decide_eq_true ⟨h1, h2, rfl⟩
  rw [e1] at C1
  have HC1 : Hid (∀ W, Row W W.heap.size sa n f → Row W W.heap.size sb n g → Calls Try.prog 115 #[.agg #[.int .i64 b, .slice sa n ka], .agg #[.int .i64 b, .slice sb n kb]] W fun e w' => e = .returned (.bool true) ∧ Below W.heap.size W w') := C1
  clear C1 e1 ha hb h1 h2
  go_enter Try.func43, Try.ntmps43
  go_wp2_with fail
  have q1 := boxing w 45 b sa n ka
  generalize w.alloc (.cells #[.int .i64 b, .slice sa n ka] 45) = v1 at *
  have q2 := boxing v1 45 b sb n kb
  generalize v1.alloc (.cells #[.int .i64 b, .slice sb n kb] 45) = v2 at *
  have q3 := boxing v2 45 0 none 0 0
  generalize v2.alloc (.cells #[.int .i64 0, .slice none 0 0] 45) = v3 at *
  have X1 : Hid (Boxed v3 w.heap.size 45 b sa n ka) := (q1.2.1.kept q2.1 rfl).kept q3.1 rfl
  have X2 : Hid (Boxed v3 (w.heap.size + 1) 45 b sb n kb) := by rw [← q1.2.2]; exact q2.2.1.kept q3.1 rfl
  have X3 : Hid (Boxed v3 (w.heap.size + 2) 45 0 none 0 0) := by rw [show w.heap.size + 2 = v2.heap.size by rw [q2.2.2, q1.2.2]]; exact q3.2.1
  have S3 : Hid (Since w v3) := since_call (since_call (since_call (since_refl _) q1.1) q2.1) q3.1
  have z3 : v3.heap.size = w.heap.size + 3 := by rw [q3.2.2, q2.2.2, q1.2.2]
  clear q1 q2 q3
  refine (HC1.out _ (row_since HA.out S3.out) (row_since HB.out S3.out)).mono ?_
  rintro e w4 ⟨rfl, hb4⟩
  have z4 : w.heap.size + 3 ≤ w4.heap.size := by have := hb4.size; omega
  have Y1 : Hid (Boxed w4 w.heap.size 45 b sa n ka) := X1.out.kept hb4 rfl
  have Y2 : Hid (Boxed w4 (w.heap.size + 1) 45 b sb n kb) := X2.out.kept hb4 rfl
  have Y3 : Hid (Boxed w4 (w.heap.size + 2) 45 0 none 0 0) := X3.out.kept hb4 rfl
  have S4 : Hid (Since w w4) := since_call S3.out hb4
  clear hb4 X1 X2 X3 S3 z3
  obtain ⟨ca0, ca1⟩ := Y1.out.cells
  obtain ⟨cb0, cb1⟩ := Y2.out.cells
  go_wp2_with fail
  refine (l02Or_any b b sa sb n ka kb f g w4 hn0 hn (row_since HA.out S4.out) (row_since HB.out S4.out)).mono ?_
  clear ca0 ca1 cb0 cb1
  rintro e w5 ⟨s5, c5, rfl, hb5, ho5⟩
  unfold vecV
  obtain ⟨cc0, cc1, cc2, cc3⟩ := (Y3.out.kept hb5 rfl).four
  have HO : Hid (OwnS w5 w4.heap.size s5 n (fun i => bits .or .i64 (f i) (g i))) := ho5
  have S5 : Hid (Since w w5) := since_call S4.out hb5
  clear hb5 ho5 Y1 Y2 Y3
  go_wp2
  refine bodyPost_ret (v := vecV b s5 n c5) (by simp [results, Try.results43, go_sem, vecV, cc0, cc1]) rfl ?_
  refine ⟨_, _, rfl, (since_set (since_set S5.out (by show w.heap.size ≤ w.heap.size + 2; omega)) (by show w.heap.size ≤ w.heap.size + 2; omega)).below, ?_⟩
  rcases HO.out with h | ⟨g5, h1, h2, h3⟩
  · exact Or.inl h
  · exact Or.inr ⟨g5, h1, by omega, (h3.setOther _ _ (by show w.heap.size + 2 ≠ g5; omega)).setOther _ _ (by show w.heap.size + 2 ≠ g5; omega)⟩

open Classical in
set_option maxHeartbeats 2000000 in
theorem specVecOr_no (b c : Int) (sa sb : Option Addr) (n m ka kb : Nat) (f g : Nat → Int) (w : World) (hn : n ≤ 1048576) (hm : m ≤ 1048576) (ha : Row w w.heap.size sa n f) (hb : Row w w.heap.size sb m g) (hno : ¬ (Right b n f ∧ Right c m g ∧ b = c)) :
    Calls Try.prog 43 #[.agg #[.int .i64 b, .slice sa n ka], .agg #[.int .i64 c, .slice sb m kb]] w fun e w' => NewVec w 0 0 (fun _ => 0) e w' := by
  have HA : Hid (Row w w.heap.size sa n f) := ha
  have HB : Hid (Row w w.heap.size sb m g) := hb
  have C1 := fun W h h' => two_any b c sa sb n m ka kb f g W hn hm h h'
  have e1 : decide (Right b n f ∧ Right c m g ∧ b = c) = false := decide_eq_false hno
  rw [e1] at C1
  have HC1 : Hid (∀ W, Row W W.heap.size sa n f → Row W W.heap.size sb m g → Calls Try.prog 115 #[.agg #[.int .i64 b, .slice sa n ka], .agg #[.int .i64 c, .slice sb m kb]] W fun e w' => e = .returned (.bool false) ∧ Below W.heap.size W w') := C1
  clear C1 e1 ha hb hno
  go_enter Try.func43, Try.ntmps43
  go_wp2_with fail
  have q1 := boxing w 45 b sa n ka
  generalize w.alloc (.cells #[.int .i64 b, .slice sa n ka] 45) = v1 at *
  have q2 := boxing v1 45 c sb m kb
  generalize v1.alloc (.cells #[.int .i64 c, .slice sb m kb] 45) = v2 at *
  have q3 := boxing v2 45 0 none 0 0
  generalize v2.alloc (.cells #[.int .i64 0, .slice none 0 0] 45) = v3 at *
  have X3 : Hid (Boxed v3 (w.heap.size + 2) 45 0 none 0 0) := by rw [show w.heap.size + 2 = v2.heap.size by rw [q2.2.2, q1.2.2]]; exact q3.2.1
  have S3 : Hid (Since w v3) := since_call (since_call (since_call (since_refl _) q1.1) q2.1) q3.1
  clear q1 q2 q3
  refine (HC1.out _ (row_since HA.out S3.out) (row_since HB.out S3.out)).mono ?_
  rintro e w4 ⟨rfl, hb4⟩
  obtain ⟨cc0, cc1, cc2, cc3⟩ := (X3.out.kept hb4 rfl).four
  have S4 : Hid (Since w w4) := since_call S3.out hb4
  clear hb4 X3 S3
  go_wp2
  refine bodyPost_ret (v := vecV 0 none 0 0) (by simp [results, Try.results43, go_sem, vecV, cc0, cc1]) rfl ?_
  exact ⟨_, _, rfl, (since_set (since_set S4.out (by show w.heap.size ≤ w.heap.size + 2; omega)) (by show w.heap.size ≤ w.heap.size + 2; omega)).below, Or.inl rfl⟩
end Go.Proofs.Ytlgnplnmcdjbiaa
namespace Go.Proofs.Ytlgnplnmcdjbiaa
open Go.RowKit

open Classical in
set_option maxHeartbeats 2000000 in
theorem specVecNot_yes (b : Int) (sa : Option Addr) (n ka : Nat) (f : Nat → Int) (w : World) (hn : n ≤ 1048576) (ha : Row w w.heap.size sa n f) (h1 : Right b n f) :
    Calls Try.prog 41 #[.agg #[.int .i64 b, .slice sa n ka]] w fun e w' => NewVec w b n (cutF b n (notF f)) e w' := by
  have HA : Hid (Row w w.heap.size sa n f) := ha
  have hn0 : 0 < n := by have e1 := h1.2.2.1; have := h1.1; omega
  have hbb := h1.1
  have hbc := h1.2.1
  have HF : Hid (∀ i, i < n → 0 ≤ f i ∧ f i ≤ 4294967295) := h1.2.2.2.1
  have C1 := fun W h => specRight_any b sa n ka f W hn h
  have e1 : decide (Right b n f) = true := decide_eq_true h1
  rw [e1] at C1
  have HC1 : Hid (∀ W, Row W W.heap.size sa n f → Calls Try.prog 125 #[.agg #[.int .i64 b, .slice sa n ka]] W fun e w' => e = .returned (.bool true) ∧ Below W.heap.size W w') := C1
  clear C1 e1 ha h1
  go_enter Try.func41, Try.ntmps41
  go_wp2_with fail
  have q1 := boxing w 45 b sa n ka
  generalize w.alloc (.cells #[.int .i64 b, .slice sa n ka] 45) = v1 at *
  have q3 := boxing v1 45 0 none 0 0
  generalize v1.alloc (.cells #[.int .i64 0, .slice none 0 0] 45) = v3 at *
  have X1 : Hid (Boxed v3 w.heap.size 45 b sa n ka) := q1.2.1.kept q3.1 rfl
  have X3 : Hid (Boxed v3 (w.heap.size + 1) 45 0 none 0 0) := by rw [← q1.2.2]; exact q3.2.1
  have S3 : Hid (Since w v3) := since_call (since_call (since_refl _) q1.1) q3.1
  have z3 : v3.heap.size = w.heap.size + 2 := by rw [q3.2.2, q1.2.2]
  clear q1 q3
  refine (HC1.out _ (row_since HA.out S3.out)).mono ?_
  rintro e w4 ⟨rfl, hb4⟩
  have z4 : w.heap.size + 2 ≤ w4.heap.size := by have := hb4.size; omega
  have Y1 : Hid (Boxed w4 w.heap.size 45 b sa n ka) := X1.out.kept hb4 rfl
  have Y3 : Hid (Boxed w4 (w.heap.size + 1) 45 0 none 0 0) := X3.out.kept hb4 rfl
  have S4 : Hid (Since w w4) := since_call S3.out hb4
  clear hb4 X1 X3 S3 z3
  obtain ⟨ca0, ca1⟩ := Y1.out.cells
  go_wp2_with fail
  refine (not_any b sa n ka f w4 hbb hbc HF.out hn0 hn (row_since HA.out S4.out)).mono ?_
  clear ca0 ca1
  rintro e w5 ⟨s5, c5, rfl, hb5, ho5⟩
  unfold vecV
  obtain ⟨cc0, cc1, cc2, cc3⟩ := (Y3.out.kept hb5 rfl).four
  have HO : Hid (OwnS w5 w4.heap.size s5 n (cutF b n (notF f))) := ho5
  have S5 : Hid (Since w w5) := since_call S4.out hb5
  clear hb5 ho5 Y1 Y3
  go_wp2
  refine bodyPost_ret (v := vecV b s5 n c5) (by simp [results, Try.results41, go_sem, vecV, cc0, cc1]) rfl ?_
  refine ⟨_, _, rfl, (since_set (since_set S5.out (by show w.heap.size ≤ w.heap.size + 1; omega)) (by show w.heap.size ≤ w.heap.size + 1; omega)).below, ?_⟩
  rcases HO.out with h | ⟨g5, h1, h2, h3⟩
  · exact Or.inl h
  · exact Or.inr ⟨g5, h1, by omega, (h3.setOther _ _ (by show w.heap.size + 1 ≠ g5; omega)).setOther _ _ (by show w.heap.size + 1 ≠ g5; omega)⟩

open Classical in
set_option maxHeartbeats 2000000 in
theorem specVecNot_no (b : Int) (sa : Option Addr) (n ka : Nat) (f : Nat → Int) (w : World) (hn : n ≤ 1048576) (ha : Row w w.heap.size sa n f) (hno : ¬ Right b n f) :
    Calls Try.prog 41 #[.agg #[.int .i64 b, .slice sa n ka]] w fun e w' => NewVec w 0 0 (fun _ => 0) e w' := by
  have HA : Hid (Row w w.heap.size sa n f) := ha
  have C1 := fun W h => specRight_any b sa n ka f W hn h
  have e1 : decide (Right b n f) = false := decide_eq_false hno
  rw [e1] at C1
  have HC1 : Hid (∀ W, Row W W.heap.size sa n f → Calls Try.prog 125 #[.agg #[.int .i64 b, .slice sa n ka]] W fun e w' => e = .returned (.bool false) ∧ Below W.heap.size W w') := C1
  clear C1 e1 ha hno
  go_enter Try.func41, Try.ntmps41
  go_wp2_with fail
  have q1 := boxing w 45 b sa n ka
  generalize w.alloc (.cells #[.int .i64 b, .slice sa n ka] 45) = v1 at *
  have q3 := boxing v1 45 0 none 0 0
  generalize v1.alloc (.cells #[.int .i64 0, .slice none 0 0] 45) = v3 at *
  have X3 : Hid (Boxed v3 (w.heap.size + 1) 45 0 none 0 0) := by rw [← q1.2.2]; exact q3.2.1
  have S3 : Hid (Since w v3) := since_call (since_call (since_refl _) q1.1) q3.1
  clear q1 q3
  refine (HC1.out _ (row_since HA.out S3.out)).mono ?_
  rintro e w4 ⟨rfl, hb4⟩
  obtain ⟨cc0, cc1, cc2, cc3⟩ := (X3.out.kept hb4 rfl).four
  have S4 : Hid (Since w w4) := since_call S3.out hb4
  clear hb4 X3 S3
  go_wp2
  refine bodyPost_ret (v := vecV 0 none 0 0) (by simp [results, Try.results41, go_sem, vecV, cc0, cc1]) rfl ?_
  exact ⟨_, _, rfl, (since_set (since_set S4.out (by show w.heap.size ≤ w.heap.size + 1; omega)) (by show w.heap.size ≤ w.heap.size + 1; omega)).below, Or.inl rfl⟩
end Go.Proofs.Ytlgnplnmcdjbiaa
namespace Go.Proofs.Ytlgnplnmcdjbiaa
open Go.RowKit



open Classical in
set_option maxHeartbeats 2000000 in
theorem specSet_yes (b : Int) (sa : Option Addr) (n ka k q : Nat) (f : Nat → Int) (i : Int) (on : Bool) (w : World) (hn : n ≤ 1048576) (ha : Row w w.heap.size sa n f) (h : HasBit b n f i) (h1 : i / 32 = (k : Int)) (h2 : i % 32 = (q : Int)) (hk : k < n) (hq : q < 32) :
    Calls Try.prog 42 #[.agg #[.int .i64 b, .slice sa n ka], .int .i64 i, .bool on] w fun e w' => NewVec w b n (setF f k q on) e w' := by
  have HA : Hid (Row w w.heap.size sa n f) := ha
  have hn0 : 0 < n := by omega
  have hb0 := h.1.1
  have hb1 := h.1.2.1
  have HK : Hid (0 ≤ i ∧ i / 32 = (k : Int) ∧ i % 32 = (q : Int) ∧ i ≤ b - 1) := ⟨h.2.1, h1, h2, by have := h.2.2; omega⟩
  have C1 := fun W h => specRight_any b sa n ka f W hn h
  rw [decide_eq_true h.1] at C1
  have HC1 : Hid (∀ W, Row W W.heap.size sa n f → Calls Try.prog 125 #[.agg #[.int .i64 b, .slice sa n ka]] W fun e w' => e = .returned (.bool true) ∧ Below W.heap.size W w') := C1
  clear C1 ha h h1 h2
  go_enter Try.func42, Try.ntmps42
  go_wp2_with fail
  have q1 := boxing w 45 b sa n ka
  generalize w.alloc (.cells #[.int .i64 b, .slice sa n ka] 45) = v1 at *
  have q3 := boxing v1 45 0 none 0 0
  generalize v1.alloc (.cells #[.int .i64 0, .slice none 0 0] 45) = v3 at *
  have X1 : Hid (Boxed v3 w.heap.size 45 b sa n ka) := q1.2.1.kept q3.1 rfl
  have X3 : Hid (Boxed v3 (w.heap.size + 1) 45 0 none 0 0) := by rw [← q1.2.2]; exact q3.2.1
  have S3 : Hid (Since w v3) := since_call (since_call (since_refl _) q1.1) q3.1
  have z3 : v3.heap.size = w.heap.size + 2 := by rw [q3.2.2, q1.2.2]
  clear q1 q3
  refine (HC1.out _ (row_since HA.out S3.out)).mono ?_
  rintro e w4 ⟨rfl, hb4⟩
  have z4 : w.heap.size + 2 ≤ w4.heap.size := by have := hb4.size; omega
  have Y1 : Hid (Boxed w4 w.heap.size 45 b sa n ka) := X1.out.kept hb4 rfl
  have Y3 : Hid (Boxed w4 (w.heap.size + 1) 45 0 none 0 0) := X3.out.kept hb4 rfl
  have S4 : Hid (Since w w4) := since_call S3.out hb4
  clear hb4 X1 X3 S3 z3
  obtain ⟨ca0, ca1⟩ := Y1.out.cells
  go_wp2_with fail
  refine (is_yes _ _ _ _ HK.out.1 HK.out.2.2.2).mono ?_
  rintro e w5 ⟨rfl, hw⟩
  subst hw
  go_wp2_with fail
  refine (copy_any b sa n ka f _ hn0 hn (row_since HA.out S4.out)).mono ?_
  clear ca0 ca1
  rintro e w6 ⟨s6, c6, rfl, hb6, ho6⟩
  obtain ⟨g6, rfl, hg1, ho⟩ : ∃ g, s6 = some ⟨g, 0, none⟩ ∧ w5.heap.size ≤ g ∧ Own w6 g n f := by
    rcases ho6 with h | h
    · omega
    · exact h
  have hg2 := ho.1
  have O6 : Hid (Own w6 g6 n f) := ho
  have Z3 : Hid (Boxed w6 (w.heap.size + 1) 45 0 none 0 0) := Y3.out.kept hb6 rfl
  have S6 : Hid (Since w w6) := since_call S4.out hb6
  unfold vecV
  clear hb6 ho6 ho Y1 Y3 S4
  go_wp2_with fail
  have q5 := boxing w6 45 b (some ⟨g6, 0, none⟩) n c6
  generalize w6.alloc (.cells #[.int .i64 b, .slice (some ⟨g6, 0, none⟩) n c6] 45) = v7 at *
  obtain ⟨p7, hp7⟩ : ∃ p, p = w6.heap.size := ⟨_, rfl⟩
  rw [← hp7]
  have Y7 : Hid (Boxed v7 p7 45 b (some ⟨g6, 0, none⟩) n c6) := by rw [hp7]; exact q5.2.1
  have V3 : Hid (Boxed v7 (w.heap.size + 1) 45 0 none 0 0) := Z3.out.kept q5.1 rfl
  have S7 : Hid (Since w v7) := since_call S6.out q5.1
  have O7 : Own v7 g6 n f := O6.out.kept q5.1 hg2
  have hgp : g6 < p7 := by omega
  have hgl : w.heap.size + 2 ≤ g6 := by omega
  clear q5 Z3 S6 O6 hg2 hp7 hg1
  refine (l02Set_any b g6 n c6 k q f i on v7 hn O7 HK.out.1 HK.out.2.1 HK.out.2.2.1 hk hq).mono ?_
  rintro e w8 ⟨rfl, hgr, ho8⟩
  have O8 : Hid (Own w8 g6 n (setF f k q on)) := ho8
  have hin : OnlyIn v7 w8 g6 (g6 + 1) := ⟨some g6, hgr, fun g' e => by injection e with e; omega⟩
  have S8 : Hid (Since w w8) := ⟨S7.out.below.trans (hin.below (by omega) S7.out.size)⟩
  have X8 : Hid (Boxed w8 p7 45 b (some ⟨g6, 0, none⟩) n c6) := Y7.out.only hin (Or.inr (by omega))
  have Z8 : Hid (Boxed w8 (w.heap.size + 1) 45 0 none 0 0) := V3.out.only hin (Or.inl (by omega))
  clear hgr ho8 hin O7 Y7 V3 S7
  obtain ⟨cd0, cd1⟩ := X8.out.cells
  obtain ⟨cc0, cc1, cc2, cc3⟩ := Z8.out.four
  go_wp2
  refine bodyPost_ret (v := vecV b (some ⟨g6, 0, none⟩) n c6) (by simp [results, Try.results42, go_sem, vecV, cc0, cc1]) rfl ?_
  exact ⟨_, _, rfl, (since_set (since_set S8.out (by show w.heap.size ≤ w.heap.size + 1; omega)) (by show w.heap.size ≤ w.heap.size + 1; omega)).below, Or.inr ⟨g6, rfl, by omega, (O8.out.setOther _ _ (by show w.heap.size + 1 ≠ g6; omega)).setOther _ _ (by show w.heap.size + 1 ≠ g6; omega)⟩⟩

open Classical in
set_option maxHeartbeats 2000000 in
theorem specSet_no (b : Int) (sa : Option Addr) (n ka : Nat) (f : Nat → Int) (i : Int) (on : Bool) (w : World) (hn : n ≤ 1048576) (ha : Row w w.heap.size sa n f) (hno : ¬ HasBit b n f i) :
    Calls Try.prog 42 #[.agg #[.int .i64 b, .slice sa n ka], .int .i64 i, .bool on] w fun e w' => NewVec w 0 0 (fun _ => 0) e w' := by
  have HA : Hid (Row w w.heap.size sa n f) := ha
  have C1 := fun W h => specRight_any b sa n ka f W hn h
  by_cases h : Right b n f
  · rw [decide_eq_true h] at C1
    have HC1 : Hid (∀ W, Row W W.heap.size sa n f → Calls Try.prog 125 #[.agg #[.int .i64 b, .slice sa n ka]] W fun e w' => e = .returned (.bool true) ∧ Below W.heap.size W w') := C1
    have hb0 := h.1
    have hb1 := h.2.1
    have HK : Hid (¬ (0 ≤ i ∧ i ≤ b - 1)) := fun h2 => hno ⟨h, h2.1, by omega⟩
    clear C1 ha h hno
    go_enter Try.func42, Try.ntmps42
    go_wp2_with fail
    have q1 := boxing w 45 b sa n ka
    generalize w.alloc (.cells #[.int .i64 b, .slice sa n ka] 45) = v1 at *
    have q3 := boxing v1 45 0 none 0 0
    generalize v1.alloc (.cells #[.int .i64 0, .slice none 0 0] 45) = v3 at *
    have X1 : Hid (Boxed v3 w.heap.size 45 b sa n ka) := q1.2.1.kept q3.1 rfl
    have X3 : Hid (Boxed v3 (w.heap.size + 1) 45 0 none 0 0) := by rw [← q1.2.2]; exact q3.2.1
    have S3 : Hid (Since w v3) := since_call (since_call (since_refl _) q1.1) q3.1
    clear q1 q3
    refine (HC1.out _ (row_since HA.out S3.out)).mono ?_
    rintro e w4 ⟨rfl, hb4⟩
    obtain ⟨ca0, ca1⟩ := (X1.out.kept hb4 rfl).cells
    obtain ⟨cc0, cc1, cc2, cc3⟩ := (X3.out.kept hb4 rfl).four
    have S4 : Hid (Since w w4) := since_call S3.out hb4
    clear hb4 X1 X3 S3
    go_wp2_with fail
    refine (is_no _ _ _ _ HK.out).mono ?_
    rintro e w5 ⟨rfl, hw⟩
    subst hw
    go_wp2
    refine bodyPost_ret (v := vecV 0 none 0 0) (by simp [results, Try.results42, go_sem, vecV, cc0, cc1]) rfl ?_
    exact ⟨_, _, rfl, (since_set (since_set S4.out (by show w.heap.size ≤ w.heap.size + 1; omega)) (by show w.heap.size ≤ w.heap.size + 1; omega)).below, Or.inl rfl⟩
  · rw [decide_eq_false h] at C1
    have HC1 : Hid (∀ W, Row W W.heap.size sa n f → Calls Try.prog 125 #[.agg #[.int .i64 b, .slice sa n ka]] W fun e w' => e = .returned (.bool false) ∧ Below W.heap.size W w') := C1
    clear C1 ha h hno
    go_enter Try.func42, Try.ntmps42
    go_wp2_with fail
    have q1 := boxing w 45 b sa n ka
    generalize w.alloc (.cells #[.int .i64 b, .slice sa n ka] 45) = v1 at *
    have q3 := boxing v1 45 0 none 0 0
    generalize v1.alloc (.cells #[.int .i64 0, .slice none 0 0] 45) = v3 at *
    have X3 : Hid (Boxed v3 (w.heap.size + 1) 45 0 none 0 0) := by rw [← q1.2.2]; exact q3.2.1
    have S3 : Hid (Since w v3) := since_call (since_call (since_refl _) q1.1) q3.1
    clear q1 q3
    refine (HC1.out _ (row_since HA.out S3.out)).mono ?_
    rintro e w4 ⟨rfl, hb4⟩
    obtain ⟨cc0, cc1, cc2, cc3⟩ := (X3.out.kept hb4 rfl).four
    have S4 : Hid (Since w w4) := since_call S3.out hb4
    clear hb4 X3 S3
    go_wp2
    refine bodyPost_ret (v := vecV 0 none 0 0) (by simp [results, Try.results42, go_sem, vecV, cc0, cc1]) rfl ?_
    exact ⟨_, _, rfl, (since_set (since_set S4.out (by show w.heap.size ≤ w.heap.size + 1; omega)) (by show w.heap.size ≤ w.heap.size + 1; omega)).below, Or.inl rfl⟩
end Go.Proofs.Ytlgnplnmcdjbiaa
namespace Go.Proofs.Ytlgnplnmcdjbiaa
open Go.RowKit

theorem len256 {k : Nat} (h : k ≤ 256) : k ≤ maxLen := by unfold maxLen; omega
theorem len60 {k : Nat} (h : k ≤ 60) : k ≤ maxLen := by unfold maxLen; omega
theorem m5_masksF {b : Nat → Int} {s : Nat → Option Addr} {n c : Nat → Nat} {bv : Int} {m : Nat} (hb : ∀ i, i < 5 → b i = bv) (hn : ∀ i, i < 5 → n i = m) : m5V b s n c = masksV bv s m c := by
  unfold m5V masksV
  rw [hb 0 (by decide), hb 1 (by decide), hb 2 (by decide), hb 3 (by decide), hb 4 (by decide), hn 0 (by decide), hn 1 (by decide), hn 2 (by decide), hn 3 (by decide), hn 4 (by decide)]
open Classical in
theorem cby_both (b : Nat → Int) (s : Nat → Option Addr) (n c : Nat → Nat) (F : Nat → Nat → Int) (bv : Int) (sv : Option Addr) (m cv : Nat) (g : Nat → Int) (hn : ∀ i, i < 5 → n i ≤ 1000) (hm : m ≤ 1000) :
    ∃ (ro : Int) (rn : Nat) (rf : Nat → Int), rn ≤ 1048576 ∧
      (∀ W, M5Row W s n F → Row W W.heap.size sv m g → Calls Try.prog 35 #[m5V b s n c, .agg #[.int .i64 bv, .slice sv m cv]] W fun e w' => NewVec W ro rn rf e w') ∧
      (∀ W, M5Row W s n F → Row W W.heap.size sv m g → Calls Try.prog 36 #[m5V b s n c, .agg #[.int .i64 bv, .slice sv m cv]] W fun e w' => NewVec W ro rn rf e w') := by
  by_cases h : All5 b n F bv m g Right
  · have hg : Right bv m g := (h 0 (by decide)).2.1
    have hb : ∀ i, i < 5 → b i = bv := fun i hi => (h i hi).2.2
    have hnn : ∀ i, i < 5 → n i = m := fun i hi => (words_same (h i hi).1 hg (hb i hi)).1
    have hF : ∀ i, i < 5 → Right bv m (F i) := fun i hi => by
      have h9 := (h i hi).1
      rw [hb i hi, hnn i hi] at h9
      exact h9
    refine ⟨bv, m, cyF bv m (F 2) (F 3) (F 4) g, by omega, fun W hr hv => ?_, fun W hr hv => ?_⟩
    · rw [m5_masksF hb hnn]
      exact implCBy_yes bv s m c F sv cv g W (by omega) (fun i hi => by have h9 := hr i hi; rw [hnn i hi] at h9; exact h9) hv hF hg
    · rw [m5_masksF hb hnn]
      exact specCBy_yes bv s m c F sv cv g W (by omega) (fun i hi => by have h9 := hr i hi; rw [hnn i hi] at h9; exact h9) hv hF hg
  · exact ⟨0, 0, fun _ => 0, by omega, fun W hr hv => implCBy_no b s n c F bv sv m cv g W (fun i hi => by have := hn i hi; omega) (by omega) hr hv h, fun W hr hv => specCBy_no b s n c F bv sv m cv g W (fun i hi => by have := hn i hi; omega) (by omega) hr hv h⟩
theorem start_both (s : Option Addr) (n cp : Nat) (f : Nat → Cel) (hn : n ≤ 60) (hsm : ∀ i, i < n → (f i).c.size ≤ 256) :
    ∃ (ro : Int) (rn : Nat) (rf : Nat → Int), rn ≤ 1048576 ∧
      (∀ W, CRow W W.heap.size s n f → Calls Try.prog 37 #[.slice s n cp] W fun e w' => NewVec W ro rn rf e w') ∧
      (∀ W, CRow W W.heap.size s n f → Calls Try.prog 38 #[.slice s n cp] W fun e w' => NewVec W ro rn rf e w') := by
  have hc : ∀ i, i < n → (f i).c.size ≤ maxLen := fun i hi => len256 (hsm i hi)
  by_cases h : CellsOk n f
  · obtain ⟨x, hx⟩ := clo_ex (n := n) (by omega) (skip_le f n) (P := fun j => decide (0 = j)) (fun j hj => decide_eq_false (by omega))
    exact ⟨(n : Int) + 1, (n + 1 + 31) / 32, wordsN x, by omega, fun W hr => implStart_yes s n cp _ x f W (len60 hn) hr hc h rfl hx, fun W hr => specStart_yes s n cp _ x f W (len60 hn) hr hc h rfl hx⟩
  · exact ⟨0, 0, fun _ => 0, by omega, fun W hr => implStart_no s n cp f W (len60 hn) hr hc h, fun W hr => specStart_no s n cp f W (len60 hn) hr hc h⟩
/-- What is closed over right cells: all that the law asks of it. -/
structure CloseAll (s : Option Addr) (n cp : Nat) (f : Nat → Cel) (bv : Int) (sv : Option Addr) (m cv : Nat) (g : Nat → Int) (rf : Nat → Int) : Prop where
  right : Right bv m g
  masks : ∃ F : Nat → Nat → Int, (∀ W, CRow W W.heap.size s n f → Calls Try.prog 39 #[.slice s n cp] W fun e w' => NewMasks W bv m F e w') ∧
    ∀ (W : World) (x : Nat → Option Addr) (k : Nat → Nat), (∀ i, i < 5 → Row W W.heap.size (x i) m (F i)) → Row W W.heap.size sv m g → Calls Try.prog 35 #[masksV bv x m k, .agg #[.int .i64 bv, .slice sv m cv]] W fun e w' => NewVec W bv m rf e w'
  again : ∀ (W : World) (x : Option Addr) (k : Nat), CRow W W.heap.size s n f → Row W W.heap.size x m rf → Calls Try.prog 30 #[.slice s n cp, .agg #[.int .i64 bv, .slice x m k]] W fun e w' => NewVec W bv m rf e w'
  and : ∀ (W : World) (x : Option Addr) (k : Nat), Row W W.heap.size x m rf → Row W W.heap.size sv m g → Calls Try.prog 40 #[.agg #[.int .i64 bv, .slice x m k], .agg #[.int .i64 bv, .slice sv m cv]] W fun e w' => NewVec W bv m g e w'
  more : ∀ h : Nat → Int, Right bv m h → ∃ o y z : Nat → Int,
    (∀ (W : World) (x : Option Addr) (k : Nat), Row W W.heap.size sv m g → Row W W.heap.size x m h → Calls Try.prog 43 #[.agg #[.int .i64 bv, .slice sv m cv], .agg #[.int .i64 bv, .slice x m k]] W fun e w' => NewVec W bv m o e w') ∧
    (∀ (W : World) (x : Option Addr) (k : Nat), CRow W W.heap.size s n f → Row W W.heap.size x m o → Calls Try.prog 30 #[.slice s n cp, .agg #[.int .i64 bv, .slice x m k]] W fun e w' => NewVec W bv m y e w') ∧
    (∀ (W : World) (x : Option Addr) (k : Nat), CRow W W.heap.size s n f → Row W W.heap.size x m h → Calls Try.prog 34 #[.slice s n cp, .agg #[.int .i64 bv, .slice x m k]] W fun e w' => NewVec W bv m z e w') ∧
    (∀ (W : World) (x x' : Option Addr) (k k' : Nat), Row W W.heap.size x m rf → Row W W.heap.size x' m z → Calls Try.prog 43 #[.agg #[.int .i64 bv, .slice x m k], .agg #[.int .i64 bv, .slice x' m k']] W fun e w' => NewVec W bv m y e w')
theorem close_all (s : Option Addr) (n cp : Nat) (f : Nat → Cel) (sv : Option Addr) (m cv x : Nat) (g : Nat → Int) (hsm : ∀ i, i < n → (f i).c.size ≤ 256) (hk : CellsOk n f) (hm : m = (n + 1 + 31) / 32) (hR : Right ((n : Int) + 1) m g) (hx : IsBits x (cloB (skipB f n) (bitsOf g n))) : CloseAll s n cp f ((n : Int) + 1) sv m cv g (wordsN x) := by
  have hn60 := hk.2.1
  have hn : n ≤ maxLen := len60 hn60
  have hc : ∀ i, i < n → (f i).c.size ≤ maxLen := fun i hi => len256 (hsm i hi)
  have hg := vecIs_right hm hR
  have hgn := bitsOf_le g n
  have hS := skip_le f n
  have hS0 : skipB f n 0 = false := by unfold skipB behind; rw [decide_eq_false (by omega)]; rfl
  have hcl : ∀ j, n < j → cloB (skipB f n) (bitsOf g n) j = false := clo_le hS hgn
  have hxv := vecIs_words hx m
  have hRx : Right ((n : Int) + 1) m (wordsN x) := right_of_vecIs (by omega) hm hxv hcl
  have hm5 : m ≤ 1048576 := by omega
  refine ⟨hR, ?_, fun W y k hr hy => ?_, fun W y k hy hv => ?_, fun h hRh => ?_⟩
  · obtain ⟨xb, hb⟩ := first_ex f hn60
    obtain ⟨xe, he⟩ := last_ex f hn60
    obtain ⟨sk, hsk⟩ := skip_ex f hn60
    refine ⟨masksF n xb xe sk, fun W hr => implMasks_yes s n cp m xb xe sk f W hn hr hc hk hm (hb.congr (fun j => by unfold firstB skipB; simp)) he hsk, fun W y k hy hv => ?_⟩
    have e0 : IsBits 1 (fun j => decide (0 = j)) := bits_pow (k := 0) (by omega)
    have e1 : IsBits (2 ^ n) (fun j => decide (n = j)) := bits_pow (by omega)
    have hF : ∀ i, i < 5 → Right ((n : Int) + 1) m (masksF n xb xe sk i) := fun i hi => by
      have hcs : i = 0 ∨ i = 1 ∨ i = 2 ∨ i = 3 ∨ i = 4 := by omega
      rcases hcs with rfl | rfl | rfl | rfl | rfl
      · exact right_of_vecIs (by omega) hm (vecIs_words e0 m) (fun j hj => decide_eq_false (by omega))
      · exact right_of_vecIs (by omega) hm (vecIs_words e1 m) (fun j hj => decide_eq_false (by omega))
      · exact right_of_vecIs (by omega) hm (vecIs_words hb m) (fun j hj => by unfold firstB; rw [hS (j + 1) (by omega)]; rfl)
      · exact right_of_vecIs (by omega) hm (vecIs_words he m) (fun j hj => by unfold lastB; rw [hS j hj]; rfl)
      · exact right_of_vecIs (by omega) hm (vecIs_words hsk m) hS
    refine (implCBy_yes ((n : Int) + 1) y m k (masksF n xb xe sk) sv cv g W hm5 hy hv hF hR).mono (fun e w' h9 => newVec_congr h9 ?_)
    exact (cy_bits hn60 hm hS0 hS hgn (vecIs_words hb m) (vecIs_words he m) (vecIs_words hsk m) hg).uniq hxv
  · exact implClo_yes s n cp f y m k x (wordsN x) W hn hr hc hy hk hm hRx (hx.congr (fun j => by
      rw [← cloB_twice (skipB f n) (bitsOf g n) j]
      exact (cloB_congr (fun i => bitsOf_is hm hxv hcl i) j).symm))
  · exact (specVecAnd_yes ((n : Int) + 1) y sv m k cv (wordsN x) g W hm5 hy hv hRx hR).mono (fun e w' h9 => newVec_congr h9 (((hxv.and hg).congr (cloB_and (skipB f n) (bitsOf g n))).uniq hg))
  · have hh := vecIs_right hm hRh
    have hhn := bitsOf_le h n
    have ho := hg.or hh
    have hon : ∀ j, n < j → (bitsOf g n j || bitsOf h n j) = false := fun j hj => by rw [hgn j hj, hhn j hj]; rfl
    have hRo : Right ((n : Int) + 1) m (fun i => bits .or .i64 (g i) (h i)) := right_of_vecIs (by omega) hm ho hon
    obtain ⟨z, hz⟩ := clo_ex (n := n) (by omega) hS hhn
    obtain ⟨y, hy⟩ := clo_ex (n := n) (by omega) hS hon
    have hzv := vecIs_words hz m
    have hRz : Right ((n : Int) + 1) m (wordsN z) := right_of_vecIs (by omega) hm hzv (clo_le hS hhn)
    refine ⟨fun i => bits .or .i64 (g i) (h i), wordsN y, wordsN z, fun W a k hv ha => specVecOr_yes ((n : Int) + 1) sv a m cv k g h W hm5 hv ha hR hRh, fun W a k hr ha => ?_, fun W a k hr ha => specClo_yes s n cp f a m k z h W hn hr hc ha hk hm hRh hz, fun W a a' k k' ha ha' => ?_⟩
    · exact implClo_yes s n cp f a m k y _ W hn hr hc ha hk hm hRo (hy.congr (fun j => (cloB_congr (fun i => bitsOf_is hm ho hon i) j).symm))
    · exact (specVecOr_yes ((n : Int) + 1) a a' m k k' (wordsN x) (wordsN z) W hm5 ha ha' hRx hRz).mono (fun e w' h9 => newVec_congr h9 (((hxv.or hzv).congr (fun j => (cloB_or (skipB f n) (bitsOf g n) (bitsOf h n) j).symm)).uniq (vecIs_words hy m)))
open Classical in
theorem clo_both (s : Option Addr) (n cp : Nat) (f : Nat → Cel) (bv : Int) (sv : Option Addr) (m cv : Nat) (g : Nat → Int) (hn : n ≤ 60) (hsm : ∀ i, i < n → (f i).c.size ≤ 256) (hm : m ≤ 1000) :
    ∃ (ro : Int) (rn : Nat) (rf : Nat → Int), rn ≤ 1048576 ∧
      (∀ W, CRow W W.heap.size s n f → Row W W.heap.size sv m g → Calls Try.prog 30 #[.slice s n cp, .agg #[.int .i64 bv, .slice sv m cv]] W fun e w' => NewVec W ro rn rf e w') ∧
      (∀ W, CRow W W.heap.size s n f → Row W W.heap.size sv m g → Calls Try.prog 34 #[.slice s n cp, .agg #[.int .i64 bv, .slice sv m cv]] W fun e w' => NewVec W ro rn rf e w') ∧
      (ro = 0 ∨ (0 < ro ∧ ro = bv ∧ rn = m ∧ CloseAll s n cp f bv sv m cv g rf)) := by
  have hc : ∀ i, i < n → (f i).c.size ≤ maxLen := fun i hi => len256 (hsm i hi)
  by_cases h : CloP n f bv m g
  · obtain ⟨hk, hR, rfl⟩ := h
    have hmm : m = (n + 1 + 31) / 32 := by have := hR.2.2.1; omega
    obtain ⟨x, hx⟩ := clo_ex (n := n) (by omega) (skip_le f n) (bitsOf_le g n)
    exact ⟨(n : Int) + 1, m, wordsN x, by omega, fun W hr hv => implClo_yes s n cp f sv m cv x g W (len60 hn) hr hc hv hk hmm hR hx, fun W hr hv => specClo_yes s n cp f sv m cv x g W (len60 hn) hr hc hv hk hmm hR hx, Or.inr ⟨by omega, rfl, rfl, close_all s n cp f sv m cv x g hsm hk hmm hR hx⟩⟩
  · exact ⟨0, 0, fun _ => 0, by omega, fun W hr hv => implClo_no s n cp f bv sv m cv g W (len60 hn) hr hc (by omega) hv h, fun W hr hv => specClo_no s n cp f bv sv m cv g W (len60 hn) hr hc (by omega) hv h, Or.inl rfl⟩
end Go.Proofs.Ytlgnplnmcdjbiaa
