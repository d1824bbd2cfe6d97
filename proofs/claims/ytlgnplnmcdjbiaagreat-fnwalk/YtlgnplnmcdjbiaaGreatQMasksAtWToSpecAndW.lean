/- What is said here: the specification's five vectors are those of a row's runs.
   What is proved here: the specification's VecUp hands back the words doubled, in new memory, or nothing; nothing that was there turns.
   What is proved here: the specification's l02Two says whether two vectors are right and of as many bits; nothing that was there turns.
   What is proved here: the specification's VecAnd hands back the words put together, in new memory, or nothing; nothing that was there turns. -/
import Derived.Test.YtlgnplnmcdjbiaaGreatQSpecMaskLW
import Derived.Test.YtlgnplnmcdjbiaaGreatQImplMaskWToSkipExM
import Derived.Test.YtlgnplnmcdjbiaaGreatQSpecStartWToVecAddW
import Derived.Test.YtlgnplnmcdjbiaaGreatQVecCopyWToSpecCloW
import Derived.Test.YtlgnplnmcdjbiaaGreatQVecAndWToGetS
namespace Go.Proofs.YtlgnplnmcdjbiaaGreat
open Go.RowKit

theorem masksAt_new {w w' : World} {n m xb xe sk : Nat} {f : Nat → Cel} {e : Ending} (hn : n ≤ 60) (h : MasksAt w n m f e w') (hb : IsBits xb (firstB (skipB f n))) (he : IsBits xe (lastB (skipB f n))) (hk : IsBits sk (skipB f n)) : NewMasks w ((n : Int) + 1) m (masksF n xb xe sk) e w' := by
  obtain ⟨g0, g1, g2, g3, g4, c0, c1, c2, c3, c4, h0, h1, h2, h3, h4, rfl, hbl, hl, o0, o1, o2, o3, o4, v0, v1, v2, v3, v4⟩ := h
  have e0 : IsBits 1 (fun j => decide (0 = j)) := bits_pow (k := 0) (by omega)
  have e1 : IsBits (2 ^ n) (fun j => decide (n = j)) := bits_pow (by omega)
  have z4 := o4.1
  refine ⟨_, _, six g0 g1 g2 g3 g4 (g4 + 1), rfl, hbl, ⟨Or.inr ⟨g0, rfl, Nat.le_refl _, hl.2.1, ?_⟩, Or.inr ⟨g1, rfl, Nat.le_refl _, hl.2.2.1, ?_⟩, Or.inr ⟨g2, rfl, Nat.le_refl _, hl.2.2.2.1, ?_⟩, Or.inr ⟨g3, rfl, Nat.le_refl _, hl.2.2.2.2, ?_⟩, Or.inr ⟨g4, rfl, Nat.le_refl _, Nat.lt_succ_self _, ?_⟩, ?_⟩, Nat.le_of_lt hl.1, z4⟩
  · exact o0.congr (fun i hi => v0.uniq (vecIs_words e0 m) i hi)
  · exact o1.congr (fun i hi => v1.uniq (vecIs_words e1 m) i hi)
  · exact o2.congr (fun i hi => v2.uniq (vecIs_words hb m) i hi)
  · exact o3.congr (fun i hi => v3.uniq (vecIs_words he m) i hi)
  · exact o4.congr (fun i hi => v4.uniq (vecIs_words hk m) i hi)
  · show g0 ≤ g1 ∧ g1 ≤ g2 ∧ g2 ≤ g3 ∧ g3 ≤ g4 ∧ g4 ≤ g4 + 1
    omega
end Go.Proofs.YtlgnplnmcdjbiaaGreat
namespace Go.Proofs.YtlgnplnmcdjbiaaGreat
open Go.RowKit

open Classical in
set_option maxHeartbeats 2000000 in
theorem specVecUp_yes (b : Int) (sa : Option Addr) (n ka : Nat) (f : Nat → Int) (w : World) (hn : n ≤ 1048576) (ha : Row w w.heap.size sa n f) (h1 : Right b n f) :
    Calls Tryz.prog 20 #[.agg #[.int .i64 b, .slice sa n ka]] w fun e w' => NewVec w b n (cutF b n (sumF 0 f f)) e w' := by
  have HA : Hid (Row w w.heap.size sa n f) := ha
  have hn0 : 0 < n := by have e1 := h1.2.2.1; have := h1.1; omega
  have hbb := h1.1
  have hbc := h1.2.1
  have HF : Hid (∀ i, i < n → 0 ≤ f i ∧ f i ≤ 4294967295) := h1.2.2.2.1
  have C1 := fun W h => specRight_any b sa n ka f W hn h
  have e1 : decide (Right b n f) = true := decide_eq_true h1
  rw [e1] at C1
  have HC1 : Hid (∀ W, Row W W.heap.size sa n f → Calls Tryz.prog 55 #[.agg #[.int .i64 b, .slice sa n ka]] W fun e w' => e = .returned (.bool true) ∧ Below W.heap.size W w') := C1
  clear C1 e1 ha h1
  go_enter Tryz.func20, Tryz.ntmps20
  go_wp2_with fail
  have q1 := boxing w 26 b sa n ka
  generalize w.alloc (.cells #[.int .i64 b, .slice sa n ka] 26) = v1 at *
  have q3 := boxing v1 26 0 none 0 0
  generalize v1.alloc (.cells #[.int .i64 0, .slice none 0 0] 26) = v3 at *
  have X1 : Hid (Boxed v3 w.heap.size 26 b sa n ka) := q1.2.1.kept q3.1 rfl
  have X3 : Hid (Boxed v3 (w.heap.size + 1) 26 0 none 0 0) := by rw [← q1.2.2]; exact q3.2.1
  have S3 : Hid (Since w v3) := since_call (since_call (since_refl _) q1.1) q3.1
  have z3 : v3.heap.size = w.heap.size + 2 := by rw [q3.2.2, q1.2.2]
  clear q1 q3
  refine (HC1.out _ (row_since HA.out S3.out)).mono ?_
  rintro e w4 ⟨rfl, hb4⟩
  have z4 : w.heap.size + 2 ≤ w4.heap.size := by have := hb4.size; omega
  have Y1 : Hid (Boxed w4 w.heap.size 26 b sa n ka) := X1.out.kept hb4 rfl
  have Y3 : Hid (Boxed w4 (w.heap.size + 1) 26 0 none 0 0) := X3.out.kept hb4 rfl
  have S4 : Hid (Since w w4) := since_call S3.out hb4
  clear hb4 X1 X3 S3 z3
  obtain ⟨ca0, ca1⟩ := Y1.out.cells
  go_wp2_with fail
  refine (add_any b b sa sa n ka ka f f 0 w4 hbb hbc (by omega) (by omega) HF.out HF.out hn0 hn (row_since HA.out S4.out) (row_since HA.out S4.out)).mono ?_
  clear ca0 ca1
  rintro e w5 ⟨s5, c5, rfl, hb5, ho5⟩
  unfold vecV
  obtain ⟨cc0, cc1, cc2, cc3⟩ := (Y3.out.kept hb5 rfl).four
  have HO : Hid (OwnS w5 w4.heap.size s5 n (cutF b n (sumF 0 f f))) := ho5
  have S5 : Hid (Since w w5) := since_call S4.out hb5
  clear hb5 ho5 Y1 Y3
  go_wp2
  refine bodyPost_ret (v := vecV b s5 n c5) (by simp [results, Tryz.results20, go_sem, vecV, cc0, cc1]) rfl ?_
  refine ⟨_, _, rfl, (since_set (since_set S5.out (by show w.heap.size ≤ w.heap.size + 1; omega)) (by show w.heap.size ≤ w.heap.size + 1; omega)).below, ?_⟩
  rcases HO.out with h | ⟨g5, h1, h2, h3⟩
  · exact Or.inl h
  · exact Or.inr ⟨g5, h1, by omega, (h3.setOther _ _ (by show w.heap.size + 1 ≠ g5; omega)).setOther _ _ (by show w.heap.size + 1 ≠ g5; omega)⟩

open Classical in
set_option maxHeartbeats 2000000 in
theorem specVecUp_no (b : Int) (sa : Option Addr) (n ka : Nat) (f : Nat → Int) (w : World) (hn : n ≤ 1048576) (ha : Row w w.heap.size sa n f) (hno : ¬ Right b n f) :
    Calls Tryz.prog 20 #[.agg #[.int .i64 b, .slice sa n ka]] w fun e w' => NewVec w 0 0 (fun _ => 0) e w' := by
  have HA : Hid (Row w w.heap.size sa n f) := ha
  have C1 := fun W h => specRight_any b sa n ka f W hn h
  have e1 : decide (Right b n f) = false := decide_eq_false hno
  rw [e1] at C1
  have HC1 : Hid (∀ W, Row W W.heap.size sa n f → Calls Tryz.prog 55 #[.agg #[.int .i64 b, .slice sa n ka]] W fun e w' => e = .returned (.bool false) ∧ Below W.heap.size W w') := C1
  clear C1 e1 ha hno
  go_enter Tryz.func20, Tryz.ntmps20
  go_wp2_with fail
  have q1 := boxing w 26 b sa n ka
  generalize w.alloc (.cells #[.int .i64 b, .slice sa n ka] 26) = v1 at *
  have q3 := boxing v1 26 0 none 0 0
  generalize v1.alloc (.cells #[.int .i64 0, .slice none 0 0] 26) = v3 at *
  have X3 : Hid (Boxed v3 (w.heap.size + 1) 26 0 none 0 0) := by rw [← q1.2.2]; exact q3.2.1
  have S3 : Hid (Since w v3) := since_call (since_call (since_refl _) q1.1) q3.1
  clear q1 q3
  refine (HC1.out _ (row_since HA.out S3.out)).mono ?_
  rintro e w4 ⟨rfl, hb4⟩
  obtain ⟨cc0, cc1, cc2, cc3⟩ := (X3.out.kept hb4 rfl).four
  have S4 : Hid (Since w w4) := since_call S3.out hb4
  clear hb4 X3 S3
  go_wp2
  refine bodyPost_ret (v := vecV 0 none 0 0) (by simp [results, Tryz.results20, go_sem, vecV, cc0, cc1]) rfl ?_
  exact ⟨_, _, rfl, (since_set (since_set S4.out (by show w.heap.size ≤ w.heap.size + 1; omega)) (by show w.heap.size ≤ w.heap.size + 1; omega)).below, Or.inl rfl⟩
end Go.Proofs.YtlgnplnmcdjbiaaGreat
namespace Go.Proofs.YtlgnplnmcdjbiaaGreat
open Go.RowKit

open Classical in
set_option maxHeartbeats 2000000 in
theorem two_any (b c : Int) (sa sb : Option Addr) (n m ka kb : Nat) (f g : Nat → Int) (w : World) (hn : n ≤ 1048576) (hm : m ≤ 1048576) (ha : Row w w.heap.size sa n f) (hb : Row w w.heap.size sb m g) :
    Calls Tryz.prog 52 #[.agg #[.int .i64 b, .slice sa n ka], .agg #[.int .i64 c, .slice sb m kb]] w fun e w' => e = .returned (.bool (decide (Right b n f ∧ Right c m g ∧ b = c))) ∧ Below w.heap.size w w' := by
  have HA : Hid (Row w w.heap.size sa n f) := ha
  have HB : Hid (Row w w.heap.size sb m g) := hb
  clear ha hb
  have C1 := fun W h => specRight_any b sa n ka f W hn h
  have C2 := fun W h => specRight_any c sb m kb g W hm h
  have HC1 : Hid (∀ W, Row W W.heap.size sa n f → Calls Tryz.prog 55 #[.agg #[.int .i64 b, .slice sa n ka]] W fun e w' => e = .returned (.bool (decide (Right b n f))) ∧ Below W.heap.size W w') := C1
  have HC2 : Hid (∀ W, Row W W.heap.size sb m g → Calls Tryz.prog 55 #[.agg #[.int .i64 c, .slice sb m kb]] W fun e w' => e = .returned (.bool (decide (Right c m g))) ∧ Below W.heap.size W w') := C2
  clear C1 C2
  by_cases h1 : Right b n f
  · by_cases h2 : Right c m g
    · have e0 : decide (Right b n f ∧ Right c m g ∧ b = c) = decide (b = c) := by simp [h1, h2]
      rw [e0]
      have e1 : decide (Right b n f) = true := decide_eq_true h1
      have e2 : decide (Right c m g) = true := decide_eq_true h2
      rw [e1] at HC1
      rw [e2] at HC2
      clear h1 h2 e0 e1 e2
      go_enter Tryz.func52, Tryz.ntmps52
      go_wp2_with fail
      have q1 := boxing w 26 b sa n ka
      generalize w.alloc (.cells #[.int .i64 b, .slice sa n ka] 26) = v1 at *
      have q2 := boxing v1 26 c sb m kb
      generalize v1.alloc (.cells #[.int .i64 c, .slice sb m kb] 26) = v2 at *
      have X1 : Hid (Boxed v2 w.heap.size 26 b sa n ka) := q1.2.1.kept q2.1 rfl
      have X2 : Hid (Boxed v2 (w.heap.size + 1) 26 c sb m kb) := by rw [← q1.2.2]; exact q2.2.1
      have S2 : Hid (Since w v2) := since_call (since_call (since_refl _) q1.1) q2.1
      clear q1 q2
      refine (HC1.out _ (row_since HA.out S2.out)).mono ?_
      rintro e w3 ⟨rfl, hb3⟩
      have S3 : Hid (Since w w3) := since_call S2.out hb3
      have Y1 : Hid (Boxed w3 w.heap.size 26 b sa n ka) := X1.out.kept hb3 rfl
      have Y2 : Hid (Boxed w3 (w.heap.size + 1) 26 c sb m kb) := X2.out.kept hb3 rfl
      clear hb3 X1 X2 S2
      obtain ⟨ca0, ca1⟩ := Y1.out.cells
      obtain ⟨cb0, cb1⟩ := Y2.out.cells
      go_wp2_with fail
      refine (HC2.out _ (row_since HB.out S3.out)).mono ?_
      clear ca0 ca1 cb0 cb1
      rintro e w4 ⟨rfl, hb4⟩
      have S4 : Hid (Since w w4) := since_call S3.out hb4
      obtain ⟨ca0, ca1⟩ := (Y1.out.kept hb4 rfl).cells
      obtain ⟨cb0, cb1⟩ := (Y2.out.kept hb4 rfl).cells
      clear hb4
      go_wp2
      go_ret
      exact ⟨ret_bool (by simp), S4.out.below⟩
    · have e0 : decide (Right b n f ∧ Right c m g ∧ b = c) = false := by simp [h2]
      rw [e0]
      have e1 : decide (Right b n f) = true := decide_eq_true h1
      have e2 : decide (Right c m g) = false := decide_eq_false h2
      rw [e1] at HC1
      rw [e2] at HC2
      clear h1 h2 e0 e1 e2
      go_enter Tryz.func52, Tryz.ntmps52
      go_wp2_with fail
      have q1 := boxing w 26 b sa n ka
      generalize w.alloc (.cells #[.int .i64 b, .slice sa n ka] 26) = v1 at *
      have q2 := boxing v1 26 c sb m kb
      generalize v1.alloc (.cells #[.int .i64 c, .slice sb m kb] 26) = v2 at *
      have X1 : Hid (Boxed v2 w.heap.size 26 b sa n ka) := q1.2.1.kept q2.1 rfl
      have X2 : Hid (Boxed v2 (w.heap.size + 1) 26 c sb m kb) := by rw [← q1.2.2]; exact q2.2.1
      have S2 : Hid (Since w v2) := since_call (since_call (since_refl _) q1.1) q2.1
      clear q1 q2
      refine (HC1.out _ (row_since HA.out S2.out)).mono ?_
      rintro e w3 ⟨rfl, hb3⟩
      have S3 : Hid (Since w w3) := since_call S2.out hb3
      obtain ⟨ca0, ca1⟩ := (X1.out.kept hb3 rfl).cells
      obtain ⟨cb0, cb1⟩ := (X2.out.kept hb3 rfl).cells
      clear hb3 X1 X2 S2
      go_wp2_with fail
      refine (HC2.out _ (row_since HB.out S3.out)).mono ?_
      clear ca0 ca1 cb0 cb1
      rintro e w4 ⟨rfl, hb4⟩
      have S4 : Hid (Since w w4) := since_call S3.out hb4
      clear hb4
      go_wp2
      go_ret
      exact ⟨rfl, S4.out.below⟩
  · have e0 : decide (Right b n f ∧ Right c m g ∧ b = c) = false := by simp [h1]
    rw [e0]
    have e1 : decide (Right b n f) = false := decide_eq_false h1
    rw [e1] at HC1
    clear h1 e0 e1 HC2
    go_enter Tryz.func52, Tryz.ntmps52
    go_wp2_with fail
    have q1 := boxing w 26 b sa n ka
    generalize w.alloc (.cells #[.int .i64 b, .slice sa n ka] 26) = v1 at *
    have q2 := boxing v1 26 c sb m kb
    generalize v1.alloc (.cells #[.int .i64 c, .slice sb m kb] 26) = v2 at *
    have S2 : Hid (Since w v2) := since_call (since_call (since_refl _) q1.1) q2.1
    clear q1 q2
    refine (HC1.out _ (row_since HA.out S2.out)).mono ?_
    rintro e w3 ⟨rfl, hb3⟩
    have S3 : Hid (Since w w3) := since_call S2.out hb3
    clear hb3 S2
    go_wp2
    go_ret
    exact ⟨rfl, S3.out.below⟩

theorem words_same {b c : Int} {n m : Nat} {f g : Nat → Int} (h1 : Right b n f) (h2 : Right c m g) (h : b = c) : n = m ∧ 0 < n := by
  have e1 := h1.2.2.1
  have e2 := h2.2.2.1
  have := h1.1
  omega
end Go.Proofs.YtlgnplnmcdjbiaaGreat
namespace Go.Proofs.YtlgnplnmcdjbiaaGreat
open Go.RowKit

open Classical in
set_option maxHeartbeats 2000000 in
theorem specVecAnd_yes (b : Int) (sa sb : Option Addr) (n ka kb : Nat) (f g : Nat → Int) (w : World) (hn : n ≤ 1048576) (ha : Row w w.heap.size sa n f) (hb : Row w w.heap.size sb n g) (h1 : Right b n f) (h2 : Right b n g) :
    Calls Tryz.prog 19 #[.agg #[.int .i64 b, .slice sa n ka], .agg #[.int .i64 b, .slice sb n kb]] w fun e w' => NewVec w b n (fun i => bits .and .i64 (f i) (g i)) e w' := by
  have HA : Hid (Row w w.heap.size sa n f) := ha
  have HB : Hid (Row w w.heap.size sb n g) := hb
  have hn0 := (words_same h1 h2 rfl).2
  have C1 := fun W h h' => two_any b b sa sb n n ka kb f g W hn hn h h'
  have e1 : decide (Right b n f ∧ Right b n g ∧ b = b) = true := decide_eq_true ⟨h1, h2, rfl⟩
  rw [e1] at C1
  have HC1 : Hid (∀ W, Row W W.heap.size sa n f → Row W W.heap.size sb n g → Calls Tryz.prog 52 #[.agg #[.int .i64 b, .slice sa n ka], .agg #[.int .i64 b, .slice sb n kb]] W fun e w' => e = .returned (.bool true) ∧ Below W.heap.size W w') := C1
  clear C1 e1 ha hb h1 h2
  go_enter Tryz.func19, Tryz.ntmps19
  go_wp2_with fail
  have q1 := boxing w 26 b sa n ka
  generalize w.alloc (.cells #[.int .i64 b, .slice sa n ka] 26) = v1 at *
  have q2 := boxing v1 26 b sb n kb
  generalize v1.alloc (.cells #[.int .i64 b, .slice sb n kb] 26) = v2 at *
  have q3 := boxing v2 26 0 none 0 0
  generalize v2.alloc (.cells #[.int .i64 0, .slice none 0 0] 26) = v3 at *
  have X1 : Hid (Boxed v3 w.heap.size 26 b sa n ka) := (q1.2.1.kept q2.1 rfl).kept q3.1 rfl
  have X2 : Hid (Boxed v3 (w.heap.size + 1) 26 b sb n kb) := by rw [← q1.2.2]; exact q2.2.1.kept q3.1 rfl
  have X3 : Hid (Boxed v3 (w.heap.size + 2) 26 0 none 0 0) := by rw [show w.heap.size + 2 = v2.heap.size by rw [q2.2.2, q1.2.2]]; exact q3.2.1
  have S3 : Hid (Since w v3) := since_call (since_call (since_call (since_refl _) q1.1) q2.1) q3.1
  have z3 : v3.heap.size = w.heap.size + 3 := by rw [q3.2.2, q2.2.2, q1.2.2]
  clear q1 q2 q3
  refine (HC1.out _ (row_since HA.out S3.out) (row_since HB.out S3.out)).mono ?_
  rintro e w4 ⟨rfl, hb4⟩
  have z4 : w.heap.size + 3 ≤ w4.heap.size := by have := hb4.size; omega
  have Y1 : Hid (Boxed w4 w.heap.size 26 b sa n ka) := X1.out.kept hb4 rfl
  have Y2 : Hid (Boxed w4 (w.heap.size + 1) 26 b sb n kb) := X2.out.kept hb4 rfl
  have Y3 : Hid (Boxed w4 (w.heap.size + 2) 26 0 none 0 0) := X3.out.kept hb4 rfl
  have S4 : Hid (Since w w4) := since_call S3.out hb4
  clear hb4 X1 X2 X3 S3 z3
  obtain ⟨ca0, ca1⟩ := Y1.out.cells
  obtain ⟨cb0, cb1⟩ := Y2.out.cells
  go_wp2_with fail
  refine (l02And_any b b sa sb n ka kb f g w4 hn0 hn (row_since HA.out S4.out) (row_since HB.out S4.out)).mono ?_
  clear ca0 ca1 cb0 cb1
  rintro e w5 ⟨s5, c5, rfl, hb5, ho5⟩
  unfold vecV
  obtain ⟨cc0, cc1, cc2, cc3⟩ := (Y3.out.kept hb5 rfl).four
  have HO : Hid (OwnS w5 w4.heap.size s5 n (fun i => bits .and .i64 (f i) (g i))) := ho5
  have S5 : Hid (Since w w5) := since_call S4.out hb5
  clear hb5 ho5 Y1 Y2 Y3
  go_wp2
  refine bodyPost_ret (v := vecV b s5 n c5) (by simp [results, Tryz.results19, go_sem, vecV, cc0, cc1]) rfl ?_
  refine ⟨_, _, rfl, (since_set (since_set S5.out (by show w.heap.size ≤ w.heap.size + 2; omega)) (by show w.heap.size ≤ w.heap.size + 2; omega)).below, ?_⟩
  rcases HO.out with h | ⟨g5, h1, h2, h3⟩
  · exact Or.inl h
  · exact Or.inr ⟨g5, h1, by omega, (h3.setOther _ _ (by show w.heap.size + 2 ≠ g5; omega)).setOther _ _ (by show w.heap.size + 2 ≠ g5; omega)⟩

open Classical in
set_option maxHeartbeats 2000000 in
theorem specVecAnd_no (b c : Int) (sa sb : Option Addr) (n m ka kb : Nat) (f g : Nat → Int) (w : World) (hn : n ≤ 1048576) (hm : m ≤ 1048576) (ha : Row w w.heap.size sa n f) (hb : Row w w.heap.size sb m g) (hno : ¬ (Right b n f ∧ Right c m g ∧ b = c)) :
    Calls Tryz.prog 19 #[.agg #[.int .i64 b, .slice sa n ka], .agg #[.int .i64 c, .slice sb m kb]] w fun e w' => NewVec w 0 0 (fun _ => 0) e w' := by
  have HA : Hid (Row w w.heap.size sa n f) := ha
  have HB : Hid (Row w w.heap.size sb m g) := hb
  have C1 := fun W h h' => two_any b c sa sb n m ka kb f g W hn hm h h'
  have e1 : decide (Right b n f ∧ Right c m g ∧ b = c) = false := decide_eq_false hno
  rw [e1] at C1
  have HC1 : Hid (∀ W, Row W W.heap.size sa n f → Row W W.heap.size sb m g → Calls Tryz.prog 52 #[.agg #[.int .i64 b, .slice sa n ka], .agg #[.int .i64 c, .slice sb m kb]] W fun e w' => e = .returned (.bool false) ∧ Below W.heap.size W w') := C1
  clear C1 e1 ha hb hno
  go_enter Tryz.func19, Tryz.ntmps19
  go_wp2_with fail
  have q1 := boxing w 26 b sa n ka
  generalize w.alloc (.cells #[.int .i64 b, .slice sa n ka] 26) = v1 at *
  have q2 := boxing v1 26 c sb m kb
  generalize v1.alloc (.cells #[.int .i64 c, .slice sb m kb] 26) = v2 at *
  have q3 := boxing v2 26 0 none 0 0
  generalize v2.alloc (.cells #[.int .i64 0, .slice none 0 0] 26) = v3 at *
  have X3 : Hid (Boxed v3 (w.heap.size + 2) 26 0 none 0 0) := by rw [show w.heap.size + 2 = v2.heap.size by rw [q2.2.2, q1.2.2]]; exact q3.2.1
  have S3 : Hid (Since w v3) := since_call (since_call (since_call (since_refl _) q1.1) q2.1) q3.1
  clear q1 q2 q3
  refine (HC1.out _ (row_since HA.out S3.out) (row_since HB.out S3.out)).mono ?_
  rintro e w4 ⟨rfl, hb4⟩
  obtain ⟨cc0, cc1, cc2, cc3⟩ := (X3.out.kept hb4 rfl).four
  have S4 : Hid (Since w w4) := since_call S3.out hb4
  clear hb4 X3 S3
  go_wp2
  refine bodyPost_ret (v := vecV 0 none 0 0) (by simp [results, Tryz.results19, go_sem, vecV, cc0, cc1]) rfl ?_
  exact ⟨_, _, rfl, (since_set (since_set S4.out (by show w.heap.size ≤ w.heap.size + 2; omega)) (by show w.heap.size ≤ w.heap.size + 2; omega)).below, Or.inl rfl⟩
end Go.Proofs.YtlgnplnmcdjbiaaGreat
