/- What is proved here: the program's wordByWord hands nothing back of two vectors that are not both right and of as many bits; nothing that was there turns.
   What is proved here: the program's VecOr hands back the specification's words, in new memory, or nothing; nothing that was there turns. -/
import Derived.Test.YtlgnplnmcdjbiaaGreatQImplRightWToCellS
import Derived.Test.YtlgnplnmcdjbiaaGreatQAsManyWToImplOrW
namespace Go.Proofs.YtlgnplnmcdjbiaaGreat
open Go.RowKit

open Classical in
set_option maxHeartbeats 2000000 in
theorem word_no (b d : Int) (sa sb : Option Addr) (n m ka kb : Nat) (pv : Value) (f g : Nat → Int) (w : World) (hn : n ≤ 1048576) (hm : m ≤ 1048576) (ha : Row w w.heap.size sa n f) (hb : Row w w.heap.size sb m g) (hno : ¬ (Right b n f ∧ Right d m g ∧ b = d)) :
    Calls Tryz.prog 88 #[.agg #[.int .i64 b, .slice sa n ka], .agg #[.int .i64 d, .slice sb m kb], pv] w fun e w' => NewVec w 0 0 (fun _ => 0) e w' := by
  have HA : Hid (Row w w.heap.size sa n f) := ha
  have HB : Hid (Row w w.heap.size sb m g) := hb
  have C1 := fun W h => implRight_any b sa n ka f W hn h
  have C2 := fun W h => implRight_any d sb m kb g W hm h
  obtain ⟨t, ht⟩ : ∃ t, decide (Right b n f) = t := ⟨_, rfl⟩
  obtain ⟨u, hu⟩ : ∃ u, decide (Right d m g) = u := ⟨_, rfl⟩
  rw [ht] at C1
  rw [hu] at C2
  have R1 : Hid (∀ W, Row W W.heap.size sa n f → Calls Tryz.prog 58 #[.agg #[.int .i64 b, .slice sa n ka]] W fun e w' => e = .returned (.bool t) ∧ Below W.heap.size W w') := C1
  have R2 : Hid (∀ W, Row W W.heap.size sb m g → Calls Tryz.prog 58 #[.agg #[.int .i64 d, .slice sb m kb]] W fun e w' => e = .returned (.bool u) ∧ Below W.heap.size W w') := C2
  have hc : t = false ∨ t = true ∧ u = false ∨ t = true ∧ u = true ∧ b ≠ d := by
    cases t
    · exact Or.inl rfl
    · cases u
      · exact Or.inr (Or.inl ⟨rfl, rfl⟩)
      · exact Or.inr (Or.inr ⟨rfl, rfl, fun e => hno ⟨of_decide_eq_true ht, of_decide_eq_true hu, e⟩⟩)
  clear C1 C2 ht hu hno ha hb
  have X3 : ∀ W : World, Hid (Boxed ((( W.alloc (.cells #[.int .i64 b, .slice sa n ka] 26)).alloc (.cells #[.int .i64 d, .slice sb m kb] 26)).alloc (.cells #[.int .i64 0, .slice none 0 0] 26)) (W.heap.size + 2) 26 0 none 0 0) := by
    intro W
    have q1 := boxing W 26 b sa n ka
    have q2 := boxing (W.alloc (.cells #[.int .i64 b, .slice sa n ka] 26)) 26 d sb m kb
    have q3 := boxing ((W.alloc (.cells #[.int .i64 b, .slice sa n ka] 26)).alloc (.cells #[.int .i64 d, .slice sb m kb] 26)) 26 0 none 0 0
    have e := q3.2.1
    rw [q2.2.2, q1.2.2] at e
    exact e
  rcases hc with rfl | ⟨rfl, rfl⟩ | ⟨rfl, rfl, hne⟩
  · go_enter Tryz.func88, Tryz.ntmps88
    go_wp2_with fail
    have S3 : Hid (Since w (((w.alloc (.cells #[.int .i64 b, .slice sa n ka] 26)).alloc (.cells #[.int .i64 d, .slice sb m kb] 26)).alloc (.cells #[.int .i64 0, .slice none 0 0] 26))) := since_alloc (since_alloc (since_alloc (since_refl _)))
    have Z3 := X3 w
    generalize ((w.alloc (.cells #[.int .i64 b, .slice sa n ka] 26)).alloc (.cells #[.int .i64 d, .slice sb m kb] 26)).alloc (.cells #[.int .i64 0, .slice none 0 0] 26) = v3 at *
    refine (R1.out _ (row_since HA.out S3.out)).mono ?_
    rintro e w4 ⟨rfl, hb4⟩
    obtain ⟨cc0, cc1, cc2, cc3⟩ := (Z3.out.kept hb4 rfl).four
    have S4 : Hid (Since w w4) := since_call S3.out hb4
    clear hb4 Z3 S3
    go_wp2
    refine bodyPost_ret (v := vecV 0 none 0 0) (by simp [results, Tryz.results88, go_sem, vecV, cc0, cc1]) rfl ?_
    exact ⟨_, _, rfl, (since_set (since_set S4.out (by show w.heap.size ≤ w.heap.size + 2; omega)) (by show w.heap.size ≤ w.heap.size + 2; omega)).below, Or.inl rfl⟩
  · go_enter Tryz.func88, Tryz.ntmps88
    go_wp2_with fail
    have q1 := boxing w 26 b sa n ka
    generalize w.alloc (.cells #[.int .i64 b, .slice sa n ka] 26) = v1 at *
    have q2 := boxing v1 26 d sb m kb
    generalize v1.alloc (.cells #[.int .i64 d, .slice sb m kb] 26) = v2 at *
    have q3 := boxing v2 26 0 none 0 0
    generalize v2.alloc (.cells #[.int .i64 0, .slice none 0 0] 26) = v3 at *
    have Z2 : Hid (Boxed v3 (w.heap.size + 1) 26 d sb m kb) := by rw [← q1.2.2]; exact q2.2.1.kept q3.1 rfl
    have Z3 : Hid (Boxed v3 (w.heap.size + 2) 26 0 none 0 0) := by rw [show w.heap.size + 2 = v2.heap.size by rw [q2.2.2, q1.2.2]]; exact q3.2.1
    have S3 : Hid (Since w v3) := since_call (since_call (since_call (since_refl _) q1.1) q2.1) q3.1
    clear q1 q2 q3 X3
    refine (R1.out _ (row_since HA.out S3.out)).mono ?_
    rintro e w4 ⟨rfl, hb4⟩
    have Y2 : Hid (Boxed w4 (w.heap.size + 1) 26 d sb m kb) := Z2.out.kept hb4 rfl
    have Y3 : Hid (Boxed w4 (w.heap.size + 2) 26 0 none 0 0) := Z3.out.kept hb4 rfl
    have S4 : Hid (Since w w4) := since_call S3.out hb4
    clear hb4 Z2 Z3 S3
    obtain ⟨cb0, cb1⟩ := Y2.out.cells
    go_wp2_with fail
    refine (R2.out _ (row_since HB.out S4.out)).mono ?_
    clear cb0 cb1
    rintro e w5 ⟨rfl, hb5⟩
    obtain ⟨cc0, cc1, cc2, cc3⟩ := (Y3.out.kept hb5 rfl).four
    have S5 : Hid (Since w w5) := since_call S4.out hb5
    clear hb5 Y2 Y3 S4
    go_wp2
    refine bodyPost_ret (v := vecV 0 none 0 0) (by simp [results, Tryz.results88, go_sem, vecV, cc0, cc1]) rfl ?_
    exact ⟨_, _, rfl, (since_set (since_set S5.out (by show w.heap.size ≤ w.heap.size + 2; omega)) (by show w.heap.size ≤ w.heap.size + 2; omega)).below, Or.inl rfl⟩
  · have e3 : (b != d) = true := by simp [hne]
    clear hne
    go_enter Tryz.func88, Tryz.ntmps88
    go_wp2_with fail
    have q1 := boxing w 26 b sa n ka
    generalize w.alloc (.cells #[.int .i64 b, .slice sa n ka] 26) = v1 at *
    have q2 := boxing v1 26 d sb m kb
    generalize v1.alloc (.cells #[.int .i64 d, .slice sb m kb] 26) = v2 at *
    have q3 := boxing v2 26 0 none 0 0
    generalize v2.alloc (.cells #[.int .i64 0, .slice none 0 0] 26) = v3 at *
    have Z1 : Hid (Boxed v3 w.heap.size 26 b sa n ka) := (q1.2.1.kept q2.1 rfl).kept q3.1 rfl
    have Z2 : Hid (Boxed v3 (w.heap.size + 1) 26 d sb m kb) := by rw [← q1.2.2]; exact q2.2.1.kept q3.1 rfl
    have Z3 : Hid (Boxed v3 (w.heap.size + 2) 26 0 none 0 0) := by rw [show w.heap.size + 2 = v2.heap.size by rw [q2.2.2, q1.2.2]]; exact q3.2.1
    have S3 : Hid (Since w v3) := since_call (since_call (since_call (since_refl _) q1.1) q2.1) q3.1
    clear q1 q2 q3 X3
    refine (R1.out _ (row_since HA.out S3.out)).mono ?_
    rintro e w4 ⟨rfl, hb4⟩
    have Y1 : Hid (Boxed w4 w.heap.size 26 b sa n ka) := Z1.out.kept hb4 rfl
    have Y2 : Hid (Boxed w4 (w.heap.size + 1) 26 d sb m kb) := Z2.out.kept hb4 rfl
    have Y3 : Hid (Boxed w4 (w.heap.size + 2) 26 0 none 0 0) := Z3.out.kept hb4 rfl
    have S4 : Hid (Since w w4) := since_call S3.out hb4
    clear hb4 Z1 Z2 Z3 S3
    obtain ⟨cb0, cb1⟩ := Y2.out.cells
    go_wp2_with fail
    refine (R2.out _ (row_since HB.out S4.out)).mono ?_
    clear cb0 cb1
    rintro e w5 ⟨rfl, hb5⟩
    obtain ⟨ca0, ca1⟩ := (Y1.out.kept hb5 rfl).cells
    obtain ⟨cb0, cb1⟩ := (Y2.out.kept hb5 rfl).cells
    obtain ⟨cc0, cc1, cc2, cc3⟩ := (Y3.out.kept hb5 rfl).four
    have S5 : Hid (Since w w5) := since_call S4.out hb5
    clear hb5 Y1 Y2 Y3 S4
    go_wp2
    refine bodyPost_ret (v := vecV 0 none 0 0) (by simp [results, Tryz.results88, go_sem, vecV, cc0, cc1]) rfl ?_
    exact ⟨_, _, rfl, (since_set (since_set S5.out (by show w.heap.size ≤ w.heap.size + 2; omega)) (by show w.heap.size ≤ w.heap.size + 2; omega)).below, Or.inl rfl⟩
end Go.Proofs.YtlgnplnmcdjbiaaGreat
namespace Go.Proofs.YtlgnplnmcdjbiaaGreat
open Go.RowKit

theorem wordsOr {b : Int} {n : Nat} {f g : Nat → Int} (h1 : Right b n f) (h2 : Right b n g) : ∀ i, i < n → cutF b n (fun i => bits .or .u32 (f i) (g i)) i = (fun i => bits .or .i64 (f i) (g i)) i := by
  have hn : 0 < n := by have := h1.2.2.1; have := h1.1; omega
  refine cut_same ?_ (fun i hi => or_same (h1.word hi) (h2.word hi))
  by_cases ho : b % 32 = 0
  · exact Or.inl ho
  · exact Or.inr (or_word (by omega) (h1.last ho) (h2.last ho))

set_option maxHeartbeats 2000000 in
theorem implVecOr_yes (b : Int) (sa sb : Option Addr) (n ka kb : Nat) (f g : Nat → Int) (w : World) (hn : n ≤ 1048576) (ha : Row w w.heap.size sa n f) (hb : Row w w.heap.size sb n g) (h1 : Right b n f) (h2 : Right b n g) :
    Calls Tryz.prog 60 #[.agg #[.int .i64 b, .slice sa n ka], .agg #[.int .i64 b, .slice sb n kb]] w fun e w' => NewVec w b n (fun i => bits .or .i64 (f i) (g i)) e w' := by
  have HSAME : Hid (∀ i, i < n → cutF b n (fun i => bits .or .u32 (f i) (g i)) i = (fun i => bits .or .i64 (f i) (g i)) i) := wordsOr h1 h2
  have HA : Hid (Row w w.heap.size sa n f) := ha
  have HF : Hid (∀ i, i < n → 0 ≤ f i ∧ f i ≤ 4294967295) := h1.2.2.2.1
  have H1 : Hid (Right b n f) := h1
  have HB : Hid (Row w w.heap.size sb n g) := hb
  have HG : Hid (∀ i, i < n → 0 ≤ g i ∧ g i ≤ 4294967295) := h2.2.2.2.1
  have H2 : Hid (Right b n g) := h2
  clear hb h2
  clear ha h1
  go_enter Tryz.func60, Tryz.ntmps60
  go_wp2_with fail
  have q1 := boxing w 26 b sa n ka
  generalize w.alloc (.cells #[.int .i64 b, .slice sa n ka] 26) = v1 at *
  have q2 := boxing v1 26 b sb n kb
  generalize v1.alloc (.cells #[.int .i64 b, .slice sb n kb] 26) = v2 at *
  have q3 := boxing v2 26 0 none 0 0
  generalize v2.alloc (.cells #[.int .i64 0, .slice none 0 0] 26) = v3 at *
  have X3 : Hid (Boxed v3 (w.heap.size + 2) 26 0 none 0 0) := by rw [show w.heap.size + 2 = v2.heap.size by rw [q2.2.2, q1.2.2]]; exact q3.2.1
  have S3 : Hid (Since w v3) := since_call (since_call (since_call (since_refl _) q1.1) q2.1) q3.1
  have z3 : v3.heap.size = w.heap.size + 3 := by rw [q3.2.2, q2.2.2, q1.2.2]
  clear q1 q2 q3
  refine (wordOr_yes b sa sb n ka kb v3.heap.size f g (fun i => bits .or .u32 (f i) (g i)) v3 hn (row_since HA.out S3.out) (row_since HB.out S3.out) H1.out H2.out (Nat.le_refl _) (fun j _ => ⟨bits_lo_u32 _ _ _, bits_hi_u32 _ _ _⟩) (fun _ _ => rfl)).mono ?_
  rintro e w4 ⟨s4, c4, rfl, hb4, ho4⟩
  unfold vecV
  obtain ⟨cc0, cc1, cc2, cc3⟩ := (X3.out.kept hb4 rfl).four
  have HO : Hid (OwnS w4 v3.heap.size s4 n (fun i => bits .or .i64 (f i) (g i))) := ho4.congr HSAME.out
  have S4 : Hid (Since w w4) := since_call S3.out hb4
  clear hb4 ho4 X3 S3
  go_wp2
  refine bodyPost_ret (v := vecV b s4 n c4) (by simp [results, Tryz.results60, go_sem, vecV, cc0, cc1]) rfl ?_
  refine ⟨_, _, rfl, (since_set (since_set S4.out (by show w.heap.size ≤ w.heap.size + 2; omega)) (by show w.heap.size ≤ w.heap.size + 2; omega)).below, ?_⟩
  rcases HO.out with h | ⟨g5, h1, h2, h3⟩
  · exact Or.inl h
  · exact Or.inr ⟨g5, h1, by omega, (h3.setOther _ _ (by show w.heap.size + 2 ≠ g5; omega)).setOther _ _ (by show w.heap.size + 2 ≠ g5; omega)⟩

set_option maxHeartbeats 2000000 in
theorem implVecOr_no (b d : Int) (sa sb : Option Addr) (n m ka kb : Nat) (f g : Nat → Int) (w : World) (hn : n ≤ 1048576) (hm : m ≤ 1048576) (ha : Row w w.heap.size sa n f) (hb : Row w w.heap.size sb m g) (hno : ¬ (Right b n f ∧ Right d m g ∧ b = d)) :
    Calls Tryz.prog 60 #[.agg #[.int .i64 b, .slice sa n ka], .agg #[.int .i64 d, .slice sb m kb]] w fun e w' => NewVec w 0 0 (fun _ => 0) e w' := by
  have HA : Hid (Row w w.heap.size sa n f) := ha
  have HB : Hid (Row w w.heap.size sb m g) := hb
  have HN : Hid (¬ (Right b n f ∧ Right d m g ∧ b = d)) := hno
  clear ha hb hno
  go_enter Tryz.func60, Tryz.ntmps60
  go_wp2_with fail
  have q1 := boxing w 26 b sa n ka
  generalize w.alloc (.cells #[.int .i64 b, .slice sa n ka] 26) = v1 at *
  have q2 := boxing v1 26 d sb m kb
  generalize v1.alloc (.cells #[.int .i64 d, .slice sb m kb] 26) = v2 at *
  have q3 := boxing v2 26 0 none 0 0
  generalize v2.alloc (.cells #[.int .i64 0, .slice none 0 0] 26) = v3 at *
  have X3 : Hid (Boxed v3 (w.heap.size + 2) 26 0 none 0 0) := by rw [show w.heap.size + 2 = v2.heap.size by rw [q2.2.2, q1.2.2]]; exact q3.2.1
  have S3 : Hid (Since w v3) := since_call (since_call (since_call (since_refl _) q1.1) q2.1) q3.1
  clear q1 q2 q3
  refine (word_no b d sa sb n m ka kb _ f g v3 hn hm (row_since HA.out S3.out) (row_since HB.out S3.out) HN.out).mono ?_
  rintro e w5 ⟨s5, c5, rfl, hb5, ho5⟩
  unfold vecV
  obtain ⟨cc0, cc1, cc2, cc3⟩ := (X3.out.kept hb5 rfl).four
  have S5 : Hid (Since w w5) := since_call S3.out hb5
  clear hb5 ho5 X3 S3
  go_wp2
  refine bodyPost_ret (v := vecV 0 s5 0 c5) (by simp [results, Tryz.results60, go_sem, vecV, cc0, cc1]) rfl ?_
  exact ⟨_, _, rfl, (since_set (since_set S5.out (by show w.heap.size ≤ w.heap.size + 2; omega)) (by show w.heap.size ≤ w.heap.size + 2; omega)).below, Or.inl rfl⟩
end Go.Proofs.YtlgnplnmcdjbiaaGreat
