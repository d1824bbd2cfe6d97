/- What is proved here: the specification's VecOr hands back the words put together, in new memory, or nothing; nothing that was there turns.
   What is said here: what ByteVec and LoopVec are asked; a new vector seen from an earlier world.
   What is proved here: the specification's ByteVec hands back a vector in new memory, or nothing; nothing that was there turns.
   What is proved here: the specification's LoopVec hands back a vector in new memory, or nothing; nothing that was there turns. -/
import Derived.Test.YtlgnplnmcdjbiaaGreatQMasksAtWToSpecAndW
import Derived.Test.YtlgnplnmcdjbiaaGreatQVecAndWToGetS
import Derived.Test.YtlgnplnmcdjbiaaGreatQCellMToWordM
import Derived.Test.YtlgnplnmcdjbiaaGreatQRowsDToVecS
import Derived.Test.YtlgnplnmcdjbiaaGreatQSpecKVecWToWordsForW
namespace Go.Proofs.YtlgnplnmcdjbiaaGreat
open Go.RowKit

open Classical in
set_option maxHeartbeats 2000000 in
theorem specVecOr_yes (b : Int) (sa sb : Option Addr) (n ka kb : Nat) (f g : Nat → Int) (w : World) (hn : n ≤ 1048576) (ha : Row w w.heap.size sa n f) (hb : Row w w.heap.size sb n g) (h1 : Right b n f) (h2 : Right b n g) :
    Calls Tryz.prog 18 #[.agg #[.int .i64 b, .slice sa n ka], .agg #[.int .i64 b, .slice sb n kb]] w fun e w' => NewVec w b n (fun i => bits .or .i64 (f i) (g i)) e w' := by
  have HA : Hid (Row w w.heap.size sa n f) := ha
  have HB : Hid (Row w w.heap.size sb n g) := hb
  have hn0 := (words_same h1 h2 rfl).2
  have C1 := fun W h h' => two_any b b sa sb n n ka kb f g W hn hn h h'
  have e1 : decide (Right b n f ∧ Right b n g ∧ b = b) = true := decide_eq_true ⟨h1, h2, rfl⟩
  rw [e1] at C1
  have HC1 : Hid (∀ W, Row W W.heap.size sa n f → Row W W.heap.size sb n g → Calls Tryz.prog 52 #[.agg #[.int .i64 b, .slice sa n ka], .agg #[.int .i64 b, .slice sb n kb]] W fun e w' => e = .returned (.bool true) ∧ Below W.heap.size W w') := C1
  clear C1 e1 ha hb h1 h2
  go_enter Tryz.func18, Tryz.ntmps18
  go_wp2_with fail
  have q1 := boxing w 26 b sa n ka
  generalize w.alloc (.cells #[.int .i64 b, .slice sa n ka] 26) = v1 at *
  have q2 := boxing v1 26 b sb n kb
  generalize v1.alloc (.cells #[.int .i64 b, .slice sb n kb] 26) = v2 at *
  have q3 := boxing v2 26 0 none 0 0
  generalize v2.alloc (.cells #[.int .i64 0, .slice none 0 0] 26) = v3 at *
  have X1 : Hid (Boxed v3 w.heap.size 26 b sa n ka) := (q1.2.1.kept q2.1 rfl).kept q3.1 rfl
  have X2 : Hid (Boxed v3 (w.heap.size + 1) 26 b sb n kb) := by rw [← q1.2.2]; exact q2.2.1.kept q3.1 rfl
  have X3 : Hid (Boxed v3 (w.heap.size + 2) 26 0 none 0 0) := by rw [show w.heap.size + 2 = v2.heap.size by rw [q2.2.2, q1.2.2]]; exact q3.2.1
  have S3 : Hid (Since w v3) := since_call (since_call (since_call (since_refl _) q1.1) q2.1) q3.1
  have z3 : v3.heap.size = w.heap.size + 3 := by rw [q3.2.2, q2.2.2, q1.2.2]
  clear q1 q2 q3
  refine (HC1.out _ (row_since HA.out S3.out) (row_since HB.out S3.out)).mono ?_
  rintro e w4 ⟨rfl, hb4⟩
  have z4 : w.heap.size + 3 ≤ w4.heap.size := by have := hb4.size; omega
  have Y1 : Hid (Boxed w4 w.heap.size 26 b sa n ka) := X1.out.kept hb4 rfl
  have Y2 : Hid (Boxed w4 (w.heap.size + 1) 26 b sb n kb) := X2.out.kept hb4 rfl
  have Y3 : Hid (Boxed w4 (w.heap.size + 2) 26 0 none 0 0) := X3.out.kept hb4 rfl
  have S4 : Hid (Since w w4) := since_call S3.out hb4
  clear hb4 X1 X2 X3 S3 z3
  obtain ⟨ca0, ca1⟩ := Y1.out.cells
  obtain ⟨cb0, cb1⟩ := Y2.out.cells
  go_wp2_with fail
  refine (l02Or_any b b sa sb n ka kb f g w4 hn0 hn (row_since HA.out S4.out) (row_since HB.out S4.out)).mono ?_
  clear ca0 ca1 cb0 cb1
  rintro e w5 ⟨s5, c5, rfl, hb5, ho5⟩
  unfold vecV
  obtain ⟨cc0, cc1, cc2, cc3⟩ := (Y3.out.kept hb5 rfl).four
  have HO : Hid (OwnS w5 w4.heap.size s5 n (fun i => bits .or .i64 (f i) (g i))) := ho5
  have S5 : Hid (Since w w5) := since_call S4.out hb5
  clear hb5 ho5 Y1 Y2 Y3
  go_wp2
  refine bodyPost_ret (v := vecV b s5 n c5) (by simp [results, Tryz.results18, go_sem, vecV, cc0, cc1]) rfl ?_
  refine ⟨_, _, rfl, (since_set (since_set S5.out (by show w.heap.size ≤ w.heap.size + 2; omega)) (by show w.heap.size ≤ w.heap.size + 2; omega)).below, ?_⟩
  rcases HO.out with h | ⟨g5, h1, h2, h3⟩
  · exact Or.inl h
  · exact Or.inr ⟨g5, h1, by omega, (h3.setOther _ _ (by show w.heap.size + 2 ≠ g5; omega)).setOther _ _ (by show w.heap.size + 2 ≠ g5; omega)⟩

open Classical in
set_option maxHeartbeats 2000000 in
theorem specVecOr_no (b c : Int) (sa sb : Option Addr) (n m ka kb : Nat) (f g : Nat → Int) (w : World) (hn : n ≤ 1048576) (hm : m ≤ 1048576) (ha : Row w w.heap.size sa n f) (hb : Row w w.heap.size sb m g) (hno : ¬ (Right b n f ∧ Right c m g ∧ b = c)) :
    Calls Tryz.prog 18 #[.agg #[.int .i64 b, .slice sa n ka], .agg #[.int .i64 c, .slice sb m kb]] w fun e w' => NewVec w 0 0 (fun _ => 0) e w' := by
  have HA : Hid (Row w w.heap.size sa n f) := ha
  have HB : Hid (Row w w.heap.size sb m g) := hb
  have C1 := fun W h h' => two_any b c sa sb n m ka kb f g W hn hm h h'
  have e1 : decide (Right b n f ∧ Right c m g ∧ b = c) = false := decide_eq_false hno
  rw [e1] at C1
  have HC1 : Hid (∀ W, Row W W.heap.size sa n f → Row W W.heap.size sb m g → Calls Tryz.prog 52 #[.agg #[.int .i64 b, .slice sa n ka], .agg #[.int .i64 c, .slice sb m kb]] W fun e w' => e = .returned (.bool false) ∧ Below W.heap.size W w') := C1
  clear C1 e1 ha hb hno
  go_enter Tryz.func18, Tryz.ntmps18
  go_wp2_with fail
  have q1 := boxing w 26 b sa n ka
  generalize w.alloc (.cells #[.int .i64 b, .slice sa n ka] 26) = v1 at *
  have q2 := boxing v1 26 c sb m kb
  generalize v1.alloc (.cells #[.int .i64 c, .slice sb m kb] 26) = v2 at *
  have q3 := boxing v2 26 0 none 0 0
  generalize v2.alloc (.cells #[.int .i64 0, .slice none 0 0] 26) = v3 at *
  have X3 : Hid (Boxed v3 (w.heap.size + 2) 26 0 none 0 0) := by rw [show w.heap.size + 2 = v2.heap.size by rw [q2.2.2, q1.2.2]]; exact q3.2.1
  have S3 : Hid (Since w v3) := since_call (since_call (since_call (since_refl _) q1.1) q2.1) q3.1
  clear q1 q2 q3
  refine (HC1.out _ (row_since HA.out S3.out) (row_since HB.out S3.out)).mono ?_
  rintro e w4 ⟨rfl, hb4⟩
  obtain ⟨cc0, cc1, cc2, cc3⟩ := (X3.out.kept hb4 rfl).four
  have S4 : Hid (Since w w4) := since_call S3.out hb4
  clear hb4 X3 S3
  go_wp2
  refine bodyPost_ret (v := vecV 0 none 0 0) (by simp [results, Tryz.results18, go_sem, vecV, cc0, cc1]) rfl ?_
  exact ⟨_, _, rfl, (since_set (since_set S4.out (by show w.heap.size ≤ w.heap.size + 2; omega)) (by show w.heap.size ≤ w.heap.size + 2; omega)).below, Or.inl rfl⟩
end Go.Proofs.YtlgnplnmcdjbiaaGreat
namespace Go.Proofs.YtlgnplnmcdjbiaaGreat
open Go.RowKit

/-- What ByteVec is asked is right. -/
def ByteP (n : Nat) (f : Nat → Cel) (en : Int) : Prop := CellsOk n f ∧ 0 ≤ en ∧ en ≤ 255
theorem newVec_early {w w1 w' : World} {b : Int} {n : Nat} {f : Nat → Int} {e : Ending} (hb : Below w.heap.size w w1) (h : NewVec w1 b n f e w') : NewVec w b n f e w' := by
  obtain ⟨s, c, h1, h2, h3⟩ := h
  exact ⟨s, c, h1, hb.trans (h2.mono hb.size), h3.low hb.size⟩
theorem boxed_grown {W W' : World} {b p : Nat} {t : TypeId} {x : Int} {sa : Option Addr} {n cap : Nat} (h : Boxed W p t x sa n cap) (hg : W.grownBy W' (some b)) (hne : p ≠ b) : Boxed W' p t x sa n cap := by
  unfold Boxed
  rw [hg.block p h.lt (fun e => hne (by injection e))]
  exact h
theorem behind_and (q r : Nat → Bool) (n : Nat) : ∀ j, (behind q n j && behind r n j) = behind (fun i => q i && r i) n j := fun j => by
  unfold behind
  cases decide (1 ≤ j ∧ j ≤ n) <;> simp
end Go.Proofs.YtlgnplnmcdjbiaaGreat
namespace Go.Proofs.YtlgnplnmcdjbiaaGreat
open Go.RowKit

open Classical in
set_option maxHeartbeats 1000000 in
theorem specByte_yes (sa : Option Addr) (n cap c m x : Nat) (f : Nat → Cel) (w : World) (hn : n ≤ maxLen) (hr : CRow w w.heap.size sa n f) (hc : ∀ i, i < n → (f i).c.size ≤ maxLen) (h : CellsOk n f) (hc9 : c < 256) (hm : m = (n + 1 + 31) / 32) (hx : IsBits x (behind (asksB f c false) n)) :
    Calls Tryz.prog 21 #[.slice sa n cap, .int .i64 (c : Int)] w fun e w' => NewVec w ((n : Int) + 1) m (wordsN x) e w' := by
  have q0 := boxing w 26 0 none 0 0
  have C := specKRight_any sa n cap f (w.alloc (.cells #[.int .i64 0, .slice none 0 0] 26)) hn ((hr.kept q0.1).up q0.1.size) hc
  rw [decide_eq_true h] at C
  have HSZ : Hid (∀ i, i < n → (f i).c.size ≤ 256) := okSize (fun i _ hi => right_size hi) h
  have HX : Hid (IsBits x (behind (asksB f c false) n)) := hx
  have HM : Hid (m = (n + 1 + 31) / 32) := hm
  have HR : Hid (CRow w w.heap.size sa n f) := hr
  have hn60 := h.2.1
  have hc0 : (0 : Int) ≤ (c : Int) := by omega
  have hc1 : (c : Int) ≤ 255 := by omega
  clear hn hr hc h hm hx
  go_enter Tryz.func21, Tryz.ntmps21
  go_wp2_with fail
  generalize w.alloc (.cells #[.int .i64 0, .slice none 0 0] 26) = v0 at *
  refine C.mono ?_
  rintro e w1 ⟨rfl, hb1⟩
  have X1 : Hid (Boxed w1 w.heap.size 26 0 none 0 0) := q0.2.1.kept hb1 rfl
  have S1 : Hid (Since w w1) := since_call (since_call (since_refl _) q0.1) hb1
  clear C hb1 q0
  go_wp2_with (first | (go_at_call 41; refine (is_yes _ _ _ _ hc0 hc1).mono ?_; rintro e w9 ⟨rfl, hw9⟩; rw [hw9]; clear hw9 w9))
  refine (l06Byte_any sa n cap c m x false f w1 hn60 ((HR.out.kept S1.out.below).up S1.out.size) HSZ.out hc9 HM.out HX.out).mono ?_
  rintro e w3 ⟨s3, c3, rfl, hb3, ho3⟩
  unfold vecV
  obtain ⟨a0, a1, a2, a3⟩ := (X1.out.kept hb3 rfl).four
  have S3 : Hid (Since w w3) := since_call S1.out hb3
  have O3 : Hid (OwnS w3 w1.heap.size s3 m (wordsN x)) := ho3
  have l3 : w.heap.size < w3.heap.size := by have := hb3.size; have := X1.out.lt; omega
  have l2 : w.heap.size < w1.heap.size := X1.out.lt
  clear hb3 ho3
  go_wp2_with fail
  refine bodyPost_ret (v := vecV ((n : Int) + 1) s3 m c3) (by simp [results, Tryz.results21, go_sem, vecV, a0, a1]) rfl ?_
  refine ⟨_, _, rfl, (since_set (since_set S3.out (by show w.heap.size ≤ w.heap.size; omega)) (by show w.heap.size ≤ w.heap.size; omega)).below, ?_⟩
  rcases O3.out with h | ⟨g5, h1, h2, h3⟩
  · exact Or.inl h
  · exact Or.inr ⟨g5, h1, by omega, (h3.setOther _ _ (by show w.heap.size ≠ g5; omega)).setOther _ _ (by show w.heap.size ≠ g5; omega)⟩
open Classical in
set_option maxHeartbeats 1000000 in
theorem specByte_no (sa : Option Addr) (n cap : Nat) (en : Int) (f : Nat → Cel) (w : World) (hn : n ≤ maxLen) (hr : CRow w w.heap.size sa n f) (hc : ∀ i, i < n → (f i).c.size ≤ maxLen) (h : ¬ ByteP n f en) :
    Calls Tryz.prog 21 #[.slice sa n cap, .int .i64 en] w fun e w' => NewVec w 0 0 (fun _ => 0) e w' := by
  have q0 := boxing w 26 0 none 0 0
  have C := specKRight_any sa n cap f (w.alloc (.cells #[.int .i64 0, .slice none 0 0] 26)) hn ((hr.kept q0.1).up q0.1.size) hc
  by_cases hk : CellsOk n f
  · rw [decide_eq_true hk] at C
    have HEN : Hid (¬ (0 ≤ en ∧ en ≤ 255)) := fun h9 => h ⟨hk, h9.1, h9.2⟩
    clear hn hr hc h hk
    go_enter Tryz.func21, Tryz.ntmps21
    go_wp2_with fail
    generalize w.alloc (.cells #[.int .i64 0, .slice none 0 0] 26) = v0 at *
    refine C.mono ?_
    rintro e w1 ⟨rfl, hb1⟩
    obtain ⟨a0, a1, a2, a3⟩ := (q0.2.1.kept hb1 rfl).four
    have S1 : Hid (Since w w1) := since_call (since_call (since_refl _) q0.1) hb1
    clear C hb1 q0
    go_wp2_with (first | (go_at_call 41; refine (is_no _ _ _ _ HEN.out).mono ?_; rintro e w9 ⟨rfl, hw9⟩; rw [hw9]; clear hw9 w9))
    refine bodyPost_ret (v := vecV 0 none 0 0) (by simp [results, Tryz.results21, go_sem, vecV, a0, a1]) rfl ?_
    exact ⟨_, _, rfl, (since_set (since_set S1.out (by show w.heap.size ≤ w.heap.size; omega)) (by show w.heap.size ≤ w.heap.size; omega)).below, Or.inl rfl⟩
  · rw [decide_eq_false hk] at C
    clear hn hr hc h hk
    go_enter Tryz.func21, Tryz.ntmps21
    go_wp2_with fail
    generalize w.alloc (.cells #[.int .i64 0, .slice none 0 0] 26) = v0 at *
    refine C.mono ?_
    rintro e w1 ⟨rfl, hb1⟩
    obtain ⟨a0, a1, a2, a3⟩ := (q0.2.1.kept hb1 rfl).four
    have S1 : Hid (Since w w1) := since_call (since_call (since_refl _) q0.1) hb1
    clear C hb1 q0
    go_wp2_with fail
    refine bodyPost_ret (v := vecV 0 none 0 0) (by simp [results, Tryz.results21, go_sem, vecV, a0, a1]) rfl ?_
    exact ⟨_, _, rfl, (since_set (since_set S1.out (by show w.heap.size ≤ w.heap.size; omega)) (by show w.heap.size ≤ w.heap.size; omega)).below, Or.inl rfl⟩
end Go.Proofs.YtlgnplnmcdjbiaaGreat
namespace Go.Proofs.YtlgnplnmcdjbiaaGreat
open Go.RowKit

open Classical in
set_option maxHeartbeats 1000000 in
theorem specLoop_yes (sa : Option Addr) (n cap c m x : Nat) (f : Nat → Cel) (w : World) (hn : n ≤ maxLen) (hr : CRow w w.heap.size sa n f) (hc : ∀ i, i < n → (f i).c.size ≤ maxLen) (h : CellsOk n f) (hc9 : c < 256) (hm : m = (n + 1 + 31) / 32) (hx : IsBits x (behind (asksB f c true) n)) :
    Calls Tryz.prog 22 #[.slice sa n cap, .int .i64 (c : Int)] w fun e w' => NewVec w ((n : Int) + 1) m (wordsN x) e w' := by
  have q0 := boxing w 26 0 none 0 0
  have C := specKRight_any sa n cap f (w.alloc (.cells #[.int .i64 0, .slice none 0 0] 26)) hn ((hr.kept q0.1).up q0.1.size) hc
  rw [decide_eq_true h] at C
  have HSZ : Hid (∀ i, i < n → (f i).c.size ≤ 256) := okSize (fun i _ hi => right_size hi) h
  have HX : Hid (IsBits x (behind (asksB f c true) n)) := hx
  have HM : Hid (m = (n + 1 + 31) / 32) := hm
  have HR : Hid (CRow w w.heap.size sa n f) := hr
  have hn60 := h.2.1
  have hc0 : (0 : Int) ≤ (c : Int) := by omega
  have hc1 : (c : Int) ≤ 255 := by omega
  clear hn hr hc h hm hx
  go_enter Tryz.func22, Tryz.ntmps22
  go_wp2_with fail
  generalize w.alloc (.cells #[.int .i64 0, .slice none 0 0] 26) = v0 at *
  refine C.mono ?_
  rintro e w1 ⟨rfl, hb1⟩
  have X1 : Hid (Boxed w1 w.heap.size 26 0 none 0 0) := q0.2.1.kept hb1 rfl
  have S1 : Hid (Since w w1) := since_call (since_call (since_refl _) q0.1) hb1
  clear C hb1 q0
  go_wp2_with (first | (go_at_call 41; refine (is_yes _ _ _ _ hc0 hc1).mono ?_; rintro e w9 ⟨rfl, hw9⟩; rw [hw9]; clear hw9 w9))
  refine (l06Byte_any sa n cap c m x true f w1 hn60 ((HR.out.kept S1.out.below).up S1.out.size) HSZ.out hc9 HM.out HX.out).mono ?_
  rintro e w3 ⟨s3, c3, rfl, hb3, ho3⟩
  unfold vecV
  obtain ⟨a0, a1, a2, a3⟩ := (X1.out.kept hb3 rfl).four
  have S3 : Hid (Since w w3) := since_call S1.out hb3
  have O3 : Hid (OwnS w3 w1.heap.size s3 m (wordsN x)) := ho3
  have l3 : w.heap.size < w3.heap.size := by have := hb3.size; have := X1.out.lt; omega
  have l2 : w.heap.size < w1.heap.size := X1.out.lt
  clear hb3 ho3
  go_wp2_with fail
  refine bodyPost_ret (v := vecV ((n : Int) + 1) s3 m c3) (by simp [results, Tryz.results22, go_sem, vecV, a0, a1]) rfl ?_
  refine ⟨_, _, rfl, (since_set (since_set S3.out (by show w.heap.size ≤ w.heap.size; omega)) (by show w.heap.size ≤ w.heap.size; omega)).below, ?_⟩
  rcases O3.out with h | ⟨g5, h1, h2, h3⟩
  · exact Or.inl h
  · exact Or.inr ⟨g5, h1, by omega, (h3.setOther _ _ (by show w.heap.size ≠ g5; omega)).setOther _ _ (by show w.heap.size ≠ g5; omega)⟩
open Classical in
set_option maxHeartbeats 1000000 in
theorem specLoop_no (sa : Option Addr) (n cap : Nat) (en : Int) (f : Nat → Cel) (w : World) (hn : n ≤ maxLen) (hr : CRow w w.heap.size sa n f) (hc : ∀ i, i < n → (f i).c.size ≤ maxLen) (h : ¬ ByteP n f en) :
    Calls Tryz.prog 22 #[.slice sa n cap, .int .i64 en] w fun e w' => NewVec w 0 0 (fun _ => 0) e w' := by
  have q0 := boxing w 26 0 none 0 0
  have C := specKRight_any sa n cap f (w.alloc (.cells #[.int .i64 0, .slice none 0 0] 26)) hn ((hr.kept q0.1).up q0.1.size) hc
  by_cases hk : CellsOk n f
  · rw [decide_eq_true hk] at C
    have HEN : Hid (¬ (0 ≤ en ∧ en ≤ 255)) := fun h9 => h ⟨hk, h9.1, h9.2⟩
    clear hn hr hc h hk
    go_enter Tryz.func22, Tryz.ntmps22
    go_wp2_with fail
    generalize w.alloc (.cells #[.int .i64 0, .slice none 0 0] 26) = v0 at *
    refine C.mono ?_
    rintro e w1 ⟨rfl, hb1⟩
    obtain ⟨a0, a1, a2, a3⟩ := (q0.2.1.kept hb1 rfl).four
    have S1 : Hid (Since w w1) := since_call (since_call (since_refl _) q0.1) hb1
    clear C hb1 q0
    go_wp2_with (first | (go_at_call 41; refine (is_no _ _ _ _ HEN.out).mono ?_; rintro e w9 ⟨rfl, hw9⟩; rw [hw9]; clear hw9 w9))
    refine bodyPost_ret (v := vecV 0 none 0 0) (by simp [results, Tryz.results22, go_sem, vecV, a0, a1]) rfl ?_
    exact ⟨_, _, rfl, (since_set (since_set S1.out (by show w.heap.size ≤ w.heap.size; omega)) (by show w.heap.size ≤ w.heap.size; omega)).below, Or.inl rfl⟩
  · rw [decide_eq_false hk] at C
    clear hn hr hc h hk
    go_enter Tryz.func22, Tryz.ntmps22
    go_wp2_with fail
    generalize w.alloc (.cells #[.int .i64 0, .slice none 0 0] 26) = v0 at *
    refine C.mono ?_
    rintro e w1 ⟨rfl, hb1⟩
    obtain ⟨a0, a1, a2, a3⟩ := (q0.2.1.kept hb1 rfl).four
    have S1 : Hid (Since w w1) := since_call (since_call (since_refl _) q0.1) hb1
    clear C hb1 q0
    go_wp2_with fail
    refine bodyPost_ret (v := vecV 0 none 0 0) (by simp [results, Tryz.results22, go_sem, vecV, a0, a1]) rfl ?_
    exact ⟨_, _, rfl, (since_set (since_set S1.out (by show w.heap.size ≤ w.heap.size; omega)) (by show w.heap.size ≤ w.heap.size; omega)).below, Or.inl rfl⟩
end Go.Proofs.YtlgnplnmcdjbiaaGreat
