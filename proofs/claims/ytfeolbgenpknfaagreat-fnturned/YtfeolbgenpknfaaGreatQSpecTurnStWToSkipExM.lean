/- What is proved here: the specification's TurnStep hands back a step's answer in new memory, or nothing; nothing that was there turns.
   What is proved here: the specification's TurnStart and TurnByte hand back turned bits of plain cells, in new memory, or nothing; nothing that was there turns.
   What is said here: there are numbers that have the bits of a row's runs. -/
import Derived.Test.YtfeolbgenpknfaaGreatQSpecTurnSWToTurnTabM
import Derived.Test.YtfeolbgenpknfaaGreatQImplTurnSW
import Derived.Test.YtfeolbgenpknfaaGreatQSpecKVecWToWordsForW
import Derived.Test.YtfeolbgenpknfaaGreatQSpecKRightWToIsW
import Derived.Test.YtfeolbgenpknfaaGreatQSpecTurnW
import Derived.Test.YtfeolbgenpknfaaGreatQImplTurnWToIntsNeW
import Derived.Test.YtfeolbgenpknfaaGreatQSpecMaskLW
namespace Go.Proofs.YtfeolbgenpknfaaGreat
open Go.RowKit

theorem stepBits_turn {w w' : World} {b : Int} {m x : Nat} {P : Nat → Bool} {t : Bool} {e : Ending} (h : StepBits w b m P t e w') (hx : IsBits x P) : NewStep w b m (wordsN x) t e w' := by
  obtain ⟨h, ⟨s, c, e1, hb, ho⟩, hv⟩ := h
  exact ⟨s, c, e1, hb, ho.congr (fun i hi => hv.uniq (vecIs_words hx m) i hi)⟩
open Classical in
set_option maxRecDepth 100000 in
set_option maxHeartbeats 4000000 in
theorem specTurnStep_no (sa : Option Addr) (n cap : Nat) (f : Nat → Cel) (b : Int) (sv : Option Addr) (m cv : Nat) (g : Nat → Int) (en : Int) (w : World) (hn : n ≤ maxLen) (hr : CRow w w.heap.size sa n f) (hc : ∀ i, i < n → (f i).c.size ≤ maxLen) (hm : m ≤ 1048576) (hv : Row w w.heap.size sv m g) (h : ¬ TStepP n f b m g en) :
    Calls Tryz.prog 18 #[.slice sa n cap, .agg #[.int .i64 b, .slice sv m cv], .int .i64 en] w fun e w' => NewStep w 0 0 (fun _ => 0) false e w' := by
  have q1 := boxing w 29 b sv m cv
  have q2 := sboxing (w.alloc (.cells #[.int .i64 b, .slice sv m cv] 29)) 0 none 0 0 false
  have S2 : Hid (Since w ((w.alloc (.cells #[.int .i64 b, .slice sv m cv] 29)).alloc (.cells #[.int .i64 0, .slice none 0 0, .bool false] 39))) := since_call (since_call (since_refl _) q1.1) q2.1
  have C := specPlain_any sa n cap f _ hn ((hr.kept S2.out.below).up S2.out.size) hc
  have RV : Hid (Row w w.heap.size sv m g) := hv
  have Y2 := q1.2.1.kept q2.1 rfl
  have X2 := q2.2.1
  rw [q1.2.2] at X2
  clear q1 q2
  by_cases hk : PlainP n f
  · rw [decide_eq_true hk] at C
    by_cases hR : Right b m g
    · have HVR : Hid (∀ W, Since w W → Calls Tryz.prog 52 #[.agg #[.int .i64 b, .slice sv m cv]] W fun e w' => e = .returned (.bool true) ∧ Below W.heap.size W w') := fun W hW => by
        have h9 := specRight_any b sv m cv g W hm (row_since RV.out hW)
        rw [decide_eq_true hR] at h9
        exact h9
      by_cases hbn : b = (n : Int)
      · have HEN : Hid (¬ (0 ≤ en ∧ en ≤ 255)) := fun h9 => h ⟨hk, ⟨hR, hbn⟩, h9.1, h9.2⟩
        have heq : (b != (n : Int)) = false := by simpa using hbn
        clear hn hr hc hm hv h hk hR hbn
        go_enter Tryz.func18, Tryz.ntmps18
        go_wp2_with fail
        generalize (w.alloc (.cells #[.int .i64 b, .slice sv m cv] 29)).alloc (.cells #[.int .i64 0, .slice none 0 0, .bool false] 39) = v2 at *
        refine C.mono ?_
        rintro e w3 ⟨rfl, hb3⟩
        have S3 : Hid (Since w w3) := since_call S2.out hb3
        have X3 := X2.kept hb3 rfl
        have Y3 := Y2.kept hb3 rfl
        obtain ⟨y0, y1⟩ := Y3.cells
        have ylt := Y3.lt
        clear C hb3 X2 Y2 S2
        go_wp2_with (first | (go_at_call 52; refine (HVR.out _ S3.out).mono ?_; rintro e w4 ⟨rfl, hb4⟩; have S4 : Hid (Since w w4) := since_call S3.out hb4; obtain ⟨a0, a1, a2, a3, a4, a5⟩ := (X3.kept hb4 rfl).six; have xlt := (X3.kept hb4 rfl).lt; obtain ⟨z0, z1⟩ := (Y3.kept hb4 rfl).cells; have zlt := (Y3.kept hb4 rfl).lt; clear hb4) | (go_at_call 53; refine (is_no _ _ _ _ HEN.out).mono ?_; rintro e w9 ⟨rfl, hw9⟩; rw [hw9]; clear hw9 w9))
        refine bodyPost_ret (v := stepV 0 none 0 0 false) (by simp [results, Tryz.results18, go_sem, stepV, a0, a1, a2]) rfl ?_
        exact newStep_none S4.out (by omega)
      · have heq : (b != (n : Int)) = true := by simpa using hbn
        clear hn hr hc hm hv h hk hR hbn
        go_enter Tryz.func18, Tryz.ntmps18
        go_wp2_with fail
        generalize (w.alloc (.cells #[.int .i64 b, .slice sv m cv] 29)).alloc (.cells #[.int .i64 0, .slice none 0 0, .bool false] 39) = v2 at *
        refine C.mono ?_
        rintro e w3 ⟨rfl, hb3⟩
        have S3 : Hid (Since w w3) := since_call S2.out hb3
        have X3 := X2.kept hb3 rfl
        have Y3 := Y2.kept hb3 rfl
        obtain ⟨y0, y1⟩ := Y3.cells
        have ylt := Y3.lt
        clear C hb3 X2 Y2 S2
        go_wp2_with (first | (go_at_call 52; refine (HVR.out _ S3.out).mono ?_; rintro e w4 ⟨rfl, hb4⟩; have S4 : Hid (Since w w4) := since_call S3.out hb4; obtain ⟨a0, a1, a2, a3, a4, a5⟩ := (X3.kept hb4 rfl).six; have xlt := (X3.kept hb4 rfl).lt; obtain ⟨z0, z1⟩ := (Y3.kept hb4 rfl).cells; have zlt := (Y3.kept hb4 rfl).lt; clear hb4))
        refine bodyPost_ret (v := stepV 0 none 0 0 false) (by simp [results, Tryz.results18, go_sem, stepV, a0, a1, a2]) rfl ?_
        exact newStep_none S4.out (by omega)
    · have HVR : Hid (∀ W, Since w W → Calls Tryz.prog 52 #[.agg #[.int .i64 b, .slice sv m cv]] W fun e w' => e = .returned (.bool false) ∧ Below W.heap.size W w') := fun W hW => by
        have h9 := specRight_any b sv m cv g W hm (row_since RV.out hW)
        rw [decide_eq_false hR] at h9
        exact h9
      clear hn hr hc hm hv h hk hR
      go_enter Tryz.func18, Tryz.ntmps18
      go_wp2_with fail
      generalize (w.alloc (.cells #[.int .i64 b, .slice sv m cv] 29)).alloc (.cells #[.int .i64 0, .slice none 0 0, .bool false] 39) = v2 at *
      refine C.mono ?_
      rintro e w3 ⟨rfl, hb3⟩
      have S3 : Hid (Since w w3) := since_call S2.out hb3
      have X3 := X2.kept hb3 rfl
      have Y3 := Y2.kept hb3 rfl
      obtain ⟨y0, y1⟩ := Y3.cells
      have ylt := Y3.lt
      clear C hb3 X2 Y2 S2
      go_wp2_with (first | (go_at_call 52; refine (HVR.out _ S3.out).mono ?_; rintro e w4 ⟨rfl, hb4⟩; have S4 : Hid (Since w w4) := since_call S3.out hb4; obtain ⟨a0, a1, a2, a3, a4, a5⟩ := (X3.kept hb4 rfl).six; have xlt := (X3.kept hb4 rfl).lt; obtain ⟨z0, z1⟩ := (Y3.kept hb4 rfl).cells; have zlt := (Y3.kept hb4 rfl).lt; clear hb4))
      refine bodyPost_ret (v := stepV 0 none 0 0 false) (by simp [results, Tryz.results18, go_sem, stepV, a0, a1, a2]) rfl ?_
      exact newStep_none S4.out (by omega)
  · rw [decide_eq_false hk] at C
    clear hn hr hc hm hv h hk RV
    go_enter Tryz.func18, Tryz.ntmps18
    go_wp2_with fail
    generalize (w.alloc (.cells #[.int .i64 b, .slice sv m cv] 29)).alloc (.cells #[.int .i64 0, .slice none 0 0, .bool false] 39) = v2 at *
    refine C.mono ?_
    rintro e w3 ⟨rfl, hb3⟩
    have S3 : Hid (Since w w3) := since_call S2.out hb3
    have X3 := X2.kept hb3 rfl
    have Y3 := Y2.kept hb3 rfl
    obtain ⟨y0, y1⟩ := Y3.cells
    have ylt := Y3.lt
    clear C hb3 X2 Y2 S2
    obtain ⟨a0, a1, a2, a3, a4, a5⟩ := X3.six
    have xlt := X3.lt
    go_wp2_with fail
    refine bodyPost_ret (v := stepV 0 none 0 0 false) (by simp [results, Tryz.results18, go_sem, stepV, a0, a1, a2]) rfl ?_
    exact newStep_none S3.out (by omega)
open Classical in
set_option maxRecDepth 100000 in
set_option maxHeartbeats 4000000 in
theorem specTurnStep_yes (sa : Option Addr) (n cap c : Nat) (f : Nat → Cel) (sv : Option Addr) (m cv x : Nat) (g : Nat → Int) (T : Nat → Bool) (w : World) (hn : n ≤ maxLen) (hr : CRow w w.heap.size sa n f) (hc : ∀ i, i < n → (f i).c.size ≤ maxLen) (hv : Row w w.heap.size sv m g) (hk : PlainP n f) (hm : m = (n + 31) / 32) (hR : Right (n : Int) m g) (hT : VecIs g T m) (hc9 : c < 256) (hx : IsBits x (turnB f n T c)) :
    Calls Tryz.prog 18 #[.slice sa n cap, .agg #[.int .i64 (n : Int), .slice sv m cv], .int .i64 (c : Int)] w fun e w' => NewStep w (n : Int) m (wordsN x) (!turnB f n T c (n - 1)) e w' := by
  have q1 := boxing w 29 (n : Int) sv m cv
  have q2 := sboxing (w.alloc (.cells #[.int .i64 (n : Int), .slice sv m cv] 29)) 0 none 0 0 false
  have S2 : Hid (Since w ((w.alloc (.cells #[.int .i64 (n : Int), .slice sv m cv] 29)).alloc (.cells #[.int .i64 0, .slice none 0 0, .bool false] 39))) := since_call (since_call (since_refl _) q1.1) q2.1
  have hn1 := hk.1.1
  have hn60 := hk.1.2.1
  have C := specPlain_any sa n cap f _ hn ((hr.kept S2.out.below).up S2.out.size) hc
  rw [decide_eq_true hk] at C
  have hsz : ∀ i, i < n → (f i).c.size ≤ 256 := plain_small hk
  have hm5 : m ≤ 1048576 := by omega
  have HVR : Hid (∀ W, Since w W → Calls Tryz.prog 52 #[.agg #[.int .i64 (n : Int), .slice sv m cv]] W fun e w' => e = .returned (.bool true) ∧ Below W.heap.size W w') := fun W hW => by
    have h9 := specRight_any (n : Int) sv m cv g W hm5 (row_since hv hW)
    rw [decide_eq_true hR] at h9
    exact h9
  obtain ⟨hit, hhit⟩ : ∃ hit, (!turnB f n T c (n - 1)) = hit := ⟨_, rfl⟩
  rw [hhit]
  have HST : Hid (∀ W, Since w W → Calls Tryz.prog 44 #[.slice sa n cap, .agg #[.int .i64 (n : Int), .slice sv m cv], .int .i64 (c : Int)] W fun e w' => NewStep W (n : Int) m (wordsN x) hit e w') := fun W hW => by
    have h9 := l08Step_any sa n cap c m f sv cv T W hn1 hn60 ((hr.kept hW.below).up hW.size) hsz hc9 hm ⟨g, row_since hv hW, hT⟩
    rw [hhit] at h9
    exact h9.mono (fun _ _ h => stepBits_turn h hx)
  have Y2 := q1.2.1.kept q2.1 rfl
  have X2 := q2.2.1
  rw [q1.2.2] at X2
  have hc0 : (0 : Int) ≤ (c : Int) := by omega
  have hc1 : (c : Int) ≤ 255 := by omega
  generalize wordsN x = wx at *
  clear hn hr hc hm hv hk hR hx hsz q1 q2 hhit hT hm5
  go_enter Tryz.func18, Tryz.ntmps18
  go_wp2_with fail
  generalize (w.alloc (.cells #[.int .i64 (n : Int), .slice sv m cv] 29)).alloc (.cells #[.int .i64 0, .slice none 0 0, .bool false] 39) = v2 at *
  refine C.mono ?_
  rintro e w3 ⟨rfl, hb3⟩
  have X3 : Hid (SBox w3 (w.heap.size + 1) 0 none 0 0 false) := X2.kept hb3 rfl
  have Y3 : Hid (Boxed w3 w.heap.size 29 (n : Int) sv m cv) := Y2.kept hb3 rfl
  obtain ⟨y0, y1⟩ := Y3.out.cells
  have ylt := Y3.out.lt
  have S3 : Hid (Since w w3) := since_call S2.out hb3
  clear C hb3 X2 Y2 S2
  go_wp2_with (first | (go_at_call 52; refine (HVR.out _ S3.out).mono ?_; rintro e w4 ⟨rfl, hb4⟩; have S4 : Hid (Since w w4) := since_call S3.out hb4; have X4 : Hid (SBox w4 (w.heap.size + 1) 0 none 0 0 false) := X3.out.kept hb4 rfl; obtain ⟨z0, z1⟩ := (Y3.out.kept hb4 rfl).cells; have zlt := (Y3.out.kept hb4 rfl).lt; clear hb4) | (go_at_call 53; refine (is_yes _ _ _ _ hc0 hc1).mono ?_; rintro e w9 ⟨rfl, hw9⟩; rw [hw9]; clear hw9 w9))
  refine (HST.out w4 S4.out).mono ?_
  rintro e w8 ⟨s3, c3, rfl, hb8, ho8⟩
  unfold stepV
  obtain ⟨a0, a1, a2, a3, a4, a5⟩ := (X4.out.kept hb8 rfl).six
  have xlt := (X4.out.kept hb8 rfl).lt
  have xlt7 := X4.out.lt
  have S8 : Hid (Since w w8) := since_call S4.out hb8
  have O8 : Hid (OwnS w8 w4.heap.size s3 m wx) := ho8
  clear hb8 ho8
  go_wp2_with fail
  refine bodyPost_ret (v := stepV (n : Int) s3 m c3 hit) (by simp [results, Tryz.results18, go_sem, stepV, a0, a1, a2]) rfl ?_
  refine ⟨_, _, rfl, (since_set (since_set (since_set S8.out (by show w.heap.size ≤ w.heap.size + 1; omega)) (by show w.heap.size ≤ w.heap.size + 1; omega)) (by show w.heap.size ≤ w.heap.size + 1; omega)).below, ?_⟩
  rcases O8.out with h | ⟨g5, h1, h2, h3⟩
  · exact Or.inl h
  · exact Or.inr ⟨g5, h1, by omega, ((h3.setOther _ _ (by show w.heap.size + 1 ≠ g5; omega)).setOther _ _ (by show w.heap.size + 1 ≠ g5; omega)).setOther _ _ (by show w.heap.size + 1 ≠ g5; omega)⟩
end Go.Proofs.YtfeolbgenpknfaaGreat
namespace Go.Proofs.YtfeolbgenpknfaaGreat
open Go.RowKit

theorem newBits_zero {w : World} {b : Int} {m x : Nat} {P : Nat → Bool} {F : Nat} {args : Array Value} (h : Calls Tryz.prog F args w fun e w' => NewBits w b m P e w') (hx : IsBits x P) : Calls Tryz.prog F args w fun e w' => NewVec w b m (wordsN x) e w' := h.mono (fun _ _ h9 => newBits_words h9 hx)
open Classical in
set_option maxHeartbeats 2000000 in
theorem specTurnStart_yes (sa : Option Addr) (n cap  m : Nat) (f : Nat → Cel) (w : World) (hn : n ≤ maxLen) (hr : CRow w w.heap.size sa n f) (hc : ∀ i, i < n → (f i).c.size ≤ maxLen) (h : PlainP n f) (hm : m = (n + 31) / 32) :
    Calls Tryz.prog 25 #[.slice sa n cap] w fun e w' => NewVec w (n : Int) m (wordsN (2 ^ n - 1)) e w' := by
  have q0 := boxing w 29 0 none 0 0
  have C := specPlain_any sa n cap f (w.alloc (.cells #[.int .i64 0, .slice none 0 0] 29)) hn ((hr.kept q0.1).up q0.1.size) hc
  rw [decide_eq_true h] at C
  have hn1 := h.1.1
  have hn60 := h.1.2.1
  have hsz := plain_small h
  have HB : Hid (∀ W, Since w W → Calls Tryz.prog 43 #[.slice sa n cap] W fun e w' => NewVec W (n : Int) m (wordsN (2 ^ n - 1)) e w') := fun W hW => newBits_zero (l08Start_any sa n cap m W hn1 hn60 hm) (bits_all (by omega))
  obtain ⟨wx, hwx⟩ : ∃ wx, wordsN (2 ^ n - 1) = wx := ⟨_, rfl⟩
  rw [hwx] at HB ⊢
  clear hn hr hc h hm hsz hwx
  go_enter Tryz.func25, Tryz.ntmps25
  go_wp2_with fail
  generalize w.alloc (.cells #[.int .i64 0, .slice none 0 0] 29) = v0 at *
  refine C.mono ?_
  rintro e w1 ⟨rfl, hb1⟩
  have X1 : Hid (Boxed w1 w.heap.size 29 0 none 0 0) := q0.2.1.kept hb1 rfl
  have S1 : Hid (Since w w1) := since_call (since_call (since_refl _) q0.1) hb1
  clear C hb1 q0
  go_wp2_with fail
  refine (HB.out w1 S1.out).mono ?_
  rintro e w3 ⟨s3, c3, rfl, hb3, ho3⟩
  unfold vecV
  obtain ⟨a0, a1, a2, a3⟩ := (X1.out.kept hb3 rfl).four
  have S3 : Hid (Since w w3) := since_call S1.out hb3
  have O3 : Hid (OwnS w3 w1.heap.size s3 m wx) := ho3
  have l3 : w.heap.size < w3.heap.size := by have := hb3.size; have := X1.out.lt; omega
  have l2 : w.heap.size < w1.heap.size := X1.out.lt
  clear hb3 ho3
  go_wp2_with fail
  refine bodyPost_ret (v := vecV (n : Int) s3 m c3) (by simp [results, Tryz.results25, go_sem, vecV, a0, a1]) rfl ?_
  refine ⟨_, _, rfl, (since_set (since_set S3.out (by show w.heap.size ≤ w.heap.size; omega)) (by show w.heap.size ≤ w.heap.size; omega)).below, ?_⟩
  rcases O3.out with h | ⟨g5, h1, h2, h3⟩
  · exact Or.inl h
  · exact Or.inr ⟨g5, h1, by omega, (h3.setOther _ _ (by show w.heap.size ≠ g5; omega)).setOther _ _ (by show w.heap.size ≠ g5; omega)⟩
open Classical in
set_option maxHeartbeats 2000000 in
theorem specTurnStart_no (sa : Option Addr) (n cap : Nat) (f : Nat → Cel) (w : World) (hn : n ≤ maxLen) (hr : CRow w w.heap.size sa n f) (hc : ∀ i, i < n → (f i).c.size ≤ maxLen) (h : ¬ PlainP n f) :
    Calls Tryz.prog 25 #[.slice sa n cap] w fun e w' => NewVec w 0 0 (fun _ => 0) e w' := by
  have q0 := boxing w 29 0 none 0 0
  have C := specPlain_any sa n cap f (w.alloc (.cells #[.int .i64 0, .slice none 0 0] 29)) hn ((hr.kept q0.1).up q0.1.size) hc
  by_cases hk : PlainP n f
  · exact absurd hk h
  · rw [decide_eq_false hk] at C
    clear hn hr hc h hk
    go_enter Tryz.func25, Tryz.ntmps25
    go_wp2_with fail
    generalize w.alloc (.cells #[.int .i64 0, .slice none 0 0] 29) = v0 at *
    refine C.mono ?_
    rintro e w1 ⟨rfl, hb1⟩
    obtain ⟨a0, a1, a2, a3⟩ := (q0.2.1.kept hb1 rfl).four
    have S1 : Hid (Since w w1) := since_call (since_call (since_refl _) q0.1) hb1
    clear C hb1 q0
    go_wp2_with fail
    refine bodyPost_ret (v := vecV 0 none 0 0) (by simp [results, Tryz.results25, go_sem, vecV, a0, a1]) rfl ?_
    exact ⟨_, _, rfl, (since_set (since_set S1.out (by show w.heap.size ≤ w.heap.size; omega)) (by show w.heap.size ≤ w.heap.size; omega)).below, Or.inl rfl⟩
open Classical in
set_option maxHeartbeats 2000000 in
theorem specTurnByte_yes (sa : Option Addr) (n cap c m x : Nat) (f : Nat → Cel) (w : World) (hn : n ≤ maxLen) (hr : CRow w w.heap.size sa n f) (hc : ∀ i, i < n → (f i).c.size ≤ maxLen) (h : PlainP n f) (hc9 : c < 256) (hm : m = (n + 31) / 32) (hx : IsBits x (lackB f n c)) :
    Calls Tryz.prog 23 #[.slice sa n cap, .int .i64 (c : Int)] w fun e w' => NewVec w (n : Int) m (wordsN x) e w' := by
  have q0 := boxing w 29 0 none 0 0
  have C := specPlain_any sa n cap f (w.alloc (.cells #[.int .i64 0, .slice none 0 0] 29)) hn ((hr.kept q0.1).up q0.1.size) hc
  rw [decide_eq_true h] at C
  have hn1 := h.1.1
  have hn60 := h.1.2.1
  have hsz := plain_small h
  have HB : Hid (∀ W, Since w W → Calls Tryz.prog 57 #[.slice sa n cap, .int .i64 (c : Int)] W fun e w' => NewVec W (n : Int) m (wordsN x) e w') := fun W hW => newBits_zero (l08Byte_any sa n cap c m f W hn1 hn60 ((hr.kept hW.below).up hW.size) hsz hc9 hm) hx
  have hc0 : (0 : Int) ≤ (c : Int) := by omega
  have hc1 : (c : Int) ≤ 255 := by omega
  generalize wordsN x = wx at *
  clear hn hr hc h hm hsz hx
  go_enter Tryz.func23, Tryz.ntmps23
  go_wp2_with fail
  generalize w.alloc (.cells #[.int .i64 0, .slice none 0 0] 29) = v0 at *
  refine C.mono ?_
  rintro e w1 ⟨rfl, hb1⟩
  have X1 : Hid (Boxed w1 w.heap.size 29 0 none 0 0) := q0.2.1.kept hb1 rfl
  have S1 : Hid (Since w w1) := since_call (since_call (since_refl _) q0.1) hb1
  clear C hb1 q0
  go_wp2_with (first | (go_at_call 53; refine (is_yes _ _ _ _ hc0 hc1).mono ?_; rintro e w9 ⟨rfl, hw9⟩; rw [hw9]; clear hw9 w9))
  refine (HB.out w1 S1.out).mono ?_
  rintro e w3 ⟨s3, c3, rfl, hb3, ho3⟩
  unfold vecV
  obtain ⟨a0, a1, a2, a3⟩ := (X1.out.kept hb3 rfl).four
  have S3 : Hid (Since w w3) := since_call S1.out hb3
  have O3 : Hid (OwnS w3 w1.heap.size s3 m wx) := ho3
  have l3 : w.heap.size < w3.heap.size := by have := hb3.size; have := X1.out.lt; omega
  have l2 : w.heap.size < w1.heap.size := X1.out.lt
  clear hb3 ho3
  go_wp2_with fail
  refine bodyPost_ret (v := vecV (n : Int) s3 m c3) (by simp [results, Tryz.results23, go_sem, vecV, a0, a1]) rfl ?_
  refine ⟨_, _, rfl, (since_set (since_set S3.out (by show w.heap.size ≤ w.heap.size; omega)) (by show w.heap.size ≤ w.heap.size; omega)).below, ?_⟩
  rcases O3.out with h | ⟨g5, h1, h2, h3⟩
  · exact Or.inl h
  · exact Or.inr ⟨g5, h1, by omega, (h3.setOther _ _ (by show w.heap.size ≠ g5; omega)).setOther _ _ (by show w.heap.size ≠ g5; omega)⟩
open Classical in
set_option maxHeartbeats 2000000 in
theorem specTurnByte_no (sa : Option Addr) (n cap : Nat) (en : Int) (f : Nat → Cel) (w : World) (hn : n ≤ maxLen) (hr : CRow w w.heap.size sa n f) (hc : ∀ i, i < n → (f i).c.size ≤ maxLen) (h : ¬ TurnP n f en) :
    Calls Tryz.prog 23 #[.slice sa n cap, .int .i64 en] w fun e w' => NewVec w 0 0 (fun _ => 0) e w' := by
  have q0 := boxing w 29 0 none 0 0
  have C := specPlain_any sa n cap f (w.alloc (.cells #[.int .i64 0, .slice none 0 0] 29)) hn ((hr.kept q0.1).up q0.1.size) hc
  by_cases hk : PlainP n f
  · rw [decide_eq_true hk] at C
    have HEN : Hid (¬ (0 ≤ en ∧ en ≤ 255)) := fun h9 => h ⟨hk, h9.1, h9.2⟩
    clear hn hr hc h hk
    go_enter Tryz.func23, Tryz.ntmps23
    go_wp2_with fail
    generalize w.alloc (.cells #[.int .i64 0, .slice none 0 0] 29) = v0 at *
    refine C.mono ?_
    rintro e w1 ⟨rfl, hb1⟩
    obtain ⟨a0, a1, a2, a3⟩ := (q0.2.1.kept hb1 rfl).four
    have S1 : Hid (Since w w1) := since_call (since_call (since_refl _) q0.1) hb1
    clear C hb1 q0
    go_wp2_with (first | (go_at_call 53; refine (is_no _ _ _ _ HEN.out).mono ?_; rintro e w9 ⟨rfl, hw9⟩; rw [hw9]; clear hw9 w9))
    refine bodyPost_ret (v := vecV 0 none 0 0) (by simp [results, Tryz.results23, go_sem, vecV, a0, a1]) rfl ?_
    exact ⟨_, _, rfl, (since_set (since_set S1.out (by show w.heap.size ≤ w.heap.size; omega)) (by show w.heap.size ≤ w.heap.size; omega)).below, Or.inl rfl⟩
  · rw [decide_eq_false hk] at C
    clear hn hr hc h hk
    go_enter Tryz.func23, Tryz.ntmps23
    go_wp2_with fail
    generalize w.alloc (.cells #[.int .i64 0, .slice none 0 0] 29) = v0 at *
    refine C.mono ?_
    rintro e w1 ⟨rfl, hb1⟩
    obtain ⟨a0, a1, a2, a3⟩ := (q0.2.1.kept hb1 rfl).four
    have S1 : Hid (Since w w1) := since_call (since_call (since_refl _) q0.1) hb1
    clear C hb1 q0
    go_wp2_with fail
    refine bodyPost_ret (v := vecV 0 none 0 0) (by simp [results, Tryz.results23, go_sem, vecV, a0, a1]) rfl ?_
    exact ⟨_, _, rfl, (since_set (since_set S1.out (by show w.heap.size ≤ w.heap.size; omega)) (by show w.heap.size ≤ w.heap.size; omega)).below, Or.inl rfl⟩
end Go.Proofs.YtfeolbgenpknfaaGreat
namespace Go.Proofs.YtfeolbgenpknfaaGreat
open Go.RowKit

theorem first_ex (f : Nat → Cel) {n : Nat} (hn : n ≤ 60) : ∃ x, IsBits x (firstB (skipB f n)) := ⟨_, bits_valB (fun j hj => by unfold firstB; rw [skip_le f n (j + 1) (by omega)]; rfl)⟩
theorem last_ex (f : Nat → Cel) {n : Nat} (hn : n ≤ 60) : ∃ x, IsBits x (lastB (skipB f n)) := ⟨_, bits_valB (fun j hj => by unfold lastB; rw [skip_le f n j (by omega)]; rfl)⟩
theorem skip_ex (f : Nat → Cel) {n : Nat} (hn : n ≤ 60) : ∃ x, IsBits x (skipB f n) := ⟨_, bits_valB (fun j hj => skip_le f n j (by omega))⟩
end Go.Proofs.YtfeolbgenpknfaaGreat
