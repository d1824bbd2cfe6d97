/- What is proved here: the program's CloseOver hands back the places of a right vector, closed, in new memory, or nothing; nothing that was there turns.
   What is proved here: the specification's CloseOver hands back the places of a right vector, closed, in new memory, or nothing; nothing that was there turns.
   What is proved here: the specification's CloseOver hands back a vector in new memory, or nothing; nothing that was there turns.
   What is proved here: the program closes places by one subtraction; nothing that was there turns. -/
import Derived.Test.YtlgnplnmcdjbiaaQPlacesWToClosedW
import Derived.Test.YtlgnplnmcdjbiaaQImplCRightWToPVecW
import Derived.Test.YtlgnplnmcdjbiaaQSpecCloW
import Derived.Test.YtlgnplnmcdjbiaaQWordsWToWordsForW
import Derived.Deep.RegionHeld3
import Derived.Deep.RegionWith
import Derived.Test.YtlgnplnmcdjbiaaQCellMToStepVM
namespace Go.Proofs.Ytlgnplnmcdjbiaa
open Go.RowKit

/-- What is asked is right: right cells, and a right vector of as many bits as there are places. -/
def CloP (n : Nat) (f : Nat → Cel) (b : Int) (m : Nat) (g : Nat → Int) : Prop := CellsOk n f ∧ OfRow b m g n
theorem newVec_zero {w W : World} {a : Nat} (hS : Since w W) (ha : w.heap.size ≤ a) : NewVec w 0 0 (fun _ => 0) (.returned (vecV 0 none 0 0)) ((W.setCell ⟨a, 0, none⟩ (.int .i64 0)).setCell ⟨a, 1, none⟩ (.slice none 0 0)) :=
  ⟨_, _, rfl, (since_set (since_set hS ha) ha).below, Or.inl rfl⟩
open Classical in
set_option maxRecDepth 100000 in
set_option maxHeartbeats 4000000 in
theorem implClo_no (sa : Option Addr) (n cap : Nat) (f : Nat → Cel) (b : Int) (sv : Option Addr) (m cv : Nat) (g : Nat → Int) (w : World) (hn : n ≤ maxLen) (hr : CRow w w.heap.size sa n f) (hc : ∀ i, i < n → (f i).c.size ≤ maxLen) (hm : m ≤ 1048576) (hv : Row w w.heap.size sv m g) (h : ¬ CloP n f b m g) :
    Calls Try.prog 30 #[.slice sa n cap, .agg #[.int .i64 b, .slice sv m cv]] w fun e w' => NewVec w 0 0 (fun _ => 0) e w' := by
  have q1 := boxing w 45 b sv m cv
  have q2 := boxing (w.alloc (.cells #[.int .i64 b, .slice sv m cv] 45)) 45 0 none 0 0
  have S2 : Hid (Since w ((w.alloc (.cells #[.int .i64 b, .slice sv m cv] 45)).alloc (.cells #[.int .i64 0, .slice none 0 0] 45))) := since_call (since_call (since_refl _) q1.1) q2.1
  have hr2 := (hr.kept S2.out.below).up S2.out.size
  have RV : Hid (Row w w.heap.size sv m g) := hv
  have Y2 := q1.2.1.kept q2.1 rfl
  have e9 := q1.2.2
  by_cases hk : CellsOk n f
  · have hof : ¬ OfRow b m g n := fun h9 => h ⟨hk, h9⟩
    have C := rowOf_yes sa n cap f _ hn hr2 hc hk
    have hn60 := hk.2.1
    have HOF : Hid (∀ W, Since w W → Calls Try.prog 99 #[.agg #[.int .i64 b, .slice sv m cv], .int .i64 (n : Int)] W fun e w' => e = .returned (.bool false) ∧ Below W.heap.size W w') := fun W hW => by
      have h9 := isOfRow_any b sv m cv n g W hn60 hm (row_since RV.out hW)
      rw [decide_eq_false hof] at h9
      exact h9
    clear hn hr hc h hk hof hr2 hv
    go_enter Try.func30, Try.ntmps30
    go_wp2_with fail
    generalize (w.alloc (.cells #[.int .i64 b, .slice sv m cv] 45)).alloc (.cells #[.int .i64 0, .slice none 0 0] 45) = v2 at *
    rw [e9] at q2
    clear e9 q1
    refine C.mono ?_
    rintro e w3 ⟨rb, sk, lo, rfl, hbl, hb3, hsk, hlo, hrow⟩
    have S3 : Hid (Since w w3) := since_call S2.out hb3
    obtain ⟨y0, y1⟩ := (Y2.kept hb3 rfl).cells
    have Y3 := Y2.kept hb3 rfl
    have X3 := q2.2.1.kept hb3 rfl
    clear C hb3 hsk hlo hrow hbl q2 Y2 S2
    go_wp2_with (first | (go_at_call 99; refine (HOF.out _ S3.out).mono ?_; rintro e w4 ⟨rfl, hb4⟩; have S4 : Hid (Since w w4) := since_call S3.out hb4; obtain ⟨a0, a1, a2, a3⟩ := (X3.kept hb4 rfl).four; have xlt := (X3.kept hb4 rfl).lt; clear hb4))
    refine bodyPost_ret (v := vecV 0 none 0 0) (by simp [results, Try.results30, go_sem, vecV, a0, a1]) rfl ?_
    exact newVec_zero S4.out (by omega)
  · have C := rowOf_no sa n cap f _ hn hr2 hc hk
    clear hn hr hc h hk hr2 hv RV
    go_enter Try.func30, Try.ntmps30
    go_wp2_with fail
    generalize (w.alloc (.cells #[.int .i64 b, .slice sv m cv] 45)).alloc (.cells #[.int .i64 0, .slice none 0 0] 45) = v2 at *
    rw [e9] at q2
    clear e9 q1
    refine C.mono ?_
    rintro e w3 ⟨rfl, hb3⟩
    have S3 : Hid (Since w w3) := since_call S2.out hb3
    obtain ⟨a0, a1, a2, a3⟩ := (q2.2.1.kept hb3 rfl).four
    have xlt := (q2.2.1.kept hb3 rfl).lt
    clear C hb3 q2 Y2 S2
    go_wp2_with fail
    refine bodyPost_ret (v := vecV 0 none 0 0) (by simp [results, Try.results30, go_sem, vecV, a0, a1]) rfl ?_
    exact newVec_zero S3.out (by omega)
open Classical in
set_option maxRecDepth 100000 in
set_option maxHeartbeats 4000000 in
theorem implClo_yes (sa : Option Addr) (n cap : Nat) (f : Nat → Cel) (sv : Option Addr) (m cv x : Nat) (g : Nat → Int) (w : World) (hn : n ≤ maxLen) (hr : CRow w w.heap.size sa n f) (hc : ∀ i, i < n → (f i).c.size ≤ maxLen) (hv : Row w w.heap.size sv m g) (hk : CellsOk n f) (hm : m = (n + 1 + 31) / 32) (hR : Right ((n : Int) + 1) m g) (hx : IsBits x (cloB (behind (fun i => (f i).k) n) (bitsOf g n))) :
    Calls Try.prog 30 #[.slice sa n cap, .agg #[.int .i64 ((n : Int) + 1), .slice sv m cv]] w fun e w' => NewVec w ((n : Int) + 1) m (wordsN x) e w' := by
  have q1 := boxing w 45 ((n : Int) + 1) sv m cv
  have q2 := boxing (w.alloc (.cells #[.int .i64 ((n : Int) + 1), .slice sv m cv] 45)) 45 0 none 0 0
  have S2 : Hid (Since w ((w.alloc (.cells #[.int .i64 ((n : Int) + 1), .slice sv m cv] 45)).alloc (.cells #[.int .i64 0, .slice none 0 0] 45))) := since_call (since_call (since_refl _) q1.1) q2.1
  have hr2 := (hr.kept S2.out.below).up S2.out.size
  have RV : Hid (Row w w.heap.size sv m g) := hv
  have Y2 := q1.2.1.kept q2.1 rfl
  have e9 := q1.2.2
  have C := rowOf_yes sa n cap f _ hn hr2 hc hk
  have hn60 := hk.2.1
  have hm2 : m ≤ 2 := by omega
  have HX : Hid (IsBits x (cloB (behind (fun i => (f i).k) n) (bitsOf g n))) := hx
  have HM : Hid (m = (n + 1 + 31) / 32) := hm
  have HOF : Hid (∀ W, Since w W → Calls Try.prog 99 #[.agg #[.int .i64 ((n : Int) + 1), .slice sv m cv], .int .i64 (n : Int)] W fun e w' => e = .returned (.bool true) ∧ Below W.heap.size W w') := fun W hW => by
    have h9 := isOfRow_any ((n : Int) + 1) sv m cv n g W hn60 (by omega) (row_since RV.out hW)
    rw [decide_eq_true (show OfRow ((n : Int) + 1) m g n from ⟨hR, rfl⟩)] at h9
    exact h9
  have HPL : Hid (∀ W, Since w W → Calls Try.prog 101 #[.agg #[.int .i64 ((n : Int) + 1), .slice sv m cv]] W fun e w' => ∃ y : Nat, e = .returned (.int .u64 (y : Int)) ∧ IsBits y (bitsOf g n) ∧ Below W.heap.size W w') := fun W hW =>
    placesOf_any ((n : Int) + 1) sv m cv g (bitsOf g n) W hm2 (row_since RV.out hW) (vecIs_right hm hR) (fun j hj => bitsOf_le g n j (by omega))
  clear hn hr hc hk hr2 hv hx hm hR
  go_enter Try.func30, Try.ntmps30
  go_wp2_with fail
  generalize (w.alloc (.cells #[.int .i64 ((n : Int) + 1), .slice sv m cv] 45)).alloc (.cells #[.int .i64 0, .slice none 0 0] 45) = v2 at *
  have hz2 := q2.2.2
  rw [e9] at q2 hz2
  clear e9 q1
  refine C.mono ?_
  rintro e w3 ⟨rb, sk, lo, rfl, hbl, hb3, hsk, hlo, hrow⟩
  have S3 : Hid (Since w w3) := since_call S2.out hb3
  have HSK : Hid (IsBits sk (behind (fun i => (f i).k) n)) := hsk
  have HROW : Hid (KRow w3 rb sa n cap sk lo 0 0 (fun _ => 0)) := hrow
  have Y3 : Hid (Boxed w3 w.heap.size 45 ((n : Int) + 1) sv m cv) := Y2.kept hb3 rfl
  have X3 : Hid (Boxed w3 (w.heap.size + 1) 45 0 none 0 0) := q2.2.1.kept hb3 rfl
  obtain ⟨y0, y1⟩ := Y3.out.cells
  clear C hb3 hsk hlo hrow hbl q2 Y2 S2
  go_wp2_with (first | (go_at_call 99; refine (HOF.out _ S3.out).mono ?_; rintro e w4 ⟨rfl, hb4⟩; have S4 : Hid (Since w w4) := since_call S3.out hb4; have ROW4 : Hid (KRow w4 rb sa n cap sk lo 0 0 (fun _ => 0)) := HROW.out.kept hb4 HROW.out.lt; have X4 : Hid (Boxed w4 (w.heap.size + 1) 45 0 none 0 0) := X3.out.kept hb4 rfl; obtain ⟨z0, z1⟩ := (Y3.out.kept hb4 rfl).cells; clear hb4))
  refine (HPL.out w4 S4.out).mono ?_
  rintro e w5 ⟨y, rfl, hy, hb5⟩
  have S5 : Hid (Since w w5) := since_call S4.out hb5
  have ROW5 : Hid (KRow w5 rb sa n cap sk lo 0 0 (fun _ => 0)) := ROW4.out.kept hb5 ROW4.out.lt
  have X5 : Hid (Boxed w5 (w.heap.size + 1) 45 0 none 0 0) := X4.out.kept hb5 rfl
  have HY : Hid (IsBits y (bitsOf g n)) := hy
  clear hb5 hy y0 y1 z0 z1 S4 S3 ROW4 HROW X4 X3 Y3
  go_wp2_with fail
  refine (closed_any rb y sk n _ _ w5 hn60 ROW5.out.c1 ROW5.out.lt HSK.out (behind_le _ n) HY.out (bitsOf_le g n)).mono ?_
  rintro e w6 ⟨x6, rfl, hx6, hw6⟩
  rw [hw6]
  obtain rfl := HX.out.uniq hx6
  clear hx6 hw6 w6
  go_wp2_with fail
  refine (pvec_any x n m w5 HX.out.lt hn60 HM.out).mono ?_
  rintro e w7 ⟨s3, c3, rfl, hb7, ho7⟩
  unfold vecV
  obtain ⟨a0, a1, a2, a3⟩ := (X5.out.kept hb7 rfl).four
  have xlt := (X5.out.kept hb7 rfl).lt
  have xlt5 := X5.out.lt
  have S7 : Hid (Since w w7) := since_call S5.out hb7
  have O7 : Hid (OwnS w7 w5.heap.size s3 m (wordsN x)) := ho7
  clear hb7 ho7
  go_wp2_with fail
  refine bodyPost_ret (v := vecV ((n : Int) + 1) s3 m c3) (by simp [results, Try.results30, go_sem, vecV, a0, a1]) rfl ?_
  refine ⟨_, _, rfl, (since_set (since_set S7.out (by show w.heap.size ≤ w.heap.size + 1; omega)) (by show w.heap.size ≤ w.heap.size + 1; omega)).below, ?_⟩
  rcases O7.out with h | ⟨g5, h1, h2, h3⟩
  · exact Or.inl h
  · exact Or.inr ⟨g5, h1, by omega, (h3.setOther _ _ (by show w.heap.size + 1 ≠ g5; omega)).setOther _ _ (by show w.heap.size + 1 ≠ g5; omega)⟩
end Go.Proofs.Ytlgnplnmcdjbiaa
namespace Go.Proofs.Ytlgnplnmcdjbiaa
open Go.RowKit

open Classical in
set_option maxRecDepth 100000 in
set_option maxHeartbeats 4000000 in
theorem l07Vec_any (sa : Option Addr) (n cap : Nat) (f : Nat → Cel) (b : Int) (sv : Option Addr) (m cv : Nat) (g : Nat → Int) (w : World) (hn : n ≤ maxLen) (hr : CRow w w.heap.size sa n f) (hc : ∀ i, i < n → (f i).c.size ≤ maxLen) (hm : m ≤ 1048576) (hv : Row w w.heap.size sv m g) :
    Calls Try.prog 106 #[.slice sa n cap, .agg #[.int .i64 b, .slice sv m cv]] w fun e w' => e = .returned (.bool (decide (CellsOk n f ∧ OfRow b m g n))) ∧ Below w.heap.size w w' := by
  have q1 := boxing w 45 b sv m cv
  have HK : Hid (∀ W, Since w W → Calls Try.prog 123 #[.slice sa n cap] W fun e w' => e = .returned (.bool (decide (CellsOk n f))) ∧ Below W.heap.size W w') := fun W hW => specKRight_any sa n cap f W hn (hr.late hW.below) hc
  have HV : Hid (∀ W, Since w W → Calls Try.prog 125 #[.agg #[.int .i64 b, .slice sv m cv]] W fun e w' => e = .returned (.bool (decide (Right b m g))) ∧ Below W.heap.size W w') := fun W hW => specRight_any b sv m cv g W hm (row_since hv hW)
  clear hr hv hc hn
  by_cases h1 : CellsOk n f
  · have hn60 := h1.2.1
    by_cases h2 : Right b m g
    · have h3 : Hid ((b == (n : Int) + 1) = decide (CellsOk n f ∧ OfRow b m g n)) := by
        show (b == (n : Int) + 1) = _
        by_cases h4 : b = (n : Int) + 1
        · rw [decide_eq_true (show CellsOk n f ∧ OfRow b m g n from ⟨h1, h2, h4⟩)]; simpa using h4
        · rw [decide_eq_false (show ¬ (CellsOk n f ∧ OfRow b m g n) from fun h => h4 h.2.2)]; simpa using h4
      rw [decide_eq_true h1] at HK
      rw [decide_eq_true h2] at HV
      generalize decide (CellsOk n f ∧ OfRow b m g n) = r at *
      clear h1 h2
      go_enter Try.func106, Try.ntmps106
      go_wp2_with fail
      generalize w.alloc (.cells #[.int .i64 b, .slice sv m cv] 45) = v1 at *
      obtain ⟨y0, y1⟩ := q1.2.1.cells
      have ylt := q1.2.1.lt
      have S1 : Hid (Since w v1) := ⟨q1.1⟩
      have Y1 : Hid (Boxed v1 w.heap.size 45 b sv m cv) := q1.2.1
      clear q1
      first | (go_region_with (first | (go_at_call 123; refine (HK.out _ (since_drew S1.out)).mono ?_; rintro e w2 ⟨rfl, hb2⟩; have S2 : Hid (Since w w2) := since_call (since_drew S1.out) hb2; have Y2 : Hid (Boxed w2 w.heap.size 45 b sv m cv) := Y1.out.drew.kept hb2 rfl; obtain ⟨k0, k1⟩ := Y2.out.cells; have kl := Y2.out.lt; clear hb2) | (go_at_call 125; refine (HV.out _ S2.out).mono ?_; rintro e w3 ⟨rfl, hb3⟩; have S3 : Hid (Since w w3) := since_call S2.out hb3; obtain ⟨j0, j1⟩ := (Y2.out.kept hb3 rfl).cells; have jl := (Y2.out.kept hb3 rfl).lt; clear hb3) | (go_at_call 165; refine (bits_spec _ _ _ _ hn60).mono ?_; rintro e w9 ⟨rfl, hw9⟩; rw [hw9]; clear hw9 w9))) | fail
      all_goals
        go_wp2_with fail
        go_ret
        exact ⟨by rw [h3.out]; rfl, S3.out.below⟩
    · rw [decide_eq_false (show ¬ (CellsOk n f ∧ OfRow b m g n) from fun h => h2 h.2.1)]
      rw [decide_eq_true h1] at HK
      rw [decide_eq_false h2] at HV
      clear h1 h2
      go_enter Try.func106, Try.ntmps106
      go_wp2_with fail
      generalize w.alloc (.cells #[.int .i64 b, .slice sv m cv] 45) = v1 at *
      obtain ⟨y0, y1⟩ := q1.2.1.cells
      have ylt := q1.2.1.lt
      have S1 : Hid (Since w v1) := ⟨q1.1⟩
      have Y1 : Hid (Boxed v1 w.heap.size 45 b sv m cv) := q1.2.1
      clear q1
      first | (go_region_with (first | (go_at_call 123; refine (HK.out _ (since_drew S1.out)).mono ?_; rintro e w2 ⟨rfl, hb2⟩; have S2 : Hid (Since w w2) := since_call (since_drew S1.out) hb2; have Y2 : Hid (Boxed w2 w.heap.size 45 b sv m cv) := Y1.out.drew.kept hb2 rfl; obtain ⟨k0, k1⟩ := Y2.out.cells; have kl := Y2.out.lt; clear hb2) | (go_at_call 125; refine (HV.out _ S2.out).mono ?_; rintro e w3 ⟨rfl, hb3⟩; have S3 : Hid (Since w w3) := since_call S2.out hb3; obtain ⟨j0, j1⟩ := (Y2.out.kept hb3 rfl).cells; have jl := (Y2.out.kept hb3 rfl).lt; clear hb3) | (go_at_call 165; refine (bits_spec _ _ _ _ hn60).mono ?_; rintro e w9 ⟨rfl, hw9⟩; rw [hw9]; clear hw9 w9))) | fail
      all_goals
        go_wp2_with fail
        go_ret
        exact ⟨rfl, S3.out.below⟩
  · rw [decide_eq_false (show ¬ (CellsOk n f ∧ OfRow b m g n) from fun h => h1 h.1)]
    rw [decide_eq_false h1] at HK
    clear h1 HV
    go_enter Try.func106, Try.ntmps106
    go_wp2_with fail
    generalize w.alloc (.cells #[.int .i64 b, .slice sv m cv] 45) = v1 at *
    obtain ⟨y0, y1⟩ := q1.2.1.cells
    have ylt := q1.2.1.lt
    have S1 : Hid (Since w v1) := ⟨q1.1⟩
    have Y1 : Hid (Boxed v1 w.heap.size 45 b sv m cv) := q1.2.1
    clear q1
    first | (go_region_with (first | (go_at_call 123; refine (HK.out _ (since_drew S1.out)).mono ?_; rintro e w2 ⟨rfl, hb2⟩; have S2 : Hid (Since w w2) := since_call (since_drew S1.out) hb2; have Y2 : Hid (Boxed w2 w.heap.size 45 b sv m cv) := Y1.out.drew.kept hb2 rfl; obtain ⟨k0, k1⟩ := Y2.out.cells; have kl := Y2.out.lt; clear hb2))) | fail
    all_goals
      go_wp2_with fail
      go_ret
      exact ⟨rfl, S2.out.below⟩
end Go.Proofs.Ytlgnplnmcdjbiaa
namespace Go.Proofs.Ytlgnplnmcdjbiaa
open Go.RowKit

open Classical in
set_option maxRecDepth 100000 in
set_option maxHeartbeats 4000000 in
theorem specClo_no (sa : Option Addr) (n cap : Nat) (f : Nat → Cel) (b : Int) (sv : Option Addr) (m cv : Nat) (g : Nat → Int) (w : World) (hn : n ≤ maxLen) (hr : CRow w w.heap.size sa n f) (hc : ∀ i, i < n → (f i).c.size ≤ maxLen) (hm : m ≤ 1048576) (hv : Row w w.heap.size sv m g) (h : ¬ CloP n f b m g) :
    Calls Try.prog 34 #[.slice sa n cap, .agg #[.int .i64 b, .slice sv m cv]] w fun e w' => NewVec w 0 0 (fun _ => 0) e w' := by
  have q1 := boxing w 45 b sv m cv
  have q2 := boxing (w.alloc (.cells #[.int .i64 b, .slice sv m cv] 45)) 45 0 none 0 0
  have S2 : Hid (Since w ((w.alloc (.cells #[.int .i64 b, .slice sv m cv] 45)).alloc (.cells #[.int .i64 0, .slice none 0 0] 45))) := since_call (since_call (since_refl _) q1.1) q2.1
  have C := l07Vec_any sa n cap f b sv m cv g _ hn ((hr.kept S2.out.below).up S2.out.size) hc hm (row_since hv S2.out)
  rw [decide_eq_false (show ¬ (CellsOk n f ∧ OfRow b m g n) from h)] at C
  have X2 := q2.2.1
  rw [q1.2.2] at X2
  have Y2 := q1.2.1.kept q2.1 rfl
  clear hn hr hc hm hv h q1 q2
  go_enter Try.func34, Try.ntmps34
  go_wp2_with fail
  generalize (w.alloc (.cells #[.int .i64 b, .slice sv m cv] 45)).alloc (.cells #[.int .i64 0, .slice none 0 0] 45) = v2 at *
  refine C.mono ?_
  rintro e w3 ⟨rfl, hb3⟩
  obtain ⟨a0, a1, a2, a3⟩ := (X2.kept hb3 rfl).four
  have xlt := (X2.kept hb3 rfl).lt
  have S3 : Hid (Since w w3) := since_call S2.out hb3
  clear C hb3 X2 Y2 S2
  go_wp2_with fail
  refine bodyPost_ret (v := vecV 0 none 0 0) (by simp [results, Try.results34, go_sem, vecV, a0, a1]) rfl ?_
  exact newVec_zero S3.out (by omega)
open Classical in
set_option maxRecDepth 100000 in
set_option maxHeartbeats 4000000 in
theorem specClo_yes (sa : Option Addr) (n cap : Nat) (f : Nat → Cel) (sv : Option Addr) (m cv x : Nat) (g : Nat → Int) (w : World) (hn : n ≤ maxLen) (hr : CRow w w.heap.size sa n f) (hc : ∀ i, i < n → (f i).c.size ≤ maxLen) (hv : Row w w.heap.size sv m g) (hk : CellsOk n f) (hm : m = (n + 1 + 31) / 32) (hR : Right ((n : Int) + 1) m g) (hx : IsBits x (cloB (skipB f n) (bitsOf g n))) :
    Calls Try.prog 34 #[.slice sa n cap, .agg #[.int .i64 ((n : Int) + 1), .slice sv m cv]] w fun e w' => NewVec w ((n : Int) + 1) m (wordsN x) e w' := by
  have q1 := boxing w 45 ((n : Int) + 1) sv m cv
  have q2 := boxing (w.alloc (.cells #[.int .i64 ((n : Int) + 1), .slice sv m cv] 45)) 45 0 none 0 0
  have S2 : Hid (Since w ((w.alloc (.cells #[.int .i64 ((n : Int) + 1), .slice sv m cv] 45)).alloc (.cells #[.int .i64 0, .slice none 0 0] 45))) := since_call (since_call (since_refl _) q1.1) q2.1
  have hn60 := hk.2.1
  have C := l07Vec_any sa n cap f ((n : Int) + 1) sv m cv g _ hn ((hr.kept S2.out.below).up S2.out.size) hc (by omega) (row_since hv S2.out)
  rw [decide_eq_true (show CellsOk n f ∧ OfRow ((n : Int) + 1) m g n from ⟨hk, hR, rfl⟩)] at C
  have HC : Hid (∀ W, Since w W → Calls Try.prog 107 #[.slice sa n cap, .agg #[.int .i64 ((n : Int) + 1), .slice sv m cv]] W fun e w' => NewVec W ((n : Int) + 1) m (wordsN x) e w') := fun W hW =>
    (l07Close_any sa n cap m f sv cv g (bitsOf g n) W hn60 ((hr.kept hW.below).up hW.size) hm (row_since hv hW) (vecIs_right hm hR) (bitsOf_le g n)).mono (fun _ _ h => newBits_words h hx)
  have X2 := q2.2.1
  rw [q1.2.2] at X2
  have Y2 := q1.2.1.kept q2.1 rfl
  clear hn hr hc hm hv hk hR hx q1 q2
  go_enter Try.func34, Try.ntmps34
  go_wp2_with fail
  generalize (w.alloc (.cells #[.int .i64 ((n : Int) + 1), .slice sv m cv] 45)).alloc (.cells #[.int .i64 0, .slice none 0 0] 45) = v2 at *
  refine C.mono ?_
  rintro e w3 ⟨rfl, hb3⟩
  have X3 : Hid (Boxed w3 (w.heap.size + 1) 45 0 none 0 0) := X2.kept hb3 rfl
  obtain ⟨y0, y1⟩ := (Y2.kept hb3 rfl).cells
  have ylt := (Y2.kept hb3 rfl).lt
  have S3 : Hid (Since w w3) := since_call S2.out hb3
  clear C hb3 X2 Y2 S2
  go_wp2_with fail
  refine (HC.out w3 S3.out).mono ?_
  rintro e w5 ⟨s3, c3, rfl, hb5, ho5⟩
  unfold vecV
  obtain ⟨a0, a1, a2, a3⟩ := (X3.out.kept hb5 rfl).four
  have xlt := (X3.out.kept hb5 rfl).lt
  have xlt5 := X3.out.lt
  have S5 : Hid (Since w w5) := since_call S3.out hb5
  have O5 : Hid (OwnS w5 w3.heap.size s3 m (wordsN x)) := ho5
  clear hb5 ho5 y0 y1 ylt
  go_wp2_with fail
  refine bodyPost_ret (v := vecV ((n : Int) + 1) s3 m c3) (by simp [results, Try.results34, go_sem, vecV, a0, a1]) rfl ?_
  refine ⟨_, _, rfl, (since_set (since_set S5.out (by show w.heap.size ≤ w.heap.size + 1; omega)) (by show w.heap.size ≤ w.heap.size + 1; omega)).below, ?_⟩
  rcases O5.out with h | ⟨g5, h1, h2, h3⟩
  · exact Or.inl h
  · exact Or.inr ⟨g5, h1, by omega, (h3.setOther _ _ (by show w.heap.size + 1 ≠ g5; omega)).setOther _ _ (by show w.heap.size + 1 ≠ g5; omega)⟩
end Go.Proofs.Ytlgnplnmcdjbiaa
namespace Go.Proofs.Ytlgnplnmcdjbiaa
open Go.RowKit

/-- A row with its masks, in its block. -/
structure MRow (W : World) (r b fi la bl st fin : Nat) : Prop where
  c0 : W.cell? ⟨r, 0, none⟩ = some (.pointer (some ⟨b, 0, none⟩))
  c1 : W.cell? ⟨r, 1, none⟩ = some (.int .u64 (fi : Int))
  c2 : W.cell? ⟨r, 2, none⟩ = some (.int .u64 (la : Int))
  c3 : W.cell? ⟨r, 3, none⟩ = some (.int .u64 (bl : Int))
  c4 : W.cell? ⟨r, 4, none⟩ = some (.int .u64 (st : Int))
  c5 : W.cell? ⟨r, 5, none⟩ = some (.int .u64 (fin : Int))
  lt : r < W.heap.size
theorem MRow.kept {W W' : World} {B r b fi la bl st fin : Nat} (h : MRow W r b fi la bl st fin) (hb : Below B W W') (hB : r < B) : MRow W' r b fi la bl st fin :=
  ⟨by rw [hb.cell (p := ⟨r, 0, none⟩) hB]; exact h.c0, by rw [hb.cell (p := ⟨r, 1, none⟩) hB]; exact h.c1, by rw [hb.cell (p := ⟨r, 2, none⟩) hB]; exact h.c2, by rw [hb.cell (p := ⟨r, 3, none⟩) hB]; exact h.c3, by rw [hb.cell (p := ⟨r, 4, none⟩) hB]; exact h.c4, by rw [hb.cell (p := ⟨r, 5, none⟩) hB]; exact h.c5, Nat.lt_of_lt_of_le h.lt hb.size⟩
theorem MRow.grown {W W' : World} {g r b fi la bl st fin : Nat} (h : MRow W r b fi la bl st fin) (hg : W.grownBy W' (some g)) (hne : r ≠ g) : MRow W' r b fi la bl st fin := by
  have hb := hg.block r h.lt (fun e => hne (by injection e))
  refine ⟨?_, ?_, ?_, ?_, ?_, ?_, Nat.lt_of_lt_of_le h.lt hg.size⟩
  · have := h.c0
    simpa [World.cell?, hb] using this
  · have := h.c1
    simpa [World.cell?, hb] using this
  · have := h.c2
    simpa [World.cell?, hb] using this
  · have := h.c3
    simpa [World.cell?, hb] using this
  · have := h.c4
    simpa [World.cell?, hb] using this
  · have := h.c5
    simpa [World.cell?, hb] using this
/-- What the masks of a row hold. -/
structure MasksOk (S : Nat → Bool) (n fi la bl st fin : Nat) : Prop where
  h0 : S 0 = false
  hS : ∀ j, n < j → S j = false
  f : IsBits fi (firstB S)
  l : IsBits la (lastB S)
  b : IsBits bl S
  s : IsBits st (fun j => decide (0 = j))
  e : IsBits fin (fun j => decide (n = j))
set_option maxRecDepth 100000 in
set_option maxHeartbeats 4000000 in
theorem once_any (r b a fi la bl st fin n : Nat) (S A : Nat → Bool) (w : World) (hn : n ≤ 60) (hr : MRow w r b fi la bl st fin) (hm : MasksOk S n fi la bl st fin) (ha : IsBits a A) (hA : ∀ j, n < j → A j = false) :
    Calls Try.prog 187 #[.pointer (some ⟨r, 0, none⟩), .int .u64 (a : Int)] w fun e w' => ∃ x : Nat, e = .returned (.int .u64 (x : Int)) ∧ IsBits x (cloB S A) ∧ Below w.heap.size w w' := by
  obtain ⟨c0, c1, c2, c3, c4, c5, hlt⟩ := hr
  obtain ⟨hle, hX⟩ := clo_sub (n := n) (by omega) hm.h0 hm.hS hA ha hm.b hm.f hm.l
  have hd := ha.or hm.l
  have e1 : bits .or .u64 (a : Int) (la : Int) = ((a ||| la : Nat) : Int) := or64 ha.lt hm.l.lt
  have hdl := hd.lt
  have hfl := hm.f.lt
  have hbl := hm.b.lt
  have hal := ha.lt
  have HX : Hid (IsBits (a ||| (bl ^^^ (bl &&& (((a ||| la) - fi) ^^^ (a ||| la))))) (cloB S A)) := hX
  have hsl : (a ||| la) - fi < 18446744073709551616 := by omega
  have e2 : bits .xor .u64 ((((a ||| la) - fi : Nat)) : Int) ((a ||| la : Nat) : Int) = ((((a ||| la) - fi) ^^^ (a ||| la) : Nat) : Int) := xor64 hsl hdl
  have e3 : bits .andNot .u64 (bl : Int) (((((a ||| la) - fi) ^^^ (a ||| la) : Nat)) : Int) = ((bl ^^^ (bl &&& (((a ||| la) - fi) ^^^ (a ||| la))) : Nat) : Int) := andNot64 hbl
  have hvl : bl ^^^ (bl &&& (((a ||| la) - fi) ^^^ (a ||| la))) < 18446744073709551616 := Nat.xor_lt_two_pow (n := 64) hbl (and_lt64 hbl)
  have e4 : bits .or .u64 (a : Int) ((bl ^^^ (bl &&& (((a ||| la) - fi) ^^^ (a ||| la))) : Nat) : Int) = ((a ||| (bl ^^^ (bl &&& (((a ||| la) - fi) ^^^ (a ||| la)))) : Nat) : Int) := or64 hal hvl
  generalize a ||| (bl ^^^ (bl &&& (((a ||| la) - fi) ^^^ (a ||| la)))) = x at *
  generalize bl ^^^ (bl &&& (((a ||| la) - fi) ^^^ (a ||| la))) = v at *
  generalize ((a ||| la) - fi) ^^^ (a ||| la) = y at *
  generalize a ||| la = d at *
  have hsub : ((d - fi : Nat) : Int) = (d : Int) - (fi : Int) := by omega
  rw [hsub] at e2
  have hwr : IntKind.u64.wrap ((d : Int) - (fi : Int)) = (d : Int) - (fi : Int) := by rw [IntKind.wrap_u64]; omega
  clear hm ha hA hd hX hsl hvl hal hsub
  go_enter Try.func187, Try.ntmps187
  go_wp2_with fail
  go_quiet (fail)
  go_wp2_with fail
  go_ret
  exact ⟨x, rfl, HX.out, ⟨rfl, rfl, rfl, Nat.le_refl _, fun _ _ => rfl⟩⟩
end Go.Proofs.Ytlgnplnmcdjbiaa
