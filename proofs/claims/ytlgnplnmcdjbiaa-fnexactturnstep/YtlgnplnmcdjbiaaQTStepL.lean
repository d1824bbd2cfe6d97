/- What is proved here: the law of TurnStep walks to true, where the specification's function and the program's hand back the same in new memory; nothing that was there turns. -/
import Derived.Test.YtlgnplnmcdjbiaaQCellDToCellS
import Derived.Test.YtlgnplnmcdjbiaaQOneWToCellMkW
import Derived.Test.YtlgnplnmcdjbiaaQRowsDToVecS
import Derived.Test.YtlgnplnmcdjbiaaQRowsMarkWToVecSMarkW
import Derived.Test.YtlgnplnmcdjbiaaQRowsWToVecH
import Derived.Test.YtlgnplnmcdjbiaaQStepDToStepHW
import Derived.Deep.RegionWith
import Derived.Deep.DeepCutAuto
namespace Go.Proofs.Ytlgnplnmcdjbiaa
open Go.RowKit

theorem COwn.slTurnStep {W : World} {g n lo : Nat} {f : Nat → Cel} (h : COwn W g n f) (hl : lo ≤ g) : CSl W lo W.heap.size (some ⟨g, 0, none⟩) n f := Or.inr ⟨g, rfl, hl, h.lt, h⟩
set_option maxRecDepth 100000 in
set_option maxHeartbeats 8000000 in
theorem law_TurnStep (sa : Option Addr) (n cap : Nat) (f : Nat → Cel) (b1 : Int) (sa1 : Option Addr) (n1 ca1 : Nat) (f1 : Nat → Int) (en : Int) (ro : Int) (rn : Nat) (rf : Nat → Int) (rh : Bool) (w : World) (hn : n ≤ maxLen) (hr : CRow w w.heap.size sa n f) (hc : ∀ i, i < n → (f i).c.size ≤ maxLen) (hm1 : n1 ≤ maxLen) (hr1 : Row w w.heap.size sa1 n1 f1) (hrn : rn ≤ 1048576)
    (hs : n ≤ 1048576 → (∀ i, i < n → (f i).c.size ≤ 1048576) → n1 ≤ 1048576 → ∀ (W : World) (x : Option Addr) (k : Nat) (x1 : Option Addr) (k1 : Nat), CRow W W.heap.size x n f → Row W W.heap.size x1 n1 f1 → Calls Try.prog 68 #[.slice x n k, .agg #[.int .i64 b1, .slice x1 n1 k1], .int .i64 en] W fun e W' => NewStep W ro rn rf rh e W')
    (hi : n ≤ 1048576 → (∀ i, i < n → (f i).c.size ≤ 1048576) → n1 ≤ 1048576 → ∀ (W : World) (x : Option Addr) (k : Nat) (x1 : Option Addr) (k1 : Nat), CRow W W.heap.size x n f → Row W W.heap.size x1 n1 f1 → Calls Try.prog 69 #[.slice x n k, .agg #[.int .i64 b1, .slice x1 n1 k1], .int .i64 en] W fun e W' => NewStep W ro rn rf rh e W') :
    Calls Try.prog 9 #[.slice sa n cap, .agg #[.int .i64 b1, .slice sa1 n1 ca1], .int .i64 en] w fun e w' => e = .returned (.bool true) ∧ Below w.heap.size w w' := by
  have HR : Hid (CRow w w.heap.size sa n f) := hr
  have HR1 : Hid (Row w w.heap.size sa1 n1 f1) := hr1
  have q1 := boxing w 68 b1 sa1 n1 ca1
  have hr9 := hr.late q1.1
  clear hr hr1
  go_enter Try.func9, Try.ntmps9
  go_wp2_with fail
  generalize w.alloc (.cells #[.int .i64 b1, .slice sa1 n1 ca1] 68) = v0 at *
  refine (szCells_le sa n cap f v0 hn hr9 hc).mono ?_
  rintro e w0 ⟨⟨z, rfl, hz⟩, hb⟩
  have B_0 : Hid (Below w.heap.size w w0) := q1.1.trans (hb.mono q1.1.size)
  have A_0 : Hid (Boxed w0 w.heap.size 68 b1 sa1 n1 ca1) := q1.2.1.kept hb rfl
  have Z_0 : Hid (w.heap.size < w0.heap.size) := (q1.2.1.kept hb rfl).lt
  clear hb q1 hr9 hc hn
  rcases hz with hz | ⟨hz, hz1, hl, hcs⟩
  · clear hs hi
    go_wp2_with fail
    go_ret
    exact ⟨rfl, B_0.out⟩
  have hz' : ¬ z < 0 := by omega
  obtain ⟨cA0, cA1⟩ := A_0.out.cells
  have lA := A_0.out.lt
  go_wp2_with fail
  refine (szVec_any b1 sa1 n1 ca1 z w0 hm1 hz hz1).mono ?_
  clear cA0 cA1 lA
  rintro e w1 ⟨rfl, hb⟩
  have B_1 : Hid (Below w.heap.size w w1) := B_0.out.trans (hb.mono B_0.out.size)
  have A_1 : Hid (Boxed w1 w.heap.size 68 b1 sa1 n1 ca1) := A_0.out.kept hb rfl
  have Z_1 : Hid (w0.heap.size ≤ w1.heap.size) := hb.size
  clear hb B_0 A_0
  by_cases hbig : z < (n1 : Int)
  · have hzo : szOf n1 z = -1 := by unfold szOf; rw [if_pos hbig]
    rw [hzo]
    clear hs hi
    go_wp2_with fail
    go_ret
    exact ⟨rfl, B_1.out⟩
  have hzo : szOf n1 z = z - (n1 : Int) := by unfold szOf; rw [if_neg hbig]
  have hzn : ¬ z - (n1 : Int) < 0 := by omega
  rw [hzo]
  have hl1 : n1 ≤ 1048576 := by omega
  have HS : Hid (∀ (W : World) (x : Option Addr) (k : Nat) (x1 : Option Addr) (k1 : Nat), CRow W W.heap.size x n f → Row W W.heap.size x1 n1 f1 → Calls Try.prog 68 #[.slice x n k, .agg #[.int .i64 b1, .slice x1 n1 k1], .int .i64 en] W fun e W' => NewStep W ro rn rf rh e W') := hs hl hcs hl1
  have HI : Hid (∀ (W : World) (x : Option Addr) (k : Nat) (x1 : Option Addr) (k1 : Nat), CRow W W.heap.size x n f → Row W W.heap.size x1 n1 f1 → Calls Try.prog 69 #[.slice x n k, .agg #[.int .i64 b1, .slice x1 n1 k1], .int .i64 en] W fun e W' => NewStep W ro rn rf rh e W') := hi hl hcs hl1
  clear hs hi hcs
  have RC : Hid (CRow w1 w1.heap.size sa n f) := HR.out.late B_1.out
  have RV : Hid (Row w1 w1.heap.size sa1 n1 f1) := row_since HR1.out ⟨B_1.out⟩
  go_upto_region 8 with fail
  go_cut [8] (fun pv wc => CutS w1 ro rn rf rh pv wc)
  case first =>
    obtain ⟨cA0, cA1⟩ := A_1.out.cells
    have lA := A_1.out.lt
    go_region_with (first
      | (go_at_call 62; refine (toCells_ex sa n cap f _ hl (RC.out.late (Since.below (by first | assumption | exact since_drew (since_refl _) | exact since_alloc (since_drew (since_refl _)) | exact since_alloc (by assumption))))).mono ?_; rintro e w' ⟨s0, rfl, hb, ho⟩; (try (have hbx : SBox w' _ 0 none 0 0 false := SBox.kept (by first | assumption | exact heap_alloc_new _ _) hb rfl; obtain ⟨d0, d1, d2, d3, d4, d5⟩ := hbx.six)); have hS : Since w1 w' := (by refine since_call ?_ hb; first | assumption | exact since_drew (since_refl _) | exact since_alloc (since_drew (since_refl _)) | exact since_alloc (by assumption)); have HCR : Hid (∀ X, Since w' X → CRow X X.heap.size s0 n f) := (fun X hX => ho.late hX.below); clear ho; obtain ⟨cA0, cA1⟩ := (A_1.out.since hS).cells; have lA := (A_1.out.since hS).lt)
      | (go_at_call 54; refine (toVec_any b1 sa1 n1 ca1 f1 _ hl1 (row_since RV.out (by first | assumption | exact since_drew (since_refl _) | exact since_alloc (since_drew (since_refl _)) | exact since_alloc (by assumption)))).mono ?_; rintro e w'' ⟨s, c, rfl, hb, ho⟩; (try (have hbx : SBox w'' _ 0 none 0 0 false := SBox.kept (by first | assumption | exact heap_alloc_new _ _) hb rfl; obtain ⟨d0, d1, d2, d3, d4, d5⟩ := hbx.six)); have hS2 : Since w' w'' := (by refine since_call ?_ hb; first | exact since_refl _ | exact since_alloc (since_refl _)); have hS3 : Since w1 w'' := (since_call hS hS2.below); have HVR : Hid (∀ X, Since w'' X → Row X X.heap.size s n1 f1) := (fun X hX => ownS_since ho hX); have HCR2 : Hid (∀ X, Since w'' X → CRow X X.heap.size s0 n f) := (fun X hX => HCR.out X (since_call hS2 hX.below)); clear ho; obtain ⟨cA0, cA1⟩ := (A_1.out.since hS3).cells; have lA := (A_1.out.since hS3).lt; unfold vecV)
      | (go_at_call 68; refine (HS.out _ _ _ _ _ (HCR2.out _ (by first | exact since_refl _ | exact since_alloc (since_refl _))) (HVR.out _ (by first | exact since_refl _ | exact since_alloc (since_refl _)))).mono ?_; rintro e w3' ⟨sx, cx, rfl, hb, ho⟩; (try (have hbx : SBox w3' _ 0 none 0 0 false := SBox.kept (by first | assumption | exact heap_alloc_new _ _) hb rfl; obtain ⟨d0, d1, d2, d3, d4, d5⟩ := hbx.six)); have hS4 : Since w1 w3' := (by refine since_call ?_ hb; first | exact hS3 | exact since_alloc hS3); unfold stepV))
    all_goals
      go_wp2_with fail
      go_meet
      case rel => first
        | exact cutS_late hS4 (by first | exact Since.size hS3 | exact Since.size (since_alloc hS3)) ho
        | exact cutS_early hS4 (by assumption) (by first | exact Nat.le_refl _ | exact Since.size (by assumption)) (by first | exact SBox.lt (by assumption) | simp) ho
  case rest =>
    obtain ⟨pS, sS, cS, rfl, hS, hp1, hp2, hx, hsl⟩ := hcut
    obtain ⟨w2, hw2⟩ : ∃ y, y = wc := ⟨_, rfl⟩
    rw [← hw2] at hS hp2 hx hsl ⊢
    clear hw2
    have Z_2 : Hid (w1.heap.size ≤ pS ∧ pS < w2.heap.size) := ⟨hp1, hp2⟩
    have Z_3 : Hid (w1.heap.size ≤ w2.heap.size) := hS.size
    have B_4 : Hid (Below w.heap.size w w2) := B_1.out.trans (hS.below.mono B_1.out.size)
    have A_5 : Hid (Boxed w2 w.heap.size 68 b1 sa1 n1 ca1) := A_1.out.kept hS.below rfl
    clear B_1 A_1
    have QS_n : Hid (SBox w2 pS ro sS rn cS rh) := hx
    have S_n : Hid (Slice w2 w1.heap.size w2.heap.size sS rn rf) := hsl
    clear hS hp1 hp2 hx hsl RC RV
    obtain ⟨cA0, cA1⟩ := A_5.out.cells
    have lA := A_5.out.lt
    obtain ⟨cQS0, cQS1, cQS2⟩ := QS_n.out.cells
    have lQS := QS_n.out.lt
    go_wp2_with fail
    refine (toCells_any sa n cap f w2 hl (HR.out.late B_4.out)).mono ?_
    clear cA0 cA1 lA cQS0 cQS1 cQS2 lQS
    rintro e w3 ⟨rfl, hb, ho⟩
    have X_n : Hid (CSl w3 w2.heap.size w3.heap.size (some ⟨w2.heap.size, 0, none⟩) n f) := ho.slTurnStep (Nat.le_refl _)
    clear ho
    have Z_6 : Hid (w2.heap.size ≤ w3.heap.size) := hb.size
    have B_7 : Hid (Below w.heap.size w w3) := B_4.out.trans (hb.mono B_4.out.size)
    have A_8 : Hid (Boxed w3 w.heap.size 68 b1 sa1 n1 ca1) := A_5.out.kept hb rfl
    have QS_9 : Hid (SBox w3 pS ro sS rn cS rh) := QS_n.out.kept hb rfl
    have S_10 : Hid (Slice w3 w1.heap.size w2.heap.size sS rn rf) := S_n.out.kept hb rfl
    clear B_4 A_5 QS_n S_n
    clear hb
    obtain ⟨cA0, cA1⟩ := A_8.out.cells
    have lA := A_8.out.lt
    obtain ⟨cQS0, cQS1, cQS2⟩ := QS_9.out.cells
    have lQS := QS_9.out.lt
    go_wp2_with fail
    refine (toVec_any b1 sa1 n1 ca1 f1 _ hl1 ((HR1.out.kept B_7.out).up B_7.out.size)).mono ?_
    clear cA0 cA1 lA cQS0 cQS1 cQS2 lQS
    rintro e w4 ⟨sV, cV, rfl, hb, ho⟩
    unfold vecV
    have V_n : Hid (Slice w4 w3.heap.size w4.heap.size sV n1 f1) := ho.slice
    clear ho
    have Z_11 : Hid (w3.heap.size ≤ w4.heap.size) := hb.size
    have B_12 : Hid (Below w.heap.size w w4) := B_7.out.trans (hb.mono B_7.out.size)
    have A_13 : Hid (Boxed w4 w.heap.size 68 b1 sa1 n1 ca1) := A_8.out.kept hb rfl
    have QS_14 : Hid (SBox w4 pS ro sS rn cS rh) := QS_9.out.kept hb rfl
    have S_15 : Hid (Slice w4 w1.heap.size w2.heap.size sS rn rf) := S_10.out.kept hb rfl
    have X_16 : Hid (CSl w4 w2.heap.size w3.heap.size (some ⟨w2.heap.size, 0, none⟩) n f) := X_n.out.kept hb
    clear B_7 A_8 QS_9 S_10 X_n
    clear hb
    obtain ⟨cA0, cA1⟩ := A_13.out.cells
    have lA := A_13.out.lt
    obtain ⟨cQS0, cQS1, cQS2⟩ := QS_14.out.cells
    have lQS := QS_14.out.lt
    go_wp2_with fail
    clear cA0 cA1 lA cQS0 cQS1 cQS2 lQS
    have hq := boxing w4 45 b1 sV n1 cV
    generalize w4.alloc (.cells #[.int .i64 b1, .slice sV n1 cV] 45) = v5 at *
    obtain ⟨hb, hx, hz9⟩ := hq
    have Z_17 : Hid (v5.heap.size = w4.heap.size + 1) := hz9
    have B_18 : Hid (Below w.heap.size w v5) := B_12.out.trans (hb.mono B_12.out.size)
    have A_19 : Hid (Boxed v5 w.heap.size 68 b1 sa1 n1 ca1) := A_13.out.kept hb rfl
    have QS_20 : Hid (SBox v5 pS ro sS rn cS rh) := QS_14.out.kept hb rfl
    have S_21 : Hid (Slice v5 w1.heap.size w2.heap.size sS rn rf) := S_15.out.kept hb rfl
    have X_22 : Hid (CSl v5 w2.heap.size w3.heap.size (some ⟨w2.heap.size, 0, none⟩) n f) := X_16.out.kept hb
    have V_23 : Hid (Slice v5 w3.heap.size w4.heap.size sV n1 f1) := V_n.out.kept hb rfl
    clear B_12 A_13 QS_14 S_15 X_16 V_n
    have QV_n : Hid (Boxed v5 w4.heap.size 45 b1 sV n1 cV) := hx
    clear hb hx hz9
    refine (HI.out v5 _ _ _ _ X_22.out.row V_23.out.row).mono ?_
    rintro e w6 ⟨sG, cG, rfl, hb, ho⟩
    unfold stepV
    have G_n : Hid (Slice w6 v5.heap.size w6.heap.size sG rn rf) := ho.slice
    clear ho
    have Z_24 : Hid (v5.heap.size ≤ w6.heap.size) := hb.size
    have B_25 : Hid (Below w.heap.size w w6) := B_18.out.trans (hb.mono B_18.out.size)
    have A_26 : Hid (Boxed w6 w.heap.size 68 b1 sa1 n1 ca1) := A_19.out.kept hb rfl
    have QS_27 : Hid (SBox w6 pS ro sS rn cS rh) := QS_20.out.kept hb rfl
    have S_28 : Hid (Slice w6 w1.heap.size w2.heap.size sS rn rf) := S_21.out.kept hb rfl
    have X_29 : Hid (CSl w6 w2.heap.size w3.heap.size (some ⟨w2.heap.size, 0, none⟩) n f) := X_22.out.kept hb
    have V_30 : Hid (Slice w6 w3.heap.size w4.heap.size sV n1 f1) := V_23.out.kept hb rfl
    have QV_31 : Hid (Boxed w6 w4.heap.size 45 b1 sV n1 cV) := QV_n.out.kept hb rfl
    clear B_18 A_19 QS_20 S_21 X_22 V_23 QV_n
    clear hb
    obtain ⟨cA0, cA1⟩ := A_26.out.cells
    have lA := A_26.out.lt
    obtain ⟨cQS0, cQS1, cQS2⟩ := QS_27.out.cells
    have lQS := QS_27.out.lt
    obtain ⟨cQV0, cQV1⟩ := QV_31.out.cells
    have lQV := QV_31.out.lt
    go_wp2_with fail
    clear cA0 cA1 lA cQS0 cQS1 cQS2 lQS cQV0 cQV1 lQV
    have hq := sboxing w6 ro sG rn cG rh
    generalize w6.alloc (.cells #[.int .i64 ro, .slice sG rn cG, .bool rh] 88) = v7 at *
    obtain ⟨hb, hx, hz9⟩ := hq
    have Z_32 : Hid (v7.heap.size = w6.heap.size + 1) := hz9
    have B_33 : Hid (Below w.heap.size w v7) := B_25.out.trans (hb.mono B_25.out.size)
    have A_34 : Hid (Boxed v7 w.heap.size 68 b1 sa1 n1 ca1) := A_26.out.kept hb rfl
    have QS_35 : Hid (SBox v7 pS ro sS rn cS rh) := QS_27.out.kept hb rfl
    have S_36 : Hid (Slice v7 w1.heap.size w2.heap.size sS rn rf) := S_28.out.kept hb rfl
    have X_37 : Hid (CSl v7 w2.heap.size w3.heap.size (some ⟨w2.heap.size, 0, none⟩) n f) := X_29.out.kept hb
    have V_38 : Hid (Slice v7 w3.heap.size w4.heap.size sV n1 f1) := V_30.out.kept hb rfl
    have QV_39 : Hid (Boxed v7 w4.heap.size 45 b1 sV n1 cV) := QV_31.out.kept hb rfl
    have G_40 : Hid (Slice v7 v5.heap.size w6.heap.size sG rn rf) := G_n.out.kept hb rfl
    clear B_25 A_26 QS_27 S_28 X_29 V_30 QV_31 G_n
    have QG_n : Hid (SBox v7 w6.heap.size ro sG rn cG rh) := hx
    clear hb hx hz9
    refine (eqStep_same ro sG sS rn cG cS rf rh _ hrn G_40.out.row S_36.out.row).mono ?_
    rintro e w8 ⟨rfl, hb⟩
    have Z_41 : Hid (v7.heap.size ≤ w8.heap.size) := hb.size
    have B_42 : Hid (Below w.heap.size w w8) := B_33.out.trans (hb.mono B_33.out.size)
    have A_43 : Hid (Boxed w8 w.heap.size 68 b1 sa1 n1 ca1) := A_34.out.kept hb rfl
    have QS_44 : Hid (SBox w8 pS ro sS rn cS rh) := QS_35.out.kept hb rfl
    have S_45 : Hid (Slice w8 w1.heap.size w2.heap.size sS rn rf) := S_36.out.kept hb rfl
    have X_46 : Hid (CSl w8 w2.heap.size w3.heap.size (some ⟨w2.heap.size, 0, none⟩) n f) := X_37.out.kept hb
    have V_47 : Hid (Slice w8 w3.heap.size w4.heap.size sV n1 f1) := V_38.out.kept hb rfl
    have QV_48 : Hid (Boxed w8 w4.heap.size 45 b1 sV n1 cV) := QV_39.out.kept hb rfl
    have G_49 : Hid (Slice w8 v5.heap.size w6.heap.size sG rn rf) := G_40.out.kept hb rfl
    have QG_50 : Hid (SBox w8 w6.heap.size ro sG rn cG rh) := QG_n.out.kept hb rfl
    clear B_33 A_34 QS_35 S_36 X_37 V_38 QV_39 G_40 QG_n
    clear hb
    obtain ⟨cA0, cA1⟩ := A_43.out.cells
    have lA := A_43.out.lt
    obtain ⟨cQS0, cQS1, cQS2⟩ := QS_44.out.cells
    have lQS := QS_44.out.lt
    obtain ⟨cQV0, cQV1⟩ := QV_48.out.cells
    have lQV := QV_48.out.lt
    obtain ⟨cQG0, cQG1, cQG2⟩ := QG_50.out.cells
    have lQG := QG_50.out.lt
    go_wp2_with fail
    refine (toCells_any sa n cap f w8 hl (HR.out.late B_42.out)).mono ?_
    clear cA0 cA1 lA cQS0 cQS1 cQS2 lQS cQV0 cQV1 lQV cQG0 cQG1 cQG2 lQG
    rintro e w9 ⟨rfl, hb, ho⟩
    have Y_n : Hid (CSl w9 w8.heap.size w9.heap.size (some ⟨w8.heap.size, 0, none⟩) n f) := ho.slTurnStep (Nat.le_refl _)
    clear ho
    have Z_51 : Hid (w8.heap.size ≤ w9.heap.size) := hb.size
    have B_52 : Hid (Below w.heap.size w w9) := B_42.out.trans (hb.mono B_42.out.size)
    have A_53 : Hid (Boxed w9 w.heap.size 68 b1 sa1 n1 ca1) := A_43.out.kept hb rfl
    have QS_54 : Hid (SBox w9 pS ro sS rn cS rh) := QS_44.out.kept hb rfl
    have S_55 : Hid (Slice w9 w1.heap.size w2.heap.size sS rn rf) := S_45.out.kept hb rfl
    have X_56 : Hid (CSl w9 w2.heap.size w3.heap.size (some ⟨w2.heap.size, 0, none⟩) n f) := X_46.out.kept hb
    have V_57 : Hid (Slice w9 w3.heap.size w4.heap.size sV n1 f1) := V_47.out.kept hb rfl
    have QV_58 : Hid (Boxed w9 w4.heap.size 45 b1 sV n1 cV) := QV_48.out.kept hb rfl
    have G_59 : Hid (Slice w9 v5.heap.size w6.heap.size sG rn rf) := G_49.out.kept hb rfl
    have QG_60 : Hid (SBox w9 w6.heap.size ro sG rn cG rh) := QG_50.out.kept hb rfl
    clear B_42 A_43 QS_44 S_45 X_46 V_47 QV_48 G_49 QG_50
    clear hb
    obtain ⟨cA0, cA1⟩ := A_53.out.cells
    have lA := A_53.out.lt
    obtain ⟨cQS0, cQS1, cQS2⟩ := QS_54.out.cells
    have lQS := QS_54.out.lt
    obtain ⟨cQV0, cQV1⟩ := QV_58.out.cells
    have lQV := QV_58.out.lt
    obtain ⟨cQG0, cQG1, cQG2⟩ := QG_60.out.cells
    have lQG := QG_60.out.lt
    go_wp2_with fail
    refine (eqCells_same _ _ n _ _ f w9 hl X_56.out.row Y_n.out.row).mono ?_
    clear cA0 cA1 lA cQS0 cQS1 cQS2 lQS cQV0 cQV1 lQV cQG0 cQG1 cQG2 lQG
    rintro e w10 ⟨rfl, hb⟩
    have Z_61 : Hid (w9.heap.size ≤ w10.heap.size) := hb.size
    have B_62 : Hid (Below w.heap.size w w10) := B_52.out.trans (hb.mono B_52.out.size)
    have A_63 : Hid (Boxed w10 w.heap.size 68 b1 sa1 n1 ca1) := A_53.out.kept hb rfl
    have QS_64 : Hid (SBox w10 pS ro sS rn cS rh) := QS_54.out.kept hb rfl
    have S_65 : Hid (Slice w10 w1.heap.size w2.heap.size sS rn rf) := S_55.out.kept hb rfl
    have X_66 : Hid (CSl w10 w2.heap.size w3.heap.size (some ⟨w2.heap.size, 0, none⟩) n f) := X_56.out.kept hb
    have V_67 : Hid (Slice w10 w3.heap.size w4.heap.size sV n1 f1) := V_57.out.kept hb rfl
    have QV_68 : Hid (Boxed w10 w4.heap.size 45 b1 sV n1 cV) := QV_58.out.kept hb rfl
    have G_69 : Hid (Slice w10 v5.heap.size w6.heap.size sG rn rf) := G_59.out.kept hb rfl
    have QG_70 : Hid (SBox w10 w6.heap.size ro sG rn cG rh) := QG_60.out.kept hb rfl
    have Y_71 : Hid (CSl w10 w8.heap.size w9.heap.size (some ⟨w8.heap.size, 0, none⟩) n f) := Y_n.out.kept hb
    clear B_52 A_53 QS_54 S_55 X_56 V_57 QV_58 G_59 QG_60 Y_n
    clear hb
    have RV : Hid (Row w10 w10.heap.size sa1 n1 f1) := row_since HR1.out ⟨B_62.out⟩
    have RX : Hid (Row w10 w10.heap.size sV n1 f1) := V_67.out.row
    go_upto_region 16 with fail
    go_cut [53] (fun v wc => v = .bool false ∧ Since w10 wc)
    case first =>
      obtain ⟨cA0, cA1⟩ := A_63.out.cells
      have lA := A_63.out.lt
      obtain ⟨cQS0, cQS1, cQS2⟩ := QS_64.out.cells
      have lQS := QS_64.out.lt
      obtain ⟨cQV0, cQV1⟩ := QV_68.out.cells
      have lQV := QV_68.out.lt
      obtain ⟨cQG0, cQG1, cQG2⟩ := QG_70.out.cells
      have lQG := QG_70.out.lt
      go_region_with (first
        | (go_at_call 54; refine (toVec_any b1 sa1 n1 ca1 f1 _ hl1 (row_since RV.out (by first | assumption | exact since_drew (since_refl _) | exact since_alloc (since_drew (since_refl _)) | exact since_alloc (by assumption)))).mono ?_; rintro e w' ⟨s, c, rfl, hb, ho⟩; have hS : Since w10 w' := (by refine since_call ?_ hb; first | assumption | exact since_drew (since_refl _) | exact since_alloc (since_drew (since_refl _)) | exact since_alloc (by assumption)); obtain ⟨cA0, cA1⟩ := (A_63.out.since hS).cells; have lA := (A_63.out.since hS).lt; obtain ⟨cQS0, cQS1, cQS2⟩ := (QS_64.out.since hS).cells; have lQS := (QS_64.out.since hS).lt; obtain ⟨cQV0, cQV1⟩ := (QV_68.out.since hS).cells; have lQV := (QV_68.out.since hS).lt; obtain ⟨cQG0, cQG1, cQG2⟩ := (QG_70.out.since hS).cells; have lQG := (QG_70.out.since hS).lt; unfold vecV)
        | (go_at_call 55; refine (eqVec_same b1 sV _ n1 cV _ f1 _ hl1 (row_since RX.out (by assumption)) (ownS_since (by assumption) (since_refl _))).mono ?_; rintro e w'' ⟨rfl, hb⟩; have hS : Since w10 w'' := (by refine since_call ?_ hb; first | assumption | exact since_drew (since_refl _) | exact since_alloc (since_drew (since_refl _)) | exact since_alloc (by assumption))))
      all_goals
        go_wp2_with fail
        go_meet
        case rel => exact ⟨rfl, hS⟩
    case rest =>
      obtain ⟨rfl, hS⟩ := hcut
      obtain ⟨w11, hw11⟩ : ∃ y, y = wc := ⟨_, rfl⟩
      rw [← hw11] at hS ⊢
      clear hw11 RV RX
      have Z_72 : Hid (w10.heap.size ≤ w11.heap.size) := hS.size
      have B_73 : Hid (Below w.heap.size w w11) := B_62.out.trans (hS.below.mono B_62.out.size)
      have A_74 : Hid (Boxed w11 w.heap.size 68 b1 sa1 n1 ca1) := A_63.out.kept hS.below rfl
      have QS_75 : Hid (SBox w11 pS ro sS rn cS rh) := QS_64.out.kept hS.below rfl
      have S_76 : Hid (Slice w11 w1.heap.size w2.heap.size sS rn rf) := S_65.out.kept hS.below rfl
      have X_77 : Hid (CSl w11 w2.heap.size w3.heap.size (some ⟨w2.heap.size, 0, none⟩) n f) := X_66.out.kept hS.below
      have V_78 : Hid (Slice w11 w3.heap.size w4.heap.size sV n1 f1) := V_67.out.kept hS.below rfl
      have QV_79 : Hid (Boxed w11 w4.heap.size 45 b1 sV n1 cV) := QV_68.out.kept hS.below rfl
      have G_80 : Hid (Slice w11 v5.heap.size w6.heap.size sG rn rf) := G_69.out.kept hS.below rfl
      have QG_81 : Hid (SBox w11 w6.heap.size ro sG rn cG rh) := QG_70.out.kept hS.below rfl
      have Y_82 : Hid (CSl w11 w8.heap.size w9.heap.size (some ⟨w8.heap.size, 0, none⟩) n f) := Y_71.out.kept hS.below
      clear B_62 A_63 QS_64 S_65 X_66 V_67 QV_68 G_69 QG_70 Y_71
      clear hS
      obtain ⟨cA0, cA1⟩ := A_74.out.cells
      have lA := A_74.out.lt
      obtain ⟨cQS0, cQS1, cQS2⟩ := QS_75.out.cells
      have lQS := QS_75.out.lt
      obtain ⟨cQV0, cQV1⟩ := QV_79.out.cells
      have lQV := QV_79.out.lt
      obtain ⟨cQG0, cQG1, cQG2⟩ := QG_81.out.cells
      have lQG := QG_81.out.lt
      go_wp2_with fail
      refine (markCells_any (some ⟨w2.heap.size, 0, none⟩) n _ w2.heap.size w3.heap.size f w11 hl X_77.out).mono ?_
      clear cA0 cA1 lA cQS0 cQS1 cQS2 lQS cQV0 cQV1 lQV cQG0 cQG1 cQG2 lQG
      rintro e w12 ⟨rfl, hon, hsl⟩
      have X_m : Hid (CSl w12 w2.heap.size w3.heap.size (some ⟨w2.heap.size, 0, none⟩) n markC) := hsl
      have Z_83 : Hid (w11.heap.size ≤ w12.heap.size) := hon.size
      have B_84 : Hid (Below w.heap.size w w12) := B_73.out.trans (hon.below (by have := Z_0.out; have := Z_1.out; have := Z_2.out; have := Z_3.out; have := Z_6.out; have := Z_11.out; have := Z_17.out; have := Z_24.out; have := Z_32.out; have := Z_41.out; have := Z_51.out; have := Z_61.out; have := Z_72.out; have := Z_83.out; omega) B_73.out.size)
      have A_85 : Hid (Boxed w12 w.heap.size 68 b1 sa1 n1 ca1) := A_74.out.only hon (by have := Z_0.out; have := Z_1.out; have := Z_2.out; have := Z_3.out; have := Z_6.out; have := Z_11.out; have := Z_17.out; have := Z_24.out; have := Z_32.out; have := Z_41.out; have := Z_51.out; have := Z_61.out; have := Z_72.out; have := Z_83.out; omega)
      have QS_86 : Hid (SBox w12 pS ro sS rn cS rh) := QS_75.out.only hon (by have := Z_0.out; have := Z_1.out; have := Z_2.out; have := Z_3.out; have := Z_6.out; have := Z_11.out; have := Z_17.out; have := Z_24.out; have := Z_32.out; have := Z_41.out; have := Z_51.out; have := Z_61.out; have := Z_72.out; have := Z_83.out; omega)
      have S_87 : Hid (Slice w12 w1.heap.size w2.heap.size sS rn rf) := S_76.out.only hon (by have := Z_0.out; have := Z_1.out; have := Z_2.out; have := Z_3.out; have := Z_6.out; have := Z_11.out; have := Z_17.out; have := Z_24.out; have := Z_32.out; have := Z_41.out; have := Z_51.out; have := Z_61.out; have := Z_72.out; have := Z_83.out; omega)
      have V_88 : Hid (Slice w12 w3.heap.size w4.heap.size sV n1 f1) := V_78.out.only hon (by have := Z_0.out; have := Z_1.out; have := Z_2.out; have := Z_3.out; have := Z_6.out; have := Z_11.out; have := Z_17.out; have := Z_24.out; have := Z_32.out; have := Z_41.out; have := Z_51.out; have := Z_61.out; have := Z_72.out; have := Z_83.out; omega)
      have QV_89 : Hid (Boxed w12 w4.heap.size 45 b1 sV n1 cV) := QV_79.out.only hon (by have := Z_0.out; have := Z_1.out; have := Z_2.out; have := Z_3.out; have := Z_6.out; have := Z_11.out; have := Z_17.out; have := Z_24.out; have := Z_32.out; have := Z_41.out; have := Z_51.out; have := Z_61.out; have := Z_72.out; have := Z_83.out; omega)
      have G_90 : Hid (Slice w12 v5.heap.size w6.heap.size sG rn rf) := G_80.out.only hon (by have := Z_0.out; have := Z_1.out; have := Z_2.out; have := Z_3.out; have := Z_6.out; have := Z_11.out; have := Z_17.out; have := Z_24.out; have := Z_32.out; have := Z_41.out; have := Z_51.out; have := Z_61.out; have := Z_72.out; have := Z_83.out; omega)
      have QG_91 : Hid (SBox w12 w6.heap.size ro sG rn cG rh) := QG_81.out.only hon (by have := Z_0.out; have := Z_1.out; have := Z_2.out; have := Z_3.out; have := Z_6.out; have := Z_11.out; have := Z_17.out; have := Z_24.out; have := Z_32.out; have := Z_41.out; have := Z_51.out; have := Z_61.out; have := Z_72.out; have := Z_83.out; omega)
      have Y_92 : Hid (CSl w12 w8.heap.size w9.heap.size (some ⟨w8.heap.size, 0, none⟩) n f) := Y_82.out.only hon (by have := Z_0.out; have := Z_1.out; have := Z_2.out; have := Z_3.out; have := Z_6.out; have := Z_11.out; have := Z_17.out; have := Z_24.out; have := Z_32.out; have := Z_41.out; have := Z_51.out; have := Z_61.out; have := Z_72.out; have := Z_83.out; omega)
      clear B_73 A_74 QS_75 S_76 V_78 QV_79 G_80 QG_81 Y_82
      clear X_77 hon hsl
      have hk9 : (0 : Int) ≤ ((1 + n * 3 : Nat) : Int) ∧ ((1 + n * 3 : Nat) : Int) ≤ 1099511627776 := by omega
      generalize ((1 + n * 3 : Nat) : Int) = kn at *
      obtain ⟨cA0, cA1⟩ := A_85.out.cells
      have lA := A_85.out.lt
      obtain ⟨cQS0, cQS1, cQS2⟩ := QS_86.out.cells
      have lQS := QS_86.out.lt
      obtain ⟨cQV0, cQV1⟩ := QV_89.out.cells
      have lQV := QV_89.out.lt
      obtain ⟨cQG0, cQG1, cQG2⟩ := QG_91.out.cells
      have lQG := QG_91.out.lt
      go_wp2_with fail
      refine (markVec_in b1 sV n1 cV w3.heap.size w4.heap.size _ kn _ hl1 (by omega) (by omega) V_88.out).mono ?_
      clear cA0 cA1 lA cQS0 cQS1 cQS2 lQS cQV0 cQV1 lQV cQG0 cQG1 cQG2 lQG
      rintro e w13 ⟨rfl, hon, hsl⟩
      have V_m : Hid (Slice w13 w3.heap.size w4.heap.size sV n1 (fun i => (kn : Int) + (i : Int))) := hsl
      have Z_93 : Hid (w12.heap.size ≤ w13.heap.size) := hon.size
      have B_94 : Hid (Below w.heap.size w w13) := B_84.out.trans (hon.below (by have := Z_0.out; have := Z_1.out; have := Z_2.out; have := Z_3.out; have := Z_6.out; have := Z_11.out; have := Z_17.out; have := Z_24.out; have := Z_32.out; have := Z_41.out; have := Z_51.out; have := Z_61.out; have := Z_72.out; have := Z_83.out; have := Z_93.out; omega) B_84.out.size)
      have A_95 : Hid (Boxed w13 w.heap.size 68 b1 sa1 n1 ca1) := A_85.out.only hon (by have := Z_0.out; have := Z_1.out; have := Z_2.out; have := Z_3.out; have := Z_6.out; have := Z_11.out; have := Z_17.out; have := Z_24.out; have := Z_32.out; have := Z_41.out; have := Z_51.out; have := Z_61.out; have := Z_72.out; have := Z_83.out; have := Z_93.out; omega)
      have QS_96 : Hid (SBox w13 pS ro sS rn cS rh) := QS_86.out.only hon (by have := Z_0.out; have := Z_1.out; have := Z_2.out; have := Z_3.out; have := Z_6.out; have := Z_11.out; have := Z_17.out; have := Z_24.out; have := Z_32.out; have := Z_41.out; have := Z_51.out; have := Z_61.out; have := Z_72.out; have := Z_83.out; have := Z_93.out; omega)
      have S_97 : Hid (Slice w13 w1.heap.size w2.heap.size sS rn rf) := S_87.out.only hon (by have := Z_0.out; have := Z_1.out; have := Z_2.out; have := Z_3.out; have := Z_6.out; have := Z_11.out; have := Z_17.out; have := Z_24.out; have := Z_32.out; have := Z_41.out; have := Z_51.out; have := Z_61.out; have := Z_72.out; have := Z_83.out; have := Z_93.out; omega)
      have X_98 : Hid (CSl w13 w2.heap.size w3.heap.size (some ⟨w2.heap.size, 0, none⟩) n markC) := X_m.out.only hon (by have := Z_0.out; have := Z_1.out; have := Z_2.out; have := Z_3.out; have := Z_6.out; have := Z_11.out; have := Z_17.out; have := Z_24.out; have := Z_32.out; have := Z_41.out; have := Z_51.out; have := Z_61.out; have := Z_72.out; have := Z_83.out; have := Z_93.out; omega)
      have QV_99 : Hid (Boxed w13 w4.heap.size 45 b1 sV n1 cV) := QV_89.out.only hon (by have := Z_0.out; have := Z_1.out; have := Z_2.out; have := Z_3.out; have := Z_6.out; have := Z_11.out; have := Z_17.out; have := Z_24.out; have := Z_32.out; have := Z_41.out; have := Z_51.out; have := Z_61.out; have := Z_72.out; have := Z_83.out; have := Z_93.out; omega)
      have G_100 : Hid (Slice w13 v5.heap.size w6.heap.size sG rn rf) := G_90.out.only hon (by have := Z_0.out; have := Z_1.out; have := Z_2.out; have := Z_3.out; have := Z_6.out; have := Z_11.out; have := Z_17.out; have := Z_24.out; have := Z_32.out; have := Z_41.out; have := Z_51.out; have := Z_61.out; have := Z_72.out; have := Z_83.out; have := Z_93.out; omega)
      have QG_101 : Hid (SBox w13 w6.heap.size ro sG rn cG rh) := QG_91.out.only hon (by have := Z_0.out; have := Z_1.out; have := Z_2.out; have := Z_3.out; have := Z_6.out; have := Z_11.out; have := Z_17.out; have := Z_24.out; have := Z_32.out; have := Z_41.out; have := Z_51.out; have := Z_61.out; have := Z_72.out; have := Z_83.out; have := Z_93.out; omega)
      have Y_102 : Hid (CSl w13 w8.heap.size w9.heap.size (some ⟨w8.heap.size, 0, none⟩) n f) := Y_92.out.only hon (by have := Z_0.out; have := Z_1.out; have := Z_2.out; have := Z_3.out; have := Z_6.out; have := Z_11.out; have := Z_17.out; have := Z_24.out; have := Z_32.out; have := Z_41.out; have := Z_51.out; have := Z_61.out; have := Z_72.out; have := Z_83.out; have := Z_93.out; omega)
      clear B_84 A_85 QS_86 S_87 X_m QV_89 G_90 QG_91 Y_92
      clear V_88 hon hsl
      have hkc : ¬ (kn + (n1 : Int)) < 0 := by omega
      obtain ⟨cA0, cA1⟩ := A_95.out.cells
      have lA := A_95.out.lt
      obtain ⟨cQS0, cQS1, cQS2⟩ := QS_96.out.cells
      have lQS := QS_96.out.lt
      obtain ⟨cQV0, cQV1⟩ := QV_99.out.cells
      have lQV := QV_99.out.lt
      obtain ⟨cQG0, cQG1, cQG2⟩ := QG_101.out.cells
      have lQG := QG_101.out.lt
      go_wp2_with fail
      refine (eqStep_same ro sG sS rn cG cS rf rh _ hrn G_100.out.row S_97.out.row).mono ?_
      clear cA0 cA1 lA cQS0 cQS1 cQS2 lQS cQV0 cQV1 lQV cQG0 cQG1 cQG2 lQG
      rintro e w14 ⟨rfl, hb⟩
      have Z_103 : Hid (w13.heap.size ≤ w14.heap.size) := hb.size
      have B_104 : Hid (Below w.heap.size w w14) := B_94.out.trans (hb.mono B_94.out.size)
      have A_105 : Hid (Boxed w14 w.heap.size 68 b1 sa1 n1 ca1) := A_95.out.kept hb rfl
      have QS_106 : Hid (SBox w14 pS ro sS rn cS rh) := QS_96.out.kept hb rfl
      have S_107 : Hid (Slice w14 w1.heap.size w2.heap.size sS rn rf) := S_97.out.kept hb rfl
      have X_108 : Hid (CSl w14 w2.heap.size w3.heap.size (some ⟨w2.heap.size, 0, none⟩) n markC) := X_98.out.kept hb
      have V_109 : Hid (Slice w14 w3.heap.size w4.heap.size sV n1 (fun i => (kn : Int) + (i : Int))) := V_m.out.kept hb rfl
      have QV_110 : Hid (Boxed w14 w4.heap.size 45 b1 sV n1 cV) := QV_99.out.kept hb rfl
      have G_111 : Hid (Slice w14 v5.heap.size w6.heap.size sG rn rf) := G_100.out.kept hb rfl
      have QG_112 : Hid (SBox w14 w6.heap.size ro sG rn cG rh) := QG_101.out.kept hb rfl
      have Y_113 : Hid (CSl w14 w8.heap.size w9.heap.size (some ⟨w8.heap.size, 0, none⟩) n f) := Y_102.out.kept hb
      clear B_94 A_95 QS_96 S_97 X_98 V_m QV_99 G_100 QG_101 Y_102
      clear hb
      obtain ⟨cA0, cA1⟩ := A_105.out.cells
      have lA := A_105.out.lt
      obtain ⟨cQS0, cQS1, cQS2⟩ := QS_106.out.cells
      have lQS := QS_106.out.lt
      obtain ⟨cQV0, cQV1⟩ := QV_110.out.cells
      have lQV := QV_110.out.lt
      obtain ⟨cQG0, cQG1, cQG2⟩ := QG_112.out.cells
      have lQG := QG_112.out.lt
      go_wp2_with fail
      refine (markStep_in ro sG rn cG rh v5.heap.size w6.heap.size _ 1 _ hrn (by omega) (by omega) G_111.out).mono ?_
      clear cA0 cA1 lA cQS0 cQS1 cQS2 lQS cQV0 cQV1 lQV cQG0 cQG1 cQG2 lQG
      rintro e w15 ⟨rfl, hon, hsl⟩
      have G_m : Hid (Slice w15 v5.heap.size w6.heap.size sG rn (fun i => (1 : Int) + (i : Int))) := hsl
      have Z_114 : Hid (w14.heap.size ≤ w15.heap.size) := hon.size
      have B_115 : Hid (Below w.heap.size w w15) := B_104.out.trans (hon.below (by have := Z_0.out; have := Z_1.out; have := Z_2.out; have := Z_3.out; have := Z_6.out; have := Z_11.out; have := Z_17.out; have := Z_24.out; have := Z_32.out; have := Z_41.out; have := Z_51.out; have := Z_61.out; have := Z_72.out; have := Z_83.out; have := Z_93.out; have := Z_103.out; have := Z_114.out; omega) B_104.out.size)
      have A_116 : Hid (Boxed w15 w.heap.size 68 b1 sa1 n1 ca1) := A_105.out.only hon (by have := Z_0.out; have := Z_1.out; have := Z_2.out; have := Z_3.out; have := Z_6.out; have := Z_11.out; have := Z_17.out; have := Z_24.out; have := Z_32.out; have := Z_41.out; have := Z_51.out; have := Z_61.out; have := Z_72.out; have := Z_83.out; have := Z_93.out; have := Z_103.out; have := Z_114.out; omega)
      have QS_117 : Hid (SBox w15 pS ro sS rn cS rh) := QS_106.out.only hon (by have := Z_0.out; have := Z_1.out; have := Z_2.out; have := Z_3.out; have := Z_6.out; have := Z_11.out; have := Z_17.out; have := Z_24.out; have := Z_32.out; have := Z_41.out; have := Z_51.out; have := Z_61.out; have := Z_72.out; have := Z_83.out; have := Z_93.out; have := Z_103.out; have := Z_114.out; omega)
      have S_118 : Hid (Slice w15 w1.heap.size w2.heap.size sS rn rf) := S_107.out.only hon (by have := Z_0.out; have := Z_1.out; have := Z_2.out; have := Z_3.out; have := Z_6.out; have := Z_11.out; have := Z_17.out; have := Z_24.out; have := Z_32.out; have := Z_41.out; have := Z_51.out; have := Z_61.out; have := Z_72.out; have := Z_83.out; have := Z_93.out; have := Z_103.out; have := Z_114.out; omega)
      have X_119 : Hid (CSl w15 w2.heap.size w3.heap.size (some ⟨w2.heap.size, 0, none⟩) n markC) := X_108.out.only hon (by have := Z_0.out; have := Z_1.out; have := Z_2.out; have := Z_3.out; have := Z_6.out; have := Z_11.out; have := Z_17.out; have := Z_24.out; have := Z_32.out; have := Z_41.out; have := Z_51.out; have := Z_61.out; have := Z_72.out; have := Z_83.out; have := Z_93.out; have := Z_103.out; have := Z_114.out; omega)
      have V_120 : Hid (Slice w15 w3.heap.size w4.heap.size sV n1 (fun i => (kn : Int) + (i : Int))) := V_109.out.only hon (by have := Z_0.out; have := Z_1.out; have := Z_2.out; have := Z_3.out; have := Z_6.out; have := Z_11.out; have := Z_17.out; have := Z_24.out; have := Z_32.out; have := Z_41.out; have := Z_51.out; have := Z_61.out; have := Z_72.out; have := Z_83.out; have := Z_93.out; have := Z_103.out; have := Z_114.out; omega)
      have QV_121 : Hid (Boxed w15 w4.heap.size 45 b1 sV n1 cV) := QV_110.out.only hon (by have := Z_0.out; have := Z_1.out; have := Z_2.out; have := Z_3.out; have := Z_6.out; have := Z_11.out; have := Z_17.out; have := Z_24.out; have := Z_32.out; have := Z_41.out; have := Z_51.out; have := Z_61.out; have := Z_72.out; have := Z_83.out; have := Z_93.out; have := Z_103.out; have := Z_114.out; omega)
      have QG_122 : Hid (SBox w15 w6.heap.size ro sG rn cG rh) := QG_112.out.only hon (by have := Z_0.out; have := Z_1.out; have := Z_2.out; have := Z_3.out; have := Z_6.out; have := Z_11.out; have := Z_17.out; have := Z_24.out; have := Z_32.out; have := Z_41.out; have := Z_51.out; have := Z_61.out; have := Z_72.out; have := Z_83.out; have := Z_93.out; have := Z_103.out; have := Z_114.out; omega)
      have Y_123 : Hid (CSl w15 w8.heap.size w9.heap.size (some ⟨w8.heap.size, 0, none⟩) n f) := Y_113.out.only hon (by have := Z_0.out; have := Z_1.out; have := Z_2.out; have := Z_3.out; have := Z_6.out; have := Z_11.out; have := Z_17.out; have := Z_24.out; have := Z_32.out; have := Z_41.out; have := Z_51.out; have := Z_61.out; have := Z_72.out; have := Z_83.out; have := Z_93.out; have := Z_103.out; have := Z_114.out; omega)
      clear B_104 A_105 QS_106 S_107 X_108 V_109 QV_110 QG_112 Y_113
      clear G_111 hon hsl
      obtain ⟨cA0, cA1⟩ := A_116.out.cells
      have lA := A_116.out.lt
      obtain ⟨cQS0, cQS1, cQS2⟩ := QS_117.out.cells
      have lQS := QS_117.out.lt
      obtain ⟨cQV0, cQV1⟩ := QV_121.out.cells
      have lQV := QV_121.out.lt
      obtain ⟨cQG0, cQG1, cQG2⟩ := QG_122.out.cells
      have lQG := QG_122.out.lt
      go_wp2_with fail
      refine (heldStep_any ro sG rn cG rh 1 _ hrn (by omega) (by omega) G_m.out.row).mono ?_
      clear cA0 cA1 lA cQS0 cQS1 cQS2 lQS cQV0 cQV1 lQV cQG0 cQG1 cQG2 lQG
      rintro e w16 ⟨rfl, hb⟩
      have Z_124 : Hid (w15.heap.size ≤ w16.heap.size) := hb.size
      have B_125 : Hid (Below w.heap.size w w16) := B_115.out.trans (hb.mono B_115.out.size)
      have A_126 : Hid (Boxed w16 w.heap.size 68 b1 sa1 n1 ca1) := A_116.out.kept hb rfl
      have QS_127 : Hid (SBox w16 pS ro sS rn cS rh) := QS_117.out.kept hb rfl
      have S_128 : Hid (Slice w16 w1.heap.size w2.heap.size sS rn rf) := S_118.out.kept hb rfl
      have X_129 : Hid (CSl w16 w2.heap.size w3.heap.size (some ⟨w2.heap.size, 0, none⟩) n markC) := X_119.out.kept hb
      have V_130 : Hid (Slice w16 w3.heap.size w4.heap.size sV n1 (fun i => (kn : Int) + (i : Int))) := V_120.out.kept hb rfl
      have QV_131 : Hid (Boxed w16 w4.heap.size 45 b1 sV n1 cV) := QV_121.out.kept hb rfl
      have G_132 : Hid (Slice w16 v5.heap.size w6.heap.size sG rn (fun i => (1 : Int) + (i : Int))) := G_m.out.kept hb rfl
      have QG_133 : Hid (SBox w16 w6.heap.size ro sG rn cG rh) := QG_122.out.kept hb rfl
      have Y_134 : Hid (CSl w16 w8.heap.size w9.heap.size (some ⟨w8.heap.size, 0, none⟩) n f) := Y_123.out.kept hb
      clear B_115 A_116 QS_117 S_118 X_119 V_120 QV_121 G_m QG_122 Y_123
      clear hb
      have hk2 : ¬ ((1 : Int) + (rn : Int)) < 0 := by omega
      have RC : Hid (CRow w16 w16.heap.size sa n f) := HR.out.late B_125.out
      have RV : Hid (Row w16 w16.heap.size sa1 n1 f1) := row_since HR1.out ⟨B_125.out⟩
      go_upto_region 31 with fail
      go_cut [15] (fun pv wc => CutS w16 ro rn rf rh pv wc)
      case first =>
        obtain ⟨cA0, cA1⟩ := A_126.out.cells
        have lA := A_126.out.lt
        obtain ⟨cQS0, cQS1, cQS2⟩ := QS_127.out.cells
        have lQS := QS_127.out.lt
        obtain ⟨cQV0, cQV1⟩ := QV_131.out.cells
        have lQV := QV_131.out.lt
        obtain ⟨cQG0, cQG1, cQG2⟩ := QG_133.out.cells
        have lQG := QG_133.out.lt
        go_region_with (first
          | (go_at_call 62; refine (toCells_ex sa n cap f _ hl (RC.out.late (Since.below (by first | assumption | exact since_drew (since_refl _) | exact since_alloc (since_drew (since_refl _)) | exact since_alloc (by assumption))))).mono ?_; rintro e w' ⟨s0, rfl, hb, ho⟩; (try (have hbx : SBox w' _ 0 none 0 0 false := SBox.kept (by first | assumption | exact heap_alloc_new _ _) hb rfl; obtain ⟨d0, d1, d2, d3, d4, d5⟩ := hbx.six)); have hS : Since w16 w' := (by refine since_call ?_ hb; first | assumption | exact since_drew (since_refl _) | exact since_alloc (since_drew (since_refl _)) | exact since_alloc (by assumption)); have HCR : Hid (∀ X, Since w' X → CRow X X.heap.size s0 n f) := (fun X hX => ho.late hX.below); clear ho; obtain ⟨cA0, cA1⟩ := (A_126.out.since hS).cells; have lA := (A_126.out.since hS).lt; obtain ⟨cQS0, cQS1, cQS2⟩ := (QS_127.out.since hS).cells; have lQS := (QS_127.out.since hS).lt; obtain ⟨cQV0, cQV1⟩ := (QV_131.out.since hS).cells; have lQV := (QV_131.out.since hS).lt; obtain ⟨cQG0, cQG1, cQG2⟩ := (QG_133.out.since hS).cells; have lQG := (QG_133.out.since hS).lt)
          | (go_at_call 54; refine (toVec_any b1 sa1 n1 ca1 f1 _ hl1 (row_since RV.out (by first | assumption | exact since_drew (since_refl _) | exact since_alloc (since_drew (since_refl _)) | exact since_alloc (by assumption)))).mono ?_; rintro e w'' ⟨s, c, rfl, hb, ho⟩; (try (have hbx : SBox w'' _ 0 none 0 0 false := SBox.kept (by first | assumption | exact heap_alloc_new _ _) hb rfl; obtain ⟨d0, d1, d2, d3, d4, d5⟩ := hbx.six)); have hS2 : Since w' w'' := (by refine since_call ?_ hb; first | exact since_refl _ | exact since_alloc (since_refl _)); have hS3 : Since w16 w'' := (since_call hS hS2.below); have HVR : Hid (∀ X, Since w'' X → Row X X.heap.size s n1 f1) := (fun X hX => ownS_since ho hX); have HCR2 : Hid (∀ X, Since w'' X → CRow X X.heap.size s0 n f) := (fun X hX => HCR.out X (since_call hS2 hX.below)); clear ho; obtain ⟨cA0, cA1⟩ := (A_126.out.since hS3).cells; have lA := (A_126.out.since hS3).lt; obtain ⟨cQS0, cQS1, cQS2⟩ := (QS_127.out.since hS3).cells; have lQS := (QS_127.out.since hS3).lt; obtain ⟨cQV0, cQV1⟩ := (QV_131.out.since hS3).cells; have lQV := (QV_131.out.since hS3).lt; obtain ⟨cQG0, cQG1, cQG2⟩ := (QG_133.out.since hS3).cells; have lQG := (QG_133.out.since hS3).lt; unfold vecV)
          | (go_at_call 69; refine (HI.out _ _ _ _ _ (HCR2.out _ (by first | exact since_refl _ | exact since_alloc (since_refl _))) (HVR.out _ (by first | exact since_refl _ | exact since_alloc (since_refl _)))).mono ?_; rintro e w3' ⟨sx, cx, rfl, hb, ho⟩; (try (have hbx : SBox w3' _ 0 none 0 0 false := SBox.kept (by first | assumption | exact heap_alloc_new _ _) hb rfl; obtain ⟨d0, d1, d2, d3, d4, d5⟩ := hbx.six)); have hS4 : Since w16 w3' := (by refine since_call ?_ hb; first | exact hS3 | exact since_alloc hS3); unfold stepV))
        all_goals
          go_wp2_with fail
          go_meet
          case rel => first
            | exact cutS_late hS4 (by first | exact Since.size hS3 | exact Since.size (since_alloc hS3)) ho
            | exact cutS_early hS4 (by assumption) (by first | exact Nat.le_refl _ | exact Since.size (by assumption)) (by first | exact SBox.lt (by assumption) | simp) ho
      case rest =>
        obtain ⟨pH, sH, cH, rfl, hS, hp1, hp2, hx, hsl⟩ := hcut
        obtain ⟨w17, hw17⟩ : ∃ y, y = wc := ⟨_, rfl⟩
        rw [← hw17] at hS hp2 hx hsl ⊢
        clear hw17
        have Z_135 : Hid (w16.heap.size ≤ pH ∧ pH < w17.heap.size) := ⟨hp1, hp2⟩
        have Z_136 : Hid (w16.heap.size ≤ w17.heap.size) := hS.size
        have B_137 : Hid (Below w.heap.size w w17) := B_125.out.trans (hS.below.mono B_125.out.size)
        have A_138 : Hid (Boxed w17 w.heap.size 68 b1 sa1 n1 ca1) := A_126.out.kept hS.below rfl
        have QS_139 : Hid (SBox w17 pS ro sS rn cS rh) := QS_127.out.kept hS.below rfl
        have S_140 : Hid (Slice w17 w1.heap.size w2.heap.size sS rn rf) := S_128.out.kept hS.below rfl
        have X_141 : Hid (CSl w17 w2.heap.size w3.heap.size (some ⟨w2.heap.size, 0, none⟩) n markC) := X_129.out.kept hS.below
        have V_142 : Hid (Slice w17 w3.heap.size w4.heap.size sV n1 (fun i => (kn : Int) + (i : Int))) := V_130.out.kept hS.below rfl
        have QV_143 : Hid (Boxed w17 w4.heap.size 45 b1 sV n1 cV) := QV_131.out.kept hS.below rfl
        have G_144 : Hid (Slice w17 v5.heap.size w6.heap.size sG rn (fun i => (1 : Int) + (i : Int))) := G_132.out.kept hS.below rfl
        have QG_145 : Hid (SBox w17 w6.heap.size ro sG rn cG rh) := QG_133.out.kept hS.below rfl
        have Y_146 : Hid (CSl w17 w8.heap.size w9.heap.size (some ⟨w8.heap.size, 0, none⟩) n f) := Y_134.out.kept hS.below
        clear B_125 A_126 QS_127 S_128 X_129 V_130 QV_131 G_132 QG_133 Y_134
        have QH_n : Hid (SBox w17 pH ro sH rn cH rh) := hx
        have H_n : Hid (Slice w17 w16.heap.size w17.heap.size sH rn rf) := hsl
        clear hS hp1 hp2 hx hsl RC RV
        obtain ⟨cA0, cA1⟩ := A_138.out.cells
        have lA := A_138.out.lt
        obtain ⟨cQS0, cQS1, cQS2⟩ := QS_139.out.cells
        have lQS := QS_139.out.lt
        obtain ⟨cQV0, cQV1⟩ := QV_143.out.cells
        have lQV := QV_143.out.lt
        obtain ⟨cQG0, cQG1, cQG2⟩ := QG_145.out.cells
        have lQG := QG_145.out.lt
        obtain ⟨cQH0, cQH1, cQH2⟩ := QH_n.out.cells
        have lQH := QH_n.out.lt
        go_wp2_with fail
        refine (eqStep_same ro sH sS rn cH cS rf rh _ hrn H_n.out.row S_140.out.row).mono ?_
        clear cA0 cA1 lA cQS0 cQS1 cQS2 lQS cQV0 cQV1 lQV cQG0 cQG1 cQG2 lQG cQH0 cQH1 cQH2 lQH
        rintro e w18 ⟨rfl, hb⟩
        have Z_147 : Hid (w17.heap.size ≤ w18.heap.size) := hb.size
        have B_148 : Hid (Below w.heap.size w w18) := B_137.out.trans (hb.mono B_137.out.size)
        have A_149 : Hid (Boxed w18 w.heap.size 68 b1 sa1 n1 ca1) := A_138.out.kept hb rfl
        have QS_150 : Hid (SBox w18 pS ro sS rn cS rh) := QS_139.out.kept hb rfl
        have S_151 : Hid (Slice w18 w1.heap.size w2.heap.size sS rn rf) := S_140.out.kept hb rfl
        have X_152 : Hid (CSl w18 w2.heap.size w3.heap.size (some ⟨w2.heap.size, 0, none⟩) n markC) := X_141.out.kept hb
        have V_153 : Hid (Slice w18 w3.heap.size w4.heap.size sV n1 (fun i => (kn : Int) + (i : Int))) := V_142.out.kept hb rfl
        have QV_154 : Hid (Boxed w18 w4.heap.size 45 b1 sV n1 cV) := QV_143.out.kept hb rfl
        have G_155 : Hid (Slice w18 v5.heap.size w6.heap.size sG rn (fun i => (1 : Int) + (i : Int))) := G_144.out.kept hb rfl
        have QG_156 : Hid (SBox w18 w6.heap.size ro sG rn cG rh) := QG_145.out.kept hb rfl
        have Y_157 : Hid (CSl w18 w8.heap.size w9.heap.size (some ⟨w8.heap.size, 0, none⟩) n f) := Y_146.out.kept hb
        have QH_158 : Hid (SBox w18 pH ro sH rn cH rh) := QH_n.out.kept hb rfl
        have H_159 : Hid (Slice w18 w16.heap.size w17.heap.size sH rn rf) := H_n.out.kept hb rfl
        clear B_137 A_138 QS_139 S_140 X_141 V_142 QV_143 G_144 QG_145 Y_146 QH_n H_n
        clear hb
        obtain ⟨cA0, cA1⟩ := A_149.out.cells
        have lA := A_149.out.lt
        obtain ⟨cQS0, cQS1, cQS2⟩ := QS_150.out.cells
        have lQS := QS_150.out.lt
        obtain ⟨cQV0, cQV1⟩ := QV_154.out.cells
        have lQV := QV_154.out.lt
        obtain ⟨cQG0, cQG1, cQG2⟩ := QG_156.out.cells
        have lQG := QG_156.out.lt
        obtain ⟨cQH0, cQH1, cQH2⟩ := QH_158.out.cells
        have lQH := QH_158.out.lt
        go_wp2_with fail
        refine (heldStep_any ro sG rn cG rh 1 _ hrn (by omega) (by omega) G_155.out.row).mono ?_
        clear cA0 cA1 lA cQS0 cQS1 cQS2 lQS cQV0 cQV1 lQV cQG0 cQG1 cQG2 lQG cQH0 cQH1 cQH2 lQH
        rintro e w19 ⟨rfl, hb⟩
        have Z_160 : Hid (w18.heap.size ≤ w19.heap.size) := hb.size
        have B_161 : Hid (Below w.heap.size w w19) := B_148.out.trans (hb.mono B_148.out.size)
        have A_162 : Hid (Boxed w19 w.heap.size 68 b1 sa1 n1 ca1) := A_149.out.kept hb rfl
        have QS_163 : Hid (SBox w19 pS ro sS rn cS rh) := QS_150.out.kept hb rfl
        have S_164 : Hid (Slice w19 w1.heap.size w2.heap.size sS rn rf) := S_151.out.kept hb rfl
        have X_165 : Hid (CSl w19 w2.heap.size w3.heap.size (some ⟨w2.heap.size, 0, none⟩) n markC) := X_152.out.kept hb
        have V_166 : Hid (Slice w19 w3.heap.size w4.heap.size sV n1 (fun i => (kn : Int) + (i : Int))) := V_153.out.kept hb rfl
        have QV_167 : Hid (Boxed w19 w4.heap.size 45 b1 sV n1 cV) := QV_154.out.kept hb rfl
        have G_168 : Hid (Slice w19 v5.heap.size w6.heap.size sG rn (fun i => (1 : Int) + (i : Int))) := G_155.out.kept hb rfl
        have QG_169 : Hid (SBox w19 w6.heap.size ro sG rn cG rh) := QG_156.out.kept hb rfl
        have Y_170 : Hid (CSl w19 w8.heap.size w9.heap.size (some ⟨w8.heap.size, 0, none⟩) n f) := Y_157.out.kept hb
        have QH_171 : Hid (SBox w19 pH ro sH rn cH rh) := QH_158.out.kept hb rfl
        have H_172 : Hid (Slice w19 w16.heap.size w17.heap.size sH rn rf) := H_159.out.kept hb rfl
        clear B_148 A_149 QS_150 S_151 X_152 V_153 QV_154 G_155 QG_156 Y_157 QH_158 H_159
        clear hb
        obtain ⟨cA0, cA1⟩ := A_162.out.cells
        have lA := A_162.out.lt
        obtain ⟨cQS0, cQS1, cQS2⟩ := QS_163.out.cells
        have lQS := QS_163.out.lt
        obtain ⟨cQV0, cQV1⟩ := QV_167.out.cells
        have lQV := QV_167.out.lt
        obtain ⟨cQG0, cQG1, cQG2⟩ := QG_169.out.cells
        have lQG := QG_169.out.lt
        obtain ⟨cQH0, cQH1, cQH2⟩ := QH_171.out.cells
        have lQH := QH_171.out.lt
        go_wp2_with fail
        go_ret
        exact ⟨rfl, B_161.out⟩
end Go.Proofs.Ytlgnplnmcdjbiaa
