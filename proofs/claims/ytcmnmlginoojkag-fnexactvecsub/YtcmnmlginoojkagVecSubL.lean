/- What is proved here: the law of VecSub walks to true, where the specification's function and the program's hand back the same; nothing that was there turns. -/
import Derived.Test.YtcmnmlginoojkagVecS
import Derived.Deep.RegionWith
import Derived.Deep.DeepCutAuto
namespace Go.Proofs.Ytcmnmlginoojkag
open Go.RowKit

set_option maxRecDepth 100000 in
set_option maxHeartbeats 8000000 in
theorem law_VecSub (b0 : Int) (sa0 : Option Addr) (n0 ca0 : Nat) (f0 : Nat → Int) (b1 : Int) (sa1 : Option Addr) (n1 ca1 : Nat) (f1 : Nat → Int) (ro : Int) (rn : Nat) (rf : Nat → Int) (w : World) (hm0 : n0 ≤ maxLen) (hr0 : Row w w.heap.size sa0 n0 f0) (hm1 : n1 ≤ maxLen) (hr1 : Row w w.heap.size sa1 n1 f1) (hrn : rn ≤ 1048576)
    (hs : n0 ≤ 1048576 → n1 ≤ 1048576 → ∀ (W : World) (x0 : Option Addr) (k0 : Nat) (x1 : Option Addr) (k1 : Nat), Row W W.heap.size x0 n0 f0 → Row W W.heap.size x1 n1 f1 → Calls Try.prog 21 #[.agg #[.int .i64 b0, .slice x0 n0 k0], .agg #[.int .i64 b1, .slice x1 n1 k1]] W fun e W' => NewVec W ro rn rf e W')
    (hi : n0 ≤ 1048576 → n1 ≤ 1048576 → ∀ (W : World) (x0 : Option Addr) (k0 : Nat) (x1 : Option Addr) (k1 : Nat), Row W W.heap.size x0 n0 f0 → Row W W.heap.size x1 n1 f1 → Calls Try.prog 22 #[.agg #[.int .i64 b0, .slice x0 n0 k0], .agg #[.int .i64 b1, .slice x1 n1 k1]] W fun e W' => NewVec W ro rn rf e W') :
    Calls Try.prog 7 #[.agg #[.int .i64 b0, .slice sa0 n0 ca0], .agg #[.int .i64 b1, .slice sa1 n1 ca1]] w fun e w' => e = .returned (.bool true) ∧ Below w.heap.size w w' := by
  have HR0 : Hid (Row w w.heap.size sa0 n0 f0) := hr0
  have HR1 : Hid (Row w w.heap.size sa1 n1 f1) := hr1
  clear hr0 hr1
  by_cases hbig0 : (1048576 : Int) < n0
  · go_enter Try.func7, Try.ntmps7
    have hz0 : szOf n0 (1048576) = -1 := by unfold szOf; rw [if_pos (by omega)]
    have HB0 : Hid (Below w.heap.size w ((w.alloc (.cells #[.int .i64 b0, .slice sa0 n0 ca0] 24)).alloc (.cells #[.int .i64 b1, .slice sa1 n1 ca1] 24))) := (((Below.refl _ _).alloc (by simp) _).alloc (by simp) _)
    go_wp2_with fail
    refine (szVec_any b0 sa0 n0 ca0 (1048576) _ hm0 (by omega) (by omega)).mono ?_
    rintro e w0_ ⟨rfl, hb⟩
    rw [hz0]
    have HB1 : Hid (Below w.heap.size w w0_) := HB0.out.trans (hb.mono HB0.out.size)
    go_wp2
    go_ret
    exact ⟨rfl, HB1.out⟩
  by_cases hbig1 : (1048576 - (n0 : Int) : Int) < n1
  · go_enter Try.func7, Try.ntmps7
    have hz0 : szOf n0 (1048576) = 1048576 - (n0 : Int) := by unfold szOf; rw [if_neg (by omega)]
    have hz1 : szOf n1 (1048576 - (n0 : Int)) = -1 := by unfold szOf; rw [if_pos (by omega)]
    have HB0 : Hid (Below w.heap.size w ((w.alloc (.cells #[.int .i64 b0, .slice sa0 n0 ca0] 24)).alloc (.cells #[.int .i64 b1, .slice sa1 n1 ca1] 24))) := (((Below.refl _ _).alloc (by simp) _).alloc (by simp) _)
    go_wp2_with fail
    refine (szVec_any b0 sa0 n0 ca0 (1048576) _ hm0 (by omega) (by omega)).mono ?_
    rintro e w0_ ⟨rfl, hb⟩
    rw [hz0]
    have HB1 : Hid (Below w.heap.size w w0_) := HB0.out.trans (hb.mono HB0.out.size)
    obtain ⟨hc, hf⟩ := bcells hb
    go_wp2_with fail
    refine (szVec_any b1 sa1 n1 ca1 (1048576 - (n0 : Int)) _ hm1 (by omega) (by omega)).mono ?_
    clear hc hf hb
    rintro e w1_ ⟨rfl, hb⟩
    rw [hz1]
    have HB2 : Hid (Below w.heap.size w w1_) := HB1.out.trans (hb.mono HB1.out.size)
    go_wp2
    go_ret
    exact ⟨rfl, HB2.out⟩
  have hl0 : n0 ≤ 1048576 := by omega
  have hl1 : n1 ≤ 1048576 := by omega
  have HS : Hid (∀ (W : World) (x0 : Option Addr) (k0 : Nat) (x1 : Option Addr) (k1 : Nat), Row W W.heap.size x0 n0 f0 → Row W W.heap.size x1 n1 f1 → Calls Try.prog 21 #[.agg #[.int .i64 b0, .slice x0 n0 k0], .agg #[.int .i64 b1, .slice x1 n1 k1]] W fun e W' => NewVec W ro rn rf e W') := hs hl0 hl1
  have HI : Hid (∀ (W : World) (x0 : Option Addr) (k0 : Nat) (x1 : Option Addr) (k1 : Nat), Row W W.heap.size x0 n0 f0 → Row W W.heap.size x1 n1 f1 → Calls Try.prog 22 #[.agg #[.int .i64 b0, .slice x0 n0 k0], .agg #[.int .i64 b1, .slice x1 n1 k1]] W fun e W' => NewVec W ro rn rf e W') := hi hl0 hl1
  clear hs hi
  have hz0 : szOf n0 (1048576) = 1048576 - (n0 : Int) := by unfold szOf; rw [if_neg (by omega)]
  have hz1 : szOf n1 (1048576 - (n0 : Int)) = 1048576 - (n0 : Int) - (n1 : Int) := by unfold szOf; rw [if_neg (by omega)]
  go_enter Try.func7, Try.ntmps7
  go_wp2_with fail
  have B_0 : Hid (Below w.heap.size w w) := Below.refl _ _
  have hq := boxing w 24 b0 sa0 n0 ca0
  generalize w.alloc (.cells #[.int .i64 b0, .slice sa0 n0 ca0] 24) = v1 at *
  obtain ⟨hb, hx, hz⟩ := hq
  have Z_1 : Hid (v1.heap.size = w.heap.size + 1) := hz
  have B_2 : Hid (Below w.heap.size w v1) := B_0.out.trans (hb.mono B_0.out.size)
  clear B_0
  have A0_n : Hid (Boxed v1 w.heap.size 24 b0 sa0 n0 ca0) := hx
  clear hb hx hz
  have hq := boxing v1 24 b1 sa1 n1 ca1
  generalize v1.alloc (.cells #[.int .i64 b1, .slice sa1 n1 ca1] 24) = v2 at *
  obtain ⟨hb, hx, hz⟩ := hq
  have Z_3 : Hid (v2.heap.size = v1.heap.size + 1) := hz
  have B_4 : Hid (Below w.heap.size w v2) := B_2.out.trans (hb.mono B_2.out.size)
  have A0_5 : Hid (Boxed v2 w.heap.size 24 b0 sa0 n0 ca0) := A0_n.out.kept hb rfl
  clear B_2 A0_n
  have A1_n : Hid (Boxed v2 v1.heap.size 24 b1 sa1 n1 ca1) := hx
  clear hb hx hz
  have e1 := Z_1.out
  rw [e1] at A1_n
  have A1_w : Hid (Boxed v2 (w.heap.size + 1) 24 b1 sa1 n1 ca1) := A1_n.out
  clear A1_n e1
  refine (szVec_any b0 sa0 n0 ca0 (1048576) _ hm0 (by omega) (by omega)).mono ?_
  rintro e w3 ⟨rfl, hb⟩
  have Z_6 : Hid (v2.heap.size ≤ w3.heap.size) := hb.size
  have B_7 : Hid (Below w.heap.size w w3) := B_4.out.trans (hb.mono B_4.out.size)
  have A0_8 : Hid (Boxed w3 w.heap.size 24 b0 sa0 n0 ca0) := A0_5.out.kept hb rfl
  have A1_9 : Hid (Boxed w3 (w.heap.size + 1) 24 b1 sa1 n1 ca1) := A1_w.out.kept hb rfl
  clear B_4 A0_5 A1_w
  clear hb
  rw [hz0]
  obtain ⟨cA00, cA01⟩ := A0_8.out.cells
  have lA0 := A0_8.out.lt
  obtain ⟨cA10, cA11⟩ := A1_9.out.cells
  have lA1 := A1_9.out.lt
  go_wp2_with fail
  refine (szVec_any b1 sa1 n1 ca1 (1048576 - (n0 : Int)) _ hm1 (by omega) (by omega)).mono ?_
  clear cA00 cA01 lA0 cA10 cA11 lA1
  rintro e w4 ⟨rfl, hb⟩
  have Z_10 : Hid (w3.heap.size ≤ w4.heap.size) := hb.size
  have B_11 : Hid (Below w.heap.size w w4) := B_7.out.trans (hb.mono B_7.out.size)
  have A0_12 : Hid (Boxed w4 w.heap.size 24 b0 sa0 n0 ca0) := A0_8.out.kept hb rfl
  have A1_13 : Hid (Boxed w4 (w.heap.size + 1) 24 b1 sa1 n1 ca1) := A1_9.out.kept hb rfl
  clear B_7 A0_8 A1_9
  clear hb
  rw [hz1]
  have R0 : Hid (Row w4 w4.heap.size sa0 n0 f0) := row_since HR0.out ⟨B_11.out⟩
  have R1 : Hid (Row w4 w4.heap.size sa1 n1 f1) := row_since HR1.out ⟨B_11.out⟩
  go_upto_region 8 with fail
  go_cut [6] (fun pv wc => CutP w4 26 ro rn rf pv wc)
  case first =>
    obtain ⟨cA00, cA01⟩ := A0_12.out.cells
    have lA0 := A0_12.out.lt
    obtain ⟨cA10, cA11⟩ := A1_13.out.cells
    have lA1 := A1_13.out.lt
    go_region_with (first
      | (go_at_call_of 10 sa0; refine (toVec_any b0 sa0 n0 ca0 f0 _ hl0 (row_since R0.out (by first | assumption | exact since_drew (since_refl _) | exact since_alloc (since_drew (since_refl _)) | exact since_alloc (by assumption)))).mono ?_; rintro e w' ⟨s, c, rfl, hb, ho⟩; (try (have hbx : Boxed w' _ 26 0 none 0 0 := Boxed.kept (by first | assumption | exact heap_alloc_new _ _) hb rfl; obtain ⟨d0, d1, d2, d3⟩ := hbx.four)); have hS : Since w4 w' := (by refine since_call ?_ hb; first | assumption | exact since_drew (since_refl _) | exact since_alloc (since_drew (since_refl _)) | exact since_alloc (by assumption)); obtain ⟨cA00, cA01⟩ := (A0_12.out.since hS).cells; have lA0 := (A0_12.out.since hS).lt; obtain ⟨cA10, cA11⟩ := (A1_13.out.since hS).cells; have lA1 := (A1_13.out.since hS).lt; unfold vecV)
      | (go_at_call_of 10 sa1; refine (toVec_any b1 sa1 n1 ca1 f1 _ hl1 (row_since R1.out (by first | assumption | exact since_drew (since_refl _) | exact since_alloc (since_drew (since_refl _)) | exact since_alloc (by assumption)))).mono ?_; rintro e w' ⟨s, c, rfl, hb, ho⟩; (try (have hbx : Boxed w' _ 26 0 none 0 0 := Boxed.kept (by first | assumption | exact heap_alloc_new _ _) hb rfl; obtain ⟨d0, d1, d2, d3⟩ := hbx.four)); have hS : Since w4 w' := (by refine since_call ?_ hb; first | assumption | exact since_drew (since_refl _) | exact since_alloc (since_drew (since_refl _)) | exact since_alloc (by assumption)); obtain ⟨cA00, cA01⟩ := (A0_12.out.since hS).cells; have lA0 := (A0_12.out.since hS).lt; obtain ⟨cA10, cA11⟩ := (A1_13.out.since hS).cells; have lA1 := (A1_13.out.since hS).lt; unfold vecV)
      | (go_at_call 21; refine (HS.out _ _ _ _ _ (ownS_since (by assumption) (by first | exact since_refl _ | assumption | exact since_alloc (since_refl _) | (refine since_call ?_ (by assumption); first | exact since_refl _ | exact since_alloc (since_refl _)) | (refine since_alloc (since_call ?_ (by assumption)); first | exact since_refl _ | exact since_alloc (since_refl _)))) (ownS_since (by assumption) (by first | exact since_refl _ | exact since_alloc (since_refl _)))).mono ?_; rintro e w'' ⟨sx, cx, rfl, hb, ho⟩; (try (have hbx : Boxed w'' _ 26 0 none 0 0 := Boxed.kept (by first | assumption | exact heap_alloc_new _ _) hb rfl; obtain ⟨d0, d1, d2, d3⟩ := hbx.four)); have hS : Since w4 w'' := (by refine since_call ?_ hb; first | assumption | exact since_drew (since_refl _) | exact since_alloc (since_drew (since_refl _)) | exact since_alloc (by assumption)); unfold vecV))
    all_goals
      go_wp2_with fail
      go_meet
      case rel => first
        | exact cut_late hS (by first | exact Nat.le_refl _ | exact Since.size (by assumption)) ho
        | exact cut_early hS (by assumption) (by first | exact Nat.le_refl _ | exact Since.size (by assumption)) (by first | exact Boxed.lt (by assumption) | simp) ho
  case rest =>
    obtain ⟨p1, s1, c1, rfl, hS, hp1, hp2, hx, hsl⟩ := hcut
    obtain ⟨w5, hw5⟩ : ∃ x, x = wc := ⟨_, rfl⟩
    rw [← hw5] at hS hp2 hx hsl ⊢
    clear hw5
    have Z_14 : Hid (w4.heap.size ≤ p1 ∧ p1 < w5.heap.size) := ⟨hp1, hp2⟩
    have Z_15 : Hid (w4.heap.size ≤ w5.heap.size) := hS.size
    have B_16 : Hid (Below w.heap.size w w5) := B_11.out.trans (hS.below.mono B_11.out.size)
    have A0_17 : Hid (Boxed w5 w.heap.size 24 b0 sa0 n0 ca0) := A0_12.out.kept hS.below rfl
    have A1_18 : Hid (Boxed w5 (w.heap.size + 1) 24 b1 sa1 n1 ca1) := A1_13.out.kept hS.below rfl
    clear B_11 A0_12 A1_13
    have W0_n : Hid (Boxed w5 p1 26 ro s1 rn c1) := hx
    have S1_n : Hid (Slice w5 w4.heap.size w5.heap.size s1 rn rf) := hsl
    clear hS hp1 hp2 hx hsl
    clear R0 R1
    obtain ⟨cA00, cA01⟩ := A0_17.out.cells
    have lA0 := A0_17.out.lt
    obtain ⟨cA10, cA11⟩ := A1_18.out.cells
    have lA1 := A1_18.out.lt
    obtain ⟨cW00, cW01⟩ := W0_n.out.cells
    have lW0 := W0_n.out.lt
    go_wp2_with fail
    refine (toVec_any b0 sa0 n0 ca0 f0 _ hl0 ((HR0.out.kept B_16.out).up B_16.out.size)).mono ?_
    clear cA00 cA01 lA0 cA10 cA11 lA1 cW00 cW01 lW0
    rintro e w6 ⟨s2, c2, rfl, hb, ho⟩
    unfold vecV
    have S2_n : Hid (Slice w6 w5.heap.size w6.heap.size s2 n0 f0) := ho.slice
    clear ho
    have Z_19 : Hid (w5.heap.size ≤ w6.heap.size) := hb.size
    have B_20 : Hid (Below w.heap.size w w6) := B_16.out.trans (hb.mono B_16.out.size)
    have A0_21 : Hid (Boxed w6 w.heap.size 24 b0 sa0 n0 ca0) := A0_17.out.kept hb rfl
    have A1_22 : Hid (Boxed w6 (w.heap.size + 1) 24 b1 sa1 n1 ca1) := A1_18.out.kept hb rfl
    have W0_23 : Hid (Boxed w6 p1 26 ro s1 rn c1) := W0_n.out.kept hb rfl
    have S1_24 : Hid (Slice w6 w4.heap.size w5.heap.size s1 rn rf) := S1_n.out.kept hb rfl
    clear B_16 A0_17 A1_18 W0_n S1_n
    clear hb
    obtain ⟨cA00, cA01⟩ := A0_21.out.cells
    have lA0 := A0_21.out.lt
    obtain ⟨cA10, cA11⟩ := A1_22.out.cells
    have lA1 := A1_22.out.lt
    obtain ⟨cW00, cW01⟩ := W0_23.out.cells
    have lW0 := W0_23.out.lt
    go_wp2_with fail
    clear cA00 cA01 lA0 cA10 cA11 lA1 cW00 cW01 lW0
    have hq := boxing w6 26 b0 s2 n0 c2
    generalize w6.alloc (.cells #[.int .i64 b0, .slice s2 n0 c2] 26) = v7 at *
    obtain ⟨hb, hx, hz⟩ := hq
    have Z_25 : Hid (v7.heap.size = w6.heap.size + 1) := hz
    have B_26 : Hid (Below w.heap.size w v7) := B_20.out.trans (hb.mono B_20.out.size)
    have A0_27 : Hid (Boxed v7 w.heap.size 24 b0 sa0 n0 ca0) := A0_21.out.kept hb rfl
    have A1_28 : Hid (Boxed v7 (w.heap.size + 1) 24 b1 sa1 n1 ca1) := A1_22.out.kept hb rfl
    have W0_29 : Hid (Boxed v7 p1 26 ro s1 rn c1) := W0_23.out.kept hb rfl
    have S1_30 : Hid (Slice v7 w4.heap.size w5.heap.size s1 rn rf) := S1_24.out.kept hb rfl
    have S2_31 : Hid (Slice v7 w5.heap.size w6.heap.size s2 n0 f0) := S2_n.out.kept hb rfl
    clear B_20 A0_21 A1_22 W0_23 S1_24 S2_n
    have X0_n : Hid (Boxed v7 w6.heap.size 26 b0 s2 n0 c2) := hx
    clear hb hx hz
    refine (toVec_any b1 sa1 n1 ca1 f1 _ hl1 ((HR1.out.kept B_26.out).up B_26.out.size)).mono ?_
    rintro e w8 ⟨s3, c3, rfl, hb, ho⟩
    unfold vecV
    have S3_n : Hid (Slice w8 v7.heap.size w8.heap.size s3 n1 f1) := ho.slice
    clear ho
    have Z_32 : Hid (v7.heap.size ≤ w8.heap.size) := hb.size
    have B_33 : Hid (Below w.heap.size w w8) := B_26.out.trans (hb.mono B_26.out.size)
    have A0_34 : Hid (Boxed w8 w.heap.size 24 b0 sa0 n0 ca0) := A0_27.out.kept hb rfl
    have A1_35 : Hid (Boxed w8 (w.heap.size + 1) 24 b1 sa1 n1 ca1) := A1_28.out.kept hb rfl
    have W0_36 : Hid (Boxed w8 p1 26 ro s1 rn c1) := W0_29.out.kept hb rfl
    have S1_37 : Hid (Slice w8 w4.heap.size w5.heap.size s1 rn rf) := S1_30.out.kept hb rfl
    have S2_38 : Hid (Slice w8 w5.heap.size w6.heap.size s2 n0 f0) := S2_31.out.kept hb rfl
    have X0_39 : Hid (Boxed w8 w6.heap.size 26 b0 s2 n0 c2) := X0_n.out.kept hb rfl
    clear B_26 A0_27 A1_28 W0_29 S1_30 S2_31 X0_n
    clear hb
    obtain ⟨cA00, cA01⟩ := A0_34.out.cells
    have lA0 := A0_34.out.lt
    obtain ⟨cA10, cA11⟩ := A1_35.out.cells
    have lA1 := A1_35.out.lt
    obtain ⟨cW00, cW01⟩ := W0_36.out.cells
    have lW0 := W0_36.out.lt
    obtain ⟨cX00, cX01⟩ := X0_39.out.cells
    have lX0 := X0_39.out.lt
    go_wp2_with fail
    clear cA00 cA01 lA0 cA10 cA11 lA1 cW00 cW01 lW0 cX00 cX01 lX0
    have hq := boxing w8 26 b1 s3 n1 c3
    generalize w8.alloc (.cells #[.int .i64 b1, .slice s3 n1 c3] 26) = v9 at *
    obtain ⟨hb, hx, hz⟩ := hq
    have Z_40 : Hid (v9.heap.size = w8.heap.size + 1) := hz
    have B_41 : Hid (Below w.heap.size w v9) := B_33.out.trans (hb.mono B_33.out.size)
    have A0_42 : Hid (Boxed v9 w.heap.size 24 b0 sa0 n0 ca0) := A0_34.out.kept hb rfl
    have A1_43 : Hid (Boxed v9 (w.heap.size + 1) 24 b1 sa1 n1 ca1) := A1_35.out.kept hb rfl
    have W0_44 : Hid (Boxed v9 p1 26 ro s1 rn c1) := W0_36.out.kept hb rfl
    have S1_45 : Hid (Slice v9 w4.heap.size w5.heap.size s1 rn rf) := S1_37.out.kept hb rfl
    have S2_46 : Hid (Slice v9 w5.heap.size w6.heap.size s2 n0 f0) := S2_38.out.kept hb rfl
    have X0_47 : Hid (Boxed v9 w6.heap.size 26 b0 s2 n0 c2) := X0_39.out.kept hb rfl
    have S3_48 : Hid (Slice v9 v7.heap.size w8.heap.size s3 n1 f1) := S3_n.out.kept hb rfl
    clear B_33 A0_34 A1_35 W0_36 S1_37 S2_38 X0_39 S3_n
    have X1_n : Hid (Boxed v9 w8.heap.size 26 b1 s3 n1 c3) := hx
    clear hb hx hz
    refine (HI.out _ s2 c2 s3 c3 S2_46.out.row S3_48.out.row).mono ?_
    rintro e w10 ⟨s4, c4, rfl, hb, ho⟩
    unfold vecV
    have S4_n : Hid (Slice w10 v9.heap.size w10.heap.size s4 rn rf) := ho.slice
    clear ho
    have Z_49 : Hid (v9.heap.size ≤ w10.heap.size) := hb.size
    have B_50 : Hid (Below w.heap.size w w10) := B_41.out.trans (hb.mono B_41.out.size)
    have A0_51 : Hid (Boxed w10 w.heap.size 24 b0 sa0 n0 ca0) := A0_42.out.kept hb rfl
    have A1_52 : Hid (Boxed w10 (w.heap.size + 1) 24 b1 sa1 n1 ca1) := A1_43.out.kept hb rfl
    have W0_53 : Hid (Boxed w10 p1 26 ro s1 rn c1) := W0_44.out.kept hb rfl
    have S1_54 : Hid (Slice w10 w4.heap.size w5.heap.size s1 rn rf) := S1_45.out.kept hb rfl
    have S2_55 : Hid (Slice w10 w5.heap.size w6.heap.size s2 n0 f0) := S2_46.out.kept hb rfl
    have X0_56 : Hid (Boxed w10 w6.heap.size 26 b0 s2 n0 c2) := X0_47.out.kept hb rfl
    have S3_57 : Hid (Slice w10 v7.heap.size w8.heap.size s3 n1 f1) := S3_48.out.kept hb rfl
    have X1_58 : Hid (Boxed w10 w8.heap.size 26 b1 s3 n1 c3) := X1_n.out.kept hb rfl
    clear B_41 A0_42 A1_43 W0_44 S1_45 S2_46 X0_47 S3_48 X1_n
    clear hb
    obtain ⟨cA00, cA01⟩ := A0_51.out.cells
    have lA0 := A0_51.out.lt
    obtain ⟨cA10, cA11⟩ := A1_52.out.cells
    have lA1 := A1_52.out.lt
    obtain ⟨cW00, cW01⟩ := W0_53.out.cells
    have lW0 := W0_53.out.lt
    obtain ⟨cX00, cX01⟩ := X0_56.out.cells
    have lX0 := X0_56.out.lt
    obtain ⟨cX10, cX11⟩ := X1_58.out.cells
    have lX1 := X1_58.out.lt
    go_wp2_with fail
    clear cA00 cA01 lA0 cA10 cA11 lA1 cW00 cW01 lW0 cX00 cX01 lX0 cX10 cX11 lX1
    have hq := boxing w10 26 ro s4 rn c4
    generalize w10.alloc (.cells #[.int .i64 ro, .slice s4 rn c4] 26) = v11 at *
    obtain ⟨hb, hx, hz⟩ := hq
    have Z_59 : Hid (v11.heap.size = w10.heap.size + 1) := hz
    have B_60 : Hid (Below w.heap.size w v11) := B_50.out.trans (hb.mono B_50.out.size)
    have A0_61 : Hid (Boxed v11 w.heap.size 24 b0 sa0 n0 ca0) := A0_51.out.kept hb rfl
    have A1_62 : Hid (Boxed v11 (w.heap.size + 1) 24 b1 sa1 n1 ca1) := A1_52.out.kept hb rfl
    have W0_63 : Hid (Boxed v11 p1 26 ro s1 rn c1) := W0_53.out.kept hb rfl
    have S1_64 : Hid (Slice v11 w4.heap.size w5.heap.size s1 rn rf) := S1_54.out.kept hb rfl
    have S2_65 : Hid (Slice v11 w5.heap.size w6.heap.size s2 n0 f0) := S2_55.out.kept hb rfl
    have X0_66 : Hid (Boxed v11 w6.heap.size 26 b0 s2 n0 c2) := X0_56.out.kept hb rfl
    have S3_67 : Hid (Slice v11 v7.heap.size w8.heap.size s3 n1 f1) := S3_57.out.kept hb rfl
    have X1_68 : Hid (Boxed v11 w8.heap.size 26 b1 s3 n1 c3) := X1_58.out.kept hb rfl
    have S4_69 : Hid (Slice v11 v9.heap.size w10.heap.size s4 rn rf) := S4_n.out.kept hb rfl
    clear B_50 A0_51 A1_52 W0_53 S1_54 S2_55 X0_56 S3_57 X1_58 S4_n
    have G0_n : Hid (Boxed v11 w10.heap.size 26 ro s4 rn c4) := hx
    clear hb hx hz
    refine (eqVec_same ro s4 s1 rn c4 c1 rf _ hrn S4_69.out.row S1_64.out.row).mono ?_
    rintro e w12 ⟨rfl, hb⟩
    have Z_70 : Hid (v11.heap.size ≤ w12.heap.size) := hb.size
    have B_71 : Hid (Below w.heap.size w w12) := B_60.out.trans (hb.mono B_60.out.size)
    have A0_72 : Hid (Boxed w12 w.heap.size 24 b0 sa0 n0 ca0) := A0_61.out.kept hb rfl
    have A1_73 : Hid (Boxed w12 (w.heap.size + 1) 24 b1 sa1 n1 ca1) := A1_62.out.kept hb rfl
    have W0_74 : Hid (Boxed w12 p1 26 ro s1 rn c1) := W0_63.out.kept hb rfl
    have S1_75 : Hid (Slice w12 w4.heap.size w5.heap.size s1 rn rf) := S1_64.out.kept hb rfl
    have S2_76 : Hid (Slice w12 w5.heap.size w6.heap.size s2 n0 f0) := S2_65.out.kept hb rfl
    have X0_77 : Hid (Boxed w12 w6.heap.size 26 b0 s2 n0 c2) := X0_66.out.kept hb rfl
    have S3_78 : Hid (Slice w12 v7.heap.size w8.heap.size s3 n1 f1) := S3_67.out.kept hb rfl
    have X1_79 : Hid (Boxed w12 w8.heap.size 26 b1 s3 n1 c3) := X1_68.out.kept hb rfl
    have S4_80 : Hid (Slice w12 v9.heap.size w10.heap.size s4 rn rf) := S4_69.out.kept hb rfl
    have G0_81 : Hid (Boxed w12 w10.heap.size 26 ro s4 rn c4) := G0_n.out.kept hb rfl
    clear B_60 A0_61 A1_62 W0_63 S1_64 S2_65 X0_66 S3_67 X1_68 S4_69 G0_n
    clear hb
    have R0 : Hid (Row w12 w12.heap.size sa0 n0 f0) := row_since HR0.out ⟨B_71.out⟩
    have RX : Hid (Row w12 w12.heap.size s2 n0 f0) := S2_76.out.row
    go_upto_region 14 with fail
    go_cut [44] (fun v wc => v = .bool false ∧ Since w12 wc)
    case first =>
      obtain ⟨cA00, cA01⟩ := A0_72.out.cells
      have lA0 := A0_72.out.lt
      obtain ⟨cA10, cA11⟩ := A1_73.out.cells
      have lA1 := A1_73.out.lt
      obtain ⟨cW00, cW01⟩ := W0_74.out.cells
      have lW0 := W0_74.out.lt
      obtain ⟨cX00, cX01⟩ := X0_77.out.cells
      have lX0 := X0_77.out.lt
      obtain ⟨cX10, cX11⟩ := X1_79.out.cells
      have lX1 := X1_79.out.lt
      obtain ⟨cG00, cG01⟩ := G0_81.out.cells
      have lG0 := G0_81.out.lt
      go_region_with (first
        | (go_at_call 10; refine (toVec_any b0 sa0 n0 ca0 f0 _ hl0 (row_since R0.out (by first | assumption | exact since_drew (since_refl _) | exact since_alloc (since_drew (since_refl _)) | exact since_alloc (by assumption)))).mono ?_; rintro e w' ⟨s, c, rfl, hb, ho⟩; have hS : Since w12 w' := (by refine since_call ?_ hb; first | assumption | exact since_drew (since_refl _) | exact since_alloc (since_drew (since_refl _)) | exact since_alloc (by assumption)); obtain ⟨cA00, cA01⟩ := (A0_72.out.since hS).cells; have lA0 := (A0_72.out.since hS).lt; obtain ⟨cA10, cA11⟩ := (A1_73.out.since hS).cells; have lA1 := (A1_73.out.since hS).lt; obtain ⟨cW00, cW01⟩ := (W0_74.out.since hS).cells; have lW0 := (W0_74.out.since hS).lt; obtain ⟨cX00, cX01⟩ := (X0_77.out.since hS).cells; have lX0 := (X0_77.out.since hS).lt; obtain ⟨cX10, cX11⟩ := (X1_79.out.since hS).cells; have lX1 := (X1_79.out.since hS).lt; obtain ⟨cG00, cG01⟩ := (G0_81.out.since hS).cells; have lG0 := (G0_81.out.since hS).lt; unfold vecV)
        | (go_at_call 12; refine (eqVec_same b0 s2 _ n0 c2 _ f0 _ hl0 (row_since RX.out (by assumption)) (ownS_since (by assumption) (since_refl _))).mono ?_; rintro e w'' ⟨rfl, hb⟩; have hS : Since w12 w'' := (by refine since_call ?_ hb; first | assumption | exact since_drew (since_refl _) | exact since_alloc (since_drew (since_refl _)) | exact since_alloc (by assumption))))
      all_goals
        go_wp2_with fail
        go_meet
        case rel => exact ⟨rfl, hS⟩
    case rest =>
      obtain ⟨rfl, hS⟩ := hcut
      obtain ⟨w13, hw13⟩ : ∃ x, x = wc := ⟨_, rfl⟩
      rw [← hw13] at hS ⊢
      clear hw13 R0 RX
      have Z_82 : Hid (w12.heap.size ≤ w13.heap.size) := hS.size
      have B_83 : Hid (Below w.heap.size w w13) := B_71.out.trans (hS.below.mono B_71.out.size)
      have A0_84 : Hid (Boxed w13 w.heap.size 24 b0 sa0 n0 ca0) := A0_72.out.kept hS.below rfl
      have A1_85 : Hid (Boxed w13 (w.heap.size + 1) 24 b1 sa1 n1 ca1) := A1_73.out.kept hS.below rfl
      have W0_86 : Hid (Boxed w13 p1 26 ro s1 rn c1) := W0_74.out.kept hS.below rfl
      have S1_87 : Hid (Slice w13 w4.heap.size w5.heap.size s1 rn rf) := S1_75.out.kept hS.below rfl
      have S2_88 : Hid (Slice w13 w5.heap.size w6.heap.size s2 n0 f0) := S2_76.out.kept hS.below rfl
      have X0_89 : Hid (Boxed w13 w6.heap.size 26 b0 s2 n0 c2) := X0_77.out.kept hS.below rfl
      have S3_90 : Hid (Slice w13 v7.heap.size w8.heap.size s3 n1 f1) := S3_78.out.kept hS.below rfl
      have X1_91 : Hid (Boxed w13 w8.heap.size 26 b1 s3 n1 c3) := X1_79.out.kept hS.below rfl
      have S4_92 : Hid (Slice w13 v9.heap.size w10.heap.size s4 rn rf) := S4_80.out.kept hS.below rfl
      have G0_93 : Hid (Boxed w13 w10.heap.size 26 ro s4 rn c4) := G0_81.out.kept hS.below rfl
      clear B_71 A0_72 A1_73 W0_74 S1_75 S2_76 X0_77 S3_78 X1_79 S4_80 G0_81
      clear hS
      have R1 : Hid (Row w13 w13.heap.size sa1 n1 f1) := row_since HR1.out ⟨B_83.out⟩
      have RX : Hid (Row w13 w13.heap.size s3 n1 f1) := S3_90.out.row
      go_upto_region 16 with fail
      go_cut [49] (fun v wc => v = .bool false ∧ Since w13 wc)
      case first =>
        obtain ⟨cA00, cA01⟩ := A0_84.out.cells
        have lA0 := A0_84.out.lt
        obtain ⟨cA10, cA11⟩ := A1_85.out.cells
        have lA1 := A1_85.out.lt
        obtain ⟨cW00, cW01⟩ := W0_86.out.cells
        have lW0 := W0_86.out.lt
        obtain ⟨cX00, cX01⟩ := X0_89.out.cells
        have lX0 := X0_89.out.lt
        obtain ⟨cX10, cX11⟩ := X1_91.out.cells
        have lX1 := X1_91.out.lt
        obtain ⟨cG00, cG01⟩ := G0_93.out.cells
        have lG0 := G0_93.out.lt
        go_region_with (first
          | (go_at_call 10; refine (toVec_any b1 sa1 n1 ca1 f1 _ hl1 (row_since R1.out (by first | assumption | exact since_drew (since_refl _) | exact since_alloc (since_drew (since_refl _)) | exact since_alloc (by assumption)))).mono ?_; rintro e w' ⟨s, c, rfl, hb, ho⟩; have hS : Since w13 w' := (by refine since_call ?_ hb; first | assumption | exact since_drew (since_refl _) | exact since_alloc (since_drew (since_refl _)) | exact since_alloc (by assumption)); obtain ⟨cA00, cA01⟩ := (A0_84.out.since hS).cells; have lA0 := (A0_84.out.since hS).lt; obtain ⟨cA10, cA11⟩ := (A1_85.out.since hS).cells; have lA1 := (A1_85.out.since hS).lt; obtain ⟨cW00, cW01⟩ := (W0_86.out.since hS).cells; have lW0 := (W0_86.out.since hS).lt; obtain ⟨cX00, cX01⟩ := (X0_89.out.since hS).cells; have lX0 := (X0_89.out.since hS).lt; obtain ⟨cX10, cX11⟩ := (X1_91.out.since hS).cells; have lX1 := (X1_91.out.since hS).lt; obtain ⟨cG00, cG01⟩ := (G0_93.out.since hS).cells; have lG0 := (G0_93.out.since hS).lt; unfold vecV)
          | (go_at_call 12; refine (eqVec_same b1 s3 _ n1 c3 _ f1 _ hl1 (row_since RX.out (by assumption)) (ownS_since (by assumption) (since_refl _))).mono ?_; rintro e w'' ⟨rfl, hb⟩; have hS : Since w13 w'' := (by refine since_call ?_ hb; first | assumption | exact since_drew (since_refl _) | exact since_alloc (since_drew (since_refl _)) | exact since_alloc (by assumption))))
        all_goals
          go_wp2_with fail
          go_meet
          case rel => exact ⟨rfl, hS⟩
      case rest =>
        obtain ⟨rfl, hS⟩ := hcut
        obtain ⟨w14, hw14⟩ : ∃ x, x = wc := ⟨_, rfl⟩
        rw [← hw14] at hS ⊢
        clear hw14 R1 RX
        have Z_94 : Hid (w13.heap.size ≤ w14.heap.size) := hS.size
        have B_95 : Hid (Below w.heap.size w w14) := B_83.out.trans (hS.below.mono B_83.out.size)
        have A0_96 : Hid (Boxed w14 w.heap.size 24 b0 sa0 n0 ca0) := A0_84.out.kept hS.below rfl
        have A1_97 : Hid (Boxed w14 (w.heap.size + 1) 24 b1 sa1 n1 ca1) := A1_85.out.kept hS.below rfl
        have W0_98 : Hid (Boxed w14 p1 26 ro s1 rn c1) := W0_86.out.kept hS.below rfl
        have S1_99 : Hid (Slice w14 w4.heap.size w5.heap.size s1 rn rf) := S1_87.out.kept hS.below rfl
        have S2_100 : Hid (Slice w14 w5.heap.size w6.heap.size s2 n0 f0) := S2_88.out.kept hS.below rfl
        have X0_101 : Hid (Boxed w14 w6.heap.size 26 b0 s2 n0 c2) := X0_89.out.kept hS.below rfl
        have S3_102 : Hid (Slice w14 v7.heap.size w8.heap.size s3 n1 f1) := S3_90.out.kept hS.below rfl
        have X1_103 : Hid (Boxed w14 w8.heap.size 26 b1 s3 n1 c3) := X1_91.out.kept hS.below rfl
        have S4_104 : Hid (Slice w14 v9.heap.size w10.heap.size s4 rn rf) := S4_92.out.kept hS.below rfl
        have G0_105 : Hid (Boxed w14 w10.heap.size 26 ro s4 rn c4) := G0_93.out.kept hS.below rfl
        clear B_83 A0_84 A1_85 W0_86 S1_87 S2_88 X0_89 S3_90 X1_91 S4_92 G0_93
        clear hS
        obtain ⟨cA00, cA01⟩ := A0_96.out.cells
        have lA0 := A0_96.out.lt
        obtain ⟨cA10, cA11⟩ := A1_97.out.cells
        have lA1 := A1_97.out.lt
        obtain ⟨cW00, cW01⟩ := W0_98.out.cells
        have lW0 := W0_98.out.lt
        obtain ⟨cX00, cX01⟩ := X0_101.out.cells
        have lX0 := X0_101.out.lt
        obtain ⟨cX10, cX11⟩ := X1_103.out.cells
        have lX1 := X1_103.out.lt
        obtain ⟨cG00, cG01⟩ := G0_105.out.cells
        have lG0 := G0_105.out.lt
        go_wp2_with fail
        refine (markVec_in b0 s2 n0 c2 w5.heap.size w6.heap.size _ 1 _ hl0 (by omega) (by omega) S2_100.out).mono ?_
        clear cA00 cA01 lA0 cA10 cA11 lA1 cW00 cW01 lW0 cX00 cX01 lX0 cX10 cX11 lX1 cG00 cG01 lG0
        rintro e w15 ⟨rfl, hon, hsl⟩
        have S2_m : Hid (Slice w15 w5.heap.size w6.heap.size s2 n0 (fun i => (1 : Int) + (i : Int))) := hsl
        have Z_106 : Hid (w14.heap.size ≤ w15.heap.size) := hon.size
        have B_107 : Hid (Below w.heap.size w w15) := B_95.out.trans (hon.below (by have := Z_1.out; have := Z_3.out; have := Z_6.out; have := Z_10.out; have := Z_14.out; have := Z_15.out; have := Z_19.out; have := Z_25.out; have := Z_32.out; have := Z_40.out; have := Z_49.out; have := Z_59.out; have := Z_70.out; have := Z_82.out; have := Z_94.out; have := Z_106.out; omega) B_95.out.size)
        have A0_108 : Hid (Boxed w15 w.heap.size 24 b0 sa0 n0 ca0) := A0_96.out.only hon (by have := Z_1.out; have := Z_3.out; have := Z_6.out; have := Z_10.out; have := Z_14.out; have := Z_15.out; have := Z_19.out; have := Z_25.out; have := Z_32.out; have := Z_40.out; have := Z_49.out; have := Z_59.out; have := Z_70.out; have := Z_82.out; have := Z_94.out; have := Z_106.out; omega)
        have A1_109 : Hid (Boxed w15 (w.heap.size + 1) 24 b1 sa1 n1 ca1) := A1_97.out.only hon (by have := Z_1.out; have := Z_3.out; have := Z_6.out; have := Z_10.out; have := Z_14.out; have := Z_15.out; have := Z_19.out; have := Z_25.out; have := Z_32.out; have := Z_40.out; have := Z_49.out; have := Z_59.out; have := Z_70.out; have := Z_82.out; have := Z_94.out; have := Z_106.out; omega)
        have W0_110 : Hid (Boxed w15 p1 26 ro s1 rn c1) := W0_98.out.only hon (by have := Z_1.out; have := Z_3.out; have := Z_6.out; have := Z_10.out; have := Z_14.out; have := Z_15.out; have := Z_19.out; have := Z_25.out; have := Z_32.out; have := Z_40.out; have := Z_49.out; have := Z_59.out; have := Z_70.out; have := Z_82.out; have := Z_94.out; have := Z_106.out; omega)
        have S1_111 : Hid (Slice w15 w4.heap.size w5.heap.size s1 rn rf) := S1_99.out.only hon (by have := Z_1.out; have := Z_3.out; have := Z_6.out; have := Z_10.out; have := Z_14.out; have := Z_15.out; have := Z_19.out; have := Z_25.out; have := Z_32.out; have := Z_40.out; have := Z_49.out; have := Z_59.out; have := Z_70.out; have := Z_82.out; have := Z_94.out; have := Z_106.out; omega)
        have X0_112 : Hid (Boxed w15 w6.heap.size 26 b0 s2 n0 c2) := X0_101.out.only hon (by have := Z_1.out; have := Z_3.out; have := Z_6.out; have := Z_10.out; have := Z_14.out; have := Z_15.out; have := Z_19.out; have := Z_25.out; have := Z_32.out; have := Z_40.out; have := Z_49.out; have := Z_59.out; have := Z_70.out; have := Z_82.out; have := Z_94.out; have := Z_106.out; omega)
        have S3_113 : Hid (Slice w15 v7.heap.size w8.heap.size s3 n1 f1) := S3_102.out.only hon (by have := Z_1.out; have := Z_3.out; have := Z_6.out; have := Z_10.out; have := Z_14.out; have := Z_15.out; have := Z_19.out; have := Z_25.out; have := Z_32.out; have := Z_40.out; have := Z_49.out; have := Z_59.out; have := Z_70.out; have := Z_82.out; have := Z_94.out; have := Z_106.out; omega)
        have X1_114 : Hid (Boxed w15 w8.heap.size 26 b1 s3 n1 c3) := X1_103.out.only hon (by have := Z_1.out; have := Z_3.out; have := Z_6.out; have := Z_10.out; have := Z_14.out; have := Z_15.out; have := Z_19.out; have := Z_25.out; have := Z_32.out; have := Z_40.out; have := Z_49.out; have := Z_59.out; have := Z_70.out; have := Z_82.out; have := Z_94.out; have := Z_106.out; omega)
        have S4_115 : Hid (Slice w15 v9.heap.size w10.heap.size s4 rn rf) := S4_104.out.only hon (by have := Z_1.out; have := Z_3.out; have := Z_6.out; have := Z_10.out; have := Z_14.out; have := Z_15.out; have := Z_19.out; have := Z_25.out; have := Z_32.out; have := Z_40.out; have := Z_49.out; have := Z_59.out; have := Z_70.out; have := Z_82.out; have := Z_94.out; have := Z_106.out; omega)
        have G0_116 : Hid (Boxed w15 w10.heap.size 26 ro s4 rn c4) := G0_105.out.only hon (by have := Z_1.out; have := Z_3.out; have := Z_6.out; have := Z_10.out; have := Z_14.out; have := Z_15.out; have := Z_19.out; have := Z_25.out; have := Z_32.out; have := Z_40.out; have := Z_49.out; have := Z_59.out; have := Z_70.out; have := Z_82.out; have := Z_94.out; have := Z_106.out; omega)
        clear B_95 A0_96 A1_97 W0_98 S1_99 X0_101 S3_102 X1_103 S4_104 G0_105
        clear S2_100 hon hsl
        obtain ⟨cA00, cA01⟩ := A0_108.out.cells
        have lA0 := A0_108.out.lt
        obtain ⟨cA10, cA11⟩ := A1_109.out.cells
        have lA1 := A1_109.out.lt
        obtain ⟨cW00, cW01⟩ := W0_110.out.cells
        have lW0 := W0_110.out.lt
        obtain ⟨cX00, cX01⟩ := X0_112.out.cells
        have lX0 := X0_112.out.lt
        obtain ⟨cX10, cX11⟩ := X1_114.out.cells
        have lX1 := X1_114.out.lt
        obtain ⟨cG00, cG01⟩ := G0_116.out.cells
        have lG0 := G0_116.out.lt
        go_wp2_with fail
        refine (markVec_in b1 s3 n1 c3 v7.heap.size w8.heap.size _ (1 + (n0 : Int)) _ hl1 (by omega) (by omega) S3_113.out).mono ?_
        clear cA00 cA01 lA0 cA10 cA11 lA1 cW00 cW01 lW0 cX00 cX01 lX0 cX10 cX11 lX1 cG00 cG01 lG0
        rintro e w16 ⟨rfl, hon, hsl⟩
        have S3_m : Hid (Slice w16 v7.heap.size w8.heap.size s3 n1 (fun i => ((1 + (n0 : Int)) : Int) + (i : Int))) := hsl
        have Z_117 : Hid (w15.heap.size ≤ w16.heap.size) := hon.size
        have B_118 : Hid (Below w.heap.size w w16) := B_107.out.trans (hon.below (by have := Z_1.out; have := Z_3.out; have := Z_6.out; have := Z_10.out; have := Z_14.out; have := Z_15.out; have := Z_19.out; have := Z_25.out; have := Z_32.out; have := Z_40.out; have := Z_49.out; have := Z_59.out; have := Z_70.out; have := Z_82.out; have := Z_94.out; have := Z_106.out; have := Z_117.out; omega) B_107.out.size)
        have A0_119 : Hid (Boxed w16 w.heap.size 24 b0 sa0 n0 ca0) := A0_108.out.only hon (by have := Z_1.out; have := Z_3.out; have := Z_6.out; have := Z_10.out; have := Z_14.out; have := Z_15.out; have := Z_19.out; have := Z_25.out; have := Z_32.out; have := Z_40.out; have := Z_49.out; have := Z_59.out; have := Z_70.out; have := Z_82.out; have := Z_94.out; have := Z_106.out; have := Z_117.out; omega)
        have A1_120 : Hid (Boxed w16 (w.heap.size + 1) 24 b1 sa1 n1 ca1) := A1_109.out.only hon (by have := Z_1.out; have := Z_3.out; have := Z_6.out; have := Z_10.out; have := Z_14.out; have := Z_15.out; have := Z_19.out; have := Z_25.out; have := Z_32.out; have := Z_40.out; have := Z_49.out; have := Z_59.out; have := Z_70.out; have := Z_82.out; have := Z_94.out; have := Z_106.out; have := Z_117.out; omega)
        have W0_121 : Hid (Boxed w16 p1 26 ro s1 rn c1) := W0_110.out.only hon (by have := Z_1.out; have := Z_3.out; have := Z_6.out; have := Z_10.out; have := Z_14.out; have := Z_15.out; have := Z_19.out; have := Z_25.out; have := Z_32.out; have := Z_40.out; have := Z_49.out; have := Z_59.out; have := Z_70.out; have := Z_82.out; have := Z_94.out; have := Z_106.out; have := Z_117.out; omega)
        have S1_122 : Hid (Slice w16 w4.heap.size w5.heap.size s1 rn rf) := S1_111.out.only hon (by have := Z_1.out; have := Z_3.out; have := Z_6.out; have := Z_10.out; have := Z_14.out; have := Z_15.out; have := Z_19.out; have := Z_25.out; have := Z_32.out; have := Z_40.out; have := Z_49.out; have := Z_59.out; have := Z_70.out; have := Z_82.out; have := Z_94.out; have := Z_106.out; have := Z_117.out; omega)
        have S2_123 : Hid (Slice w16 w5.heap.size w6.heap.size s2 n0 (fun i => (1 : Int) + (i : Int))) := S2_m.out.only hon (by have := Z_1.out; have := Z_3.out; have := Z_6.out; have := Z_10.out; have := Z_14.out; have := Z_15.out; have := Z_19.out; have := Z_25.out; have := Z_32.out; have := Z_40.out; have := Z_49.out; have := Z_59.out; have := Z_70.out; have := Z_82.out; have := Z_94.out; have := Z_106.out; have := Z_117.out; omega)
        have X0_124 : Hid (Boxed w16 w6.heap.size 26 b0 s2 n0 c2) := X0_112.out.only hon (by have := Z_1.out; have := Z_3.out; have := Z_6.out; have := Z_10.out; have := Z_14.out; have := Z_15.out; have := Z_19.out; have := Z_25.out; have := Z_32.out; have := Z_40.out; have := Z_49.out; have := Z_59.out; have := Z_70.out; have := Z_82.out; have := Z_94.out; have := Z_106.out; have := Z_117.out; omega)
        have X1_125 : Hid (Boxed w16 w8.heap.size 26 b1 s3 n1 c3) := X1_114.out.only hon (by have := Z_1.out; have := Z_3.out; have := Z_6.out; have := Z_10.out; have := Z_14.out; have := Z_15.out; have := Z_19.out; have := Z_25.out; have := Z_32.out; have := Z_40.out; have := Z_49.out; have := Z_59.out; have := Z_70.out; have := Z_82.out; have := Z_94.out; have := Z_106.out; have := Z_117.out; omega)
        have S4_126 : Hid (Slice w16 v9.heap.size w10.heap.size s4 rn rf) := S4_115.out.only hon (by have := Z_1.out; have := Z_3.out; have := Z_6.out; have := Z_10.out; have := Z_14.out; have := Z_15.out; have := Z_19.out; have := Z_25.out; have := Z_32.out; have := Z_40.out; have := Z_49.out; have := Z_59.out; have := Z_70.out; have := Z_82.out; have := Z_94.out; have := Z_106.out; have := Z_117.out; omega)
        have G0_127 : Hid (Boxed w16 w10.heap.size 26 ro s4 rn c4) := G0_116.out.only hon (by have := Z_1.out; have := Z_3.out; have := Z_6.out; have := Z_10.out; have := Z_14.out; have := Z_15.out; have := Z_19.out; have := Z_25.out; have := Z_32.out; have := Z_40.out; have := Z_49.out; have := Z_59.out; have := Z_70.out; have := Z_82.out; have := Z_94.out; have := Z_106.out; have := Z_117.out; omega)
        clear B_107 A0_108 A1_109 W0_110 S1_111 S2_m X0_112 X1_114 S4_115 G0_116
        clear S3_113 hon hsl
        have hk : ¬ (1 + (n0 : Int) + (n1 : Int) : Int) < 0 := by omega
        obtain ⟨cA00, cA01⟩ := A0_119.out.cells
        have lA0 := A0_119.out.lt
        obtain ⟨cA10, cA11⟩ := A1_120.out.cells
        have lA1 := A1_120.out.lt
        obtain ⟨cW00, cW01⟩ := W0_121.out.cells
        have lW0 := W0_121.out.lt
        obtain ⟨cX00, cX01⟩ := X0_124.out.cells
        have lX0 := X0_124.out.lt
        obtain ⟨cX10, cX11⟩ := X1_125.out.cells
        have lX1 := X1_125.out.lt
        obtain ⟨cG00, cG01⟩ := G0_127.out.cells
        have lG0 := G0_127.out.lt
        go_wp2_with fail
        refine (eqVec_same ro s4 s1 rn c4 c1 rf _ hrn S4_126.out.row S1_122.out.row).mono ?_
        clear cA00 cA01 lA0 cA10 cA11 lA1 cW00 cW01 lW0 cX00 cX01 lX0 cX10 cX11 lX1 cG00 cG01 lG0
        rintro e w17 ⟨rfl, hb⟩
        have Z_128 : Hid (w16.heap.size ≤ w17.heap.size) := hb.size
        have B_129 : Hid (Below w.heap.size w w17) := B_118.out.trans (hb.mono B_118.out.size)
        have A0_130 : Hid (Boxed w17 w.heap.size 24 b0 sa0 n0 ca0) := A0_119.out.kept hb rfl
        have A1_131 : Hid (Boxed w17 (w.heap.size + 1) 24 b1 sa1 n1 ca1) := A1_120.out.kept hb rfl
        have W0_132 : Hid (Boxed w17 p1 26 ro s1 rn c1) := W0_121.out.kept hb rfl
        have S1_133 : Hid (Slice w17 w4.heap.size w5.heap.size s1 rn rf) := S1_122.out.kept hb rfl
        have S2_134 : Hid (Slice w17 w5.heap.size w6.heap.size s2 n0 (fun i => (1 : Int) + (i : Int))) := S2_123.out.kept hb rfl
        have X0_135 : Hid (Boxed w17 w6.heap.size 26 b0 s2 n0 c2) := X0_124.out.kept hb rfl
        have S3_136 : Hid (Slice w17 v7.heap.size w8.heap.size s3 n1 (fun i => ((1 + (n0 : Int)) : Int) + (i : Int))) := S3_m.out.kept hb rfl
        have X1_137 : Hid (Boxed w17 w8.heap.size 26 b1 s3 n1 c3) := X1_125.out.kept hb rfl
        have S4_138 : Hid (Slice w17 v9.heap.size w10.heap.size s4 rn rf) := S4_126.out.kept hb rfl
        have G0_139 : Hid (Boxed w17 w10.heap.size 26 ro s4 rn c4) := G0_127.out.kept hb rfl
        clear B_118 A0_119 A1_120 W0_121 S1_122 S2_123 X0_124 S3_m X1_125 S4_126 G0_127
        clear hb
        obtain ⟨cA00, cA01⟩ := A0_130.out.cells
        have lA0 := A0_130.out.lt
        obtain ⟨cA10, cA11⟩ := A1_131.out.cells
        have lA1 := A1_131.out.lt
        obtain ⟨cW00, cW01⟩ := W0_132.out.cells
        have lW0 := W0_132.out.lt
        obtain ⟨cX00, cX01⟩ := X0_135.out.cells
        have lX0 := X0_135.out.lt
        obtain ⟨cX10, cX11⟩ := X1_137.out.cells
        have lX1 := X1_137.out.lt
        obtain ⟨cG00, cG01⟩ := G0_139.out.cells
        have lG0 := G0_139.out.lt
        go_wp2_with fail
        refine (markVec_in ro s4 rn c4 v9.heap.size w10.heap.size _ 1 _ hrn (by omega) (by omega) S4_138.out).mono ?_
        clear cA00 cA01 lA0 cA10 cA11 lA1 cW00 cW01 lW0 cX00 cX01 lX0 cX10 cX11 lX1 cG00 cG01 lG0
        rintro e w18 ⟨rfl, hon, hsl⟩
        have S4_m : Hid (Slice w18 v9.heap.size w10.heap.size s4 rn (fun i => (1 : Int) + (i : Int))) := hsl
        have Z_140 : Hid (w17.heap.size ≤ w18.heap.size) := hon.size
        have B_141 : Hid (Below w.heap.size w w18) := B_129.out.trans (hon.below (by have := Z_1.out; have := Z_3.out; have := Z_6.out; have := Z_10.out; have := Z_14.out; have := Z_15.out; have := Z_19.out; have := Z_25.out; have := Z_32.out; have := Z_40.out; have := Z_49.out; have := Z_59.out; have := Z_70.out; have := Z_82.out; have := Z_94.out; have := Z_106.out; have := Z_117.out; have := Z_128.out; have := Z_140.out; omega) B_129.out.size)
        have A0_142 : Hid (Boxed w18 w.heap.size 24 b0 sa0 n0 ca0) := A0_130.out.only hon (by have := Z_1.out; have := Z_3.out; have := Z_6.out; have := Z_10.out; have := Z_14.out; have := Z_15.out; have := Z_19.out; have := Z_25.out; have := Z_32.out; have := Z_40.out; have := Z_49.out; have := Z_59.out; have := Z_70.out; have := Z_82.out; have := Z_94.out; have := Z_106.out; have := Z_117.out; have := Z_128.out; have := Z_140.out; omega)
        have A1_143 : Hid (Boxed w18 (w.heap.size + 1) 24 b1 sa1 n1 ca1) := A1_131.out.only hon (by have := Z_1.out; have := Z_3.out; have := Z_6.out; have := Z_10.out; have := Z_14.out; have := Z_15.out; have := Z_19.out; have := Z_25.out; have := Z_32.out; have := Z_40.out; have := Z_49.out; have := Z_59.out; have := Z_70.out; have := Z_82.out; have := Z_94.out; have := Z_106.out; have := Z_117.out; have := Z_128.out; have := Z_140.out; omega)
        have W0_144 : Hid (Boxed w18 p1 26 ro s1 rn c1) := W0_132.out.only hon (by have := Z_1.out; have := Z_3.out; have := Z_6.out; have := Z_10.out; have := Z_14.out; have := Z_15.out; have := Z_19.out; have := Z_25.out; have := Z_32.out; have := Z_40.out; have := Z_49.out; have := Z_59.out; have := Z_70.out; have := Z_82.out; have := Z_94.out; have := Z_106.out; have := Z_117.out; have := Z_128.out; have := Z_140.out; omega)
        have S1_145 : Hid (Slice w18 w4.heap.size w5.heap.size s1 rn rf) := S1_133.out.only hon (by have := Z_1.out; have := Z_3.out; have := Z_6.out; have := Z_10.out; have := Z_14.out; have := Z_15.out; have := Z_19.out; have := Z_25.out; have := Z_32.out; have := Z_40.out; have := Z_49.out; have := Z_59.out; have := Z_70.out; have := Z_82.out; have := Z_94.out; have := Z_106.out; have := Z_117.out; have := Z_128.out; have := Z_140.out; omega)
        have S2_146 : Hid (Slice w18 w5.heap.size w6.heap.size s2 n0 (fun i => (1 : Int) + (i : Int))) := S2_134.out.only hon (by have := Z_1.out; have := Z_3.out; have := Z_6.out; have := Z_10.out; have := Z_14.out; have := Z_15.out; have := Z_19.out; have := Z_25.out; have := Z_32.out; have := Z_40.out; have := Z_49.out; have := Z_59.out; have := Z_70.out; have := Z_82.out; have := Z_94.out; have := Z_106.out; have := Z_117.out; have := Z_128.out; have := Z_140.out; omega)
        have X0_147 : Hid (Boxed w18 w6.heap.size 26 b0 s2 n0 c2) := X0_135.out.only hon (by have := Z_1.out; have := Z_3.out; have := Z_6.out; have := Z_10.out; have := Z_14.out; have := Z_15.out; have := Z_19.out; have := Z_25.out; have := Z_32.out; have := Z_40.out; have := Z_49.out; have := Z_59.out; have := Z_70.out; have := Z_82.out; have := Z_94.out; have := Z_106.out; have := Z_117.out; have := Z_128.out; have := Z_140.out; omega)
        have S3_148 : Hid (Slice w18 v7.heap.size w8.heap.size s3 n1 (fun i => ((1 + (n0 : Int)) : Int) + (i : Int))) := S3_136.out.only hon (by have := Z_1.out; have := Z_3.out; have := Z_6.out; have := Z_10.out; have := Z_14.out; have := Z_15.out; have := Z_19.out; have := Z_25.out; have := Z_32.out; have := Z_40.out; have := Z_49.out; have := Z_59.out; have := Z_70.out; have := Z_82.out; have := Z_94.out; have := Z_106.out; have := Z_117.out; have := Z_128.out; have := Z_140.out; omega)
        have X1_149 : Hid (Boxed w18 w8.heap.size 26 b1 s3 n1 c3) := X1_137.out.only hon (by have := Z_1.out; have := Z_3.out; have := Z_6.out; have := Z_10.out; have := Z_14.out; have := Z_15.out; have := Z_19.out; have := Z_25.out; have := Z_32.out; have := Z_40.out; have := Z_49.out; have := Z_59.out; have := Z_70.out; have := Z_82.out; have := Z_94.out; have := Z_106.out; have := Z_117.out; have := Z_128.out; have := Z_140.out; omega)
        have G0_150 : Hid (Boxed w18 w10.heap.size 26 ro s4 rn c4) := G0_139.out.only hon (by have := Z_1.out; have := Z_3.out; have := Z_6.out; have := Z_10.out; have := Z_14.out; have := Z_15.out; have := Z_19.out; have := Z_25.out; have := Z_32.out; have := Z_40.out; have := Z_49.out; have := Z_59.out; have := Z_70.out; have := Z_82.out; have := Z_94.out; have := Z_106.out; have := Z_117.out; have := Z_128.out; have := Z_140.out; omega)
        clear B_129 A0_130 A1_131 W0_132 S1_133 S2_134 X0_135 S3_136 X1_137 G0_139
        clear S4_138 hon hsl
        obtain ⟨cA00, cA01⟩ := A0_142.out.cells
        have lA0 := A0_142.out.lt
        obtain ⟨cA10, cA11⟩ := A1_143.out.cells
        have lA1 := A1_143.out.lt
        obtain ⟨cW00, cW01⟩ := W0_144.out.cells
        have lW0 := W0_144.out.lt
        obtain ⟨cX00, cX01⟩ := X0_147.out.cells
        have lX0 := X0_147.out.lt
        obtain ⟨cX10, cX11⟩ := X1_149.out.cells
        have lX1 := X1_149.out.lt
        obtain ⟨cG00, cG01⟩ := G0_150.out.cells
        have lG0 := G0_150.out.lt
        go_wp2_with fail
        refine (heldVec_any ro s4 rn c4 1 _ hrn (by omega) (by omega) S4_m.out.row).mono ?_
        clear cA00 cA01 lA0 cA10 cA11 lA1 cW00 cW01 lW0 cX00 cX01 lX0 cX10 cX11 lX1 cG00 cG01 lG0
        rintro e w19 ⟨rfl, hb⟩
        have Z_151 : Hid (w18.heap.size ≤ w19.heap.size) := hb.size
        have B_152 : Hid (Below w.heap.size w w19) := B_141.out.trans (hb.mono B_141.out.size)
        have A0_153 : Hid (Boxed w19 w.heap.size 24 b0 sa0 n0 ca0) := A0_142.out.kept hb rfl
        have A1_154 : Hid (Boxed w19 (w.heap.size + 1) 24 b1 sa1 n1 ca1) := A1_143.out.kept hb rfl
        have W0_155 : Hid (Boxed w19 p1 26 ro s1 rn c1) := W0_144.out.kept hb rfl
        have S1_156 : Hid (Slice w19 w4.heap.size w5.heap.size s1 rn rf) := S1_145.out.kept hb rfl
        have S2_157 : Hid (Slice w19 w5.heap.size w6.heap.size s2 n0 (fun i => (1 : Int) + (i : Int))) := S2_146.out.kept hb rfl
        have X0_158 : Hid (Boxed w19 w6.heap.size 26 b0 s2 n0 c2) := X0_147.out.kept hb rfl
        have S3_159 : Hid (Slice w19 v7.heap.size w8.heap.size s3 n1 (fun i => ((1 + (n0 : Int)) : Int) + (i : Int))) := S3_148.out.kept hb rfl
        have X1_160 : Hid (Boxed w19 w8.heap.size 26 b1 s3 n1 c3) := X1_149.out.kept hb rfl
        have S4_161 : Hid (Slice w19 v9.heap.size w10.heap.size s4 rn (fun i => (1 : Int) + (i : Int))) := S4_m.out.kept hb rfl
        have G0_162 : Hid (Boxed w19 w10.heap.size 26 ro s4 rn c4) := G0_150.out.kept hb rfl
        clear B_141 A0_142 A1_143 W0_144 S1_145 S2_146 X0_147 S3_148 X1_149 S4_m G0_150
        clear hb
        have hk2 : ¬ ((1 : Int) + (rn : Int)) < 0 := by omega
        have R0 : Hid (Row w19 w19.heap.size sa0 n0 f0) := row_since HR0.out ⟨B_152.out⟩
        have R1 : Hid (Row w19 w19.heap.size sa1 n1 f1) := row_since HR1.out ⟨B_152.out⟩
        go_upto_region 31 with fail
        go_cut [13] (fun pv wc => CutP w19 26 ro rn rf pv wc)
        case first =>
          obtain ⟨cA00, cA01⟩ := A0_153.out.cells
          have lA0 := A0_153.out.lt
          obtain ⟨cA10, cA11⟩ := A1_154.out.cells
          have lA1 := A1_154.out.lt
          obtain ⟨cW00, cW01⟩ := W0_155.out.cells
          have lW0 := W0_155.out.lt
          obtain ⟨cX00, cX01⟩ := X0_158.out.cells
          have lX0 := X0_158.out.lt
          obtain ⟨cX10, cX11⟩ := X1_160.out.cells
          have lX1 := X1_160.out.lt
          obtain ⟨cG00, cG01⟩ := G0_162.out.cells
          have lG0 := G0_162.out.lt
          go_region_with (first
            | (go_at_call_of 10 sa0; refine (toVec_any b0 sa0 n0 ca0 f0 _ hl0 (row_since R0.out (by first | assumption | exact since_drew (since_refl _) | exact since_alloc (since_drew (since_refl _)) | exact since_alloc (by assumption)))).mono ?_; rintro e w' ⟨s, c, rfl, hb, ho⟩; (try (have hbx : Boxed w' _ 26 0 none 0 0 := Boxed.kept (by first | assumption | exact heap_alloc_new _ _) hb rfl; obtain ⟨d0, d1, d2, d3⟩ := hbx.four)); have hS : Since w19 w' := (by refine since_call ?_ hb; first | assumption | exact since_drew (since_refl _) | exact since_alloc (since_drew (since_refl _)) | exact since_alloc (by assumption)); obtain ⟨cA00, cA01⟩ := (A0_153.out.since hS).cells; have lA0 := (A0_153.out.since hS).lt; obtain ⟨cA10, cA11⟩ := (A1_154.out.since hS).cells; have lA1 := (A1_154.out.since hS).lt; obtain ⟨cW00, cW01⟩ := (W0_155.out.since hS).cells; have lW0 := (W0_155.out.since hS).lt; obtain ⟨cX00, cX01⟩ := (X0_158.out.since hS).cells; have lX0 := (X0_158.out.since hS).lt; obtain ⟨cX10, cX11⟩ := (X1_160.out.since hS).cells; have lX1 := (X1_160.out.since hS).lt; obtain ⟨cG00, cG01⟩ := (G0_162.out.since hS).cells; have lG0 := (G0_162.out.since hS).lt; unfold vecV)
            | (go_at_call_of 10 sa1; refine (toVec_any b1 sa1 n1 ca1 f1 _ hl1 (row_since R1.out (by first | assumption | exact since_drew (since_refl _) | exact since_alloc (since_drew (since_refl _)) | exact since_alloc (by assumption)))).mono ?_; rintro e w' ⟨s, c, rfl, hb, ho⟩; (try (have hbx : Boxed w' _ 26 0 none 0 0 := Boxed.kept (by first | assumption | exact heap_alloc_new _ _) hb rfl; obtain ⟨d0, d1, d2, d3⟩ := hbx.four)); have hS : Since w19 w' := (by refine since_call ?_ hb; first | assumption | exact since_drew (since_refl _) | exact since_alloc (since_drew (since_refl _)) | exact since_alloc (by assumption)); obtain ⟨cA00, cA01⟩ := (A0_153.out.since hS).cells; have lA0 := (A0_153.out.since hS).lt; obtain ⟨cA10, cA11⟩ := (A1_154.out.since hS).cells; have lA1 := (A1_154.out.since hS).lt; obtain ⟨cW00, cW01⟩ := (W0_155.out.since hS).cells; have lW0 := (W0_155.out.since hS).lt; obtain ⟨cX00, cX01⟩ := (X0_158.out.since hS).cells; have lX0 := (X0_158.out.since hS).lt; obtain ⟨cX10, cX11⟩ := (X1_160.out.since hS).cells; have lX1 := (X1_160.out.since hS).lt; obtain ⟨cG00, cG01⟩ := (G0_162.out.since hS).cells; have lG0 := (G0_162.out.since hS).lt; unfold vecV)
            | (go_at_call 22; refine (HI.out _ _ _ _ _ (ownS_since (by assumption) (by first | exact since_refl _ | assumption | exact since_alloc (since_refl _) | (refine since_call ?_ (by assumption); first | exact since_refl _ | exact since_alloc (since_refl _)) | (refine since_alloc (since_call ?_ (by assumption)); first | exact since_refl _ | exact since_alloc (since_refl _)))) (ownS_since (by assumption) (by first | exact since_refl _ | exact since_alloc (since_refl _)))).mono ?_; rintro e w'' ⟨sx, cx, rfl, hb, ho⟩; (try (have hbx : Boxed w'' _ 26 0 none 0 0 := Boxed.kept (by first | assumption | exact heap_alloc_new _ _) hb rfl; obtain ⟨d0, d1, d2, d3⟩ := hbx.four)); have hS : Since w19 w'' := (by refine since_call ?_ hb; first | assumption | exact since_drew (since_refl _) | exact since_alloc (since_drew (since_refl _)) | exact since_alloc (by assumption)); unfold vecV))
          all_goals
            go_wp2_with fail
            go_meet
            case rel => first
              | exact cut_late hS (by first | exact Nat.le_refl _ | exact Since.size (by assumption)) ho
              | exact cut_early hS (by assumption) (by first | exact Nat.le_refl _ | exact Since.size (by assumption)) (by first | exact Boxed.lt (by assumption) | simp) ho
        case rest =>
          obtain ⟨p5, s5, c5, rfl, hS, hp1, hp2, hx, hsl⟩ := hcut
          obtain ⟨w20, hw20⟩ : ∃ x, x = wc := ⟨_, rfl⟩
          rw [← hw20] at hS hp2 hx hsl ⊢
          clear hw20
          have Z_163 : Hid (w19.heap.size ≤ p5 ∧ p5 < w20.heap.size) := ⟨hp1, hp2⟩
          have Z_164 : Hid (w19.heap.size ≤ w20.heap.size) := hS.size
          have B_165 : Hid (Below w.heap.size w w20) := B_152.out.trans (hS.below.mono B_152.out.size)
          have A0_166 : Hid (Boxed w20 w.heap.size 24 b0 sa0 n0 ca0) := A0_153.out.kept hS.below rfl
          have A1_167 : Hid (Boxed w20 (w.heap.size + 1) 24 b1 sa1 n1 ca1) := A1_154.out.kept hS.below rfl
          have W0_168 : Hid (Boxed w20 p1 26 ro s1 rn c1) := W0_155.out.kept hS.below rfl
          have S1_169 : Hid (Slice w20 w4.heap.size w5.heap.size s1 rn rf) := S1_156.out.kept hS.below rfl
          have S2_170 : Hid (Slice w20 w5.heap.size w6.heap.size s2 n0 (fun i => (1 : Int) + (i : Int))) := S2_157.out.kept hS.below rfl
          have X0_171 : Hid (Boxed w20 w6.heap.size 26 b0 s2 n0 c2) := X0_158.out.kept hS.below rfl
          have S3_172 : Hid (Slice w20 v7.heap.size w8.heap.size s3 n1 (fun i => ((1 + (n0 : Int)) : Int) + (i : Int))) := S3_159.out.kept hS.below rfl
          have X1_173 : Hid (Boxed w20 w8.heap.size 26 b1 s3 n1 c3) := X1_160.out.kept hS.below rfl
          have S4_174 : Hid (Slice w20 v9.heap.size w10.heap.size s4 rn (fun i => (1 : Int) + (i : Int))) := S4_161.out.kept hS.below rfl
          have G0_175 : Hid (Boxed w20 w10.heap.size 26 ro s4 rn c4) := G0_162.out.kept hS.below rfl
          clear B_152 A0_153 A1_154 W0_155 S1_156 S2_157 X0_158 S3_159 X1_160 S4_161 G0_162
          have H0_n : Hid (Boxed w20 p5 26 ro s5 rn c5) := hx
          have S5_n : Hid (Slice w20 w19.heap.size w20.heap.size s5 rn rf) := hsl
          clear hS hp1 hp2 hx hsl
          clear R0 R1
          obtain ⟨cA00, cA01⟩ := A0_166.out.cells
          have lA0 := A0_166.out.lt
          obtain ⟨cA10, cA11⟩ := A1_167.out.cells
          have lA1 := A1_167.out.lt
          obtain ⟨cW00, cW01⟩ := W0_168.out.cells
          have lW0 := W0_168.out.lt
          obtain ⟨cX00, cX01⟩ := X0_171.out.cells
          have lX0 := X0_171.out.lt
          obtain ⟨cX10, cX11⟩ := X1_173.out.cells
          have lX1 := X1_173.out.lt
          obtain ⟨cG00, cG01⟩ := G0_175.out.cells
          have lG0 := G0_175.out.lt
          obtain ⟨cH00, cH01⟩ := H0_n.out.cells
          have lH0 := H0_n.out.lt
          go_wp2_with fail
          refine (eqVec_same ro s5 s1 rn c5 c1 rf _ hrn S5_n.out.row S1_169.out.row).mono ?_
          clear cA00 cA01 lA0 cA10 cA11 lA1 cW00 cW01 lW0 cX00 cX01 lX0 cX10 cX11 lX1 cG00 cG01 lG0 cH00 cH01 lH0
          rintro e w21 ⟨rfl, hb⟩
          have Z_176 : Hid (w20.heap.size ≤ w21.heap.size) := hb.size
          have B_177 : Hid (Below w.heap.size w w21) := B_165.out.trans (hb.mono B_165.out.size)
          have A0_178 : Hid (Boxed w21 w.heap.size 24 b0 sa0 n0 ca0) := A0_166.out.kept hb rfl
          have A1_179 : Hid (Boxed w21 (w.heap.size + 1) 24 b1 sa1 n1 ca1) := A1_167.out.kept hb rfl
          have W0_180 : Hid (Boxed w21 p1 26 ro s1 rn c1) := W0_168.out.kept hb rfl
          have S1_181 : Hid (Slice w21 w4.heap.size w5.heap.size s1 rn rf) := S1_169.out.kept hb rfl
          have S2_182 : Hid (Slice w21 w5.heap.size w6.heap.size s2 n0 (fun i => (1 : Int) + (i : Int))) := S2_170.out.kept hb rfl
          have X0_183 : Hid (Boxed w21 w6.heap.size 26 b0 s2 n0 c2) := X0_171.out.kept hb rfl
          have S3_184 : Hid (Slice w21 v7.heap.size w8.heap.size s3 n1 (fun i => ((1 + (n0 : Int)) : Int) + (i : Int))) := S3_172.out.kept hb rfl
          have X1_185 : Hid (Boxed w21 w8.heap.size 26 b1 s3 n1 c3) := X1_173.out.kept hb rfl
          have S4_186 : Hid (Slice w21 v9.heap.size w10.heap.size s4 rn (fun i => (1 : Int) + (i : Int))) := S4_174.out.kept hb rfl
          have G0_187 : Hid (Boxed w21 w10.heap.size 26 ro s4 rn c4) := G0_175.out.kept hb rfl
          have H0_188 : Hid (Boxed w21 p5 26 ro s5 rn c5) := H0_n.out.kept hb rfl
          have S5_189 : Hid (Slice w21 w19.heap.size w20.heap.size s5 rn rf) := S5_n.out.kept hb rfl
          clear B_165 A0_166 A1_167 W0_168 S1_169 S2_170 X0_171 S3_172 X1_173 S4_174 G0_175 H0_n S5_n
          clear hb
          obtain ⟨cA00, cA01⟩ := A0_178.out.cells
          have lA0 := A0_178.out.lt
          obtain ⟨cA10, cA11⟩ := A1_179.out.cells
          have lA1 := A1_179.out.lt
          obtain ⟨cW00, cW01⟩ := W0_180.out.cells
          have lW0 := W0_180.out.lt
          obtain ⟨cX00, cX01⟩ := X0_183.out.cells
          have lX0 := X0_183.out.lt
          obtain ⟨cX10, cX11⟩ := X1_185.out.cells
          have lX1 := X1_185.out.lt
          obtain ⟨cG00, cG01⟩ := G0_187.out.cells
          have lG0 := G0_187.out.lt
          obtain ⟨cH00, cH01⟩ := H0_188.out.cells
          have lH0 := H0_188.out.lt
          go_wp2_with fail
          refine (heldVec_any ro s4 rn c4 1 _ hrn (by omega) (by omega) S4_186.out.row).mono ?_
          clear cA00 cA01 lA0 cA10 cA11 lA1 cW00 cW01 lW0 cX00 cX01 lX0 cX10 cX11 lX1 cG00 cG01 lG0 cH00 cH01 lH0
          rintro e w22 ⟨rfl, hb⟩
          have Z_190 : Hid (w21.heap.size ≤ w22.heap.size) := hb.size
          have B_191 : Hid (Below w.heap.size w w22) := B_177.out.trans (hb.mono B_177.out.size)
          have A0_192 : Hid (Boxed w22 w.heap.size 24 b0 sa0 n0 ca0) := A0_178.out.kept hb rfl
          have A1_193 : Hid (Boxed w22 (w.heap.size + 1) 24 b1 sa1 n1 ca1) := A1_179.out.kept hb rfl
          have W0_194 : Hid (Boxed w22 p1 26 ro s1 rn c1) := W0_180.out.kept hb rfl
          have S1_195 : Hid (Slice w22 w4.heap.size w5.heap.size s1 rn rf) := S1_181.out.kept hb rfl
          have S2_196 : Hid (Slice w22 w5.heap.size w6.heap.size s2 n0 (fun i => (1 : Int) + (i : Int))) := S2_182.out.kept hb rfl
          have X0_197 : Hid (Boxed w22 w6.heap.size 26 b0 s2 n0 c2) := X0_183.out.kept hb rfl
          have S3_198 : Hid (Slice w22 v7.heap.size w8.heap.size s3 n1 (fun i => ((1 + (n0 : Int)) : Int) + (i : Int))) := S3_184.out.kept hb rfl
          have X1_199 : Hid (Boxed w22 w8.heap.size 26 b1 s3 n1 c3) := X1_185.out.kept hb rfl
          have S4_200 : Hid (Slice w22 v9.heap.size w10.heap.size s4 rn (fun i => (1 : Int) + (i : Int))) := S4_186.out.kept hb rfl
          have G0_201 : Hid (Boxed w22 w10.heap.size 26 ro s4 rn c4) := G0_187.out.kept hb rfl
          have H0_202 : Hid (Boxed w22 p5 26 ro s5 rn c5) := H0_188.out.kept hb rfl
          have S5_203 : Hid (Slice w22 w19.heap.size w20.heap.size s5 rn rf) := S5_189.out.kept hb rfl
          clear B_177 A0_178 A1_179 W0_180 S1_181 S2_182 X0_183 S3_184 X1_185 S4_186 G0_187 H0_188 S5_189
          clear hb
          obtain ⟨cA00, cA01⟩ := A0_192.out.cells
          have lA0 := A0_192.out.lt
          obtain ⟨cA10, cA11⟩ := A1_193.out.cells
          have lA1 := A1_193.out.lt
          obtain ⟨cW00, cW01⟩ := W0_194.out.cells
          have lW0 := W0_194.out.lt
          obtain ⟨cX00, cX01⟩ := X0_197.out.cells
          have lX0 := X0_197.out.lt
          obtain ⟨cX10, cX11⟩ := X1_199.out.cells
          have lX1 := X1_199.out.lt
          obtain ⟨cG00, cG01⟩ := G0_201.out.cells
          have lG0 := G0_201.out.lt
          obtain ⟨cH00, cH01⟩ := H0_202.out.cells
          have lH0 := H0_202.out.lt
          go_wp2
          go_ret
          exact ⟨rfl, B_191.out⟩
end Go.Proofs.Ytcmnmlginoojkag
