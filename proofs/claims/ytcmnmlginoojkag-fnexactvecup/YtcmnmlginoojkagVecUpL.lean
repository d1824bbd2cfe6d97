/- What is proved here: the law of VecUp walks to true, where the specification's function and the program's hand back the same; nothing that was there turns. -/
import Derived.Test.YtcmnmlginoojkagVecS
import Derived.Deep.RegionWith
import Derived.Deep.DeepCutAuto
namespace Go.Proofs.Ytcmnmlginoojkag
open Go.RowKit

set_option maxRecDepth 100000 in
set_option maxHeartbeats 8000000 in
theorem law_VecUp (b0 : Int) (sa0 : Option Addr) (n0 ca0 : Nat) (f0 : Nat → Int) (ro : Int) (rn : Nat) (rf : Nat → Int) (w : World) (hm0 : n0 ≤ maxLen) (hr0 : Row w w.heap.size sa0 n0 f0) (hrn : rn ≤ 1048576)
    (hs : n0 ≤ 1048576 → ∀ (W : World) (x0 : Option Addr) (k0 : Nat), Row W W.heap.size x0 n0 f0 → Calls Try.prog 17 #[.agg #[.int .i64 b0, .slice x0 n0 k0]] W fun e W' => NewVec W ro rn rf e W')
    (hi : n0 ≤ 1048576 → ∀ (W : World) (x0 : Option Addr) (k0 : Nat), Row W W.heap.size x0 n0 f0 → Calls Try.prog 18 #[.agg #[.int .i64 b0, .slice x0 n0 k0]] W fun e W' => NewVec W ro rn rf e W') :
    Calls Try.prog 5 #[.agg #[.int .i64 b0, .slice sa0 n0 ca0]] w fun e w' => e = .returned (.bool true) ∧ Below w.heap.size w w' := by
  have HR0 : Hid (Row w w.heap.size sa0 n0 f0) := hr0
  clear hr0
  by_cases hbig0 : (1048576 : Int) < n0
  · go_enter Try.func5, Try.ntmps5
    have hz0 : szOf n0 (1048576) = -1 := by unfold szOf; rw [if_pos (by omega)]
    have HB0 : Hid (Below w.heap.size w (w.alloc (.cells #[.int .i64 b0, .slice sa0 n0 ca0] 24))) := ((Below.refl _ _).alloc (by simp) _)
    go_wp2_with fail
    refine (szVec_any b0 sa0 n0 ca0 (1048576) _ hm0 (by omega) (by omega)).mono ?_
    rintro e w0_ ⟨rfl, hb⟩
    rw [hz0]
    have HB1 : Hid (Below w.heap.size w w0_) := HB0.out.trans (hb.mono HB0.out.size)
    go_wp2
    go_ret
    exact ⟨rfl, HB1.out⟩
  have hl0 : n0 ≤ 1048576 := by omega
  have HS : Hid (∀ (W : World) (x0 : Option Addr) (k0 : Nat), Row W W.heap.size x0 n0 f0 → Calls Try.prog 17 #[.agg #[.int .i64 b0, .slice x0 n0 k0]] W fun e W' => NewVec W ro rn rf e W') := hs hl0
  have HI : Hid (∀ (W : World) (x0 : Option Addr) (k0 : Nat), Row W W.heap.size x0 n0 f0 → Calls Try.prog 18 #[.agg #[.int .i64 b0, .slice x0 n0 k0]] W fun e W' => NewVec W ro rn rf e W') := hi hl0
  clear hs hi
  have hz0 : szOf n0 (1048576) = 1048576 - (n0 : Int) := by unfold szOf; rw [if_neg (by omega)]
  go_enter Try.func5, Try.ntmps5
  go_wp2_with fail
  have B_0 : Hid (Below w.heap.size w w) := Below.refl _ _
  have hq := boxing w 24 b0 sa0 n0 ca0
  generalize w.alloc (.cells #[.int .i64 b0, .slice sa0 n0 ca0] 24) = v1 at *
  obtain ⟨hb, hx, hz⟩ := hq
  have Z_1 : Hid (v1.heap.size = w.heap.size + 1) := hz
  have B_2 : Hid (Below w.heap.size w v1) := B_0.out.trans (hb.mono B_0.out.size)
  clear B_0
  have A0_n : Hid (Boxed v1 w.heap.size 24 b0 sa0 n0 ca0) := hx
  clear hb hx hz
  refine (szVec_any b0 sa0 n0 ca0 (1048576) _ hm0 (by omega) (by omega)).mono ?_
  rintro e w2 ⟨rfl, hb⟩
  have Z_3 : Hid (v1.heap.size ≤ w2.heap.size) := hb.size
  have B_4 : Hid (Below w.heap.size w w2) := B_2.out.trans (hb.mono B_2.out.size)
  have A0_5 : Hid (Boxed w2 w.heap.size 24 b0 sa0 n0 ca0) := A0_n.out.kept hb rfl
  clear B_2 A0_n
  clear hb
  rw [hz0]
  obtain ⟨cA00, cA01⟩ := A0_5.out.cells
  have lA0 := A0_5.out.lt
  go_wp2_with fail
  refine (toVec_any b0 sa0 n0 ca0 f0 _ hl0 ((HR0.out.kept B_4.out).up B_4.out.size)).mono ?_
  clear cA00 cA01 lA0
  rintro e w3 ⟨s1, c1, rfl, hb, ho⟩
  unfold vecV
  have S1_n : Hid (Slice w3 w2.heap.size w3.heap.size s1 n0 f0) := ho.slice
  clear ho
  have Z_6 : Hid (w2.heap.size ≤ w3.heap.size) := hb.size
  have B_7 : Hid (Below w.heap.size w w3) := B_4.out.trans (hb.mono B_4.out.size)
  have A0_8 : Hid (Boxed w3 w.heap.size 24 b0 sa0 n0 ca0) := A0_5.out.kept hb rfl
  clear B_4 A0_5
  clear hb
  obtain ⟨cA00, cA01⟩ := A0_8.out.cells
  have lA0 := A0_8.out.lt
  go_wp2_with fail
  refine (HS.out _ s1 c1 S1_n.out.row).mono ?_
  clear cA00 cA01 lA0
  rintro e w4 ⟨s2, c2, rfl, hb, ho⟩
  unfold vecV
  have S2_n : Hid (Slice w4 w3.heap.size w4.heap.size s2 rn rf) := ho.slice
  clear ho
  have Z_9 : Hid (w3.heap.size ≤ w4.heap.size) := hb.size
  have B_10 : Hid (Below w.heap.size w w4) := B_7.out.trans (hb.mono B_7.out.size)
  have A0_11 : Hid (Boxed w4 w.heap.size 24 b0 sa0 n0 ca0) := A0_8.out.kept hb rfl
  have S1_12 : Hid (Slice w4 w2.heap.size w3.heap.size s1 n0 f0) := S1_n.out.kept hb rfl
  clear B_7 A0_8 S1_n
  clear hb
  obtain ⟨cA00, cA01⟩ := A0_11.out.cells
  have lA0 := A0_11.out.lt
  go_wp2_with fail
  clear cA00 cA01 lA0
  have hq := boxing w4 26 ro s2 rn c2
  generalize w4.alloc (.cells #[.int .i64 ro, .slice s2 rn c2] 26) = v5 at *
  obtain ⟨hb, hx, hz⟩ := hq
  have Z_13 : Hid (v5.heap.size = w4.heap.size + 1) := hz
  have B_14 : Hid (Below w.heap.size w v5) := B_10.out.trans (hb.mono B_10.out.size)
  have A0_15 : Hid (Boxed v5 w.heap.size 24 b0 sa0 n0 ca0) := A0_11.out.kept hb rfl
  have S1_16 : Hid (Slice v5 w2.heap.size w3.heap.size s1 n0 f0) := S1_12.out.kept hb rfl
  have S2_17 : Hid (Slice v5 w3.heap.size w4.heap.size s2 rn rf) := S2_n.out.kept hb rfl
  clear B_10 A0_11 S1_12 S2_n
  have W0_n : Hid (Boxed v5 w4.heap.size 26 ro s2 rn c2) := hx
  clear hb hx hz
  refine (toVec_any b0 sa0 n0 ca0 f0 _ hl0 ((HR0.out.kept B_14.out).up B_14.out.size)).mono ?_
  rintro e w6 ⟨s3, c3, rfl, hb, ho⟩
  unfold vecV
  have S3_n : Hid (Slice w6 v5.heap.size w6.heap.size s3 n0 f0) := ho.slice
  clear ho
  have Z_18 : Hid (v5.heap.size ≤ w6.heap.size) := hb.size
  have B_19 : Hid (Below w.heap.size w w6) := B_14.out.trans (hb.mono B_14.out.size)
  have A0_20 : Hid (Boxed w6 w.heap.size 24 b0 sa0 n0 ca0) := A0_15.out.kept hb rfl
  have S1_21 : Hid (Slice w6 w2.heap.size w3.heap.size s1 n0 f0) := S1_16.out.kept hb rfl
  have S2_22 : Hid (Slice w6 w3.heap.size w4.heap.size s2 rn rf) := S2_17.out.kept hb rfl
  have W0_23 : Hid (Boxed w6 w4.heap.size 26 ro s2 rn c2) := W0_n.out.kept hb rfl
  clear B_14 A0_15 S1_16 S2_17 W0_n
  clear hb
  obtain ⟨cA00, cA01⟩ := A0_20.out.cells
  have lA0 := A0_20.out.lt
  obtain ⟨cW00, cW01⟩ := W0_23.out.cells
  have lW0 := W0_23.out.lt
  go_wp2_with fail
  clear cA00 cA01 lA0 cW00 cW01 lW0
  have hq := boxing w6 26 b0 s3 n0 c3
  generalize w6.alloc (.cells #[.int .i64 b0, .slice s3 n0 c3] 26) = v7 at *
  obtain ⟨hb, hx, hz⟩ := hq
  have Z_24 : Hid (v7.heap.size = w6.heap.size + 1) := hz
  have B_25 : Hid (Below w.heap.size w v7) := B_19.out.trans (hb.mono B_19.out.size)
  have A0_26 : Hid (Boxed v7 w.heap.size 24 b0 sa0 n0 ca0) := A0_20.out.kept hb rfl
  have S1_27 : Hid (Slice v7 w2.heap.size w3.heap.size s1 n0 f0) := S1_21.out.kept hb rfl
  have S2_28 : Hid (Slice v7 w3.heap.size w4.heap.size s2 rn rf) := S2_22.out.kept hb rfl
  have W0_29 : Hid (Boxed v7 w4.heap.size 26 ro s2 rn c2) := W0_23.out.kept hb rfl
  have S3_30 : Hid (Slice v7 v5.heap.size w6.heap.size s3 n0 f0) := S3_n.out.kept hb rfl
  clear B_19 A0_20 S1_21 S2_22 W0_23 S3_n
  have X0_n : Hid (Boxed v7 w6.heap.size 26 b0 s3 n0 c3) := hx
  clear hb hx hz
  refine (HI.out _ s3 c3 S3_30.out.row).mono ?_
  rintro e w8 ⟨s4, c4, rfl, hb, ho⟩
  unfold vecV
  have S4_n : Hid (Slice w8 v7.heap.size w8.heap.size s4 rn rf) := ho.slice
  clear ho
  have Z_31 : Hid (v7.heap.size ≤ w8.heap.size) := hb.size
  have B_32 : Hid (Below w.heap.size w w8) := B_25.out.trans (hb.mono B_25.out.size)
  have A0_33 : Hid (Boxed w8 w.heap.size 24 b0 sa0 n0 ca0) := A0_26.out.kept hb rfl
  have S1_34 : Hid (Slice w8 w2.heap.size w3.heap.size s1 n0 f0) := S1_27.out.kept hb rfl
  have S2_35 : Hid (Slice w8 w3.heap.size w4.heap.size s2 rn rf) := S2_28.out.kept hb rfl
  have W0_36 : Hid (Boxed w8 w4.heap.size 26 ro s2 rn c2) := W0_29.out.kept hb rfl
  have S3_37 : Hid (Slice w8 v5.heap.size w6.heap.size s3 n0 f0) := S3_30.out.kept hb rfl
  have X0_38 : Hid (Boxed w8 w6.heap.size 26 b0 s3 n0 c3) := X0_n.out.kept hb rfl
  clear B_25 A0_26 S1_27 S2_28 W0_29 S3_30 X0_n
  clear hb
  obtain ⟨cA00, cA01⟩ := A0_33.out.cells
  have lA0 := A0_33.out.lt
  obtain ⟨cW00, cW01⟩ := W0_36.out.cells
  have lW0 := W0_36.out.lt
  obtain ⟨cX00, cX01⟩ := X0_38.out.cells
  have lX0 := X0_38.out.lt
  go_wp2_with fail
  clear cA00 cA01 lA0 cW00 cW01 lW0 cX00 cX01 lX0
  have hq := boxing w8 26 ro s4 rn c4
  generalize w8.alloc (.cells #[.int .i64 ro, .slice s4 rn c4] 26) = v9 at *
  obtain ⟨hb, hx, hz⟩ := hq
  have Z_39 : Hid (v9.heap.size = w8.heap.size + 1) := hz
  have B_40 : Hid (Below w.heap.size w v9) := B_32.out.trans (hb.mono B_32.out.size)
  have A0_41 : Hid (Boxed v9 w.heap.size 24 b0 sa0 n0 ca0) := A0_33.out.kept hb rfl
  have S1_42 : Hid (Slice v9 w2.heap.size w3.heap.size s1 n0 f0) := S1_34.out.kept hb rfl
  have S2_43 : Hid (Slice v9 w3.heap.size w4.heap.size s2 rn rf) := S2_35.out.kept hb rfl
  have W0_44 : Hid (Boxed v9 w4.heap.size 26 ro s2 rn c2) := W0_36.out.kept hb rfl
  have S3_45 : Hid (Slice v9 v5.heap.size w6.heap.size s3 n0 f0) := S3_37.out.kept hb rfl
  have X0_46 : Hid (Boxed v9 w6.heap.size 26 b0 s3 n0 c3) := X0_38.out.kept hb rfl
  have S4_47 : Hid (Slice v9 v7.heap.size w8.heap.size s4 rn rf) := S4_n.out.kept hb rfl
  clear B_32 A0_33 S1_34 S2_35 W0_36 S3_37 X0_38 S4_n
  have G0_n : Hid (Boxed v9 w8.heap.size 26 ro s4 rn c4) := hx
  clear hb hx hz
  refine (eqVec_same ro s4 s2 rn c4 c2 rf _ hrn S4_47.out.row S2_43.out.row).mono ?_
  rintro e w10 ⟨rfl, hb⟩
  have Z_48 : Hid (v9.heap.size ≤ w10.heap.size) := hb.size
  have B_49 : Hid (Below w.heap.size w w10) := B_40.out.trans (hb.mono B_40.out.size)
  have A0_50 : Hid (Boxed w10 w.heap.size 24 b0 sa0 n0 ca0) := A0_41.out.kept hb rfl
  have S1_51 : Hid (Slice w10 w2.heap.size w3.heap.size s1 n0 f0) := S1_42.out.kept hb rfl
  have S2_52 : Hid (Slice w10 w3.heap.size w4.heap.size s2 rn rf) := S2_43.out.kept hb rfl
  have W0_53 : Hid (Boxed w10 w4.heap.size 26 ro s2 rn c2) := W0_44.out.kept hb rfl
  have S3_54 : Hid (Slice w10 v5.heap.size w6.heap.size s3 n0 f0) := S3_45.out.kept hb rfl
  have X0_55 : Hid (Boxed w10 w6.heap.size 26 b0 s3 n0 c3) := X0_46.out.kept hb rfl
  have S4_56 : Hid (Slice w10 v7.heap.size w8.heap.size s4 rn rf) := S4_47.out.kept hb rfl
  have G0_57 : Hid (Boxed w10 w8.heap.size 26 ro s4 rn c4) := G0_n.out.kept hb rfl
  clear B_40 A0_41 S1_42 S2_43 W0_44 S3_45 X0_46 S4_47 G0_n
  clear hb
  have R0 : Hid (Row w10 w10.heap.size sa0 n0 f0) := row_since HR0.out ⟨B_49.out⟩
  have RX : Hid (Row w10 w10.heap.size s3 n0 f0) := S3_54.out.row
  go_upto_region 10 with fail
  go_cut [31] (fun v wc => v = .bool false ∧ Since w10 wc)
  case first =>
    obtain ⟨cA00, cA01⟩ := A0_50.out.cells
    have lA0 := A0_50.out.lt
    obtain ⟨cW00, cW01⟩ := W0_53.out.cells
    have lW0 := W0_53.out.lt
    obtain ⟨cX00, cX01⟩ := X0_55.out.cells
    have lX0 := X0_55.out.lt
    obtain ⟨cG00, cG01⟩ := G0_57.out.cells
    have lG0 := G0_57.out.lt
    go_region_with (first
      | (go_at_call 10; refine (toVec_any b0 sa0 n0 ca0 f0 _ hl0 (row_since R0.out (by first | assumption | exact since_drew (since_refl _) | exact since_alloc (since_drew (since_refl _)) | exact since_alloc (by assumption)))).mono ?_; rintro e w' ⟨s, c, rfl, hb, ho⟩; have hS : Since w10 w' := (by refine since_call ?_ hb; first | assumption | exact since_drew (since_refl _) | exact since_alloc (since_drew (since_refl _)) | exact since_alloc (by assumption)); obtain ⟨cA00, cA01⟩ := (A0_50.out.since hS).cells; have lA0 := (A0_50.out.since hS).lt; obtain ⟨cW00, cW01⟩ := (W0_53.out.since hS).cells; have lW0 := (W0_53.out.since hS).lt; obtain ⟨cX00, cX01⟩ := (X0_55.out.since hS).cells; have lX0 := (X0_55.out.since hS).lt; obtain ⟨cG00, cG01⟩ := (G0_57.out.since hS).cells; have lG0 := (G0_57.out.since hS).lt; unfold vecV)
      | (go_at_call 12; refine (eqVec_same b0 s3 _ n0 c3 _ f0 _ hl0 (row_since RX.out (by assumption)) (ownS_since (by assumption) (since_refl _))).mono ?_; rintro e w'' ⟨rfl, hb⟩; have hS : Since w10 w'' := (by refine since_call ?_ hb; first | assumption | exact since_drew (since_refl _) | exact since_alloc (since_drew (since_refl _)) | exact since_alloc (by assumption))))
    all_goals
      go_wp2_with fail
      go_meet
      case rel => exact ⟨rfl, hS⟩
  case rest =>
    obtain ⟨rfl, hS⟩ := hcut
    obtain ⟨w11, hw11⟩ : ∃ x, x = wc := ⟨_, rfl⟩
    rw [← hw11] at hS ⊢
    clear hw11 R0 RX
    have Z_58 : Hid (w10.heap.size ≤ w11.heap.size) := hS.size
    have B_59 : Hid (Below w.heap.size w w11) := B_49.out.trans (hS.below.mono B_49.out.size)
    have A0_60 : Hid (Boxed w11 w.heap.size 24 b0 sa0 n0 ca0) := A0_50.out.kept hS.below rfl
    have S1_61 : Hid (Slice w11 w2.heap.size w3.heap.size s1 n0 f0) := S1_51.out.kept hS.below rfl
    have S2_62 : Hid (Slice w11 w3.heap.size w4.heap.size s2 rn rf) := S2_52.out.kept hS.below rfl
    have W0_63 : Hid (Boxed w11 w4.heap.size 26 ro s2 rn c2) := W0_53.out.kept hS.below rfl
    have S3_64 : Hid (Slice w11 v5.heap.size w6.heap.size s3 n0 f0) := S3_54.out.kept hS.below rfl
    have X0_65 : Hid (Boxed w11 w6.heap.size 26 b0 s3 n0 c3) := X0_55.out.kept hS.below rfl
    have S4_66 : Hid (Slice w11 v7.heap.size w8.heap.size s4 rn rf) := S4_56.out.kept hS.below rfl
    have G0_67 : Hid (Boxed w11 w8.heap.size 26 ro s4 rn c4) := G0_57.out.kept hS.below rfl
    clear B_49 A0_50 S1_51 S2_52 W0_53 S3_54 X0_55 S4_56 G0_57
    clear hS
    obtain ⟨cA00, cA01⟩ := A0_60.out.cells
    have lA0 := A0_60.out.lt
    obtain ⟨cW00, cW01⟩ := W0_63.out.cells
    have lW0 := W0_63.out.lt
    obtain ⟨cX00, cX01⟩ := X0_65.out.cells
    have lX0 := X0_65.out.lt
    obtain ⟨cG00, cG01⟩ := G0_67.out.cells
    have lG0 := G0_67.out.lt
    go_wp2_with fail
    refine (markVec_in b0 s3 n0 c3 v5.heap.size w6.heap.size _ 1 _ hl0 (by omega) (by omega) S3_64.out).mono ?_
    clear cA00 cA01 lA0 cW00 cW01 lW0 cX00 cX01 lX0 cG00 cG01 lG0
    rintro e w12 ⟨rfl, hon, hsl⟩
    have S3_m : Hid (Slice w12 v5.heap.size w6.heap.size s3 n0 (fun i => (1 : Int) + (i : Int))) := hsl
    have Z_68 : Hid (w11.heap.size ≤ w12.heap.size) := hon.size
    have B_69 : Hid (Below w.heap.size w w12) := B_59.out.trans (hon.below (by have := Z_1.out; have := Z_3.out; have := Z_6.out; have := Z_9.out; have := Z_13.out; have := Z_18.out; have := Z_24.out; have := Z_31.out; have := Z_39.out; have := Z_48.out; have := Z_58.out; have := Z_68.out; omega) B_59.out.size)
    have A0_70 : Hid (Boxed w12 w.heap.size 24 b0 sa0 n0 ca0) := A0_60.out.only hon (by have := Z_1.out; have := Z_3.out; have := Z_6.out; have := Z_9.out; have := Z_13.out; have := Z_18.out; have := Z_24.out; have := Z_31.out; have := Z_39.out; have := Z_48.out; have := Z_58.out; have := Z_68.out; omega)
    have S1_71 : Hid (Slice w12 w2.heap.size w3.heap.size s1 n0 f0) := S1_61.out.only hon (by have := Z_1.out; have := Z_3.out; have := Z_6.out; have := Z_9.out; have := Z_13.out; have := Z_18.out; have := Z_24.out; have := Z_31.out; have := Z_39.out; have := Z_48.out; have := Z_58.out; have := Z_68.out; omega)
    have S2_72 : Hid (Slice w12 w3.heap.size w4.heap.size s2 rn rf) := S2_62.out.only hon (by have := Z_1.out; have := Z_3.out; have := Z_6.out; have := Z_9.out; have := Z_13.out; have := Z_18.out; have := Z_24.out; have := Z_31.out; have := Z_39.out; have := Z_48.out; have := Z_58.out; have := Z_68.out; omega)
    have W0_73 : Hid (Boxed w12 w4.heap.size 26 ro s2 rn c2) := W0_63.out.only hon (by have := Z_1.out; have := Z_3.out; have := Z_6.out; have := Z_9.out; have := Z_13.out; have := Z_18.out; have := Z_24.out; have := Z_31.out; have := Z_39.out; have := Z_48.out; have := Z_58.out; have := Z_68.out; omega)
    have X0_74 : Hid (Boxed w12 w6.heap.size 26 b0 s3 n0 c3) := X0_65.out.only hon (by have := Z_1.out; have := Z_3.out; have := Z_6.out; have := Z_9.out; have := Z_13.out; have := Z_18.out; have := Z_24.out; have := Z_31.out; have := Z_39.out; have := Z_48.out; have := Z_58.out; have := Z_68.out; omega)
    have S4_75 : Hid (Slice w12 v7.heap.size w8.heap.size s4 rn rf) := S4_66.out.only hon (by have := Z_1.out; have := Z_3.out; have := Z_6.out; have := Z_9.out; have := Z_13.out; have := Z_18.out; have := Z_24.out; have := Z_31.out; have := Z_39.out; have := Z_48.out; have := Z_58.out; have := Z_68.out; omega)
    have G0_76 : Hid (Boxed w12 w8.heap.size 26 ro s4 rn c4) := G0_67.out.only hon (by have := Z_1.out; have := Z_3.out; have := Z_6.out; have := Z_9.out; have := Z_13.out; have := Z_18.out; have := Z_24.out; have := Z_31.out; have := Z_39.out; have := Z_48.out; have := Z_58.out; have := Z_68.out; omega)
    clear B_59 A0_60 S1_61 S2_62 W0_63 X0_65 S4_66 G0_67
    clear S3_64 hon hsl
    have hk : ¬ (1 + (n0 : Int) : Int) < 0 := by omega
    obtain ⟨cA00, cA01⟩ := A0_70.out.cells
    have lA0 := A0_70.out.lt
    obtain ⟨cW00, cW01⟩ := W0_73.out.cells
    have lW0 := W0_73.out.lt
    obtain ⟨cX00, cX01⟩ := X0_74.out.cells
    have lX0 := X0_74.out.lt
    obtain ⟨cG00, cG01⟩ := G0_76.out.cells
    have lG0 := G0_76.out.lt
    go_wp2_with fail
    refine (eqVec_same ro s4 s2 rn c4 c2 rf _ hrn S4_75.out.row S2_72.out.row).mono ?_
    clear cA00 cA01 lA0 cW00 cW01 lW0 cX00 cX01 lX0 cG00 cG01 lG0
    rintro e w13 ⟨rfl, hb⟩
    have Z_77 : Hid (w12.heap.size ≤ w13.heap.size) := hb.size
    have B_78 : Hid (Below w.heap.size w w13) := B_69.out.trans (hb.mono B_69.out.size)
    have A0_79 : Hid (Boxed w13 w.heap.size 24 b0 sa0 n0 ca0) := A0_70.out.kept hb rfl
    have S1_80 : Hid (Slice w13 w2.heap.size w3.heap.size s1 n0 f0) := S1_71.out.kept hb rfl
    have S2_81 : Hid (Slice w13 w3.heap.size w4.heap.size s2 rn rf) := S2_72.out.kept hb rfl
    have W0_82 : Hid (Boxed w13 w4.heap.size 26 ro s2 rn c2) := W0_73.out.kept hb rfl
    have S3_83 : Hid (Slice w13 v5.heap.size w6.heap.size s3 n0 (fun i => (1 : Int) + (i : Int))) := S3_m.out.kept hb rfl
    have X0_84 : Hid (Boxed w13 w6.heap.size 26 b0 s3 n0 c3) := X0_74.out.kept hb rfl
    have S4_85 : Hid (Slice w13 v7.heap.size w8.heap.size s4 rn rf) := S4_75.out.kept hb rfl
    have G0_86 : Hid (Boxed w13 w8.heap.size 26 ro s4 rn c4) := G0_76.out.kept hb rfl
    clear B_69 A0_70 S1_71 S2_72 W0_73 S3_m X0_74 S4_75 G0_76
    clear hb
    obtain ⟨cA00, cA01⟩ := A0_79.out.cells
    have lA0 := A0_79.out.lt
    obtain ⟨cW00, cW01⟩ := W0_82.out.cells
    have lW0 := W0_82.out.lt
    obtain ⟨cX00, cX01⟩ := X0_84.out.cells
    have lX0 := X0_84.out.lt
    obtain ⟨cG00, cG01⟩ := G0_86.out.cells
    have lG0 := G0_86.out.lt
    go_wp2_with fail
    refine (markVec_in ro s4 rn c4 v7.heap.size w8.heap.size _ 1 _ hrn (by omega) (by omega) S4_85.out).mono ?_
    clear cA00 cA01 lA0 cW00 cW01 lW0 cX00 cX01 lX0 cG00 cG01 lG0
    rintro e w14 ⟨rfl, hon, hsl⟩
    have S4_m : Hid (Slice w14 v7.heap.size w8.heap.size s4 rn (fun i => (1 : Int) + (i : Int))) := hsl
    have Z_87 : Hid (w13.heap.size ≤ w14.heap.size) := hon.size
    have B_88 : Hid (Below w.heap.size w w14) := B_78.out.trans (hon.below (by have := Z_1.out; have := Z_3.out; have := Z_6.out; have := Z_9.out; have := Z_13.out; have := Z_18.out; have := Z_24.out; have := Z_31.out; have := Z_39.out; have := Z_48.out; have := Z_58.out; have := Z_68.out; have := Z_77.out; have := Z_87.out; omega) B_78.out.size)
    have A0_89 : Hid (Boxed w14 w.heap.size 24 b0 sa0 n0 ca0) := A0_79.out.only hon (by have := Z_1.out; have := Z_3.out; have := Z_6.out; have := Z_9.out; have := Z_13.out; have := Z_18.out; have := Z_24.out; have := Z_31.out; have := Z_39.out; have := Z_48.out; have := Z_58.out; have := Z_68.out; have := Z_77.out; have := Z_87.out; omega)
    have S1_90 : Hid (Slice w14 w2.heap.size w3.heap.size s1 n0 f0) := S1_80.out.only hon (by have := Z_1.out; have := Z_3.out; have := Z_6.out; have := Z_9.out; have := Z_13.out; have := Z_18.out; have := Z_24.out; have := Z_31.out; have := Z_39.out; have := Z_48.out; have := Z_58.out; have := Z_68.out; have := Z_77.out; have := Z_87.out; omega)
    have S2_91 : Hid (Slice w14 w3.heap.size w4.heap.size s2 rn rf) := S2_81.out.only hon (by have := Z_1.out; have := Z_3.out; have := Z_6.out; have := Z_9.out; have := Z_13.out; have := Z_18.out; have := Z_24.out; have := Z_31.out; have := Z_39.out; have := Z_48.out; have := Z_58.out; have := Z_68.out; have := Z_77.out; have := Z_87.out; omega)
    have W0_92 : Hid (Boxed w14 w4.heap.size 26 ro s2 rn c2) := W0_82.out.only hon (by have := Z_1.out; have := Z_3.out; have := Z_6.out; have := Z_9.out; have := Z_13.out; have := Z_18.out; have := Z_24.out; have := Z_31.out; have := Z_39.out; have := Z_48.out; have := Z_58.out; have := Z_68.out; have := Z_77.out; have := Z_87.out; omega)
    have S3_93 : Hid (Slice w14 v5.heap.size w6.heap.size s3 n0 (fun i => (1 : Int) + (i : Int))) := S3_83.out.only hon (by have := Z_1.out; have := Z_3.out; have := Z_6.out; have := Z_9.out; have := Z_13.out; have := Z_18.out; have := Z_24.out; have := Z_31.out; have := Z_39.out; have := Z_48.out; have := Z_58.out; have := Z_68.out; have := Z_77.out; have := Z_87.out; omega)
    have X0_94 : Hid (Boxed w14 w6.heap.size 26 b0 s3 n0 c3) := X0_84.out.only hon (by have := Z_1.out; have := Z_3.out; have := Z_6.out; have := Z_9.out; have := Z_13.out; have := Z_18.out; have := Z_24.out; have := Z_31.out; have := Z_39.out; have := Z_48.out; have := Z_58.out; have := Z_68.out; have := Z_77.out; have := Z_87.out; omega)
    have G0_95 : Hid (Boxed w14 w8.heap.size 26 ro s4 rn c4) := G0_86.out.only hon (by have := Z_1.out; have := Z_3.out; have := Z_6.out; have := Z_9.out; have := Z_13.out; have := Z_18.out; have := Z_24.out; have := Z_31.out; have := Z_39.out; have := Z_48.out; have := Z_58.out; have := Z_68.out; have := Z_77.out; have := Z_87.out; omega)
    clear B_78 A0_79 S1_80 S2_81 W0_82 S3_83 X0_84 G0_86
    clear S4_85 hon hsl
    obtain ⟨cA00, cA01⟩ := A0_89.out.cells
    have lA0 := A0_89.out.lt
    obtain ⟨cW00, cW01⟩ := W0_92.out.cells
    have lW0 := W0_92.out.lt
    obtain ⟨cX00, cX01⟩ := X0_94.out.cells
    have lX0 := X0_94.out.lt
    obtain ⟨cG00, cG01⟩ := G0_95.out.cells
    have lG0 := G0_95.out.lt
    go_wp2_with fail
    refine (heldVec_any ro s4 rn c4 1 _ hrn (by omega) (by omega) S4_m.out.row).mono ?_
    clear cA00 cA01 lA0 cW00 cW01 lW0 cX00 cX01 lX0 cG00 cG01 lG0
    rintro e w15 ⟨rfl, hb⟩
    have Z_96 : Hid (w14.heap.size ≤ w15.heap.size) := hb.size
    have B_97 : Hid (Below w.heap.size w w15) := B_88.out.trans (hb.mono B_88.out.size)
    have A0_98 : Hid (Boxed w15 w.heap.size 24 b0 sa0 n0 ca0) := A0_89.out.kept hb rfl
    have S1_99 : Hid (Slice w15 w2.heap.size w3.heap.size s1 n0 f0) := S1_90.out.kept hb rfl
    have S2_100 : Hid (Slice w15 w3.heap.size w4.heap.size s2 rn rf) := S2_91.out.kept hb rfl
    have W0_101 : Hid (Boxed w15 w4.heap.size 26 ro s2 rn c2) := W0_92.out.kept hb rfl
    have S3_102 : Hid (Slice w15 v5.heap.size w6.heap.size s3 n0 (fun i => (1 : Int) + (i : Int))) := S3_93.out.kept hb rfl
    have X0_103 : Hid (Boxed w15 w6.heap.size 26 b0 s3 n0 c3) := X0_94.out.kept hb rfl
    have S4_104 : Hid (Slice w15 v7.heap.size w8.heap.size s4 rn (fun i => (1 : Int) + (i : Int))) := S4_m.out.kept hb rfl
    have G0_105 : Hid (Boxed w15 w8.heap.size 26 ro s4 rn c4) := G0_95.out.kept hb rfl
    clear B_88 A0_89 S1_90 S2_91 W0_92 S3_93 X0_94 S4_m G0_95
    clear hb
    have hk2 : ¬ ((1 : Int) + (rn : Int)) < 0 := by omega
    obtain ⟨cA00, cA01⟩ := A0_98.out.cells
    have lA0 := A0_98.out.lt
    obtain ⟨cW00, cW01⟩ := W0_101.out.cells
    have lW0 := W0_101.out.lt
    obtain ⟨cX00, cX01⟩ := X0_103.out.cells
    have lX0 := X0_103.out.lt
    obtain ⟨cG00, cG01⟩ := G0_105.out.cells
    have lG0 := G0_105.out.lt
    go_wp2_with fail
    refine (toVec_any b0 sa0 n0 ca0 f0 _ hl0 ((HR0.out.kept B_97.out).up B_97.out.size)).mono ?_
    clear cA00 cA01 lA0 cW00 cW01 lW0 cX00 cX01 lX0 cG00 cG01 lG0
    rintro e w16 ⟨s5, c5, rfl, hb, ho⟩
    unfold vecV
    have S5_n : Hid (Slice w16 w15.heap.size w16.heap.size s5 n0 f0) := ho.slice
    clear ho
    have Z_106 : Hid (w15.heap.size ≤ w16.heap.size) := hb.size
    have B_107 : Hid (Below w.heap.size w w16) := B_97.out.trans (hb.mono B_97.out.size)
    have A0_108 : Hid (Boxed w16 w.heap.size 24 b0 sa0 n0 ca0) := A0_98.out.kept hb rfl
    have S1_109 : Hid (Slice w16 w2.heap.size w3.heap.size s1 n0 f0) := S1_99.out.kept hb rfl
    have S2_110 : Hid (Slice w16 w3.heap.size w4.heap.size s2 rn rf) := S2_100.out.kept hb rfl
    have W0_111 : Hid (Boxed w16 w4.heap.size 26 ro s2 rn c2) := W0_101.out.kept hb rfl
    have S3_112 : Hid (Slice w16 v5.heap.size w6.heap.size s3 n0 (fun i => (1 : Int) + (i : Int))) := S3_102.out.kept hb rfl
    have X0_113 : Hid (Boxed w16 w6.heap.size 26 b0 s3 n0 c3) := X0_103.out.kept hb rfl
    have S4_114 : Hid (Slice w16 v7.heap.size w8.heap.size s4 rn (fun i => (1 : Int) + (i : Int))) := S4_104.out.kept hb rfl
    have G0_115 : Hid (Boxed w16 w8.heap.size 26 ro s4 rn c4) := G0_105.out.kept hb rfl
    clear B_97 A0_98 S1_99 S2_100 W0_101 S3_102 X0_103 S4_104 G0_105
    clear hb
    obtain ⟨cA00, cA01⟩ := A0_108.out.cells
    have lA0 := A0_108.out.lt
    obtain ⟨cW00, cW01⟩ := W0_111.out.cells
    have lW0 := W0_111.out.lt
    obtain ⟨cX00, cX01⟩ := X0_113.out.cells
    have lX0 := X0_113.out.lt
    obtain ⟨cG00, cG01⟩ := G0_115.out.cells
    have lG0 := G0_115.out.lt
    go_wp2_with fail
    refine (HI.out _ s5 c5 S5_n.out.row).mono ?_
    clear cA00 cA01 lA0 cW00 cW01 lW0 cX00 cX01 lX0 cG00 cG01 lG0
    rintro e w17 ⟨s6, c6, rfl, hb, ho⟩
    unfold vecV
    have S6_n : Hid (Slice w17 w16.heap.size w17.heap.size s6 rn rf) := ho.slice
    clear ho
    have Z_116 : Hid (w16.heap.size ≤ w17.heap.size) := hb.size
    have B_117 : Hid (Below w.heap.size w w17) := B_107.out.trans (hb.mono B_107.out.size)
    have A0_118 : Hid (Boxed w17 w.heap.size 24 b0 sa0 n0 ca0) := A0_108.out.kept hb rfl
    have S1_119 : Hid (Slice w17 w2.heap.size w3.heap.size s1 n0 f0) := S1_109.out.kept hb rfl
    have S2_120 : Hid (Slice w17 w3.heap.size w4.heap.size s2 rn rf) := S2_110.out.kept hb rfl
    have W0_121 : Hid (Boxed w17 w4.heap.size 26 ro s2 rn c2) := W0_111.out.kept hb rfl
    have S3_122 : Hid (Slice w17 v5.heap.size w6.heap.size s3 n0 (fun i => (1 : Int) + (i : Int))) := S3_112.out.kept hb rfl
    have X0_123 : Hid (Boxed w17 w6.heap.size 26 b0 s3 n0 c3) := X0_113.out.kept hb rfl
    have S4_124 : Hid (Slice w17 v7.heap.size w8.heap.size s4 rn (fun i => (1 : Int) + (i : Int))) := S4_114.out.kept hb rfl
    have G0_125 : Hid (Boxed w17 w8.heap.size 26 ro s4 rn c4) := G0_115.out.kept hb rfl
    have S5_126 : Hid (Slice w17 w15.heap.size w16.heap.size s5 n0 f0) := S5_n.out.kept hb rfl
    clear B_107 A0_108 S1_109 S2_110 W0_111 S3_112 X0_113 S4_114 G0_115 S5_n
    clear hb
    obtain ⟨cA00, cA01⟩ := A0_118.out.cells
    have lA0 := A0_118.out.lt
    obtain ⟨cW00, cW01⟩ := W0_121.out.cells
    have lW0 := W0_121.out.lt
    obtain ⟨cX00, cX01⟩ := X0_123.out.cells
    have lX0 := X0_123.out.lt
    obtain ⟨cG00, cG01⟩ := G0_125.out.cells
    have lG0 := G0_125.out.lt
    go_wp2_with fail
    clear cA00 cA01 lA0 cW00 cW01 lW0 cX00 cX01 lX0 cG00 cG01 lG0
    have hq := boxing w17 26 ro s6 rn c6
    generalize w17.alloc (.cells #[.int .i64 ro, .slice s6 rn c6] 26) = v18 at *
    obtain ⟨hb, hx, hz⟩ := hq
    have Z_127 : Hid (v18.heap.size = w17.heap.size + 1) := hz
    have B_128 : Hid (Below w.heap.size w v18) := B_117.out.trans (hb.mono B_117.out.size)
    have A0_129 : Hid (Boxed v18 w.heap.size 24 b0 sa0 n0 ca0) := A0_118.out.kept hb rfl
    have S1_130 : Hid (Slice v18 w2.heap.size w3.heap.size s1 n0 f0) := S1_119.out.kept hb rfl
    have S2_131 : Hid (Slice v18 w3.heap.size w4.heap.size s2 rn rf) := S2_120.out.kept hb rfl
    have W0_132 : Hid (Boxed v18 w4.heap.size 26 ro s2 rn c2) := W0_121.out.kept hb rfl
    have S3_133 : Hid (Slice v18 v5.heap.size w6.heap.size s3 n0 (fun i => (1 : Int) + (i : Int))) := S3_122.out.kept hb rfl
    have X0_134 : Hid (Boxed v18 w6.heap.size 26 b0 s3 n0 c3) := X0_123.out.kept hb rfl
    have S4_135 : Hid (Slice v18 v7.heap.size w8.heap.size s4 rn (fun i => (1 : Int) + (i : Int))) := S4_124.out.kept hb rfl
    have G0_136 : Hid (Boxed v18 w8.heap.size 26 ro s4 rn c4) := G0_125.out.kept hb rfl
    have S5_137 : Hid (Slice v18 w15.heap.size w16.heap.size s5 n0 f0) := S5_126.out.kept hb rfl
    have S6_138 : Hid (Slice v18 w16.heap.size w17.heap.size s6 rn rf) := S6_n.out.kept hb rfl
    clear B_117 A0_118 S1_119 S2_120 W0_121 S3_122 X0_123 S4_124 G0_125 S5_126 S6_n
    have H0_n : Hid (Boxed v18 w17.heap.size 26 ro s6 rn c6) := hx
    clear hb hx hz
    refine (eqVec_same ro s6 s2 rn c6 c2 rf _ hrn S6_138.out.row S2_131.out.row).mono ?_
    rintro e w19 ⟨rfl, hb⟩
    have Z_139 : Hid (v18.heap.size ≤ w19.heap.size) := hb.size
    have B_140 : Hid (Below w.heap.size w w19) := B_128.out.trans (hb.mono B_128.out.size)
    have A0_141 : Hid (Boxed w19 w.heap.size 24 b0 sa0 n0 ca0) := A0_129.out.kept hb rfl
    have S1_142 : Hid (Slice w19 w2.heap.size w3.heap.size s1 n0 f0) := S1_130.out.kept hb rfl
    have S2_143 : Hid (Slice w19 w3.heap.size w4.heap.size s2 rn rf) := S2_131.out.kept hb rfl
    have W0_144 : Hid (Boxed w19 w4.heap.size 26 ro s2 rn c2) := W0_132.out.kept hb rfl
    have S3_145 : Hid (Slice w19 v5.heap.size w6.heap.size s3 n0 (fun i => (1 : Int) + (i : Int))) := S3_133.out.kept hb rfl
    have X0_146 : Hid (Boxed w19 w6.heap.size 26 b0 s3 n0 c3) := X0_134.out.kept hb rfl
    have S4_147 : Hid (Slice w19 v7.heap.size w8.heap.size s4 rn (fun i => (1 : Int) + (i : Int))) := S4_135.out.kept hb rfl
    have G0_148 : Hid (Boxed w19 w8.heap.size 26 ro s4 rn c4) := G0_136.out.kept hb rfl
    have S5_149 : Hid (Slice w19 w15.heap.size w16.heap.size s5 n0 f0) := S5_137.out.kept hb rfl
    have S6_150 : Hid (Slice w19 w16.heap.size w17.heap.size s6 rn rf) := S6_138.out.kept hb rfl
    have H0_151 : Hid (Boxed w19 w17.heap.size 26 ro s6 rn c6) := H0_n.out.kept hb rfl
    clear B_128 A0_129 S1_130 S2_131 W0_132 S3_133 X0_134 S4_135 G0_136 S5_137 S6_138 H0_n
    clear hb
    obtain ⟨cA00, cA01⟩ := A0_141.out.cells
    have lA0 := A0_141.out.lt
    obtain ⟨cW00, cW01⟩ := W0_144.out.cells
    have lW0 := W0_144.out.lt
    obtain ⟨cX00, cX01⟩ := X0_146.out.cells
    have lX0 := X0_146.out.lt
    obtain ⟨cG00, cG01⟩ := G0_148.out.cells
    have lG0 := G0_148.out.lt
    obtain ⟨cH00, cH01⟩ := H0_151.out.cells
    have lH0 := H0_151.out.lt
    go_wp2_with fail
    refine (heldVec_any ro s4 rn c4 1 _ hrn (by omega) (by omega) S4_147.out.row).mono ?_
    clear cA00 cA01 lA0 cW00 cW01 lW0 cX00 cX01 lX0 cG00 cG01 lG0 cH00 cH01 lH0
    rintro e w20 ⟨rfl, hb⟩
    have Z_152 : Hid (w19.heap.size ≤ w20.heap.size) := hb.size
    have B_153 : Hid (Below w.heap.size w w20) := B_140.out.trans (hb.mono B_140.out.size)
    have A0_154 : Hid (Boxed w20 w.heap.size 24 b0 sa0 n0 ca0) := A0_141.out.kept hb rfl
    have S1_155 : Hid (Slice w20 w2.heap.size w3.heap.size s1 n0 f0) := S1_142.out.kept hb rfl
    have S2_156 : Hid (Slice w20 w3.heap.size w4.heap.size s2 rn rf) := S2_143.out.kept hb rfl
    have W0_157 : Hid (Boxed w20 w4.heap.size 26 ro s2 rn c2) := W0_144.out.kept hb rfl
    have S3_158 : Hid (Slice w20 v5.heap.size w6.heap.size s3 n0 (fun i => (1 : Int) + (i : Int))) := S3_145.out.kept hb rfl
    have X0_159 : Hid (Boxed w20 w6.heap.size 26 b0 s3 n0 c3) := X0_146.out.kept hb rfl
    have S4_160 : Hid (Slice w20 v7.heap.size w8.heap.size s4 rn (fun i => (1 : Int) + (i : Int))) := S4_147.out.kept hb rfl
    have G0_161 : Hid (Boxed w20 w8.heap.size 26 ro s4 rn c4) := G0_148.out.kept hb rfl
    have S5_162 : Hid (Slice w20 w15.heap.size w16.heap.size s5 n0 f0) := S5_149.out.kept hb rfl
    have S6_163 : Hid (Slice w20 w16.heap.size w17.heap.size s6 rn rf) := S6_150.out.kept hb rfl
    have H0_164 : Hid (Boxed w20 w17.heap.size 26 ro s6 rn c6) := H0_151.out.kept hb rfl
    clear B_140 A0_141 S1_142 S2_143 W0_144 S3_145 X0_146 S4_147 G0_148 S5_149 S6_150 H0_151
    clear hb
    obtain ⟨cA00, cA01⟩ := A0_154.out.cells
    have lA0 := A0_154.out.lt
    obtain ⟨cW00, cW01⟩ := W0_157.out.cells
    have lW0 := W0_157.out.lt
    obtain ⟨cX00, cX01⟩ := X0_159.out.cells
    have lX0 := X0_159.out.lt
    obtain ⟨cG00, cG01⟩ := G0_161.out.cells
    have lG0 := G0_161.out.lt
    obtain ⟨cH00, cH01⟩ := H0_164.out.cells
    have lH0 := H0_164.out.lt
    go_wp2
    go_ret
    exact ⟨rfl, B_153.out⟩
end Go.Proofs.Ytcmnmlginoojkag
