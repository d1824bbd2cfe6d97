/- What is proved here: the law of VecNew walks to true, where the specification's function and the program's hand back the same; nothing that was there turns. -/
import Derived.Test.YtcmnmlginoojkafVecS
import Derived.Deep.RegionWith
import Derived.Deep.DeepCutAuto
namespace Go.Proofs.Ytcmnmlginoojkaf
open Go.RowKit

set_option maxRecDepth 100000 in
set_option maxHeartbeats 8000000 in
theorem law_VecNew (a0 : Int) (ro : Int) (rn : Nat) (rf : Nat → Int) (w : World) (hrn : rn ≤ 1048576)
    (hs : ∀ (W : World), Calls Try.prog 14 #[.int .i64 a0] W fun e W' => NewVec W ro rn rf e W')
    (hi : ∀ (W : World), Calls Try.prog 15 #[.int .i64 a0] W fun e W' => NewVec W ro rn rf e W') :
    Calls Try.prog 4 #[.int .i64 a0] w fun e w' => e = .returned (.bool true) ∧ Below w.heap.size w w' := by
  have HS : Hid (∀ (W : World), Calls Try.prog 14 #[.int .i64 a0] W fun e W' => NewVec W ro rn rf e W') := hs
  have HI : Hid (∀ (W : World), Calls Try.prog 15 #[.int .i64 a0] W fun e W' => NewVec W ro rn rf e W') := hi
  clear hs hi
  go_enter Try.func4, Try.ntmps4
  go_wp2_with fail
  have B_0 : Hid (Below w.heap.size w w) := Below.refl _ _
  refine (HS.out _).mono ?_
  rintro e w1 ⟨s1, c1, rfl, hb, ho⟩
  unfold vecV
  have S1_n : Hid (Slice w1 w.heap.size w1.heap.size s1 rn rf) := ho.slice
  clear ho
  have Z_1 : Hid (w.heap.size ≤ w1.heap.size) := hb.size
  have B_2 : Hid (Below w.heap.size w w1) := B_0.out.trans (hb.mono B_0.out.size)
  clear B_0
  clear hb
  go_wp2_with fail
  have hq := boxing w1 27 ro s1 rn c1
  generalize w1.alloc (.cells #[.int .i64 ro, .slice s1 rn c1] 27) = v2 at *
  obtain ⟨hb, hx, hz⟩ := hq
  have Z_3 : Hid (v2.heap.size = w1.heap.size + 1) := hz
  have B_4 : Hid (Below w.heap.size w v2) := B_2.out.trans (hb.mono B_2.out.size)
  have S1_5 : Hid (Slice v2 w.heap.size w1.heap.size s1 rn rf) := S1_n.out.kept hb rfl
  clear B_2 S1_n
  have W0_n : Hid (Boxed v2 w1.heap.size 27 ro s1 rn c1) := hx
  clear hb hx hz
  refine (HI.out _).mono ?_
  rintro e w3 ⟨s2, c2, rfl, hb, ho⟩
  unfold vecV
  have S2_n : Hid (Slice w3 v2.heap.size w3.heap.size s2 rn rf) := ho.slice
  clear ho
  have Z_6 : Hid (v2.heap.size ≤ w3.heap.size) := hb.size
  have B_7 : Hid (Below w.heap.size w w3) := B_4.out.trans (hb.mono B_4.out.size)
  have S1_8 : Hid (Slice w3 w.heap.size w1.heap.size s1 rn rf) := S1_5.out.kept hb rfl
  have W0_9 : Hid (Boxed w3 w1.heap.size 27 ro s1 rn c1) := W0_n.out.kept hb rfl
  clear B_4 S1_5 W0_n
  clear hb
  obtain ⟨cW00, cW01⟩ := W0_9.out.cells
  have lW0 := W0_9.out.lt
  go_wp2_with fail
  clear cW00 cW01 lW0
  have hq := boxing w3 27 ro s2 rn c2
  generalize w3.alloc (.cells #[.int .i64 ro, .slice s2 rn c2] 27) = v4 at *
  obtain ⟨hb, hx, hz⟩ := hq
  have Z_10 : Hid (v4.heap.size = w3.heap.size + 1) := hz
  have B_11 : Hid (Below w.heap.size w v4) := B_7.out.trans (hb.mono B_7.out.size)
  have S1_12 : Hid (Slice v4 w.heap.size w1.heap.size s1 rn rf) := S1_8.out.kept hb rfl
  have W0_13 : Hid (Boxed v4 w1.heap.size 27 ro s1 rn c1) := W0_9.out.kept hb rfl
  have S2_14 : Hid (Slice v4 v2.heap.size w3.heap.size s2 rn rf) := S2_n.out.kept hb rfl
  clear B_7 S1_8 W0_9 S2_n
  have G0_n : Hid (Boxed v4 w3.heap.size 27 ro s2 rn c2) := hx
  clear hb hx hz
  refine (eqVec_same ro s2 s1 rn c2 c1 rf _ hrn S2_14.out.row S1_12.out.row).mono ?_
  rintro e w5 ⟨rfl, hb⟩
  have Z_15 : Hid (v4.heap.size ≤ w5.heap.size) := hb.size
  have B_16 : Hid (Below w.heap.size w w5) := B_11.out.trans (hb.mono B_11.out.size)
  have S1_17 : Hid (Slice w5 w.heap.size w1.heap.size s1 rn rf) := S1_12.out.kept hb rfl
  have W0_18 : Hid (Boxed w5 w1.heap.size 27 ro s1 rn c1) := W0_13.out.kept hb rfl
  have S2_19 : Hid (Slice w5 v2.heap.size w3.heap.size s2 rn rf) := S2_14.out.kept hb rfl
  have G0_20 : Hid (Boxed w5 w3.heap.size 27 ro s2 rn c2) := G0_n.out.kept hb rfl
  clear B_11 S1_12 W0_13 S2_14 G0_n
  clear hb
  obtain ⟨cW00, cW01⟩ := W0_18.out.cells
  have lW0 := W0_18.out.lt
  obtain ⟨cG00, cG01⟩ := G0_20.out.cells
  have lG0 := G0_20.out.lt
  go_wp2_with fail
  refine (markVec_in ro s2 rn c2 v2.heap.size w3.heap.size _ 1 _ hrn (by omega) (by omega) S2_19.out).mono ?_
  clear cW00 cW01 lW0 cG00 cG01 lG0
  rintro e w6 ⟨rfl, hon, hsl⟩
  have S2_m : Hid (Slice w6 v2.heap.size w3.heap.size s2 rn (fun i => (1 : Int) + (i : Int))) := hsl
  have Z_21 : Hid (w5.heap.size ≤ w6.heap.size) := hon.size
  have B_22 : Hid (Below w.heap.size w w6) := B_16.out.trans (hon.below (by have := Z_1.out; have := Z_3.out; have := Z_6.out; have := Z_10.out; have := Z_15.out; have := Z_21.out; omega) B_16.out.size)
  have S1_23 : Hid (Slice w6 w.heap.size w1.heap.size s1 rn rf) := S1_17.out.only hon (by have := Z_1.out; have := Z_3.out; have := Z_6.out; have := Z_10.out; have := Z_15.out; have := Z_21.out; omega)
  have W0_24 : Hid (Boxed w6 w1.heap.size 27 ro s1 rn c1) := W0_18.out.only hon (by have := Z_1.out; have := Z_3.out; have := Z_6.out; have := Z_10.out; have := Z_15.out; have := Z_21.out; omega)
  have G0_25 : Hid (Boxed w6 w3.heap.size 27 ro s2 rn c2) := G0_20.out.only hon (by have := Z_1.out; have := Z_3.out; have := Z_6.out; have := Z_10.out; have := Z_15.out; have := Z_21.out; omega)
  clear B_16 S1_17 W0_18 G0_20
  clear S2_19 hon hsl
  obtain ⟨cW00, cW01⟩ := W0_24.out.cells
  have lW0 := W0_24.out.lt
  obtain ⟨cG00, cG01⟩ := G0_25.out.cells
  have lG0 := G0_25.out.lt
  go_wp2_with fail
  refine (heldVec_any ro s2 rn c2 1 _ hrn (by omega) (by omega) S2_m.out.row).mono ?_
  clear cW00 cW01 lW0 cG00 cG01 lG0
  rintro e w7 ⟨rfl, hb⟩
  have Z_26 : Hid (w6.heap.size ≤ w7.heap.size) := hb.size
  have B_27 : Hid (Below w.heap.size w w7) := B_22.out.trans (hb.mono B_22.out.size)
  have S1_28 : Hid (Slice w7 w.heap.size w1.heap.size s1 rn rf) := S1_23.out.kept hb rfl
  have W0_29 : Hid (Boxed w7 w1.heap.size 27 ro s1 rn c1) := W0_24.out.kept hb rfl
  have S2_30 : Hid (Slice w7 v2.heap.size w3.heap.size s2 rn (fun i => (1 : Int) + (i : Int))) := S2_m.out.kept hb rfl
  have G0_31 : Hid (Boxed w7 w3.heap.size 27 ro s2 rn c2) := G0_25.out.kept hb rfl
  clear B_22 S1_23 W0_24 S2_m G0_25
  clear hb
  have hk2 : ¬ ((1 : Int) + (rn : Int)) < 0 := by omega
  obtain ⟨cW00, cW01⟩ := W0_29.out.cells
  have lW0 := W0_29.out.lt
  obtain ⟨cG00, cG01⟩ := G0_31.out.cells
  have lG0 := G0_31.out.lt
  go_wp2_with fail
  refine (HI.out _).mono ?_
  clear cW00 cW01 lW0 cG00 cG01 lG0
  rintro e w8 ⟨s3, c3, rfl, hb, ho⟩
  unfold vecV
  have S3_n : Hid (Slice w8 w7.heap.size w8.heap.size s3 rn rf) := ho.slice
  clear ho
  have Z_32 : Hid (w7.heap.size ≤ w8.heap.size) := hb.size
  have B_33 : Hid (Below w.heap.size w w8) := B_27.out.trans (hb.mono B_27.out.size)
  have S1_34 : Hid (Slice w8 w.heap.size w1.heap.size s1 rn rf) := S1_28.out.kept hb rfl
  have W0_35 : Hid (Boxed w8 w1.heap.size 27 ro s1 rn c1) := W0_29.out.kept hb rfl
  have S2_36 : Hid (Slice w8 v2.heap.size w3.heap.size s2 rn (fun i => (1 : Int) + (i : Int))) := S2_30.out.kept hb rfl
  have G0_37 : Hid (Boxed w8 w3.heap.size 27 ro s2 rn c2) := G0_31.out.kept hb rfl
  clear B_27 S1_28 W0_29 S2_30 G0_31
  clear hb
  obtain ⟨cW00, cW01⟩ := W0_35.out.cells
  have lW0 := W0_35.out.lt
  obtain ⟨cG00, cG01⟩ := G0_37.out.cells
  have lG0 := G0_37.out.lt
  go_wp2_with fail
  clear cW00 cW01 lW0 cG00 cG01 lG0
  have hq := boxing w8 27 ro s3 rn c3
  generalize w8.alloc (.cells #[.int .i64 ro, .slice s3 rn c3] 27) = v9 at *
  obtain ⟨hb, hx, hz⟩ := hq
  have Z_38 : Hid (v9.heap.size = w8.heap.size + 1) := hz
  have B_39 : Hid (Below w.heap.size w v9) := B_33.out.trans (hb.mono B_33.out.size)
  have S1_40 : Hid (Slice v9 w.heap.size w1.heap.size s1 rn rf) := S1_34.out.kept hb rfl
  have W0_41 : Hid (Boxed v9 w1.heap.size 27 ro s1 rn c1) := W0_35.out.kept hb rfl
  have S2_42 : Hid (Slice v9 v2.heap.size w3.heap.size s2 rn (fun i => (1 : Int) + (i : Int))) := S2_36.out.kept hb rfl
  have G0_43 : Hid (Boxed v9 w3.heap.size 27 ro s2 rn c2) := G0_37.out.kept hb rfl
  have S3_44 : Hid (Slice v9 w7.heap.size w8.heap.size s3 rn rf) := S3_n.out.kept hb rfl
  clear B_33 S1_34 W0_35 S2_36 G0_37 S3_n
  have H0_n : Hid (Boxed v9 w8.heap.size 27 ro s3 rn c3) := hx
  clear hb hx hz
  refine (eqVec_same ro s3 s1 rn c3 c1 rf _ hrn S3_44.out.row S1_40.out.row).mono ?_
  rintro e w10 ⟨rfl, hb⟩
  have Z_45 : Hid (v9.heap.size ≤ w10.heap.size) := hb.size
  have B_46 : Hid (Below w.heap.size w w10) := B_39.out.trans (hb.mono B_39.out.size)
  have S1_47 : Hid (Slice w10 w.heap.size w1.heap.size s1 rn rf) := S1_40.out.kept hb rfl
  have W0_48 : Hid (Boxed w10 w1.heap.size 27 ro s1 rn c1) := W0_41.out.kept hb rfl
  have S2_49 : Hid (Slice w10 v2.heap.size w3.heap.size s2 rn (fun i => (1 : Int) + (i : Int))) := S2_42.out.kept hb rfl
  have G0_50 : Hid (Boxed w10 w3.heap.size 27 ro s2 rn c2) := G0_43.out.kept hb rfl
  have S3_51 : Hid (Slice w10 w7.heap.size w8.heap.size s3 rn rf) := S3_44.out.kept hb rfl
  have H0_52 : Hid (Boxed w10 w8.heap.size 27 ro s3 rn c3) := H0_n.out.kept hb rfl
  clear B_39 S1_40 W0_41 S2_42 G0_43 S3_44 H0_n
  clear hb
  obtain ⟨cW00, cW01⟩ := W0_48.out.cells
  have lW0 := W0_48.out.lt
  obtain ⟨cG00, cG01⟩ := G0_50.out.cells
  have lG0 := G0_50.out.lt
  obtain ⟨cH00, cH01⟩ := H0_52.out.cells
  have lH0 := H0_52.out.lt
  go_wp2_with fail
  refine (heldVec_any ro s2 rn c2 1 _ hrn (by omega) (by omega) S2_49.out.row).mono ?_
  clear cW00 cW01 lW0 cG00 cG01 lG0 cH00 cH01 lH0
  rintro e w11 ⟨rfl, hb⟩
  have Z_53 : Hid (w10.heap.size ≤ w11.heap.size) := hb.size
  have B_54 : Hid (Below w.heap.size w w11) := B_46.out.trans (hb.mono B_46.out.size)
  have S1_55 : Hid (Slice w11 w.heap.size w1.heap.size s1 rn rf) := S1_47.out.kept hb rfl
  have W0_56 : Hid (Boxed w11 w1.heap.size 27 ro s1 rn c1) := W0_48.out.kept hb rfl
  have S2_57 : Hid (Slice w11 v2.heap.size w3.heap.size s2 rn (fun i => (1 : Int) + (i : Int))) := S2_49.out.kept hb rfl
  have G0_58 : Hid (Boxed w11 w3.heap.size 27 ro s2 rn c2) := G0_50.out.kept hb rfl
  have S3_59 : Hid (Slice w11 w7.heap.size w8.heap.size s3 rn rf) := S3_51.out.kept hb rfl
  have H0_60 : Hid (Boxed w11 w8.heap.size 27 ro s3 rn c3) := H0_52.out.kept hb rfl
  clear B_46 S1_47 W0_48 S2_49 G0_50 S3_51 H0_52
  clear hb
  obtain ⟨cW00, cW01⟩ := W0_56.out.cells
  have lW0 := W0_56.out.lt
  obtain ⟨cG00, cG01⟩ := G0_58.out.cells
  have lG0 := G0_58.out.lt
  obtain ⟨cH00, cH01⟩ := H0_60.out.cells
  have lH0 := H0_60.out.lt
  go_wp2
  go_ret
  exact ⟨rfl, B_54.out⟩
end Go.Proofs.Ytcmnmlginoojkaf
