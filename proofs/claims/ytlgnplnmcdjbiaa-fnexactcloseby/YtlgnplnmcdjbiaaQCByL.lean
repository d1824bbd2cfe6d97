/- What is proved here: the law of CloseBy walks to true, where the specification's function and the program's hand back the same in new memory; nothing that was there turns. -/
import Derived.Test.YtlgnplnmcdjbiaaQCByHW
import Derived.Test.YtlgnplnmcdjbiaaQRowsEqWToVecH
import Derived.Test.YtlgnplnmcdjbiaaQRowsMarkWToVecSMarkW
import Derived.Deep.RegionWith
import Derived.Deep.DeepCutAuto
namespace Go.Proofs.Ytlgnplnmcdjbiaa
open Go.RowKit

set_option maxRecDepth 100000 in
set_option maxHeartbeats 8000000 in
theorem law_CloseBy (b : Nat → Int) (s : Nat → Option Addr) (n c : Nat → Nat) (F : Nat → Nat → Int) (b1 : Int) (sa1 : Option Addr) (n1 ca1 : Nat) (f1 : Nat → Int) (ro : Int) (rn : Nat) (rf : Nat → Int) (w : World) (hn : ∀ i, i < 5 → n i ≤ maxLen) (hr : M5Row w s n F) (hm1 : n1 ≤ maxLen) (hr1 : Row w w.heap.size sa1 n1 f1) (hrn : rn ≤ 1048576)
    (hs : (∀ i, i < 5 → n i ≤ 1048576) → n1 ≤ 1048576 → ∀ (W : World) (x : Nat → Option Addr) (k : Nat → Nat) (x1 : Option Addr) (k1 : Nat), M5Row W x n F → Row W W.heap.size x1 n1 f1 → Calls Try.prog 36 #[m5V b x n k, .agg #[.int .i64 b1, .slice x1 n1 k1]] W fun e W' => NewVec W ro rn rf e W')
    (hi : (∀ i, i < 5 → n i ≤ 1048576) → n1 ≤ 1048576 → ∀ (W : World) (x : Nat → Option Addr) (k : Nat → Nat) (x1 : Option Addr) (k1 : Nat), M5Row W x n F → Row W W.heap.size x1 n1 f1 → Calls Try.prog 35 #[m5V b x n k, .agg #[.int .i64 b1, .slice x1 n1 k1]] W fun e W' => NewVec W ro rn rf e W') :
    Calls Try.prog 6 #[m5V b s n c, .agg #[.int .i64 b1, .slice sa1 n1 ca1]] w fun e w' => e = .returned (.bool true) ∧ Below w.heap.size w w' := by
  have HR : Hid (M5Row w s n F) := hr
  have HR1 : Hid (Row w w.heap.size sa1 n1 f1) := hr1
  have q0 := l5boxing w b s n c
  have q1 := boxing (w.alloc (.cells #[.int .i64 (b 0), .slice (s 0) (n 0) (c 0), .int .i64 (b 1), .slice (s 1) (n 1) (c 1), .int .i64 (b 2), .slice (s 2) (n 2) (c 2), .int .i64 (b 3), .slice (s 3) (n 3) (c 3), .int .i64 (b 4), .slice (s 4) (n 4) (c 4)] 70)) 68 b1 sa1 n1 ca1
  obtain ⟨v0, hv0⟩ : ∃ v, (w.alloc (.cells #[.int .i64 (b 0), .slice (s 0) (n 0) (c 0), .int .i64 (b 1), .slice (s 1) (n 1) (c 1), .int .i64 (b 2), .slice (s 2) (n 2) (c 2), .int .i64 (b 3), .slice (s 3) (n 3) (c 3), .int .i64 (b 4), .slice (s 4) (n 4) (c 4)] 70)).alloc (.cells #[.int .i64 b1, .slice sa1 n1 ca1] 68) = v := ⟨_, rfl⟩
  have z1 : (w.alloc (.cells #[.int .i64 (b 0), .slice (s 0) (n 0) (c 0), .int .i64 (b 1), .slice (s 1) (n 1) (c 1), .int .i64 (b 2), .slice (s 2) (n 2) (c 2), .int .i64 (b 3), .slice (s 3) (n 3) (c 3), .int .i64 (b 4), .slice (s 4) (n 4) (c 4)] 70)).heap.size = w.heap.size + 1 := by simp
  rw [hv0] at q1
  have B_v : Hid (Below w.heap.size w v0) := q0.1.trans (q1.1.mono q0.1.size)
  have L_v : Hid (L5Box v0 w.heap.size b s n c) := q0.2.kept q1.1 rfl
  have A_v : Hid (Boxed v0 (w.heap.size + 1) 68 b1 sa1 n1 ca1) := by have h9 := q1.2.1; rw [z1] at h9; exact h9
  have HSZ := fun W => szMasks_any b s n c 1048576 W hn (by omega) (by omega)
  have HSZ2 : Hid (∀ W, Calls Try.prog 51 #[m5V b s n c, .int .i64 1048576] W fun e w' => e = .returned (.int .i64 (szK n 1048576 5)) ∧ Below W.heap.size W w') := HSZ
  clear hr hr1 q0 q1 z1 HSZ hn
  obtain ⟨x0, x1, x2, x3, x4, x5, x6, x7, x8, x9⟩ := L_v.out.cells
  have xl := L_v.out.lt
  unfold m5V
  go_enter Try.func6, Try.ntmps6
  go_wp2_with fail
  refine (HSZ2.out v0).mono ?_
  clear hv0 x0 x1 x2 x3 x4 x5 x6 x7 x8 x9 xl HSZ2
  rintro e w0 ⟨rfl, hb⟩
  have B_0 : Hid (Below w.heap.size w w0) := B_v.out.trans (hb.mono B_v.out.size)
  have L_0 : Hid (L5Box w0 w.heap.size b s n c) := L_v.out.kept hb rfl
  have A_0 : Hid (Boxed w0 (w.heap.size + 1) 68 b1 sa1 n1 ca1) := A_v.out.kept hb rfl
  have Z_0 : Hid (w.heap.size + 1 < w0.heap.size) := (A_v.out.kept hb rfl).lt
  clear hb B_v L_v A_v
  obtain ⟨z, hz⟩ : ∃ z, szK n 1048576 5 = z := ⟨_, rfl⟩
  have HZK : Hid (szK n 1048576 5 = z) := hz
  rw [hz]
  clear hz
  by_cases hz0 : z < 0
  · clear hs hi
    have hzm : z = -1 := by have h9 := szK_neg (n := n) (left := 1048576) (by rw [HZK.out]; exact hz0); rw [HZK.out] at h9; exact h9
    subst hzm
    go_wp2_with fail
    go_ret
    exact ⟨rfl, B_0.out⟩
  have hzz : 0 ≤ z := by omega
  obtain ⟨hz1, hl5⟩ := szK_ok (n := n) (left := 1048576) (by omega) (by rw [HZK.out]; exact hzz)
  rw [HZK.out] at hz1
  have HL5 : Hid (∀ i, i < 5 → n i ≤ 1048576) := hl5
  obtain ⟨cA0, cA1⟩ := A_0.out.cells
  have lA := A_0.out.lt
  clear hl5
  go_wp2_with fail
  refine (szVec_any b1 sa1 n1 ca1 z w0 hm1 hzz hz1).mono ?_
  clear cA0 cA1 lA
  rintro e w1 ⟨rfl, hb⟩
  have B_1 : Hid (Below w.heap.size w w1) := B_0.out.trans (hb.mono B_0.out.size)
  have L_1 : Hid (L5Box w1 w.heap.size b s n c) := L_0.out.kept hb rfl
  have A_1 : Hid (Boxed w1 (w.heap.size + 1) 68 b1 sa1 n1 ca1) := A_0.out.kept hb rfl
  have Z_1 : Hid (w0.heap.size ≤ w1.heap.size) := hb.size
  clear hb B_0 A_0 L_0
  by_cases hbig : z < (n1 : Int)
  · have hzo : szOf n1 z = -1 := by unfold szOf; rw [if_pos hbig]
    rw [hzo]
    clear hs hi
    go_wp2_with fail
    go_ret
    exact ⟨rfl, B_1.out⟩
  have hzo : szOf n1 z = z - (n1 : Int) := by unfold szOf; rw [if_neg hbig]
  have hzn : ¬ z - (n1 : Int) < 0 := by omega
  rw [hzo]
  have hl1 : n1 ≤ 1048576 := by omega
  have HS : Hid (∀ (W : World) (x : Nat → Option Addr) (k : Nat → Nat) (x1 : Option Addr) (k1 : Nat), M5Row W x n F → Row W W.heap.size x1 n1 f1 → Calls Try.prog 36 #[m5V b x n k, .agg #[.int .i64 b1, .slice x1 n1 k1]] W fun e W' => NewVec W ro rn rf e W') := hs HL5.out hl1
  have HI : Hid (∀ (W : World) (x : Nat → Option Addr) (k : Nat → Nat) (x1 : Option Addr) (k1 : Nat), M5Row W x n F → Row W W.heap.size x1 n1 f1 → Calls Try.prog 35 #[m5V b x n k, .agg #[.int .i64 b1, .slice x1 n1 k1]] W fun e W' => NewVec W ro rn rf e W') := hi HL5.out hl1
  clear hs hi
  have RC : Hid (M5Row w1 s n F) := HR.out.since ⟨B_1.out⟩
  have RV : Hid (Row w1 w1.heap.size sa1 n1 f1) := row_since HR1.out ⟨B_1.out⟩
  go_upto_region 8 with fail
  go_cut [6] (fun pv wc => CutP w1 45 ro rn rf pv wc)
  case first =>
    obtain ⟨cL0, cL1, cL2, cL3, cL4, cL5, cL6, cL7, cL8, cL9⟩ := L_1.out.cells
    have lL := L_1.out.lt
    obtain ⟨cA0, cA1⟩ := A_1.out.cells
    have lA := A_1.out.lt
    go_region_with (first
      | (go_at_call 53; refine (toMasks5_any b s n c F _ HL5.out (RC.out.since (by first | assumption | exact since_drew (since_refl _) | exact since_alloc (since_drew (since_refl _)) | exact since_alloc (by assumption)))).mono ?_; rintro e w' ⟨m0, k0, h0, rfl, hb, hsl0, _, _⟩; (try (have hbx : Boxed w' _ 45 0 none 0 0 := Boxed.kept (by first | assumption | exact heap_alloc_new _ _) hb rfl; obtain ⟨d0, d1, d2, d3⟩ := hbx.four)); have hS : Since w1 w' := (by refine since_call ?_ hb; first | assumption | exact since_drew (since_refl _) | exact since_alloc (since_drew (since_refl _)) | exact since_alloc (by assumption)); have HCR : Hid (∀ X, Since w' X → M5Row X m0 n F) := (fun X hX => hsl0.row.since hX); clear hsl0; obtain ⟨cL0, cL1, cL2, cL3, cL4, cL5, cL6, cL7, cL8, cL9⟩ := (L_1.out.since hS).cells; have lL := (L_1.out.since hS).lt; obtain ⟨cA0, cA1⟩ := (A_1.out.since hS).cells; have lA := (A_1.out.since hS).lt)
      | (go_at_call 54; refine (toVec_any b1 sa1 n1 ca1 f1 _ hl1 (row_since RV.out (by first | assumption | exact since_drew (since_refl _) | exact since_alloc (since_drew (since_refl _)) | exact since_alloc (by assumption)))).mono ?_; rintro e w'' ⟨s0, c0, rfl, hb, ho⟩; (try (have hbx : Boxed w'' _ 45 0 none 0 0 := Boxed.kept (by first | assumption | exact heap_alloc_new _ _) hb rfl; obtain ⟨d0, d1, d2, d3⟩ := hbx.four)); have hS2 : Since w' w'' := (by refine since_call ?_ hb; first | exact since_refl _ | exact since_alloc (since_refl _)); have hS3 : Since w1 w'' := (since_call hS hS2.below); have HVR : Hid (∀ X, Since w'' X → Row X X.heap.size s0 n1 f1) := (fun X hX => ownS_since ho hX); have HCR2 : Hid (∀ X, Since w'' X → M5Row X m0 n F) := (fun X hX => HCR.out X (since_call hS2 hX.below)); clear ho; obtain ⟨cL0, cL1, cL2, cL3, cL4, cL5, cL6, cL7, cL8, cL9⟩ := (L_1.out.since hS3).cells; have lL := (L_1.out.since hS3).lt; obtain ⟨cA0, cA1⟩ := (A_1.out.since hS3).cells; have lA := (A_1.out.since hS3).lt; unfold vecV)
      | (go_at_call 36; refine (HS.out _ _ _ _ _ (HCR2.out _ (by first | exact since_refl _ | exact since_alloc (since_refl _))) (HVR.out _ (by first | exact since_refl _ | exact since_alloc (since_refl _)))).mono ?_; rintro e w3' ⟨sx, cx, rfl, hb, ho⟩; (try (have hbx : Boxed w3' _ 45 0 none 0 0 := Boxed.kept (by first | assumption | exact heap_alloc_new _ _) hb rfl; obtain ⟨d0, d1, d2, d3⟩ := hbx.four)); have hS4 : Since w1 w3' := (by refine since_call ?_ hb; first | exact hS3 | exact since_alloc hS3); unfold vecV))
    all_goals
      go_wp2_with fail
      go_meet
      case rel => first
        | exact cut_late hS4 (by first | exact Since.size hS3 | exact Since.size (since_alloc hS3)) ho
        | exact cut_early hS4 (by assumption) (by first | exact Nat.le_refl _ | exact Since.size (by assumption)) (by first | exact Boxed.lt (by assumption) | simp) ho
  case rest =>
    obtain ⟨pS, sS, cS, rfl, hS, hp1, hp2, hx, hsl⟩ := hcut
    obtain ⟨w2, hw2⟩ : ∃ y, y = wc := ⟨_, rfl⟩
    rw [← hw2] at hS hp2 hx hsl ⊢
    clear hw2
    have Z_2 : Hid (w1.heap.size ≤ pS ∧ pS < w2.heap.size) := ⟨hp1, hp2⟩
    have Z_3 : Hid (w1.heap.size ≤ w2.heap.size) := hS.size
    have B_4 : Hid (Below w.heap.size w w2) := B_1.out.trans (hS.below.mono B_1.out.size)
    have L_5 : Hid (L5Box w2 w.heap.size b s n c) := L_1.out.kept hS.below rfl
    have A_6 : Hid (Boxed w2 (w.heap.size + 1) 68 b1 sa1 n1 ca1) := A_1.out.kept hS.below rfl
    clear B_1 L_1 A_1
    have QS_n : Hid (Boxed w2 pS 45 ro sS rn cS) := hx
    have S_n : Hid (Slice w2 w1.heap.size w2.heap.size sS rn rf) := hsl
    clear hS hp1 hp2 hx hsl RC RV
    obtain ⟨cL0, cL1, cL2, cL3, cL4, cL5, cL6, cL7, cL8, cL9⟩ := L_5.out.cells
    have lL := L_5.out.lt
    obtain ⟨cA0, cA1⟩ := A_6.out.cells
    have lA := A_6.out.lt
    obtain ⟨cQS0, cQS1⟩ := QS_n.out.cells
    have lQS := QS_n.out.lt
    go_wp2_with fail
    refine (toMasks5_any b s n c F w2 HL5.out (HR.out.since ⟨B_4.out⟩)).mono ?_
    clear cL0 cL1 cL2 cL3 cL4 cL5 cL6 cL7 cL8 cL9 lL cA0 cA1 lA cQS0 cQS1 lQS
    rintro e w3 ⟨mX, kX, hX, rfl, hb, hsl, hlo, hhi⟩
    unfold m5V
    have X_n : Hid (M5Sl w3 hX mX n F) := hsl
    have Z_7 : Hid (w2.heap.size ≤ hX 0 ∧ hX 0 ≤ hX 5 ∧ hX 5 ≤ w3.heap.size) := ⟨hlo, by have := hsl.up; show hX 0 ≤ hX 5; omega, hhi⟩
    clear hsl hlo hhi
    have Z_8 : Hid (w2.heap.size ≤ w3.heap.size) := hb.size
    have B_9 : Hid (Below w.heap.size w w3) := B_4.out.trans (hb.mono B_4.out.size)
    have L_10 : Hid (L5Box w3 w.heap.size b s n c) := L_5.out.kept hb rfl
    have A_11 : Hid (Boxed w3 (w.heap.size + 1) 68 b1 sa1 n1 ca1) := A_6.out.kept hb rfl
    have QS_12 : Hid (Boxed w3 pS 45 ro sS rn cS) := QS_n.out.kept hb rfl
    have S_13 : Hid (Slice w3 w1.heap.size w2.heap.size sS rn rf) := S_n.out.kept hb rfl
    clear B_4 L_5 A_6 QS_n S_n
    clear hb
    obtain ⟨cL0, cL1, cL2, cL3, cL4, cL5, cL6, cL7, cL8, cL9⟩ := L_10.out.cells
    have lL := L_10.out.lt
    obtain ⟨cA0, cA1⟩ := A_11.out.cells
    have lA := A_11.out.lt
    obtain ⟨cQS0, cQS1⟩ := QS_12.out.cells
    have lQS := QS_12.out.lt
    go_wp2_with fail
    clear cL0 cL1 cL2 cL3 cL4 cL5 cL6 cL7 cL8 cL9 lL cA0 cA1 lA cQS0 cQS1 lQS
    have hq := m5boxing w3 b mX n kX
    generalize w3.alloc (.cells #[.int .i64 (b 0), .slice (mX 0) (n 0) (kX 0), .int .i64 (b 1), .slice (mX 1) (n 1) (kX 1), .int .i64 (b 2), .slice (mX 2) (n 2) (kX 2), .int .i64 (b 3), .slice (mX 3) (n 3) (kX 3), .int .i64 (b 4), .slice (mX 4) (n 4) (kX 4)] 50) = v4 at *
    obtain ⟨hb, hx, hz9⟩ := hq
    have Z_14 : Hid (v4.heap.size = w3.heap.size + 1) := hz9
    have B_15 : Hid (Below w.heap.size w v4) := B_9.out.trans (hb.mono B_9.out.size)
    have L_16 : Hid (L5Box v4 w.heap.size b s n c) := L_10.out.kept hb rfl
    have A_17 : Hid (Boxed v4 (w.heap.size + 1) 68 b1 sa1 n1 ca1) := A_11.out.kept hb rfl
    have QS_18 : Hid (Boxed v4 pS 45 ro sS rn cS) := QS_12.out.kept hb rfl
    have S_19 : Hid (Slice v4 w1.heap.size w2.heap.size sS rn rf) := S_13.out.kept hb rfl
    have X_20 : Hid (M5Sl v4 hX mX n F) := X_n.out.kept hb
    clear B_9 L_10 A_11 QS_12 S_13 X_n
    have QX_n : Hid (M5Box v4 w3.heap.size b mX n kX) := hx
    clear hb hx hz9
    refine (toVec_any b1 sa1 n1 ca1 f1 _ hl1 ((HR1.out.kept B_15.out).up B_15.out.size)).mono ?_
    rintro e w5 ⟨sV, cV, rfl, hb, ho⟩
    unfold vecV
    have V_n : Hid (Slice w5 v4.heap.size w5.heap.size sV n1 f1) := ho.slice
    clear ho
    have Z_21 : Hid (v4.heap.size ≤ w5.heap.size) := hb.size
    have B_22 : Hid (Below w.heap.size w w5) := B_15.out.trans (hb.mono B_15.out.size)
    have L_23 : Hid (L5Box w5 w.heap.size b s n c) := L_16.out.kept hb rfl
    have A_24 : Hid (Boxed w5 (w.heap.size + 1) 68 b1 sa1 n1 ca1) := A_17.out.kept hb rfl
    have QS_25 : Hid (Boxed w5 pS 45 ro sS rn cS) := QS_18.out.kept hb rfl
    have S_26 : Hid (Slice w5 w1.heap.size w2.heap.size sS rn rf) := S_19.out.kept hb rfl
    have X_27 : Hid (M5Sl w5 hX mX n F) := X_20.out.kept hb
    have QX_28 : Hid (M5Box w5 w3.heap.size b mX n kX) := QX_n.out.kept hb rfl
    clear B_15 L_16 A_17 QS_18 S_19 X_20 QX_n
    clear hb
    obtain ⟨cL0, cL1, cL2, cL3, cL4, cL5, cL6, cL7, cL8, cL9⟩ := L_23.out.cells
    have lL := L_23.out.lt
    obtain ⟨cA0, cA1⟩ := A_24.out.cells
    have lA := A_24.out.lt
    obtain ⟨cQS0, cQS1⟩ := QS_25.out.cells
    have lQS := QS_25.out.lt
    obtain ⟨cQX0, cQX1, cQX2, cQX3, cQX4, cQX5, cQX6, cQX7, cQX8, cQX9⟩ := QX_28.out.cells
    have lQX := QX_28.out.lt
    go_wp2_with fail
    clear cL0 cL1 cL2 cL3 cL4 cL5 cL6 cL7 cL8 cL9 lL cA0 cA1 lA cQS0 cQS1 lQS cQX0 cQX1 cQX2 cQX3 cQX4 cQX5 cQX6 cQX7 cQX8 cQX9 lQX
    have hq := boxing w5 45 b1 sV n1 cV
    generalize w5.alloc (.cells #[.int .i64 b1, .slice sV n1 cV] 45) = v6 at *
    obtain ⟨hb, hx, hz9⟩ := hq
    have Z_29 : Hid (v6.heap.size = w5.heap.size + 1) := hz9
    have B_30 : Hid (Below w.heap.size w v6) := B_22.out.trans (hb.mono B_22.out.size)
    have L_31 : Hid (L5Box v6 w.heap.size b s n c) := L_23.out.kept hb rfl
    have A_32 : Hid (Boxed v6 (w.heap.size + 1) 68 b1 sa1 n1 ca1) := A_24.out.kept hb rfl
    have QS_33 : Hid (Boxed v6 pS 45 ro sS rn cS) := QS_25.out.kept hb rfl
    have S_34 : Hid (Slice v6 w1.heap.size w2.heap.size sS rn rf) := S_26.out.kept hb rfl
    have X_35 : Hid (M5Sl v6 hX mX n F) := X_27.out.kept hb
    have QX_36 : Hid (M5Box v6 w3.heap.size b mX n kX) := QX_28.out.kept hb rfl
    have V_37 : Hid (Slice v6 v4.heap.size w5.heap.size sV n1 f1) := V_n.out.kept hb rfl
    clear B_22 L_23 A_24 QS_25 S_26 X_27 QX_28 V_n
    have QV_n : Hid (Boxed v6 w5.heap.size 45 b1 sV n1 cV) := hx
    clear hb hx hz9
    refine (HI.out v6 mX kX sV cV X_35.out.row V_37.out.row).mono ?_
    rintro e w7 ⟨sG, cG, rfl, hb, ho⟩
    unfold vecV
    have G_n : Hid (Slice w7 v6.heap.size w7.heap.size sG rn rf) := ho.slice
    clear ho
    have Z_38 : Hid (v6.heap.size ≤ w7.heap.size) := hb.size
    have B_39 : Hid (Below w.heap.size w w7) := B_30.out.trans (hb.mono B_30.out.size)
    have L_40 : Hid (L5Box w7 w.heap.size b s n c) := L_31.out.kept hb rfl
    have A_41 : Hid (Boxed w7 (w.heap.size + 1) 68 b1 sa1 n1 ca1) := A_32.out.kept hb rfl
    have QS_42 : Hid (Boxed w7 pS 45 ro sS rn cS) := QS_33.out.kept hb rfl
    have S_43 : Hid (Slice w7 w1.heap.size w2.heap.size sS rn rf) := S_34.out.kept hb rfl
    have X_44 : Hid (M5Sl w7 hX mX n F) := X_35.out.kept hb
    have QX_45 : Hid (M5Box w7 w3.heap.size b mX n kX) := QX_36.out.kept hb rfl
    have V_46 : Hid (Slice w7 v4.heap.size w5.heap.size sV n1 f1) := V_37.out.kept hb rfl
    have QV_47 : Hid (Boxed w7 w5.heap.size 45 b1 sV n1 cV) := QV_n.out.kept hb rfl
    clear B_30 L_31 A_32 QS_33 S_34 X_35 QX_36 V_37 QV_n
    clear hb
    obtain ⟨cL0, cL1, cL2, cL3, cL4, cL5, cL6, cL7, cL8, cL9⟩ := L_40.out.cells
    have lL := L_40.out.lt
    obtain ⟨cA0, cA1⟩ := A_41.out.cells
    have lA := A_41.out.lt
    obtain ⟨cQS0, cQS1⟩ := QS_42.out.cells
    have lQS := QS_42.out.lt
    obtain ⟨cQX0, cQX1, cQX2, cQX3, cQX4, cQX5, cQX6, cQX7, cQX8, cQX9⟩ := QX_45.out.cells
    have lQX := QX_45.out.lt
    obtain ⟨cQV0, cQV1⟩ := QV_47.out.cells
    have lQV := QV_47.out.lt
    go_wp2_with fail
    clear cL0 cL1 cL2 cL3 cL4 cL5 cL6 cL7 cL8 cL9 lL cA0 cA1 lA cQS0 cQS1 lQS cQX0 cQX1 cQX2 cQX3 cQX4 cQX5 cQX6 cQX7 cQX8 cQX9 lQX cQV0 cQV1 lQV
    have hq := boxing w7 45 ro sG rn cG
    generalize w7.alloc (.cells #[.int .i64 ro, .slice sG rn cG] 45) = v8 at *
    obtain ⟨hb, hx, hz9⟩ := hq
    have Z_48 : Hid (v8.heap.size = w7.heap.size + 1) := hz9
    have B_49 : Hid (Below w.heap.size w v8) := B_39.out.trans (hb.mono B_39.out.size)
    have L_50 : Hid (L5Box v8 w.heap.size b s n c) := L_40.out.kept hb rfl
    have A_51 : Hid (Boxed v8 (w.heap.size + 1) 68 b1 sa1 n1 ca1) := A_41.out.kept hb rfl
    have QS_52 : Hid (Boxed v8 pS 45 ro sS rn cS) := QS_42.out.kept hb rfl
    have S_53 : Hid (Slice v8 w1.heap.size w2.heap.size sS rn rf) := S_43.out.kept hb rfl
    have X_54 : Hid (M5Sl v8 hX mX n F) := X_44.out.kept hb
    have QX_55 : Hid (M5Box v8 w3.heap.size b mX n kX) := QX_45.out.kept hb rfl
    have V_56 : Hid (Slice v8 v4.heap.size w5.heap.size sV n1 f1) := V_46.out.kept hb rfl
    have QV_57 : Hid (Boxed v8 w5.heap.size 45 b1 sV n1 cV) := QV_47.out.kept hb rfl
    have G_58 : Hid (Slice v8 v6.heap.size w7.heap.size sG rn rf) := G_n.out.kept hb rfl
    clear B_39 L_40 A_41 QS_42 S_43 X_44 QX_45 V_46 QV_47 G_n
    have QG_n : Hid (Boxed v8 w7.heap.size 45 ro sG rn cG) := hx
    clear hb hx hz9
    refine (eqVec_same ro sG sS rn cG cS rf _ hrn G_58.out.row S_53.out.row).mono ?_
    rintro e w9 ⟨rfl, hb⟩
    have Z_59 : Hid (v8.heap.size ≤ w9.heap.size) := hb.size
    have B_60 : Hid (Below w.heap.size w w9) := B_49.out.trans (hb.mono B_49.out.size)
    have L_61 : Hid (L5Box w9 w.heap.size b s n c) := L_50.out.kept hb rfl
    have A_62 : Hid (Boxed w9 (w.heap.size + 1) 68 b1 sa1 n1 ca1) := A_51.out.kept hb rfl
    have QS_63 : Hid (Boxed w9 pS 45 ro sS rn cS) := QS_52.out.kept hb rfl
    have S_64 : Hid (Slice w9 w1.heap.size w2.heap.size sS rn rf) := S_53.out.kept hb rfl
    have X_65 : Hid (M5Sl w9 hX mX n F) := X_54.out.kept hb
    have QX_66 : Hid (M5Box w9 w3.heap.size b mX n kX) := QX_55.out.kept hb rfl
    have V_67 : Hid (Slice w9 v4.heap.size w5.heap.size sV n1 f1) := V_56.out.kept hb rfl
    have QV_68 : Hid (Boxed w9 w5.heap.size 45 b1 sV n1 cV) := QV_57.out.kept hb rfl
    have G_69 : Hid (Slice w9 v6.heap.size w7.heap.size sG rn rf) := G_58.out.kept hb rfl
    have QG_70 : Hid (Boxed w9 w7.heap.size 45 ro sG rn cG) := QG_n.out.kept hb rfl
    clear B_49 L_50 A_51 QS_52 S_53 X_54 QX_55 V_56 QV_57 G_58 QG_n
    clear hb
    have RC : Hid (M5Row w9 s n F) := HR.out.since ⟨B_60.out⟩
    have RX : Hid (M5Row w9 mX n F) := X_65.out.row
    go_upto_region 14 with fail
    go_cut [44] (fun v wc => v = .bool false ∧ Since w9 wc)
    case first =>
      obtain ⟨cL0, cL1, cL2, cL3, cL4, cL5, cL6, cL7, cL8, cL9⟩ := L_61.out.cells
      have lL := L_61.out.lt
      obtain ⟨cA0, cA1⟩ := A_62.out.cells
      have lA := A_62.out.lt
      obtain ⟨cQS0, cQS1⟩ := QS_63.out.cells
      have lQS := QS_63.out.lt
      obtain ⟨cQX0, cQX1, cQX2, cQX3, cQX4, cQX5, cQX6, cQX7, cQX8, cQX9⟩ := QX_66.out.cells
      have lQX := QX_66.out.lt
      obtain ⟨cQV0, cQV1⟩ := QV_68.out.cells
      have lQV := QV_68.out.lt
      obtain ⟨cQG0, cQG1⟩ := QG_70.out.cells
      have lQG := QG_70.out.lt
      go_region_with (first
        | (go_at_call 53; refine (toMasks5_any b s n c F _ HL5.out (RC.out.since (by first | assumption | exact since_drew (since_refl _) | exact since_alloc (since_drew (since_refl _)) | exact since_alloc (by assumption)))).mono ?_; rintro e w' ⟨m0, k0, h0, rfl, hb, hsl0, _, _⟩; have hS : Since w9 w' := (by refine since_call ?_ hb; first | assumption | exact since_drew (since_refl _) | exact since_alloc (since_drew (since_refl _)) | exact since_alloc (by assumption)); have HCR : Hid (∀ X, Since w' X → M5Row X m0 n F) := (fun X hX => hsl0.row.since hX); clear hsl0; obtain ⟨cL0, cL1, cL2, cL3, cL4, cL5, cL6, cL7, cL8, cL9⟩ := (L_61.out.since hS).cells; have lL := (L_61.out.since hS).lt; obtain ⟨cA0, cA1⟩ := (A_62.out.since hS).cells; have lA := (A_62.out.since hS).lt; obtain ⟨cQS0, cQS1⟩ := (QS_63.out.since hS).cells; have lQS := (QS_63.out.since hS).lt; obtain ⟨cQX0, cQX1, cQX2, cQX3, cQX4, cQX5, cQX6, cQX7, cQX8, cQX9⟩ := (QX_66.out.since hS).cells; have lQX := (QX_66.out.since hS).lt; obtain ⟨cQV0, cQV1⟩ := (QV_68.out.since hS).cells; have lQV := (QV_68.out.since hS).lt; obtain ⟨cQG0, cQG1⟩ := (QG_70.out.since hS).cells; have lQG := (QG_70.out.since hS).lt)
        | (go_at_call 56; refine (eqMasks5_same b mX _ n kX _ F _ HL5.out (RX.out.since (by assumption)) (HCR.out _ (since_refl _))).mono ?_; rintro e w'' ⟨rfl, hb⟩; have hS : Since w9 w'' := (by refine since_call ?_ hb; first | assumption | exact since_drew (since_refl _) | exact since_alloc (since_drew (since_refl _)) | exact since_alloc (by assumption))))
      all_goals
        go_wp2_with fail
        go_meet
        case rel => exact ⟨rfl, hS⟩
    case rest =>
      obtain ⟨rfl, hS⟩ := hcut
      obtain ⟨w10, hw10⟩ : ∃ y, y = wc := ⟨_, rfl⟩
      rw [← hw10] at hS ⊢
      clear hw10 RC RX
      have Z_71 : Hid (w9.heap.size ≤ w10.heap.size) := hS.size
      have B_72 : Hid (Below w.heap.size w w10) := B_60.out.trans (hS.below.mono B_60.out.size)
      have L_73 : Hid (L5Box w10 w.heap.size b s n c) := L_61.out.kept hS.below rfl
      have A_74 : Hid (Boxed w10 (w.heap.size + 1) 68 b1 sa1 n1 ca1) := A_62.out.kept hS.below rfl
      have QS_75 : Hid (Boxed w10 pS 45 ro sS rn cS) := QS_63.out.kept hS.below rfl
      have S_76 : Hid (Slice w10 w1.heap.size w2.heap.size sS rn rf) := S_64.out.kept hS.below rfl
      have X_77 : Hid (M5Sl w10 hX mX n F) := X_65.out.kept hS.below
      have QX_78 : Hid (M5Box w10 w3.heap.size b mX n kX) := QX_66.out.kept hS.below rfl
      have V_79 : Hid (Slice w10 v4.heap.size w5.heap.size sV n1 f1) := V_67.out.kept hS.below rfl
      have QV_80 : Hid (Boxed w10 w5.heap.size 45 b1 sV n1 cV) := QV_68.out.kept hS.below rfl
      have G_81 : Hid (Slice w10 v6.heap.size w7.heap.size sG rn rf) := G_69.out.kept hS.below rfl
      have QG_82 : Hid (Boxed w10 w7.heap.size 45 ro sG rn cG) := QG_70.out.kept hS.below rfl
      clear B_60 L_61 A_62 QS_63 S_64 X_65 QX_66 V_67 QV_68 G_69 QG_70
      clear hS
      have RV : Hid (Row w10 w10.heap.size sa1 n1 f1) := row_since HR1.out ⟨B_72.out⟩
      have RX : Hid (Row w10 w10.heap.size sV n1 f1) := V_79.out.row
      go_upto_region 16 with fail
      go_cut [49] (fun v wc => v = .bool false ∧ Since w10 wc)
      case first =>
        obtain ⟨cL0, cL1, cL2, cL3, cL4, cL5, cL6, cL7, cL8, cL9⟩ := L_73.out.cells
        have lL := L_73.out.lt
        obtain ⟨cA0, cA1⟩ := A_74.out.cells
        have lA := A_74.out.lt
        obtain ⟨cQS0, cQS1⟩ := QS_75.out.cells
        have lQS := QS_75.out.lt
        obtain ⟨cQX0, cQX1, cQX2, cQX3, cQX4, cQX5, cQX6, cQX7, cQX8, cQX9⟩ := QX_78.out.cells
        have lQX := QX_78.out.lt
        obtain ⟨cQV0, cQV1⟩ := QV_80.out.cells
        have lQV := QV_80.out.lt
        obtain ⟨cQG0, cQG1⟩ := QG_82.out.cells
        have lQG := QG_82.out.lt
        go_region_with (first
          | (go_at_call 54; refine (toVec_any b1 sa1 n1 ca1 f1 _ hl1 (row_since RV.out (by first | assumption | exact since_drew (since_refl _) | exact since_alloc (since_drew (since_refl _)) | exact since_alloc (by assumption)))).mono ?_; rintro e w' ⟨s0, c0, rfl, hb, ho⟩; have hS : Since w10 w' := (by refine since_call ?_ hb; first | assumption | exact since_drew (since_refl _) | exact since_alloc (since_drew (since_refl _)) | exact since_alloc (by assumption)); obtain ⟨cL0, cL1, cL2, cL3, cL4, cL5, cL6, cL7, cL8, cL9⟩ := (L_73.out.since hS).cells; have lL := (L_73.out.since hS).lt; obtain ⟨cA0, cA1⟩ := (A_74.out.since hS).cells; have lA := (A_74.out.since hS).lt; obtain ⟨cQS0, cQS1⟩ := (QS_75.out.since hS).cells; have lQS := (QS_75.out.since hS).lt; obtain ⟨cQX0, cQX1, cQX2, cQX3, cQX4, cQX5, cQX6, cQX7, cQX8, cQX9⟩ := (QX_78.out.since hS).cells; have lQX := (QX_78.out.since hS).lt; obtain ⟨cQV0, cQV1⟩ := (QV_80.out.since hS).cells; have lQV := (QV_80.out.since hS).lt; obtain ⟨cQG0, cQG1⟩ := (QG_82.out.since hS).cells; have lQG := (QG_82.out.since hS).lt; unfold vecV)
          | (go_at_call 55; refine (eqVec_same b1 sV _ n1 cV _ f1 _ hl1 (row_since RX.out (by assumption)) (ownS_since (by assumption) (since_refl _))).mono ?_; rintro e w'' ⟨rfl, hb⟩; have hS : Since w10 w'' := (by refine since_call ?_ hb; first | assumption | exact since_drew (since_refl _) | exact since_alloc (since_drew (since_refl _)) | exact since_alloc (by assumption))))
        all_goals
          go_wp2_with fail
          go_meet
          case rel => exact ⟨rfl, hS⟩
      case rest =>
        obtain ⟨rfl, hS⟩ := hcut
        obtain ⟨w11, hw11⟩ : ∃ y, y = wc := ⟨_, rfl⟩
        rw [← hw11] at hS ⊢
        clear hw11 RV RX
        have Z_83 : Hid (w10.heap.size ≤ w11.heap.size) := hS.size
        have B_84 : Hid (Below w.heap.size w w11) := B_72.out.trans (hS.below.mono B_72.out.size)
        have L_85 : Hid (L5Box w11 w.heap.size b s n c) := L_73.out.kept hS.below rfl
        have A_86 : Hid (Boxed w11 (w.heap.size + 1) 68 b1 sa1 n1 ca1) := A_74.out.kept hS.below rfl
        have QS_87 : Hid (Boxed w11 pS 45 ro sS rn cS) := QS_75.out.kept hS.below rfl
        have S_88 : Hid (Slice w11 w1.heap.size w2.heap.size sS rn rf) := S_76.out.kept hS.below rfl
        have X_89 : Hid (M5Sl w11 hX mX n F) := X_77.out.kept hS.below
        have QX_90 : Hid (M5Box w11 w3.heap.size b mX n kX) := QX_78.out.kept hS.below rfl
        have V_91 : Hid (Slice w11 v4.heap.size w5.heap.size sV n1 f1) := V_79.out.kept hS.below rfl
        have QV_92 : Hid (Boxed w11 w5.heap.size 45 b1 sV n1 cV) := QV_80.out.kept hS.below rfl
        have G_93 : Hid (Slice w11 v6.heap.size w7.heap.size sG rn rf) := G_81.out.kept hS.below rfl
        have QG_94 : Hid (Boxed w11 w7.heap.size 45 ro sG rn cG) := QG_82.out.kept hS.below rfl
        clear B_72 L_73 A_74 QS_75 S_76 X_77 QX_78 V_79 QV_80 G_81 QG_82
        clear hS
        obtain ⟨cL0, cL1, cL2, cL3, cL4, cL5, cL6, cL7, cL8, cL9⟩ := L_85.out.cells
        have lL := L_85.out.lt
        obtain ⟨cA0, cA1⟩ := A_86.out.cells
        have lA := A_86.out.lt
        obtain ⟨cQS0, cQS1⟩ := QS_87.out.cells
        have lQS := QS_87.out.lt
        obtain ⟨cQX0, cQX1, cQX2, cQX3, cQX4, cQX5, cQX6, cQX7, cQX8, cQX9⟩ := QX_90.out.cells
        have lQX := QX_90.out.lt
        obtain ⟨cQV0, cQV1⟩ := QV_92.out.cells
        have lQV := QV_92.out.lt
        obtain ⟨cQG0, cQG1⟩ := QG_94.out.cells
        have lQG := QG_94.out.lt
        go_wp2_with fail
        refine (markMasks5_in b mX n kX hX F 1 w11 HL5.out (by omega) (by omega) X_89.out (by have := Z_0.out; have := Z_1.out; have := Z_2.out; have := Z_3.out; have := Z_7.out; have := Z_8.out; have := Z_14.out; have := Z_21.out; have := Z_29.out; have := Z_38.out; have := Z_48.out; have := Z_59.out; have := Z_71.out; have := Z_83.out; omega)).mono ?_
        clear cL0 cL1 cL2 cL3 cL4 cL5 cL6 cL7 cL8 cL9 lL cA0 cA1 lA cQS0 cQS1 lQS cQX0 cQX1 cQX2 cQX3 cQX4 cQX5 cQX6 cQX7 cQX8 cQX9 lQX cQV0 cQV1 lQV cQG0 cQG1 lQG
        rintro e w12 ⟨rfl, hon⟩
        have Z_95 : Hid (w11.heap.size ≤ w12.heap.size) := hon.size
        have B_96 : Hid (Below w.heap.size w w12) := B_84.out.trans (hon.below (by have := Z_0.out; have := Z_1.out; have := Z_2.out; have := Z_3.out; have := Z_7.out; have := Z_8.out; have := Z_14.out; have := Z_21.out; have := Z_29.out; have := Z_38.out; have := Z_48.out; have := Z_59.out; have := Z_71.out; have := Z_83.out; have := Z_95.out; omega) B_84.out.size)
        have L_97 : Hid (L5Box w12 w.heap.size b s n c) := L_85.out.onlyM hon (by have := Z_0.out; have := Z_1.out; have := Z_2.out; have := Z_3.out; have := Z_7.out; have := Z_8.out; have := Z_14.out; have := Z_21.out; have := Z_29.out; have := Z_38.out; have := Z_48.out; have := Z_59.out; have := Z_71.out; have := Z_83.out; have := Z_95.out; omega)
        have A_98 : Hid (Boxed w12 (w.heap.size + 1) 68 b1 sa1 n1 ca1) := A_86.out.onlyM hon (by have := Z_0.out; have := Z_1.out; have := Z_2.out; have := Z_3.out; have := Z_7.out; have := Z_8.out; have := Z_14.out; have := Z_21.out; have := Z_29.out; have := Z_38.out; have := Z_48.out; have := Z_59.out; have := Z_71.out; have := Z_83.out; have := Z_95.out; omega)
        have QS_99 : Hid (Boxed w12 pS 45 ro sS rn cS) := QS_87.out.onlyM hon (by have := Z_0.out; have := Z_1.out; have := Z_2.out; have := Z_3.out; have := Z_7.out; have := Z_8.out; have := Z_14.out; have := Z_21.out; have := Z_29.out; have := Z_38.out; have := Z_48.out; have := Z_59.out; have := Z_71.out; have := Z_83.out; have := Z_95.out; omega)
        have S_100 : Hid (Slice w12 w1.heap.size w2.heap.size sS rn rf) := S_88.out.onlyM hon (by have := Z_0.out; have := Z_1.out; have := Z_2.out; have := Z_3.out; have := Z_7.out; have := Z_8.out; have := Z_14.out; have := Z_21.out; have := Z_29.out; have := Z_38.out; have := Z_48.out; have := Z_59.out; have := Z_71.out; have := Z_83.out; have := Z_95.out; omega)
        have QX_101 : Hid (M5Box w12 w3.heap.size b mX n kX) := QX_90.out.onlyM hon (by have := Z_0.out; have := Z_1.out; have := Z_2.out; have := Z_3.out; have := Z_7.out; have := Z_8.out; have := Z_14.out; have := Z_21.out; have := Z_29.out; have := Z_38.out; have := Z_48.out; have := Z_59.out; have := Z_71.out; have := Z_83.out; have := Z_95.out; omega)
        have V_102 : Hid (Slice w12 v4.heap.size w5.heap.size sV n1 f1) := V_91.out.onlyM hon (by have := Z_0.out; have := Z_1.out; have := Z_2.out; have := Z_3.out; have := Z_7.out; have := Z_8.out; have := Z_14.out; have := Z_21.out; have := Z_29.out; have := Z_38.out; have := Z_48.out; have := Z_59.out; have := Z_71.out; have := Z_83.out; have := Z_95.out; omega)
        have QV_103 : Hid (Boxed w12 w5.heap.size 45 b1 sV n1 cV) := QV_92.out.onlyM hon (by have := Z_0.out; have := Z_1.out; have := Z_2.out; have := Z_3.out; have := Z_7.out; have := Z_8.out; have := Z_14.out; have := Z_21.out; have := Z_29.out; have := Z_38.out; have := Z_48.out; have := Z_59.out; have := Z_71.out; have := Z_83.out; have := Z_95.out; omega)
        have G_104 : Hid (Slice w12 v6.heap.size w7.heap.size sG rn rf) := G_93.out.onlyM hon (by have := Z_0.out; have := Z_1.out; have := Z_2.out; have := Z_3.out; have := Z_7.out; have := Z_8.out; have := Z_14.out; have := Z_21.out; have := Z_29.out; have := Z_38.out; have := Z_48.out; have := Z_59.out; have := Z_71.out; have := Z_83.out; have := Z_95.out; omega)
        have QG_105 : Hid (Boxed w12 w7.heap.size 45 ro sG rn cG) := QG_94.out.onlyM hon (by have := Z_0.out; have := Z_1.out; have := Z_2.out; have := Z_3.out; have := Z_7.out; have := Z_8.out; have := Z_14.out; have := Z_21.out; have := Z_29.out; have := Z_38.out; have := Z_48.out; have := Z_59.out; have := Z_71.out; have := Z_83.out; have := Z_95.out; omega)
        clear B_84 L_85 A_86 QS_87 S_88 QX_90 V_91 QV_92 G_93 QG_94
        clear X_89 hon
        obtain ⟨kn, hkn⟩ : ∃ kn : Int, (1 : Int) + (n 0 : Int) + (n 1 : Int) + (n 2 : Int) + (n 3 : Int) + (n 4 : Int) = kn := ⟨_, rfl⟩
        have hk9 : (0 : Int) ≤ kn ∧ kn ≤ 1099511627776 := by have g0 := HL5.out 0 (by decide); have g1 := HL5.out 1 (by decide); have g2 := HL5.out 2 (by decide); have g3 := HL5.out 3 (by decide); have g4 := HL5.out 4 (by decide); omega
        rw [hkn]
        clear hkn
        obtain ⟨cL0, cL1, cL2, cL3, cL4, cL5, cL6, cL7, cL8, cL9⟩ := L_97.out.cells
        have lL := L_97.out.lt
        obtain ⟨cA0, cA1⟩ := A_98.out.cells
        have lA := A_98.out.lt
        obtain ⟨cQS0, cQS1⟩ := QS_99.out.cells
        have lQS := QS_99.out.lt
        obtain ⟨cQX0, cQX1, cQX2, cQX3, cQX4, cQX5, cQX6, cQX7, cQX8, cQX9⟩ := QX_101.out.cells
        have lQX := QX_101.out.lt
        obtain ⟨cQV0, cQV1⟩ := QV_103.out.cells
        have lQV := QV_103.out.lt
        obtain ⟨cQG0, cQG1⟩ := QG_105.out.cells
        have lQG := QG_105.out.lt
        go_wp2_with fail
        refine (markVec_in b1 sV n1 cV v4.heap.size w5.heap.size _ kn _ hl1 (by omega) (by omega) V_102.out).mono ?_
        clear cL0 cL1 cL2 cL3 cL4 cL5 cL6 cL7 cL8 cL9 lL cA0 cA1 lA cQS0 cQS1 lQS cQX0 cQX1 cQX2 cQX3 cQX4 cQX5 cQX6 cQX7 cQX8 cQX9 lQX cQV0 cQV1 lQV cQG0 cQG1 lQG
        rintro e w13 ⟨rfl, hon, hsl⟩
        have V_m : Hid (Slice w13 v4.heap.size w5.heap.size sV n1 (fun i => (kn : Int) + (i : Int))) := hsl
        have Z_106 : Hid (w12.heap.size ≤ w13.heap.size) := hon.size
        have B_107 : Hid (Below w.heap.size w w13) := B_96.out.trans (hon.below (by have := Z_0.out; have := Z_1.out; have := Z_2.out; have := Z_3.out; have := Z_7.out; have := Z_8.out; have := Z_14.out; have := Z_21.out; have := Z_29.out; have := Z_38.out; have := Z_48.out; have := Z_59.out; have := Z_71.out; have := Z_83.out; have := Z_95.out; have := Z_106.out; omega) B_96.out.size)
        have L_108 : Hid (L5Box w13 w.heap.size b s n c) := L_97.out.only hon (by have := Z_0.out; have := Z_1.out; have := Z_2.out; have := Z_3.out; have := Z_7.out; have := Z_8.out; have := Z_14.out; have := Z_21.out; have := Z_29.out; have := Z_38.out; have := Z_48.out; have := Z_59.out; have := Z_71.out; have := Z_83.out; have := Z_95.out; have := Z_106.out; omega)
        have A_109 : Hid (Boxed w13 (w.heap.size + 1) 68 b1 sa1 n1 ca1) := A_98.out.only hon (by have := Z_0.out; have := Z_1.out; have := Z_2.out; have := Z_3.out; have := Z_7.out; have := Z_8.out; have := Z_14.out; have := Z_21.out; have := Z_29.out; have := Z_38.out; have := Z_48.out; have := Z_59.out; have := Z_71.out; have := Z_83.out; have := Z_95.out; have := Z_106.out; omega)
        have QS_110 : Hid (Boxed w13 pS 45 ro sS rn cS) := QS_99.out.only hon (by have := Z_0.out; have := Z_1.out; have := Z_2.out; have := Z_3.out; have := Z_7.out; have := Z_8.out; have := Z_14.out; have := Z_21.out; have := Z_29.out; have := Z_38.out; have := Z_48.out; have := Z_59.out; have := Z_71.out; have := Z_83.out; have := Z_95.out; have := Z_106.out; omega)
        have S_111 : Hid (Slice w13 w1.heap.size w2.heap.size sS rn rf) := S_100.out.only hon (by have := Z_0.out; have := Z_1.out; have := Z_2.out; have := Z_3.out; have := Z_7.out; have := Z_8.out; have := Z_14.out; have := Z_21.out; have := Z_29.out; have := Z_38.out; have := Z_48.out; have := Z_59.out; have := Z_71.out; have := Z_83.out; have := Z_95.out; have := Z_106.out; omega)
        have QX_112 : Hid (M5Box w13 w3.heap.size b mX n kX) := QX_101.out.only hon (by have := Z_0.out; have := Z_1.out; have := Z_2.out; have := Z_3.out; have := Z_7.out; have := Z_8.out; have := Z_14.out; have := Z_21.out; have := Z_29.out; have := Z_38.out; have := Z_48.out; have := Z_59.out; have := Z_71.out; have := Z_83.out; have := Z_95.out; have := Z_106.out; omega)
        have QV_113 : Hid (Boxed w13 w5.heap.size 45 b1 sV n1 cV) := QV_103.out.only hon (by have := Z_0.out; have := Z_1.out; have := Z_2.out; have := Z_3.out; have := Z_7.out; have := Z_8.out; have := Z_14.out; have := Z_21.out; have := Z_29.out; have := Z_38.out; have := Z_48.out; have := Z_59.out; have := Z_71.out; have := Z_83.out; have := Z_95.out; have := Z_106.out; omega)
        have G_114 : Hid (Slice w13 v6.heap.size w7.heap.size sG rn rf) := G_104.out.only hon (by have := Z_0.out; have := Z_1.out; have := Z_2.out; have := Z_3.out; have := Z_7.out; have := Z_8.out; have := Z_14.out; have := Z_21.out; have := Z_29.out; have := Z_38.out; have := Z_48.out; have := Z_59.out; have := Z_71.out; have := Z_83.out; have := Z_95.out; have := Z_106.out; omega)
        have QG_115 : Hid (Boxed w13 w7.heap.size 45 ro sG rn cG) := QG_105.out.only hon (by have := Z_0.out; have := Z_1.out; have := Z_2.out; have := Z_3.out; have := Z_7.out; have := Z_8.out; have := Z_14.out; have := Z_21.out; have := Z_29.out; have := Z_38.out; have := Z_48.out; have := Z_59.out; have := Z_71.out; have := Z_83.out; have := Z_95.out; have := Z_106.out; omega)
        clear B_96 L_97 A_98 QS_99 S_100 QX_101 QV_103 G_104 QG_105
        clear V_102 hon hsl
        have hkc : ¬ (kn + (n1 : Int)) < 0 := by omega
        obtain ⟨cL0, cL1, cL2, cL3, cL4, cL5, cL6, cL7, cL8, cL9⟩ := L_108.out.cells
        have lL := L_108.out.lt
        obtain ⟨cA0, cA1⟩ := A_109.out.cells
        have lA := A_109.out.lt
        obtain ⟨cQS0, cQS1⟩ := QS_110.out.cells
        have lQS := QS_110.out.lt
        obtain ⟨cQX0, cQX1, cQX2, cQX3, cQX4, cQX5, cQX6, cQX7, cQX8, cQX9⟩ := QX_112.out.cells
        have lQX := QX_112.out.lt
        obtain ⟨cQV0, cQV1⟩ := QV_113.out.cells
        have lQV := QV_113.out.lt
        obtain ⟨cQG0, cQG1⟩ := QG_115.out.cells
        have lQG := QG_115.out.lt
        go_wp2_with fail
        refine (eqVec_same ro sG sS rn cG cS rf _ hrn G_114.out.row S_111.out.row).mono ?_
        clear cL0 cL1 cL2 cL3 cL4 cL5 cL6 cL7 cL8 cL9 lL cA0 cA1 lA cQS0 cQS1 lQS cQX0 cQX1 cQX2 cQX3 cQX4 cQX5 cQX6 cQX7 cQX8 cQX9 lQX cQV0 cQV1 lQV cQG0 cQG1 lQG
        rintro e w14 ⟨rfl, hb⟩
        have Z_116 : Hid (w13.heap.size ≤ w14.heap.size) := hb.size
        have B_117 : Hid (Below w.heap.size w w14) := B_107.out.trans (hb.mono B_107.out.size)
        have L_118 : Hid (L5Box w14 w.heap.size b s n c) := L_108.out.kept hb rfl
        have A_119 : Hid (Boxed w14 (w.heap.size + 1) 68 b1 sa1 n1 ca1) := A_109.out.kept hb rfl
        have QS_120 : Hid (Boxed w14 pS 45 ro sS rn cS) := QS_110.out.kept hb rfl
        have S_121 : Hid (Slice w14 w1.heap.size w2.heap.size sS rn rf) := S_111.out.kept hb rfl
        have QX_122 : Hid (M5Box w14 w3.heap.size b mX n kX) := QX_112.out.kept hb rfl
        have V_123 : Hid (Slice w14 v4.heap.size w5.heap.size sV n1 (fun i => (kn : Int) + (i : Int))) := V_m.out.kept hb rfl
        have QV_124 : Hid (Boxed w14 w5.heap.size 45 b1 sV n1 cV) := QV_113.out.kept hb rfl
        have G_125 : Hid (Slice w14 v6.heap.size w7.heap.size sG rn rf) := G_114.out.kept hb rfl
        have QG_126 : Hid (Boxed w14 w7.heap.size 45 ro sG rn cG) := QG_115.out.kept hb rfl
        clear B_107 L_108 A_109 QS_110 S_111 QX_112 V_m QV_113 G_114 QG_115
        clear hb
        obtain ⟨cL0, cL1, cL2, cL3, cL4, cL5, cL6, cL7, cL8, cL9⟩ := L_118.out.cells
        have lL := L_118.out.lt
        obtain ⟨cA0, cA1⟩ := A_119.out.cells
        have lA := A_119.out.lt
        obtain ⟨cQS0, cQS1⟩ := QS_120.out.cells
        have lQS := QS_120.out.lt
        obtain ⟨cQX0, cQX1, cQX2, cQX3, cQX4, cQX5, cQX6, cQX7, cQX8, cQX9⟩ := QX_122.out.cells
        have lQX := QX_122.out.lt
        obtain ⟨cQV0, cQV1⟩ := QV_124.out.cells
        have lQV := QV_124.out.lt
        obtain ⟨cQG0, cQG1⟩ := QG_126.out.cells
        have lQG := QG_126.out.lt
        go_wp2_with fail
        refine (markVec_in ro sG rn cG v6.heap.size w7.heap.size _ 1 _ hrn (by omega) (by omega) G_125.out).mono ?_
        clear cL0 cL1 cL2 cL3 cL4 cL5 cL6 cL7 cL8 cL9 lL cA0 cA1 lA cQS0 cQS1 lQS cQX0 cQX1 cQX2 cQX3 cQX4 cQX5 cQX6 cQX7 cQX8 cQX9 lQX cQV0 cQV1 lQV cQG0 cQG1 lQG
        rintro e w15 ⟨rfl, hon, hsl⟩
        have G_m : Hid (Slice w15 v6.heap.size w7.heap.size sG rn (fun i => (1 : Int) + (i : Int))) := hsl
        have Z_127 : Hid (w14.heap.size ≤ w15.heap.size) := hon.size
        have B_128 : Hid (Below w.heap.size w w15) := B_117.out.trans (hon.below (by have := Z_0.out; have := Z_1.out; have := Z_2.out; have := Z_3.out; have := Z_7.out; have := Z_8.out; have := Z_14.out; have := Z_21.out; have := Z_29.out; have := Z_38.out; have := Z_48.out; have := Z_59.out; have := Z_71.out; have := Z_83.out; have := Z_95.out; have := Z_106.out; have := Z_116.out; have := Z_127.out; omega) B_117.out.size)
        have L_129 : Hid (L5Box w15 w.heap.size b s n c) := L_118.out.only hon (by have := Z_0.out; have := Z_1.out; have := Z_2.out; have := Z_3.out; have := Z_7.out; have := Z_8.out; have := Z_14.out; have := Z_21.out; have := Z_29.out; have := Z_38.out; have := Z_48.out; have := Z_59.out; have := Z_71.out; have := Z_83.out; have := Z_95.out; have := Z_106.out; have := Z_116.out; have := Z_127.out; omega)
        have A_130 : Hid (Boxed w15 (w.heap.size + 1) 68 b1 sa1 n1 ca1) := A_119.out.only hon (by have := Z_0.out; have := Z_1.out; have := Z_2.out; have := Z_3.out; have := Z_7.out; have := Z_8.out; have := Z_14.out; have := Z_21.out; have := Z_29.out; have := Z_38.out; have := Z_48.out; have := Z_59.out; have := Z_71.out; have := Z_83.out; have := Z_95.out; have := Z_106.out; have := Z_116.out; have := Z_127.out; omega)
        have QS_131 : Hid (Boxed w15 pS 45 ro sS rn cS) := QS_120.out.only hon (by have := Z_0.out; have := Z_1.out; have := Z_2.out; have := Z_3.out; have := Z_7.out; have := Z_8.out; have := Z_14.out; have := Z_21.out; have := Z_29.out; have := Z_38.out; have := Z_48.out; have := Z_59.out; have := Z_71.out; have := Z_83.out; have := Z_95.out; have := Z_106.out; have := Z_116.out; have := Z_127.out; omega)
        have S_132 : Hid (Slice w15 w1.heap.size w2.heap.size sS rn rf) := S_121.out.only hon (by have := Z_0.out; have := Z_1.out; have := Z_2.out; have := Z_3.out; have := Z_7.out; have := Z_8.out; have := Z_14.out; have := Z_21.out; have := Z_29.out; have := Z_38.out; have := Z_48.out; have := Z_59.out; have := Z_71.out; have := Z_83.out; have := Z_95.out; have := Z_106.out; have := Z_116.out; have := Z_127.out; omega)
        have QX_133 : Hid (M5Box w15 w3.heap.size b mX n kX) := QX_122.out.only hon (by have := Z_0.out; have := Z_1.out; have := Z_2.out; have := Z_3.out; have := Z_7.out; have := Z_8.out; have := Z_14.out; have := Z_21.out; have := Z_29.out; have := Z_38.out; have := Z_48.out; have := Z_59.out; have := Z_71.out; have := Z_83.out; have := Z_95.out; have := Z_106.out; have := Z_116.out; have := Z_127.out; omega)
        have V_134 : Hid (Slice w15 v4.heap.size w5.heap.size sV n1 (fun i => (kn : Int) + (i : Int))) := V_123.out.only hon (by have := Z_0.out; have := Z_1.out; have := Z_2.out; have := Z_3.out; have := Z_7.out; have := Z_8.out; have := Z_14.out; have := Z_21.out; have := Z_29.out; have := Z_38.out; have := Z_48.out; have := Z_59.out; have := Z_71.out; have := Z_83.out; have := Z_95.out; have := Z_106.out; have := Z_116.out; have := Z_127.out; omega)
        have QV_135 : Hid (Boxed w15 w5.heap.size 45 b1 sV n1 cV) := QV_124.out.only hon (by have := Z_0.out; have := Z_1.out; have := Z_2.out; have := Z_3.out; have := Z_7.out; have := Z_8.out; have := Z_14.out; have := Z_21.out; have := Z_29.out; have := Z_38.out; have := Z_48.out; have := Z_59.out; have := Z_71.out; have := Z_83.out; have := Z_95.out; have := Z_106.out; have := Z_116.out; have := Z_127.out; omega)
        have QG_136 : Hid (Boxed w15 w7.heap.size 45 ro sG rn cG) := QG_126.out.only hon (by have := Z_0.out; have := Z_1.out; have := Z_2.out; have := Z_3.out; have := Z_7.out; have := Z_8.out; have := Z_14.out; have := Z_21.out; have := Z_29.out; have := Z_38.out; have := Z_48.out; have := Z_59.out; have := Z_71.out; have := Z_83.out; have := Z_95.out; have := Z_106.out; have := Z_116.out; have := Z_127.out; omega)
        clear B_117 L_118 A_119 QS_120 S_121 QX_122 V_123 QV_124 QG_126
        clear G_125 hon hsl
        obtain ⟨cL0, cL1, cL2, cL3, cL4, cL5, cL6, cL7, cL8, cL9⟩ := L_129.out.cells
        have lL := L_129.out.lt
        obtain ⟨cA0, cA1⟩ := A_130.out.cells
        have lA := A_130.out.lt
        obtain ⟨cQS0, cQS1⟩ := QS_131.out.cells
        have lQS := QS_131.out.lt
        obtain ⟨cQX0, cQX1, cQX2, cQX3, cQX4, cQX5, cQX6, cQX7, cQX8, cQX9⟩ := QX_133.out.cells
        have lQX := QX_133.out.lt
        obtain ⟨cQV0, cQV1⟩ := QV_135.out.cells
        have lQV := QV_135.out.lt
        obtain ⟨cQG0, cQG1⟩ := QG_136.out.cells
        have lQG := QG_136.out.lt
        go_wp2_with fail
        refine (heldVec_any ro sG rn cG 1 _ hrn (by omega) (by omega) G_m.out.row).mono ?_
        clear cL0 cL1 cL2 cL3 cL4 cL5 cL6 cL7 cL8 cL9 lL cA0 cA1 lA cQS0 cQS1 lQS cQX0 cQX1 cQX2 cQX3 cQX4 cQX5 cQX6 cQX7 cQX8 cQX9 lQX cQV0 cQV1 lQV cQG0 cQG1 lQG
        rintro e w16 ⟨rfl, hb⟩
        have Z_137 : Hid (w15.heap.size ≤ w16.heap.size) := hb.size
        have B_138 : Hid (Below w.heap.size w w16) := B_128.out.trans (hb.mono B_128.out.size)
        have L_139 : Hid (L5Box w16 w.heap.size b s n c) := L_129.out.kept hb rfl
        have A_140 : Hid (Boxed w16 (w.heap.size + 1) 68 b1 sa1 n1 ca1) := A_130.out.kept hb rfl
        have QS_141 : Hid (Boxed w16 pS 45 ro sS rn cS) := QS_131.out.kept hb rfl
        have S_142 : Hid (Slice w16 w1.heap.size w2.heap.size sS rn rf) := S_132.out.kept hb rfl
        have QX_143 : Hid (M5Box w16 w3.heap.size b mX n kX) := QX_133.out.kept hb rfl
        have V_144 : Hid (Slice w16 v4.heap.size w5.heap.size sV n1 (fun i => (kn : Int) + (i : Int))) := V_134.out.kept hb rfl
        have QV_145 : Hid (Boxed w16 w5.heap.size 45 b1 sV n1 cV) := QV_135.out.kept hb rfl
        have G_146 : Hid (Slice w16 v6.heap.size w7.heap.size sG rn (fun i => (1 : Int) + (i : Int))) := G_m.out.kept hb rfl
        have QG_147 : Hid (Boxed w16 w7.heap.size 45 ro sG rn cG) := QG_136.out.kept hb rfl
        clear B_128 L_129 A_130 QS_131 S_132 QX_133 V_134 QV_135 G_m QG_136
        clear hb
        have hk2 : ¬ ((1 : Int) + (rn : Int)) < 0 := by omega
        have RC : Hid (M5Row w16 s n F) := HR.out.since ⟨B_138.out⟩
        have RV : Hid (Row w16 w16.heap.size sa1 n1 f1) := row_since HR1.out ⟨B_138.out⟩
        go_upto_region 31 with fail
        go_cut [13] (fun pv wc => CutP w16 45 ro rn rf pv wc)
        case first =>
          obtain ⟨cL0, cL1, cL2, cL3, cL4, cL5, cL6, cL7, cL8, cL9⟩ := L_139.out.cells
          have lL := L_139.out.lt
          obtain ⟨cA0, cA1⟩ := A_140.out.cells
          have lA := A_140.out.lt
          obtain ⟨cQS0, cQS1⟩ := QS_141.out.cells
          have lQS := QS_141.out.lt
          obtain ⟨cQX0, cQX1, cQX2, cQX3, cQX4, cQX5, cQX6, cQX7, cQX8, cQX9⟩ := QX_143.out.cells
          have lQX := QX_143.out.lt
          obtain ⟨cQV0, cQV1⟩ := QV_145.out.cells
          have lQV := QV_145.out.lt
          obtain ⟨cQG0, cQG1⟩ := QG_147.out.cells
          have lQG := QG_147.out.lt
          go_region_with (first
            | (go_at_call 53; refine (toMasks5_any b s n c F _ HL5.out (RC.out.since (by first | assumption | exact since_drew (since_refl _) | exact since_alloc (since_drew (since_refl _)) | exact since_alloc (by assumption)))).mono ?_; rintro e w' ⟨m0, k0, h0, rfl, hb, hsl0, _, _⟩; (try (have hbx : Boxed w' _ 45 0 none 0 0 := Boxed.kept (by first | assumption | exact heap_alloc_new _ _) hb rfl; obtain ⟨d0, d1, d2, d3⟩ := hbx.four)); have hS : Since w16 w' := (by refine since_call ?_ hb; first | assumption | exact since_drew (since_refl _) | exact since_alloc (since_drew (since_refl _)) | exact since_alloc (by assumption)); have HCR : Hid (∀ X, Since w' X → M5Row X m0 n F) := (fun X hX => hsl0.row.since hX); clear hsl0; obtain ⟨cL0, cL1, cL2, cL3, cL4, cL5, cL6, cL7, cL8, cL9⟩ := (L_139.out.since hS).cells; have lL := (L_139.out.since hS).lt; obtain ⟨cA0, cA1⟩ := (A_140.out.since hS).cells; have lA := (A_140.out.since hS).lt; obtain ⟨cQS0, cQS1⟩ := (QS_141.out.since hS).cells; have lQS := (QS_141.out.since hS).lt; obtain ⟨cQX0, cQX1, cQX2, cQX3, cQX4, cQX5, cQX6, cQX7, cQX8, cQX9⟩ := (QX_143.out.since hS).cells; have lQX := (QX_143.out.since hS).lt; obtain ⟨cQV0, cQV1⟩ := (QV_145.out.since hS).cells; have lQV := (QV_145.out.since hS).lt; obtain ⟨cQG0, cQG1⟩ := (QG_147.out.since hS).cells; have lQG := (QG_147.out.since hS).lt)
            | (go_at_call 54; refine (toVec_any b1 sa1 n1 ca1 f1 _ hl1 (row_since RV.out (by first | assumption | exact since_drew (since_refl _) | exact since_alloc (since_drew (since_refl _)) | exact since_alloc (by assumption)))).mono ?_; rintro e w'' ⟨s0, c0, rfl, hb, ho⟩; (try (have hbx : Boxed w'' _ 45 0 none 0 0 := Boxed.kept (by first | assumption | exact heap_alloc_new _ _) hb rfl; obtain ⟨d0, d1, d2, d3⟩ := hbx.four)); have hS2 : Since w' w'' := (by refine since_call ?_ hb; first | exact since_refl _ | exact since_alloc (since_refl _)); have hS3 : Since w16 w'' := (since_call hS hS2.below); have HVR : Hid (∀ X, Since w'' X → Row X X.heap.size s0 n1 f1) := (fun X hX => ownS_since ho hX); have HCR2 : Hid (∀ X, Since w'' X → M5Row X m0 n F) := (fun X hX => HCR.out X (since_call hS2 hX.below)); clear ho; obtain ⟨cL0, cL1, cL2, cL3, cL4, cL5, cL6, cL7, cL8, cL9⟩ := (L_139.out.since hS3).cells; have lL := (L_139.out.since hS3).lt; obtain ⟨cA0, cA1⟩ := (A_140.out.since hS3).cells; have lA := (A_140.out.since hS3).lt; obtain ⟨cQS0, cQS1⟩ := (QS_141.out.since hS3).cells; have lQS := (QS_141.out.since hS3).lt; obtain ⟨cQX0, cQX1, cQX2, cQX3, cQX4, cQX5, cQX6, cQX7, cQX8, cQX9⟩ := (QX_143.out.since hS3).cells; have lQX := (QX_143.out.since hS3).lt; obtain ⟨cQV0, cQV1⟩ := (QV_145.out.since hS3).cells; have lQV := (QV_145.out.since hS3).lt; obtain ⟨cQG0, cQG1⟩ := (QG_147.out.since hS3).cells; have lQG := (QG_147.out.since hS3).lt; unfold vecV)
            | (go_at_call 35; refine (HI.out _ _ _ _ _ (HCR2.out _ (by first | exact since_refl _ | exact since_alloc (since_refl _))) (HVR.out _ (by first | exact since_refl _ | exact since_alloc (since_refl _)))).mono ?_; rintro e w3' ⟨sx, cx, rfl, hb, ho⟩; (try (have hbx : Boxed w3' _ 45 0 none 0 0 := Boxed.kept (by first | assumption | exact heap_alloc_new _ _) hb rfl; obtain ⟨d0, d1, d2, d3⟩ := hbx.four)); have hS4 : Since w16 w3' := (by refine since_call ?_ hb; first | exact hS3 | exact since_alloc hS3); unfold vecV))
          all_goals
            go_wp2_with fail
            go_meet
            case rel => first
              | exact cut_late hS4 (by first | exact Since.size hS3 | exact Since.size (since_alloc hS3)) ho
              | exact cut_early hS4 (by assumption) (by first | exact Nat.le_refl _ | exact Since.size (by assumption)) (by first | exact Boxed.lt (by assumption) | simp) ho
        case rest =>
          obtain ⟨pH, sH, cH, rfl, hS, hp1, hp2, hx, hsl⟩ := hcut
          obtain ⟨w17, hw17⟩ : ∃ y, y = wc := ⟨_, rfl⟩
          rw [← hw17] at hS hp2 hx hsl ⊢
          clear hw17
          have Z_148 : Hid (w16.heap.size ≤ pH ∧ pH < w17.heap.size) := ⟨hp1, hp2⟩
          have Z_149 : Hid (w16.heap.size ≤ w17.heap.size) := hS.size
          have B_150 : Hid (Below w.heap.size w w17) := B_138.out.trans (hS.below.mono B_138.out.size)
          have L_151 : Hid (L5Box w17 w.heap.size b s n c) := L_139.out.kept hS.below rfl
          have A_152 : Hid (Boxed w17 (w.heap.size + 1) 68 b1 sa1 n1 ca1) := A_140.out.kept hS.below rfl
          have QS_153 : Hid (Boxed w17 pS 45 ro sS rn cS) := QS_141.out.kept hS.below rfl
          have S_154 : Hid (Slice w17 w1.heap.size w2.heap.size sS rn rf) := S_142.out.kept hS.below rfl
          have QX_155 : Hid (M5Box w17 w3.heap.size b mX n kX) := QX_143.out.kept hS.below rfl
          have V_156 : Hid (Slice w17 v4.heap.size w5.heap.size sV n1 (fun i => (kn : Int) + (i : Int))) := V_144.out.kept hS.below rfl
          have QV_157 : Hid (Boxed w17 w5.heap.size 45 b1 sV n1 cV) := QV_145.out.kept hS.below rfl
          have G_158 : Hid (Slice w17 v6.heap.size w7.heap.size sG rn (fun i => (1 : Int) + (i : Int))) := G_146.out.kept hS.below rfl
          have QG_159 : Hid (Boxed w17 w7.heap.size 45 ro sG rn cG) := QG_147.out.kept hS.below rfl
          clear B_138 L_139 A_140 QS_141 S_142 QX_143 V_144 QV_145 G_146 QG_147
          have QH_n : Hid (Boxed w17 pH 45 ro sH rn cH) := hx
          have H_n : Hid (Slice w17 w16.heap.size w17.heap.size sH rn rf) := hsl
          clear hS hp1 hp2 hx hsl RC RV
          obtain ⟨cL0, cL1, cL2, cL3, cL4, cL5, cL6, cL7, cL8, cL9⟩ := L_151.out.cells
          have lL := L_151.out.lt
          obtain ⟨cA0, cA1⟩ := A_152.out.cells
          have lA := A_152.out.lt
          obtain ⟨cQS0, cQS1⟩ := QS_153.out.cells
          have lQS := QS_153.out.lt
          obtain ⟨cQX0, cQX1, cQX2, cQX3, cQX4, cQX5, cQX6, cQX7, cQX8, cQX9⟩ := QX_155.out.cells
          have lQX := QX_155.out.lt
          obtain ⟨cQV0, cQV1⟩ := QV_157.out.cells
          have lQV := QV_157.out.lt
          obtain ⟨cQG0, cQG1⟩ := QG_159.out.cells
          have lQG := QG_159.out.lt
          obtain ⟨cQH0, cQH1⟩ := QH_n.out.cells
          have lQH := QH_n.out.lt
          go_wp2_with fail
          refine (eqVec_same ro sH sS rn cH cS rf _ hrn H_n.out.row S_154.out.row).mono ?_
          clear cL0 cL1 cL2 cL3 cL4 cL5 cL6 cL7 cL8 cL9 lL cA0 cA1 lA cQS0 cQS1 lQS cQX0 cQX1 cQX2 cQX3 cQX4 cQX5 cQX6 cQX7 cQX8 cQX9 lQX cQV0 cQV1 lQV cQG0 cQG1 lQG cQH0 cQH1 lQH
          rintro e w18 ⟨rfl, hb⟩
          have Z_160 : Hid (w17.heap.size ≤ w18.heap.size) := hb.size
          have B_161 : Hid (Below w.heap.size w w18) := B_150.out.trans (hb.mono B_150.out.size)
          have L_162 : Hid (L5Box w18 w.heap.size b s n c) := L_151.out.kept hb rfl
          have A_163 : Hid (Boxed w18 (w.heap.size + 1) 68 b1 sa1 n1 ca1) := A_152.out.kept hb rfl
          have QS_164 : Hid (Boxed w18 pS 45 ro sS rn cS) := QS_153.out.kept hb rfl
          have S_165 : Hid (Slice w18 w1.heap.size w2.heap.size sS rn rf) := S_154.out.kept hb rfl
          have QX_166 : Hid (M5Box w18 w3.heap.size b mX n kX) := QX_155.out.kept hb rfl
          have V_167 : Hid (Slice w18 v4.heap.size w5.heap.size sV n1 (fun i => (kn : Int) + (i : Int))) := V_156.out.kept hb rfl
          have QV_168 : Hid (Boxed w18 w5.heap.size 45 b1 sV n1 cV) := QV_157.out.kept hb rfl
          have G_169 : Hid (Slice w18 v6.heap.size w7.heap.size sG rn (fun i => (1 : Int) + (i : Int))) := G_158.out.kept hb rfl
          have QG_170 : Hid (Boxed w18 w7.heap.size 45 ro sG rn cG) := QG_159.out.kept hb rfl
          have QH_171 : Hid (Boxed w18 pH 45 ro sH rn cH) := QH_n.out.kept hb rfl
          have H_172 : Hid (Slice w18 w16.heap.size w17.heap.size sH rn rf) := H_n.out.kept hb rfl
          clear B_150 L_151 A_152 QS_153 S_154 QX_155 V_156 QV_157 G_158 QG_159 QH_n H_n
          clear hb
          obtain ⟨cL0, cL1, cL2, cL3, cL4, cL5, cL6, cL7, cL8, cL9⟩ := L_162.out.cells
          have lL := L_162.out.lt
          obtain ⟨cA0, cA1⟩ := A_163.out.cells
          have lA := A_163.out.lt
          obtain ⟨cQS0, cQS1⟩ := QS_164.out.cells
          have lQS := QS_164.out.lt
          obtain ⟨cQX0, cQX1, cQX2, cQX3, cQX4, cQX5, cQX6, cQX7, cQX8, cQX9⟩ := QX_166.out.cells
          have lQX := QX_166.out.lt
          obtain ⟨cQV0, cQV1⟩ := QV_168.out.cells
          have lQV := QV_168.out.lt
          obtain ⟨cQG0, cQG1⟩ := QG_170.out.cells
          have lQG := QG_170.out.lt
          obtain ⟨cQH0, cQH1⟩ := QH_171.out.cells
          have lQH := QH_171.out.lt
          go_wp2_with fail
          refine (heldVec_any ro sG rn cG 1 _ hrn (by omega) (by omega) G_169.out.row).mono ?_
          clear cL0 cL1 cL2 cL3 cL4 cL5 cL6 cL7 cL8 cL9 lL cA0 cA1 lA cQS0 cQS1 lQS cQX0 cQX1 cQX2 cQX3 cQX4 cQX5 cQX6 cQX7 cQX8 cQX9 lQX cQV0 cQV1 lQV cQG0 cQG1 lQG cQH0 cQH1 lQH
          rintro e w19 ⟨rfl, hb⟩
          have Z_173 : Hid (w18.heap.size ≤ w19.heap.size) := hb.size
          have B_174 : Hid (Below w.heap.size w w19) := B_161.out.trans (hb.mono B_161.out.size)
          have L_175 : Hid (L5Box w19 w.heap.size b s n c) := L_162.out.kept hb rfl
          have A_176 : Hid (Boxed w19 (w.heap.size + 1) 68 b1 sa1 n1 ca1) := A_163.out.kept hb rfl
          have QS_177 : Hid (Boxed w19 pS 45 ro sS rn cS) := QS_164.out.kept hb rfl
          have S_178 : Hid (Slice w19 w1.heap.size w2.heap.size sS rn rf) := S_165.out.kept hb rfl
          have QX_179 : Hid (M5Box w19 w3.heap.size b mX n kX) := QX_166.out.kept hb rfl
          have V_180 : Hid (Slice w19 v4.heap.size w5.heap.size sV n1 (fun i => (kn : Int) + (i : Int))) := V_167.out.kept hb rfl
          have QV_181 : Hid (Boxed w19 w5.heap.size 45 b1 sV n1 cV) := QV_168.out.kept hb rfl
          have G_182 : Hid (Slice w19 v6.heap.size w7.heap.size sG rn (fun i => (1 : Int) + (i : Int))) := G_169.out.kept hb rfl
          have QG_183 : Hid (Boxed w19 w7.heap.size 45 ro sG rn cG) := QG_170.out.kept hb rfl
          have QH_184 : Hid (Boxed w19 pH 45 ro sH rn cH) := QH_171.out.kept hb rfl
          have H_185 : Hid (Slice w19 w16.heap.size w17.heap.size sH rn rf) := H_172.out.kept hb rfl
          clear B_161 L_162 A_163 QS_164 S_165 QX_166 V_167 QV_168 G_169 QG_170 QH_171 H_172
          clear hb
          obtain ⟨cL0, cL1, cL2, cL3, cL4, cL5, cL6, cL7, cL8, cL9⟩ := L_175.out.cells
          have lL := L_175.out.lt
          obtain ⟨cA0, cA1⟩ := A_176.out.cells
          have lA := A_176.out.lt
          obtain ⟨cQS0, cQS1⟩ := QS_177.out.cells
          have lQS := QS_177.out.lt
          obtain ⟨cQX0, cQX1, cQX2, cQX3, cQX4, cQX5, cQX6, cQX7, cQX8, cQX9⟩ := QX_179.out.cells
          have lQX := QX_179.out.lt
          obtain ⟨cQV0, cQV1⟩ := QV_181.out.cells
          have lQV := QV_181.out.lt
          obtain ⟨cQG0, cQG1⟩ := QG_183.out.cells
          have lQG := QG_183.out.lt
          obtain ⟨cQH0, cQH1⟩ := QH_184.out.cells
          have lQH := QH_184.out.lt
          go_wp2_with fail
          go_ret
          exact ⟨rfl, B_174.out⟩
end Go.Proofs.Ytlgnplnmcdjbiaa
