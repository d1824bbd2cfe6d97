/- What is proved here: the law of VecLow walks to true, where the specification's function and the program's hand back the same; nothing that was there turns. -/
import Derived.Test.YtcmnmlginoojkagDoorVecS
import Derived.Test.YtcmnmlginoojkagDoorTzW
import Derived.Deep.RegionWith
import Derived.Deep.DeepCutAuto
namespace Go.Proofs.YtcmnmlginoojkagDoor
open Go.RowKit

set_option maxRecDepth 100000 in
set_option maxHeartbeats 8000000 in
theorem law_VecLow (b0 : Int) (sa0 : Option Addr) (n0 ca0 : Nat) (f0 : Nat → Int) (r : Int) (w : World) (hm0 : n0 ≤ maxLen) (hr0 : Row w w.heap.size sa0 n0 f0) (hT : Tab w) (hp0 : 0 < w.heap.size)
    (hs : n0 ≤ 1048576 → ∀ (W : World) (x0 : Option Addr) (k0 : Nat), Row W W.heap.size x0 n0 f0 → Calls Tryd.prog 5 #[.agg #[.int .i64 b0, .slice x0 n0 k0]] W fun e W' => e = .returned (.int .i64 r) ∧ Below W.heap.size W W')
    (hi : n0 ≤ 1048576 → ∀ (W : World) (x0 : Option Addr) (k0 : Nat), Row W W.heap.size x0 n0 f0 → Tab W → 0 < W.heap.size → Calls Tryd.prog 7 #[.agg #[.int .i64 b0, .slice x0 n0 k0]] W fun e W' => e = .returned (.int .i64 r) ∧ Below W.heap.size W W') :
    Calls Tryd.prog 3 #[.agg #[.int .i64 b0, .slice sa0 n0 ca0]] w fun e w' => e = .returned (.bool true) ∧ Below w.heap.size w w' := by
  have HR0 : Hid (Row w w.heap.size sa0 n0 f0) := hr0
  clear hr0
  have HT : Hid (Tab w) := hT
  clear hT
  by_cases hbig0 : (1048576 : Int) < n0
  · go_enter Tryd.func3, Tryd.ntmps3
    have hz0 : szOf n0 (1048576) = -1 := by unfold szOf; rw [if_pos (by omega)]
    have HB0 : Hid (Below w.heap.size w (w.alloc (.cells #[.int .i64 b0, .slice sa0 n0 ca0] 24))) := ((Below.refl _ _).alloc (by simp) _)
    go_wp2_with fail
    refine (szVec_any b0 sa0 n0 ca0 (1048576) _ hm0 (by omega) (by omega)).mono ?_
    rintro e w0_ ⟨rfl, hb⟩
    rw [hz0]
    have HB1 : Hid (Below w.heap.size w w0_) := HB0.out.trans (hb.mono HB0.out.size)
    go_wp2
    go_ret
    exact ⟨rfl, HB1.out⟩
  have hl0 : n0 ≤ 1048576 := by omega
  have HS : Hid (∀ (W : World) (x0 : Option Addr) (k0 : Nat), Row W W.heap.size x0 n0 f0 → Calls Tryd.prog 5 #[.agg #[.int .i64 b0, .slice x0 n0 k0]] W fun e W' => e = .returned (.int .i64 r) ∧ Below W.heap.size W W') := hs hl0
  have HI : Hid (∀ (W : World) (x0 : Option Addr) (k0 : Nat), Row W W.heap.size x0 n0 f0 → Tab W → 0 < W.heap.size → Calls Tryd.prog 7 #[.agg #[.int .i64 b0, .slice x0 n0 k0]] W fun e W' => e = .returned (.int .i64 r) ∧ Below W.heap.size W W') := hi hl0
  clear hs hi
  have hz0 : szOf n0 (1048576) = 1048576 - (n0 : Int) := by unfold szOf; rw [if_neg (by omega)]
  go_enter Tryd.func3, Tryd.ntmps3
  go_wp2_with fail
  have B_0 : Hid (Below w.heap.size w w) := Below.refl _ _
  have hq := boxing w 24 b0 sa0 n0 ca0
  generalize w.alloc (.cells #[.int .i64 b0, .slice sa0 n0 ca0] 24) = v1 at *
  obtain ⟨hb, hx, hz⟩ := hq
  have Z_1 : Hid (v1.heap.size = w.heap.size + 1) := hz
  have B_2 : Hid (Below w.heap.size w v1) := B_0.out.trans (hb.mono B_0.out.size)
  clear B_0
  have A0_n : Hid (Boxed v1 w.heap.size 24 b0 sa0 n0 ca0) := hx
  clear hb hx hz
  refine (szVec_any b0 sa0 n0 ca0 (1048576) _ hm0 (by omega) (by omega)).mono ?_
  rintro e w2 ⟨rfl, hb⟩
  have Z_3 : Hid (v1.heap.size ≤ w2.heap.size) := hb.size
  have B_4 : Hid (Below w.heap.size w w2) := B_2.out.trans (hb.mono B_2.out.size)
  have A0_5 : Hid (Boxed w2 w.heap.size 24 b0 sa0 n0 ca0) := A0_n.out.kept hb rfl
  clear B_2 A0_n
  clear hb
  rw [hz0]
  obtain ⟨cA00, cA01⟩ := A0_5.out.cells
  have lA0 := A0_5.out.lt
  go_wp2_with fail
  refine (toVec_any b0 sa0 n0 ca0 f0 _ hl0 ((HR0.out.kept B_4.out).up B_4.out.size)).mono ?_
  clear cA00 cA01 lA0
  rintro e w3 ⟨s1, c1, rfl, hb, ho⟩
  unfold vecV
  have S1_n : Hid (Slice w3 w2.heap.size w3.heap.size s1 n0 f0) := ho.slice
  clear ho
  have Z_6 : Hid (w2.heap.size ≤ w3.heap.size) := hb.size
  have B_7 : Hid (Below w.heap.size w w3) := B_4.out.trans (hb.mono B_4.out.size)
  have A0_8 : Hid (Boxed w3 w.heap.size 24 b0 sa0 n0 ca0) := A0_5.out.kept hb rfl
  clear B_4 A0_5
  clear hb
  obtain ⟨cA00, cA01⟩ := A0_8.out.cells
  have lA0 := A0_8.out.lt
  go_wp2_with fail
  refine (HS.out _ s1 c1 S1_n.out.row).mono ?_
  clear cA00 cA01 lA0
  rintro e w4 ⟨rfl, hb⟩
  have Z_9 : Hid (w3.heap.size ≤ w4.heap.size) := hb.size
  have B_10 : Hid (Below w.heap.size w w4) := B_7.out.trans (hb.mono B_7.out.size)
  have A0_11 : Hid (Boxed w4 w.heap.size 24 b0 sa0 n0 ca0) := A0_8.out.kept hb rfl
  have S1_12 : Hid (Slice w4 w2.heap.size w3.heap.size s1 n0 f0) := S1_n.out.kept hb rfl
  clear B_7 A0_8 S1_n
  clear hb
  obtain ⟨cA00, cA01⟩ := A0_11.out.cells
  have lA0 := A0_11.out.lt
  go_wp2_with fail
  refine (toVec_any b0 sa0 n0 ca0 f0 _ hl0 ((HR0.out.kept B_10.out).up B_10.out.size)).mono ?_
  clear cA00 cA01 lA0
  rintro e w5 ⟨s2, c2, rfl, hb, ho⟩
  unfold vecV
  have S2_n : Hid (Slice w5 w4.heap.size w5.heap.size s2 n0 f0) := ho.slice
  clear ho
  have Z_13 : Hid (w4.heap.size ≤ w5.heap.size) := hb.size
  have B_14 : Hid (Below w.heap.size w w5) := B_10.out.trans (hb.mono B_10.out.size)
  have A0_15 : Hid (Boxed w5 w.heap.size 24 b0 sa0 n0 ca0) := A0_11.out.kept hb rfl
  have S1_16 : Hid (Slice w5 w2.heap.size w3.heap.size s1 n0 f0) := S1_12.out.kept hb rfl
  clear B_10 A0_11 S1_12
  clear hb
  obtain ⟨cA00, cA01⟩ := A0_15.out.cells
  have lA0 := A0_15.out.lt
  go_wp2_with fail
  clear cA00 cA01 lA0
  have hq := boxing w5 27 b0 s2 n0 c2
  generalize w5.alloc (.cells #[.int .i64 b0, .slice s2 n0 c2] 27) = v6 at *
  obtain ⟨hb, hx, hz⟩ := hq
  have Z_17 : Hid (v6.heap.size = w5.heap.size + 1) := hz
  have B_18 : Hid (Below w.heap.size w v6) := B_14.out.trans (hb.mono B_14.out.size)
  have A0_19 : Hid (Boxed v6 w.heap.size 24 b0 sa0 n0 ca0) := A0_15.out.kept hb rfl
  have S1_20 : Hid (Slice v6 w2.heap.size w3.heap.size s1 n0 f0) := S1_16.out.kept hb rfl
  have S2_21 : Hid (Slice v6 w4.heap.size w5.heap.size s2 n0 f0) := S2_n.out.kept hb rfl
  clear B_14 A0_15 S1_16 S2_n
  have X0_n : Hid (Boxed v6 w5.heap.size 27 b0 s2 n0 c2) := hx
  clear hb hx hz
  refine (HI.out _ s2 c2 S2_21.out.row (HT.out.kept B_18.out hp0) (Nat.lt_of_lt_of_le hp0 B_18.out.size)).mono ?_
  rintro e w7 ⟨rfl, hb⟩
  have Z_22 : Hid (v6.heap.size ≤ w7.heap.size) := hb.size
  have B_23 : Hid (Below w.heap.size w w7) := B_18.out.trans (hb.mono B_18.out.size)
  have A0_24 : Hid (Boxed w7 w.heap.size 24 b0 sa0 n0 ca0) := A0_19.out.kept hb rfl
  have S1_25 : Hid (Slice w7 w2.heap.size w3.heap.size s1 n0 f0) := S1_20.out.kept hb rfl
  have S2_26 : Hid (Slice w7 w4.heap.size w5.heap.size s2 n0 f0) := S2_21.out.kept hb rfl
  have X0_27 : Hid (Boxed w7 w5.heap.size 27 b0 s2 n0 c2) := X0_n.out.kept hb rfl
  clear B_18 A0_19 S1_20 S2_21 X0_n
  clear hb
  have R0 : Hid (Row w7 w7.heap.size sa0 n0 f0) := row_since HR0.out ⟨B_23.out⟩
  have RX : Hid (Row w7 w7.heap.size s2 n0 f0) := S2_26.out.row
  go_upto_region 10 with fail
  go_cut [26] (fun v wc => v = .bool false ∧ Since w7 wc)
  case first =>
    obtain ⟨cA00, cA01⟩ := A0_24.out.cells
    have lA0 := A0_24.out.lt
    obtain ⟨cX00, cX01⟩ := X0_27.out.cells
    have lX0 := X0_27.out.lt
    go_region_with (first
      | (go_at_call 6; refine (toVec_any b0 sa0 n0 ca0 f0 _ hl0 (row_since R0.out (by first | assumption | exact since_drew (since_refl _) | exact since_alloc (since_drew (since_refl _)) | exact since_alloc (by assumption)))).mono ?_; rintro e w' ⟨s, c, rfl, hb, ho⟩; have hS : Since w7 w' := (by refine since_call ?_ hb; first | assumption | exact since_drew (since_refl _) | exact since_alloc (since_drew (since_refl _)) | exact since_alloc (by assumption)); obtain ⟨cA00, cA01⟩ := (A0_24.out.since hS).cells; have lA0 := (A0_24.out.since hS).lt; obtain ⟨cX00, cX01⟩ := (X0_27.out.since hS).cells; have lX0 := (X0_27.out.since hS).lt; unfold vecV)
      | (go_at_call 8; refine (eqVec_same b0 s2 _ n0 c2 _ f0 _ hl0 (row_since RX.out (by assumption)) (ownS_since (by assumption) (since_refl _))).mono ?_; rintro e w'' ⟨rfl, hb⟩; have hS : Since w7 w'' := (by refine since_call ?_ hb; first | assumption | exact since_drew (since_refl _) | exact since_alloc (since_drew (since_refl _)) | exact since_alloc (by assumption))))
    all_goals
      go_wp2_with fail
      go_meet
      case rel => exact ⟨rfl, hS⟩
  case rest =>
    obtain ⟨rfl, hS⟩ := hcut
    obtain ⟨w8, hw8⟩ : ∃ x, x = wc := ⟨_, rfl⟩
    rw [← hw8] at hS ⊢
    clear hw8 R0 RX
    have Z_28 : Hid (w7.heap.size ≤ w8.heap.size) := hS.size
    have B_29 : Hid (Below w.heap.size w w8) := B_23.out.trans (hS.below.mono B_23.out.size)
    have A0_30 : Hid (Boxed w8 w.heap.size 24 b0 sa0 n0 ca0) := A0_24.out.kept hS.below rfl
    have S1_31 : Hid (Slice w8 w2.heap.size w3.heap.size s1 n0 f0) := S1_25.out.kept hS.below rfl
    have S2_32 : Hid (Slice w8 w4.heap.size w5.heap.size s2 n0 f0) := S2_26.out.kept hS.below rfl
    have X0_33 : Hid (Boxed w8 w5.heap.size 27 b0 s2 n0 c2) := X0_27.out.kept hS.below rfl
    clear B_23 A0_24 S1_25 S2_26 X0_27
    clear hS
    obtain ⟨cA00, cA01⟩ := A0_30.out.cells
    have lA0 := A0_30.out.lt
    obtain ⟨cX00, cX01⟩ := X0_33.out.cells
    have lX0 := X0_33.out.lt
    go_wp2
    go_ret
    exact ⟨rfl, B_29.out⟩
end Go.Proofs.YtcmnmlginoojkagDoor
