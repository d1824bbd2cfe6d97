/- What is proved here: the law FnVec walks to true at every two slices of bytes, where the table of the library lies as its initialiser lays it; nothing that was there turns. -/
import Derived.Test.YthnnenbpbkmbhaaDoorQVvLateW
import Derived.Test.YthnnenbpbkmbhaaDoorQVvEndM
import Derived.Test.YthnnenbpbkmbhaaDoorQDrawSetW
import Derived.Test.YthnnenbpbkmbhaaDoorQFourStepW
import Derived.Test.YthnnenbpbkmbhaaDoorQChainW
import Derived.Test.YthnnenbpbkmbhaaDoorQReg23W
import Derived.Test.YthnnenbpbkmbhaaDoorQPutLM
import Derived.Deep.RegionHeld3
import Derived.Deep.DeepCutAuto
namespace Go.Proofs.YthnnenbpbkmbhaaDoor
open Go.RowKit

theorem lateV_bytes {w W : World} {sa : Option Addr} {len : Nat} (h : Bytes8 w w.heap.size sa len) (hL : LateV w W) : Bytes8 W W.heap.size sa len := by
  have h1 : Bytes8 W w.heap.size sa len := h.kept (row := none) ⟨hL.below.os, hL.below.tape, hL.below.output, hL.below.size, fun k hk _ => hL.below.block k hk⟩ (fun k hk => by cases hk)
  rcases h1 with h | ⟨bb, off, zs, h1, h2, h3⟩
  · exact Or.inl h
  · exact Or.inr ⟨bb, off, zs, h1, Nat.lt_of_lt_of_le h2 hL.below.size, h3⟩
/-- A vector in its box, its numbers there. -/
structure Held (W : World) (p : Nat) (v : Vv) : Prop where
  box : Boxed W p 25 v.b v.s v.n v.c
  row : RowV W v
theorem Held.kept {W W' : World} {p : Nat} {v : Vv} (h : Held W p v) (hb : Below W.heap.size W W') : Held W' p v := ⟨h.box.kept hb rfl, h.row.kept hb⟩
theorem rowV_of {W : World} {lo : Nat} {b : Int} {so : Option Addr} {m co : Nat} {f : Nat → Int} (h : Vc W lo b so m co f) : RowV W ⟨b, so, m, co, f⟩ := ⟨by have := h.m1; show m ≤ 1048576; omega, h.row⟩
theorem one_box {W : World} {v : Vv} (h : RowV W v) : Below W.heap.size W (W.alloc (.cells #[.int .i64 v.b, .slice v.s v.n v.c] 25)) ∧ Held (W.alloc (.cells #[.int .i64 v.b, .slice v.s v.n v.c] 25)) W.heap.size v :=
  have q := boxing W 25 v.b v.s v.n v.c
  ⟨q.1, q.2.1, h.kept q.1⟩
theorem two_boxes {W : World} {v u : Vv} (h : RowV W v) (h2 : RowV W u) : Below W.heap.size W ((W.alloc (.cells #[.int .i64 v.b, .slice v.s v.n v.c] 25)).alloc (.cells #[.int .i64 u.b, .slice u.s u.n u.c] 25)) ∧ Held ((W.alloc (.cells #[.int .i64 v.b, .slice v.s v.n v.c] 25)).alloc (.cells #[.int .i64 u.b, .slice u.s u.n u.c] 25)) W.heap.size v ∧ Held ((W.alloc (.cells #[.int .i64 v.b, .slice v.s v.n v.c] 25)).alloc (.cells #[.int .i64 u.b, .slice u.s u.n u.c] 25)) (W.heap.size + 1) u := by
  have q1 := one_box h
  have z1 := (boxing W 25 v.b v.s v.n v.c).2.2
  have q2 := one_box (h2.kept q1.1)
  refine ⟨q1.1.trans (q2.1.mono (by rw [z1]; omega)), q1.2.kept q2.1, ?_⟩
  have := q2.2
  rw [z1] at this
  exact this

set_option maxRecDepth 100000 in
set_option maxHeartbeats 40000000 in
theorem law_fnVec (s1 : Option Addr) (l1 c1 : Nat) (s2 : Option Addr) (l2 c2 : Nat) (w : World) (hm1 : l1 ≤ maxLen) (hm2 : l2 ≤ maxLen) (hy1 : Bytes8 w w.heap.size s1 l1) (hy2 : Bytes8 w w.heap.size s2 l2) (hT : Tab w) (hp0 : 0 < w.heap.size) :
    Calls Tryd.prog 3 #[.slice s1 l1 c1, .slice s2 l2 c2] w fun e w' => e = .returned (.bool true) ∧ Below w.heap.size w w' := by
  unfold maxLen at hm1 hm2
  have HY1 : Hid (Bytes8 w w.heap.size s1 l1) := hy1
  have HY2 : Hid (Bytes8 w w.heap.size s2 l2) := hy2
  have L0 : Hid (LateV w w) := ⟨Below.refl _ _, hT, hp0⟩
  clear hy1 hy2 hT
  by_cases hbig1 : 1048576 < (l1 : Int)
  · go_enter Tryd.func3, Tryd.ntmps3
    go_wp2
    go_ret
    exact ⟨rfl, Below.refl _ _⟩
  by_cases hbig2 : 1048576 < (l2 : Int)
  · go_enter Tryd.func3, Tryd.ntmps3
    go_wp2
    go_ret
    exact ⟨rfl, Below.refl _ _⟩
  have hl1 : l1 ≤ 1048576 := by omega
  have hl2 : l2 ≤ 1048576 := by omega
  go_enter Tryd.func3, Tryd.ntmps3
  go_wp2_with fail
  refine (drawVecAnd_any w s1 l1 c1 hl1 HY1.out).mono ?_
  rintro e w1 ⟨b1, so1, m1, co1, f1, b2, so2, m2, co2, f2, rfl, hV1, hV2, hb1⟩
  obtain ⟨a, ha⟩ : ∃ a : Vv, a = ⟨b1, so1, m1, co1, f1⟩ := ⟨_, rfl⟩
  obtain ⟨b, hb⟩ : ∃ b : Vv, b = ⟨b2, so2, m2, co2, f2⟩ := ⟨_, rfl⟩
  have ra : RowV w1 a := by rw [ha]; exact rowV_of hV1
  have rb : RowV w1 b := by rw [hb]; exact rowV_of hV2
  have ev : Ending.returned (.tuple #[vecV b1 so1 m1 co1, vecV b2 so2 m2 co2]) = .returned (.tuple #[.agg #[.int .i64 a.b, .slice a.s a.n a.c], .agg #[.int .i64 b.b, .slice b.s b.n b.c]]) := by rw [ha, hb]; rfl
  rw [ev]
  have L1 : Hid (LateV w w1) := L0.out.step hb1
  clear hb1 hV1 hV2 ha hb ev
  obtain ⟨q1, HA, HB⟩ := two_boxes ra rb
  have L1' := L1.out.step q1
  go_wp2_with fail
  generalize (w1.alloc (.cells #[.int .i64 a.b, .slice a.s a.n a.c] 25)).alloc (.cells #[.int .i64 b.b, .slice b.s b.n b.c] 25) = v1 at *
  generalize w1.heap.size = p5 at *
  have A1 : Hid (Held v1 p5 a) := HA
  have B1 : Hid (Held v1 (p5 + 1) b) := HB
  have M1 : Hid (LateV w v1) := L1'
  clear HA HB L1' L1 q1 ra rb
  refine (drawVecSub_any v1 s2 l2 c2 hl2 (lateV_bytes HY2.out M1.out)).mono ?_
  rintro e w2 ⟨b1, so1, m1, co1, f1, b2, so2, m2, co2, f2, rfl, hV1, hV2, hb2⟩
  obtain ⟨c, hc⟩ : ∃ a : Vv, a = ⟨b1, so1, m1, co1, f1⟩ := ⟨_, rfl⟩
  obtain ⟨d, hd⟩ : ∃ b : Vv, b = ⟨b2, so2, m2, co2, f2⟩ := ⟨_, rfl⟩
  have rc : RowV w2 c := by rw [hc]; exact rowV_of hV1
  have rd : RowV w2 d := by rw [hd]; exact rowV_of hV2
  have ev : Ending.returned (.tuple #[vecV b1 so1 m1 co1, vecV b2 so2 m2 co2]) = .returned (.tuple #[.agg #[.int .i64 c.b, .slice c.s c.n c.c], .agg #[.int .i64 d.b, .slice d.s d.n d.c]]) := by rw [hc, hd]; rfl
  rw [ev]
  have L2 := M1.out.step hb2
  have A2 := A1.out.kept hb2
  have B2 := B1.out.kept hb2
  clear hb2 hV1 hV2 hc hd ev A1 B1 M1
  obtain ⟨q2, HC, HD⟩ := two_boxes rc rd
  have L2' := L2.step q2
  have A2' := A2.kept q2
  have B2' := B2.kept q2
  go_wp2_with fail
  generalize (w2.alloc (.cells #[.int .i64 c.b, .slice c.s c.n c.c] 25)).alloc (.cells #[.int .i64 d.b, .slice d.s d.n d.c] 25) = v2 at *
  generalize w2.heap.size = p7 at *
  have A3 : Hid (Held v2 p5 a) := A2'
  have B3 : Hid (Held v2 (p5 + 1) b) := B2'
  have C3 : Hid (Held v2 p7 c) := HC
  have D3 : Hid (Held v2 (p7 + 1) d) := HD
  have M3 : Hid (LateV w v2) := L2'
  clear HC HD L2' L2 q2 rc rd A2 B2 A2' B2'
  refine (drawVecSet_any v2 s1 l1 c1 hl1 (lateV_bytes HY1.out M3.out)).mono ?_
  rintro e w3 ⟨b1, so1, m1, co1, f1, ii, on, rfl, hii0, hii1, hV1, hb3⟩
  obtain ⟨v, hv⟩ : ∃ a : Vv, a = ⟨b1, so1, m1, co1, f1⟩ := ⟨_, rfl⟩
  have rv : RowV w3 v := by rw [hv]; exact rowV_of hV1
  have ev : Ending.returned (.tuple #[vecV b1 so1 m1 co1, .int .i64 ii, .bool on]) = .returned (.tuple #[.agg #[.int .i64 v.b, .slice v.s v.n v.c], .int .i64 ii, .bool on]) := by rw [hv]; rfl
  rw [ev]
  have L4 := M3.out.step hb3
  have A4 := A3.out.kept hb3
  have B4 := B3.out.kept hb3
  have C4 := C3.out.kept hb3
  have D4 := D3.out.kept hb3
  clear hb3 hV1 hv ev A3 B3 C3 D3 M3
  obtain ⟨q3, HV⟩ := one_box rv
  have L4' := L4.step q3
  have A4' := A4.kept q3
  have B4' := B4.kept q3
  have C4' := C4.kept q3
  have D4' := D4.kept q3
  go_wp2_with fail
  generalize w3.alloc (.cells #[.int .i64 v.b, .slice v.s v.n v.c] 25) = v3 at *
  generalize w3.heap.size = p9 at *
  have A5 : Hid (Held v3 p5 a) := A4'
  have B5 : Hid (Held v3 (p5 + 1) b) := B4'
  have C5 : Hid (Held v3 p7 c) := C4'
  have D5 : Hid (Held v3 (p7 + 1) d) := D4'
  have V5 : Hid (Held v3 p9 v) := HV
  have M5 : Hid (LateV w v3) := L4'
  clear HV L4' L4 q3 rv A4 B4 C4 D4 A4' B4' C4' D4'
  refine (drawVecNew_any v3 s2 l2 c2 hl2 (lateV_bytes HY2.out M5.out)).mono ?_
  rintro e w6 ⟨⟨nn, rfl⟩, hb6⟩
  have A6 : Hid (Held w6 p5 a) := A5.out.kept hb6
  have B6 : Hid (Held w6 (p5 + 1) b) := B5.out.kept hb6
  have C6 : Hid (Held w6 p7 c) := C5.out.kept hb6
  have D6 : Hid (Held w6 (p7 + 1) d) := D5.out.kept hb6
  have V6 : Hid (Held w6 p9 v) := V5.out.kept hb6
  have M6 : Hid (LateV w w6) := M5.out.step hb6
  clear hb6 A5 B5 C5 D5 V5 M5
  obtain ⟨xb, xn, xf, hxn, HX1, HX2, HX3⟩ := and_both a b
  obtain ⟨yb, yn, yf, hyn, HY3, HY4, HY5⟩ := or_both a b
  obtain ⟨zb, zn, zf, hzn, HZ1, HZ2, HZ3⟩ := xor_both a b
  obtain ⟨ub, un, uf, hun, HU1, HU2, HU3⟩ := not_both a
  go_upto_region 7 with fail
  go_cut [13, 14, 15, 16] (fun v0 v1 v2 v3 wc => Left4 ⟨w6, ⟨#[], []⟩, fun _ => undef, fun k => match k with | 0 => xb | 1 => yb | 2 => zb | _ => ub, fun k => match k with | 0 => xn | 1 => yn | 2 => zn | _ => un, fun k => match k with | 0 => xf | 1 => yf | 2 => zf | _ => uf⟩ v0 v1 v2 v3 wc)
  case first =>
    as_aux_lemma =>
      refine region_frame (fun a0 ha0 => ?_)
      have e5 : a0.tmps[5]? = some (.pointer (some ⟨p5, 0, none⟩)) := by rw [ha0]; rfl
      have e6 : a0.tmps[6]? = some (.pointer (some ⟨p5 + 1, 0, none⟩)) := by rw [ha0]; rfl
      have hsz : a0.tmps.size = 290 := by rw [ha0]; rfl
      refine wp_region_inv (by kernel_rfl) (FourI ⟨w6, a0, fun i => if i = 1 ∨ i = 4 ∨ i = 7 then .agg #[.int .i64 b.b, .slice b.s b.n b.c] else .agg #[.int .i64 a.b, .slice a.s a.n a.c], fun k => match k with | 0 => xb | 1 => yb | 2 => zb | _ => ub, fun k => match k with | 0 => xn | 1 => yn | 2 => zn | _ => un, fun k => match k with | 0 => xf | 1 => yf | 2 => zf | _ => uf⟩) (acyc_of (by kernel_rfl)) (four_start _) ?_ ?_
      · clear ha0
        intro L ac W i o ho hLi hdep hI
        have hlt : i < 19 := (Array.getElem?_eq_some_iff.1 ho).1
        have h19 : i = 0 ∨ i = 1 ∨ i = 2 ∨ i = 3 ∨ i = 4 ∨ i = 5 ∨ i = 6 ∨ i = 7 ∨ i = 8 ∨ i = 9 ∨ i = 10 ∨ i = 11 ∨ i = 12 ∨ i = 13 ∨ i = 14 ∨ i = 15 ∨ i = 16 ∨ i = 17 ∨ i = 18 := by omega
        have CX : ∀ W, Since w6 W → Calls Tryd.prog 9 #[.agg #[.int .i64 a.b, .slice a.s a.n a.c], .agg #[.int .i64 b.b, .slice b.s b.n b.c]] W fun e w' => NewVec W xb xn xf e w' := fun W hS => HX1 W (A6.out.row.kept hS.below) (B6.out.row.kept hS.below)
        have CY : ∀ W, Since w6 W → Calls Tryd.prog 10 #[.agg #[.int .i64 a.b, .slice a.s a.n a.c], .agg #[.int .i64 b.b, .slice b.s b.n b.c]] W fun e w' => NewVec W yb yn yf e w' := fun W hS => HY3 W (A6.out.row.kept hS.below) (B6.out.row.kept hS.below)
        have CZ : ∀ W, Since w6 W → Calls Tryd.prog 11 #[.agg #[.int .i64 a.b, .slice a.s a.n a.c], .agg #[.int .i64 b.b, .slice b.s b.n b.c]] W fun e w' => NewVec W zb zn zf e w' := fun W hS => HZ1 W (A6.out.row.kept hS.below) (B6.out.row.kept hS.below)
        have CU : ∀ W, Since w6 W → Calls Tryd.prog 12 #[.agg #[.int .i64 a.b, .slice a.s a.n a.c]] W fun e w' => NewVec W ub un uf e w' := fun W hS => HU1 W (A6.out.row.kept hS.below)
        clear HX1 HX2 HX3 HY3 HY4 HY5 HZ1 HZ2 HZ3 HU1 HU2 HU3 C6 D6 V6 M6 L0 HY1 HY2
        rcases h19 with rfl | rfl | rfl | rfl | rfl | rfl | rfl | rfl | rfl | rfl | rfl | rfl | rfl | rfl | rfl | rfl | rfl | rfl | rfl
        · exact step_load 0 5 p5 a.b a.s a.n a.c (by decide) (by decide) (by decide) e5 rfl A6.out.box hI rfl
        · exact step_load 1 6 (p5 + 1) b.b b.s b.n b.c (by decide) (by decide) (by decide) e6 rfl B6.out.box hI rfl
        · obtain rfl : o = _ := Option.some.inj (ho.symm.trans rfl)
          have d1 : L 0 = true := hdep ⟨0, .data⟩ (Array.mem_of_getElem? (i := 0) rfl) rfl
          have d2 : L 1 = true := hdep ⟨1, .data⟩ (Array.mem_of_getElem? (i := 1) rfl) rfl
          exact step_call2 0 0 1 _ _ _ (by decide) (by decide) (by decide) (by decide) (by decide) d1 d2 rfl rfl hsz hLi enter_and CX hI rfl
        · exact step_load 3 5 p5 a.b a.s a.n a.c (by decide) (by decide) (by decide) e5 rfl A6.out.box hI rfl
        · exact step_load 4 6 (p5 + 1) b.b b.s b.n b.c (by decide) (by decide) (by decide) e6 rfl B6.out.box hI rfl
        · obtain rfl : o = _ := Option.some.inj (ho.symm.trans rfl)
          have d1 : L 3 = true := hdep ⟨3, .data⟩ (Array.mem_of_getElem? (i := 0) rfl) rfl
          have d2 : L 4 = true := hdep ⟨4, .data⟩ (Array.mem_of_getElem? (i := 1) rfl) rfl
          exact step_call2 1 3 4 _ _ _ (by decide) (by decide) (by decide) (by decide) (by decide) d1 d2 rfl rfl hsz hLi enter_or CY hI rfl
        · exact step_load 6 5 p5 a.b a.s a.n a.c (by decide) (by decide) (by decide) e5 rfl A6.out.box hI rfl
        · exact step_load 7 6 (p5 + 1) b.b b.s b.n b.c (by decide) (by decide) (by decide) e6 rfl B6.out.box hI rfl
        · obtain rfl : o = _ := Option.some.inj (ho.symm.trans rfl)
          have d1 : L 6 = true := hdep ⟨6, .data⟩ (Array.mem_of_getElem? (i := 0) rfl) rfl
          have d2 : L 7 = true := hdep ⟨7, .data⟩ (Array.mem_of_getElem? (i := 1) rfl) rfl
          exact step_call2 2 6 7 _ _ _ (by decide) (by decide) (by decide) (by decide) (by decide) d1 d2 rfl rfl hsz hLi enter_xor CZ hI rfl
        · exact step_load 9 5 p5 a.b a.s a.n a.c (by decide) (by decide) (by decide) e5 rfl A6.out.box hI rfl
        · obtain rfl : o = _ := Option.some.inj (ho.symm.trans rfl)
          have d1 : L 9 = true := hdep ⟨9, .data⟩ (Array.mem_of_getElem? (i := 0) rfl) rfl
          exact step_call1 3 9 _ _ (by decide) (by decide) (by decide) d1 rfl hsz hLi enter_not CU hI rfl
        · exact step_alloc 0 (by decide) hLi hI rfl
        · exact step_alloc 1 (by decide) hLi hI rfl
        · exact step_alloc 2 (by decide) hLi hI rfl
        · exact step_alloc 3 (by decide) hLi hI rfl
        · obtain rfl : o = _ := Option.some.inj (ho.symm.trans rfl)
          have d1 : L 11 = true := hdep ⟨11, .data⟩ (Array.mem_of_getElem? (i := 0) rfl) rfl
          have d2 : L 2 = true := hdep ⟨2, .data⟩ (Array.mem_of_getElem? (i := 1) rfl) rfl
          exact step_store 0 (by decide) hsz hLi d1 d2 hI rfl
        · obtain rfl : o = _ := Option.some.inj (ho.symm.trans rfl)
          have d1 : L 12 = true := hdep ⟨12, .data⟩ (Array.mem_of_getElem? (i := 0) rfl) rfl
          have d2 : L 5 = true := hdep ⟨5, .data⟩ (Array.mem_of_getElem? (i := 1) rfl) rfl
          exact step_store 1 (by decide) hsz hLi d1 d2 hI rfl
        · obtain rfl : o = _ := Option.some.inj (ho.symm.trans rfl)
          have d1 : L 13 = true := hdep ⟨13, .data⟩ (Array.mem_of_getElem? (i := 0) rfl) rfl
          have d2 : L 8 = true := hdep ⟨8, .data⟩ (Array.mem_of_getElem? (i := 1) rfl) rfl
          exact step_store 2 (by decide) hsz hLi d1 d2 hI rfl
        · obtain rfl : o = _ := Option.some.inj (ho.symm.trans rfl)
          have d1 : L 14 = true := hdep ⟨14, .data⟩ (Array.mem_of_getElem? (i := 0) rfl) rfl
          have d2 : L 10 = true := hdep ⟨10, .data⟩ (Array.mem_of_getElem? (i := 1) rfl) rfl
          exact step_store 3 (by decide) hsz hLi d1 d2 hI rfl
      · intro L ac W hall hI
        obtain ⟨V, p, sx, cx, g, rfl, m⟩ := hI
        have hL := four_end m (fun i hi => hall i hi)
        subst ha0
        simp only [putL, slots4, Act.put, List.setIfInBounds_toArray, List.set_cons_zero, List.set_cons_succ]
        go_wp2_with fail
        go_meet
        exact hL
  case rest =>
    as_aux_lemma =>
      obtain ⟨p, sx, cx, rfl, rfl, rfl, rfl, hS, h4⟩ := hcut
      obtain ⟨px, hpx⟩ : ∃ q, q = p 0 := ⟨_, rfl⟩
      obtain ⟨py, hpy⟩ : ∃ q, q = p 1 := ⟨_, rfl⟩
      obtain ⟨pz, hpz⟩ : ∃ q, q = p 2 := ⟨_, rfl⟩
      obtain ⟨pu, hpu⟩ : ∃ q, q = p 3 := ⟨_, rfl⟩
      obtain ⟨x, hx⟩ : ∃ a : Vv, a = ⟨xb, sx 0, xn, cx 0, xf⟩ := ⟨_, rfl⟩
      obtain ⟨y, hy⟩ : ∃ a : Vv, a = ⟨yb, sx 1, yn, cx 1, yf⟩ := ⟨_, rfl⟩
      obtain ⟨z, hz⟩ : ∃ a : Vv, a = ⟨zb, sx 2, zn, cx 2, zf⟩ := ⟨_, rfl⟩
      obtain ⟨u, hu⟩ : ∃ a : Vv, a = ⟨ub, sx 3, un, cx 3, uf⟩ := ⟨_, rfl⟩
      have X7 : Held wc px x := by rw [hpx, hx]; exact ⟨(h4 0 (by decide)).1, hxn, (h4 0 (by decide)).2⟩
      have Y7 : Held wc py y := by rw [hpy, hy]; exact ⟨(h4 1 (by decide)).1, hyn, (h4 1 (by decide)).2⟩
      have Z7 : Held wc pz z := by rw [hpz, hz]; exact ⟨(h4 2 (by decide)).1, hzn, (h4 2 (by decide)).2⟩
      have U7 : Held wc pu u := by rw [hpu, hu]; exact ⟨(h4 3 (by decide)).1, hun, (h4 3 (by decide)).2⟩
      rw [← hpx, ← hpy, ← hpz, ← hpu]
      have EX : xb = x.b ∧ xn = x.n ∧ xf = x.f := by rw [hx]; exact ⟨rfl, rfl, rfl⟩
      have EY : yb = y.b ∧ yn = y.n ∧ yf = y.f := by rw [hy]; exact ⟨rfl, rfl, rfl⟩
      have EZ : zb = z.b ∧ zn = z.n ∧ zf = z.f := by rw [hz]; exact ⟨rfl, rfl, rfl⟩
      have EU : ub = u.b ∧ un = u.n ∧ uf = u.f := by rw [hu]; exact ⟨rfl, rfl, rfl⟩
      rw [EX.1, EX.2.1, EX.2.2] at HX2 HX3
      rw [EY.1, EY.2.1, EY.2.2] at HY4 HY5
      rw [EZ.1, EZ.2.1, EZ.2.2] at HZ2 HZ3
      rw [EU.1, EU.2.1, EU.2.2] at HU2 HU3
      have A7 := A6.out.kept hS.below
      have B7 := B6.out.kept hS.below
      have C7 := C6.out.kept hS.below
      have D7 := D6.out.kept hS.below
      have V7 := V6.out.kept hS.below
      have M7 := M6.out.step hS.below
      clear h4 hS hpx hpy hpz hpu hx hy hz hu EX EY EZ EU A6 B6 C6 D6 V6 M6 HX1 HY3 HZ1 HU1 hxn hyn hzn hun
      obtain ⟨tb, tn, tf, htn, HT1, HT2, HT3⟩ := set_both v ii on
      obtain ⟨cv0, cv1, cv2, cv3⟩ := V7.box.four
      have AH : Hid (Held wc p5 a) := A7
      have BH : Hid (Held wc (p5 + 1) b) := B7
      have CH : Hid (Held wc p7 c) := C7
      have DH : Hid (Held wc (p7 + 1) d) := D7
      have VH : Hid (Held wc p9 v) := V7
      have XH : Hid (Held wc px x) := X7
      have YH : Hid (Held wc py y) := Y7
      have ZH : Hid (Held wc pz z) := Z7
      have UH : Hid (Held wc pu u) := U7
      have MH : Hid (LateV w wc) := M7
      have HX2' : Hid (Two 15 a b x.b x.n x.f) := HX2
      have HX3' : Hid (RightV a → RightV b → a.b = b.b → x.b = a.b ∧ x.n = a.n ∧ x.f = fun i => bits .and .i64 (a.f i) (b.f i)) := HX3
      have HY4' : Hid (Two 16 a b y.b y.n y.f) := HY4
      have HY5' : Hid (RightV a → RightV b → a.b = b.b → y.b = a.b ∧ y.n = a.n ∧ y.f = fun i => bits .or .i64 (a.f i) (b.f i)) := HY5
      have HZ2' : Hid (Two 17 a b z.b z.n z.f) := HZ2
      have HZ3' : Hid (RightV a → RightV b → a.b = b.b → z.b = a.b ∧ z.n = a.n ∧ z.f = fun i => bits .xor .i64 (a.f i) (b.f i)) := HZ3
      have HU2' : Hid (One 18 a u.b u.n u.f) := HU2
      have HU3' : Hid (RightV a → u.b = a.b ∧ u.n = a.n ∧ u.f = cutF a.b a.n (notF a.f)) := HU3
      have HT2' : Hid (∀ W, RowV W v → Calls Tryd.prog 19 #[.agg #[.int .i64 v.b, .slice v.s v.n v.c], .int .i64 ii, .bool on] W fun e w' => NewVec W tb tn tf e w') := HT2
      have HT3' : Hid (0 < tb → GotB tb tn tf ii on) := HT3
      clear A7 B7 C7 D7 X7 Y7 Z7 U7 M7 HX2 HX3 HY4 HY5 HZ2 HZ3 HU2 HU3 HT2 HT3
      go_wp2_with fail
      refine (HT1 _ V7.row).mono ?_
      rintro e w8 ⟨so8, co8, rfl, hb8, ho8⟩
      obtain ⟨t, ht⟩ : ∃ a : Vv, a = ⟨tb, so8, tn, co8, tf⟩ := ⟨_, rfl⟩
      have rt : RowV w8 t := by rw [ht]; exact ⟨htn, ho8.row⟩
      have ev : Ending.returned (vecV tb so8 tn co8) = .returned (.agg #[.int .i64 t.b, .slice t.s t.n t.c]) := by rw [ht]; rfl
      have ET : tb = t.b ∧ tn = t.n ∧ tf = t.f := by rw [ht]; exact ⟨rfl, rfl, rfl⟩
      rw [ev]
      rw [ET.1, ET.2.1, ET.2.2] at HT2' HT3'
      obtain ⟨q8, TH8⟩ := one_box rt
      have A8 := (AH.out.kept hb8).kept q8
      have B8 := (BH.out.kept hb8).kept q8
      have C8 := (CH.out.kept hb8).kept q8
      have D8 := (DH.out.kept hb8).kept q8
      have V8 := (VH.out.kept hb8).kept q8
      have X8 := (XH.out.kept hb8).kept q8
      have Y8 := (YH.out.kept hb8).kept q8
      have Z8 := (ZH.out.kept hb8).kept q8
      have U8 := (UH.out.kept hb8).kept q8
      have M8 := (MH.out.step hb8).step q8
      clear HT1 ht ev ET htn ho8 hb8 q8 rt V7 AH BH CH DH VH XH YH ZH UH MH cv0 cv1 cv2 cv3
      go_upto_region 9 with fail
      generalize w8.alloc (.cells #[.int .i64 t.b, .slice t.s t.n t.c] 25) = wZ at *
      generalize w8.heap.size = pt at *
      have LZ : LateV wZ wZ := ⟨Below.refl _ _, M8.tab, M8.lt⟩
      have MZ : Hid (LateV w wZ) := M8
      have SA : Hid (Sits wZ a) := sits_of A8.row
      have SB : Hid (Sits wZ b) := sits_of B8.row
      have SC : Hid (Sits wZ c) := sits_of C8.row
      have SD : Hid (Sits wZ d) := sits_of D8.row
      have SV : Hid (Sits wZ v) := sits_of V8.row
      have SX : Hid (Sits wZ x) := sits_of X8.row
      have SY : Hid (Sits wZ y) := sits_of Y8.row
      have SZ : Hid (Sits wZ z) := sits_of Z8.row
      have SU : Hid (Sits wZ u) := sits_of U8.row
      have ST : Hid (Sits wZ t) := sits_of TH8.row
      have cells : ∀ W, LateV wZ W → (W.cell? ⟨p5, 0, none⟩ = some (.int .i64 a.b) ∧ W.cell? ⟨p5, 1, none⟩ = some (.slice a.s a.n a.c) ∧ W.cell? ⟨p5 + 1, 0, none⟩ = some (.int .i64 b.b) ∧ W.cell? ⟨p5 + 1, 1, none⟩ = some (.slice b.s b.n b.c) ∧ W.cell? ⟨p7, 0, none⟩ = some (.int .i64 c.b) ∧ W.cell? ⟨p7, 1, none⟩ = some (.slice c.s c.n c.c) ∧ W.cell? ⟨p7 + 1, 0, none⟩ = some (.int .i64 d.b) ∧ W.cell? ⟨p7 + 1, 1, none⟩ = some (.slice d.s d.n d.c) ∧ W.cell? ⟨p9, 0, none⟩ = some (.int .i64 v.b) ∧ W.cell? ⟨p9, 1, none⟩ = some (.slice v.s v.n v.c) ∧ W.cell? ⟨px, 0, none⟩ = some (.int .i64 x.b) ∧ W.cell? ⟨px, 1, none⟩ = some (.slice x.s x.n x.c) ∧ W.cell? ⟨py, 0, none⟩ = some (.int .i64 y.b) ∧ W.cell? ⟨py, 1, none⟩ = some (.slice y.s y.n y.c) ∧ W.cell? ⟨pz, 0, none⟩ = some (.int .i64 z.b) ∧ W.cell? ⟨pz, 1, none⟩ = some (.slice z.s z.n z.c) ∧ W.cell? ⟨pu, 0, none⟩ = some (.int .i64 u.b) ∧ W.cell? ⟨pu, 1, none⟩ = some (.slice u.s u.n u.c) ∧ W.cell? ⟨pt, 0, none⟩ = some (.int .i64 t.b) ∧ W.cell? ⟨pt, 1, none⟩ = some (.slice t.s t.n t.c)) := fun W hL => by
        have k := fun (p : Nat) (v : Vv) (h : Held wZ p v) => (h.box.kept hL.below rfl).cells
        exact ⟨(k _ _ A8).1, (k _ _ A8).2, (k _ _ B8).1, (k _ _ B8).2, (k _ _ C8).1, (k _ _ C8).2, (k _ _ D8).1, (k _ _ D8).2, (k _ _ V8).1, (k _ _ V8).2, (k _ _ X8).1, (k _ _ X8).2, (k _ _ Y8).1, (k _ _ Y8).2, (k _ _ Z8).1, (k _ _ Z8).2, (k _ _ U8).1, (k _ _ U8).2, (k _ _ TH8).1, (k _ _ TH8).2⟩
      have lts : ∀ W, LateV wZ W → (p5 < W.heap.size ∧ p5 + 1 < W.heap.size ∧ p7 < W.heap.size ∧ p7 + 1 < W.heap.size ∧ px < W.heap.size ∧ py < W.heap.size ∧ pz < W.heap.size ∧ pu < W.heap.size ∧ pt < W.heap.size) := fun W hL => by
        have k := fun (p : Nat) (v : Vv) (h : Held wZ p v) => (h.box.kept hL.below rfl).lt
        exact ⟨k _ _ A8, k _ _ B8, k _ _ C8, k _ _ D8, k _ _ X8, k _ _ Y8, k _ _ Z8, k _ _ U8, k _ _ TH8⟩
      have CELLS : Hid (∀ W, LateV wZ W → (W.cell? ⟨p5, 0, none⟩ = some (.int .i64 a.b) ∧ W.cell? ⟨p5, 1, none⟩ = some (.slice a.s a.n a.c) ∧ W.cell? ⟨p5 + 1, 0, none⟩ = some (.int .i64 b.b) ∧ W.cell? ⟨p5 + 1, 1, none⟩ = some (.slice b.s b.n b.c) ∧ W.cell? ⟨p7, 0, none⟩ = some (.int .i64 c.b) ∧ W.cell? ⟨p7, 1, none⟩ = some (.slice c.s c.n c.c) ∧ W.cell? ⟨p7 + 1, 0, none⟩ = some (.int .i64 d.b) ∧ W.cell? ⟨p7 + 1, 1, none⟩ = some (.slice d.s d.n d.c) ∧ W.cell? ⟨p9, 0, none⟩ = some (.int .i64 v.b) ∧ W.cell? ⟨p9, 1, none⟩ = some (.slice v.s v.n v.c) ∧ W.cell? ⟨px, 0, none⟩ = some (.int .i64 x.b) ∧ W.cell? ⟨px, 1, none⟩ = some (.slice x.s x.n x.c) ∧ W.cell? ⟨py, 0, none⟩ = some (.int .i64 y.b) ∧ W.cell? ⟨py, 1, none⟩ = some (.slice y.s y.n y.c) ∧ W.cell? ⟨pz, 0, none⟩ = some (.int .i64 z.b) ∧ W.cell? ⟨pz, 1, none⟩ = some (.slice z.s z.n z.c) ∧ W.cell? ⟨pu, 0, none⟩ = some (.int .i64 u.b) ∧ W.cell? ⟨pu, 1, none⟩ = some (.slice u.s u.n u.c) ∧ W.cell? ⟨pt, 0, none⟩ = some (.int .i64 t.b) ∧ W.cell? ⟨pt, 1, none⟩ = some (.slice t.s t.n t.c))) := cells
      have LTS : Hid (∀ W, LateV wZ W → (p5 < W.heap.size ∧ p5 + 1 < W.heap.size ∧ p7 < W.heap.size ∧ p7 + 1 < W.heap.size ∧ px < W.heap.size ∧ py < W.heap.size ∧ pz < W.heap.size ∧ pu < W.heap.size ∧ pt < W.heap.size)) := lts
      obtain ⟨nb, nm, nf, hnn, N1, N2⟩ := newV_both wZ nn
      obtain ⟨db, dn, df, hdn, D1, D2, D3⟩ := sub_both c d
      obtain ⟨ub', un', uf', hun, U1, U2, U3⟩ := up_both a
      obtain ⟨lo, LO1, LO2⟩ := low_both SA.out
      obtain ⟨hi, HI1, HI2⟩ := high_both SA.out
      obtain ⟨ka, hka, KA1, KA2, KA3⟩ := count_both SA.out
      obtain ⟨rv, hrv, RV1, RV2⟩ := right_both SV.out
      obtain ⟨gv, hgv⟩ := got_some v.b v.n v.f ii
      obtain ⟨GV1, GV2⟩ := get_both SV.out ii gv hgv
      have P1 : Hid (GivesV wZ 15 #[.agg #[.int .i64 a.b, .slice a.s a.n a.c], .agg #[.int .i64 b.b, .slice b.s b.n b.c]] x.b x.n x.f) := HX2'.out.late SA.out SB.out
      have P2 : Hid (GivesV wZ 16 #[.agg #[.int .i64 a.b, .slice a.s a.n a.c], .agg #[.int .i64 b.b, .slice b.s b.n b.c]] y.b y.n y.f) := HY4'.out.late SA.out SB.out
      have P3 : Hid (GivesV wZ 17 #[.agg #[.int .i64 a.b, .slice a.s a.n a.c], .agg #[.int .i64 b.b, .slice b.s b.n b.c]] z.b z.n z.f) := HZ2'.out.late SA.out SB.out
      have P4 : Hid (GivesV wZ 18 #[.agg #[.int .i64 a.b, .slice a.s a.n a.c]] u.b u.n u.f) := HU2'.out.late SA.out
      have P5 : Hid (GivesV wZ 19 #[.agg #[.int .i64 v.b, .slice v.s v.n v.c], .int .i64 ii, .bool on] t.b t.n t.f) := givesV_of fun W hL => HT2'.out W (SV.out W hL)
      have P6 : Hid (GivesV wZ 20 #[.int .i64 nn] nb nm nf) := N1
      have P7 : Hid (GivesV wZ 21 #[.int .i64 nn] nb nm nf) := N2
      have P8 : Hid (GivesV wZ 22 #[.agg #[.int .i64 c.b, .slice c.s c.n c.c], .agg #[.int .i64 d.b, .slice d.s d.n d.c]] db dn df) := D1.late SC.out SD.out
      have P9 : Hid (GivesV wZ 23 #[.agg #[.int .i64 c.b, .slice c.s c.n c.c], .agg #[.int .i64 d.b, .slice d.s d.n d.c]] db dn df) := D2.late SC.out SD.out
      have PA : Hid (GivesV wZ 24 #[.agg #[.int .i64 a.b, .slice a.s a.n a.c]] ub' un' uf') := U1.late SA.out
      have PB : Hid (GivesV wZ 25 #[.agg #[.int .i64 a.b, .slice a.s a.n a.c]] ub' un' uf') := U2.late SA.out
      have PC : Hid (GivesR wZ 26 #[.agg #[.int .i64 a.b, .slice a.s a.n a.c]] (.int .i64 lo)) := LO1
      have PD : Hid (GivesR wZ 27 #[.agg #[.int .i64 a.b, .slice a.s a.n a.c]] (.int .i64 lo)) := LO2
      have PE : Hid (GivesR wZ 28 #[.agg #[.int .i64 a.b, .slice a.s a.n a.c]] (.int .i64 hi)) := HI1
      have PF : Hid (GivesR wZ 29 #[.agg #[.int .i64 a.b, .slice a.s a.n a.c]] (.int .i64 hi)) := HI2
      have PG : Hid (GivesR wZ 30 #[.agg #[.int .i64 a.b, .slice a.s a.n a.c]] (.int .i64 (ka : Int))) := KA1
      have PH : Hid (GivesR wZ 31 #[.agg #[.int .i64 a.b, .slice a.s a.n a.c]] (.int .i64 (ka : Int))) := KA2
      have PI : Hid (GivesR wZ 32 #[.agg #[.int .i64 v.b, .slice v.s v.n v.c]] (.bool rv)) := RV1
      have PJ : Hid (GivesR wZ 33 #[.agg #[.int .i64 v.b, .slice v.s v.n v.c]] (.bool rv)) := RV2
      have PK : Hid (GivesR wZ 34 #[.agg #[.int .i64 v.b, .slice v.s v.n v.c], .int .i64 ii] (.bool gv)) := GV1
      have PL : Hid (GivesR wZ 35 #[.agg #[.int .i64 v.b, .slice v.s v.n v.c], .int .i64 ii] (.bool gv)) := GV2
      have D3' : Hid (RightV c → RightV d → c.b = d.b → db = c.b ∧ dn = c.n ∧ df = cutF c.b c.n (sumF 1 c.f (cutF c.b c.n (notF d.f)))) := D3
      have U3' : Hid (RightV a → ub' = a.b ∧ un' = a.n ∧ uf' = cutF a.b a.n (sumF 0 a.f a.f)) := U3
      have KA3' : Hid (RightV a → ka = (bitsL a.f a.b.toNat).length) := KA3
      have hxn := (SX.out _ LZ).1
      have hyn := (SY.out _ LZ).1
      have hzn := (SZ.out _ LZ).1
      have hun2 := (SU.out _ LZ).1
      have htn := (ST.out _ LZ).1
      have KT : ∀ W, LateV wZ W → (W.cell? ⟨pt, 0, none⟩ = some (.int .i64 t.b) ∧ W.cell? ⟨pt, 1, none⟩ = some (.slice t.s t.n t.c)) := (fun W hL => by have h := CELLS.out W hL; exact ⟨h.2.2.2.2.2.2.2.2.2.2.2.2.2.2.2.2.2.2.1, h.2.2.2.2.2.2.2.2.2.2.2.2.2.2.2.2.2.2.2⟩)
      have hKT : True := trivial
      clear hKT N1 N2 D1 D2 D3 U1 U2 U3 LO1 LO2 HI1 HI2 KA1 KA2 KA3 hrv RV1 RV2 GV1 GV2 hgv cells lts A8 B8 C8 D8 V8 X8 Y8 Z8 U8 TH8 M8
      have KBa : ∀ W, LateV wZ W → (W.cell? ⟨p5, 0, none⟩ = some (.int .i64 a.b) ∧ W.cell? ⟨p5, 1, none⟩ = some (.slice a.s a.n a.c)) := fun W hL => by have h := CELLS.out W hL; exact ⟨h.1, h.2.1⟩
      have KBb : ∀ W, LateV wZ W → (W.cell? ⟨p5 + 1, 0, none⟩ = some (.int .i64 b.b) ∧ W.cell? ⟨p5 + 1, 1, none⟩ = some (.slice b.s b.n b.c)) := fun W hL => by have h := CELLS.out W hL; exact ⟨h.2.2.1, h.2.2.2.1⟩
      have KBc : ∀ W, LateV wZ W → (W.cell? ⟨p7, 0, none⟩ = some (.int .i64 c.b) ∧ W.cell? ⟨p7, 1, none⟩ = some (.slice c.s c.n c.c)) := fun W hL => by have h := CELLS.out W hL; exact ⟨h.2.2.2.2.1, h.2.2.2.2.2.1⟩
      have KBd : ∀ W, LateV wZ W → (W.cell? ⟨p7 + 1, 0, none⟩ = some (.int .i64 d.b) ∧ W.cell? ⟨p7 + 1, 1, none⟩ = some (.slice d.s d.n d.c)) := fun W hL => by have h := CELLS.out W hL; exact ⟨h.2.2.2.2.2.2.1, h.2.2.2.2.2.2.2.1⟩
      have KBv : ∀ W, LateV wZ W → (W.cell? ⟨p9, 0, none⟩ = some (.int .i64 v.b) ∧ W.cell? ⟨p9, 1, none⟩ = some (.slice v.s v.n v.c)) := fun W hL => by have h := CELLS.out W hL; exact ⟨h.2.2.2.2.2.2.2.2.1, h.2.2.2.2.2.2.2.2.2.1⟩
      have KBx : ∀ W, LateV wZ W → (W.cell? ⟨px, 0, none⟩ = some (.int .i64 x.b) ∧ W.cell? ⟨px, 1, none⟩ = some (.slice x.s x.n x.c)) := fun W hL => by have h := CELLS.out W hL; exact ⟨h.2.2.2.2.2.2.2.2.2.2.1, h.2.2.2.2.2.2.2.2.2.2.2.1⟩
      have KBy : ∀ W, LateV wZ W → (W.cell? ⟨py, 0, none⟩ = some (.int .i64 y.b) ∧ W.cell? ⟨py, 1, none⟩ = some (.slice y.s y.n y.c)) := fun W hL => by have h := CELLS.out W hL; exact ⟨h.2.2.2.2.2.2.2.2.2.2.2.2.1, h.2.2.2.2.2.2.2.2.2.2.2.2.2.1⟩
      have KBz : ∀ W, LateV wZ W → (W.cell? ⟨pz, 0, none⟩ = some (.int .i64 z.b) ∧ W.cell? ⟨pz, 1, none⟩ = some (.slice z.s z.n z.c)) := fun W hL => by have h := CELLS.out W hL; exact ⟨h.2.2.2.2.2.2.2.2.2.2.2.2.2.2.1, h.2.2.2.2.2.2.2.2.2.2.2.2.2.2.2.1⟩
      have KBu : ∀ W, LateV wZ W → (W.cell? ⟨pu, 0, none⟩ = some (.int .i64 u.b) ∧ W.cell? ⟨pu, 1, none⟩ = some (.slice u.s u.n u.c)) := fun W hL => by have h := CELLS.out W hL; exact ⟨h.2.2.2.2.2.2.2.2.2.2.2.2.2.2.2.2.1, h.2.2.2.2.2.2.2.2.2.2.2.2.2.2.2.2.2.1⟩
      have KBt : ∀ W, LateV wZ W → (W.cell? ⟨pt, 0, none⟩ = some (.int .i64 t.b) ∧ W.cell? ⟨pt, 1, none⟩ = some (.slice t.s t.n t.c)) := fun W hL => by have h := CELLS.out W hL; exact ⟨h.2.2.2.2.2.2.2.2.2.2.2.2.2.2.2.2.2.2.1, h.2.2.2.2.2.2.2.2.2.2.2.2.2.2.2.2.2.2.2⟩
      refine region_frame (fun a0 ha0 => ?_)
      have e5 : a0.tmps[5]? = some (.pointer (some ⟨p5, 0, none⟩)) := by rw [ha0]; rfl
      have e6 : a0.tmps[6]? = some (.pointer (some ⟨p5 + 1, 0, none⟩)) := by rw [ha0]; rfl
      have e7 : a0.tmps[7]? = some (.pointer (some ⟨p7, 0, none⟩)) := by rw [ha0]; rfl
      have e8 : a0.tmps[8]? = some (.pointer (some ⟨p7 + 1, 0, none⟩)) := by rw [ha0]; rfl
      have e9 : a0.tmps[9]? = some (.pointer (some ⟨p9, 0, none⟩)) := by rw [ha0]; rfl
      have e13 : a0.tmps[13]? = some (.pointer (some ⟨px, 0, none⟩)) := by rw [ha0]; rfl
      have e14 : a0.tmps[14]? = some (.pointer (some ⟨py, 0, none⟩)) := by rw [ha0]; rfl
      have e15 : a0.tmps[15]? = some (.pointer (some ⟨pz, 0, none⟩)) := by rw [ha0]; rfl
      have e16 : a0.tmps[16]? = some (.pointer (some ⟨pu, 0, none⟩)) := by rw [ha0]; rfl
      have e17 : a0.tmps[17]? = some (.pointer (some ⟨pt, 0, none⟩)) := by rw [ha0]; rfl
      have e10 : a0.tmps[10]? = some (.int .i64 ii) := by rw [ha0]; rfl
      have e11 : a0.tmps[11]? = some (.bool on) := by rw [ha0]; rfl
      have e12 : a0.tmps[12]? = some (.int .i64 nn) := by rw [ha0]; rfl
      have hz0 : a0.tmps.size = 290 := by rw [ha0]; rfl
      have hsz0 : 62 + 101 ≤ a0.tmps.size := by omega
      have S_x : Hid (Sits wZ x) := SX
      have S_y : Hid (Sits wZ y) := SY
      have S_z : Hid (Sits wZ z) := SZ
      have S_u : Hid (Sits wZ u) := SU
      have S_t : Hid (Sits wZ t) := ST
      refine wp_region_inv (by kernel_rfl) (ChI ⟨fun W => LateV wZ W, a0, 62, [.con (.agg #[.int .i64 x.b, .slice x.s x.n x.c]), .con (.agg #[.int .i64 a.b, .slice a.s a.n a.c]), .con (.agg #[.int .i64 b.b, .slice b.s b.n b.c]), .vec x.b x.n x.f, .con (.bool true), .con (.bool false), .con (.bool false), .con (.agg #[.int .i64 y.b, .slice y.s y.n y.c]), .con (.agg #[.int .i64 a.b, .slice a.s a.n a.c]), .con (.agg #[.int .i64 b.b, .slice b.s b.n b.c]), .vec y.b y.n y.f, .con (.bool true), .con (.bool false), .con (.bool false), .con (.bool false), .con (.agg #[.int .i64 z.b, .slice z.s z.n z.c]), .con (.agg #[.int .i64 a.b, .slice a.s a.n a.c]), .con (.agg #[.int .i64 b.b, .slice b.s b.n b.c]), .vec z.b z.n z.f, .con (.bool true), .con (.bool false), .con (.bool false), .con (.bool false), .con (.agg #[.int .i64 u.b, .slice u.s u.n u.c]), .con (.agg #[.int .i64 a.b, .slice a.s a.n a.c]), .vec u.b u.n u.f, .con (.bool true), .con (.bool false), .con (.bool false), .con (.bool false), .con (.agg #[.int .i64 t.b, .slice t.s t.n t.c]), .con (.agg #[.int .i64 v.b, .slice v.s v.n v.c]), .con (.int .i64 ii), .con (.bool on), .vec t.b t.n t.f, .con (.bool true), .con (.bool false), .con (.bool false), .con (.bool false), .con (.int .i64 nn), .vec nb nm nf, .con (.int .i64 nn), .vec nb nm nf, .con (.bool true), .con (.bool false), .con (.bool false), .con (.bool false), .con (.agg #[.int .i64 c.b, .slice c.s c.n c.c]), .con (.agg #[.int .i64 d.b, .slice d.s d.n d.c]), .vec db dn df, .con (.agg #[.int .i64 c.b, .slice c.s c.n c.c]), .con (.agg #[.int .i64 d.b, .slice d.s d.n d.c]), .vec db dn df, .con (.bool true), .con (.bool false), .con (.bool false), .con (.bool false), .con (.agg #[.int .i64 a.b, .slice a.s a.n a.c]), .vec ub' un' uf', .con (.agg #[.int .i64 a.b, .slice a.s a.n a.c]), .vec ub' un' uf', .con (.bool true), .con (.bool false), .con (.bool false), .con (.bool false), .con (.agg #[.int .i64 a.b, .slice a.s a.n a.c]), .con (.int .i64 lo), .con (.agg #[.int .i64 a.b, .slice a.s a.n a.c]), .con (.int .i64 lo), .con (.bool false), .con (.bool false), .con (.bool false), .con (.agg #[.int .i64 a.b, .slice a.s a.n a.c]), .con (.int .i64 hi), .con (.agg #[.int .i64 a.b, .slice a.s a.n a.c]), .con (.int .i64 hi), .con (.bool false), .con (.bool false), .con (.bool false), .con (.agg #[.int .i64 a.b, .slice a.s a.n a.c]), .con (.int .i64 (ka : Int)), .con (.agg #[.int .i64 a.b, .slice a.s a.n a.c]), .con (.int .i64 (ka : Int)), .con (.bool false), .con (.bool false), .con (.bool false), .con (.agg #[.int .i64 v.b, .slice v.s v.n v.c]), .con (.bool rv), .con (.agg #[.int .i64 v.b, .slice v.s v.n v.c]), .con (.bool rv), .con (.bool false), .con (.bool false), .con (.bool false), .con (.agg #[.int .i64 v.b, .slice v.s v.n v.c]), .con (.int .i64 ii), .con (.bool gv), .con (.agg #[.int .i64 v.b, .slice v.s v.n v.c]), .con (.int .i64 ii), .con (.bool gv), .con (.bool false), .con (.bool false)]⟩) (acyc_of (by kernel_rfl)) (ch_start LZ.drew) ?_ ?_
      · clear ha0
        intro L ac W i o ho hLi hdep hI
        have hsz : (62 : Nat) + 101 ≤ a0.tmps.size := hsz0
        have hlt : i < 101 := (Array.getElem?_eq_some_iff.1 ho).1
        match i, hlt, ho, hLi with
        | 0, _, ho, hLi =>
          exact chs_con 0 (.agg #[.int .i64 x.b, .slice x.s x.n x.c]) hI rfl rfl (want_none rfl) (fun K hK => op_load ((ch_out hI 13 (Or.inl (show (13 : Nat) < 62 by decide))).trans e13) (KBx W (ch_good hI)).1 (KBx W (ch_good hI)).2 hK)
        | 1, _, ho, hLi =>
          exact chs_con 1 (.agg #[.int .i64 a.b, .slice a.s a.n a.c]) hI rfl rfl (want_none rfl) (fun K hK => op_load ((ch_out hI 5 (Or.inl (show (5 : Nat) < 62 by decide))).trans e5) (KBa W (ch_good hI)).1 (KBa W (ch_good hI)).2 hK)
        | 2, _, ho, hLi =>
          exact chs_con 2 (.agg #[.int .i64 b.b, .slice b.s b.n b.c]) hI rfl rfl (want_none rfl) (fun K hK => op_load ((ch_out hI 6 (Or.inl (show (6 : Nat) < 62 by decide))).trans e6) (KBb W (ch_good hI)).1 (KBb W (ch_good hI)).2 hK)
        | 3, _, ho, hLi =>
          exact chs_vec 3 hI rfl rfl (want_none rfl) (P1.out W (ch_good hI)) (fun K hK => op_call2 (ch_con hI hsz 1 rfl (dep_at ho hdep 0 ⟨1, .data⟩ rfl rfl)) (ch_con hI hsz 2 rfl (dep_at ho hdep 1 ⟨2, .data⟩ rfl rfl)) enter_spec_VecAnd hK)
        | 4, _, ho, hLi =>
          obtain ⟨so1, co1, g1, r1⟩ := ch_vec hI hsz 3 rfl (dep_at ho hdep 1 ⟨3, .data⟩ rfl rfl)
          exact chs_call 4 (.bool true) hI rfl rfl (want_none rfl) (lw_late (ch_good hI) hxn (S_x.out W (ch_good hI)).2 r1) (fun K hK => op_call2 (ch_con hI hsz 0 rfl (dep_at ho hdep 0 ⟨0, .data⟩ rfl rfl)) g1 enter_laws_lwVec hK)
        | 5, _, ho, hLi =>
          exact chs_con 5 (.bool false) hI rfl rfl (want_none rfl) (fun K hK => op_not (ch_con hI hsz 4 rfl (dep_at ho hdep 0 ⟨4, .data⟩ rfl rfl)) hK)
        | 6, _, ho, hLi =>
          exact chs_con 6 (.bool false) hI rfl rfl (want_none rfl) (fun K hK => op_move (ch_con hI hsz 5 rfl (dep_at ho hdep 0 ⟨5, .data⟩ rfl rfl)) hK)
        | 7, _, ho, hLi =>
          exact chs_con 7 (.agg #[.int .i64 y.b, .slice y.s y.n y.c]) hI rfl rfl (want_of rfl rfl rfl (ch_con hI hsz 6 rfl (dep_at ho hdep 0 ⟨6, .guard⟩ rfl rfl))) (fun K hK => op_load ((ch_out hI 14 (Or.inl (show (14 : Nat) < 62 by decide))).trans e14) (KBy W (ch_good hI)).1 (KBy W (ch_good hI)).2 hK)
        | 8, _, ho, hLi =>
          exact chs_con 8 (.agg #[.int .i64 a.b, .slice a.s a.n a.c]) hI rfl rfl (want_of rfl rfl rfl (ch_con hI hsz 6 rfl (dep_at ho hdep 0 ⟨6, .guard⟩ rfl rfl))) (fun K hK => op_load ((ch_out hI 5 (Or.inl (show (5 : Nat) < 62 by decide))).trans e5) (KBa W (ch_good hI)).1 (KBa W (ch_good hI)).2 hK)
        | 9, _, ho, hLi =>
          exact chs_con 9 (.agg #[.int .i64 b.b, .slice b.s b.n b.c]) hI rfl rfl (want_of rfl rfl rfl (ch_con hI hsz 6 rfl (dep_at ho hdep 0 ⟨6, .guard⟩ rfl rfl))) (fun K hK => op_load ((ch_out hI 6 (Or.inl (show (6 : Nat) < 62 by decide))).trans e6) (KBb W (ch_good hI)).1 (KBb W (ch_good hI)).2 hK)
        | 10, _, ho, hLi =>
          exact chs_vec 10 hI rfl rfl (want_of rfl rfl rfl (ch_con hI hsz 6 rfl (dep_at ho hdep 2 ⟨6, .chain⟩ rfl rfl))) (P2.out W (ch_good hI)) (fun K hK => op_call2 (ch_con hI hsz 8 rfl (dep_at ho hdep 0 ⟨8, .data⟩ rfl rfl)) (ch_con hI hsz 9 rfl (dep_at ho hdep 1 ⟨9, .data⟩ rfl rfl)) enter_spec_VecOr hK)
        | 11, _, ho, hLi =>
          obtain ⟨so1, co1, g1, r1⟩ := ch_vec hI hsz 10 rfl (dep_at ho hdep 1 ⟨10, .data⟩ rfl rfl)
          exact chs_call 11 (.bool true) hI rfl rfl (want_of rfl rfl rfl (ch_con hI hsz 6 rfl (dep_at ho hdep 3 ⟨6, .guard⟩ rfl rfl))) (lw_late (ch_good hI) hyn (S_y.out W (ch_good hI)).2 r1) (fun K hK => op_call2 (ch_con hI hsz 7 rfl (dep_at ho hdep 0 ⟨7, .data⟩ rfl rfl)) g1 enter_laws_lwVec hK)
        | 12, _, ho, hLi =>
          exact chs_con 12 (.bool false) hI rfl rfl (want_of rfl rfl rfl (ch_con hI hsz 6 rfl (dep_at ho hdep 1 ⟨6, .guard⟩ rfl rfl))) (fun K hK => op_not (ch_con hI hsz 11 rfl (dep_at ho hdep 0 ⟨11, .data⟩ rfl rfl)) hK)
        | 13, _, ho, hLi =>
          exact chs_con 13 (.bool false) hI rfl rfl (want_none rfl) (fun K hK => op_pickOr (ch_con hI hsz 6 rfl (dep_at ho hdep 0 ⟨6, .data⟩ rfl rfl)) (ch_con hI hsz 12 rfl (dep_at ho hdep 1 ⟨12, .data⟩ rfl rfl)) hK)
        | 14, _, ho, hLi =>
          exact chs_con 14 (.bool false) hI rfl rfl (want_none rfl) (fun K hK => op_move (ch_con hI hsz 13 rfl (dep_at ho hdep 0 ⟨13, .data⟩ rfl rfl)) hK)
        | 15, _, ho, hLi =>
          exact chs_con 15 (.agg #[.int .i64 z.b, .slice z.s z.n z.c]) hI rfl rfl (want_of rfl rfl rfl (ch_con hI hsz 14 rfl (dep_at ho hdep 0 ⟨14, .guard⟩ rfl rfl))) (fun K hK => op_load ((ch_out hI 15 (Or.inl (show (15 : Nat) < 62 by decide))).trans e15) (KBz W (ch_good hI)).1 (KBz W (ch_good hI)).2 hK)
        | 16, _, ho, hLi =>
          exact chs_con 16 (.agg #[.int .i64 a.b, .slice a.s a.n a.c]) hI rfl rfl (want_of rfl rfl rfl (ch_con hI hsz 14 rfl (dep_at ho hdep 0 ⟨14, .guard⟩ rfl rfl))) (fun K hK => op_load ((ch_out hI 5 (Or.inl (show (5 : Nat) < 62 by decide))).trans e5) (KBa W (ch_good hI)).1 (KBa W (ch_good hI)).2 hK)
        | 17, _, ho, hLi =>
          exact chs_con 17 (.agg #[.int .i64 b.b, .slice b.s b.n b.c]) hI rfl rfl (want_of rfl rfl rfl (ch_con hI hsz 14 rfl (dep_at ho hdep 0 ⟨14, .guard⟩ rfl rfl))) (fun K hK => op_load ((ch_out hI 6 (Or.inl (show (6 : Nat) < 62 by decide))).trans e6) (KBb W (ch_good hI)).1 (KBb W (ch_good hI)).2 hK)
        | 18, _, ho, hLi =>
          exact chs_vec 18 hI rfl rfl (want_of rfl rfl rfl (ch_con hI hsz 14 rfl (dep_at ho hdep 2 ⟨14, .chain⟩ rfl rfl))) (P3.out W (ch_good hI)) (fun K hK => op_call2 (ch_con hI hsz 16 rfl (dep_at ho hdep 0 ⟨16, .data⟩ rfl rfl)) (ch_con hI hsz 17 rfl (dep_at ho hdep 1 ⟨17, .data⟩ rfl rfl)) enter_spec_VecXor hK)
        | 19, _, ho, hLi =>
          obtain ⟨so1, co1, g1, r1⟩ := ch_vec hI hsz 18 rfl (dep_at ho hdep 1 ⟨18, .data⟩ rfl rfl)
          exact chs_call 19 (.bool true) hI rfl rfl (want_of rfl rfl rfl (ch_con hI hsz 14 rfl (dep_at ho hdep 3 ⟨14, .guard⟩ rfl rfl))) (lw_late (ch_good hI) hzn (S_z.out W (ch_good hI)).2 r1) (fun K hK => op_call2 (ch_con hI hsz 15 rfl (dep_at ho hdep 0 ⟨15, .data⟩ rfl rfl)) g1 enter_laws_lwVec hK)
        | 20, _, ho, hLi =>
          exact chs_con 20 (.bool false) hI rfl rfl (want_of rfl rfl rfl (ch_con hI hsz 14 rfl (dep_at ho hdep 1 ⟨14, .guard⟩ rfl rfl))) (fun K hK => op_not (ch_con hI hsz 19 rfl (dep_at ho hdep 0 ⟨19, .data⟩ rfl rfl)) hK)
        | 21, _, ho, hLi =>
          exact chs_con 21 (.bool false) hI rfl rfl (want_none rfl) (fun K hK => op_pickOr (ch_con hI hsz 14 rfl (dep_at ho hdep 0 ⟨14, .data⟩ rfl rfl)) (ch_con hI hsz 20 rfl (dep_at ho hdep 1 ⟨20, .data⟩ rfl rfl)) hK)
        | 22, _, ho, hLi =>
          exact chs_con 22 (.bool false) hI rfl rfl (want_none rfl) (fun K hK => op_move (ch_con hI hsz 21 rfl (dep_at ho hdep 0 ⟨21, .data⟩ rfl rfl)) hK)
        | 23, _, ho, hLi =>
          exact chs_con 23 (.agg #[.int .i64 u.b, .slice u.s u.n u.c]) hI rfl rfl (want_of rfl rfl rfl (ch_con hI hsz 22 rfl (dep_at ho hdep 0 ⟨22, .guard⟩ rfl rfl))) (fun K hK => op_load ((ch_out hI 16 (Or.inl (show (16 : Nat) < 62 by decide))).trans e16) (KBu W (ch_good hI)).1 (KBu W (ch_good hI)).2 hK)
        | 24, _, ho, hLi =>
          exact chs_con 24 (.agg #[.int .i64 a.b, .slice a.s a.n a.c]) hI rfl rfl (want_of rfl rfl rfl (ch_con hI hsz 22 rfl (dep_at ho hdep 0 ⟨22, .guard⟩ rfl rfl))) (fun K hK => op_load ((ch_out hI 5 (Or.inl (show (5 : Nat) < 62 by decide))).trans e5) (KBa W (ch_good hI)).1 (KBa W (ch_good hI)).2 hK)
        | 25, _, ho, hLi =>
          exact chs_vec 25 hI rfl rfl (want_of rfl rfl rfl (ch_con hI hsz 22 rfl (dep_at ho hdep 1 ⟨22, .chain⟩ rfl rfl))) (P4.out W (ch_good hI)) (fun K hK => op_call1 (ch_con hI hsz 24 rfl (dep_at ho hdep 0 ⟨24, .data⟩ rfl rfl)) enter_spec_VecNot hK)
        | 26, _, ho, hLi =>
          obtain ⟨so1, co1, g1, r1⟩ := ch_vec hI hsz 25 rfl (dep_at ho hdep 1 ⟨25, .data⟩ rfl rfl)
          exact chs_call 26 (.bool true) hI rfl rfl (want_of rfl rfl rfl (ch_con hI hsz 22 rfl (dep_at ho hdep 3 ⟨22, .guard⟩ rfl rfl))) (lw_late (ch_good hI) hun2 (S_u.out W (ch_good hI)).2 r1) (fun K hK => op_call2 (ch_con hI hsz 23 rfl (dep_at ho hdep 0 ⟨23, .data⟩ rfl rfl)) g1 enter_laws_lwVec hK)
        | 27, _, ho, hLi =>
          exact chs_con 27 (.bool false) hI rfl rfl (want_of rfl rfl rfl (ch_con hI hsz 22 rfl (dep_at ho hdep 1 ⟨22, .guard⟩ rfl rfl))) (fun K hK => op_not (ch_con hI hsz 26 rfl (dep_at ho hdep 0 ⟨26, .data⟩ rfl rfl)) hK)
        | 28, _, ho, hLi =>
          exact chs_con 28 (.bool false) hI rfl rfl (want_none rfl) (fun K hK => op_pickOr (ch_con hI hsz 22 rfl (dep_at ho hdep 0 ⟨22, .data⟩ rfl rfl)) (ch_con hI hsz 27 rfl (dep_at ho hdep 1 ⟨27, .data⟩ rfl rfl)) hK)
        | 29, _, ho, hLi =>
          exact chs_con 29 (.bool false) hI rfl rfl (want_none rfl) (fun K hK => op_move (ch_con hI hsz 28 rfl (dep_at ho hdep 0 ⟨28, .data⟩ rfl rfl)) hK)
        | 30, _, ho, hLi =>
          exact chs_con 30 (.agg #[.int .i64 t.b, .slice t.s t.n t.c]) hI rfl rfl (want_of rfl rfl rfl (ch_con hI hsz 29 rfl (dep_at ho hdep 0 ⟨29, .guard⟩ rfl rfl))) (fun K hK => op_load ((ch_out hI 17 (Or.inl (show (17 : Nat) < 62 by decide))).trans e17) (KBt W (ch_good hI)).1 (KBt W (ch_good hI)).2 hK)
        | 31, _, ho, hLi =>
          exact chs_con 31 (.agg #[.int .i64 v.b, .slice v.s v.n v.c]) hI rfl rfl (want_of rfl rfl rfl (ch_con hI hsz 29 rfl (dep_at ho hdep 0 ⟨29, .guard⟩ rfl rfl))) (fun K hK => op_load ((ch_out hI 9 (Or.inl (show (9 : Nat) < 62 by decide))).trans e9) (KBv W (ch_good hI)).1 (KBv W (ch_good hI)).2 hK)
        | 32, _, ho, hLi =>
          exact chs_con 32 (.int .i64 ii) hI rfl rfl (want_of rfl rfl rfl (ch_con hI hsz 29 rfl (dep_at ho hdep 0 ⟨29, .guard⟩ rfl rfl))) (fun K hK => op_move ((ch_out hI 10 (Or.inl (show (10 : Nat) < 62 by decide))).trans e10) hK)
        | 33, _, ho, hLi =>
          exact chs_con 33 (.bool on) hI rfl rfl (want_of rfl rfl rfl (ch_con hI hsz 29 rfl (dep_at ho hdep 0 ⟨29, .guard⟩ rfl rfl))) (fun K hK => op_move ((ch_out hI 11 (Or.inl (show (11 : Nat) < 62 by decide))).trans e11) hK)
        | 34, _, ho, hLi =>
          exact chs_vec 34 hI rfl rfl (want_of rfl rfl rfl (ch_con hI hsz 29 rfl (dep_at ho hdep 3 ⟨29, .chain⟩ rfl rfl))) (P5.out W (ch_good hI)) (fun K hK => op_call3 (ch_con hI hsz 31 rfl (dep_at ho hdep 0 ⟨31, .data⟩ rfl rfl)) (ch_con hI hsz 32 rfl (dep_at ho hdep 1 ⟨32, .data⟩ rfl rfl)) (ch_con hI hsz 33 rfl (dep_at ho hdep 2 ⟨33, .data⟩ rfl rfl)) enter_spec_VecSet hK)
        | 35, _, ho, hLi =>
          obtain ⟨so1, co1, g1, r1⟩ := ch_vec hI hsz 34 rfl (dep_at ho hdep 1 ⟨34, .data⟩ rfl rfl)
          exact chs_call 35 (.bool true) hI rfl rfl (want_of rfl rfl rfl (ch_con hI hsz 29 rfl (dep_at ho hdep 3 ⟨29, .guard⟩ rfl rfl))) (lw_late (ch_good hI) htn (S_t.out W (ch_good hI)).2 r1) (fun K hK => op_call2 (ch_con hI hsz 30 rfl (dep_at ho hdep 0 ⟨30, .data⟩ rfl rfl)) g1 enter_laws_lwVec hK)
        | 36, _, ho, hLi =>
          exact chs_con 36 (.bool false) hI rfl rfl (want_of rfl rfl rfl (ch_con hI hsz 29 rfl (dep_at ho hdep 1 ⟨29, .guard⟩ rfl rfl))) (fun K hK => op_not (ch_con hI hsz 35 rfl (dep_at ho hdep 0 ⟨35, .data⟩ rfl rfl)) hK)
        | 37, _, ho, hLi =>
          exact chs_con 37 (.bool false) hI rfl rfl (want_none rfl) (fun K hK => op_pickOr (ch_con hI hsz 29 rfl (dep_at ho hdep 0 ⟨29, .data⟩ rfl rfl)) (ch_con hI hsz 36 rfl (dep_at ho hdep 1 ⟨36, .data⟩ rfl rfl)) hK)
        | 38, _, ho, hLi =>
          exact chs_con 38 (.bool false) hI rfl rfl (want_none rfl) (fun K hK => op_move (ch_con hI hsz 37 rfl (dep_at ho hdep 0 ⟨37, .data⟩ rfl rfl)) hK)
        | 39, _, ho, hLi =>
          exact chs_con 39 (.int .i64 nn) hI rfl rfl (want_of rfl rfl rfl (ch_con hI hsz 38 rfl (dep_at ho hdep 0 ⟨38, .guard⟩ rfl rfl))) (fun K hK => op_move ((ch_out hI 12 (Or.inl (show (12 : Nat) < 62 by decide))).trans e12) hK)
        | 40, _, ho, hLi =>
          exact chs_vec 40 hI rfl rfl (want_of rfl rfl rfl (ch_con hI hsz 38 rfl (dep_at ho hdep 1 ⟨38, .chain⟩ rfl rfl))) (P6.out W (ch_good hI)) (fun K hK => op_call1 (ch_con hI hsz 39 rfl (dep_at ho hdep 0 ⟨39, .data⟩ rfl rfl)) enter_impl_VecNew hK)
        | 41, _, ho, hLi =>
          exact chs_con 41 (.int .i64 nn) hI rfl rfl (want_of rfl rfl rfl (ch_con hI hsz 38 rfl (dep_at ho hdep 0 ⟨38, .guard⟩ rfl rfl))) (fun K hK => op_move ((ch_out hI 12 (Or.inl (show (12 : Nat) < 62 by decide))).trans e12) hK)
        | 42, _, ho, hLi =>
          exact chs_vec 42 hI rfl rfl (want_of rfl rfl rfl (ch_con hI hsz 38 rfl (dep_at ho hdep 2 ⟨38, .guard⟩ rfl rfl))) (P7.out W (ch_good hI)) (fun K hK => op_call1 (ch_con hI hsz 41 rfl (dep_at ho hdep 0 ⟨41, .data⟩ rfl rfl)) enter_spec_VecNew hK)
        | 43, _, ho, hLi =>
          obtain ⟨so0, co0, g0, r0⟩ := ch_vec hI hsz 40 rfl (dep_at ho hdep 0 ⟨40, .data⟩ rfl rfl)
          obtain ⟨so1, co1, g1, r1⟩ := ch_vec hI hsz 42 rfl (dep_at ho hdep 1 ⟨42, .data⟩ rfl rfl)
          exact chs_call 43 (.bool true) hI rfl rfl (want_of rfl rfl rfl (ch_con hI hsz 38 rfl (dep_at ho hdep 3 ⟨38, .guard⟩ rfl rfl))) (lw_late (ch_good hI) hnn r0 r1) (fun K hK => op_call2 g0 g1 enter_laws_lwVec hK)
        | 44, _, ho, hLi =>
          exact chs_con 44 (.bool false) hI rfl rfl (want_of rfl rfl rfl (ch_con hI hsz 38 rfl (dep_at ho hdep 1 ⟨38, .guard⟩ rfl rfl))) (fun K hK => op_not (ch_con hI hsz 43 rfl (dep_at ho hdep 0 ⟨43, .data⟩ rfl rfl)) hK)
        | 45, _, ho, hLi =>
          exact chs_con 45 (.bool false) hI rfl rfl (want_none rfl) (fun K hK => op_pickOr (ch_con hI hsz 38 rfl (dep_at ho hdep 0 ⟨38, .data⟩ rfl rfl)) (ch_con hI hsz 44 rfl (dep_at ho hdep 1 ⟨44, .data⟩ rfl rfl)) hK)
        | 46, _, ho, hLi =>
          exact chs_con 46 (.bool false) hI rfl rfl (want_none rfl) (fun K hK => op_move (ch_con hI hsz 45 rfl (dep_at ho hdep 0 ⟨45, .data⟩ rfl rfl)) hK)
        | 47, _, ho, hLi =>
          exact chs_con 47 (.agg #[.int .i64 c.b, .slice c.s c.n c.c]) hI rfl rfl (want_of rfl rfl rfl (ch_con hI hsz 46 rfl (dep_at ho hdep 0 ⟨46, .guard⟩ rfl rfl))) (fun K hK => op_load ((ch_out hI 7 (Or.inl (show (7 : Nat) < 62 by decide))).trans e7) (KBc W (ch_good hI)).1 (KBc W (ch_good hI)).2 hK)
        | 48, _, ho, hLi =>
          exact chs_con 48 (.agg #[.int .i64 d.b, .slice d.s d.n d.c]) hI rfl rfl (want_of rfl rfl rfl (ch_con hI hsz 46 rfl (dep_at ho hdep 0 ⟨46, .guard⟩ rfl rfl))) (fun K hK => op_load ((ch_out hI 8 (Or.inl (show (8 : Nat) < 62 by decide))).trans e8) (KBd W (ch_good hI)).1 (KBd W (ch_good hI)).2 hK)
        | 49, _, ho, hLi =>
          exact chs_vec 49 hI rfl rfl (want_of rfl rfl rfl (ch_con hI hsz 46 rfl (dep_at ho hdep 2 ⟨46, .chain⟩ rfl rfl))) (P8.out W (ch_good hI)) (fun K hK => op_call2 (ch_con hI hsz 47 rfl (dep_at ho hdep 0 ⟨47, .data⟩ rfl rfl)) (ch_con hI hsz 48 rfl (dep_at ho hdep 1 ⟨48, .data⟩ rfl rfl)) enter_impl_VecSub hK)
        | 50, _, ho, hLi =>
          exact chs_con 50 (.agg #[.int .i64 c.b, .slice c.s c.n c.c]) hI rfl rfl (want_of rfl rfl rfl (ch_con hI hsz 46 rfl (dep_at ho hdep 0 ⟨46, .guard⟩ rfl rfl))) (fun K hK => op_load ((ch_out hI 7 (Or.inl (show (7 : Nat) < 62 by decide))).trans e7) (KBc W (ch_good hI)).1 (KBc W (ch_good hI)).2 hK)
        | 51, _, ho, hLi =>
          exact chs_con 51 (.agg #[.int .i64 d.b, .slice d.s d.n d.c]) hI rfl rfl (want_of rfl rfl rfl (ch_con hI hsz 46 rfl (dep_at ho hdep 0 ⟨46, .guard⟩ rfl rfl))) (fun K hK => op_load ((ch_out hI 8 (Or.inl (show (8 : Nat) < 62 by decide))).trans e8) (KBd W (ch_good hI)).1 (KBd W (ch_good hI)).2 hK)
        | 52, _, ho, hLi =>
          exact chs_vec 52 hI rfl rfl (want_of rfl rfl rfl (ch_con hI hsz 46 rfl (dep_at ho hdep 3 ⟨46, .guard⟩ rfl rfl))) (P9.out W (ch_good hI)) (fun K hK => op_call2 (ch_con hI hsz 50 rfl (dep_at ho hdep 0 ⟨50, .data⟩ rfl rfl)) (ch_con hI hsz 51 rfl (dep_at ho hdep 1 ⟨51, .data⟩ rfl rfl)) enter_spec_VecSub hK)
        | 53, _, ho, hLi =>
          obtain ⟨so0, co0, g0, r0⟩ := ch_vec hI hsz 49 rfl (dep_at ho hdep 0 ⟨49, .data⟩ rfl rfl)
          obtain ⟨so1, co1, g1, r1⟩ := ch_vec hI hsz 52 rfl (dep_at ho hdep 1 ⟨52, .data⟩ rfl rfl)
          exact chs_call 53 (.bool true) hI rfl rfl (want_of rfl rfl rfl (ch_con hI hsz 46 rfl (dep_at ho hdep 3 ⟨46, .guard⟩ rfl rfl))) (lw_late (ch_good hI) hdn r0 r1) (fun K hK => op_call2 g0 g1 enter_laws_lwVec hK)
        | 54, _, ho, hLi =>
          exact chs_con 54 (.bool false) hI rfl rfl (want_of rfl rfl rfl (ch_con hI hsz 46 rfl (dep_at ho hdep 1 ⟨46, .guard⟩ rfl rfl))) (fun K hK => op_not (ch_con hI hsz 53 rfl (dep_at ho hdep 0 ⟨53, .data⟩ rfl rfl)) hK)
        | 55, _, ho, hLi =>
          exact chs_con 55 (.bool false) hI rfl rfl (want_none rfl) (fun K hK => op_pickOr (ch_con hI hsz 46 rfl (dep_at ho hdep 0 ⟨46, .data⟩ rfl rfl)) (ch_con hI hsz 54 rfl (dep_at ho hdep 1 ⟨54, .data⟩ rfl rfl)) hK)
        | 56, _, ho, hLi =>
          exact chs_con 56 (.bool false) hI rfl rfl (want_none rfl) (fun K hK => op_move (ch_con hI hsz 55 rfl (dep_at ho hdep 0 ⟨55, .data⟩ rfl rfl)) hK)
        | 57, _, ho, hLi =>
          exact chs_con 57 (.agg #[.int .i64 a.b, .slice a.s a.n a.c]) hI rfl rfl (want_of rfl rfl rfl (ch_con hI hsz 56 rfl (dep_at ho hdep 0 ⟨56, .guard⟩ rfl rfl))) (fun K hK => op_load ((ch_out hI 5 (Or.inl (show (5 : Nat) < 62 by decide))).trans e5) (KBa W (ch_good hI)).1 (KBa W (ch_good hI)).2 hK)
        | 58, _, ho, hLi =>
          exact chs_vec 58 hI rfl rfl (want_of rfl rfl rfl (ch_con hI hsz 56 rfl (dep_at ho hdep 1 ⟨56, .chain⟩ rfl rfl))) (PA.out W (ch_good hI)) (fun K hK => op_call1 (ch_con hI hsz 57 rfl (dep_at ho hdep 0 ⟨57, .data⟩ rfl rfl)) enter_impl_VecUp hK)
        | 59, _, ho, hLi =>
          exact chs_con 59 (.agg #[.int .i64 a.b, .slice a.s a.n a.c]) hI rfl rfl (want_of rfl rfl rfl (ch_con hI hsz 56 rfl (dep_at ho hdep 0 ⟨56, .guard⟩ rfl rfl))) (fun K hK => op_load ((ch_out hI 5 (Or.inl (show (5 : Nat) < 62 by decide))).trans e5) (KBa W (ch_good hI)).1 (KBa W (ch_good hI)).2 hK)
        | 60, _, ho, hLi =>
          exact chs_vec 60 hI rfl rfl (want_of rfl rfl rfl (ch_con hI hsz 56 rfl (dep_at ho hdep 2 ⟨56, .guard⟩ rfl rfl))) (PB.out W (ch_good hI)) (fun K hK => op_call1 (ch_con hI hsz 59 rfl (dep_at ho hdep 0 ⟨59, .data⟩ rfl rfl)) enter_spec_VecUp hK)
        | 61, _, ho, hLi =>
          obtain ⟨so0, co0, g0, r0⟩ := ch_vec hI hsz 58 rfl (dep_at ho hdep 0 ⟨58, .data⟩ rfl rfl)
          obtain ⟨so1, co1, g1, r1⟩ := ch_vec hI hsz 60 rfl (dep_at ho hdep 1 ⟨60, .data⟩ rfl rfl)
          exact chs_call 61 (.bool true) hI rfl rfl (want_of rfl rfl rfl (ch_con hI hsz 56 rfl (dep_at ho hdep 3 ⟨56, .guard⟩ rfl rfl))) (lw_late (ch_good hI) hun r0 r1) (fun K hK => op_call2 g0 g1 enter_laws_lwVec hK)
        | 62, _, ho, hLi =>
          exact chs_con 62 (.bool false) hI rfl rfl (want_of rfl rfl rfl (ch_con hI hsz 56 rfl (dep_at ho hdep 1 ⟨56, .guard⟩ rfl rfl))) (fun K hK => op_not (ch_con hI hsz 61 rfl (dep_at ho hdep 0 ⟨61, .data⟩ rfl rfl)) hK)
        | 63, _, ho, hLi =>
          exact chs_con 63 (.bool false) hI rfl rfl (want_none rfl) (fun K hK => op_pickOr (ch_con hI hsz 56 rfl (dep_at ho hdep 0 ⟨56, .data⟩ rfl rfl)) (ch_con hI hsz 62 rfl (dep_at ho hdep 1 ⟨62, .data⟩ rfl rfl)) hK)
        | 64, _, ho, hLi =>
          exact chs_con 64 (.bool false) hI rfl rfl (want_none rfl) (fun K hK => op_move (ch_con hI hsz 63 rfl (dep_at ho hdep 0 ⟨63, .data⟩ rfl rfl)) hK)
        | 65, _, ho, hLi =>
          exact chs_con 65 (.agg #[.int .i64 a.b, .slice a.s a.n a.c]) hI rfl rfl (want_of rfl rfl rfl (ch_con hI hsz 64 rfl (dep_at ho hdep 0 ⟨64, .guard⟩ rfl rfl))) (fun K hK => op_load ((ch_out hI 5 (Or.inl (show (5 : Nat) < 62 by decide))).trans e5) (KBa W (ch_good hI)).1 (KBa W (ch_good hI)).2 hK)
        | 66, _, ho, hLi =>
          exact chs_call 66 (.int .i64 lo) hI rfl rfl (want_of rfl rfl rfl (ch_con hI hsz 64 rfl (dep_at ho hdep 1 ⟨64, .chain⟩ rfl rfl))) (PC.out W (ch_good hI)) (fun K hK => op_call1 (ch_con hI hsz 65 rfl (dep_at ho hdep 0 ⟨65, .data⟩ rfl rfl)) enter_impl_VecLow hK)
        | 67, _, ho, hLi =>
          exact chs_con 67 (.agg #[.int .i64 a.b, .slice a.s a.n a.c]) hI rfl rfl (want_of rfl rfl rfl (ch_con hI hsz 64 rfl (dep_at ho hdep 0 ⟨64, .guard⟩ rfl rfl))) (fun K hK => op_load ((ch_out hI 5 (Or.inl (show (5 : Nat) < 62 by decide))).trans e5) (KBa W (ch_good hI)).1 (KBa W (ch_good hI)).2 hK)
        | 68, _, ho, hLi =>
          exact chs_call 68 (.int .i64 lo) hI rfl rfl (want_of rfl rfl rfl (ch_con hI hsz 64 rfl (dep_at ho hdep 2 ⟨64, .guard⟩ rfl rfl))) (PD.out W (ch_good hI)) (fun K hK => op_call1 (ch_con hI hsz 67 rfl (dep_at ho hdep 0 ⟨67, .data⟩ rfl rfl)) enter_spec_VecLow hK)
        | 69, _, ho, hLi =>
          exact chs_con 69 (.bool false) hI rfl rfl (want_of rfl rfl rfl (ch_con hI hsz 64 rfl (dep_at ho hdep 2 ⟨64, .guard⟩ rfl rfl))) (fun K hK => op_neqI (ch_con hI hsz 66 rfl (dep_at ho hdep 0 ⟨66, .data⟩ rfl rfl)) (ch_con hI hsz 68 rfl (dep_at ho hdep 1 ⟨68, .data⟩ rfl rfl)) hK)
        | 70, _, ho, hLi =>
          exact chs_con 70 (.bool false) hI rfl rfl (want_none rfl) (fun K hK => op_pickOr (ch_con hI hsz 64 rfl (dep_at ho hdep 0 ⟨64, .data⟩ rfl rfl)) (ch_con hI hsz 69 rfl (dep_at ho hdep 1 ⟨69, .data⟩ rfl rfl)) hK)
        | 71, _, ho, hLi =>
          exact chs_con 71 (.bool false) hI rfl rfl (want_none rfl) (fun K hK => op_move (ch_con hI hsz 70 rfl (dep_at ho hdep 0 ⟨70, .data⟩ rfl rfl)) hK)
        | 72, _, ho, hLi =>
          exact chs_con 72 (.agg #[.int .i64 a.b, .slice a.s a.n a.c]) hI rfl rfl (want_of rfl rfl rfl (ch_con hI hsz 71 rfl (dep_at ho hdep 0 ⟨71, .guard⟩ rfl rfl))) (fun K hK => op_load ((ch_out hI 5 (Or.inl (show (5 : Nat) < 62 by decide))).trans e5) (KBa W (ch_good hI)).1 (KBa W (ch_good hI)).2 hK)
        | 73, _, ho, hLi =>
          exact chs_call 73 (.int .i64 hi) hI rfl rfl (want_of rfl rfl rfl (ch_con hI hsz 71 rfl (dep_at ho hdep 1 ⟨71, .chain⟩ rfl rfl))) (PE.out W (ch_good hI)) (fun K hK => op_call1 (ch_con hI hsz 72 rfl (dep_at ho hdep 0 ⟨72, .data⟩ rfl rfl)) enter_impl_VecHigh hK)
        | 74, _, ho, hLi =>
          exact chs_con 74 (.agg #[.int .i64 a.b, .slice a.s a.n a.c]) hI rfl rfl (want_of rfl rfl rfl (ch_con hI hsz 71 rfl (dep_at ho hdep 0 ⟨71, .guard⟩ rfl rfl))) (fun K hK => op_load ((ch_out hI 5 (Or.inl (show (5 : Nat) < 62 by decide))).trans e5) (KBa W (ch_good hI)).1 (KBa W (ch_good hI)).2 hK)
        | 75, _, ho, hLi =>
          exact chs_call 75 (.int .i64 hi) hI rfl rfl (want_of rfl rfl rfl (ch_con hI hsz 71 rfl (dep_at ho hdep 2 ⟨71, .guard⟩ rfl rfl))) (PF.out W (ch_good hI)) (fun K hK => op_call1 (ch_con hI hsz 74 rfl (dep_at ho hdep 0 ⟨74, .data⟩ rfl rfl)) enter_spec_VecHigh hK)
        | 76, _, ho, hLi =>
          exact chs_con 76 (.bool false) hI rfl rfl (want_of rfl rfl rfl (ch_con hI hsz 71 rfl (dep_at ho hdep 2 ⟨71, .guard⟩ rfl rfl))) (fun K hK => op_neqI (ch_con hI hsz 73 rfl (dep_at ho hdep 0 ⟨73, .data⟩ rfl rfl)) (ch_con hI hsz 75 rfl (dep_at ho hdep 1 ⟨75, .data⟩ rfl rfl)) hK)
        | 77, _, ho, hLi =>
          exact chs_con 77 (.bool false) hI rfl rfl (want_none rfl) (fun K hK => op_pickOr (ch_con hI hsz 71 rfl (dep_at ho hdep 0 ⟨71, .data⟩ rfl rfl)) (ch_con hI hsz 76 rfl (dep_at ho hdep 1 ⟨76, .data⟩ rfl rfl)) hK)
        | 78, _, ho, hLi =>
          exact chs_con 78 (.bool false) hI rfl rfl (want_none rfl) (fun K hK => op_move (ch_con hI hsz 77 rfl (dep_at ho hdep 0 ⟨77, .data⟩ rfl rfl)) hK)
        | 79, _, ho, hLi =>
          exact chs_con 79 (.agg #[.int .i64 a.b, .slice a.s a.n a.c]) hI rfl rfl (want_of rfl rfl rfl (ch_con hI hsz 78 rfl (dep_at ho hdep 0 ⟨78, .guard⟩ rfl rfl))) (fun K hK => op_load ((ch_out hI 5 (Or.inl (show (5 : Nat) < 62 by decide))).trans e5) (KBa W (ch_good hI)).1 (KBa W (ch_good hI)).2 hK)
        | 80, _, ho, hLi =>
          exact chs_call 80 (.int .i64 (ka : Int)) hI rfl rfl (want_of rfl rfl rfl (ch_con hI hsz 78 rfl (dep_at ho hdep 1 ⟨78, .chain⟩ rfl rfl))) (PG.out W (ch_good hI)) (fun K hK => op_call1 (ch_con hI hsz 79 rfl (dep_at ho hdep 0 ⟨79, .data⟩ rfl rfl)) enter_impl_VecCount hK)
        | 81, _, ho, hLi =>
          exact chs_con 81 (.agg #[.int .i64 a.b, .slice a.s a.n a.c]) hI rfl rfl (want_of rfl rfl rfl (ch_con hI hsz 78 rfl (dep_at ho hdep 0 ⟨78, .guard⟩ rfl rfl))) (fun K hK => op_load ((ch_out hI 5 (Or.inl (show (5 : Nat) < 62 by decide))).trans e5) (KBa W (ch_good hI)).1 (KBa W (ch_good hI)).2 hK)
        | 82, _, ho, hLi =>
          exact chs_call 82 (.int .i64 (ka : Int)) hI rfl rfl (want_of rfl rfl rfl (ch_con hI hsz 78 rfl (dep_at ho hdep 2 ⟨78, .guard⟩ rfl rfl))) (PH.out W (ch_good hI)) (fun K hK => op_call1 (ch_con hI hsz 81 rfl (dep_at ho hdep 0 ⟨81, .data⟩ rfl rfl)) enter_spec_VecCount hK)
        | 83, _, ho, hLi =>
          exact chs_con 83 (.bool false) hI rfl rfl (want_of rfl rfl rfl (ch_con hI hsz 78 rfl (dep_at ho hdep 2 ⟨78, .guard⟩ rfl rfl))) (fun K hK => op_neqI (ch_con hI hsz 80 rfl (dep_at ho hdep 0 ⟨80, .data⟩ rfl rfl)) (ch_con hI hsz 82 rfl (dep_at ho hdep 1 ⟨82, .data⟩ rfl rfl)) hK)
        | 84, _, ho, hLi =>
          exact chs_con 84 (.bool false) hI rfl rfl (want_none rfl) (fun K hK => op_pickOr (ch_con hI hsz 78 rfl (dep_at ho hdep 0 ⟨78, .data⟩ rfl rfl)) (ch_con hI hsz 83 rfl (dep_at ho hdep 1 ⟨83, .data⟩ rfl rfl)) hK)
        | 85, _, ho, hLi =>
          exact chs_con 85 (.bool false) hI rfl rfl (want_none rfl) (fun K hK => op_move (ch_con hI hsz 84 rfl (dep_at ho hdep 0 ⟨84, .data⟩ rfl rfl)) hK)
        | 86, _, ho, hLi =>
          exact chs_con 86 (.agg #[.int .i64 v.b, .slice v.s v.n v.c]) hI rfl rfl (want_of rfl rfl rfl (ch_con hI hsz 85 rfl (dep_at ho hdep 0 ⟨85, .guard⟩ rfl rfl))) (fun K hK => op_load ((ch_out hI 9 (Or.inl (show (9 : Nat) < 62 by decide))).trans e9) (KBv W (ch_good hI)).1 (KBv W (ch_good hI)).2 hK)
        | 87, _, ho, hLi =>
          exact chs_call 87 (.bool rv) hI rfl rfl (want_of rfl rfl rfl (ch_con hI hsz 85 rfl (dep_at ho hdep 1 ⟨85, .chain⟩ rfl rfl))) (PI.out W (ch_good hI)) (fun K hK => op_call1 (ch_con hI hsz 86 rfl (dep_at ho hdep 0 ⟨86, .data⟩ rfl rfl)) enter_impl_VecRight hK)
        | 88, _, ho, hLi =>
          exact chs_con 88 (.agg #[.int .i64 v.b, .slice v.s v.n v.c]) hI rfl rfl (want_of rfl rfl rfl (ch_con hI hsz 85 rfl (dep_at ho hdep 0 ⟨85, .guard⟩ rfl rfl))) (fun K hK => op_load ((ch_out hI 9 (Or.inl (show (9 : Nat) < 62 by decide))).trans e9) (KBv W (ch_good hI)).1 (KBv W (ch_good hI)).2 hK)
        | 89, _, ho, hLi =>
          exact chs_call 89 (.bool rv) hI rfl rfl (want_of rfl rfl rfl (ch_con hI hsz 85 rfl (dep_at ho hdep 2 ⟨85, .guard⟩ rfl rfl))) (PJ.out W (ch_good hI)) (fun K hK => op_call1 (ch_con hI hsz 88 rfl (dep_at ho hdep 0 ⟨88, .data⟩ rfl rfl)) enter_spec_VecRight hK)
        | 90, _, ho, hLi =>
          exact chs_con 90 (.bool false) hI rfl rfl (want_of rfl rfl rfl (ch_con hI hsz 85 rfl (dep_at ho hdep 2 ⟨85, .guard⟩ rfl rfl))) (fun K hK => op_neqBs (ch_con hI hsz 87 rfl (dep_at ho hdep 0 ⟨87, .data⟩ rfl rfl)) (ch_con hI hsz 89 rfl (dep_at ho hdep 1 ⟨89, .data⟩ rfl rfl)) hK)
        | 91, _, ho, hLi =>
          exact chs_con 91 (.bool false) hI rfl rfl (want_none rfl) (fun K hK => op_pickOr (ch_con hI hsz 85 rfl (dep_at ho hdep 0 ⟨85, .data⟩ rfl rfl)) (ch_con hI hsz 90 rfl (dep_at ho hdep 1 ⟨90, .data⟩ rfl rfl)) hK)
        | 92, _, ho, hLi =>
          exact chs_con 92 (.bool false) hI rfl rfl (want_none rfl) (fun K hK => op_move (ch_con hI hsz 91 rfl (dep_at ho hdep 0 ⟨91, .data⟩ rfl rfl)) hK)
        | 93, _, ho, hLi =>
          exact chs_con 93 (.agg #[.int .i64 v.b, .slice v.s v.n v.c]) hI rfl rfl (want_of rfl rfl rfl (ch_con hI hsz 92 rfl (dep_at ho hdep 0 ⟨92, .guard⟩ rfl rfl))) (fun K hK => op_load ((ch_out hI 9 (Or.inl (show (9 : Nat) < 62 by decide))).trans e9) (KBv W (ch_good hI)).1 (KBv W (ch_good hI)).2 hK)
        | 94, _, ho, hLi =>
          exact chs_con 94 (.int .i64 ii) hI rfl rfl (want_of rfl rfl rfl (ch_con hI hsz 92 rfl (dep_at ho hdep 0 ⟨92, .guard⟩ rfl rfl))) (fun K hK => op_move ((ch_out hI 10 (Or.inl (show (10 : Nat) < 62 by decide))).trans e10) hK)
        | 95, _, ho, hLi =>
          exact chs_call 95 (.bool gv) hI rfl rfl (want_of rfl rfl rfl (ch_con hI hsz 92 rfl (dep_at ho hdep 2 ⟨92, .chain⟩ rfl rfl))) (PK.out W (ch_good hI)) (fun K hK => op_call2 (ch_con hI hsz 93 rfl (dep_at ho hdep 0 ⟨93, .data⟩ rfl rfl)) (ch_con hI hsz 94 rfl (dep_at ho hdep 1 ⟨94, .data⟩ rfl rfl)) enter_impl_VecGet hK)
        | 96, _, ho, hLi =>
          exact chs_con 96 (.agg #[.int .i64 v.b, .slice v.s v.n v.c]) hI rfl rfl (want_of rfl rfl rfl (ch_con hI hsz 92 rfl (dep_at ho hdep 0 ⟨92, .guard⟩ rfl rfl))) (fun K hK => op_load ((ch_out hI 9 (Or.inl (show (9 : Nat) < 62 by decide))).trans e9) (KBv W (ch_good hI)).1 (KBv W (ch_good hI)).2 hK)
        | 97, _, ho, hLi =>
          exact chs_con 97 (.int .i64 ii) hI rfl rfl (want_of rfl rfl rfl (ch_con hI hsz 92 rfl (dep_at ho hdep 0 ⟨92, .guard⟩ rfl rfl))) (fun K hK => op_move ((ch_out hI 10 (Or.inl (show (10 : Nat) < 62 by decide))).trans e10) hK)
        | 98, _, ho, hLi =>
          exact chs_call 98 (.bool gv) hI rfl rfl (want_of rfl rfl rfl (ch_con hI hsz 92 rfl (dep_at ho hdep 3 ⟨92, .guard⟩ rfl rfl))) (PL.out W (ch_good hI)) (fun K hK => op_call2 (ch_con hI hsz 96 rfl (dep_at ho hdep 0 ⟨96, .data⟩ rfl rfl)) (ch_con hI hsz 97 rfl (dep_at ho hdep 1 ⟨97, .data⟩ rfl rfl)) enter_spec_VecGet hK)
        | 99, _, ho, hLi =>
          exact chs_con 99 (.bool false) hI rfl rfl (want_of rfl rfl rfl (ch_con hI hsz 92 rfl (dep_at ho hdep 2 ⟨92, .guard⟩ rfl rfl))) (fun K hK => op_neqBs (ch_con hI hsz 95 rfl (dep_at ho hdep 0 ⟨95, .data⟩ rfl rfl)) (ch_con hI hsz 98 rfl (dep_at ho hdep 1 ⟨98, .data⟩ rfl rfl)) hK)
        | 100, _, ho, hLi =>
          exact chs_con 100 (.bool false) hI rfl rfl (want_none rfl) (fun K hK => op_pickOr (ch_con hI hsz 92 rfl (dep_at ho hdep 0 ⟨92, .data⟩ rfl rfl)) (ch_con hI hsz 99 rfl (dep_at ho hdep 1 ⟨99, .data⟩ rfl rfl)) hK)
        | k + 101, hlt, _, _ => exact absurd hlt (by omega)
      · intro L ac W hall hI
        obtain ⟨V, rfl, hg, hV⟩ := hI
        have hlast : V 162 = .bool false := hV 100 _ rfl (hall 100 (by decide))
        clear hV
        subst ha0
        simp only [putL, List.range', List.length_cons, List.length_nil, Act.put, List.setIfInBounds_toArray, List.set_cons_zero, List.set_cons_succ, hlast]
        have hL9 := hg
        obtain ⟨rc, hrc, _, RC⟩ := right_both SC.out
        obtain ⟨rd, hrd, _, RD⟩ := right_both SD.out
        obtain ⟨ra, hra, _, RA⟩ := right_both SA.out
        obtain ⟨rb, hrb, _, RB⟩ := right_both SB.out
        go_upto_region 11 with fail
        go_cut [172] (fun v wc => v = .bool false ∧ LateV wZ wc)
        case first =>
          as_aux_lemma =>
            obtain ⟨ct0, ct1⟩ := KT _ hL9
            by_cases ht0 : 0 < t.b
            · have G := (get_both ST.out ii on (HT3'.out ht0)).1
              go_wp2_with (first | (go_at_call 34; refine Calls.mono (G _ (by assumption)) ?_; rintro e w' ⟨rfl, hL, hb⟩))
              go_meet
              exact ⟨rfl, by assumption⟩
            · go_wp2_with fail
              go_meet
              exact ⟨rfl, hL9⟩
        case rest =>
          as_aux_lemma =>
            obtain ⟨rfl, hLb⟩ := hcut
            go_upto_region 13 with fail
            go_cut [195] (fun v wc => v = .bool false ∧ LateV wZ wc)
            case first =>
              as_aux_lemma =>
                cases hrc' : rc with
                | false =>
                  rw [hrc'] at RC
                  refine region_frame (fun a0 ha0 => ?_)
                  have e7 : a0.tmps[7]? = some (.pointer (some ⟨p7, 0, none⟩)) := by rw [ha0]; rfl
                  have hz0 : a0.tmps.size = 290 := by rw [ha0]; rfl
                  have hsz0 : 173 + 23 ≤ a0.tmps.size := by omega
                  refine wp_region_inv (by kernel_rfl) (ChI ⟨fun W => LateV wZ W, a0, 173, [.con (.agg #[.int .i64 c.b, .slice c.s c.n c.c]), .con (.bool false), .con (.bool false), .con (undef), .con (undef), .con (.bool false), .con (.bool false), .con (undef), .con (undef), .con (undef), .con (undef), .con (undef), .con (.bool false), .con (.bool false), .con (undef), .con (undef), .con (undef), .con (undef), .con (undef), .con (undef), .con (undef), .con (undef), .con (.bool false)]⟩) (acyc_of (by kernel_rfl)) (ch_start hLb.drew) ?_ ?_
                  · clear ha0
                    intro L ac W i o ho hLi hdep hI
                    have hsz : (173 : Nat) + 23 ≤ a0.tmps.size := hsz0
                    have hlt : i < 23 := (Array.getElem?_eq_some_iff.1 ho).1
                    match i, hlt, ho, hLi with
                    | 0, _, ho, hLi =>
                      exact chs_con 0 (.agg #[.int .i64 c.b, .slice c.s c.n c.c]) hI rfl rfl (want_none rfl) (fun K hK => op_load ((ch_out hI 7 (Or.inl (show (7 : Nat) < 173 by decide))).trans e7) (KBc W (ch_good hI)).1 (KBc W (ch_good hI)).2 hK)
                    | 1, _, ho, hLi =>
                      exact chs_call 1 (.bool false) hI rfl rfl (want_none rfl) ((RC W (ch_good hI))) (fun K hK => op_call1 (ch_con hI hsz 0 rfl (dep_at ho hdep 0 ⟨0, .data⟩ rfl rfl)) enter_spec_VecRight hK)
                    | 2, _, ho, hLi =>
                      exact chs_con 2 (.bool false) hI rfl rfl (want_none rfl) (fun K hK => op_move (ch_con hI hsz 1 rfl (dep_at ho hdep 0 ⟨1, .data⟩ rfl rfl)) hK)
                    | 3, _, ho, hLi =>
                      exact chs_skip 3 hI rfl rfl rfl (unwant_of rfl rfl rfl (ch_con hI hsz 2 rfl (dep_at ho hdep 0 ⟨2, .guard⟩ rfl rfl)) rfl)
                    | 4, _, ho, hLi =>
                      exact chs_skip 4 hI rfl rfl rfl (unwant_of rfl rfl rfl (ch_con hI hsz 2 rfl (dep_at ho hdep 1 ⟨2, .chain⟩ rfl rfl)) rfl)
                    | 5, _, ho, hLi =>
                      exact chs_con 5 (.bool false) hI rfl rfl (want_none rfl) (fun K hK => op_pickAnd0 (ch_con hI hsz 2 rfl (dep_at ho hdep 0 ⟨2, .data⟩ rfl rfl)) hK)
                    | 6, _, ho, hLi =>
                      exact chs_con 6 (.bool false) hI rfl rfl (want_none rfl) (fun K hK => op_move (ch_con hI hsz 5 rfl (dep_at ho hdep 0 ⟨5, .data⟩ rfl rfl)) hK)
                    | 7, _, ho, hLi =>
                      exact chs_skip 7 hI rfl rfl rfl (unwant_of rfl rfl rfl (ch_con hI hsz 6 rfl (dep_at ho hdep 0 ⟨6, .guard⟩ rfl rfl)) rfl)
                    | 8, _, ho, hLi =>
                      exact chs_skip 8 hI rfl rfl rfl (unwant_of rfl rfl rfl (ch_con hI hsz 6 rfl (dep_at ho hdep 1 ⟨6, .guard⟩ rfl rfl)) rfl)
                    | 9, _, ho, hLi =>
                      exact chs_skip 9 hI rfl rfl rfl (unwant_of rfl rfl rfl (ch_con hI hsz 6 rfl (dep_at ho hdep 0 ⟨6, .guard⟩ rfl rfl)) rfl)
                    | 10, _, ho, hLi =>
                      exact chs_skip 10 hI rfl rfl rfl (unwant_of rfl rfl rfl (ch_con hI hsz 6 rfl (dep_at ho hdep 1 ⟨6, .guard⟩ rfl rfl)) rfl)
                    | 11, _, ho, hLi =>
                      exact chs_skip 11 hI rfl rfl rfl (unwant_of rfl rfl rfl (ch_con hI hsz 6 rfl (dep_at ho hdep 2 ⟨6, .guard⟩ rfl rfl)) rfl)
                    | 12, _, ho, hLi =>
                      exact chs_con 12 (.bool false) hI rfl rfl (want_none rfl) (fun K hK => op_pickAnd0 (ch_con hI hsz 6 rfl (dep_at ho hdep 0 ⟨6, .data⟩ rfl rfl)) hK)
                    | 13, _, ho, hLi =>
                      exact chs_con 13 (.bool false) hI rfl rfl (want_none rfl) (fun K hK => op_move (ch_con hI hsz 12 rfl (dep_at ho hdep 0 ⟨12, .data⟩ rfl rfl)) hK)
                    | 14, _, ho, hLi =>
                      exact chs_skip 14 hI rfl rfl rfl (unwant_of rfl rfl rfl (ch_con hI hsz 13 rfl (dep_at ho hdep 0 ⟨13, .guard⟩ rfl rfl)) rfl)
                    | 15, _, ho, hLi =>
                      exact chs_skip 15 hI rfl rfl rfl (unwant_of rfl rfl rfl (ch_con hI hsz 13 rfl (dep_at ho hdep 0 ⟨13, .guard⟩ rfl rfl)) rfl)
                    | 16, _, ho, hLi =>
                      exact chs_skip 16 hI rfl rfl rfl (unwant_of rfl rfl rfl (ch_con hI hsz 13 rfl (dep_at ho hdep 2 ⟨13, .chain⟩ rfl rfl)) rfl)
                    | 17, _, ho, hLi =>
                      exact chs_skip 17 hI rfl rfl rfl (unwant_of rfl rfl rfl (ch_con hI hsz 13 rfl (dep_at ho hdep 0 ⟨13, .guard⟩ rfl rfl)) rfl)
                    | 18, _, ho, hLi =>
                      exact chs_skip 18 hI rfl rfl rfl (unwant_of rfl rfl rfl (ch_con hI hsz 13 rfl (dep_at ho hdep 3 ⟨13, .guard⟩ rfl rfl)) rfl)
                    | 19, _, ho, hLi =>
                      exact chs_skip 19 hI rfl rfl rfl (unwant_of rfl rfl rfl (ch_con hI hsz 13 rfl (dep_at ho hdep 0 ⟨13, .guard⟩ rfl rfl)) rfl)
                    | 20, _, ho, hLi =>
                      exact chs_skip 20 hI rfl rfl rfl (unwant_of rfl rfl rfl (ch_con hI hsz 13 rfl (dep_at ho hdep 3 ⟨13, .guard⟩ rfl rfl)) rfl)
                    | 21, _, ho, hLi =>
                      exact chs_skip 21 hI rfl rfl rfl (unwant_of rfl rfl rfl (ch_con hI hsz 13 rfl (dep_at ho hdep 1 ⟨13, .guard⟩ rfl rfl)) rfl)
                    | 22, _, ho, hLi =>
                      exact chs_con 22 (.bool false) hI rfl rfl (want_none rfl) (fun K hK => op_pickAnd0 (ch_con hI hsz 13 rfl (dep_at ho hdep 0 ⟨13, .data⟩ rfl rfl)) hK)
                    | m + 23, hlt, _, _ => exact absurd hlt (by omega)
                  · intro L ac W hall hI
                    obtain ⟨V, rfl, hg, hV⟩ := hI
                    have hlast : V 195 = .bool false := hV 22 _ rfl (hall 22 (by decide))
                    clear hV
                    subst ha0
                    simp only [putL, List.range', List.length_cons, List.length_nil, Act.put, List.setIfInBounds_toArray, List.set_cons_zero, List.set_cons_succ]
                    go_wp2_with fail
                    go_meet
                    exact ⟨rfl, hg⟩
                | true =>
                  rw [hrc'] at RC
                  cases hrd' : rd with
                  | false =>
                    rw [hrd'] at RD
                    refine region_frame (fun a0 ha0 => ?_)
                    have e7 : a0.tmps[7]? = some (.pointer (some ⟨p7, 0, none⟩)) := by rw [ha0]; rfl
                    have e8 : a0.tmps[8]? = some (.pointer (some ⟨p7 + 1, 0, none⟩)) := by rw [ha0]; rfl
                    have hz0 : a0.tmps.size = 290 := by rw [ha0]; rfl
                    have hsz0 : 173 + 23 ≤ a0.tmps.size := by omega
                    refine wp_region_inv (by kernel_rfl) (ChI ⟨fun W => LateV wZ W, a0, 173, [.con (.agg #[.int .i64 c.b, .slice c.s c.n c.c]), .con (.bool true), .con (.bool true), .con (.agg #[.int .i64 d.b, .slice d.s d.n d.c]), .con (.bool false), .con (.bool false), .con (.bool false), .con (undef), .con (undef), .con (undef), .con (undef), .con (undef), .con (.bool false), .con (.bool false), .con (undef), .con (undef), .con (undef), .con (undef), .con (undef), .con (undef), .con (undef), .con (undef), .con (.bool false)]⟩) (acyc_of (by kernel_rfl)) (ch_start hLb.drew) ?_ ?_
                    · clear ha0
                      intro L ac W i o ho hLi hdep hI
                      have hsz : (173 : Nat) + 23 ≤ a0.tmps.size := hsz0
                      have hlt : i < 23 := (Array.getElem?_eq_some_iff.1 ho).1
                      match i, hlt, ho, hLi with
                      | 0, _, ho, hLi =>
                        exact chs_con 0 (.agg #[.int .i64 c.b, .slice c.s c.n c.c]) hI rfl rfl (want_none rfl) (fun K hK => op_load ((ch_out hI 7 (Or.inl (show (7 : Nat) < 173 by decide))).trans e7) (KBc W (ch_good hI)).1 (KBc W (ch_good hI)).2 hK)
                      | 1, _, ho, hLi =>
                        exact chs_call 1 (.bool true) hI rfl rfl (want_none rfl) ((RC W (ch_good hI))) (fun K hK => op_call1 (ch_con hI hsz 0 rfl (dep_at ho hdep 0 ⟨0, .data⟩ rfl rfl)) enter_spec_VecRight hK)
                      | 2, _, ho, hLi =>
                        exact chs_con 2 (.bool true) hI rfl rfl (want_none rfl) (fun K hK => op_move (ch_con hI hsz 1 rfl (dep_at ho hdep 0 ⟨1, .data⟩ rfl rfl)) hK)
                      | 3, _, ho, hLi =>
                        exact chs_con 3 (.agg #[.int .i64 d.b, .slice d.s d.n d.c]) hI rfl rfl (want_of rfl rfl rfl (ch_con hI hsz 2 rfl (dep_at ho hdep 0 ⟨2, .guard⟩ rfl rfl))) (fun K hK => op_load ((ch_out hI 8 (Or.inl (show (8 : Nat) < 173 by decide))).trans e8) (KBd W (ch_good hI)).1 (KBd W (ch_good hI)).2 hK)
                      | 4, _, ho, hLi =>
                        exact chs_call 4 (.bool false) hI rfl rfl (want_of rfl rfl rfl (ch_con hI hsz 2 rfl (dep_at ho hdep 1 ⟨2, .chain⟩ rfl rfl))) ((RD W (ch_good hI))) (fun K hK => op_call1 (ch_con hI hsz 3 rfl (dep_at ho hdep 0 ⟨3, .data⟩ rfl rfl)) enter_spec_VecRight hK)
                      | 5, _, ho, hLi =>
                        exact chs_con 5 (.bool false) hI rfl rfl (want_none rfl) (fun K hK => op_pickAnd1 (ch_con hI hsz 2 rfl (dep_at ho hdep 0 ⟨2, .data⟩ rfl rfl)) (ch_con hI hsz 4 rfl (dep_at ho hdep 1 ⟨4, .data⟩ rfl rfl)) hK)
                      | 6, _, ho, hLi =>
                        exact chs_con 6 (.bool false) hI rfl rfl (want_none rfl) (fun K hK => op_move (ch_con hI hsz 5 rfl (dep_at ho hdep 0 ⟨5, .data⟩ rfl rfl)) hK)
                      | 7, _, ho, hLi =>
                        exact chs_skip 7 hI rfl rfl rfl (unwant_of rfl rfl rfl (ch_con hI hsz 6 rfl (dep_at ho hdep 0 ⟨6, .guard⟩ rfl rfl)) rfl)
                      | 8, _, ho, hLi =>
                        exact chs_skip 8 hI rfl rfl rfl (unwant_of rfl rfl rfl (ch_con hI hsz 6 rfl (dep_at ho hdep 1 ⟨6, .guard⟩ rfl rfl)) rfl)
                      | 9, _, ho, hLi =>
                        exact chs_skip 9 hI rfl rfl rfl (unwant_of rfl rfl rfl (ch_con hI hsz 6 rfl (dep_at ho hdep 0 ⟨6, .guard⟩ rfl rfl)) rfl)
                      | 10, _, ho, hLi =>
                        exact chs_skip 10 hI rfl rfl rfl (unwant_of rfl rfl rfl (ch_con hI hsz 6 rfl (dep_at ho hdep 1 ⟨6, .guard⟩ rfl rfl)) rfl)
                      | 11, _, ho, hLi =>
                        exact chs_skip 11 hI rfl rfl rfl (unwant_of rfl rfl rfl (ch_con hI hsz 6 rfl (dep_at ho hdep 2 ⟨6, .guard⟩ rfl rfl)) rfl)
                      | 12, _, ho, hLi =>
                        exact chs_con 12 (.bool false) hI rfl rfl (want_none rfl) (fun K hK => op_pickAnd0 (ch_con hI hsz 6 rfl (dep_at ho hdep 0 ⟨6, .data⟩ rfl rfl)) hK)
                      | 13, _, ho, hLi =>
                        exact chs_con 13 (.bool false) hI rfl rfl (want_none rfl) (fun K hK => op_move (ch_con hI hsz 12 rfl (dep_at ho hdep 0 ⟨12, .data⟩ rfl rfl)) hK)
                      | 14, _, ho, hLi =>
                        exact chs_skip 14 hI rfl rfl rfl (unwant_of rfl rfl rfl (ch_con hI hsz 13 rfl (dep_at ho hdep 0 ⟨13, .guard⟩ rfl rfl)) rfl)
                      | 15, _, ho, hLi =>
                        exact chs_skip 15 hI rfl rfl rfl (unwant_of rfl rfl rfl (ch_con hI hsz 13 rfl (dep_at ho hdep 0 ⟨13, .guard⟩ rfl rfl)) rfl)
                      | 16, _, ho, hLi =>
                        exact chs_skip 16 hI rfl rfl rfl (unwant_of rfl rfl rfl (ch_con hI hsz 13 rfl (dep_at ho hdep 2 ⟨13, .chain⟩ rfl rfl)) rfl)
                      | 17, _, ho, hLi =>
                        exact chs_skip 17 hI rfl rfl rfl (unwant_of rfl rfl rfl (ch_con hI hsz 13 rfl (dep_at ho hdep 0 ⟨13, .guard⟩ rfl rfl)) rfl)
                      | 18, _, ho, hLi =>
                        exact chs_skip 18 hI rfl rfl rfl (unwant_of rfl rfl rfl (ch_con hI hsz 13 rfl (dep_at ho hdep 3 ⟨13, .guard⟩ rfl rfl)) rfl)
                      | 19, _, ho, hLi =>
                        exact chs_skip 19 hI rfl rfl rfl (unwant_of rfl rfl rfl (ch_con hI hsz 13 rfl (dep_at ho hdep 0 ⟨13, .guard⟩ rfl rfl)) rfl)
                      | 20, _, ho, hLi =>
                        exact chs_skip 20 hI rfl rfl rfl (unwant_of rfl rfl rfl (ch_con hI hsz 13 rfl (dep_at ho hdep 3 ⟨13, .guard⟩ rfl rfl)) rfl)
                      | 21, _, ho, hLi =>
                        exact chs_skip 21 hI rfl rfl rfl (unwant_of rfl rfl rfl (ch_con hI hsz 13 rfl (dep_at ho hdep 1 ⟨13, .guard⟩ rfl rfl)) rfl)
                      | 22, _, ho, hLi =>
                        exact chs_con 22 (.bool false) hI rfl rfl (want_none rfl) (fun K hK => op_pickAnd0 (ch_con hI hsz 13 rfl (dep_at ho hdep 0 ⟨13, .data⟩ rfl rfl)) hK)
                      | m + 23, hlt, _, _ => exact absurd hlt (by omega)
                    · intro L ac W hall hI
                      obtain ⟨V, rfl, hg, hV⟩ := hI
                      have hlast : V 195 = .bool false := hV 22 _ rfl (hall 22 (by decide))
                      clear hV
                      subst ha0
                      simp only [putL, List.range', List.length_cons, List.length_nil, Act.put, List.setIfInBounds_toArray, List.set_cons_zero, List.set_cons_succ]
                      go_wp2_with fail
                      go_meet
                      exact ⟨rfl, hg⟩
                  | true =>
                    rw [hrd'] at RD
                    have hRc : RightV c := hrc.1 hrc'
                    have hRd : RightV d := hrd.1 hrd'
                    have hcn := (SC.out _ LZ).1
                    by_cases heq : c.b = d.b
                    · have hbb : (c.b == d.b) = true := by simpa using heq
                      have d3 := D3'.out hRc hRd heq
                      have PS : Hid (GivesV wZ 22 #[.agg #[.int .i64 c.b, .slice c.s c.n c.c], .agg #[.int .i64 d.b, .slice d.s d.n d.c]] c.b c.n (cutF c.b c.n (sumF 1 c.f (cutF c.b c.n (notF d.f))))) := by
                        have h := P8.out
                        rw [d3.1, d3.2.1, d3.2.2] at h
                        exact h
                      clear d3
                      refine region_frame (fun a0 ha0 => ?_)
                      have e7 : a0.tmps[7]? = some (.pointer (some ⟨p7, 0, none⟩)) := by rw [ha0]; rfl
                      have e8 : a0.tmps[8]? = some (.pointer (some ⟨p7 + 1, 0, none⟩)) := by rw [ha0]; rfl
                      have hz0 : a0.tmps.size = 290 := by rw [ha0]; rfl
                      have hsz0 : 173 + 23 ≤ a0.tmps.size := by omega
                      refine wp_region_inv (by kernel_rfl) (ChI ⟨fun W => LateV wZ W, a0, 173, [.con (.agg #[.int .i64 c.b, .slice c.s c.n c.c]), .con (.bool true), .con (.bool true), .con (.agg #[.int .i64 d.b, .slice d.s d.n d.c]), .con (.bool true), .con (.bool true), .con (.bool true), .con (.pointer (some ⟨p7, 0, none⟩)), .con (.int .i64 c.b), .con (.pointer (some ⟨p7 + 1, 0, none⟩)), .con (.int .i64 d.b), .con (.bool true), .con (.bool true), .con (.bool true), .con (.agg #[.int .i64 c.b, .slice c.s c.n c.c]), .con (.agg #[.int .i64 d.b, .slice d.s d.n d.c]), .vec c.b c.n (cutF c.b c.n (sumF 1 c.f (cutF c.b c.n (notF d.f)))), .con (.agg #[.int .i64 d.b, .slice d.s d.n d.c]), .vec c.b c.n c.f, .con (.agg #[.int .i64 c.b, .slice c.s c.n c.c]), .con (.bool true), .con (.bool false), .con (.bool false)]⟩) (acyc_of (by kernel_rfl)) (ch_start hLb.drew) ?_ ?_
                      · clear ha0
                        intro L ac W i o ho hLi hdep hI
                        have hsz : (173 : Nat) + 23 ≤ a0.tmps.size := hsz0
                        have hlt : i < 23 := (Array.getElem?_eq_some_iff.1 ho).1
                        match i, hlt, ho, hLi with
                        | 0, _, ho, hLi =>
                          exact chs_con 0 (.agg #[.int .i64 c.b, .slice c.s c.n c.c]) hI rfl rfl (want_none rfl) (fun K hK => op_load ((ch_out hI 7 (Or.inl (show (7 : Nat) < 173 by decide))).trans e7) (KBc W (ch_good hI)).1 (KBc W (ch_good hI)).2 hK)
                        | 1, _, ho, hLi =>
                          exact chs_call 1 (.bool true) hI rfl rfl (want_none rfl) ((RC W (ch_good hI))) (fun K hK => op_call1 (ch_con hI hsz 0 rfl (dep_at ho hdep 0 ⟨0, .data⟩ rfl rfl)) enter_spec_VecRight hK)
                        | 2, _, ho, hLi =>
                          exact chs_con 2 (.bool true) hI rfl rfl (want_none rfl) (fun K hK => op_move (ch_con hI hsz 1 rfl (dep_at ho hdep 0 ⟨1, .data⟩ rfl rfl)) hK)
                        | 3, _, ho, hLi =>
                          exact chs_con 3 (.agg #[.int .i64 d.b, .slice d.s d.n d.c]) hI rfl rfl (want_of rfl rfl rfl (ch_con hI hsz 2 rfl (dep_at ho hdep 0 ⟨2, .guard⟩ rfl rfl))) (fun K hK => op_load ((ch_out hI 8 (Or.inl (show (8 : Nat) < 173 by decide))).trans e8) (KBd W (ch_good hI)).1 (KBd W (ch_good hI)).2 hK)
                        | 4, _, ho, hLi =>
                          exact chs_call 4 (.bool true) hI rfl rfl (want_of rfl rfl rfl (ch_con hI hsz 2 rfl (dep_at ho hdep 1 ⟨2, .chain⟩ rfl rfl))) ((RD W (ch_good hI))) (fun K hK => op_call1 (ch_con hI hsz 3 rfl (dep_at ho hdep 0 ⟨3, .data⟩ rfl rfl)) enter_spec_VecRight hK)
                        | 5, _, ho, hLi =>
                          exact chs_con 5 (.bool true) hI rfl rfl (want_none rfl) (fun K hK => op_pickAnd1 (ch_con hI hsz 2 rfl (dep_at ho hdep 0 ⟨2, .data⟩ rfl rfl)) (ch_con hI hsz 4 rfl (dep_at ho hdep 1 ⟨4, .data⟩ rfl rfl)) hK)
                        | 6, _, ho, hLi =>
                          exact chs_con 6 (.bool true) hI rfl rfl (want_none rfl) (fun K hK => op_move (ch_con hI hsz 5 rfl (dep_at ho hdep 0 ⟨5, .data⟩ rfl rfl)) hK)
                        | 7, _, ho, hLi =>
                          exact chs_con 7 (.pointer (some ⟨p7, 0, none⟩)) hI rfl rfl (want_of rfl rfl rfl (ch_con hI hsz 6 rfl (dep_at ho hdep 0 ⟨6, .guard⟩ rfl rfl))) (fun K hK => op_field ((ch_out hI 7 (Or.inl (show (7 : Nat) < 173 by decide))).trans e7) hK)
                        | 8, _, ho, hLi =>
                          exact chs_con 8 (.int .i64 c.b) hI rfl rfl (want_of rfl rfl rfl (ch_con hI hsz 6 rfl (dep_at ho hdep 1 ⟨6, .guard⟩ rfl rfl))) (fun K hK => op_loadI (ch_con hI hsz 7 rfl (dep_at ho hdep 0 ⟨7, .data⟩ rfl rfl)) (KBc W (ch_good hI)).1 hK)
                        | 9, _, ho, hLi =>
                          exact chs_con 9 (.pointer (some ⟨p7 + 1, 0, none⟩)) hI rfl rfl (want_of rfl rfl rfl (ch_con hI hsz 6 rfl (dep_at ho hdep 0 ⟨6, .guard⟩ rfl rfl))) (fun K hK => op_field ((ch_out hI 8 (Or.inl (show (8 : Nat) < 173 by decide))).trans e8) hK)
                        | 10, _, ho, hLi =>
                          exact chs_con 10 (.int .i64 d.b) hI rfl rfl (want_of rfl rfl rfl (ch_con hI hsz 6 rfl (dep_at ho hdep 1 ⟨6, .guard⟩ rfl rfl))) (fun K hK => op_loadI (ch_con hI hsz 9 rfl (dep_at ho hdep 0 ⟨9, .data⟩ rfl rfl)) (KBd W (ch_good hI)).1 hK)
                        | 11, _, ho, hLi =>
                          exact chs_con 11 (.bool true) hI rfl rfl (want_of rfl rfl rfl (ch_con hI hsz 6 rfl (dep_at ho hdep 2 ⟨6, .guard⟩ rfl rfl))) (fun K hK => op_eqlI (ch_con hI hsz 8 rfl (dep_at ho hdep 0 ⟨8, .data⟩ rfl rfl)) (ch_con hI hsz 10 rfl (dep_at ho hdep 1 ⟨10, .data⟩ rfl rfl)) hbb hK)
                        | 12, _, ho, hLi =>
                          exact chs_con 12 (.bool true) hI rfl rfl (want_none rfl) (fun K hK => op_pickAnd1 (ch_con hI hsz 6 rfl (dep_at ho hdep 0 ⟨6, .data⟩ rfl rfl)) (ch_con hI hsz 11 rfl (dep_at ho hdep 1 ⟨11, .data⟩ rfl rfl)) hK)
                        | 13, _, ho, hLi =>
                          exact chs_con 13 (.bool true) hI rfl rfl (want_none rfl) (fun K hK => op_move (ch_con hI hsz 12 rfl (dep_at ho hdep 0 ⟨12, .data⟩ rfl rfl)) hK)
                        | 14, _, ho, hLi =>
                          exact chs_con 14 (.agg #[.int .i64 c.b, .slice c.s c.n c.c]) hI rfl rfl (want_of rfl rfl rfl (ch_con hI hsz 13 rfl (dep_at ho hdep 0 ⟨13, .guard⟩ rfl rfl))) (fun K hK => op_load ((ch_out hI 7 (Or.inl (show (7 : Nat) < 173 by decide))).trans e7) (KBc W (ch_good hI)).1 (KBc W (ch_good hI)).2 hK)
                        | 15, _, ho, hLi =>
                          exact chs_con 15 (.agg #[.int .i64 d.b, .slice d.s d.n d.c]) hI rfl rfl (want_of rfl rfl rfl (ch_con hI hsz 13 rfl (dep_at ho hdep 0 ⟨13, .guard⟩ rfl rfl))) (fun K hK => op_load ((ch_out hI 8 (Or.inl (show (8 : Nat) < 173 by decide))).trans e8) (KBd W (ch_good hI)).1 (KBd W (ch_good hI)).2 hK)
                        | 16, _, ho, hLi =>
                          exact chs_vec 16 hI rfl rfl (want_of rfl rfl rfl (ch_con hI hsz 13 rfl (dep_at ho hdep 2 ⟨13, .chain⟩ rfl rfl))) (PS.out W (ch_good hI)) (fun K hK => op_call2 (ch_con hI hsz 14 rfl (dep_at ho hdep 0 ⟨14, .data⟩ rfl rfl)) (ch_con hI hsz 15 rfl (dep_at ho hdep 1 ⟨15, .data⟩ rfl rfl)) enter_impl_VecSub hK)
                        | 17, _, ho, hLi =>
                          exact chs_con 17 (.agg #[.int .i64 d.b, .slice d.s d.n d.c]) hI rfl rfl (want_of rfl rfl rfl (ch_con hI hsz 13 rfl (dep_at ho hdep 0 ⟨13, .guard⟩ rfl rfl))) (fun K hK => op_load ((ch_out hI 8 (Or.inl (show (8 : Nat) < 173 by decide))).trans e8) (KBd W (ch_good hI)).1 (KBd W (ch_good hI)).2 hK)
                        | 18, _, ho, hLi =>
                          obtain ⟨so0, co0, g0, r0⟩ := ch_vec hI hsz 16 rfl (dep_at ho hdep 0 ⟨16, .data⟩ rfl rfl)
                          exact chs_vec 18 hI rfl rfl (want_of rfl rfl rfl (ch_con hI hsz 13 rfl (dep_at ho hdep 3 ⟨13, .guard⟩ rfl rfl))) (back_again hRc hRd heq SD.out (ch_good hI) r0) (fun K hK => op_call2 g0 (ch_con hI hsz 17 rfl (dep_at ho hdep 1 ⟨17, .data⟩ rfl rfl)) enter_impl_VecAdd hK)
                        | 19, _, ho, hLi =>
                          exact chs_con 19 (.agg #[.int .i64 c.b, .slice c.s c.n c.c]) hI rfl rfl (want_of rfl rfl rfl (ch_con hI hsz 13 rfl (dep_at ho hdep 0 ⟨13, .guard⟩ rfl rfl))) (fun K hK => op_load ((ch_out hI 7 (Or.inl (show (7 : Nat) < 173 by decide))).trans e7) (KBc W (ch_good hI)).1 (KBc W (ch_good hI)).2 hK)
                        | 20, _, ho, hLi =>
                          obtain ⟨so0, co0, g0, r0⟩ := ch_vec hI hsz 18 rfl (dep_at ho hdep 0 ⟨18, .data⟩ rfl rfl)
                          exact chs_call 20 (.bool true) hI rfl rfl (want_of rfl rfl rfl (ch_con hI hsz 13 rfl (dep_at ho hdep 3 ⟨13, .guard⟩ rfl rfl))) (lw_late (ch_good hI) hcn r0 (SC.out W (ch_good hI)).2) (fun K hK => op_call2 g0 (ch_con hI hsz 19 rfl (dep_at ho hdep 1 ⟨19, .data⟩ rfl rfl)) enter_laws_lwVec hK)
                        | 21, _, ho, hLi =>
                          exact chs_con 21 (.bool false) hI rfl rfl (want_of rfl rfl rfl (ch_con hI hsz 13 rfl (dep_at ho hdep 1 ⟨13, .guard⟩ rfl rfl))) (fun K hK => op_not (ch_con hI hsz 20 rfl (dep_at ho hdep 0 ⟨20, .data⟩ rfl rfl)) hK)
                        | 22, _, ho, hLi =>
                          exact chs_con 22 (.bool false) hI rfl rfl (want_none rfl) (fun K hK => op_pickAnd1 (ch_con hI hsz 13 rfl (dep_at ho hdep 0 ⟨13, .data⟩ rfl rfl)) (ch_con hI hsz 21 rfl (dep_at ho hdep 1 ⟨21, .data⟩ rfl rfl)) hK)
                        | m + 23, hlt, _, _ => exact absurd hlt (by omega)
                      · intro L ac W hall hI
                        obtain ⟨V, rfl, hg, hV⟩ := hI
                        have hlast : V 195 = .bool false := hV 22 _ rfl (hall 22 (by decide))
                        clear hV
                        subst ha0
                        simp only [putL, List.range', List.length_cons, List.length_nil, Act.put, List.setIfInBounds_toArray, List.set_cons_zero, List.set_cons_succ]
                        go_wp2_with fail
                        go_meet
                        exact ⟨rfl, hg⟩
                    · have hbb : (c.b == d.b) = false := by simpa using heq
                      refine region_frame (fun a0 ha0 => ?_)
                      have e7 : a0.tmps[7]? = some (.pointer (some ⟨p7, 0, none⟩)) := by rw [ha0]; rfl
                      have e8 : a0.tmps[8]? = some (.pointer (some ⟨p7 + 1, 0, none⟩)) := by rw [ha0]; rfl
                      have hz0 : a0.tmps.size = 290 := by rw [ha0]; rfl
                      have hsz0 : 173 + 23 ≤ a0.tmps.size := by omega
                      refine wp_region_inv (by kernel_rfl) (ChI ⟨fun W => LateV wZ W, a0, 173, [.con (.agg #[.int .i64 c.b, .slice c.s c.n c.c]), .con (.bool true), .con (.bool true), .con (.agg #[.int .i64 d.b, .slice d.s d.n d.c]), .con (.bool true), .con (.bool true), .con (.bool true), .con (.pointer (some ⟨p7, 0, none⟩)), .con (.int .i64 c.b), .con (.pointer (some ⟨p7 + 1, 0, none⟩)), .con (.int .i64 d.b), .con (.bool false), .con (.bool false), .con (.bool false), .con (undef), .con (undef), .con (undef), .con (undef), .con (undef), .con (undef), .con (undef), .con (undef), .con (.bool false)]⟩) (acyc_of (by kernel_rfl)) (ch_start hLb.drew) ?_ ?_
                      · clear ha0
                        intro L ac W i o ho hLi hdep hI
                        have hsz : (173 : Nat) + 23 ≤ a0.tmps.size := hsz0
                        have hlt : i < 23 := (Array.getElem?_eq_some_iff.1 ho).1
                        match i, hlt, ho, hLi with
                        | 0, _, ho, hLi =>
                          exact chs_con 0 (.agg #[.int .i64 c.b, .slice c.s c.n c.c]) hI rfl rfl (want_none rfl) (fun K hK => op_load ((ch_out hI 7 (Or.inl (show (7 : Nat) < 173 by decide))).trans e7) (KBc W (ch_good hI)).1 (KBc W (ch_good hI)).2 hK)
                        | 1, _, ho, hLi =>
                          exact chs_call 1 (.bool true) hI rfl rfl (want_none rfl) ((RC W (ch_good hI))) (fun K hK => op_call1 (ch_con hI hsz 0 rfl (dep_at ho hdep 0 ⟨0, .data⟩ rfl rfl)) enter_spec_VecRight hK)
                        | 2, _, ho, hLi =>
                          exact chs_con 2 (.bool true) hI rfl rfl (want_none rfl) (fun K hK => op_move (ch_con hI hsz 1 rfl (dep_at ho hdep 0 ⟨1, .data⟩ rfl rfl)) hK)
                        | 3, _, ho, hLi =>
                          exact chs_con 3 (.agg #[.int .i64 d.b, .slice d.s d.n d.c]) hI rfl rfl (want_of rfl rfl rfl (ch_con hI hsz 2 rfl (dep_at ho hdep 0 ⟨2, .guard⟩ rfl rfl))) (fun K hK => op_load ((ch_out hI 8 (Or.inl (show (8 : Nat) < 173 by decide))).trans e8) (KBd W (ch_good hI)).1 (KBd W (ch_good hI)).2 hK)
                        | 4, _, ho, hLi =>
                          exact chs_call 4 (.bool true) hI rfl rfl (want_of rfl rfl rfl (ch_con hI hsz 2 rfl (dep_at ho hdep 1 ⟨2, .chain⟩ rfl rfl))) ((RD W (ch_good hI))) (fun K hK => op_call1 (ch_con hI hsz 3 rfl (dep_at ho hdep 0 ⟨3, .data⟩ rfl rfl)) enter_spec_VecRight hK)
                        | 5, _, ho, hLi =>
                          exact chs_con 5 (.bool true) hI rfl rfl (want_none rfl) (fun K hK => op_pickAnd1 (ch_con hI hsz 2 rfl (dep_at ho hdep 0 ⟨2, .data⟩ rfl rfl)) (ch_con hI hsz 4 rfl (dep_at ho hdep 1 ⟨4, .data⟩ rfl rfl)) hK)
                        | 6, _, ho, hLi =>
                          exact chs_con 6 (.bool true) hI rfl rfl (want_none rfl) (fun K hK => op_move (ch_con hI hsz 5 rfl (dep_at ho hdep 0 ⟨5, .data⟩ rfl rfl)) hK)
                        | 7, _, ho, hLi =>
                          exact chs_con 7 (.pointer (some ⟨p7, 0, none⟩)) hI rfl rfl (want_of rfl rfl rfl (ch_con hI hsz 6 rfl (dep_at ho hdep 0 ⟨6, .guard⟩ rfl rfl))) (fun K hK => op_field ((ch_out hI 7 (Or.inl (show (7 : Nat) < 173 by decide))).trans e7) hK)
                        | 8, _, ho, hLi =>
                          exact chs_con 8 (.int .i64 c.b) hI rfl rfl (want_of rfl rfl rfl (ch_con hI hsz 6 rfl (dep_at ho hdep 1 ⟨6, .guard⟩ rfl rfl))) (fun K hK => op_loadI (ch_con hI hsz 7 rfl (dep_at ho hdep 0 ⟨7, .data⟩ rfl rfl)) (KBc W (ch_good hI)).1 hK)
                        | 9, _, ho, hLi =>
                          exact chs_con 9 (.pointer (some ⟨p7 + 1, 0, none⟩)) hI rfl rfl (want_of rfl rfl rfl (ch_con hI hsz 6 rfl (dep_at ho hdep 0 ⟨6, .guard⟩ rfl rfl))) (fun K hK => op_field ((ch_out hI 8 (Or.inl (show (8 : Nat) < 173 by decide))).trans e8) hK)
                        | 10, _, ho, hLi =>
                          exact chs_con 10 (.int .i64 d.b) hI rfl rfl (want_of rfl rfl rfl (ch_con hI hsz 6 rfl (dep_at ho hdep 1 ⟨6, .guard⟩ rfl rfl))) (fun K hK => op_loadI (ch_con hI hsz 9 rfl (dep_at ho hdep 0 ⟨9, .data⟩ rfl rfl)) (KBd W (ch_good hI)).1 hK)
                        | 11, _, ho, hLi =>
                          exact chs_con 11 (.bool false) hI rfl rfl (want_of rfl rfl rfl (ch_con hI hsz 6 rfl (dep_at ho hdep 2 ⟨6, .guard⟩ rfl rfl))) (fun K hK => op_eqlI (ch_con hI hsz 8 rfl (dep_at ho hdep 0 ⟨8, .data⟩ rfl rfl)) (ch_con hI hsz 10 rfl (dep_at ho hdep 1 ⟨10, .data⟩ rfl rfl)) hbb hK)
                        | 12, _, ho, hLi =>
                          exact chs_con 12 (.bool false) hI rfl rfl (want_none rfl) (fun K hK => op_pickAnd1 (ch_con hI hsz 6 rfl (dep_at ho hdep 0 ⟨6, .data⟩ rfl rfl)) (ch_con hI hsz 11 rfl (dep_at ho hdep 1 ⟨11, .data⟩ rfl rfl)) hK)
                        | 13, _, ho, hLi =>
                          exact chs_con 13 (.bool false) hI rfl rfl (want_none rfl) (fun K hK => op_move (ch_con hI hsz 12 rfl (dep_at ho hdep 0 ⟨12, .data⟩ rfl rfl)) hK)
                        | 14, _, ho, hLi =>
                          exact chs_skip 14 hI rfl rfl rfl (unwant_of rfl rfl rfl (ch_con hI hsz 13 rfl (dep_at ho hdep 0 ⟨13, .guard⟩ rfl rfl)) rfl)
                        | 15, _, ho, hLi =>
                          exact chs_skip 15 hI rfl rfl rfl (unwant_of rfl rfl rfl (ch_con hI hsz 13 rfl (dep_at ho hdep 0 ⟨13, .guard⟩ rfl rfl)) rfl)
                        | 16, _, ho, hLi =>
                          exact chs_skip 16 hI rfl rfl rfl (unwant_of rfl rfl rfl (ch_con hI hsz 13 rfl (dep_at ho hdep 2 ⟨13, .chain⟩ rfl rfl)) rfl)
                        | 17, _, ho, hLi =>
                          exact chs_skip 17 hI rfl rfl rfl (unwant_of rfl rfl rfl (ch_con hI hsz 13 rfl (dep_at ho hdep 0 ⟨13, .guard⟩ rfl rfl)) rfl)
                        | 18, _, ho, hLi =>
                          exact chs_skip 18 hI rfl rfl rfl (unwant_of rfl rfl rfl (ch_con hI hsz 13 rfl (dep_at ho hdep 3 ⟨13, .guard⟩ rfl rfl)) rfl)
                        | 19, _, ho, hLi =>
                          exact chs_skip 19 hI rfl rfl rfl (unwant_of rfl rfl rfl (ch_con hI hsz 13 rfl (dep_at ho hdep 0 ⟨13, .guard⟩ rfl rfl)) rfl)
                        | 20, _, ho, hLi =>
                          exact chs_skip 20 hI rfl rfl rfl (unwant_of rfl rfl rfl (ch_con hI hsz 13 rfl (dep_at ho hdep 3 ⟨13, .guard⟩ rfl rfl)) rfl)
                        | 21, _, ho, hLi =>
                          exact chs_skip 21 hI rfl rfl rfl (unwant_of rfl rfl rfl (ch_con hI hsz 13 rfl (dep_at ho hdep 1 ⟨13, .guard⟩ rfl rfl)) rfl)
                        | 22, _, ho, hLi =>
                          exact chs_con 22 (.bool false) hI rfl rfl (want_none rfl) (fun K hK => op_pickAnd0 (ch_con hI hsz 13 rfl (dep_at ho hdep 0 ⟨13, .data⟩ rfl rfl)) hK)
                        | m + 23, hlt, _, _ => exact absurd hlt (by omega)
                      · intro L ac W hall hI
                        obtain ⟨V, rfl, hg, hV⟩ := hI
                        have hlast : V 195 = .bool false := hV 22 _ rfl (hall 22 (by decide))
                        clear hV
                        subst ha0
                        simp only [putL, List.range', List.length_cons, List.length_nil, Act.put, List.setIfInBounds_toArray, List.set_cons_zero, List.set_cons_succ]
                        go_wp2_with fail
                        go_meet
                        exact ⟨rfl, hg⟩
            case rest =>
              as_aux_lemma =>
                obtain ⟨rfl, hL13⟩ := hcut
                have han := (SA.out _ LZ).1
                have END : ∀ W, LateV wZ W → Below w.heap.size w W := fun W hL => MZ.out.below.trans (hL.below.mono MZ.out.below.size)
                cases hra' : ra with
                | false =>
                  rw [hra'] at RA
                  go_upto_region 15 with fail
                  go_cut [207] (fun v wc => v = .bool true ∧ LateV wZ wc)
                  case first =>
                    as_aux_lemma =>
                      refine region_frame (fun a0 ha0 => ?_)
                      have e5 : a0.tmps[5]? = some (.pointer (some ⟨p5, 0, none⟩)) := by rw [ha0]; rfl
                      have hz0 : a0.tmps.size = 290 := by rw [ha0]; rfl
                      have hsz0 : 196 + 12 ≤ a0.tmps.size := by omega
                      refine wp_region_inv (by kernel_rfl) (ChI ⟨fun W => LateV wZ W, a0, 196, [.con (.agg #[.int .i64 a.b, .slice a.s a.n a.c]), .con (.bool false), .con (.bool true), .con (.bool true), .con (undef), .con (undef), .con (undef), .con (undef), .con (undef), .con (undef), .con (undef), .con (.bool true)]⟩) (acyc_of (by kernel_rfl)) (ch_start hL13.drew) ?_ ?_
                      · clear ha0
                        intro L ac W i o ho hLi hdep hI
                        have hsz : (196 : Nat) + 12 ≤ a0.tmps.size := hsz0
                        have hlt : i < 12 := (Array.getElem?_eq_some_iff.1 ho).1
                        match i, hlt, ho, hLi with
                        | 0, _, ho, hLi =>
                          exact chs_con 0 (.agg #[.int .i64 a.b, .slice a.s a.n a.c]) hI rfl rfl (want_none rfl) (fun K hK => op_load ((ch_out hI 5 (Or.inl (show (5 : Nat) < 196 by decide))).trans e5) (KBa W (ch_good hI)).1 (KBa W (ch_good hI)).2 hK)
                        | 1, _, ho, hLi =>
                          exact chs_call 1 (.bool false) hI rfl rfl (want_none rfl) ((RA W (ch_good hI))) (fun K hK => op_call1 (ch_con hI hsz 0 rfl (dep_at ho hdep 0 ⟨0, .data⟩ rfl rfl)) enter_spec_VecRight hK)
                        | 2, _, ho, hLi =>
                          exact chs_con 2 (.bool true) hI rfl rfl (want_none rfl) (fun K hK => op_not (ch_con hI hsz 1 rfl (dep_at ho hdep 0 ⟨1, .data⟩ rfl rfl)) hK)
                        | 3, _, ho, hLi =>
                          exact chs_con 3 (.bool true) hI rfl rfl (want_none rfl) (fun K hK => op_move (ch_con hI hsz 2 rfl (dep_at ho hdep 0 ⟨2, .data⟩ rfl rfl)) hK)
                        | 4, _, ho, hLi =>
                          exact chs_skip 4 hI rfl rfl rfl (unwant_of rfl rfl rfl (ch_con hI hsz 3 rfl (dep_at ho hdep 0 ⟨3, .guard⟩ rfl rfl)) rfl)
                        | 5, _, ho, hLi =>
                          exact chs_skip 5 hI rfl rfl rfl (unwant_of rfl rfl rfl (ch_con hI hsz 3 rfl (dep_at ho hdep 1 ⟨3, .chain⟩ rfl rfl)) rfl)
                        | 6, _, ho, hLi =>
                          exact chs_skip 6 hI rfl rfl rfl (unwant_of rfl rfl rfl (ch_con hI hsz 3 rfl (dep_at ho hdep 0 ⟨3, .guard⟩ rfl rfl)) rfl)
                        | 7, _, ho, hLi =>
                          exact chs_skip 7 hI rfl rfl rfl (unwant_of rfl rfl rfl (ch_con hI hsz 3 rfl (dep_at ho hdep 0 ⟨3, .guard⟩ rfl rfl)) rfl)
                        | 8, _, ho, hLi =>
                          exact chs_skip 8 hI rfl rfl rfl (unwant_of rfl rfl rfl (ch_con hI hsz 3 rfl (dep_at ho hdep 3 ⟨3, .guard⟩ rfl rfl)) rfl)
                        | 9, _, ho, hLi =>
                          exact chs_skip 9 hI rfl rfl rfl (unwant_of rfl rfl rfl (ch_con hI hsz 3 rfl (dep_at ho hdep 3 ⟨3, .guard⟩ rfl rfl)) rfl)
                        | 10, _, ho, hLi =>
                          exact chs_skip 10 hI rfl rfl rfl (unwant_of rfl rfl rfl (ch_con hI hsz 3 rfl (dep_at ho hdep 1 ⟨3, .guard⟩ rfl rfl)) rfl)
                        | 11, _, ho, hLi =>
                          exact chs_con 11 (.bool true) hI rfl rfl (want_none rfl) (fun K hK => op_pickOr1 (ch_con hI hsz 3 rfl (dep_at ho hdep 0 ⟨3, .data⟩ rfl rfl)) hK)
                        | m + 12, hlt, _, _ => exact absurd hlt (by omega)
                      · intro L ac W hall hI
                        obtain ⟨V, rfl, hg, hV⟩ := hI
                        have hlast : V 207 = .bool true := hV 11 _ rfl (hall 11 (by decide))
                        clear hV
                        subst ha0
                        simp only [putL, List.range', List.length_cons, List.length_nil, Act.put, List.setIfInBounds_toArray, List.set_cons_zero, List.set_cons_succ]
                        go_wp2_with fail
                        go_meet
                        exact ⟨rfl, hg⟩
                  case rest =>
                    as_aux_lemma =>
                      obtain ⟨rfl, hL15⟩ := hcut
                      obtain ⟨ca0, ca1⟩ := KBa _ hL15
                      go_wp2_with (first | (go_at_call 33; refine Calls.mono (RA _ (by assumption)) ?_; rintro e w' ⟨rfl, hL, hb⟩))
                      go_ret
                      exact ⟨rfl, END _ hL⟩
                | true =>
                  rw [hra'] at RA
                  have hRa : RightV a := hra.1 hra'
                  have u3 := U3'.out hRa
                  have PU : Hid (GivesV wZ 24 #[.agg #[.int .i64 a.b, .slice a.s a.n a.c]] a.b a.n (cutF a.b a.n (sumF 0 a.f a.f))) := by
                    have h := PA.out
                    rw [u3.1, u3.2.1, u3.2.2] at h
                    exact h
                  have PAA : Hid (GivesV wZ 36 #[.agg #[.int .i64 a.b, .slice a.s a.n a.c], .agg #[.int .i64 a.b, .slice a.s a.n a.c]] a.b a.n (cutF a.b a.n (sumF 0 a.f a.f))) := (add_yes a a ⟨hRa, hRa, rfl⟩).late SA.out SA.out
                  clear u3
                  go_upto_region 15 with fail
                  go_cut [207] (fun v wc => v = .bool false ∧ LateV wZ wc)
                  case first =>
                    as_aux_lemma =>
                      refine region_frame (fun a0 ha0 => ?_)
                      have e5 : a0.tmps[5]? = some (.pointer (some ⟨p5, 0, none⟩)) := by rw [ha0]; rfl
                      have hz0 : a0.tmps.size = 290 := by rw [ha0]; rfl
                      have hsz0 : 196 + 12 ≤ a0.tmps.size := by omega
                      refine wp_region_inv (by kernel_rfl) (ChI ⟨fun W => LateV wZ W, a0, 196, [.con (.agg #[.int .i64 a.b, .slice a.s a.n a.c]), .con (.bool true), .con (.bool false), .con (.bool false), .con (.agg #[.int .i64 a.b, .slice a.s a.n a.c]), .vec a.b a.n (cutF a.b a.n (sumF 0 a.f a.f)), .con (.agg #[.int .i64 a.b, .slice a.s a.n a.c]), .con (.agg #[.int .i64 a.b, .slice a.s a.n a.c]), .vec a.b a.n (cutF a.b a.n (sumF 0 a.f a.f)), .con (.bool true), .con (.bool false), .con (.bool false)]⟩) (acyc_of (by kernel_rfl)) (ch_start hL13.drew) ?_ ?_
                      · clear ha0
                        intro L ac W i o ho hLi hdep hI
                        have hsz : (196 : Nat) + 12 ≤ a0.tmps.size := hsz0
                        have hlt : i < 12 := (Array.getElem?_eq_some_iff.1 ho).1
                        match i, hlt, ho, hLi with
                        | 0, _, ho, hLi =>
                          exact chs_con 0 (.agg #[.int .i64 a.b, .slice a.s a.n a.c]) hI rfl rfl (want_none rfl) (fun K hK => op_load ((ch_out hI 5 (Or.inl (show (5 : Nat) < 196 by decide))).trans e5) (KBa W (ch_good hI)).1 (KBa W (ch_good hI)).2 hK)
                        | 1, _, ho, hLi =>
                          exact chs_call 1 (.bool true) hI rfl rfl (want_none rfl) ((RA W (ch_good hI))) (fun K hK => op_call1 (ch_con hI hsz 0 rfl (dep_at ho hdep 0 ⟨0, .data⟩ rfl rfl)) enter_spec_VecRight hK)
                        | 2, _, ho, hLi =>
                          exact chs_con 2 (.bool false) hI rfl rfl (want_none rfl) (fun K hK => op_not (ch_con hI hsz 1 rfl (dep_at ho hdep 0 ⟨1, .data⟩ rfl rfl)) hK)
                        | 3, _, ho, hLi =>
                          exact chs_con 3 (.bool false) hI rfl rfl (want_none rfl) (fun K hK => op_move (ch_con hI hsz 2 rfl (dep_at ho hdep 0 ⟨2, .data⟩ rfl rfl)) hK)
                        | 4, _, ho, hLi =>
                          exact chs_con 4 (.agg #[.int .i64 a.b, .slice a.s a.n a.c]) hI rfl rfl (want_of rfl rfl rfl (ch_con hI hsz 3 rfl (dep_at ho hdep 0 ⟨3, .guard⟩ rfl rfl))) (fun K hK => op_load ((ch_out hI 5 (Or.inl (show (5 : Nat) < 196 by decide))).trans e5) (KBa W (ch_good hI)).1 (KBa W (ch_good hI)).2 hK)
                        | 5, _, ho, hLi =>
                          exact chs_vec 5 hI rfl rfl (want_of rfl rfl rfl (ch_con hI hsz 3 rfl (dep_at ho hdep 1 ⟨3, .chain⟩ rfl rfl))) (PU.out W (ch_good hI)) (fun K hK => op_call1 (ch_con hI hsz 4 rfl (dep_at ho hdep 0 ⟨4, .data⟩ rfl rfl)) enter_impl_VecUp hK)
                        | 6, _, ho, hLi =>
                          exact chs_con 6 (.agg #[.int .i64 a.b, .slice a.s a.n a.c]) hI rfl rfl (want_of rfl rfl rfl (ch_con hI hsz 3 rfl (dep_at ho hdep 0 ⟨3, .guard⟩ rfl rfl))) (fun K hK => op_load ((ch_out hI 5 (Or.inl (show (5 : Nat) < 196 by decide))).trans e5) (KBa W (ch_good hI)).1 (KBa W (ch_good hI)).2 hK)
                        | 7, _, ho, hLi =>
                          exact chs_con 7 (.agg #[.int .i64 a.b, .slice a.s a.n a.c]) hI rfl rfl (want_of rfl rfl rfl (ch_con hI hsz 3 rfl (dep_at ho hdep 0 ⟨3, .guard⟩ rfl rfl))) (fun K hK => op_load ((ch_out hI 5 (Or.inl (show (5 : Nat) < 196 by decide))).trans e5) (KBa W (ch_good hI)).1 (KBa W (ch_good hI)).2 hK)
                        | 8, _, ho, hLi =>
                          exact chs_vec 8 hI rfl rfl (want_of rfl rfl rfl (ch_con hI hsz 3 rfl (dep_at ho hdep 3 ⟨3, .guard⟩ rfl rfl))) (PAA.out W (ch_good hI)) (fun K hK => op_call2 (ch_con hI hsz 6 rfl (dep_at ho hdep 0 ⟨6, .data⟩ rfl rfl)) (ch_con hI hsz 7 rfl (dep_at ho hdep 1 ⟨7, .data⟩ rfl rfl)) enter_impl_VecAdd hK)
                        | 9, _, ho, hLi =>
                          obtain ⟨so0, co0, g0, r0⟩ := ch_vec hI hsz 5 rfl (dep_at ho hdep 0 ⟨5, .data⟩ rfl rfl)
                          obtain ⟨so1, co1, g1, r1⟩ := ch_vec hI hsz 8 rfl (dep_at ho hdep 1 ⟨8, .data⟩ rfl rfl)
                          exact chs_call 9 (.bool true) hI rfl rfl (want_of rfl rfl rfl (ch_con hI hsz 3 rfl (dep_at ho hdep 3 ⟨3, .guard⟩ rfl rfl))) (lw_late (ch_good hI) han r0 r1) (fun K hK => op_call2 g0 g1 enter_laws_lwVec hK)
                        | 10, _, ho, hLi =>
                          exact chs_con 10 (.bool false) hI rfl rfl (want_of rfl rfl rfl (ch_con hI hsz 3 rfl (dep_at ho hdep 1 ⟨3, .guard⟩ rfl rfl))) (fun K hK => op_not (ch_con hI hsz 9 rfl (dep_at ho hdep 0 ⟨9, .data⟩ rfl rfl)) hK)
                        | 11, _, ho, hLi =>
                          exact chs_con 11 (.bool false) hI rfl rfl (want_none rfl) (fun K hK => op_pickOr (ch_con hI hsz 3 rfl (dep_at ho hdep 0 ⟨3, .data⟩ rfl rfl)) (ch_con hI hsz 10 rfl (dep_at ho hdep 1 ⟨10, .data⟩ rfl rfl)) hK)
                        | m + 12, hlt, _, _ => exact absurd hlt (by omega)
                      · intro L ac W hall hI
                        obtain ⟨V, rfl, hg, hV⟩ := hI
                        have hlast : V 207 = .bool false := hV 11 _ rfl (hall 11 (by decide))
                        clear hV
                        subst ha0
                        simp only [putL, List.range', List.length_cons, List.length_nil, Act.put, List.setIfInBounds_toArray, List.set_cons_zero, List.set_cons_succ]
                        go_wp2_with fail
                        go_meet
                        exact ⟨rfl, hg⟩
                  case rest =>
                    as_aux_lemma =>
                      obtain ⟨rfl, hL15⟩ := hcut
                      obtain ⟨cb0, cb1⟩ := KBb _ hL15
                      cases hrb' : rb with
                      | false =>
                        rw [hrb'] at RB
                        go_wp2_with (first | (go_at_call 33; refine Calls.mono (RB _ (by assumption)) ?_; rintro e w' ⟨rfl, hL, hb⟩))
                        go_ret
                        exact ⟨rfl, END _ hL⟩
                      | true =>
                        rw [hrb'] at RB
                        have hRb : RightV b := hrb.1 hrb'
                        go_wp2_with fail
                        refine Calls.mono (RB _ hL15) ?_
                        rintro e w17 ⟨rfl, hL17, _⟩
                        obtain ⟨da0, da1⟩ := KBa _ hL17
                        obtain ⟨db0, db1⟩ := KBb _ hL17
                        by_cases heq : a.b = b.b
                        · have hne : (a.b == b.b) = true := by simpa using heq
                          have PR : Pair a b := ⟨hRa, hRb, heq⟩
                          have hx := HX3'.out hRa hRb heq
                          have hy := HY5'.out hRa hRb heq
                          have hz := HZ3'.out hRa hRb heq
                          have hu := HU3'.out hRa
                          have hab1 := hRa.1
                          have hab2 := hRa.2.1
                          have KEEP2 : ∀ W, LateV wZ W → (W.cell? ⟨p5, 0, none⟩ = some (.int .i64 a.b) ∧ W.cell? ⟨p5, 1, none⟩ = some (.slice a.s a.n a.c) ∧ W.cell? ⟨p5 + 1, 0, none⟩ = some (.int .i64 b.b) ∧ W.cell? ⟨p5 + 1, 1, none⟩ = some (.slice b.s b.n b.c)) := fun W hL => ⟨(KBa W hL).1, (KBa W hL).2, (KBb W hL).1, (KBb W hL).2⟩
                          have KEEP4 : ∀ W, LateV wZ W → (W.cell? ⟨p5, 0, none⟩ = some (.int .i64 a.b) ∧ W.cell? ⟨p5, 1, none⟩ = some (.slice a.s a.n a.c) ∧ W.cell? ⟨p5 + 1, 0, none⟩ = some (.int .i64 b.b) ∧ W.cell? ⟨p5 + 1, 1, none⟩ = some (.slice b.s b.n b.c) ∧ W.cell? ⟨pz, 0, none⟩ = some (.int .i64 z.b) ∧ W.cell? ⟨pz, 1, none⟩ = some (.slice z.s z.n z.c) ∧ W.cell? ⟨px, 0, none⟩ = some (.int .i64 x.b) ∧ W.cell? ⟨px, 1, none⟩ = some (.slice x.s x.n x.c)) := fun W hL => ⟨(KBa W hL).1, (KBa W hL).2, (KBb W hL).1, (KBb W hL).2, (KBz W hL).1, (KBz W hL).2, (KBx W hL).1, (KBx W hL).2⟩
                          have HX : Hid (x.b = a.b ∧ x.n = a.n ∧ x.f = fun i => bits .and .i64 (a.f i) (b.f i)) := hx
                          have HY : Hid (y.b = a.b ∧ y.n = a.n ∧ y.f = fun i => bits .or .i64 (a.f i) (b.f i)) := hy
                          have HZ : Hid (z.b = a.b ∧ z.n = a.n ∧ z.f = fun i => bits .xor .i64 (a.f i) (b.f i)) := hz
                          have HU : Hid (u.b = a.b ∧ u.n = a.n ∧ u.f = cutF a.b a.n (notF a.f)) := hu
                          have HAB : Hid (a.b = b.b) := heq
                          have HK2 : Hid (∀ W, LateV wZ W → (W.cell? ⟨p5, 0, none⟩ = some (.int .i64 a.b) ∧ W.cell? ⟨p5, 1, none⟩ = some (.slice a.s a.n a.c) ∧ W.cell? ⟨p5 + 1, 0, none⟩ = some (.int .i64 b.b) ∧ W.cell? ⟨p5 + 1, 1, none⟩ = some (.slice b.s b.n b.c))) := KEEP2
                          have HK4 : Hid (∀ W, LateV wZ W → (W.cell? ⟨p5, 0, none⟩ = some (.int .i64 a.b) ∧ W.cell? ⟨p5, 1, none⟩ = some (.slice a.s a.n a.c) ∧ W.cell? ⟨p5 + 1, 0, none⟩ = some (.int .i64 b.b) ∧ W.cell? ⟨p5 + 1, 1, none⟩ = some (.slice b.s b.n b.c) ∧ W.cell? ⟨pz, 0, none⟩ = some (.int .i64 z.b) ∧ W.cell? ⟨pz, 1, none⟩ = some (.slice z.s z.n z.c) ∧ W.cell? ⟨px, 0, none⟩ = some (.int .i64 x.b) ∧ W.cell? ⟨px, 1, none⟩ = some (.slice x.s x.n x.c))) := KEEP4
                          clear hx hy hz hu heq KEEP2 KEEP4
                          go_wp2
                          generalize (a.b != b.b) = dab
                          go_loopw [18] (fun i wr => ∃ k : Nat, (k : Int) ≤ a.b ∧ i = .int .i64 (k : Int) ∧ LateV wZ wr) (fun i _ => a.b.toNat - (intOf i).toNat)
                          case atStart => exact ⟨0, by omega, rfl, hL17⟩
                          case round =>
                            obtain ⟨k, hk, rfl, hLr⟩ := hrel
                            obtain ⟨ea0, ea1⟩ := KBa _ hLr
                            by_cases hlt : (k : Int) < a.b
                            · have hltb : (k : Int) < b.b := by have := HAB.out; omega
                              have GA := (get_both SA.out (k : Int) _ (got_right hRa hlt)).2
                              have GB := (get_both SB.out (k : Int) _ (got_right hRb hltb)).2
                              have Gx := (get_both SX.out (k : Int) _ (PR.and HX.out k hlt)).1
                              have Gy := (get_both SY.out (k : Int) _ (PR.or HY.out k hlt)).1
                              have Gz := (get_both SZ.out (k : Int) _ (PR.xor HZ.out k hlt)).1
                              have Gu := (get_both SU.out (k : Int) _ (PR.not HU.out k hlt)).1
                              have GUP := PR.up k hlt
                              have GLW := (get_both SA.out ((k : Int) - 1) _ (PR.low k hlt)).2
                              generalize lowB a.f k = lw at GUP GLW
                              generalize bitOn a.f k = pk at GA Gx Gy Gz Gu
                              generalize bitOn b.f k = qk at GB Gx Gy Gz
                              go_upto_region 22 with fail
                              go_cut [19, 20] (fun v1 v2 wc => v1 = .bool pk ∧ v2 = .bool qk ∧ LateV wZ wc)
                              case first =>
                                as_aux_lemma =>
                                  have LD := hLr.drew
                                  go_region_held3 (fun W => W.cell? ⟨p5, 0, none⟩ = some (.int .i64 a.b) ∧ W.cell? ⟨p5, 1, none⟩ = some (.slice a.s a.n a.c) ∧ W.cell? ⟨p5 + 1, 0, none⟩ = some (.int .i64 b.b) ∧ W.cell? ⟨p5 + 1, 1, none⟩ = some (.slice b.s b.n b.c)) (exact HK2.out _ (by assumption)) (first
                                    | (go_at_call_of 35 a.s; refine Calls.mono (GA _ (by assumption)) ?_; rintro e w' ⟨rfl, hL, hb⟩)
                                    | (go_at_call_of 35 b.s; refine Calls.mono (GB _ (by assumption)) ?_; rintro e w' ⟨rfl, hL, hb⟩))
                                  all_goals
                                    go_wp2_with fail
                                    go_meet
                                    exact ⟨rfl, rfl, by assumption⟩
                              case rest =>
                                as_aux_lemma =>
                                  obtain ⟨rfl, rfl, hL22⟩ := hcut
                                  go_upto_region 23 with fail
                                  go_cut [277] (fun v wc => v = .bool false ∧ LateV wZ wc)
                                  case first =>
                                    as_aux_lemma =>
                                      cases pk with
                                      | false =>
                                        cases qk with
                                        | false =>
                                          refine region_frame (fun a0 ha0 => ?_)
                                          have e5 : a0.tmps[5]? = some (.pointer (some ⟨p5, 0, none⟩)) := by rw [ha0]; rfl
                                          have e13 : a0.tmps[13]? = some (.pointer (some ⟨px, 0, none⟩)) := by rw [ha0]; rfl
                                          have e14 : a0.tmps[14]? = some (.pointer (some ⟨py, 0, none⟩)) := by rw [ha0]; rfl
                                          have e15 : a0.tmps[15]? = some (.pointer (some ⟨pz, 0, none⟩)) := by rw [ha0]; rfl
                                          have e16 : a0.tmps[16]? = some (.pointer (some ⟨pu, 0, none⟩)) := by rw [ha0]; rfl
                                          have e18 : a0.tmps[18]? = some (.int .i64 (k : Int)) := by rw [ha0]; rfl
                                          have e19 : a0.tmps[19]? = some (.bool false) := by rw [ha0]; rfl
                                          have e20 : a0.tmps[20]? = some (.bool false) := by rw [ha0]; rfl
                                          have hz0 : a0.tmps.size = 290 := by rw [ha0]; rfl
                                          refine reg23_ff rfl hz0 (Int.lt_of_lt_of_le hlt hab2) han e5 e13 e14 e15 e16 e18 e19 e20 hL22 KBx KBy KBz KBu KBa Gx Gy Gz Gu PU GUP GLW (fun V W hlast hg => ?_)
                                          subst ha0
                                          rw [putL_290]
                                          go_wp2_with fail
                                          go_meet
                                          exact ⟨by first | rfl | exact hlast, hg⟩
                                        | true =>
                                          refine region_frame (fun a0 ha0 => ?_)
                                          have e5 : a0.tmps[5]? = some (.pointer (some ⟨p5, 0, none⟩)) := by rw [ha0]; rfl
                                          have e13 : a0.tmps[13]? = some (.pointer (some ⟨px, 0, none⟩)) := by rw [ha0]; rfl
                                          have e14 : a0.tmps[14]? = some (.pointer (some ⟨py, 0, none⟩)) := by rw [ha0]; rfl
                                          have e15 : a0.tmps[15]? = some (.pointer (some ⟨pz, 0, none⟩)) := by rw [ha0]; rfl
                                          have e16 : a0.tmps[16]? = some (.pointer (some ⟨pu, 0, none⟩)) := by rw [ha0]; rfl
                                          have e18 : a0.tmps[18]? = some (.int .i64 (k : Int)) := by rw [ha0]; rfl
                                          have e19 : a0.tmps[19]? = some (.bool false) := by rw [ha0]; rfl
                                          have e20 : a0.tmps[20]? = some (.bool true) := by rw [ha0]; rfl
                                          have hz0 : a0.tmps.size = 290 := by rw [ha0]; rfl
                                          refine reg23_ft rfl hz0 (Int.lt_of_lt_of_le hlt hab2) han e5 e13 e14 e15 e16 e18 e19 e20 hL22 KBx KBy KBz KBu KBa Gx Gy Gz Gu PU GUP GLW (fun V W hlast hg => ?_)
                                          subst ha0
                                          rw [putL_290]
                                          go_wp2_with fail
                                          go_meet
                                          exact ⟨by first | rfl | exact hlast, hg⟩
                                      | true =>
                                        cases qk with
                                        | false =>
                                          refine region_frame (fun a0 ha0 => ?_)
                                          have e5 : a0.tmps[5]? = some (.pointer (some ⟨p5, 0, none⟩)) := by rw [ha0]; rfl
                                          have e13 : a0.tmps[13]? = some (.pointer (some ⟨px, 0, none⟩)) := by rw [ha0]; rfl
                                          have e14 : a0.tmps[14]? = some (.pointer (some ⟨py, 0, none⟩)) := by rw [ha0]; rfl
                                          have e15 : a0.tmps[15]? = some (.pointer (some ⟨pz, 0, none⟩)) := by rw [ha0]; rfl
                                          have e16 : a0.tmps[16]? = some (.pointer (some ⟨pu, 0, none⟩)) := by rw [ha0]; rfl
                                          have e18 : a0.tmps[18]? = some (.int .i64 (k : Int)) := by rw [ha0]; rfl
                                          have e19 : a0.tmps[19]? = some (.bool true) := by rw [ha0]; rfl
                                          have e20 : a0.tmps[20]? = some (.bool false) := by rw [ha0]; rfl
                                          have hz0 : a0.tmps.size = 290 := by rw [ha0]; rfl
                                          refine reg23_tf rfl hz0 (Int.lt_of_lt_of_le hlt hab2) han e5 e13 e14 e15 e16 e18 e19 e20 hL22 KBx KBy KBz KBu KBa Gx Gy Gz Gu PU GUP GLW (fun V W hlast hg => ?_)
                                          subst ha0
                                          rw [putL_290]
                                          go_wp2_with fail
                                          go_meet
                                          exact ⟨by first | rfl | exact hlast, hg⟩
                                        | true =>
                                          refine region_frame (fun a0 ha0 => ?_)
                                          have e5 : a0.tmps[5]? = some (.pointer (some ⟨p5, 0, none⟩)) := by rw [ha0]; rfl
                                          have e13 : a0.tmps[13]? = some (.pointer (some ⟨px, 0, none⟩)) := by rw [ha0]; rfl
                                          have e14 : a0.tmps[14]? = some (.pointer (some ⟨py, 0, none⟩)) := by rw [ha0]; rfl
                                          have e15 : a0.tmps[15]? = some (.pointer (some ⟨pz, 0, none⟩)) := by rw [ha0]; rfl
                                          have e16 : a0.tmps[16]? = some (.pointer (some ⟨pu, 0, none⟩)) := by rw [ha0]; rfl
                                          have e18 : a0.tmps[18]? = some (.int .i64 (k : Int)) := by rw [ha0]; rfl
                                          have e19 : a0.tmps[19]? = some (.bool true) := by rw [ha0]; rfl
                                          have e20 : a0.tmps[20]? = some (.bool true) := by rw [ha0]; rfl
                                          have hz0 : a0.tmps.size = 290 := by rw [ha0]; rfl
                                          refine reg23_tt rfl hz0 (Int.lt_of_lt_of_le hlt hab2) han e5 e13 e14 e15 e16 e18 e19 e20 hL22 KBx KBy KBz KBu KBa Gx Gy Gz Gu PU GUP GLW (fun V W hlast hg => ?_)
                                          subst ha0
                                          rw [putL_290]
                                          go_wp2_with fail
                                          go_meet
                                          exact ⟨by first | rfl | exact hlast, hg⟩
                                  case rest =>
                                    as_aux_lemma =>
                                      obtain ⟨rfl, hL23⟩ := hcut
                                      go_wp2
                                      go_roundw
                                      case rel => exact ⟨k + 1, by omega, by go_num, hL23⟩
                                      case measure => simp [intOf]; omega
                            · obtain ⟨kb, hkb, KB1, KB2⟩ := count_impl SB.out
                              obtain ⟨kz, hkz, KZ1, KZ2⟩ := count_impl SZ.out
                              obtain ⟨kx, hkx, KX1, KX2⟩ := count_impl SX.out
                              have hsum : ka + kb = kz + 2 * kx := by
                                rw [KA3'.out hRa, KB2 hRb, KZ2 (PR.rz HZ.out), KX2 (PR.rx HX.out)]
                                exact PR.count HX.out HZ.out
                              have hw1 : IntKind.i64.wrap ((ka : Int) + (kb : Int)) = (ka : Int) + (kb : Int) := by rw [IntKind.wrap_i64] <;> omega
                              have hw2 : IntKind.i64.wrap (2 * (kx : Int)) = 2 * (kx : Int) := by rw [IntKind.wrap_i64] <;> omega
                              have hw3 : IntKind.i64.wrap ((kz : Int) + 2 * (kx : Int)) = (kz : Int) + 2 * (kx : Int) := by rw [IntKind.wrap_i64] <;> omega
                              have hq : ((ka : Int) + (kb : Int) == (kz : Int) + 2 * (kx : Int)) = true := by simp; omega
                              have PG' := PG.out
                              have LD := hLr.drew
                              clear hsum KB2 KZ2 KX2
                              go_upto_region 25 with fail
                              go_region_held3 (fun W => W.cell? ⟨p5, 0, none⟩ = some (.int .i64 a.b) ∧ W.cell? ⟨p5, 1, none⟩ = some (.slice a.s a.n a.c) ∧ W.cell? ⟨p5 + 1, 0, none⟩ = some (.int .i64 b.b) ∧ W.cell? ⟨p5 + 1, 1, none⟩ = some (.slice b.s b.n b.c) ∧ W.cell? ⟨pz, 0, none⟩ = some (.int .i64 z.b) ∧ W.cell? ⟨pz, 1, none⟩ = some (.slice z.s z.n z.c) ∧ W.cell? ⟨px, 0, none⟩ = some (.int .i64 x.b) ∧ W.cell? ⟨px, 1, none⟩ = some (.slice x.s x.n x.c)) (exact HK4.out _ (by assumption)) (first
                                | (go_at_call_of 30 a.s; refine Calls.mono (PG' _ (by assumption)) ?_; rintro e w' ⟨rfl, hL, hb⟩)
                                | (go_at_call_of 30 b.s; refine Calls.mono (KB1 _ (by assumption)) ?_; rintro e w' ⟨rfl, hL, hb⟩)
                                | (go_at_call_of 30 z.s; refine Calls.mono (KZ1 _ (by assumption)) ?_; rintro e w' ⟨rfl, hL, hb⟩)
                                | (go_at_call_of 30 x.s; refine Calls.mono (KX1 _ (by assumption)) ?_; rintro e w' ⟨rfl, hL, hb⟩))
                              all_goals
                                go_wp2
                                go_ret
                                exact ⟨rfl, END _ (by assumption)⟩
                        · have hne : (a.b == b.b) = false := by simpa using heq
                          go_wp2
                          go_ret
                          exact ⟨rfl, END _ hL17⟩
end Go.Proofs.YthnnenbpbkmbhaaDoor
