/- What is proved here: the law FnClose walks to true at every two slices of bytes; nothing that was there turns. -/
import Derived.Test.YtlgnplnmcdjbiaaQSpecOrWToFnCloCallW
import Derived.Test.YtlgnplnmcdjbiaaQDrawCByW
import Derived.Test.YtlgnplnmcdjbiaaQLwW
import Derived.Deep.RegionWith
import Derived.Deep.RegionHeld3
namespace Go.Proofs.Ytlgnplnmcdjbiaa
open Go.RowKit

theorem bytes_sinceF {w W : World} {sa : Option Addr} {len : Nat} (h : Bytes8 w w.heap.size sa len) (hs : Since w W) : Bytes8 W W.heap.size sa len := by
  have hb := hs.below
  have h1 : Bytes8 W w.heap.size sa len := h.kept (row := none) ⟨hb.os, hb.tape, hb.output, hb.size, fun k hk _ => hb.block k hk⟩ (fun k hk => by cases hk)
  rcases h1 with h | ⟨bb, off, zs, h1, h2, h3⟩
  · exact Or.inl h
  · exact Or.inr ⟨bb, off, zs, h1, Nat.lt_of_lt_of_le h2 hb.size, h3⟩
theorem since_transF {w W V : World} (h : Since w W) (k : Since W V) : Since w V := since_call h k.below
theorem msl_rowF {W : World} {h : Nat → Nat} {s : Nat → Option Addr} {n : Nat} {F : Nat → Nat → Int} (m : MSl W h s n F) : ∀ i, i < 5 → Row W W.heap.size (s i) n (F i) := fun i hi => by
  have hc : i = 0 ∨ i = 1 ∨ i = 2 ∨ i = 3 ∨ i = 4 := by omega
  rcases hc with rfl | rfl | rfl | rfl | rfl
  · exact m.r0.row
  · exact m.r1.row
  · exact m.r2.row
  · exact m.r3.row
  · exact m.r4.row
theorem crow_sinceF {w W : World} {sa : Option Addr} {n : Nat} {f : Nat → Cel} (h : CRow w w.heap.size sa n f) (hs : Since w W) : CRow W W.heap.size sa n f := (h.kept hs.below).up hs.below.size

set_option maxRecDepth 100000 in
set_option maxHeartbeats 8000000 in
theorem law_fnClose (s1 : Option Addr) (l1 c1 : Nat) (s2 : Option Addr) (l2 c2 : Nat) (w : World) (hm1 : l1 ≤ maxLen) (hm2 : l2 ≤ maxLen) (hy1 : Bytes8 w w.heap.size s1 l1) (hy2 : Bytes8 w w.heap.size s2 l2) :
    Calls Try.prog 4 #[.slice s1 l1 c1, .slice s2 l2 c2] w fun e w' => e = .returned (.bool true) ∧ Below w.heap.size w w' := by
  unfold maxLen at hm1 hm2
  have HY1 : Hid (Bytes8 w w.heap.size s1 l1) := hy1
  have HY2 : Hid (Bytes8 w w.heap.size s2 l2) := hy2
  clear hy1 hy2
  by_cases hbig1 : 1048576 < (l1 : Int)
  · go_enter Try.func4, Try.ntmps4
    go_wp2
    go_ret
    exact ⟨rfl, Below.refl _ _⟩
  by_cases hbig2 : 1048576 < (l2 : Int)
  · go_enter Try.func4, Try.ntmps4
    go_wp2
    go_ret
    exact ⟨rfl, Below.refl _ _⟩
  have hl1 : l1 ≤ 1048576 := by omega
  have hl2 : l2 ≤ 1048576 := by omega
  go_enter Try.func4, Try.ntmps4
  go_wp2_with fail
  refine (drawCloseOver_any w s1 l1 c1 hl1 HY1.out).mono ?_
  rintro e w1 ⟨⟨cs, cn, cc, cf, bv, sv, m, cv, g, rfl, hcn, hcr, hcs, hvm, hvr⟩, hb1⟩
  have S1 : Hid (Since w w1) := ⟨hb1⟩
  obtain ⟨ro, rn, rf, hrn, hK1, hK2, hall⟩ := clo_both cs cn cc cf bv sv m cv g hcn hcs hvm
  have HALL : Hid (ro = 0 ∨ (0 < ro ∧ ro = bv ∧ rn = m ∧ CloseAll cs cn cc cf bv sv m cv g rf)) := hall
  have CR : Hid (∀ W, Since w1 W → CRow W W.heap.size cs cn cf) := fun W hW => crow_sinceF hcr hW
  have VR : Hid (∀ W, Since w1 W → Row W W.heap.size sv m g) := fun W hW => row_since hvr hW
  have HK1 : Hid (∀ W, Since w1 W → Calls Try.prog 30 #[.slice cs cn cc, .agg #[.int .i64 bv, .slice sv m cv]] W fun e w' => NewVec W ro rn rf e w') := fun W hW => hK1 W (CR.out W hW) (VR.out W hW)
  have HK2 : Hid (∀ W, Since w1 W → Calls Try.prog 34 #[.slice cs cn cc, .agg #[.int .i64 bv, .slice sv m cv]] W fun e w' => NewVec W ro rn rf e w') := fun W hW => hK2 W (CR.out W hW) (VR.out W hW)
  have q1 := boxing w1 45 bv sv m cv
  clear hb1 hK1 hK2 hall hcr hvr hcs hcn
  go_wp2_with fail
  generalize w1.alloc (.cells #[.int .i64 bv, .slice sv m cv] 45) = v1 at *
  have Z1 : Hid (Since w1 v1) := ⟨q1.1⟩
  have XV1 : Hid (Boxed v1 w1.heap.size 45 bv sv m cv) := q1.2.1
  clear q1
  generalize w1.heap.size = pv at *
  refine (HK1.out v1 Z1.out).mono ?_
  rintro e w2 ⟨xs, xc, rfl, hb2, ho2⟩
  unfold vecV
  have Z2 : Hid (Since w1 w2) := since_call Z1.out hb2
  have XV2 : Hid (Boxed w2 pv 45 bv sv m cv) := XV1.out.kept hb2 rfl
  have RX2 : Hid (∀ W, Since w2 W → Row W W.heap.size xs rn rf) := fun W hW => ownS_since ho2 hW
  have q2 := boxing w2 45 ro xs rn xc
  have hpx : pv < w2.heap.size := XV2.out.lt
  clear hb2 ho2 Z1 XV1
  go_wp2_with fail
  generalize w2.alloc (.cells #[.int .i64 ro, .slice xs rn xc] 45) = v2 at *
  have Y2 : Hid (Since w1 v2 ∧ Since w2 v2) := ⟨since_call Z2.out q2.1, ⟨q2.1⟩⟩
  have XX2 : Hid (Boxed v2 w2.heap.size 45 ro xs rn xc) := q2.2.1
  have XV3 : Hid (Boxed v2 pv 45 bv sv m cv) := XV2.out.kept q2.1 rfl
  clear q2 Z2 XV2
  generalize w2.heap.size = px at *
  refine (drawCloseBy_any v2 s2 l2 c2 hl2 (bytes_sinceF HY2.out (since_transF S1.out Y2.out.1))).mono ?_
  rintro e w3 ⟨⟨mb, ms, mn, mc, mF, ub, us, um, uc, ug, rfl, hmn, hmr, hum, hur⟩, hb3⟩
  unfold m5V
  obtain ⟨co, cn2, cf2, hcn2, hC1, hC2⟩ := cby_both mb ms mn mc mF ub us um uc ug hmn hum
  have Z3 : Hid (Since w1 w3 ∧ Since w2 w3) := ⟨since_call Y2.out.1 hb3, since_call Y2.out.2 hb3⟩
  have HC1 : Hid (∀ W, Since w3 W → Calls Try.prog 35 #[.agg #[.int .i64 (mb 0), .slice (ms 0) (mn 0) (mc 0), .int .i64 (mb 1), .slice (ms 1) (mn 1) (mc 1), .int .i64 (mb 2), .slice (ms 2) (mn 2) (mc 2), .int .i64 (mb 3), .slice (ms 3) (mn 3) (mc 3), .int .i64 (mb 4), .slice (ms 4) (mn 4) (mc 4)], .agg #[.int .i64 ub, .slice us um uc]] W fun e w' => NewVec W co cn2 cf2 e w') := fun W hW => hC1 W (hmr.since hW) (row_since hur hW)
  have HC2 : Hid (∀ W, Since w3 W → Calls Try.prog 36 #[.agg #[.int .i64 (mb 0), .slice (ms 0) (mn 0) (mc 0), .int .i64 (mb 1), .slice (ms 1) (mn 1) (mc 1), .int .i64 (mb 2), .slice (ms 2) (mn 2) (mc 2), .int .i64 (mb 3), .slice (ms 3) (mn 3) (mc 3), .int .i64 (mb 4), .slice (ms 4) (mn 4) (mc 4)], .agg #[.int .i64 ub, .slice us um uc]] W fun e w' => NewVec W co cn2 cf2 e w') := fun W hW => hC2 W (hmr.since hW) (row_since hur hW)
  have XV4 : Hid (Boxed w3 pv 45 bv sv m cv) := XV3.out.kept hb3 rfl
  have XX4 : Hid (Boxed w3 px 45 ro xs rn xc) := XX2.out.kept hb3 rfl
  clear hb3 hC1 hC2 hmr hur hmn hum Y2 XV3 XX2
  go_upto_region 6 with fail
  have q3 := m5boxing w3 mb ms mn mc
  have q4 := boxing (w3.alloc (.cells #[.int .i64 (mb 0), .slice (ms 0) (mn 0) (mc 0), .int .i64 (mb 1), .slice (ms 1) (mn 1) (mc 1), .int .i64 (mb 2), .slice (ms 2) (mn 2) (mc 2), .int .i64 (mb 3), .slice (ms 3) (mn 3) (mc 3), .int .i64 (mb 4), .slice (ms 4) (mn 4) (mc 4)] 50)) 45 ub us um uc
  have q4z := q4.2.2
  rw [q3.2.2] at q4z
  have q4x := q4.2.1
  rw [q3.2.2] at q4x
  have q3x := q3.2.1.kept q4.1 rfl
  have q34 : Below w3.heap.size w3 ((w3.alloc (.cells #[.int .i64 (mb 0), .slice (ms 0) (mn 0) (mc 0), .int .i64 (mb 1), .slice (ms 1) (mn 1) (mc 1), .int .i64 (mb 2), .slice (ms 2) (mn 2) (mc 2), .int .i64 (mb 3), .slice (ms 3) (mn 3) (mc 3), .int .i64 (mb 4), .slice (ms 4) (mn 4) (mc 4)] 50)).alloc (.cells #[.int .i64 ub, .slice us um uc] 45)) := q3.1.trans (q4.1.mono q3.1.size)
  clear q3 q4
  generalize (w3.alloc (.cells #[.int .i64 (mb 0), .slice (ms 0) (mn 0) (mc 0), .int .i64 (mb 1), .slice (ms 1) (mn 1) (mc 1), .int .i64 (mb 2), .slice (ms 2) (mn 2) (mc 2), .int .i64 (mb 3), .slice (ms 3) (mn 3) (mc 3), .int .i64 (mb 4), .slice (ms 4) (mn 4) (mc 4)] 50)).alloc (.cells #[.int .i64 ub, .slice us um uc] 45) = v4 at *
  have Z4 : Hid (Since w1 v4 ∧ Since w2 v4 ∧ Since w3 v4) := ⟨since_call Z3.out.1 q34, since_call Z3.out.2 q34, ⟨q34⟩⟩
  have XV5 : Hid (Boxed v4 pv 45 bv sv m cv) := XV4.out.kept q34 rfl
  have XX5 : Hid (Boxed v4 px 45 ro xs rn xc) := XX4.out.kept q34 rfl
  have XM5 : Hid (M5Box v4 w3.heap.size mb ms mn mc) := q3x
  obtain ⟨pu, hpu⟩ : ∃ pu, w3.heap.size + 1 = pu := ⟨_, rfl⟩
  rw [hpu] at q4x ⊢
  have XU5 : Hid (Boxed v4 pu 45 ub us um uc) := q4x
  clear q34 q3x q4x q4z hpu Z3 XV4 XX4
  generalize w3.heap.size = pm at *
  go_wp2_with fail
  refine (drawStartOf_any v4 s2 l2 c2 hl2 (bytes_sinceF HY2.out (since_transF S1.out Z4.out.1))).mono ?_
  rintro e V ⟨⟨ts, tn, tc, tf, rfl, htn, htr, hts⟩, hb5⟩
  obtain ⟨to2, tn2, tf2, htn2, hT1, hT2⟩ := start_both ts tn tc tf htn hts
  have HT1 : Hid (∀ W, Since V W → Calls Try.prog 37 #[.slice ts tn tc] W fun e w' => NewVec W to2 tn2 tf2 e w') := fun W hW => hT1 W (crow_sinceF htr hW)
  have HT2 : Hid (∀ W, Since V W → Calls Try.prog 38 #[.slice ts tn tc] W fun e w' => NewVec W to2 tn2 tf2 e w') := fun W hW => hT2 W (crow_sinceF htr hW)
  have Z15 : Hid (Since w1 V) := since_call Z4.out.1 hb5
  have Z25 : Hid (Since w2 V) := since_call Z4.out.2.1 hb5
  have Z35 : Hid (Since w3 V) := since_call Z4.out.2.2 hb5
  have XV : Hid (Boxed V pv 45 bv sv m cv) := XV5.out.kept hb5 rfl
  have XX : Hid (Boxed V px 45 ro xs rn xc) := XX5.out.kept hb5 rfl
  have XM : Hid (M5Box V pm mb ms mn mc) := XM5.out.kept hb5 rfl
  have XU : Hid (Boxed V pu 45 ub us um uc) := XU5.out.kept hb5 rfl
  have RX : Hid (∀ W, Since w2 W → Row W W.heap.size xs rn rf) := RX2
  clear hb5 hT1 hT2 htr hts htn Z4 XV5 XX5 XM5 XU5 RX2
  go_upto_region 7 with fail
  go_cut [59] (fun c wc => c = .bool false ∧ Since V wc)
  case first =>
    obtain ⟨x0, x1⟩ := XX.out.cells
    have xl := XX.out.lt
    obtain ⟨v0, v1⟩ := XV.out.cells
    have vl := XV.out.lt
    obtain ⟨u0, u1⟩ := XU.out.cells
    have ul := XU.out.lt
    obtain ⟨m0, m1, m2, m3, m4, m5, m6, m7, m8, m9⟩ := XM.out.cells
    have ml := XM.out.lt
    go_region_held3 (fun W => W.cell? ⟨px, 0, none⟩ = some (.int .i64 ro) ∧ W.cell? ⟨px, 1, none⟩ = some (.slice xs rn xc) ∧ W.cell? ⟨pv, 0, none⟩ = some (.int .i64 bv) ∧ W.cell? ⟨pv, 1, none⟩ = some (.slice sv m cv) ∧ W.cell? ⟨pu, 0, none⟩ = some (.int .i64 ub) ∧ W.cell? ⟨pu, 1, none⟩ = some (.slice us um uc) ∧ W.cell? ⟨pm, 0, none⟩ = some (.int .i64 (mb 0)) ∧ W.cell? ⟨pm, 1, none⟩ = some (.slice (ms 0) (mn 0) (mc 0)) ∧ W.cell? ⟨pm, 2, none⟩ = some (.int .i64 (mb 1)) ∧ W.cell? ⟨pm, 3, none⟩ = some (.slice (ms 1) (mn 1) (mc 1)) ∧ W.cell? ⟨pm, 4, none⟩ = some (.int .i64 (mb 2)) ∧ W.cell? ⟨pm, 5, none⟩ = some (.slice (ms 2) (mn 2) (mc 2)) ∧ W.cell? ⟨pm, 6, none⟩ = some (.int .i64 (mb 3)) ∧ W.cell? ⟨pm, 7, none⟩ = some (.slice (ms 3) (mn 3) (mc 3)) ∧ W.cell? ⟨pm, 8, none⟩ = some (.int .i64 (mb 4)) ∧ W.cell? ⟨pm, 9, none⟩ = some (.slice (ms 4) (mn 4) (mc 4))) (go_keep) (first
      | (go_at_call 34; (with_reducible refine (HK2.out _ (since_transF Z15.out (by first | exact since_drew (since_refl _) | exact since_refl _))).mono ?_); rintro e u1 ⟨s6, c6, rfl, hb, ho⟩; have T1 : Hid (Since V u1) := (by refine since_call ?_ hb; first | exact since_drew (since_refl _) | exact since_refl _); unfold vecV; have R6 : Hid (∀ X, Since u1 X → Row X X.heap.size s6 rn rf) := (fun X hX => ownS_since ho hX); clear ho; obtain ⟨x0, x1⟩ := (XX.out.since T1.out).cells; have xl := (XX.out.since T1.out).lt; obtain ⟨v0, v1⟩ := (XV.out.since T1.out).cells; have vl := (XV.out.since T1.out).lt; obtain ⟨u0, u1⟩ := (XU.out.since T1.out).cells; have ul := (XU.out.since T1.out).lt; obtain ⟨m0, m1, m2, m3, m4, m5, m6, m7, m8, m9⟩ := (XM.out.since T1.out).cells; have ml := (XM.out.since T1.out).lt; clear hb)
      | (go_at_call 33; (with_reducible refine (lwVec_same ro xs s6 rn xc c6 rf _ hrn (RX.out _ (since_transF Z25.out T1.out)) (R6.out _ (since_refl _))).mono ?_); rintro e u2 ⟨rfl, hb⟩; have T2 : Hid (Since V u2) := (by refine since_call ?_ hb; first | exact T1.out); obtain ⟨x0, x1⟩ := (XX.out.since T2.out).cells; have xl := (XX.out.since T2.out).lt; obtain ⟨v0, v1⟩ := (XV.out.since T2.out).cells; have vl := (XV.out.since T2.out).lt; obtain ⟨u0, u1⟩ := (XU.out.since T2.out).cells; have ul := (XU.out.since T2.out).lt; obtain ⟨m0, m1, m2, m3, m4, m5, m6, m7, m8, m9⟩ := (XM.out.since T2.out).cells; have ml := (XM.out.since T2.out).lt; clear hb)
      | (go_at_call 35; (with_reducible refine (HC1.out _ (since_transF Z35.out T2.out)).mono ?_); rintro e u3 ⟨s7, c7, rfl, hb, ho⟩; have T3 : Hid (Since V u3) := (by refine since_call ?_ hb; first | exact T2.out); unfold vecV; have R7 : Hid (∀ X, Since u3 X → Row X X.heap.size s7 cn2 cf2) := (fun X hX => ownS_since ho hX); clear ho; obtain ⟨x0, x1⟩ := (XX.out.since T3.out).cells; have xl := (XX.out.since T3.out).lt; obtain ⟨v0, v1⟩ := (XV.out.since T3.out).cells; have vl := (XV.out.since T3.out).lt; obtain ⟨u0, u1⟩ := (XU.out.since T3.out).cells; have ul := (XU.out.since T3.out).lt; obtain ⟨m0, m1, m2, m3, m4, m5, m6, m7, m8, m9⟩ := (XM.out.since T3.out).cells; have ml := (XM.out.since T3.out).lt; clear hb)
      | (go_at_call 36; (with_reducible refine (HC2.out _ (since_transF Z35.out T3.out)).mono ?_); rintro e u4 ⟨s8, c8, rfl, hb, ho⟩; have T4 : Hid (Since V u4) := (by refine since_call ?_ hb; first | exact T3.out); have U34 : Hid (Since u3 u4) := ⟨hb⟩; unfold vecV; have R8 : Hid (∀ X, Since u4 X → Row X X.heap.size s8 cn2 cf2) := (fun X hX => ownS_since ho hX); clear ho; obtain ⟨x0, x1⟩ := (XX.out.since T4.out).cells; have xl := (XX.out.since T4.out).lt; obtain ⟨v0, v1⟩ := (XV.out.since T4.out).cells; have vl := (XV.out.since T4.out).lt; obtain ⟨u0, u1⟩ := (XU.out.since T4.out).cells; have ul := (XU.out.since T4.out).lt; obtain ⟨m0, m1, m2, m3, m4, m5, m6, m7, m8, m9⟩ := (XM.out.since T4.out).cells; have ml := (XM.out.since T4.out).lt; clear hb)
      | (go_at_call 33; (with_reducible refine (lwVec_same co s7 s8 cn2 c7 c8 cf2 _ hcn2 (R7.out _ U34.out) (R8.out _ (since_refl _))).mono ?_); rintro e u5 ⟨rfl, hb⟩; have T5 : Hid (Since V u5) := (by refine since_call ?_ hb; first | exact T4.out); obtain ⟨x0, x1⟩ := (XX.out.since T5.out).cells; have xl := (XX.out.since T5.out).lt; obtain ⟨v0, v1⟩ := (XV.out.since T5.out).cells; have vl := (XV.out.since T5.out).lt; obtain ⟨u0, u1⟩ := (XU.out.since T5.out).cells; have ul := (XU.out.since T5.out).lt; obtain ⟨m0, m1, m2, m3, m4, m5, m6, m7, m8, m9⟩ := (XM.out.since T5.out).cells; have ml := (XM.out.since T5.out).lt; clear hb)
      | (go_at_call 37; (with_reducible refine (HT1.out _ T5.out).mono ?_); rintro e u6 ⟨s9, c9, rfl, hb, ho⟩; have T6 : Hid (Since V u6) := (by refine since_call ?_ hb; first | exact T5.out); unfold vecV; have R9 : Hid (∀ X, Since u6 X → Row X X.heap.size s9 tn2 tf2) := (fun X hX => ownS_since ho hX); clear ho; obtain ⟨x0, x1⟩ := (XX.out.since T6.out).cells; have xl := (XX.out.since T6.out).lt; obtain ⟨v0, v1⟩ := (XV.out.since T6.out).cells; have vl := (XV.out.since T6.out).lt; obtain ⟨u0, u1⟩ := (XU.out.since T6.out).cells; have ul := (XU.out.since T6.out).lt; obtain ⟨m0, m1, m2, m3, m4, m5, m6, m7, m8, m9⟩ := (XM.out.since T6.out).cells; have ml := (XM.out.since T6.out).lt; clear hb)
      | (go_at_call 38; (with_reducible refine (HT2.out _ T6.out).mono ?_); rintro e u7 ⟨s10, c10, rfl, hb, ho⟩; have T7 : Hid (Since V u7) := (by refine since_call ?_ hb; first | exact T6.out); have U67 : Hid (Since u6 u7) := ⟨hb⟩; unfold vecV; have R10 : Hid (∀ X, Since u7 X → Row X X.heap.size s10 tn2 tf2) := (fun X hX => ownS_since ho hX); clear ho; obtain ⟨x0, x1⟩ := (XX.out.since T7.out).cells; have xl := (XX.out.since T7.out).lt; obtain ⟨v0, v1⟩ := (XV.out.since T7.out).cells; have vl := (XV.out.since T7.out).lt; obtain ⟨u0, u1⟩ := (XU.out.since T7.out).cells; have ul := (XU.out.since T7.out).lt; obtain ⟨m0, m1, m2, m3, m4, m5, m6, m7, m8, m9⟩ := (XM.out.since T7.out).cells; have ml := (XM.out.since T7.out).lt; clear hb)
      | (go_at_call 33; (with_reducible refine (lwVec_same to2 s9 s10 tn2 c9 c10 tf2 _ htn2 (R9.out _ U67.out) (R10.out _ (since_refl _))).mono ?_); rintro e u8 ⟨rfl, hb⟩; have T8 : Hid (Since V u8) := (by refine since_call ?_ hb; first | exact T7.out); obtain ⟨x0, x1⟩ := (XX.out.since T8.out).cells; have xl := (XX.out.since T8.out).lt; obtain ⟨v0, v1⟩ := (XV.out.since T8.out).cells; have vl := (XV.out.since T8.out).lt; obtain ⟨u0, u1⟩ := (XU.out.since T8.out).cells; have ul := (XU.out.since T8.out).lt; obtain ⟨m0, m1, m2, m3, m4, m5, m6, m7, m8, m9⟩ := (XM.out.since T8.out).cells; have ml := (XM.out.since T8.out).lt; clear hb))
    all_goals
      have T := T8.out
      go_wp2_with fail
      go_meet
      exact ⟨by simp, T⟩
  case rest =>
    obtain ⟨rfl, hT⟩ := hcut
    have T0 : Hid (Since V wc) := hT
    clear hT HC1 HC2 HT1 HT2 HK1 HK2 XM XU
    obtain ⟨x0, x1⟩ := (XX.out.since T0.out).cells
    have xl := (XX.out.since T0.out).lt
    have hall := HALL.out
    rcases hall with h0 | ⟨hpos, rfl, rfl, hall⟩
    · subst h0
      clear HALL
      go_wp2_with fail
      go_ret
      exact ⟨rfl, (since_transF S1.out (since_transF Z15.out T0.out)).below⟩
    clear HALL
    have hne0 : (ro == 0) = false := by simp; omega
    obtain ⟨mF2, hM1, hM2⟩ := hall.masks
    have HM1 : Hid (∀ W, CRow W W.heap.size cs cn cf → Calls Try.prog 39 #[.slice cs cn cc] W fun e w' => NewMasks W ro rn mF2 e w') := hM1
    have HM2 : Hid (∀ (W : World) (x : Nat → Option Addr) (k : Nat → Nat), (∀ i, i < 5 → Row W W.heap.size (x i) rn (mF2 i)) → Row W W.heap.size sv rn g → Calls Try.prog 35 #[masksV ro x rn k, .agg #[.int .i64 ro, .slice sv rn cv]] W fun e w' => NewVec W ro rn rf e w') := hM2
    have HAG : Hid (∀ (W : World) (x : Option Addr) (k : Nat), CRow W W.heap.size cs cn cf → Row W W.heap.size x rn rf → Calls Try.prog 30 #[.slice cs cn cc, .agg #[.int .i64 ro, .slice x rn k]] W fun e w' => NewVec W ro rn rf e w') := hall.again
    have HAN : Hid (∀ (W : World) (x : Option Addr) (k : Nat), Row W W.heap.size x rn rf → Row W W.heap.size sv rn g → Calls Try.prog 40 #[.agg #[.int .i64 ro, .slice x rn k], .agg #[.int .i64 ro, .slice sv rn cv]] W fun e w' => NewVec W ro rn g e w') := hall.and
    have HMORE : Hid (CloseAll cs cn cc cf ro sv rn cv g rf) := hall
    clear hM1 hM2 hall
    go_upto_region 11 with fail
    clear x0 x1 xl
    obtain ⟨V2, hV2⟩ : ∃ y, y = wc := ⟨_, rfl⟩
    rw [← hV2] at T0 ⊢
    clear hV2
    have XX9 : Hid (Boxed V2 px 45 ro xs rn xc) := XX.out.since T0.out
    have XV9 : Hid (Boxed V2 pv 45 ro sv rn cv) := XV.out.since T0.out
    have Z19 : Hid (Since w1 V2) := since_transF Z15.out T0.out
    have Z29 : Hid (Since w2 V2) := since_transF Z25.out T0.out
    clear XX XV Z15 Z25 Z35 T0
    have XX : Hid (Boxed V2 px 45 ro xs rn xc) := XX9
    have XV : Hid (Boxed V2 pv 45 ro sv rn cv) := XV9
    have Z15 : Hid (Since w1 V2) := Z19
    have Z25 : Hid (Since w2 V2) := Z29
    clear XX9 XV9 Z19 Z29
    go_cut [85] (fun c wc => c = .bool false ∧ Since V2 wc)
    case first =>
      obtain ⟨x0, x1⟩ := XX.out.cells
      have xl := XX.out.lt
      obtain ⟨v0, v1⟩ := XV.out.cells
      have vl := XV.out.lt
      go_region_held3 (fun W => W.cell? ⟨px, 0, none⟩ = some (.int .i64 ro) ∧ W.cell? ⟨px, 1, none⟩ = some (.slice xs rn xc) ∧ W.cell? ⟨pv, 0, none⟩ = some (.int .i64 ro) ∧ W.cell? ⟨pv, 1, none⟩ = some (.slice sv rn cv)) (go_keep) (first
        | (go_at_call 39; (with_reducible refine (HM1.out _ (CR.out _ (since_transF Z15.out (by first | exact since_drew (since_refl _) | exact since_refl _)))).mono ?_); rintro e u1 ⟨es, ec, eh, rfl, hb, hml, _, _⟩; have T1 : Hid (Since V2 u1) := (by refine since_call ?_ hb; first | exact since_drew (since_refl _) | exact since_refl _); have RA : Hid (∀ X, Since u1 X → ∀ i, i < 5 → Row X X.heap.size (es i) rn (mF2 i)) := (fun X hX i hi => row_since (msl_rowF hml i hi) hX); clear hml; obtain ⟨x0, x1⟩ := (XX.out.since T1.out).cells; have xl := (XX.out.since T1.out).lt; obtain ⟨v0, v1⟩ := (XV.out.since T1.out).cells; have vl := (XV.out.since T1.out).lt; clear hb)
        | (go_at_call 35; (with_reducible refine (HM2.out _ es ec (RA.out _ (since_refl _)) (VR.out _ (since_transF Z15.out T1.out))).mono ?_); rintro e u2 ⟨s6, c6, rfl, hb, ho⟩; have T2 : Hid (Since V2 u2) := (by refine since_call ?_ hb; first | exact T1.out); unfold vecV; have R6 : Hid (∀ X, Since u2 X → Row X X.heap.size s6 rn rf) := (fun X hX => ownS_since ho hX); clear ho; obtain ⟨x0, x1⟩ := (XX.out.since T2.out).cells; have xl := (XX.out.since T2.out).lt; obtain ⟨v0, v1⟩ := (XV.out.since T2.out).cells; have vl := (XV.out.since T2.out).lt; clear hb)
        | (go_at_call 33; (with_reducible refine (lwVec_same ro s6 xs rn c6 xc rf _ hrn (R6.out _ (since_refl _)) (RX.out _ (since_transF Z25.out T2.out))).mono ?_); rintro e u3 ⟨rfl, hb⟩; have T3 : Hid (Since V2 u3) := (by refine since_call ?_ hb; first | exact T2.out); obtain ⟨x0, x1⟩ := (XX.out.since T3.out).cells; have xl := (XX.out.since T3.out).lt; obtain ⟨v0, v1⟩ := (XV.out.since T3.out).cells; have vl := (XV.out.since T3.out).lt; clear hb)
        | (go_at_call 30; (with_reducible refine (HAG.out _ xs xc (CR.out _ (since_transF Z15.out T3.out)) (RX.out _ (since_transF Z25.out T3.out))).mono ?_); rintro e u4 ⟨s7, c7, rfl, hb, ho⟩; have T4 : Hid (Since V2 u4) := (by refine since_call ?_ hb; first | exact T3.out); unfold vecV; have R7 : Hid (∀ X, Since u4 X → Row X X.heap.size s7 rn rf) := (fun X hX => ownS_since ho hX); clear ho; obtain ⟨x0, x1⟩ := (XX.out.since T4.out).cells; have xl := (XX.out.since T4.out).lt; obtain ⟨v0, v1⟩ := (XV.out.since T4.out).cells; have vl := (XV.out.since T4.out).lt; clear hb)
        | (go_at_call 33; (with_reducible refine (lwVec_same ro s7 xs rn c7 xc rf _ hrn (R7.out _ (since_refl _)) (RX.out _ (since_transF Z25.out T4.out))).mono ?_); rintro e u5 ⟨rfl, hb⟩; have T5 : Hid (Since V2 u5) := (by refine since_call ?_ hb; first | exact T4.out); obtain ⟨x0, x1⟩ := (XX.out.since T5.out).cells; have xl := (XX.out.since T5.out).lt; obtain ⟨v0, v1⟩ := (XV.out.since T5.out).cells; have vl := (XV.out.since T5.out).lt; clear hb)
        | (go_at_call 40; (with_reducible refine (HAN.out _ xs xc (RX.out _ (since_transF Z25.out T5.out)) (VR.out _ (since_transF Z15.out T5.out))).mono ?_); rintro e u6 ⟨s8, c8, rfl, hb, ho⟩; have T6 : Hid (Since V2 u6) := (by refine since_call ?_ hb; first | exact T5.out); unfold vecV; have R8 : Hid (∀ X, Since u6 X → Row X X.heap.size s8 rn g) := (fun X hX => ownS_since ho hX); clear ho; obtain ⟨x0, x1⟩ := (XX.out.since T6.out).cells; have xl := (XX.out.since T6.out).lt; obtain ⟨v0, v1⟩ := (XV.out.since T6.out).cells; have vl := (XV.out.since T6.out).lt; clear hb)
        | (go_at_call 33; (with_reducible refine (lwVec_same ro s8 sv rn c8 cv g _ hrn (R8.out _ (since_refl _)) (VR.out _ (since_transF Z15.out T6.out))).mono ?_); rintro e u7 ⟨rfl, hb⟩; have T7 : Hid (Since V2 u7) := (by refine since_call ?_ hb; first | exact T6.out); obtain ⟨x0, x1⟩ := (XX.out.since T7.out).cells; have xl := (XX.out.since T7.out).lt; obtain ⟨v0, v1⟩ := (XV.out.since T7.out).cells; have vl := (XV.out.since T7.out).lt; clear hb))
      all_goals
        have T := T7.out
        go_wp2_with fail
        go_meet
        exact ⟨by simp, T⟩
    case rest =>
      obtain ⟨rfl, hT⟩ := hcut
      obtain ⟨V3, hV3⟩ : ∃ y, y = wc := ⟨_, rfl⟩
      rw [← hV3] at hT ⊢
      clear hV3
      have T0 : Hid (Since V2 V3) := hT
      have Q0 : Hid (Since w V3) := since_transF S1.out (since_transF Z15.out hT)
      clear hT HM1 HM2 HAG HAN
      have XX9 : Hid (Boxed V3 px 45 ro xs rn xc) := XX.out.since T0.out
      have XV9 : Hid (Boxed V3 pv 45 ro sv rn cv) := XV.out.since T0.out
      have Z19 : Hid (Since w1 V3) := since_transF Z15.out T0.out
      have Z29 : Hid (Since w2 V3) := since_transF Z25.out T0.out
      clear XX XV Z15 Z25 T0
      have XX : Hid (Boxed V3 px 45 ro xs rn xc) := XX9
      have XV : Hid (Boxed V3 pv 45 ro sv rn cv) := XV9
      have Z15 : Hid (Since w1 V3) := Z19
      have Z25 : Hid (Since w2 V3) := Z29
      clear XX9 XV9 Z19 Z29
      have hR := HMORE.out.right
      have hro1 := hR.1
      have hro2 := hR.2.1
      have HNOT : Hid (∀ W, Since V3 W → Calls Try.prog 41 #[.agg #[.int .i64 ro, .slice sv rn cv]] W fun e w' => NewVec W ro rn (cutF ro rn (notF g)) e w') := fun W hW => specVecNot_yes ro sv rn cv g W hrn (VR.out W (since_transF Z15.out hW)) HMORE.out.right
      have HRN : Hid (Right ro rn (cutF ro rn (notF g))) := right_notM hR
      clear hR
      obtain ⟨v0, v1⟩ := XV.out.cells
      have vl := XV.out.lt
      go_wp2_with fail
      refine (HNOT.out V3 (since_refl _)).mono ?_
      rintro e w8 ⟨s8, c8, rfl, hb8, ho8⟩
      unfold vecV
      have q8 := boxing w8 45 ro s8 rn c8
      have r8 := ownS_since ho8 (⟨q8.1⟩ : Since w8 _)
      have S8 : Hid (Since V3 w8) := ⟨hb8⟩
      clear v0 v1 vl hb8 ho8
      go_wp2_with fail
      generalize w8.alloc (.cells #[.int .i64 ro, .slice s8 rn c8] 45) = w9 at *
      have L9 : Hid (∃ (ws : Option Addr) (wc9 : Nat) (h : Nat → Int), Boxed w9 w8.heap.size 45 ro ws rn wc9 ∧ Row w9 w9.heap.size ws rn h ∧ Right ro rn h) := ⟨s8, c8, _, q8.2.1, r8, HRN.out⟩
      have S9 : Hid (Since V3 w9) := since_call S8.out q8.1
      have HPW : Hid (V3.heap.size ≤ w8.heap.size ∧ pv < V3.heap.size) := ⟨S8.out.size, XV.out.lt⟩
      clear q8 r8 S8
      generalize w8.heap.size = pw at *
      go_loopw [12] (fun iv wr => ∃ i : Int, 0 ≤ i ∧ i ≤ 321 ∧ iv = .int .i64 i ∧ Since V3 wr ∧ ∃ (ws : Option Addr) (wc9 : Nat) (h : Nat → Int), Boxed wr pw 45 ro ws rn wc9 ∧ Row wr wr.heap.size ws rn h ∧ Right ro rn h) (fun iv _ => (322 - intOf iv).toNat)
      case atStart => exact ⟨0, by omega, by omega, rfl, S9.out, L9.out⟩
      case round =>
        obtain ⟨i, hi0, hi1, rfl, hS, ws, wc9, h, hX, hRW, hRt⟩ := hrel
        have SR : Hid (Since V3 wr) := hS
        have XW : Hid (Boxed wr pw 45 ro ws rn wc9) := hX
        have RW : Hid (∀ W, Since wr W → Row W W.heap.size ws rn h) := fun W hW => row_since hRW hW
        have HRT : Hid (Right ro rn h) := hRt
        clear hS hX hRW hRt
        obtain ⟨v0, v1⟩ := (XV.out.since SR.out).cells
        have vl := (XV.out.since SR.out).lt
        obtain ⟨w0, w1', w2', w3'⟩ := XW.out.four
        have wl := XW.out.lt
        by_cases hlt : i < ro
        · obtain ⟨k, qq, e1, e2, hkn, hq32, _, _⟩ := bit_place (show HasBit ro rn h i from ⟨HRT.out, hi0, hlt⟩)
          have VS := specSet_yes ro ws rn wc9 k qq h i false wr hrn (RW.out wr (since_refl _)) ⟨HRT.out, hi0, hlt⟩ e1 e2 hkn hq32
          have HR2 : Hid (Right ro rn (setF h k qq false)) := (set_right false HRT.out hlt e1 e2).1
          clear e1 e2
          go_wp2_with fail
          refine VS.mono ?_
          rintro e wa ⟨sa9, ca9, rfl, hba, hoa⟩
          unfold vecV
          have XA : Boxed wa pw 45 ro ws rn wc9 := XW.out.kept hba rfl
          have SA : Since V3 wa := since_call SR.out hba
          have HX9 : Hid (Boxed ((wa.setCell ⟨pw, 0, none⟩ (.int .i64 ro)).setCell ⟨pw, 1, none⟩ (.slice sa9 rn ca9)) pw 45 ro sa9 rn ca9) := boxed_storeC XA
          have HS9 : Hid (Since V3 ((wa.setCell ⟨pw, 0, none⟩ (.int .i64 ro)).setCell ⟨pw, 1, none⟩ (.slice sa9 rn ca9))) := since_set (since_set SA HPW.out.1) HPW.out.1
          have HR9 : Hid (Row ((wa.setCell ⟨pw, 0, none⟩ (.int .i64 ro)).setCell ⟨pw, 1, none⟩ (.slice sa9 rn ca9)) ((wa.setCell ⟨pw, 0, none⟩ (.int .i64 ro)).setCell ⟨pw, 1, none⟩ (.slice sa9 rn ca9)).heap.size sa9 rn (setF h k qq false)) := by
            have hpw := XW.out.lt
            rcases hoa with h9 | ⟨g9, h1, h2, h3⟩
            · exact Or.inl h9
            · have h4 := (h3.setOther ⟨pw, 0, none⟩ (.int .i64 ro) (by show pw ≠ g9; omega)).setOther ⟨pw, 1, none⟩ (.slice sa9 rn ca9) (by show pw ≠ g9; omega)
              exact h1 ▸ h4.row h4.1
          clear v0 v1 vl w0 w1' w2' w3' wl VS
          obtain ⟨w0, w1', w2', w3'⟩ := XA.four
          have wl := XA.lt
          clear XA SA hba hoa
          go_wp2_with fail
          go_roundw
          case rel => exact ⟨i + 2, by omega, by omega, by go_num, HS9.out, sa9, ca9, _, HX9.out, HR9.out, HR2.out⟩
          case measure => simp [intOf]; omega
        · obtain ⟨o, y, z, hO1, hO2, hO3, hO4⟩ := HMORE.out.more h HRT.out
          have HO1 : Hid (∀ (W : World) (x : Option Addr) (k : Nat), Row W W.heap.size sv rn g → Row W W.heap.size x rn h → Calls Try.prog 43 #[.agg #[.int .i64 ro, .slice sv rn cv], .agg #[.int .i64 ro, .slice x rn k]] W fun e w' => NewVec W ro rn o e w') := hO1
          have HO2 : Hid (∀ (W : World) (x : Option Addr) (k : Nat), CRow W W.heap.size cs cn cf → Row W W.heap.size x rn o → Calls Try.prog 30 #[.slice cs cn cc, .agg #[.int .i64 ro, .slice x rn k]] W fun e w' => NewVec W ro rn y e w') := hO2
          have HO3 : Hid (∀ (W : World) (x : Option Addr) (k : Nat), CRow W W.heap.size cs cn cf → Row W W.heap.size x rn h → Calls Try.prog 34 #[.slice cs cn cc, .agg #[.int .i64 ro, .slice x rn k]] W fun e w' => NewVec W ro rn z e w') := hO3
          have HO4 : Hid (∀ (W : World) (x x' : Option Addr) (k k' : Nat), Row W W.heap.size x rn rf → Row W W.heap.size x' rn z → Calls Try.prog 43 #[.agg #[.int .i64 ro, .slice x rn k], .agg #[.int .i64 ro, .slice x' rn k']] W fun e w' => NewVec W ro rn y e w') := hO4
          clear hO1 hO2 hO3 hO4 HMORE HNOT HRN S9 L9
          obtain ⟨x0, x1⟩ := (XX.out.since SR.out).cells
          have xl := (XX.out.since SR.out).lt
          have hpwv : pw ≠ pv := by have := HPW.out; omega
          have hpvw : pv ≠ pw := fun h => hpwv h.symm
          go_wp2_with fail
          go_region_held3 (fun W => W.cell? ⟨px, 0, none⟩ = some (.int .i64 ro) ∧ W.cell? ⟨px, 1, none⟩ = some (.slice xs rn xc) ∧ W.cell? ⟨pv, 0, none⟩ = some (.int .i64 ro) ∧ W.cell? ⟨pv, 1, none⟩ = some (.slice sv rn cv) ∧ W.cell? ⟨pw, 0, none⟩ = some (.int .i64 ro) ∧ W.cell? ⟨pw, 1, none⟩ = some (.slice ws rn wc9)) (go_keep) (first
            | (go_at_call 43; (with_reducible refine (HO1.out _ ws wc9 (VR.out _ (since_transF Z15.out (since_transF SR.out (by first | exact since_drew (since_refl _) | exact since_refl _)))) (RW.out _ (by first | exact since_drew (since_refl _) | exact since_refl _))).mono ?_); rintro e u1 ⟨s6, c6, rfl, hb, ho⟩; have T1 : Hid (Since wr u1) := (by refine since_call ?_ hb; first | exact since_drew (since_refl _) | exact since_refl _); have Q1 : Hid (Since V3 u1) := since_transF SR.out T1.out; unfold vecV; have R6 : Hid (∀ X, Since u1 X → Row X X.heap.size s6 rn o) := (fun X hX => ownS_since ho hX); clear ho; obtain ⟨x0, x1⟩ := (XX.out.since Q1.out).cells; have xl := (XX.out.since Q1.out).lt; obtain ⟨v0, v1⟩ := (XV.out.since Q1.out).cells; have vl := (XV.out.since Q1.out).lt; obtain ⟨w0, w1⟩ := (XW.out.since T1.out).cells; have wl := (XW.out.since T1.out).lt; clear hb)
            | (go_at_call 30; (with_reducible refine (HO2.out _ s6 c6 (CR.out _ (since_transF Z15.out Q1.out)) (R6.out _ (since_refl _))).mono ?_); rintro e u2 ⟨s7, c7, rfl, hb, ho⟩; have T2 : Hid (Since wr u2) := (by refine since_call ?_ hb; first | exact T1.out); have Q2 : Hid (Since V3 u2) := since_transF SR.out T2.out; unfold vecV; have R7 : Hid (∀ X, Since u2 X → Row X X.heap.size s7 rn y) := (fun X hX => ownS_since ho hX); clear ho; obtain ⟨x0, x1⟩ := (XX.out.since Q2.out).cells; have xl := (XX.out.since Q2.out).lt; obtain ⟨v0, v1⟩ := (XV.out.since Q2.out).cells; have vl := (XV.out.since Q2.out).lt; obtain ⟨w0, w1⟩ := (XW.out.since T2.out).cells; have wl := (XW.out.since T2.out).lt; clear hb)
            | (go_at_call 34; (with_reducible refine (HO3.out _ ws wc9 (CR.out _ (since_transF Z15.out Q2.out)) (RW.out _ T2.out)).mono ?_); rintro e u3 ⟨s8, c8, rfl, hb, ho⟩; have T3 : Hid (Since wr u3) := (by refine since_call ?_ hb; first | exact T2.out); have Q3 : Hid (Since V3 u3) := since_transF SR.out T3.out; have U23 : Hid (Since u2 u3) := ⟨hb⟩; unfold vecV; have R8 : Hid (∀ X, Since u3 X → Row X X.heap.size s8 rn z) := (fun X hX => ownS_since ho hX); clear ho; obtain ⟨x0, x1⟩ := (XX.out.since Q3.out).cells; have xl := (XX.out.since Q3.out).lt; obtain ⟨v0, v1⟩ := (XV.out.since Q3.out).cells; have vl := (XV.out.since Q3.out).lt; obtain ⟨w0, w1⟩ := (XW.out.since T3.out).cells; have wl := (XW.out.since T3.out).lt; clear hb)
            | (go_at_call 43; (with_reducible refine (HO4.out _ xs s8 xc c8 (RX.out _ (since_transF Z25.out Q3.out)) (R8.out _ (since_refl _))).mono ?_); rintro e u4 ⟨s9, c9, rfl, hb, ho⟩; have T4 : Hid (Since wr u4) := (by refine since_call ?_ hb; first | exact T3.out); have Q4 : Hid (Since V3 u4) := since_transF SR.out T4.out; have U34 : Hid (Since u3 u4) := ⟨hb⟩; unfold vecV; have R9 : Hid (∀ X, Since u4 X → Row X X.heap.size s9 rn y) := (fun X hX => ownS_since ho hX); clear ho; obtain ⟨x0, x1⟩ := (XX.out.since Q4.out).cells; have xl := (XX.out.since Q4.out).lt; obtain ⟨v0, v1⟩ := (XV.out.since Q4.out).cells; have vl := (XV.out.since Q4.out).lt; obtain ⟨w0, w1⟩ := (XW.out.since T4.out).cells; have wl := (XW.out.since T4.out).lt; clear hb)
            | (go_at_call 33; (with_reducible refine (lwVec_same ro s7 s9 rn c7 c9 y _ hrn (R7.out _ (since_transF U23.out U34.out)) (R9.out _ (since_refl _))).mono ?_); rintro e u5 ⟨rfl, hb⟩; have T5 : Hid (Since wr u5) := (by refine since_call ?_ hb; first | exact T4.out); have Q5 : Hid (Since V3 u5) := since_transF SR.out T5.out; obtain ⟨x0, x1⟩ := (XX.out.since Q5.out).cells; have xl := (XX.out.since Q5.out).lt; obtain ⟨v0, v1⟩ := (XV.out.since Q5.out).cells; have vl := (XV.out.since Q5.out).lt; obtain ⟨w0, w1⟩ := (XW.out.since T5.out).cells; have wl := (XW.out.since T5.out).lt; clear hb))
          all_goals
            go_wp2_with fail
            go_ret
            exact ⟨rfl, (since_transF Q0.out Q5.out).below⟩
end Go.Proofs.Ytlgnplnmcdjbiaa
