/- What is proved here: the law FnCells walks to true at every two slices of bytes; nothing that was there turns. -/
import Derived.Test.YthnnenbpbkmbhaaGreatQSpecKByteWToFnKCallW
import Derived.Test.YthnnenbpbkmbhaaGreatQLwCelWToLwMaskW
import Derived.Test.YthnnenbpbkmbhaaGreatQPlainW
import Derived.Test.YthnnenbpbkmbhaaGreatQSpecKRightW
import Derived.Test.YthnnenbpbkmbhaaGreatQBehindWToImplKRightW
import Derived.Test.YthnnenbpbkmbhaaGreatQPatMToSpecPRightW
import Derived.Test.YthnnenbpbkmbhaaGreatQSpecFitsW
import Derived.Test.YthnnenbpbkmbhaaGreatQVecCopyWToSpecAndW
import Derived.Test.YthnnenbpbkmbhaaGreatQVecSpecWToVecF
import Derived.Deep.RegionWith
namespace Go.Proofs.YthnnenbpbkmbhaaGreat
open Go.RowKit

theorem bytes_since {w W : World} {sa : Option Addr} {len : Nat} (h : Bytes8 w w.heap.size sa len) (hs : Since w W) : Bytes8 W W.heap.size sa len := by
  have hb := hs.below
  have h1 : Bytes8 W w.heap.size sa len := h.kept (row := none) ⟨hb.os, hb.tape, hb.output, hb.size, fun k hk _ => hb.block k hk⟩ (fun k hk => by cases hk)
  rcases h1 with h | ⟨bb, off, zs, h1, h2, h3⟩
  · exact Or.inl h
  · exact Or.inr ⟨bb, off, zs, h1, Nat.lt_of_lt_of_le h2 hb.size, h3⟩
theorem msl_row {W : World} {h : Nat → Nat} {s : Nat → Option Addr} {n : Nat} {F : Nat → Nat → Int} (m : MSl W h s n F) : ∀ i, i < 5 → Row W W.heap.size (s i) n (F i) := fun i hi => by
  have hc : i = 0 ∨ i = 1 ∨ i = 2 ∨ i = 3 ∨ i = 4 := by omega
  rcases hc with rfl | rfl | rfl | rfl | rfl
  · exact m.r0.row
  · exact m.r1.row
  · exact m.r2.row
  · exact m.r3.row
  · exact m.r4.row
theorem since_trans {w W V : World} (h : Since w W) (k : Since W V) : Since w V := since_call h k.below
/-- Two vectors in boxes of their own, and a world that came behind. -/
def TwoBoxes (w7 : World) (b : Int) (m : Nat) (F G : Nat → Int) (x y : Value) (W : World) : Prop :=
  ∃ (p q : Nat) (sx sy : Option Addr) (cx cy : Nat), x = .pointer (some ⟨p, 0, none⟩) ∧ y = .pointer (some ⟨q, 0, none⟩) ∧ Since w7 W ∧ Boxed W p 35 b sx m cx ∧ Boxed W q 35 b sy m cy ∧ Row W W.heap.size sx m F ∧ Row W W.heap.size sy m G

open Classical in
set_option maxRecDepth 100000 in
set_option maxHeartbeats 8000000 in
theorem law_fnCells (s1 : Option Addr) (l1 c1 : Nat) (s2 : Option Addr) (l2 c2 : Nat) (w : World) (hm1 : l1 ≤ maxLen) (hm2 : l2 ≤ maxLen) (hy1 : Bytes8 w w.heap.size s1 l1) (hy2 : Bytes8 w w.heap.size s2 l2) :
    Calls Tryz.prog 3 #[.slice s1 l1 c1, .slice s2 l2 c2] w fun e w' => e = .returned (.bool true) ∧ Below w.heap.size w w' := by
  unfold maxLen at hm1 hm2
  have HY1 : Hid (Bytes8 w w.heap.size s1 l1) := hy1
  have HY2 : Hid (Bytes8 w w.heap.size s2 l2) := hy2
  clear hy1 hy2
  by_cases hbig1 : 1048576 < (l1 : Int)
  · go_enter Tryz.func3, Tryz.ntmps3
    go_wp2
    go_ret
    exact ⟨rfl, Below.refl _ _⟩
  by_cases hbig2 : 1048576 < (l2 : Int)
  · go_enter Tryz.func3, Tryz.ntmps3
    go_wp2
    go_ret
    exact ⟨rfl, Below.refl _ _⟩
  have hl1 : l1 ≤ 1048576 := by omega
  have hl2 : l2 ≤ 1048576 := by omega
  go_enter Tryz.func3, Tryz.ntmps3
  go_wp2_with fail
  refine (drawFits_any w s1 l1 c1 hl1 HY1.out).mono ?_
  rintro e w1 ⟨⟨ps, pn, pc, pf, pt, rfl, hpn, hpr, hps, hpt⟩, hb1⟩
  have S1 : Hid (Since w w1) := ⟨hb1⟩
  obtain ⟨k, g, hk40, hgs, hPR, HK1, HK2⟩ := kof_both ps pn pc pf w1 hpn hpr hps
  have HPR : Hid (PatRight pn pf → k = (cellsP (atomsL pf pn)).length ∧ g = fun i => (cellsP (atomsL pf pn)).getD i cel0) := hPR
  have HI1 : Hid (∀ W, Since w1 W → Calls Tryz.prog 6 #[.slice ps pn pc] W fun e w' => NewCells W k g e w') := HK1
  have HS1 : Hid (∀ W, Since w1 W → Calls Tryz.prog 13 #[.slice ps pn pc] W fun e w' => NewCells W k g e w') := HK2
  have HPAT : Hid (∀ W, Since w1 W → Calls Tryz.prog 26 #[.slice ps pn pc] W fun e w' => e = .returned (.bool (decide (PatRight pn pf))) ∧ Below W.heap.size W w') := fun W hW => specPRight_any ps pn pc pf W (max60 (by omega)) (arow_since hpr hW) (fun i hi => max256 (hps i hi).1)
  have HFITS : Hid (∀ W, Since w1 W → Calls Tryz.prog 27 #[.slice ps pn pc, .string pt] W fun e w' => e = .returned (.bool (decide (FitsP pn pf pt))) ∧ Below W.heap.size W w') := fun W hW => specFits_any ps pn pc pf pt W (max60 (by omega)) (arow_since hpr hW) (fun i hi => max256 (hps i hi).1) (by unfold maxLen; omega)
  have HGS : Hid (∀ i, i < k → (g i).c.size ≤ 256) := hgs
  have HPT : Hid (pt.size ≤ 20000) := hpt
  clear hb1 HK1 HK2 hPR hpr hps hgs hpt
  go_wp2_with fail
  refine (HI1.out _ (since_refl _)).mono ?_
  rintro e w2 ⟨sx, cx, rfl, hb2, hsl⟩
  have S2 : Hid (Since w1 w2) := ⟨hb2⟩
  have R2 : Hid (CRow w2 w2.heap.size sx k g) := hsl.row
  clear hb2 hsl
  have HPF : Hid (∀ W, Since w2 W → Calls Tryz.prog 14 #[.slice sx k cx, .string pt] W fun e w' => e = .returned (.bool (decide (FitK k g pt))) ∧ Below W.heap.size W w') := (fit_both sx k cx g pt w2 (by omega) R2.out HGS.out HPT.out).1
  have HPK : Hid (∀ W, Since w2 W → Calls Tryz.prog 24 #[.slice sx k cx] W fun e w' => e = .returned (.bool (decide (CellsOk k g))) ∧ Below W.heap.size W w') := fun W hW => implKRight_any sx k cx g W (max60 (by omega)) (crow_since R2.out hW) (fun i hi => max256 (HGS.out i hi))
  clear HI1 HGS HPT
  go_wp2_with fail
  refine (drawCellsFit_any w2 s2 l2 c2 hl2 (bytes_since HY2.out (since_trans S1.out S2.out))).mono ?_
  rintro e w3 ⟨⟨fs, fn, fc, ff, ft, rfl, hfn, hfr, hfs, hft⟩, hb3⟩
  have S3 : Hid (Since w2 w3) := ⟨hb3⟩
  obtain ⟨hf1, hf2⟩ := fit_both fs fn fc ff ft w3 hfn hfr hfs hft
  have hp1 : ∀ W, Since w3 W → Calls Tryz.prog 22 #[.slice fs fn fc] W fun e w' => e = .returned (.bool (decide (PlainP fn ff))) ∧ Below W.heap.size W w' := fun W hW => implPlain_any fs fn fc ff W (max60 (by omega)) (crow_since hfr hW) (fun i hi => max256 (hfs i hi))
  have hp2 : ∀ W, Since w3 W → Calls Tryz.prog 23 #[.slice fs fn fc] W fun e w' => e = .returned (.bool (decide (PlainP fn ff))) ∧ Below W.heap.size W w' := fun W hW => specPlain_any fs fn fc ff W (max60 (by omega)) (crow_since hfr hW) (fun i hi => max256 (hfs i hi))
  have hr1 : ∀ W, Since w3 W → Calls Tryz.prog 24 #[.slice fs fn fc] W fun e w' => e = .returned (.bool (decide (CellsOk fn ff))) ∧ Below W.heap.size W w' := fun W hW => implKRight_any fs fn fc ff W (max60 (by omega)) (crow_since hfr hW) (fun i hi => max256 (hfs i hi))
  have hr2 : ∀ W, Since w3 W → Calls Tryz.prog 25 #[.slice fs fn fc] W fun e w' => e = .returned (.bool (decide (CellsOk fn ff))) ∧ Below W.heap.size W w' := fun W hW => specKRight_any fs fn fc ff W (max60 (by omega)) (crow_since hfr hW) (fun i hi => max256 (hfs i hi))
  generalize decide (FitK fn ff ft) = df at hf1 hf2
  generalize decide (PlainP fn ff) = dp at hp1 hp2
  generalize decide (CellsOk fn ff) = dr at hr1 hr2
  have HF1 : Hid (∀ W, Since w3 W → Calls Tryz.prog 14 #[.slice fs fn fc, .string ft] W fun e w' => e = .returned (.bool df) ∧ Below W.heap.size W w') := hf1
  have HF2 : Hid (∀ W, Since w3 W → Calls Tryz.prog 15 #[.slice fs fn fc, .string ft] W fun e w' => e = .returned (.bool df) ∧ Below W.heap.size W w') := hf2
  have HP1 : Hid (∀ W, Since w3 W → Calls Tryz.prog 22 #[.slice fs fn fc] W fun e w' => e = .returned (.bool dp) ∧ Below W.heap.size W w') := hp1
  have HP2 : Hid (∀ W, Since w3 W → Calls Tryz.prog 23 #[.slice fs fn fc] W fun e w' => e = .returned (.bool dp) ∧ Below W.heap.size W w') := hp2
  have HR1 : Hid (∀ W, Since w3 W → Calls Tryz.prog 24 #[.slice fs fn fc] W fun e w' => e = .returned (.bool dr) ∧ Below W.heap.size W w') := hr1
  have HR2 : Hid (∀ W, Since w3 W → Calls Tryz.prog 25 #[.slice fs fn fc] W fun e w' => e = .returned (.bool dr) ∧ Below W.heap.size W w') := hr2
  clear hb3 hf1 hf2 hp1 hp2 hr1 hr2 hfr hfs hft hfn
  go_wp2_with fail
  refine (drawMasksOf_any w3 s2 l2 c2 hl2 (bytes_since HY2.out (since_trans (since_trans S1.out S2.out) S3.out))).mono ?_
  rintro e w4 ⟨⟨ms, mn, mc, mf, rfl, hmn, hmr, hms⟩, hb4⟩
  have S4 : Hid (Since w3 w4) := ⟨hb4⟩
  obtain ⟨mb, mm, mF, hmm, hM1, hM2⟩ := masks_both ms mn mc mf w4 hmn hmr hms
  have HM1 : Hid (∀ W, Since w4 W → Calls Tryz.prog 17 #[.slice ms mn mc] W fun e w' => NewMasks W mb mm mF e w') := hM1
  have HM2 : Hid (∀ W, Since w4 W → Calls Tryz.prog 18 #[.slice ms mn mc] W fun e w' => NewMasks W mb mm mF e w') := hM2
  clear hb4 hM1 hM2 hmr hms hmn
  go_wp2_with fail
  refine (drawByteVec_any w4 s1 l1 c1 hl1 (bytes_since HY1.out (since_trans (since_trans (since_trans S1.out S2.out) S3.out) S4.out))).mono ?_
  rintro e w5 ⟨hci, hb5⟩
  obtain ⟨bs, bn, bc, bf, bi, rfl, hbn, hbr, hbs, _, _⟩ := hci
  have S5 : Hid (Since w4 w5) := ⟨hb5⟩
  obtain ⟨vb, vm, vF, vG, hvm, hVG, hV1, hV2, hV3, hV4⟩ := vec_both bs bn bc bf bi w5 hbn hbr hbs
  have HVG : Hid (Right vb vm vF → Right vb vm vG ∧ (fun i => bits .and .i64 (vF i) (vG i)) = vG) := hVG
  have HV1 : Hid (∀ W, Since w5 W → Calls Tryz.prog 10 #[.slice bs bn bc, .int .i64 bi] W fun e w' => NewVec W vb vm vF e w') := hV1
  have HV2 : Hid (∀ W, Since w5 W → Calls Tryz.prog 11 #[.slice bs bn bc, .int .i64 bi] W fun e w' => NewVec W vb vm vG e w') := hV2
  have HV3 : Hid (∀ W, Since w5 W → Calls Tryz.prog 20 #[.slice bs bn bc, .int .i64 bi] W fun e w' => NewVec W vb vm vF e w') := hV3
  have HV4 : Hid (∀ W, Since w5 W → Calls Tryz.prog 21 #[.slice bs bn bc, .int .i64 bi] W fun e w' => NewVec W vb vm vG e w') := hV4
  clear hb5 hV1 hV2 hV3 hV4 hVG hbr hbs hbn
  go_upto_region 8 with fail
  go_cut [13, 14] (fun x y wc => TwoBoxes w5 vb vm vF vG x y wc)
  case first =>
    go_wp2_with fail
    refine (HV1.out _ (since_refl _)).mono ?_
    rintro e w6 ⟨s6, c6, rfl, hb6, ho6⟩
    unfold vecV
    go_wp2_with fail
    refine (HV2.out _ ⟨hb6⟩).mono ?_
    rintro e w7 ⟨s7, c7, rfl, hb7, ho7⟩
    unfold vecV
    go_wp2_with fail
    have q1 := boxing w7 35 vb s6 vm c6
    have q2 := boxing (w7.alloc (.cells #[.int .i64 vb, .slice s6 vm c6] 35)) 35 vb s7 vm c7
    have hS : Since w7 ((w7.alloc (.cells #[.int .i64 vb, .slice s6 vm c6] 35)).alloc (.cells #[.int .i64 vb, .slice s7 vm c7] 35)) := since_call (since_call (since_refl _) q1.1) q2.1
    have hx := q2.2.1
    rw [q1.2.2] at hx
    have r6 := ownS_since ho6 (since_trans ⟨hb7⟩ hS)
    have r7 := ownS_since ho7 hS
    have h57 := since_trans (since_trans (w := w5) ⟨hb6⟩ ⟨hb7⟩) hS
    have h0 := q1.2.1.kept q2.1 rfl
    clear q1 q2 hb6 hb7 ho6 ho7 hS
    go_meet
    exact ⟨_, _, s6, s7, c6, c7, rfl, rfl, h57, h0, hx, r6, r7⟩
  case rest =>
    obtain ⟨p, q, sp, sq, cp, cq, rfl, rfl, hS, hx, hy, hrx, hry⟩ := hcut
    obtain ⟨V, hV⟩ : ∃ y, y = wc := ⟨_, rfl⟩
    rw [← hV] at hS hx hy hrx hry ⊢
    clear hV
    have Z55 : Hid (Since w5 V) := hS
    have Z45 : Hid (Since w4 V) := since_trans S5.out hS
    have Z35 : Hid (Since w3 V) := since_trans S4.out Z45.out
    have Z25 : Hid (Since w2 V) := since_trans S3.out Z35.out
    have Z15 : Hid (Since w1 V) := since_trans S2.out Z25.out
    have Z05 : Hid (Since w V) := since_trans S1.out Z15.out
    have X : Hid (Boxed V p 35 vb sp vm cp) := hx
    have Y : Hid (Boxed V q 35 vb sq vm cq) := hy
    have RX : Hid (Row V V.heap.size sp vm vF) := hrx
    have RY : Hid (Row V V.heap.size sq vm vG) := hry
    obtain ⟨x0, x1⟩ := hx.cells
    have xl := hx.lt
    obtain ⟨y0, y1⟩ := hy.cells
    have yl := hy.lt
    clear hS hx hy hrx hry S1 S2 S3 S4 S5
    go_upto_region 9 with fail
    go_cut [99] (fun c wc => c = .bool false ∧ Since V wc)
    case first =>
      go_region_held3 (fun W => W.cell? ⟨p, 0, none⟩ = some (.int .i64 vb) ∧ W.cell? ⟨p, 1, none⟩ = some (.slice sp vm cp) ∧ W.cell? ⟨q, 0, none⟩ = some (.int .i64 vb) ∧ W.cell? ⟨q, 1, none⟩ = some (.slice sq vm cq)) (go_keep) (first
        | (go_at_call 13; (with_reducible refine (HS1.out _ (since_trans Z15.out (by first | exact since_drew (since_refl _) | exact since_refl _))).mono ?_); rintro e u1 ⟨kx, kc, rfl, hb, hsl⟩; have T1 : Hid (Since V u1) := (by refine since_call ?_ hb; first | exact since_drew (since_refl _) | exact since_refl _); have RK : Hid (∀ X, Since u1 X → CRow X X.heap.size kx k g) := (fun X hX => crow_since hsl.row hX); clear hsl; obtain ⟨x0, x1⟩ := (X.out.since T1.out).cells; have xl := (X.out.since T1.out).lt; obtain ⟨y0, y1⟩ := (Y.out.since T1.out).cells; have yl := (Y.out.since T1.out).lt; clear hb)
        | (go_at_call 12; (with_reducible refine (lwCells_same sx kx k cx kc g _ (by omega) (crow_since R2.out (since_trans Z25.out T1.out)) (RK.out _ (since_refl _))).mono ?_); rintro e u2 ⟨rfl, hb⟩; have T2 : Hid (Since V u2) := (by refine since_call ?_ hb; first | exact T1.out); obtain ⟨x0, x1⟩ := (X.out.since T2.out).cells; have xl := (X.out.since T2.out).lt; obtain ⟨y0, y1⟩ := (Y.out.since T2.out).cells; have yl := (Y.out.since T2.out).lt; clear hb)
        | (go_at_call 14; (with_reducible refine (HF1.out _ (since_trans Z35.out T2.out)).mono ?_); rintro e u3 ⟨rfl, hb⟩; have T3 : Hid (Since V u3) := (by refine since_call ?_ hb; first | exact T2.out); obtain ⟨x0, x1⟩ := (X.out.since T3.out).cells; have xl := (X.out.since T3.out).lt; obtain ⟨y0, y1⟩ := (Y.out.since T3.out).cells; have yl := (Y.out.since T3.out).lt; clear hb)
        | (go_at_call 15; (with_reducible refine (HF2.out _ (since_trans Z35.out T3.out)).mono ?_); rintro e u4 ⟨rfl, hb⟩; have T4 : Hid (Since V u4) := (by refine since_call ?_ hb; first | exact T3.out); obtain ⟨x0, x1⟩ := (X.out.since T4.out).cells; have xl := (X.out.since T4.out).lt; obtain ⟨y0, y1⟩ := (Y.out.since T4.out).cells; have yl := (Y.out.since T4.out).lt; clear hb)
        | (go_at_call 17; (with_reducible refine (HM1.out _ (since_trans Z45.out T4.out)).mono ?_); rintro e u5 ⟨es, ec, eh, rfl, hb, hml, _, _⟩; have T5 : Hid (Since V u5) := (by refine since_call ?_ hb; first | exact T4.out); have RA : Hid (∀ X, Since u5 X → ∀ i, i < 5 → Row X X.heap.size (es i) mm (mF i)) := (fun X hX i hi => row_since (msl_row hml i hi) hX); clear hml; obtain ⟨x0, x1⟩ := (X.out.since T5.out).cells; have xl := (X.out.since T5.out).lt; obtain ⟨y0, y1⟩ := (Y.out.since T5.out).cells; have yl := (Y.out.since T5.out).lt; clear hb)
        | (go_at_call 18; (with_reducible refine (HM2.out _ (since_trans Z45.out T5.out)).mono ?_); rintro e u6 ⟨ds, dc, dh, rfl, hb, hml, _, _⟩; have T6 : Hid (Since V u6) := (by refine since_call ?_ hb; first | exact T5.out); have U56 : Hid (Since u5 u6) := ⟨hb⟩; have RD : Hid (∀ X, Since u6 X → ∀ i, i < 5 → Row X X.heap.size (ds i) mm (mF i)) := (fun X hX i hi => row_since (msl_row hml i hi) hX); clear hml; obtain ⟨x0, x1⟩ := (X.out.since T6.out).cells; have xl := (X.out.since T6.out).lt; obtain ⟨y0, y1⟩ := (Y.out.since T6.out).cells; have yl := (Y.out.since T6.out).lt; clear hb)
        | (go_at_call 16; (with_reducible refine (lwMasks_same mb es ds mm ec dc mF _ (by omega) (RA.out _ U56.out) (RD.out _ (since_refl _))).mono ?_); rintro e u7 ⟨rfl, hb⟩; have T7 : Hid (Since V u7) := (by refine since_call ?_ hb; first | exact T6.out); obtain ⟨x0, x1⟩ := (X.out.since T7.out).cells; have xl := (X.out.since T7.out).lt; obtain ⟨y0, y1⟩ := (Y.out.since T7.out).cells; have yl := (Y.out.since T7.out).lt; clear hb)
        | (go_at_call 20; (with_reducible refine (HV3.out _ (since_trans Z55.out T7.out)).mono ?_); rintro e u8 ⟨s8, c8, rfl, hb, ho⟩; have T8 : Hid (Since V u8) := (by refine since_call ?_ hb; first | exact T7.out); unfold vecV; have R8 : Hid (∀ X, Since u8 X → Row X X.heap.size s8 vm vF) := (fun X hX => ownS_since ho hX); clear ho; obtain ⟨x0, x1⟩ := (X.out.since T8.out).cells; have xl := (X.out.since T8.out).lt; obtain ⟨y0, y1⟩ := (Y.out.since T8.out).cells; have yl := (Y.out.since T8.out).lt; clear hb)
        | (go_at_call 19; (with_reducible refine (lwVec_same vb sp s8 vm cp c8 vF _ (by omega) (row_since RX.out T8.out) (R8.out _ (since_refl _))).mono ?_); rintro e u9 ⟨rfl, hb⟩; have T9 : Hid (Since V u9) := (by refine since_call ?_ hb; first | exact T8.out); obtain ⟨x0, x1⟩ := (X.out.since T9.out).cells; have xl := (X.out.since T9.out).lt; obtain ⟨y0, y1⟩ := (Y.out.since T9.out).cells; have yl := (Y.out.since T9.out).lt; clear hb)
        | (go_at_call 21; (with_reducible refine (HV4.out _ (since_trans Z55.out T9.out)).mono ?_); rintro e u10 ⟨s10, c10, rfl, hb, ho⟩; have T10 : Hid (Since V u10) := (by refine since_call ?_ hb; first | exact T9.out); unfold vecV; have R10 : Hid (∀ X, Since u10 X → Row X X.heap.size s10 vm vG) := (fun X hX => ownS_since ho hX); clear ho; obtain ⟨x0, x1⟩ := (X.out.since T10.out).cells; have xl := (X.out.since T10.out).lt; obtain ⟨y0, y1⟩ := (Y.out.since T10.out).cells; have yl := (Y.out.since T10.out).lt; clear hb)
        | (go_at_call 19; (with_reducible refine (lwVec_same vb sq s10 vm cq c10 vG _ (by omega) (row_since RY.out T10.out) (R10.out _ (since_refl _))).mono ?_); rintro e u11 ⟨rfl, hb⟩; have T11 : Hid (Since V u11) := (by refine since_call ?_ hb; first | exact T10.out); obtain ⟨x0, x1⟩ := (X.out.since T11.out).cells; have xl := (X.out.since T11.out).lt; obtain ⟨y0, y1⟩ := (Y.out.since T11.out).cells; have yl := (Y.out.since T11.out).lt; clear hb)
        | (go_at_call 22; (with_reducible refine (HP1.out _ (since_trans Z35.out T11.out)).mono ?_); rintro e u12 ⟨rfl, hb⟩; have T12 : Hid (Since V u12) := (by refine since_call ?_ hb; first | exact T11.out); obtain ⟨x0, x1⟩ := (X.out.since T12.out).cells; have xl := (X.out.since T12.out).lt; obtain ⟨y0, y1⟩ := (Y.out.since T12.out).cells; have yl := (Y.out.since T12.out).lt; clear hb)
        | (go_at_call 23; (with_reducible refine (HP2.out _ (since_trans Z35.out T12.out)).mono ?_); rintro e u13 ⟨rfl, hb⟩; have T13 : Hid (Since V u13) := (by refine since_call ?_ hb; first | exact T12.out); obtain ⟨x0, x1⟩ := (X.out.since T13.out).cells; have xl := (X.out.since T13.out).lt; obtain ⟨y0, y1⟩ := (Y.out.since T13.out).cells; have yl := (Y.out.since T13.out).lt; clear hb)
        | (go_at_call 24; (with_reducible refine (HR1.out _ (since_trans Z35.out T13.out)).mono ?_); rintro e u14 ⟨rfl, hb⟩; have T14 : Hid (Since V u14) := (by refine since_call ?_ hb; first | exact T13.out); obtain ⟨x0, x1⟩ := (X.out.since T14.out).cells; have xl := (X.out.since T14.out).lt; obtain ⟨y0, y1⟩ := (Y.out.since T14.out).cells; have yl := (Y.out.since T14.out).lt; clear hb)
        | (go_at_call 25; (with_reducible refine (HR2.out _ (since_trans Z35.out T14.out)).mono ?_); rintro e u15 ⟨rfl, hb⟩; have T15 : Hid (Since V u15) := (by refine since_call ?_ hb; first | exact T14.out); obtain ⟨x0, x1⟩ := (X.out.since T15.out).cells; have xl := (X.out.since T15.out).lt; obtain ⟨y0, y1⟩ := (Y.out.since T15.out).cells; have yl := (Y.out.since T15.out).lt; clear hb))
      all_goals
        have T := T15.out
        go_wp2_with fail
        go_meet
        exact ⟨by simp, T⟩
    case rest =>
      obtain ⟨rfl, hT⟩ := hcut
      have T0 : Hid (Since V wc) := hT
      clear hT
      clear x0 x1 xl y0 y1 yl
      clear HS1 HF1 HF2 HM1 HM2 HV3 HV4 HP1 HP2 HR1 HR2
      go_upto_region 11 with fail
      go_cut [115] (fun c wd => c = .bool false ∧ Since V wd)
      case first =>
        by_cases hP : PatRight pn pf
        · obtain ⟨hk, hg⟩ := HPR.out hP
          have hok := cells_right hP hk hg
          rw [decide_eq_true hP] at HPAT
          rw [decide_eq_true hok] at HPK
          rw [decide_eq_decide.mpr (fits_same (t := pt) hP hk hg hok)] at HPF
          generalize decide (FitsP pn pf pt) = d at HPF HFITS
          clear hP hk hg hok
          go_wp2_with (first
            | (go_at_call 26; refine (HPAT.out _ (since_trans Z15.out T0.out)).mono ?_; rintro e u1 ⟨rfl, hb⟩; have T1 : Hid (Since V u1) := since_call T0.out hb; clear hb)
            | (go_at_call 24; refine (HPK.out _ (since_trans Z25.out T1.out)).mono ?_; rintro e u2 ⟨rfl, hb⟩; have T2 : Hid (Since V u2) := since_call T1.out hb; clear hb)
            | (go_at_call 14; refine (HPF.out _ (since_trans Z25.out T2.out)).mono ?_; rintro e u3 ⟨rfl, hb⟩; have T3 : Hid (Since V u3) := since_call T2.out hb; clear hb)
            | (go_at_call 27; refine (HFITS.out _ (since_trans Z15.out T3.out)).mono ?_; rintro e u4 ⟨rfl, hb⟩; have T4 : Hid (Since V u4) := since_call T3.out hb; clear hb))
          have T := T4.out
          go_meet
          exact ⟨by simp, T⟩
        · rw [decide_eq_false hP] at HPAT
          clear hP
          go_wp2_with (first
            | (go_at_call 26; refine (HPAT.out _ (since_trans Z15.out T0.out)).mono ?_; rintro e u1 ⟨rfl, hb⟩; have T1 : Hid (Since V u1) := since_call T0.out hb; clear hb))
          have T := T1.out
          go_meet
          exact ⟨by simp, T⟩
      case rest =>
        obtain ⟨rfl, hT⟩ := hcut
        have T5 : Hid (Since V wc) := hT
        have Q : Hid (Since V wc.drew) := since_drew hT
        clear hT
        obtain ⟨x0, x1⟩ := (X.out.since T5.out).cells
        have xl := (X.out.since T5.out).lt
        obtain ⟨y0, y1⟩ := (Y.out.since T5.out).cells
        have yl := (Y.out.since T5.out).lt
        by_cases hR : Right vb vm vF
        · obtain ⟨hR2, hand⟩ := HVG.out hR
          have HVR : Hid (∀ W, Since V W → Calls Tryz.prog 28 #[.agg #[.int .i64 vb, .slice sp vm cp]] W fun e w' => e = .returned (.bool true) ∧ Below W.heap.size W w') := fun W hW => by
            have h := specRight_any vb sp vm cp vF W (by omega) (row_since RX.out hW)
            rw [decide_eq_true hR] at h
            exact h
          have HVA : Hid (∀ W, Since V W → Calls Tryz.prog 29 #[.agg #[.int .i64 vb, .slice sp vm cp], .agg #[.int .i64 vb, .slice sq vm cq]] W fun e w' => NewVec W vb vm vG e w') := fun W hW => by
            have h := specVecAnd_yes vb sp sq vm cp cq vF vG W (by omega) (row_since RX.out hW) (row_since RY.out hW) hR hR2
            rw [hand] at h
            exact h
          clear hR hR2 hand
          go_wp2_with fail
          go_region_held3 (fun W => W.cell? ⟨p, 0, none⟩ = some (.int .i64 vb) ∧ W.cell? ⟨p, 1, none⟩ = some (.slice sp vm cp) ∧ W.cell? ⟨q, 0, none⟩ = some (.int .i64 vb) ∧ W.cell? ⟨q, 1, none⟩ = some (.slice sq vm cq)) (go_keep) (first
            | (go_at_call 28; (with_reducible refine (HVR.out _ (by first | exact T5.out | exact Q.out)).mono ?_); rintro e u1 ⟨rfl, hb⟩; have T6 : Hid (Since V u1) := (by refine since_call ?_ hb; first | exact T5.out | exact Q.out); obtain ⟨x0, x1⟩ := (X.out.since T6.out).cells; have xl := (X.out.since T6.out).lt; obtain ⟨y0, y1⟩ := (Y.out.since T6.out).cells; have yl := (Y.out.since T6.out).lt; clear hb)
            | (go_at_call 29; (with_reducible refine (HVA.out _ T6.out).mono ?_); rintro e u2 ⟨s2v, c2v, rfl, hb, ho⟩; unfold vecV; have R7 : Hid (∀ X, Since u2 X → Row X X.heap.size s2v vm vG) := (fun X hX => ownS_since ho hX); clear ho; have T7 : Hid (Since V u2) := since_call T6.out hb; obtain ⟨x0, x1⟩ := (X.out.since T7.out).cells; have xl := (X.out.since T7.out).lt; obtain ⟨y0, y1⟩ := (Y.out.since T7.out).cells; have yl := (Y.out.since T7.out).lt; clear hb)
            | (go_at_call 19; (with_reducible refine (lwVec_same vb s2v sq vm c2v cq vG _ (by omega) (R7.out _ (since_refl _)) (row_since RY.out T7.out)).mono ?_); rintro e u3 ⟨rfl, hb⟩; have T8 : Hid (Since V u3) := since_call T7.out hb; obtain ⟨x0, x1⟩ := (X.out.since T8.out).cells; have xl := (X.out.since T8.out).lt; obtain ⟨y0, y1⟩ := (Y.out.since T8.out).cells; have yl := (Y.out.since T8.out).lt; clear hb))
          all_goals
            go_wp2_with fail
            go_ret
            exact ⟨rfl, (since_trans Z05.out T8.out).below⟩
        · have HVR : Hid (∀ W, Since V W → Calls Tryz.prog 28 #[.agg #[.int .i64 vb, .slice sp vm cp]] W fun e w' => e = .returned (.bool false) ∧ Below W.heap.size W w') := fun W hW => by
            have h := specRight_any vb sp vm cp vF W (by omega) (row_since RX.out hW)
            rw [decide_eq_false hR] at h
            exact h
          clear hR
          go_wp2_with fail
          first | (go_region_with (first | (go_at_call 28; refine (HVR.out _ Q.out).mono ?_; rintro e u1 ⟨rfl, hb⟩; have T6 : Hid (Since V u1) := since_call Q.out hb; obtain ⟨x0, x1⟩ := (X.out.since T6.out).cells; have xl := (X.out.since T6.out).lt; obtain ⟨y0, y1⟩ := (Y.out.since T6.out).cells; have yl := (Y.out.since T6.out).lt; clear hb))) | fail
          all_goals
            go_wp2_with fail
            go_ret
            exact ⟨rfl, (since_trans Z05.out T6.out).below⟩
end Go.Proofs.YthnnenbpbkmbhaaGreat
