/- What is proved here: the law FnTurned walks to true at every two slices of bytes; nothing that was there turns. -/
import Derived.Test.YtfeolbgenpknfaaGreatQSpecRunWToFnTurnCallW
import Derived.Test.YtfeolbgenpknfaaGreatQDrawCloWToLwStepW
import Derived.Deep.RegionWith
import Derived.Deep.RegionHeld3
import Derived.Deep.QuietTactic
import Derived.BigQuiet
namespace Go.Proofs.YtfeolbgenpknfaaGreat
open Go.RowKit

theorem bytes_sinceT {w W : World} {sa : Option Addr} {len : Nat} (h : Bytes8 w w.heap.size sa len) (hs : Since w W) : Bytes8 W W.heap.size sa len := by
  have hb := hs.below
  have h1 : Bytes8 W w.heap.size sa len := h.kept (row := none) ⟨hb.os, hb.tape, hb.output, hb.size, fun k hk _ => hb.block k hk⟩ (fun k hk => by cases hk)
  rcases h1 with h | ⟨bb, off, zs, h1, h2, h3⟩
  · exact Or.inl h
  · exact Or.inr ⟨bb, off, zs, h1, Nat.lt_of_lt_of_le h2 hb.size, h3⟩
theorem since_transT {w W V : World} (h : Since w W) (k : Since W V) : Since w V := since_call h k.below
theorem crow_sinceT {w W : World} {sa : Option Addr} {n : Nat} {f : Nat → Cel} (h : CRow w w.heap.size sa n f) (hs : Since w W) : CRow W W.heap.size sa n f := (h.kept hs.below).up hs.below.size
open Classical in
set_option maxRecDepth 100000 in
set_option maxHeartbeats 8000000 in
theorem law_fnTurned (s1 : Option Addr) (l1 c1 : Nat) (s2 : Option Addr) (l2 c2 : Nat) (w : World) (hm1 : l1 ≤ maxLen) (hm2 : l2 ≤ maxLen) (hy1 : Bytes8 w w.heap.size s1 l1) (hy2 : Bytes8 w w.heap.size s2 l2) :
    Calls Tryz.prog 3 #[.slice s1 l1 c1, .slice s2 l2 c2] w fun e w' => e = .returned (.bool true) ∧ Below w.heap.size w w' := by
  unfold maxLen at hm1 hm2
  have HY1 : Hid (Bytes8 w w.heap.size s1 l1) := hy1
  have HY2 : Hid (Bytes8 w w.heap.size s2 l2) := hy2
  clear hy1 hy2
  by_cases hbig1 : 1048576 < (l1 : Int)
  · go_enter Tryz.func3, Tryz.ntmps3
    go_wp2
    go_ret
    exact ⟨rfl, Below.refl _ _⟩
  by_cases hbig2 : 1048576 < (l2 : Int)
  · go_enter Tryz.func3, Tryz.ntmps3
    go_wp2
    go_ret
    exact ⟨rfl, Below.refl _ _⟩
  have hl1 : l1 ≤ 1048576 := by omega
  have hl2 : l2 ≤ 1048576 := by omega
  go_enter Tryz.func3, Tryz.ntmps3
  go_wp2_with fail
  refine (drawTurnRun_any w s1 l1 c1 hl1 HY1.out).mono ?_
  rintro e w1 ⟨⟨ds, dn, dc, df, t, rfl, hdn, hdr, hds, htl⟩, hb⟩
  have S1 : Hid (Since w w1) := ⟨hb⟩
  have DR : Hid (∀ W, Since w1 W → CRow W W.heap.size ds dn df) := fun W hW => crow_sinceT hdr hW
  obtain ⟨rn, rf, hrn, hNP, hT1, hT2, hB1, hB2, hRUN⟩ := turns_both ds dn dc df t hdn hds htl
  have HNP : Hid (¬ PlainP dn df → rn = 0) := hNP
  have HT1 : Hid (∀ W, CRow W W.heap.size ds dn df → Calls Tryz.prog 5 #[.slice ds dn dc, .string t] W fun e w' => NewInts W rn rf e w') := hT1
  have HT2 : Hid (∀ W, CRow W W.heap.size ds dn df → Calls Tryz.prog 14 #[.slice ds dn dc, .string t] W fun e w' => NewInts W rn rf e w') := hT2
  have HB1 : Hid (∀ W, CRow W W.heap.size ds dn df → Calls Tryz.prog 6 #[.slice ds dn dc, .string t] W fun e w' => NewInts W rn rf e w') := hB1
  have HB2 : Hid (∀ W, CRow W W.heap.size ds dn df → Calls Tryz.prog 15 #[.slice ds dn dc, .string t] W fun e w' => NewInts W rn rf e w') := hB2
  have HRUN : Hid (PlainP dn df → ∀ W, CRow W W.heap.size ds dn df → Calls Tryz.prog 29 #[.slice ds dn dc, .string t] W fun e w' => NewInts W rn rf e w') := hRUN
  have HDS : Hid (dn ≤ 60 ∧ ∀ i, i < dn → (df i).c.size ≤ 256) := ⟨hdn, hds⟩
  clear hb hdr hds hdn hNP hT1 hT2 hB1 hB2 hRUN htl
  go_wp2_with fail
  refine (HT1.out w1 (DR.out w1 (since_refl _))).mono ?_
  rintro e w2 ⟨rs, rc, rfl, hb, ho⟩
  have Y2 : Hid (Since w1 w2) := ⟨hb⟩
  have RR : Hid (∀ W, Since w2 W → Row W W.heap.size rs rn rf) := fun W hW => ownS_since ho hW
  clear hb ho
  go_wp2_with fail
  refine (HB1.out w2 (DR.out w2 Y2.out)).mono ?_
  rintro e w3 ⟨bs, bc, rfl, hb, ho⟩
  have Y3 : Hid (Since w1 w3 ∧ Since w2 w3) := ⟨since_call Y2.out hb, ⟨hb⟩⟩
  have RB : Hid (∀ W, Since w3 W → Row W W.heap.size bs rn rf) := fun W hW => ownS_since ho hW
  clear hb ho Y2
  go_wp2_with fail
  refine (drawTurnStep_any w3 s2 l2 c2 hl2 (bytes_sinceT HY2.out (since_transT S1.out Y3.out.1))).mono ?_
  rintro e w4 ⟨⟨cs, cn, cc, cf, bv, sv, m, cv, g, x, rfl, hcn, hcr, hcs, hvm, hvr, hx0, hx1⟩, hb⟩
  have Y4 : Hid (Since w1 w4 ∧ Since w2 w4 ∧ Since w3 w4) := ⟨since_call Y3.out.1 hb, since_call Y3.out.2 hb, ⟨hb⟩⟩
  have CR : Hid (∀ W, Since w4 W → CRow W W.heap.size cs cn cf) := fun W hW => crow_sinceT hcr hW
  have VR : Hid (∀ W, Since w4 W → Row W W.heap.size sv m g) := fun W hW => row_since hvr hW
  obtain ⟨ko, kn, kf, kt, hkn, hK1, hK2⟩ := tstep_both cs cn cc cf bv sv m cv g x hcn hcs hvm
  have HK1 : Hid (∀ W, CRow W W.heap.size cs cn cf → Row W W.heap.size sv m g → Calls Tryz.prog 17 #[.slice cs cn cc, .agg #[.int .i64 bv, .slice sv m cv], .int .i64 x] W fun e w' => NewStep W ko kn kf kt e w') := hK1
  have HK2 : Hid (∀ W, CRow W W.heap.size cs cn cf → Row W W.heap.size sv m g → Calls Tryz.prog 18 #[.slice cs cn cc, .agg #[.int .i64 bv, .slice sv m cv], .int .i64 x] W fun e w' => NewStep W ko kn kf kt e w') := hK2
  have q1 := boxing w4 29 bv sv m cv
  clear hb hcr hvr hcs hcn hx0 hx1 hvm hK1 hK2 Y3
  go_wp2_with fail
  generalize w4.alloc (.cells #[.int .i64 bv, .slice sv m cv] 29) = v4 at *
  have X4 : Hid (Since w4 v4) := ⟨q1.1⟩
  have XV4 : Hid (Boxed v4 w4.heap.size 29 bv sv m cv) := q1.2.1
  clear q1
  generalize w4.heap.size = pv at *
  refine (drawWindows_any v4 s2 l2 c2 hl2 (bytes_sinceT HY2.out (since_transT S1.out (since_transT Y4.out.1 X4.out)))).mono ?_
  rintro e w5 ⟨⟨ws, wn, wc9, wf, u, rfl, hwn, hwr, hws, hul⟩, hb⟩
  have Y5 : Hid (Since w4 w5) := since_call X4.out hb
  have XV5 : Hid (Boxed w5 pv 29 bv sv m cv) := XV4.out.kept hb rfl
  have WR : Hid (∀ W, Since w5 W → CRow W W.heap.size ws wn wf) := fun W hW => crow_sinceT hwr hW
  obtain ⟨L, hL, hll, hW1, hW2⟩ := wins_both ws wn wc9 wf u hwn hws hul
  have HW1 : Hid (∀ W, CRow W W.heap.size ws wn wf → Calls Tryz.prog 9 #[.slice ws wn wc9, .string u] W fun e w' => NewWins W L e w') := hW1
  have HW2 : Hid (∀ W, CRow W W.heap.size ws wn wf → Calls Tryz.prog 10 #[.slice ws wn wc9, .string u] W fun e w' => NewWins W L e w') := hW2
  have HWP : Hid (WinP wn wf u L ∧ wn ≤ 60) := ⟨hL, hwn⟩
  obtain ⟨b, hD1, hD2⟩ := border_both ws wn wc9 wf u hwn hws hul
  have HD1 : Hid (∀ W, CRow W W.heap.size ws wn wf → Calls Tryz.prog 26 #[.slice ws wn wc9, .string u] W fun e w' => e = .returned (.int .i64 (b : Int)) ∧ Below W.heap.size W w') := hD1
  have HD2 : Hid (∀ W, CRow W W.heap.size ws wn wf → Calls Tryz.prog 27 #[.slice ws wn wc9, .string u] W fun e w' => e = .returned (.int .i64 (b : Int)) ∧ Below W.heap.size W w') := hD2
  clear hb hwr hws hwn hL hW1 hW2 hD1 hD2 X4 XV4 hul
  go_wp2_with fail
  refine (HW1.out w5 (WR.out w5 (since_refl _))).mono ?_
  rintro e w6 hN
  obtain ⟨g1, gc1, rfl, hb, ho⟩ := hN.sl
  have Y6 : Hid (Since w4 w6 ∧ Since w5 w6) := ⟨since_call Y5.out hb, ⟨hb⟩⟩
  have XV6 : Hid (Boxed w6 pv 29 bv sv m cv) := XV5.out.kept hb rfl
  have G1 : Hid (WSl w6 w5.heap.size w6.heap.size g1 L.length (triplesL L)) := ho
  clear hb ho hN Y5 XV5
  go_wp2_with fail
  refine (HW2.out w6 (WR.out w6 Y6.out.2)).mono ?_
  rintro e w7 hN
  obtain ⟨g2, gc2, rfl, hb, ho⟩ := hN.sl
  have Y7 : Hid (Since w4 w7 ∧ Since w5 w7) := ⟨since_call Y6.out.1 hb, since_call Y6.out.2 hb⟩
  have XV7 : Hid (Boxed w7 pv 29 bv sv m cv) := XV6.out.kept hb rfl
  have G1' : Hid (WSl w7 w5.heap.size w6.heap.size g1 L.length (triplesL L)) := G1.out.kept hb
  have G2 : Hid (WSl w7 w6.heap.size w7.heap.size g2 L.length (triplesL L)) := ho
  clear hb ho hN Y6 XV6 G1
  go_wp2_with fail
  refine (drawIsFactor_any w7 s1 l1 c1 hl1 (bytes_sinceT HY1.out (since_transT S1.out (since_transT Y4.out.1 Y7.out.1)))).mono ?_
  rintro e w8 ⟨⟨fs, fn, fc, ff, v, rfl, hfn, hfr, hfs, hvl⟩, hb⟩
  have Y8 : Hid (Since w4 w8 ∧ Since w5 w8 ∧ Since w7 w8) := ⟨since_call Y7.out.1 hb, since_call Y7.out.2 hb, ⟨hb⟩⟩
  have XV8 : Hid (Boxed w8 pv 29 bv sv m cv) := XV7.out.kept hb rfl
  have FR : Hid (∀ W, Since w8 W → CRow W W.heap.size fs fn ff) := fun W hW => crow_sinceT hfr hW
  obtain ⟨yF, hF1, hF2⟩ := factor_both fs fn fc ff v hfn hfs hvl
  have HF1 : Hid (∀ W, CRow W W.heap.size fs fn ff → Calls Tryz.prog 19 #[.slice fs fn fc, .string v] W fun e w' => e = .returned (.bool yF) ∧ Below W.heap.size W w') := hF1
  have HF2 : Hid (∀ W, CRow W W.heap.size fs fn ff → Calls Tryz.prog 20 #[.slice fs fn fc, .string v] W fun e w' => e = .returned (.bool yF) ∧ Below W.heap.size W w') := hF2
  clear hb hfr hfs hfn hF1 hF2 XV7 hvl Y7
  go_wp2_with fail
  refine (drawTurnByte_any w8 s2 l2 c2 hl2 (bytes_sinceT HY2.out (since_transT S1.out (since_transT Y4.out.1 Y8.out.1)))).mono ?_
  rintro e V ⟨⟨es, en, ec, ef, y, rfl, hen, her, hes, hy0, hy1⟩, hb⟩
  have Z1 : Hid (Since w1 V) := since_transT Y4.out.1 (since_call Y8.out.1 hb)
  have Z2 : Hid (Since w2 V) := since_transT Y4.out.2.1 (since_call Y8.out.1 hb)
  have Z3 : Hid (Since w3 V) := since_transT Y4.out.2.2 (since_call Y8.out.1 hb)
  have Z4 : Hid (Since w4 V) := since_call Y8.out.1 hb
  have Z5 : Hid (Since w5 V) := since_call Y8.out.2.1 hb
  have Z7 : Hid (Since w7 V) := since_call Y8.out.2.2 hb
  have Z8 : Hid (Since w8 V) := ⟨hb⟩
  have XV : Hid (Boxed V pv 29 bv sv m cv) := XV8.out.kept hb rfl
  have ER : Hid (∀ W, Since V W → CRow W W.heap.size es en ef) := fun W hW => crow_sinceT her hW
  have GR1 : Hid (∀ W, Since w7 W → WRow W W.heap.size g1 L.length (triplesL L)) := fun W hW => (G1'.out.kept hW.below).row
  have GR2 : Hid (∀ W, Since w7 W → WRow W W.heap.size g2 L.length (triplesL L)) := fun W hW => (G2.out.kept hW.below).row
  obtain ⟨yo, yn, yf, hyn, hY1, hY2⟩ := tbyte_both es en ec ef y hen hes
  have HY1b : Hid (∀ W, CRow W W.heap.size es en ef → Calls Tryz.prog 22 #[.slice es en ec, .int .i64 y] W fun e w' => NewVec W yo yn yf e w') := hY1
  have HY2b : Hid (∀ W, CRow W W.heap.size es en ef → Calls Tryz.prog 23 #[.slice es en ec, .int .i64 y] W fun e w' => NewVec W yo yn yf e w') := hY2
  obtain ⟨ao, an, af, han, hA1, hA2⟩ := tstart_both es en ec ef hen hes
  have HA1 : Hid (∀ W, CRow W W.heap.size es en ef → Calls Tryz.prog 24 #[.slice es en ec] W fun e w' => NewVec W ao an af e w') := hA1
  have HA2 : Hid (∀ W, CRow W W.heap.size es en ef → Calls Tryz.prog 25 #[.slice es en ec] W fun e w' => NewVec W ao an af e w') := hA2
  clear hb her hes hen hY1 hY2 hA1 hA2 hy0 hy1 Y4 Y8 XV8 G1' G2 HT1 HB1 HW1 HW2 HY1 HY2
  go_upto_region 10 with fail
  go_cut [138] (fun c wc => c = .bool false ∧ Since V wc)
  case first =>
    as_aux_lemma =>
      dsimp only [List.append]
      obtain ⟨v0, v1⟩ := XV.out.cells
      have vl := XV.out.lt
      go_region_held3 (fun W => W.cell? ⟨pv, 0, none⟩ = some (.int .i64 bv) ∧ W.cell? ⟨pv, 1, none⟩ = some (.slice sv m cv)) (go_keep) (first
        | (go_at_call 14; (with_reducible refine (HT2.out _ (DR.out _ (since_transT Z1.out (by first | exact since_drew (since_refl _) | exact since_refl _)))).mono ?_); rintro e u1 ⟨s6, c6, rfl, hb, ho⟩; have T1 : Hid (Since V u1) := (by refine since_call ?_ hb; first | exact since_drew (since_refl _) | exact since_refl _); have R6 : Hid (∀ X, Since u1 X → Row X X.heap.size s6 rn rf) := (fun X hX => ownS_since ho hX); clear ho; obtain ⟨v0, v1⟩ := (XV.out.since T1.out).cells; have vl := (XV.out.since T1.out).lt; clear hb)
          | (go_at_call 13; (with_reducible refine (lwRow_same rs s6 rn rc c6 rf _ hrn (RR.out _ (since_transT Z2.out T1.out)) (R6.out _ (since_refl _))).mono ?_); rintro e u2 ⟨rfl, hb⟩; have T2 : Hid (Since V u2) := (by refine since_call ?_ hb; first | exact T1.out); obtain ⟨v0, v1⟩ := (XV.out.since T2.out).cells; have vl := (XV.out.since T2.out).lt; clear hb)
          | (go_at_call 15; (with_reducible refine (HB2.out _ (DR.out _ (since_transT Z1.out T2.out))).mono ?_); rintro e u3 ⟨s7, c7, rfl, hb, ho⟩; have T3 : Hid (Since V u3) := (by refine since_call ?_ hb; first | exact T2.out); have R7 : Hid (∀ X, Since u3 X → Row X X.heap.size s7 rn rf) := (fun X hX => ownS_since ho hX); clear ho; obtain ⟨v0, v1⟩ := (XV.out.since T3.out).cells; have vl := (XV.out.since T3.out).lt; clear hb)
          | (go_at_call 13; (with_reducible refine (lwRow_same bs s7 rn bc c7 rf _ hrn (RB.out _ (since_transT Z3.out T3.out)) (R7.out _ (since_refl _))).mono ?_); rintro e u4 ⟨rfl, hb⟩; have T4 : Hid (Since V u4) := (by refine since_call ?_ hb; first | exact T3.out); obtain ⟨v0, v1⟩ := (XV.out.since T4.out).cells; have vl := (XV.out.since T4.out).lt; clear hb)
          | (go_at_call 17; (with_reducible refine (HK1.out _ (CR.out _ (since_transT Z4.out T4.out)) (VR.out _ (since_transT Z4.out T4.out))).mono ?_); rintro e u5 ⟨s8, c8, rfl, hb, ho⟩; have T5 : Hid (Since V u5) := (by refine since_call ?_ hb; first | exact T4.out); unfold stepV; have R8 : Hid (∀ X, Since u5 X → Row X X.heap.size s8 kn kf) := (fun X hX => ownS_since ho hX); clear ho; obtain ⟨v0, v1⟩ := (XV.out.since T5.out).cells; have vl := (XV.out.since T5.out).lt; clear hb)
          | (go_at_call 18; (with_reducible refine (HK2.out _ (CR.out _ (since_transT Z4.out T5.out)) (VR.out _ (since_transT Z4.out T5.out))).mono ?_); rintro e u6 ⟨s9, c9, rfl, hb, ho⟩; have T6 : Hid (Since V u6) := (by refine since_call ?_ hb; first | exact T5.out); have U6 : Hid (Since u5 u6) := ⟨hb⟩; unfold stepV; have R9 : Hid (∀ X, Since u6 X → Row X X.heap.size s9 kn kf) := (fun X hX => ownS_since ho hX); clear ho; obtain ⟨v0, v1⟩ := (XV.out.since T6.out).cells; have vl := (XV.out.since T6.out).lt; clear hb)
          | (go_at_call 16; (with_reducible refine (lwStep_same ko s8 s9 kn c8 c9 kt kf _ hkn (R8.out _ U6.out) (R9.out _ (since_refl _))).mono ?_); rintro e u7 ⟨rfl, hb⟩; have T7 : Hid (Since V u7) := (by refine since_call ?_ hb; first | exact T6.out); obtain ⟨v0, v1⟩ := (XV.out.since T7.out).cells; have vl := (XV.out.since T7.out).lt; clear hb)
          | (go_at_call 19; (with_reducible refine (HF1.out _ (FR.out _ (since_transT Z8.out T7.out))).mono ?_); rintro e u8 ⟨rfl, hb⟩; have T8 : Hid (Since V u8) := (by refine since_call ?_ hb; first | exact T7.out); obtain ⟨v0, v1⟩ := (XV.out.since T8.out).cells; have vl := (XV.out.since T8.out).lt; clear hb)
          | (go_at_call 20; (with_reducible refine (HF2.out _ (FR.out _ (since_transT Z8.out T8.out))).mono ?_); rintro e u9 ⟨rfl, hb⟩; have T9 : Hid (Since V u9) := (by refine since_call ?_ hb; first | exact T8.out); obtain ⟨v0, v1⟩ := (XV.out.since T9.out).cells; have vl := (XV.out.since T9.out).lt; clear hb)
          | (go_at_call 22; (with_reducible refine (HY1b.out _ (ER.out _ T9.out)).mono ?_); rintro e u10 ⟨s10, c10, rfl, hb, ho⟩; have T10 : Hid (Since V u10) := (by refine since_call ?_ hb; first | exact T9.out); unfold vecV; have R10 : Hid (∀ X, Since u10 X → Row X X.heap.size s10 yn yf) := (fun X hX => ownS_since ho hX); clear ho; obtain ⟨v0, v1⟩ := (XV.out.since T10.out).cells; have vl := (XV.out.since T10.out).lt; clear hb)
          | (go_at_call 23; (with_reducible refine (HY2b.out _ (ER.out _ T10.out)).mono ?_); rintro e u11 ⟨s11, c11, rfl, hb, ho⟩; have T11 : Hid (Since V u11) := (by refine since_call ?_ hb; first | exact T10.out); have U11 : Hid (Since u10 u11) := ⟨hb⟩; unfold vecV; have R11 : Hid (∀ X, Since u11 X → Row X X.heap.size s11 yn yf) := (fun X hX => ownS_since ho hX); clear ho; obtain ⟨v0, v1⟩ := (XV.out.since T11.out).cells; have vl := (XV.out.since T11.out).lt; clear hb)
          | (go_at_call 21; (with_reducible refine (lwVec_same yo s10 s11 yn c10 c11 yf _ hyn (R10.out _ U11.out) (R11.out _ (since_refl _))).mono ?_); rintro e u12 ⟨rfl, hb⟩; have T12 : Hid (Since V u12) := (by refine since_call ?_ hb; first | exact T11.out); obtain ⟨v0, v1⟩ := (XV.out.since T12.out).cells; have vl := (XV.out.since T12.out).lt; clear hb)
          | (go_at_call 24; (with_reducible refine (HA1.out _ (ER.out _ T12.out)).mono ?_); rintro e u13 ⟨s12, c12, rfl, hb, ho⟩; have T13 : Hid (Since V u13) := (by refine since_call ?_ hb; first | exact T12.out); unfold vecV; have R12 : Hid (∀ X, Since u13 X → Row X X.heap.size s12 an af) := (fun X hX => ownS_since ho hX); clear ho; obtain ⟨v0, v1⟩ := (XV.out.since T13.out).cells; have vl := (XV.out.since T13.out).lt; clear hb)
          | (go_at_call 25; (with_reducible refine (HA2.out _ (ER.out _ T13.out)).mono ?_); rintro e u14 ⟨s13, c13, rfl, hb, ho⟩; have T14 : Hid (Since V u14) := (by refine since_call ?_ hb; first | exact T13.out); have U14 : Hid (Since u13 u14) := ⟨hb⟩; unfold vecV; have R13 : Hid (∀ X, Since u14 X → Row X X.heap.size s13 an af) := (fun X hX => ownS_since ho hX); clear ho; obtain ⟨v0, v1⟩ := (XV.out.since T14.out).cells; have vl := (XV.out.since T14.out).lt; clear hb)
          | (go_at_call 21; (with_reducible refine (lwVec_same ao s12 s13 an c12 c13 af _ han (R12.out _ U14.out) (R13.out _ (since_refl _))).mono ?_); rintro e u15 ⟨rfl, hb⟩; have T15 : Hid (Since V u15) := (by refine since_call ?_ hb; first | exact T14.out); obtain ⟨v0, v1⟩ := (XV.out.since T15.out).cells; have vl := (XV.out.since T15.out).lt; clear hb)
          | (go_at_call 26; (with_reducible refine (HD1.out _ (WR.out _ (since_transT Z5.out T15.out))).mono ?_); rintro e u16 ⟨rfl, hb⟩; have T16 : Hid (Since V u16) := (by refine since_call ?_ hb; first | exact T15.out); obtain ⟨v0, v1⟩ := (XV.out.since T16.out).cells; have vl := (XV.out.since T16.out).lt; clear hb)
          | (go_at_call 27; (with_reducible refine (HD2.out _ (WR.out _ (since_transT Z5.out T16.out))).mono ?_); rintro e u17 ⟨rfl, hb⟩; have T17 : Hid (Since V u17) := (by refine since_call ?_ hb; first | exact T16.out); obtain ⟨v0, v1⟩ := (XV.out.since T17.out).cells; have vl := (XV.out.since T17.out).lt; clear hb))
      all_goals
        have T := T17.out
        go_wp2_with fail
        go_meet
        exact ⟨by simp, T⟩
  case rest =>
    as_aux_lemma =>
      obtain ⟨rfl, hT⟩ := hcut
      have T0 : Hid (Since V wc) := hT
      clear hT HT2 HB2 HK1 HK2 HF1 HF2 HY1b HY2b HA1 HA2 HD1 HD2 XV CR VR FR ER WR Z4 Z5 Z8
      obtain ⟨p, hp0, hpp⟩ := wins_pos HWP.out.1
      have HP0 : Hid (p 0 = 0) := hp0
      have HPP : Hid (∀ j, j < L.length → ∃ lk sh : Nat, triplesL L j = ((p j : Int), (lk : Int), (sh : Int)) ∧ p (j + 1) = p j + sh ∧ 1 ≤ lk ∧ lk ≤ wn ∧ 1 ≤ sh ∧ sh ≤ wn ∧ p j ≤ 8000) := hpp
      have hwn60 := HWP.out.2
      clear hp0 hpp
      go_wp2_with fail
      go_loopw [21, 22] (fun av iv wr => ∃ i : Nat, i ≤ L.length ∧ av = .int .i64 ((p i : Nat) : Int) ∧ iv = .int .i64 (i : Int) ∧ Since V wr) (fun _ iv _ => L.length - (intOf iv).toNat)
      case atStart => exact ⟨0, Nat.zero_le _, by rw [HP0.out]; rfl, rfl, T0.out⟩
      case round =>
        obtain ⟨i, hi, rfl, rfl, hS⟩ := hrel
        have SR : Hid (Since V wr) := hS
        clear hS
        by_cases hil : i < L.length
        · obtain ⟨lk, sh, htr, hps, hk1, hk2, hs1, hs2, hp8⟩ := HPP.out i hil
          have HPS : Hid (p (i + 1) = p i + sh) := hps
          obtain ⟨b1, o1, rfl, hb1, hat1⟩ := (GR1.out wr (since_transT Z7.out SR.out)).at (Below.refl _ _) hil
          obtain ⟨b2, o2, rfl, hb2, hat2⟩ := (GR2.out wr (since_transT Z7.out SR.out)).at (Below.refl _ _) hil
          rw [htr] at hat1 hat2
          obtain ⟨c0, c1, c2⟩ := hat1
          obtain ⟨d0, d1, d2⟩ := hat2
          simp only at c0 c1 c2 d0 d1 d2
          obtain ⟨a, ha⟩ : ∃ a, p i = a := ⟨_, rfl⟩
          have HPA : Hid (p i = a) := ha
          rw [ha] at c0 d0 hp8 ⊢
          have hii : (i : Int) < (L.length : Int) := by omega
          have hi0 : (0 : Int) ≤ (i : Int) := by omega
          have hx1 : ¬ (lk : Int) < 1 := by omega
          have hx2 : ¬ (wn : Int) < (lk : Int) := by omega
          have hx3 : ¬ (sh : Int) < 1 := by omega
          have hx4 : ¬ (wn : Int) < (sh : Int) := by omega
          obtain ⟨p1, hp1⟩ : ∃ p1, o1 + i * 3 = p1 := ⟨_, rfl⟩
          obtain ⟨p2, hp2⟩ : ∃ p2, o2 + i * 3 = p2 := ⟨_, rfl⟩
          rw [hp1] at c0 c1 c2
          rw [hp2] at d0 d1 d2
          clear htr hps ha
          go_wp2_with fail
          go_quiet (fail)
          all_goals
            go_wp2_with fail
            go_roundw
            case rel => exact ⟨i + 1, by omega, by rw [HPS.out, HPA.out]; go_num, by go_num, ⟨below_drewG _ SR.out.below⟩⟩
            case measure => simp [intOf]; omega
        · have hii : ¬ (i : Int) < (L.length : Int) := by omega
          have CP := specPlain_any ds dn dc df wr (len60T HDS.out.1) (DR.out wr (since_transT Z1.out SR.out)) (fun i hi => len256T (HDS.out.2 i hi))
          by_cases hpl : PlainP dn df
          · rw [decide_eq_true hpl] at CP
            have HR9 := HRUN.out hpl
            have HR : Hid (∀ W, CRow W W.heap.size ds dn df → Calls Tryz.prog 29 #[.slice ds dn dc, .string t] W fun e w' => NewInts W rn rf e w') := HR9
            clear hpl HR9
            go_wp2_with fail
            refine CP.mono ?_
            rintro e u1 ⟨rfl, hb⟩
            have T1 : Hid (Since V u1) := since_call SR.out hb
            clear hb CP
            go_wp2_with fail
            refine (HR.out u1 (DR.out u1 (since_transT Z1.out T1.out))).mono ?_
            rintro e u2 ⟨s6, c6, rfl, hb, ho⟩
            have T2 : Hid (Since V u2) := since_call T1.out hb
            have R6 : Hid (∀ X, Since u2 X → Row X X.heap.size s6 rn rf) := fun X hX => ownS_since ho hX
            clear hb ho
            go_wp2_with fail
            refine (lwRow_same rs s6 rn rc c6 rf u2 hrn (RR.out u2 (since_transT Z2.out T2.out)) (R6.out u2 (since_refl _))).mono ?_
            rintro e u3 ⟨rfl, hb⟩
            have T3 : Hid (Since V u3 ∧ Since u2 u3) := ⟨since_call T2.out hb, ⟨hb⟩⟩
            clear hb
            go_wp2_with fail
            refine (lwRow_same bs s6 rn bc c6 rf u3 hrn (RB.out u3 (since_transT Z3.out T3.out.1)) (R6.out u3 T3.out.2)).mono ?_
            rintro e u4 ⟨rfl, hb⟩
            have T4 : Hid (Since w u4) := since_transT S1.out (since_transT Z1.out (since_call T3.out.1 hb))
            clear hb
            go_wp2_with fail
            go_ret
            exact ⟨rfl, T4.out.below⟩
          · rw [decide_eq_false hpl] at CP
            have h0 := HNP.out hpl
            subst h0
            clear hpl
            go_wp2_with fail
            refine CP.mono ?_
            rintro e u1 ⟨rfl, hb⟩
            have T4 : Hid (Since w u1) := since_transT S1.out (since_transT Z1.out (since_call SR.out hb))
            clear hb CP
            go_wp2_with fail
            go_ret
            exact ⟨rfl, T4.out.below⟩
end Go.Proofs.YtfeolbgenpknfaaGreat
