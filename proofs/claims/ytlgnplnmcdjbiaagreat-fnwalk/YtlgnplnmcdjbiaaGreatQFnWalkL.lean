/- What is proved here: the law FnWalk walks to true at every two slices of bytes; nothing that was there turns. -/
import Derived.Test.YtlgnplnmcdjbiaaGreatQFnWalkCallWToVecNotW
import Derived.Test.YtlgnplnmcdjbiaaGreatQDrawStepOnWToLwStepW
import Derived.Deep.RegionWith
import Derived.Deep.RegionHeld3
namespace Go.Proofs.YtlgnplnmcdjbiaaGreat
open Go.RowKit

theorem bytes_sinceW {w W : World} {sa : Option Addr} {len : Nat} (h : Bytes8 w w.heap.size sa len) (hs : Since w W) : Bytes8 W W.heap.size sa len := by
  have hb := hs.below
  have h1 : Bytes8 W w.heap.size sa len := h.kept (row := none) ⟨hb.os, hb.tape, hb.output, hb.size, fun k hk _ => hb.block k hk⟩ (fun k hk => by cases hk)
  rcases h1 with h | ⟨bb, off, zs, h1, h2, h3⟩
  · exact Or.inl h
  · exact Or.inr ⟨bb, off, zs, h1, Nat.lt_of_lt_of_le h2 hb.size, h3⟩
theorem since_transW {w W V : World} (h : Since w W) (k : Since W V) : Since w V := since_call h k.below
theorem msl_rowW {W : World} {h : Nat → Nat} {s : Nat → Option Addr} {n : Nat} {F : Nat → Nat → Int} (m : MSl W h s n F) : ∀ i, i < 5 → Row W W.heap.size (s i) n (F i) := fun i hi => by
  have hc : i = 0 ∨ i = 1 ∨ i = 2 ∨ i = 3 ∨ i = 4 := by omega
  rcases hc with rfl | rfl | rfl | rfl | rfl
  · exact m.r0.row
  · exact m.r1.row
  · exact m.r2.row
  · exact m.r3.row
  · exact m.r4.row
theorem crow_sinceW {w W : World} {sa : Option Addr} {n : Nat} {f : Nat → Cel} (h : CRow w w.heap.size sa n f) (hs : Since w W) : CRow W W.heap.size sa n f := (h.kept hs.below).up hs.below.size

set_option maxRecDepth 100000 in
set_option maxHeartbeats 8000000 in
theorem law_fnWalk (s1 : Option Addr) (l1 c1 : Nat) (s2 : Option Addr) (l2 c2 : Nat) (w : World) (hm1 : l1 ≤ maxLen) (hm2 : l2 ≤ maxLen) (hy1 : Bytes8 w w.heap.size s1 l1) (hy2 : Bytes8 w w.heap.size s2 l2) :
    Calls Tryz.prog 3 #[.slice s1 l1 c1, .slice s2 l2 c2] w fun e w' => e = .returned (.bool true) ∧ Below w.heap.size w w' := by
  unfold maxLen at hm1 hm2
  have HY1 : Hid (Bytes8 w w.heap.size s1 l1) := hy1
  have HY2 : Hid (Bytes8 w w.heap.size s2 l2) := hy2
  clear hy1 hy2
  by_cases hbig1 : 1048576 < (l1 : Int)
  · go_enter Tryz.func3, Tryz.ntmps3
    go_wp2
    go_ret
    exact ⟨rfl, Below.refl _ _⟩
  by_cases hbig2 : 1048576 < (l2 : Int)
  · go_enter Tryz.func3, Tryz.ntmps3
    go_wp2
    go_ret
    exact ⟨rfl, Below.refl _ _⟩
  have hl1 : l1 ≤ 1048576 := by omega
  have hl2 : l2 ≤ 1048576 := by omega
  go_enter Tryz.func3, Tryz.ntmps3
  go_wp2_with fail
  refine (drawStepOn_any w s1 l1 c1 hl1 HY1.out).mono ?_
  rintro e w1 ⟨⟨cs, cn, cc, cf, bv, sv, m, cv, g, x, rfl, hcn, hcr, hcs, hvm, hvr, hx0, hx1⟩, hb1⟩
  have S1 : Hid (Since w w1) := ⟨hb1⟩
  obtain ⟨ro, rn, rf, tt, hrn, hK1, hK2, hall⟩ := step_both cs cn cc cf bv sv m cv g x hcn hcs hvm
  have HALL : Hid (ro = 0 ∨ (0 < ro ∧ ro = bv ∧ rn = m ∧ ∃ (F : Nat → Nat → Int) (u y a l d o p q : Nat → Int), WalkAll cs cn cc cf bv sv m cv g x rf tt F u y a l d o p q)) := hall
  have CR : Hid (∀ W, Since w1 W → CRow W W.heap.size cs cn cf) := fun W hW => crow_sinceW hcr hW
  have VR : Hid (∀ W, Since w1 W → Row W W.heap.size sv m g) := fun W hW => row_since hvr hW
  have HK1 : Hid (∀ W, Since w1 W → Calls Tryz.prog 5 #[.slice cs cn cc, .agg #[.int .i64 bv, .slice sv m cv], .int .i64 x] W fun e w' => NewStep W ro rn rf tt e w') := fun W hW => hK1 W (CR.out W hW) (VR.out W hW)
  have HK2 : Hid (∀ W, Since w1 W → Calls Tryz.prog 10 #[.slice cs cn cc, .agg #[.int .i64 bv, .slice sv m cv], .int .i64 x] W fun e w' => NewStep W ro rn rf tt e w') := fun W hW => hK2 W (CR.out W hW) (VR.out W hW)
  have q1 := boxing w1 26 bv sv m cv
  clear hb1 hK1 hK2 hall hcr hvr hcs hcn hx0 hx1
  go_wp2_with fail
  generalize w1.alloc (.cells #[.int .i64 bv, .slice sv m cv] 26) = v1 at *
  have Z1 : Hid (Since w1 v1) := ⟨q1.1⟩
  have XV1 : Hid (Boxed v1 w1.heap.size 26 bv sv m cv) := q1.2.1
  clear q1
  generalize w1.heap.size = pv at *
  obtain ⟨a0, a1⟩ := XV1.out.cells
  have al := XV1.out.lt
  go_wp2_with fail
  refine (HK1.out v1 Z1.out).mono ?_
  rintro e w2 ⟨xs, xc, rfl, hb2, ho2⟩
  unfold stepV
  have Z2 : Hid (Since w1 w2) := since_call Z1.out hb2
  have XV2 : Hid (Boxed w2 pv 26 bv sv m cv) := XV1.out.kept hb2 rfl
  have RX : Hid (∀ W, Since w2 W → Row W W.heap.size xs rn rf) := fun W hW => ownS_since ho2 hW
  have q2 := sboxing w2 ro xs rn xc tt
  have hpx : pv < w2.heap.size := XV2.out.lt
  clear hb2 ho2 Z1 XV1 a0 a1 al
  go_wp2_with fail
  generalize w2.alloc (.cells #[.int .i64 ro, .slice xs rn xc, .bool tt] 30) = v2 at *
  have Y2 : Hid (Since w1 v2 ∧ Since w2 v2) := ⟨since_call Z2.out q2.1, ⟨q2.1⟩⟩
  have XX2 : Hid (SBox v2 w2.heap.size ro xs rn xc tt) := q2.2.1
  have XV3 : Hid (Boxed v2 pv 26 bv sv m cv) := XV2.out.kept q2.1 rfl
  clear q2 Z2 XV2
  generalize w2.heap.size = px at *
  refine (drawRunOn_any v2 s2 l2 c2 hl2 (bytes_sinceW HY2.out (since_transW S1.out Y2.out.1))).mono ?_
  rintro e w3 ⟨⟨ds, dn, dc, df, t, rfl, hdn, hdr, hds, ht⟩, hb3⟩
  obtain ⟨kn, kf, hkn, hR1, hR2, hfit⟩ := runs_both ds dn dc df t hdn hds ht
  have DR : Hid (∀ W, Since w3 W → CRow W W.heap.size ds dn df) := fun W hW => crow_sinceW hdr hW
  have HR1 : Hid (∀ W, Since w3 W → Calls Tryz.prog 7 #[.slice ds dn dc, .string t] W fun e w' => NewInts W kn kf e w') := fun W hW => hR1 W (DR.out W hW)
  have HR2 : Hid (∀ W, Since w3 W → Calls Tryz.prog 12 #[.slice ds dn dc, .string t] W fun e w' => NewInts W kn kf e w') := fun W hW => hR2 W (DR.out W hW)
  have HFITS : Hid (∀ i, i < kn → ∃ e : Nat, e ≤ t.size ∧ kf i = (e : Int) ∧ ∃ s, s < e ∧ FitK dn df (t.extract s e)) := hfit
  have HCF : Hid (∀ W, Since w3 W → ∀ b : ByteArray, b.size ≤ 20000 → Calls Tryz.prog 16 #[.slice ds dn dc, .string b] W fun e w' => ∃ y : Bool, (y = true ↔ FitK dn df b) ∧ e = .returned (.bool y) ∧ Below W.heap.size W w') := fun W hW b hb => fit_any ds dn dc df b W hdn hds hb (DR.out W hW)
  have HT : Hid (t.size ≤ 20000) := ht
  have Z3 : Hid (Since w1 w3 ∧ Since w2 w3) := ⟨since_call Y2.out.1 hb3, since_call Y2.out.2 hb3⟩
  have XV4 : Hid (Boxed w3 pv 26 bv sv m cv) := XV3.out.kept hb3 rfl
  have XX4 : Hid (SBox w3 px ro xs rn xc tt) := XX2.out.kept hb3 rfl
  clear hb3 hR1 hR2 hfit hdr hds hdn ht Y2 XV3 XX2
  go_wp2_with fail
  refine (HR1.out w3 (since_refl _)).mono ?_
  rintro e w4 ⟨rs, rc, rfl, hb4, ho4⟩
  have RR : Hid (∀ W, Since w4 W → Row W W.heap.size rs kn kf) := fun W hW => ownS_since ho4 hW
  have Z4 : Hid (Since w1 w4 ∧ Since w2 w4 ∧ Since w3 w4) := ⟨since_call Z3.out.1 hb4, since_call Z3.out.2 hb4, ⟨hb4⟩⟩
  have XV5 : Hid (Boxed w4 pv 26 bv sv m cv) := XV4.out.kept hb4 rfl
  have XX5 : Hid (SBox w4 px ro xs rn xc tt) := XX4.out.kept hb4 rfl
  clear hb4 ho4 Z3 XV4 XX4
  go_wp2_with fail
  refine (drawEndsOf_any w4 s1 l1 c1 hl1 (bytes_sinceW HY1.out (since_transW S1.out Z4.out.1))).mono ?_
  rintro e V ⟨⟨ps, pn, pc, pf, u, rfl, hpn, hpr, hps, hu⟩, hb5⟩
  obtain ⟨ok, hPR, hEN⟩ := ends_both ps pn pc pf u hpn hps hu
  have PR : Hid (∀ W, Since V W → ARow W W.heap.size ps pn pf) := fun W hW => (hpr.kept hW.below).up hW.below.size
  have HPR : Hid (∀ W, Since V W → Calls Tryz.prog 13 #[.slice ps pn pc] W fun e w' => e = .returned (.bool ok) ∧ Below W.heap.size W w') := fun W hW => hPR W (PR.out W hW)
  have HEN : Hid (ok = true → ∃ (en : Nat) (ef : Nat → Cel) (gn : Nat) (gf : Nat → Int), gn ≤ 1048576 ∧
        (∀ W, ARow W W.heap.size ps pn pf → Calls Tryz.prog 14 #[.slice ps pn pc] W fun e w' => NewCells W en ef e w') ∧
        (∀ (W : World) (x : Option Addr) (k : Nat), CRow W W.heap.size x en ef → Calls Tryz.prog 7 #[.slice x en k, .string u] W fun e w' => NewInts W gn gf e w') ∧
        (∀ W, ARow W W.heap.size ps pn pf → Calls Tryz.prog 15 #[.slice ps pn pc, .string u] W fun e w' => NewInts W gn gf e w')) := hEN
  have Z15 : Hid (Since w1 V) := since_call Z4.out.1 hb5
  have Z25 : Hid (Since w2 V) := since_call Z4.out.2.1 hb5
  have Z35 : Hid (Since w3 V) := since_call Z4.out.2.2 hb5
  have Z45 : Hid (Since w4 V) := ⟨hb5⟩
  have XV : Hid (Boxed V pv 26 bv sv m cv) := XV5.out.kept hb5 rfl
  have XX : Hid (SBox V px ro xs rn xc tt) := XX5.out.kept hb5 rfl
  clear hb5 hPR hEN hpr hps hpn hu Z4 XV5 XX5
  go_upto_region 8 with fail
  go_cut [64] (fun c wc => c = .bool false ∧ Since V wc)
  case first =>
    obtain ⟨x0, x1, x2⟩ := XX.out.cells
    have xl := XX.out.lt
    obtain ⟨v0, v1⟩ := XV.out.cells
    have vl := XV.out.lt
    go_region_held3 (fun W => W.cell? ⟨px, 0, none⟩ = some (.int .i64 ro) ∧ W.cell? ⟨px, 1, none⟩ = some (.slice xs rn xc) ∧ W.cell? ⟨px, 2, none⟩ = some (.bool tt) ∧ W.cell? ⟨pv, 0, none⟩ = some (.int .i64 bv) ∧ W.cell? ⟨pv, 1, none⟩ = some (.slice sv m cv)) (go_keep) (first
      | (go_at_call 10; (with_reducible refine (HK2.out _ (since_transW Z15.out (by first | exact since_drew (since_refl _) | exact since_refl _))).mono ?_); rintro e u1 ⟨s6, c6, rfl, hb, ho⟩; have T1 : Hid (Since V u1) := (by refine since_call ?_ hb; first | exact since_drew (since_refl _) | exact since_refl _); unfold stepV; have R6 : Hid (∀ X, Since u1 X → Row X X.heap.size s6 rn rf) := (fun X hX => ownS_since ho hX); clear ho; obtain ⟨x0, x1, x2⟩ := (XX.out.since T1.out).cells; have xl := (XX.out.since T1.out).lt; obtain ⟨v0, v1⟩ := (XV.out.since T1.out).cells; have vl := (XV.out.since T1.out).lt; clear hb)
      | (go_at_call 9; (with_reducible refine (lwStep_same ro xs s6 rn xc c6 tt rf _ hrn (RX.out _ (since_transW Z25.out T1.out)) (R6.out _ (since_refl _))).mono ?_); rintro e u2 ⟨rfl, hb⟩; have T2 : Hid (Since V u2) := (by refine since_call ?_ hb; first | exact T1.out); obtain ⟨x0, x1, x2⟩ := (XX.out.since T2.out).cells; have xl := (XX.out.since T2.out).lt; obtain ⟨v0, v1⟩ := (XV.out.since T2.out).cells; have vl := (XV.out.since T2.out).lt; clear hb)
      | (go_at_call 12; (with_reducible refine (HR2.out _ (since_transW Z35.out T2.out)).mono ?_); rintro e u3 ⟨s7, c7, rfl, hb, ho⟩; have T3 : Hid (Since V u3) := (by refine since_call ?_ hb; first | exact T2.out); have R7 : Hid (∀ X, Since u3 X → Row X X.heap.size s7 kn kf) := (fun X hX => ownS_since ho hX); clear ho; obtain ⟨x0, x1, x2⟩ := (XX.out.since T3.out).cells; have xl := (XX.out.since T3.out).lt; obtain ⟨v0, v1⟩ := (XV.out.since T3.out).cells; have vl := (XV.out.since T3.out).lt; clear hb)
      | (go_at_call 11; (with_reducible refine (lwRow_same rs s7 kn rc c7 kf _ hkn (RR.out _ (since_transW Z45.out T3.out)) (R7.out _ (since_refl _))).mono ?_); rintro e u4 ⟨rfl, hb⟩; have T4 : Hid (Since V u4) := (by refine since_call ?_ hb; first | exact T3.out); obtain ⟨x0, x1, x2⟩ := (XX.out.since T4.out).cells; have xl := (XX.out.since T4.out).lt; obtain ⟨v0, v1⟩ := (XV.out.since T4.out).cells; have vl := (XV.out.since T4.out).lt; clear hb))
    all_goals
      have T := T4.out
      go_wp2_with fail
      go_meet
      exact ⟨by simp, T⟩
  case rest =>
    obtain ⟨rfl, hT⟩ := hcut
    have T0 : Hid (Since V wc) := hT
    clear hT HK1 HK2 HR1 HR2
    go_upto_region 10 with fail
    go_cut [77] (fun c wc => c = .bool false ∧ Since V wc)
    case first =>
      go_wp2_with fail
      refine (HPR.out _ T0.out).mono ?_
      rintro e u1 ⟨rfl, hb⟩
      have T1 : Hid (Since V u1) := since_call T0.out hb
      clear hb
      cases hok : ok with
      | false =>
        go_wp2_with fail
        go_meet
        exact ⟨by simp, T1.out⟩
      | true =>
        obtain ⟨en, ef, gn, gf, hgn, hE1, hE2, hE3⟩ := HEN.out hok
        have HE1 : Hid (∀ W, Since V W → Calls Tryz.prog 14 #[.slice ps pn pc] W fun e w' => NewCells W en ef e w') := fun W hW => hE1 W (PR.out W hW)
        have HE2 : Hid (∀ (W : World) (x : Option Addr) (k : Nat), CRow W W.heap.size x en ef → Calls Tryz.prog 7 #[.slice x en k, .string u] W fun e w' => NewInts W gn gf e w') := hE2
        have HE3 : Hid (∀ W, Since V W → Calls Tryz.prog 15 #[.slice ps pn pc, .string u] W fun e w' => NewInts W gn gf e w') := fun W hW => hE3 W (PR.out W hW)
        clear hE1 hE2 hE3
        go_wp2_with fail
        refine (HE1.out _ T1.out).mono ?_
        rintro e u2 ⟨es, ec, rfl, hb, hsl⟩
        have T2 : Hid (Since V u2) := since_call T1.out hb
        have ER : Hid (CRow u2 u2.heap.size es en ef) := hsl.row
        clear hb hsl
        go_wp2_with fail
        refine (HE2.out _ es ec ER.out).mono ?_
        rintro e u3 ⟨gs, gc, rfl, hb, ho⟩
        have T3 : Hid (Since V u3) := since_call T2.out hb
        have GR : Hid (∀ X, Since u3 X → Row X X.heap.size gs gn gf) := fun X hX => ownS_since ho hX
        clear hb ho
        go_wp2_with fail
        refine (HE3.out _ T3.out).mono ?_
        rintro e u4 ⟨fs, fc, rfl, hb, ho⟩
        have T4 : Hid (Since V u4) := since_call T3.out hb
        have U34 : Hid (Since u3 u4) := ⟨hb⟩
        have FR : Hid (∀ X, Since u4 X → Row X X.heap.size fs gn gf) := fun X hX => ownS_since ho hX
        clear hb ho
        go_wp2_with fail
        refine (lwRow_same gs fs gn gc fc gf _ hgn (GR.out _ U34.out) (FR.out _ (since_refl _))).mono ?_
        rintro e u5 ⟨rfl, hb⟩
        have T5 : Hid (Since V u5) := since_call T4.out hb
        clear hb
        go_wp2_with fail
        go_meet
        exact ⟨by simp, T5.out⟩
    case rest =>
      obtain ⟨rfl, hT⟩ := hcut
      have T1 : Hid (Since V wc) := hT
      clear hT HPR HEN T0
      go_wp2_with fail
      go_loopw [14] (fun iv wr => ∃ k : Nat, k ≤ kn ∧ iv = .int .i64 (k : Int) ∧ Since V wr) (fun iv _ => kn - (intOf iv).toNat)
      case atStart => exact ⟨0, Nat.zero_le _, rfl, T1.out⟩
      case round =>
        obtain ⟨k, hk, rfl, hS⟩ := hrel
        have SR : Hid (Since V wr) := hS
        clear hS
        by_cases hkl : k < kn
        · obtain ⟨e, he, hev, hex⟩ := HFITS.out k hkl
          have HEX : Hid (∃ s, s < e ∧ FitK dn df (t.extract s e)) := hex
          obtain ⟨rb, roff, rfl, hrb, hrc⟩ : ∃ bb off : Nat, rs = some ⟨bb, off, none⟩ ∧ bb < wr.heap.size ∧ ∀ i, i < kn → wr.cell? ⟨bb, off + i, none⟩ = some (.int .i64 (kf i)) := by
            rcases RR.out wr (since_transW Z45.out SR.out) with h | h
            · omega
            · exact h
          have hce := hrc k hkl
          rw [hev] at hce
          have CE : Hid (∀ W, Since wr W → W.cell? ⟨rb, roff + k, none⟩ = some (.int .i64 (e : Int))) := fun W hW => by rw [hW.below.cell (p := ⟨rb, roff + k, none⟩) hrb]; exact hce
          clear hrc hce hev hex
          have hki : (k : Int) < (kn : Int) := by omega
          have hk0 : (0 : Int) ≤ (k : Int) := by omega
          go_wp2_with fail
          go_loopw [15, 16] (fun fv sv wx => ∃ (j : Nat) (b : Bool), j ≤ e ∧ fv = .bool b ∧ sv = .int .i64 (j : Int) ∧ (b = true ↔ ∃ i, i < j ∧ FitK dn df (t.extract i e)) ∧ Since wr wx) (fun _ sv _ => e - (intOf sv).toNat)
          case atStart => exact ⟨0, false, Nat.zero_le _, rfl, rfl, ⟨fun h => (by cases h), fun ⟨i, h, _⟩ => (by omega)⟩, since_refl _⟩
          case round =>
            obtain ⟨j, b, hj, rfl, rfl, hb, hS⟩ := hrel
            rename World => wx
            have HB : Hid (b = true ↔ ∃ i, i < j ∧ FitK dn df (t.extract i e)) := hb
            have SX : Hid (Since wr wx) := hS
            have ce := CE.out wx hS
            clear hb hS
            by_cases hjl : j < e
            · have hji : (j : Int) < (e : Int) := by omega
              have hj0 : (0 : Int) ≤ (j : Int) := by omega
              have hje : (j : Int) ≤ (e : Int) := by omega
              have het : (e : Int) ≤ (t.size : Int) := by omega
              have htb : t.size ≤ 20000 := HT.out
              cases b with
              | true =>
                go_wp2_with fail
                go_roundw
                case rel => exact ⟨j + 1, true, by omega, rfl, by go_num, ⟨fun _ => by obtain ⟨i, h1, h2⟩ := HB.out.1 rfl; exact ⟨i, by omega, h2⟩, fun _ => rfl⟩, SX.out⟩
                case measure => simp [intOf]; omega
              | false =>
                have hsz : (t.extract j e).size ≤ 20000 := by have := HT.out; rw [extract_size (by omega) he]; omega
                have CFJ : Hid (Calls Tryz.prog 16 #[.slice ds dn dc, .string (t.extract j e)] wx fun e' w' => ∃ y : Bool, (y = true ↔ FitK dn df (t.extract j e)) ∧ e' = .returned (.bool y) ∧ Below wx.heap.size wx w') := HCF.out wx (since_transW Z35.out (since_transW SR.out SX.out)) _ hsz
                clear hsz
                go_wp2_with fail
                refine CFJ.out.mono ?_
                rintro e' w8 ⟨y, hy, rfl, hb⟩
                have HY : Hid (y = true ↔ FitK dn df (t.extract j e)) := hy
                have S8 : Hid (Since wr w8) := since_call SX.out hb
                have ce8 := CE.out w8 S8.out
                clear hb hy ce CFJ
                go_wp2_with fail
                go_roundw
                case rel => exact ⟨j + 1, y, by omega, rfl, by go_num, ⟨fun h => ⟨j, by omega, HY.out.1 h⟩, fun ⟨i, h1, h2⟩ => by
                  by_cases e1 : i = j
                  · rw [e1] at h2
                    exact HY.out.2 h2
                  · have h3 := HB.out.2 ⟨i, by omega, h2⟩
                    cases h3⟩, S8.out⟩
                case measure => simp [intOf]; omega
            · have hji : ¬ (j : Int) < (e : Int) := by omega
              obtain rfl : j = e := by omega
              obtain rfl : b = true := HB.out.2 HEX.out
              go_wp2_with fail
              go_roundw
              case rel => exact ⟨k + 1, by omega, by go_num, since_transW SR.out SX.out⟩
              case measure => simp [intOf]; omega
        · have hki : ¬ (k : Int) < (kn : Int) := by omega
          clear hk
          have T2 : Hid (Since V wr) := SR.out
          obtain ⟨x0, x1, x2⟩ := (XX.out.since T2.out).cells
          have xl := (XX.out.since T2.out).lt
          have hall := HALL.out
          rcases hall with h0 | ⟨hpos, rfl, rfl, hall⟩
          · subst h0
            clear HALL
            go_wp2_with fail
            go_ret
            exact ⟨rfl, (since_transW S1.out (since_transW Z15.out T2.out)).below⟩
          clear HALL
          have hne0 : (ro == 0) = false := by simp; omega
          obtain ⟨F, fu, fy, fa, fl, fd, fo, fp, fq, hW⟩ := hall
          have HW : Hid (WalkAll cs cn cc cf ro sv rn cv g x rf tt F fu fy fa fl fd fo fp fq) := hW
          have hfew := hW.few
          clear hW
          go_wp2_with fail
          refine (HW.out.masks _ (CR.out _ (since_transW Z15.out T2.out))).mono ?_
          rintro e wm ⟨es, ec, eh, rfl, hb, hml, _, _⟩
          unfold masksV
          have T3 : Hid (Since V wm) := since_call T2.out hb
          have MR : Hid (∀ X, Since wm X → ∀ i, i < 5 → Row X X.heap.size (es i) rn (F i)) := fun X hX i hi => row_since (msl_rowW hml i hi) hX
          have q3 := mboxing wm ro es rn ec
          clear hb hml x0 x1 x2 xl
          go_upto_region 25 with fail
          generalize wm.alloc (.cells #[.int .i64 ro, .slice (es 0) rn (ec 0), .int .i64 ro, .slice (es 1) rn (ec 1), .int .i64 ro, .slice (es 2) rn (ec 2), .int .i64 ro, .slice (es 3) rn (ec 3), .int .i64 ro, .slice (es 4) rn (ec 4)] 45) = V5 at *
          have TV : Hid (Since V V5) := since_call T3.out q3.1
          have M5 : Hid (Since wm V5) := ⟨q3.1⟩
          have XM : Hid (MBox V5 wm.heap.size ro es rn ec) := q3.2.1
          have HPM : Hid (V.heap.size ≤ wm.heap.size) := T3.out.size
          clear q3
          generalize wm.heap.size = pm at *
          go_cut [18] (fun pw wc => CutP V5 26 ro rn fo pw wc)
          case first =>
            obtain ⟨v0, v1⟩ := (XV.out.since TV.out).cells
            have vl := (XV.out.since TV.out).lt
            have ne0 := Nat.ne_of_gt vl
            go_region_held3 (fun W => W.cell? ⟨pv, 0, none⟩ = some (.int .i64 ro) ∧ W.cell? ⟨pv, 1, none⟩ = some (.slice sv rn cv)) (go_keep) (first
              | (go_at_call 20; (with_reducible refine (HW.out.up _ (VR.out _ (since_transW Z15.out (since_transW TV.out (by first | exact since_drew (since_refl _) | exact since_refl _ | exact since_drew (since_alloc (since_refl _)) | exact since_alloc (since_drew (since_refl _))))))).mono ?_); rintro e u1 ⟨sA, cA, rfl, hb, ho⟩; unfold vecV; have T1 : Hid (Since V5 u1) := (by refine since_call ?_ hb; first | exact since_drew (since_refl _) | exact since_refl _ | exact since_drew (since_alloc (since_refl _)) | exact since_alloc (since_drew (since_refl _))); have Q1 : Hid (Since V u1) := since_transW TV.out T1.out; have R1 : Hid (∀ X, Since u1 X → Row X X.heap.size sA rn fu) := (fun X hX => ownS_since ho hX); clear ho; (try (have hbx : Boxed u1 _ 26 0 none 0 0 := Boxed.kept (by first | assumption | exact heap_alloc_new _ _ | exact Boxed.drew (heap_alloc_new _ _)) hb rfl; obtain ⟨d0, d1, d2, d3⟩ := hbx.four)); obtain ⟨v0, v1⟩ := (XV.out.since Q1.out).cells; have vl := (XV.out.since Q1.out).lt; have ne1 := Nat.ne_of_gt vl; clear hb)
              | (go_at_call 21; (with_reducible refine (HW.out.byte _ (CR.out _ (since_transW Z15.out (by first | exact Q1.out | exact since_alloc Q1.out)))).mono ?_); rintro e u2 ⟨sB, cB, rfl, hb, ho⟩; unfold vecV; have T2 : Hid (Since V5 u2) := (by refine since_call ?_ hb; first | exact T1.out | exact since_alloc T1.out); have Q2 : Hid (Since V u2) := since_transW TV.out T2.out; have U12 : Hid (Since u1 u2) := (by refine since_call ?_ hb; first | exact since_refl _ | exact since_alloc (since_refl _)); have R2 : Hid (∀ X, Since u2 X → Row X X.heap.size sB rn fy) := (fun X hX => ownS_since ho hX); clear ho; (try (have hbx : Boxed u2 _ 26 0 none 0 0 := Boxed.kept (by first | assumption | exact heap_alloc_new _ _ | exact Boxed.drew (heap_alloc_new _ _)) hb rfl; obtain ⟨d0, d1, d2, d3⟩ := hbx.four)); obtain ⟨v0, v1⟩ := (XV.out.since Q2.out).cells; have vl := (XV.out.since Q2.out).lt; have ne2 := Nat.ne_of_gt vl; clear hb)
              | (go_at_call 19; (with_reducible refine (HW.out.and1 _ sA sB cA cB (R1.out _ (by first | exact U12.out | exact since_alloc U12.out)) (R2.out _ (by first | exact (since_refl _) | exact since_alloc (since_refl _)))).mono ?_); rintro e u3 ⟨s3, c3, rfl, hb, ho⟩; unfold vecV; have T3 : Hid (Since V5 u3) := (by refine since_call ?_ hb; first | exact T2.out | exact since_alloc T2.out); have Q3 : Hid (Since V u3) := since_transW TV.out T3.out; have R3 : Hid (∀ X, Since u3 X → Row X X.heap.size s3 rn fa) := (fun X hX => ownS_since ho hX); clear ho; (try (have hbx : Boxed u3 _ 26 0 none 0 0 := Boxed.kept (by first | assumption | exact heap_alloc_new _ _ | exact Boxed.drew (heap_alloc_new _ _)) hb rfl; obtain ⟨d0, d1, d2, d3⟩ := hbx.four)); obtain ⟨v0, v1⟩ := (XV.out.since Q3.out).cells; have vl := (XV.out.since Q3.out).lt; have ne3 := Nat.ne_of_gt vl; clear hb)
              | (go_at_call 22; (with_reducible refine (HW.out.loop _ (CR.out _ (since_transW Z15.out (by first | exact Q3.out | exact since_alloc Q3.out)))).mono ?_); rintro e u4 ⟨s4, c4, rfl, hb, ho⟩; unfold vecV; have T4 : Hid (Since V5 u4) := (by refine since_call ?_ hb; first | exact T3.out | exact since_alloc T3.out); have Q4 : Hid (Since V u4) := since_transW TV.out T4.out; have U34 : Hid (Since u3 u4) := (by refine since_call ?_ hb; first | exact since_refl _ | exact since_alloc (since_refl _)); have R4 : Hid (∀ X, Since u4 X → Row X X.heap.size s4 rn fl) := (fun X hX => ownS_since ho hX); clear ho; (try (have hbx : Boxed u4 _ 26 0 none 0 0 := Boxed.kept (by first | assumption | exact heap_alloc_new _ _ | exact Boxed.drew (heap_alloc_new _ _)) hb rfl; obtain ⟨d0, d1, d2, d3⟩ := hbx.four)); obtain ⟨v0, v1⟩ := (XV.out.since Q4.out).cells; have vl := (XV.out.since Q4.out).lt; have ne4 := Nat.ne_of_gt vl; clear hb)
              | (go_at_call 19; (with_reducible refine (HW.out.and2 _ s4 c4 (VR.out _ (since_transW Z15.out (by first | exact Q4.out | exact since_alloc Q4.out))) (R4.out _ (by first | exact (since_refl _) | exact since_alloc (since_refl _)))).mono ?_); rintro e u5 ⟨s5, c5, rfl, hb, ho⟩; unfold vecV; have T5 : Hid (Since V5 u5) := (by refine since_call ?_ hb; first | exact T4.out | exact since_alloc T4.out); have Q5 : Hid (Since V u5) := since_transW TV.out T5.out; have U35 : Hid (Since u3 u5) := (by refine since_call ?_ hb; first | exact U34.out | exact since_alloc U34.out); have R5 : Hid (∀ X, Since u5 X → Row X X.heap.size s5 rn fd) := (fun X hX => ownS_since ho hX); clear ho; (try (have hbx : Boxed u5 _ 26 0 none 0 0 := Boxed.kept (by first | assumption | exact heap_alloc_new _ _ | exact Boxed.drew (heap_alloc_new _ _)) hb rfl; obtain ⟨d0, d1, d2, d3⟩ := hbx.four)); obtain ⟨v0, v1⟩ := (XV.out.since Q5.out).cells; have vl := (XV.out.since Q5.out).lt; have ne5 := Nat.ne_of_gt vl; clear hb)
              | (go_at_call 18; (with_reducible refine (HW.out.or1 _ s3 s5 c3 c5 (R3.out _ (by first | exact U35.out | exact since_alloc U35.out)) (R5.out _ (by first | exact (since_refl _) | exact since_alloc (since_refl _)))).mono ?_); rintro e u6 ⟨s6, c6, rfl, hb, ho⟩; unfold vecV; have T6 : Hid (Since V5 u6) := (by refine since_call ?_ hb; first | exact T5.out | exact since_alloc T5.out); have Q6 : Hid (Since V u6) := since_transW TV.out T6.out; (try (have hbx : Boxed u6 _ 26 0 none 0 0 := Boxed.kept (by first | assumption | exact heap_alloc_new _ _ | exact Boxed.drew (heap_alloc_new _ _)) hb rfl; obtain ⟨d0, d1, d2, d3⟩ := hbx.four)); obtain ⟨v0, v1⟩ := (XV.out.since Q6.out).cells; have vl := (XV.out.since Q6.out).lt; have ne6 := Nat.ne_of_gt vl; clear hb))
            all_goals
              go_wp2_with fail
              go_meet
              case rel => first
                | exact cut_late T6.out (by first | exact T5.out.size | exact (since_alloc T5.out).size) ho
                | exact cut_early T6.out (by assumption) (by first | exact Nat.le_refl _ | exact T1.out.size | exact T2.out.size | exact T3.out.size | exact T4.out.size | exact T5.out.size) (by first | exact Boxed.lt (by assumption) | simp) ho
          case rest =>
            obtain ⟨pw, ws, wc9, rfl, hS, hp1, hp2, hx, hsl⟩ := hcut
            have T6 : Hid (Since V5 wc) := hS
            have XW : Hid (Boxed wc pw 26 ro ws rn wc9) := hx
            have RW : Hid (∀ X, Since wc X → Row X X.heap.size ws rn fo) := fun X hX => row_since hsl.row hX
            have HPW : Hid (V5.heap.size ≤ pw) := hp1
            have HC1 : Hid (∀ (W : World), Since wc W → Calls Tryz.prog 23 #[.agg #[.int .i64 ro, .slice (es 0) rn (ec 0), .int .i64 ro, .slice (es 1) rn (ec 1), .int .i64 ro, .slice (es 2) rn (ec 2), .int .i64 ro, .slice (es 3) rn (ec 3), .int .i64 ro, .slice (es 4) rn (ec 4)], .agg #[.int .i64 ro, .slice ws rn wc9]] W fun e w' => NewVec W ro rn fp e w') := fun W hW => HW.out.close1 W es ec ws wc9 (MR.out W (since_transW M5.out (since_transW hS hW))) (RW.out W hW)
            have HC2 : Hid (∀ (W : World) (z' : Option Addr) (k' : Nat), Since V5 W → Row W W.heap.size z' rn fq → Calls Tryz.prog 23 #[.agg #[.int .i64 ro, .slice (es 0) rn (ec 0), .int .i64 ro, .slice (es 1) rn (ec 1), .int .i64 ro, .slice (es 2) rn (ec 2), .int .i64 ro, .slice (es 3) rn (ec 3), .int .i64 ro, .slice (es 4) rn (ec 4)], .agg #[.int .i64 ro, .slice z' rn k']] W fun e w' => NewVec W ro rn rf e w') := fun W z' k' hW hr => HW.out.close2 W es ec z' k' (MR.out W (since_transW M5.out hW)) hr
            have hwr : IntKind.i64.wrap (ro - 1) = ro - 1 := by rw [IntKind.wrap_i64]; omega
            have HG : Hid (∀ (W : World) (z : Option Addr) (k : Nat), Row W W.heap.size z rn fp → Calls Tryz.prog 25 #[.agg #[.int .i64 ro, .slice z rn k], .int .i64 (IntKind.i64.wrap (ro - 1))] W fun e w' => e = .returned (.bool tt) ∧ Below W.heap.size W w') := fun W z k hr => by rw [hwr]; exact HW.out.get W z k hr
            clear hwr
            have hpmv := XM.out.lt
            clear hS hp1 hp2 hx hsl
            obtain ⟨m0, m1, m2, m3, m4, m5, m6, m7, m8, m9⟩ := (XM.out.kept T6.out.below rfl).cells
            have ml := (XM.out.kept T6.out.below rfl).lt
            obtain ⟨w0, w1', w2', w3'⟩ := XW.out.four
            have wl := XW.out.lt
            go_wp2_with fail
            refine (HC1.out wc (since_refl _)).mono ?_
            rintro e wd ⟨ss, sc, rfl, hb, ho⟩
            unfold vecV
            have XA : Boxed wd pw 26 ro ws rn wc9 := XW.out.kept hb rfl
            have SA : Since V5 wd := since_call T6.out hb
            have HX9 : Hid (Boxed ((wd.setCell ⟨pw, 0, none⟩ (.int .i64 ro)).setCell ⟨pw, 1, none⟩ (.slice ss rn sc)) pw 26 ro ss rn sc) := boxed_storeC XA
            have HS9 : Hid (Since V5 ((wd.setCell ⟨pw, 0, none⟩ (.int .i64 ro)).setCell ⟨pw, 1, none⟩ (.slice ss rn sc))) := since_set (since_set SA HPW.out) HPW.out
            have HR9 : Hid (Row ((wd.setCell ⟨pw, 0, none⟩ (.int .i64 ro)).setCell ⟨pw, 1, none⟩ (.slice ss rn sc)) ((wd.setCell ⟨pw, 0, none⟩ (.int .i64 ro)).setCell ⟨pw, 1, none⟩ (.slice ss rn sc)).heap.size ss rn fp) := by
              have hpw := XW.out.lt
              rcases ho with h9 | ⟨g9, h1, h2, h3⟩
              · exact Or.inl h9
              · have h4 := (h3.setOther ⟨pw, 0, none⟩ (.int .i64 ro) (by show pw ≠ g9; omega)).setOther ⟨pw, 1, none⟩ (.slice ss rn sc) (by show pw ≠ g9; omega)
                exact h1 ▸ h4.row h4.1
            clear m0 m1 m2 m3 m4 m5 m6 m7 m8 m9 ml w0 w1' w2' w3' wl
            obtain ⟨w0, w1', w2', w3'⟩ := XA.four
            have wl := XA.lt
            clear XA SA hb ho HC1
            go_upto_region 27 with fail
            clear w0 w1' w2' w3' wl
            generalize ((wd.setCell ⟨pw, 0, none⟩ (.int .i64 ro)).setCell ⟨pw, 1, none⟩ (.slice ss rn sc)) = V7 at *
            have T7 : Hid (Since V5 V7) := HS9.out
            have Q7 : Hid (Since V V7) := since_transW TV.out HS9.out
            have XW7 : Hid (Boxed V7 pw 26 ro ss rn sc) := HX9.out
            have R7 : Hid (∀ X, Since V7 X → Row X X.heap.size ss rn fp) := fun X hX => row_since HR9.out hX
            have XM7 : Hid (MBox V7 pm ro es rn ec) := XM.out.kept HS9.out.below rfl
            have XX7 : Hid (SBox V7 px ro xs rn xc tt) := XX.out.since Q7.out
            clear HS9 HX9 HR9
            obtain ⟨x0, x1, x2⟩ := XX7.out.cells
            have xl := XX7.out.lt
            obtain ⟨w0, w1'⟩ := XW7.out.cells
            have wl := XW7.out.lt
            obtain ⟨m0, m1, m2, m3, m4, m5, m6, m7, m8, m9⟩ := XM7.out.cells
            have ml := XM7.out.lt
            go_region_held3 (fun W => W.cell? ⟨px, 0, none⟩ = some (.int .i64 ro) ∧ W.cell? ⟨px, 1, none⟩ = some (.slice xs rn xc) ∧ W.cell? ⟨px, 2, none⟩ = some (.bool tt) ∧ W.cell? ⟨pw, 0, none⟩ = some (.int .i64 ro) ∧ W.cell? ⟨pw, 1, none⟩ = some (.slice ss rn sc) ∧ W.cell? ⟨pm, 0, none⟩ = some (.int .i64 ro) ∧ W.cell? ⟨pm, 1, none⟩ = some (.slice (es 0) rn (ec 0)) ∧ W.cell? ⟨pm, 2, none⟩ = some (.int .i64 ro) ∧ W.cell? ⟨pm, 3, none⟩ = some (.slice (es 1) rn (ec 1)) ∧ W.cell? ⟨pm, 4, none⟩ = some (.int .i64 ro) ∧ W.cell? ⟨pm, 5, none⟩ = some (.slice (es 2) rn (ec 2)) ∧ W.cell? ⟨pm, 6, none⟩ = some (.int .i64 ro) ∧ W.cell? ⟨pm, 7, none⟩ = some (.slice (es 3) rn (ec 3)) ∧ W.cell? ⟨pm, 8, none⟩ = some (.int .i64 ro) ∧ W.cell? ⟨pm, 9, none⟩ = some (.slice (es 4) rn (ec 4))) (go_keep) (first
              | (go_at_call 18; (with_reducible refine (HW.out.or2 _ ss (es 0) sc (ec 0) (R7.out _ (by first | exact since_drew (since_refl _) | exact since_refl _)) (MR.out _ (since_transW M5.out (since_transW T7.out (by first | exact since_drew (since_refl _) | exact since_refl _))) 0 (by decide))).mono ?_); rintro e u1 ⟨sA, cA, rfl, hb, ho⟩; have T1 : Hid (Since V7 u1) := (by refine since_call ?_ hb; first | exact since_drew (since_refl _) | exact since_refl _); unfold vecV; have R1 : Hid (∀ X, Since u1 X → Row X X.heap.size sA rn fq) := (fun X hX => ownS_since ho hX); clear ho; obtain ⟨x0, x1, x2⟩ := (XX7.out.since T1.out).cells; have xl := (XX7.out.since T1.out).lt; obtain ⟨w0, w1'⟩ := (XW7.out.since T1.out).cells; have wl := (XW7.out.since T1.out).lt; obtain ⟨m0, m1, m2, m3, m4, m5, m6, m7, m8, m9⟩ := (XM7.out.kept T1.out.below rfl).cells; have ml := (XM7.out.kept T1.out.below rfl).lt; clear hb)
              | (go_at_call 23; (with_reducible refine (HC2.out _ sA cA (since_transW T7.out T1.out) (R1.out _ (since_refl _))).mono ?_); rintro e u2 ⟨sB, cB, rfl, hb, ho⟩; have T2 : Hid (Since V7 u2) := (by refine since_call ?_ hb; first | exact T1.out); unfold vecV; have R2 : Hid (∀ X, Since u2 X → Row X X.heap.size sB rn rf) := (fun X hX => ownS_since ho hX); clear ho; obtain ⟨x0, x1, x2⟩ := (XX7.out.since T2.out).cells; have xl := (XX7.out.since T2.out).lt; obtain ⟨w0, w1'⟩ := (XW7.out.since T2.out).cells; have wl := (XW7.out.since T2.out).lt; obtain ⟨m0, m1, m2, m3, m4, m5, m6, m7, m8, m9⟩ := (XM7.out.kept T2.out.below rfl).cells; have ml := (XM7.out.kept T2.out.below rfl).lt; clear hb)
              | (go_at_call 24; (with_reducible refine (lwVec_same ro sB xs rn cB xc rf _ hrn (R2.out _ (since_refl _)) (RX.out _ (since_transW Z25.out (since_transW Q7.out T2.out)))).mono ?_); rintro e u3 ⟨rfl, hb⟩; have T3 : Hid (Since V7 u3) := (by refine since_call ?_ hb; first | exact T2.out); obtain ⟨x0, x1, x2⟩ := (XX7.out.since T3.out).cells; have xl := (XX7.out.since T3.out).lt; obtain ⟨w0, w1'⟩ := (XW7.out.since T3.out).cells; have wl := (XW7.out.since T3.out).lt; obtain ⟨m0, m1, m2, m3, m4, m5, m6, m7, m8, m9⟩ := (XM7.out.kept T3.out.below rfl).cells; have ml := (XM7.out.kept T3.out.below rfl).lt; clear hb)
              | (go_at_call 25; (with_reducible refine (HG.out _ ss sc (R7.out _ T3.out)).mono ?_); rintro e u4 ⟨rfl, hb⟩; have T4 : Hid (Since V7 u4) := (by refine since_call ?_ hb; first | exact T3.out); obtain ⟨x0, x1, x2⟩ := (XX7.out.since T4.out).cells; have xl := (XX7.out.since T4.out).lt; obtain ⟨w0, w1'⟩ := (XW7.out.since T4.out).cells; have wl := (XW7.out.since T4.out).lt; obtain ⟨m0, m1, m2, m3, m4, m5, m6, m7, m8, m9⟩ := (XM7.out.kept T4.out.below rfl).cells; have ml := (XM7.out.kept T4.out.below rfl).lt; clear hb))
            all_goals
              go_wp2_with fail
              go_ret
              exact ⟨by simp, (since_transW S1.out (since_transW Z15.out (since_transW Q7.out T4.out))).below⟩
end Go.Proofs.YtlgnplnmcdjbiaaGreat
