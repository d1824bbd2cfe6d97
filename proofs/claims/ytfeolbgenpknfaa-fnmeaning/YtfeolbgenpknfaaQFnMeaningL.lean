/- What is proved here: the law FnMeaning walks to true at every two slices of bytes; nothing that was there turns. -/
import Derived.Test.YtfeolbgenpknfaaQImplHitsNWToFnMeanCallW
import Derived.Test.YtfeolbgenpknfaaQDrawMeanWToDrawFitsW
import Derived.Test.YtfeolbgenpknfaaQVecSToOnlyBM
import Derived.Test.YtfeolbgenpknfaaQLwHitWToAtomH
import Derived.Test.YtfeolbgenpknfaaQHitsLToBackToM
import Derived.Deep.RegionWith
import Derived.Deep.RegionHeld3
namespace Go.Proofs.Ytfeolbgenpknfaa
open Go.RowKit

theorem bytes_sinceM {w W : World} {sa : Option Addr} {len : Nat} (h : Bytes8 w w.heap.size sa len) (hs : Since w W) : Bytes8 W W.heap.size sa len := by
  have hb := hs.below
  have h1 : Bytes8 W w.heap.size sa len := h.kept (row := none) ⟨hb.os, hb.tape, hb.output, hb.size, fun k hk _ => hb.block k hk⟩ (fun k hk => by cases hk)
  rcases h1 with h | ⟨bb, off, zs, h1, h2, h3⟩
  · exact Or.inl h
  · exact Or.inr ⟨bb, off, zs, h1, Nat.lt_of_lt_of_le h2 hb.size, h3⟩
theorem since_transM {w W V : World} (h : Since w W) (k : Since W V) : Since w V := since_call h k.below
theorem arow_sinceM {w W : World} {sa : Option Addr} {n : Nat} {f : Nat → Atm} (h : ARow w w.heap.size sa n f) (hs : Since w W) : ARow W W.heap.size sa n f := (h.kept hs.below).up hs.below.size
theorem aarows_sinceM {w W : World} {sa : Option Addr} {k : Nat} {s : Nat → Option Addr} {n c : Nat → Nat} {f : Nat → Nat → Atm} (h : AARows w w.heap.size sa k s n c f) (hs : Since w W) : AARows W W.heap.size sa k s n c f := h.late hs.below
set_option maxRecDepth 100000 in
set_option maxHeartbeats 8000000 in
theorem law_fnMeaning (s1 : Option Addr) (l1 c1 : Nat) (s2 : Option Addr) (l2 c2 : Nat) (w : World) (hm1 : l1 ≤ maxLen) (hm2 : l2 ≤ maxLen) (hy1 : Bytes8 w w.heap.size s1 l1) (hy2 : Bytes8 w w.heap.size s2 l2) :
    Calls Try.prog 3 #[.slice s1 l1 c1, .slice s2 l2 c2] w fun e w' => e = .returned (.bool true) ∧ Below w.heap.size w w' := by
  unfold maxLen at hm1 hm2
  have HY1 : Hid (Bytes8 w w.heap.size s1 l1) := hy1
  have HY2 : Hid (Bytes8 w w.heap.size s2 l2) := hy2
  clear hy1 hy2
  by_cases hbig1 : 1048576 < (l1 : Int)
  · go_enter Try.func3, Try.ntmps3
    go_wp2
    go_ret
    exact ⟨rfl, Below.refl _ _⟩
  by_cases hbig2 : 1048576 < (l2 : Int)
  · go_enter Try.func3, Try.ntmps3
    go_wp2
    go_ret
    exact ⟨rfl, Below.refl _ _⟩
  have hl1 : l1 ≤ 1048576 := by omega
  have hl2 : l2 ≤ 1048576 := by omega
  go_enter Try.func3, Try.ntmps3
  go_wp2_with fail
  refine (drawFits_any w s1 l1 c1 hl1 HY1.out).mono ?_
  rintro e w1 ⟨⟨ps, pn, pc, pf, t, rfl, hpn, hpr, hps, htl⟩, hb⟩
  have S1 : Hid (Since w w1) := ⟨hb⟩
  have PR : Hid (∀ W, Since w1 W → ARow W W.heap.size ps pn pf) := fun W hW => arow_sinceM hpr hW
  obtain ⟨x, MA⟩ : ∃ x, MeansAll ps pn pc pf t x := ⟨_, means_all ps pn pc pf t hpn hps (by omega)⟩
  have HMA : Hid (MeansAll ps pn pc pf t x) := MA
  have HT : Hid (t.size ≤ 20000) := htl
  clear hb hpr hps hpn MA
  go_wp2_with fail
  refine (HMA.out.impl w1 (PR.out w1 (since_refl _))).mono ?_
  rintro e w2 ⟨rfl, hb⟩
  have S2 : Hid (Since w1 w2) := ⟨hb⟩
  clear hb
  go_wp2_with fail
  refine (drawEndsOf_any w2 s2 l2 c2 hl2 (bytes_sinceM HY2.out (since_transM S1.out S2.out))).mono ?_
  rintro e w3 ⟨⟨qs, qn, qc, qf, u, rfl, hqn, hqr, hqs, hul⟩, hb⟩
  have S3 : Hid (Since w1 w3) := since_call S2.out hb
  have QR : Hid (∀ W, Since w3 W → ARow W W.heap.size qs qn qf) := fun W hW => arow_sinceM hqr hW
  obtain ⟨en, ef, hen, hE1, hE2, hE3⟩ := ends_bothM qs qn qc qf u hqn hqs hul
  have HE1 : Hid (∀ W, ARow W W.heap.size qs qn qf → Calls Try.prog 12 #[.slice qs qn qc, .string u] W fun r w' => NewInts W en ef r w') := hE1
  have HE2 : Hid (∀ W, ARow W W.heap.size qs qn qf → Calls Try.prog 17 #[.slice qs qn qc, .string u] W fun r w' => NewInts W en ef r w') := hE2
  have HE3 : Hid (∀ i, i < en → EndAt qs qn qc qf u (ef i)) := hE3
  have HU : Hid (u.size ≤ 28000) := hul
  clear hb hqr hqs hqn hE1 hE2 hE3 S2 hul
  go_wp2_with fail
  refine (HE1.out w3 (QR.out w3 (since_refl _))).mono ?_
  rintro e w4 ⟨es, ec, rfl, hb, ho⟩
  have S4 : Hid (Since w1 w4 ∧ Since w3 w4) := ⟨since_call S3.out hb, ⟨hb⟩⟩
  have ER : Hid (∀ W, Since w4 W → Row W W.heap.size es en ef) := fun W hW => ownS_since ho hW
  clear hb ho S3 HE1
  go_wp2_with fail
  refine (drawStartsOf_any w4 s1 l1 c1 hl1 (bytes_sinceM HY1.out (since_transM S1.out S4.out.1))).mono ?_
  rintro e w5 ⟨⟨rs, rn, rc, rf, rt, rx, rfl, hrn, hrr, hrs, hrl, _, _⟩, hb⟩
  have S5 : Hid (Since w1 w5 ∧ Since w3 w5 ∧ Since w4 w5) := ⟨since_call S4.out.1 hb, since_call S4.out.2 hb, ⟨hb⟩⟩
  have RR : Hid (∀ W, Since w5 W → ARow W W.heap.size rs rn rf) := fun W hW => arow_sinceM hrr hW
  obtain ⟨tn, tf, htn, hT1, hT2⟩ := starts_bothM rs rn rc rf rt rx hrn hrs hrl
  have HT1 : Hid (∀ W, ARow W W.heap.size rs rn rf → Calls Try.prog 18 #[.slice rs rn rc, .string rt, .int .i64 rx] W fun r w' => NewInts W tn tf r w') := hT1
  have HT2 : Hid (∀ W, ARow W W.heap.size rs rn rf → Calls Try.prog 19 #[.slice rs rn rc, .string rt, .int .i64 rx] W fun r w' => NewInts W tn tf r w') := hT2
  clear hb hrr hrs hrn hT1 hT2 S4 hrl
  go_wp2_with fail
  refine (drawHitsOf_any w5 s2 l2 c2 hl2 (bytes_sinceM HY2.out (since_transM S1.out S5.out.1))).mono ?_
  rintro e V ⟨⟨lx, lk, lc, ls, ln, lcc, lf, v, rfl, hlk, hlr, hlsm, hvl⟩, hb⟩
  have Z1 : Hid (Since w1 V) := since_call S5.out.1 hb
  have Z3 : Hid (Since w3 V) := since_call S5.out.2.1 hb
  have Z4 : Hid (Since w4 V) := since_call S5.out.2.2 hb
  have Z5 : Hid (Since w5 V) := ⟨hb⟩
  have LR : Hid (∀ W, Since V W → AARows W W.heap.size lx lk ls ln lcc lf) := fun W hW => aarows_sinceM hlr hW
  obtain ⟨L, hL, hH1, hH2⟩ := hits_bothM lx lk lc ls ln lcc lf v hlk hlsm hvl
  have HH1 : Hid (∀ W, AARows W W.heap.size lx lk ls ln lcc lf → Calls Try.prog 21 #[.slice lx lk lc, .string v] W fun r w' => NewHits W L r w') := hH1
  have HH2 : Hid (∀ W, AARows W W.heap.size lx lk ls ln lcc lf → Calls Try.prog 22 #[.slice lx lk lc, .string v] W fun r w' => NewHits W L r w') := hH2
  clear hb hlr hlsm hlk hH1 hH2 S5 hvl
  go_upto_region 9 with fail
  go_cut [91] (fun c wc => c = .bool false ∧ Since V wc)
  case first =>
    have C1 := HMA.out.spec V (PR.out V Z1.out)
    cases x
    all_goals
      go_wp2_with fail
      refine C1.mono ?_
      clear C1
      rintro e u1 ⟨rfl, hb⟩
      have T1 : Hid (Since V u1) := ⟨hb⟩
      clear hb
      go_wp2_with fail
      refine (HE2.out u1 (QR.out u1 (since_transM Z3.out T1.out))).mono ?_
      rintro e u2 ⟨s6, c6, rfl, hb, ho⟩
      have T2 : Hid (Since V u2) := since_call T1.out hb
      have R6 : Hid (Row u2 u2.heap.size s6 en ef) := ownS_since ho (since_refl _)
      clear hb ho T1
      go_wp2_with fail
      refine (lwRow_same es s6 en ec c6 ef u2 hen (ER.out u2 (since_transM Z4.out T2.out)) R6.out).mono ?_
      rintro e u3 ⟨rfl, hb⟩
      have T3 : Hid (Since V u3) := since_call T2.out hb
      clear hb R6 T2
      go_wp2_with fail
      refine (HT1.out u3 (RR.out u3 (since_transM Z5.out T3.out))).mono ?_
      rintro e u4 ⟨s7, c7, rfl, hb, ho⟩
      have T4 : Hid (Since V u4) := since_call T3.out hb
      have R7 : Hid (∀ X, Since u4 X → Row X X.heap.size s7 tn tf) := fun X hX => ownS_since ho hX
      clear hb ho T3
      go_wp2_with fail
      refine (HT2.out u4 (RR.out u4 (since_transM Z5.out T4.out))).mono ?_
      rintro e u5 ⟨s8, c8, rfl, hb, ho⟩
      have T5 : Hid (Since V u5) := since_call T4.out hb
      have R8 : Hid (Row u5 u5.heap.size s8 tn tf ∧ Row u5 u5.heap.size s7 tn tf) := ⟨ownS_since ho (since_refl _), R7.out u5 ⟨hb⟩⟩
      clear hb ho T4 R7
      go_wp2_with fail
      refine (lwRow_same s7 s8 tn c7 c8 tf u5 htn R8.out.2 R8.out.1).mono ?_
      rintro e u6 ⟨rfl, hb⟩
      have T6 : Hid (Since V u6) := since_call T5.out hb
      clear hb R8 T5
      go_wp2_with fail
      refine (HH1.out u6 (LR.out u6 T6.out)).mono ?_
      rintro e u7 hN
      obtain ⟨s9, c9, rfl, hb, ho⟩ := hN.sl
      have T7 : Hid (Since V u7) := since_call T6.out hb
      have R9 : Hid (HSl u7 u6.heap.size u7.heap.size s9 L.length (pairsL L)) := ho
      clear hb ho T6 hN
      go_wp2_with fail
      refine (HH2.out u7 (LR.out u7 T7.out)).mono ?_
      rintro e u8 hN
      obtain ⟨s10, c10, rfl, hb, ho⟩ := hN.sl
      have T8 : Hid (Since V u8) := since_call T7.out hb
      have R10 : Hid (HRow u8 u8.heap.size s9 L.length (pairsL L) ∧ HRow u8 u8.heap.size s10 L.length (pairsL L)) := ⟨(R9.out.kept hb).row, ho.row⟩
      clear hb ho T7 hN R9
      go_wp2_with fail
      refine (lwHits_same s9 s10 L.length c9 c10 (pairsL L) u8 (by omega) R10.out.1 R10.out.2).mono ?_
      rintro e u9 ⟨rfl, hb⟩
      have T9 : Hid (Since V u9) := since_call T8.out hb
      clear hb R10 T8
      have T := T9.out
      go_wp2_with fail
      go_meet
      exact ⟨by simp, T⟩
  case rest =>
    obtain ⟨rfl, hT⟩ := hcut
    have T0 : Hid (Since V wc) := hT
    clear hT HH1 HH2 HT1 HT2 HE2 LR RR
    go_wp2_with fail
    go_loopw [16] (fun iv wr => ∃ i : Nat, i ≤ en ∧ iv = .int .i64 (i : Int) ∧ Since V wr) (fun iv _ => en - (intOf iv).toNat)
    case atStart => exact ⟨0, Nat.zero_le _, rfl, T0.out⟩
    case round =>
      obtain ⟨i, hi, rfl, hS⟩ := hrel
      have SR : Hid (Since V wr) := hS
      clear hS
      by_cases hil : i < en
      · obtain ⟨e, b, kn, kf, hev, hbe, heu, hkn, hkf, hkn2, hC1, hC2⟩ := HE3.out i hil
        have HC2 : Hid (∀ W, ARow W W.heap.size qs qn qf → Calls Try.prog 10 #[.slice qs qn qc, .string (u.extract b e)] W fun r w' => r = .returned (.bool true) ∧ Below W.heap.size W w') := hC2
        have C1 := hC1 wr (QR.out wr (since_transM Z3.out SR.out))
        obtain ⟨eb, eoff, rfl, heb, hec⟩ : ∃ bb off : Nat, es = some ⟨bb, off, none⟩ ∧ bb < wr.heap.size ∧ ∀ i, i < en → wr.cell? ⟨bb, off + i, none⟩ = some (.int .i64 (ef i)) := by
          rcases ER.out wr (since_transM Z4.out SR.out) with h | h
          · omega
          · exact h
        have hce := hec i hil
        rw [hev] at hce
        have CE : Hid (∀ W, Since wr W → W.cell? ⟨eb, eoff + i, none⟩ = some (.int .i64 (e : Int))) := fun W hW => by rw [hW.below.cell (p := ⟨eb, eoff + i, none⟩) heb]; exact hce
        clear hec hev hC1 hC2
        have hii : (i : Int) < (en : Int) := by omega
        have hi0 : (0 : Int) ≤ (i : Int) := by omega
        have hu2 := HU.out
        go_wp2_with fail
        refine C1.mono ?_
        rintro r w8 ⟨s6, c6, rfl, hb, ho⟩
        have T8 : Hid (Since wr w8) := ⟨hb⟩
        obtain ⟨sb, soff, rfl, hsb, hsc⟩ : ∃ bb off : Nat, s6 = some ⟨bb, off, none⟩ ∧ bb < w8.heap.size ∧ ∀ i, i < kn → w8.cell? ⟨bb, off + i, none⟩ = some (.int .i64 (kf i)) := by
          rcases ownS_since ho (since_refl _) with h | h
          · omega
          · exact h
        have hcs := hsc 0 hkn
        rw [hkf, Nat.add_zero] at hcs
        have hce8 := CE.out w8 T8.out
        have CS : Hid (∀ W, Since w8 W → W.cell? ⟨sb, soff, none⟩ = some (.int .i64 (b : Int))) := fun W hW => by rw [hW.below.cell (p := ⟨sb, soff, none⟩) hsb]; exact hcs
        clear hsc hb ho C1 hce
        have hk1 : ¬ (kn : Int) = 0 := by omega
        have hk2 : ((kn : Int) == 0) = false := by simp; omega
        have hkp : (0 : Int) < (kn : Int) := by omega
        have hb0 : (0 : Int) ≤ (b : Int) := by omega
        have hbe2 : (b : Int) ≤ (e : Int) := by omega
        have heu2 : (e : Int) ≤ (u.size : Int) := by omega
        have e0 : (0 : Int) ≤ (e : Int) := by omega
        go_wp2_with fail
        go_region_held3 (fun W => W.cell? ⟨sb, soff, none⟩ = some (.int .i64 (b : Int)) ∧ W.cell? ⟨eb, eoff + i, none⟩ = some (.int .i64 (e : Int))) (go_keep) (first
          | (go_at_call 10; (with_reducible refine (HC2.out _ (QR.out _ (since_transM Z3.out (since_transM SR.out (since_transM T8.out (by first | exact since_drew (since_refl _) | exact since_refl _)))))).mono ?_); rintro r u2 ⟨rfl, hb2⟩; have T9 : Hid (Since V u2 ∧ Since w8 u2) := (by have h9 : Since w8 u2 := (by refine since_call ?_ hb2; first | exact since_drew (since_refl _) | exact since_refl _); exact ⟨since_transM SR.out (since_transM T8.out h9), h9⟩); have hcs2 := CS.out u2 T9.out.2; have hce2 := CE.out u2 (since_transM T8.out T9.out.2); clear hb2))
        all_goals
          go_wp2_with fail
          go_roundw
          case rel => exact ⟨i + 1, by omega, by go_num, T9.out.1⟩
          case measure => simp [intOf]; omega
      · have hii : ¬ (i : Int) < (en : Int) := by omega
        have B0 : Hid (Since V (wr.alloc (.cells #[] 5)) ∧ RowT (wr.alloc (.cells #[] 5)) V.heap.size (.slice (some ⟨wr.heap.size, 0, none⟩) 0 0) (backTo t 0)) := ⟨since_alloc SR.out, by rw [backTo_zero]; exact rowT_start wr V.heap.size SR.out.size #[] rfl⟩
        clear HE3 QR ER HU SR
        go_wp2_with fail
        generalize wr.alloc (.cells #[] 5) = v0 at *
        go_loopw [18, 19] (fun bv iv wx => ∃ k : Nat, k ≤ t.size ∧ iv = .int .i64 ((t.size : Int) - 1 - (k : Int)) ∧ Since V wx ∧ RowT wx V.heap.size bv (backTo t k)) (fun _ iv _ => (intOf iv + 1).toNat)
        case atStart => exact ⟨0, Nat.zero_le _, by go_num, B0.out.1, B0.out.2⟩
        case round =>
          obtain ⟨k, hk, rfl, hS, hrow⟩ := hrel
          rename World => wx
          have SX : Hid (Since V wx) := hS
          have RX : Hid (RowT wx V.heap.size u18 (backTo t k)) := hrow
          have hVx := hS.size
          clear hS hrow
          by_cases hkl : k < t.size
          · obtain ⟨j, hj⟩ : ∃ j, j + k + 1 = t.size := ⟨t.size - 1 - k, by omega⟩
            have HJ : Hid (j + k + 1 = t.size) := hj
            have hji : (t.size : Int) - 1 - (k : Int) = (j : Int) := by omega
            have hj0 : (0 : Int) ≤ (j : Int) := by omega
            have hjt : j < t.size := by omega
            have hjl : (j : Int) < (t.size : Int) := by omega
            have HSUC : Hid (backTo t (k + 1) = (backTo t k).push t[j]) := backTo_succ hj
            have hlen : (backTo t k).size = k := backTo_size hk
            have hmap : ((backTo t k).data.toList.map fun b => (b.toNat : Int)).length ≤ 20000 := by rw [List.length_map, Array.length_toList]; show (backTo t k).size ≤ _; omega
            rw [hji]
            clear hj hlen
            go_wp2_with (at_builtin; refine wpList_app8 rfl (.tmp 130) (.tmp 134) rfl V.heap.size u18 ((backTo t k).data.toList.map fun b => (b.toNat : Int)) [(t[j].toNat : Int)] rfl (RX.out.bytes.x.alloc _) (by simp <;> omega) ⟨wx.heap.size, 0, none⟩ 1 rfl (by simp) (by exact new_cells wx [(t[j].toNat : Int)] _ _ rfl) (by simp only [List.length_cons, List.length_nil]; omega) ?_)
            intro v' w9 hrow hbel
            have R9 : Hid (RowT w9 V.heap.size v' (backTo t (k + 1))) := by rw [HSUC.out]; exact RowT.of8 hrow
            have S9 : Hid (Since V w9) := ⟨(since_alloc SX.out).below.trans hbel⟩
            clear hrow hbel
            go_wp2_with fail
            go_roundw
            case rel => exact ⟨k + 1, by omega, by go_num, S9.out, R9.out⟩
            case measure => simp [intOf] <;> omega
          · have hji : ¬ (0 : Int) ≤ (t.size : Int) - 1 - (k : Int) := by omega
            obtain rfl : k = t.size := by omega
            have RB : Hid (RowT wx V.heap.size u18 (backT t)) := by show RowT _ _ _ _; rw [← backTo_all]; exact RX.out
            clear RX
            go_upto_region 22 with fail
            have HCV : Hid (∀ W, Since wx W → (convert 22 9 u18).run Try.prog W = .ok (.string (backT t)) W) := fun W hW => (RB.out.kept hW.below).conv
            clear RB
            go_cut [146] (fun c wc => c = .bool false ∧ Since V wc)
            case first =>
              obtain ⟨rb, hR, hRev⟩ := HMA.out.right
              have HR : Hid (∀ W, ARow W W.heap.size ps pn pf → Calls Try.prog 23 #[.slice ps pn pc] W fun r w' => r = .returned (.bool rb) ∧ Below W.heap.size W w') := hR
              have HRV : Hid (rb = true → ∃ fr : Nat → Atm, (∀ W, ARow W W.heap.size ps pn pf → Calls Try.prog 24 #[.slice ps pn pc] W fun r w' => NewAtoms W pn fr r w') ∧ ∀ (W : World) (y : Option Addr) (cy : Nat), ARow W W.heap.size y pn fr → Calls Try.prog 10 #[.slice y pn cy, .string (backT t)] W fun r w' => r = .returned (.bool x) ∧ Below W.heap.size W w') := hRev
              clear hR hRev
              cases rb with
              | false =>
                clear HRV HCV
                first | (go_region_with (go_at_call 23; refine (HR.out _ (PR.out _ (since_transM Z1.out (since_transM SX.out (by first | exact since_drew (since_refl _) | exact since_refl _))))).mono ?_; rintro r u2 ⟨rfl, hb2⟩; have T9 : Hid (Since V u2) := since_transM SX.out (by refine since_call ?_ hb2; first | exact since_drew (since_refl _) | exact since_refl _); clear hb2)) | fail
                all_goals
                  have T := T9.out
                  go_wp2_with fail
                  go_meet
                  exact ⟨by simp, T⟩
              | true =>
                obtain ⟨fr, hRv, hFb⟩ := HRV.out rfl
                have HRV2 : Hid (∀ W, ARow W W.heap.size ps pn pf → Calls Try.prog 24 #[.slice ps pn pc] W fun r w' => NewAtoms W pn fr r w') := hRv
                have HFB : Hid (∀ (W : World) (y : Option Addr) (cy : Nat), ARow W W.heap.size y pn fr → Calls Try.prog 10 #[.slice y pn cy, .string (backT t)] W fun r w' => r = .returned (.bool x) ∧ Below W.heap.size W w') := hFb
                clear HRV hRv hFb
                have hcv0 := HCV.out wx.drew (since_drew (since_refl _))
                cases x
                all_goals
                  go_region_with (first
                    | (go_at_call 23; (with_reducible refine (HR.out _ (PR.out _ (since_transM Z1.out (since_transM SX.out (by first | exact since_drew (since_refl _) | exact since_refl _))))).mono ?_); rintro r u2 ⟨rfl, hb2⟩; have T9 : Hid (Since wx u2) := (by refine since_call ?_ hb2; first | exact since_drew (since_refl _) | exact since_refl _); have hcv1 := HCV.out u2 T9.out; clear hb2)
                    | (go_at_call 24; (with_reducible refine (HRV2.out _ (PR.out _ (since_transM Z1.out (since_transM SX.out T9.out)))).mono ?_); rintro r u3 ⟨s6, c6, rfl, hb3, ho3⟩; have T10 : Hid (Since wx u3) := (by refine since_call ?_ hb3; first | exact T9.out); have R10 : Hid (ARow u3 u3.heap.size s6 pn fr) := ho3.row; have hcv2 := HCV.out u3 T10.out; clear hb3 ho3)
                    | (go_at_call 10; (with_reducible refine (HFB.out _ s6 c6 R10.out).mono ?_); rintro r u4 ⟨rfl, hb4⟩; have T11 : Hid (Since V u4) := since_transM SX.out (since_call T10.out hb4); clear hb4))
                  all_goals
                    have T := T11.out
                    go_wp2_with fail
                    go_meet
                    exact ⟨by simp, T⟩
            case rest =>
              obtain ⟨rfl, hT⟩ := hcut
              have TV : Hid (Since w1 wc) := since_transM Z1.out hT
              clear hT HCV
              cases x with
              | false =>
                go_wp2_with fail
                go_ret
                exact ⟨rfl, (since_transM S1.out TV.out).below⟩
              | true =>
                obtain ⟨lo, hi, en2, ef2, h1, h2, h3, h4, hLo, hHi, hEn⟩ := HMA.out.len rfl
                have HLO : Hid (∀ W, ARow W W.heap.size ps pn pf → Calls Try.prog 25 #[.slice ps pn pc] W fun r w' => r = .returned (.int .i64 lo) ∧ Below W.heap.size W w') := hLo
                have HHI : Hid (∀ W, ARow W W.heap.size ps pn pf → Calls Try.prog 26 #[.slice ps pn pc] W fun r w' => r = .returned (.int .i64 hi) ∧ Below W.heap.size W w') := hHi
                have C1 := hEn wc (PR.out wc TV.out)
                have H3 : Hid (0 < t.size → 0 < en2 ∧ ef2 (en2 - 1) = (t.size : Int)) := h3
                clear hLo hHi hEn h3
                go_wp2_with fail
                refine C1.mono ?_
                rintro r u5 ⟨s6, c6, rfl, hb, ho⟩
                have T5 : Hid (Since w1 u5) := since_call TV.out hb
                have R5 : Hid (∀ W, Since u5 W → Row W W.heap.size s6 en2 ef2) := fun W hW => ownS_since ho hW
                clear hb ho C1
                go_wp2_with fail
                refine (HLO.out u5 (PR.out u5 T5.out)).mono ?_
                rintro r u6 ⟨rfl, hb⟩
                have T6 : Hid (Since w1 u6 ∧ Since u5 u6) := ⟨since_call T5.out hb, ⟨hb⟩⟩
                clear hb
                go_wp2_with fail
                refine (HHI.out u6 (PR.out u6 T6.out.1)).mono ?_
                rintro r u7 ⟨rfl, hb⟩
                have T7 : Hid (Since w1 u7 ∧ Since u5 u7) := ⟨since_call T6.out.1 hb, since_call T6.out.2 hb⟩
                clear hb
                by_cases h0 : t.size = 0
                · have h0i : (t.size : Int) = 0 := by omega
                  have h0b : ((t.size : Int) == 0) = true := beq_iff_eq.2 h0i
                  by_cases hh : hi < 0
                  · go_wp2_with fail
                    go_ret
                    exact ⟨by simp, (since_transM S1.out T7.out.1).below⟩
                  · have h2' : (t.size : Int) ≤ hi := by omega
                    go_wp2_with fail
                    refine (HHI.out u7 (PR.out u7 T7.out.1)).mono ?_
                    rintro r u8 ⟨rfl, hb⟩
                    have T8 : Hid (Since w1 u8) := since_call T7.out.1 hb
                    clear hb
                    go_wp2_with fail
                    go_ret
                    exact ⟨by simp, (since_transM S1.out T8.out).below⟩
                · obtain ⟨hp1, hp2⟩ := H3.out (by omega)
                  obtain ⟨j, rfl⟩ : ∃ j, en2 = j + 1 := ⟨en2 - 1, by omega⟩
                  have hp2' : ef2 j = (t.size : Int) := hp2
                  have h0i : ¬ (t.size : Int) = 0 := by omega
                  have h0b : ((t.size : Int) == 0) = false := beq_eq_false_iff_ne.2 h0i
                  have hj1 : (0 : Int) < (j : Int) + 1 := by omega
                  obtain ⟨bb, off, rfl, hbb, hbc⟩ : ∃ bb off : Nat, s6 = some ⟨bb, off, none⟩ ∧ bb < u7.heap.size ∧ ∀ i, i < j + 1 → u7.cell? ⟨bb, off + i, none⟩ = some (.int .i64 (ef2 i)) := by
                    rcases R5.out u7 T7.out.2 with h | h
                    · omega
                    · exact h
                  have ce7 := hbc j (by omega)
                  rw [hp2'] at ce7
                  clear hp2 hp2' hbc
                  by_cases hh : hi < 0
                  · go_wp2_with fail
                    go_ret
                    exact ⟨by simp, (since_transM S1.out T7.out.1).below⟩
                  · have h2' : (t.size : Int) ≤ hi := by omega
                    go_wp2_with fail
                    refine (HHI.out u7 (PR.out u7 T7.out.1)).mono ?_
                    rintro r u8 ⟨rfl, hb⟩
                    have T8 : Hid (Since w1 u8) := since_call T7.out.1 hb
                    have ce8 : u8.cell? ⟨bb, off + j, none⟩ = some (.int .i64 (t.size : Int)) := by rw [hb.cell (p := ⟨bb, off + j, none⟩) hbb]; exact ce7
                    clear hb ce7
                    go_wp2_with fail
                    go_ret
                    exact ⟨by simp, (since_transM S1.out T8.out).below⟩
end Go.Proofs.Ytfeolbgenpknfaa
