/- What is proved here: the specification's l05From hands back, in new memory, which places a right pattern may have come to; nothing that was there turns. -/
import Derived.Test.YtfeolbgenpknfaaQFromMToL03HasW
import Derived.Test.YtfeolbgenpknfaaQClassRightWToClassAlg
import Derived.Deep.QuietTactic
import Derived.BigQuiet
namespace Go.Proofs.Ytfeolbgenpknfaa
open Go.RowKit

theorem takes_has {t c : ByteArray} {s : Nat} (h : s < t.size) : takesB t c s = hasByte c t[s].toNat := by unfold takesB; rw [dif_pos h]
theorem takes_off {t c : ByteArray} {s : Nat} (h : ¬ s < t.size) : takesB t c s = false := by unfold takesB; rw [dif_neg h]
theorem below_drewF {a w : World} {B : Nat} (n : Nat) (h : Below B a w) : Below B a (w.drewN n) := ⟨h.os, h.tape, h.output, h.size, h.block⟩
theorem right_maxLen {c : ByteArray} (h : RightC c) : c.size ≤ maxLen := by
  have := right_size h
  unfold maxLen
  omega
theorem only_setF {a w : World} {b i : Nat} {v : Value} (h : a.grownBy w (some b)) : a.grownBy (w.setCell ⟨b, i, none⟩ v) (some b) :=
  h.trans ⟨rfl, rfl, rfl, by simp [World.setCell], fun k _ hk => Below.heap_setCell _ _ _ _ (fun e => hk (by simp [e]))⟩
theorem grown_drewF {a w : World} {b : Nat} (n : Nat) (h : a.grownBy w (some b)) : a.grownBy (w.drewN n) (some b) := ⟨h.os, h.tape, h.output, h.size, h.block⟩
theorem ownB_drew {w : World} {g n : Nat} {f : Nat → Bool} (k : Nat) (h : OwnB w g n f) : OwnB (w.drewN k) g n f := h
set_option maxRecDepth 100000 in
set_option maxHeartbeats 4000000 in
theorem from_spec (sa : Option Addr) (n cap : Nat) (f : Nat → Atm) (t : ByteArray) (b : Nat) (w : World) (hn : n ≤ 20) (ht : t.size ≤ 8000) (hb : b ≤ t.size) (hr : ARow w w.heap.size sa n f) (hR : ∀ i, i < n → AtomRight (f i)) :
    Calls Try.prog 64 #[.slice sa n cap, .string t, .int .i64 (b : Int)] w fun e w' => ∃ (g : Nat) (r : Nat → Bool), e = .returned (.slice (some ⟨g, 0, none⟩) (t.size + 1) (t.size + 1)) ∧ Below w.heap.size w w' ∧ w.heap.size ≤ g ∧ OwnB w' g (t.size + 1) r ∧ IsFrom t (atomsL f n) b r := by
  have HR : Hid (ARow w w.heap.size sa n f) := hr
  have HA : Hid (∀ i, i < n → AtomRight (f i)) := hR
  have HMK : Hid (∀ W : World, ∃ (w' : World) (g : Nat), (Instr.makeSlice 79 (.int .i64 ((t.size + 1 : Nat) : Int)) (.int .i64 ((t.size + 1 : Nat) : Int))).run Try.prog W = .ok (.slice (some ⟨g, 0, none⟩) (t.size + 1) (t.size + 1)) w' ∧ W.heap.size ≤ g ∧ g < w'.heap.size ∧ Below W.heap.size W w' ∧ OwnB w' g (t.size + 1) (fun _ => false)) := fun W => make_boolN W (t.size + 1) (by omega)
  clear hr hR
  obtain ⟨v, g0, hmk, hg1, hg2, hbv, hown⟩ := HMK.out w
  rw [show ((t.size + 1 : Nat) : Int) = (t.size : Int) + 1 from rfl] at hmk
  have hcb := hown.2.1 b (by omega)
  have hfb := hown.2.2 b (by omega)
  have O1 : Hid (OwnB (v.setCell ⟨g0, b, none⟩ (.bool true)) g0 (t.size + 1) (fun i => if i = b then true else false)) := hown.set (by omega) true
  have B1 : Hid (Below w.heap.size w (v.setCell ⟨g0, b, none⟩ (.bool true))) := hbv.setCell hg1 _
  have hb0 : (0 : Int) ≤ (b : Int) := by omega
  have hb1 : (b : Int) < ((t.size + 1 : Nat) : Int) := by omega
  have hb1' : (b : Int) < (t.size : Int) + 1 := by omega
  clear hbv hown
  go_enter Try.func64, Try.ntmps64
  go_wp2_with fail
  clear hmk hcb hfb hb0 hb1 hb1'
  go_loopw [7, 8] (fun av iv wr => ∃ (k g : Nat) (r : Nat → Bool), k ≤ n ∧ iv = .int .i64 (k : Int) ∧ av = .slice (some ⟨g, 0, none⟩) (t.size + 1) (t.size + 1) ∧ Below w.heap.size w wr ∧ w.heap.size ≤ g ∧ OwnB wr g (t.size + 1) r ∧ IsFrom t (atomsL f k) b r) (fun _ iv _ => n - (intOf iv).toNat)
  case atStart => exact ⟨0, g0, _, Nat.zero_le _, rfl, rfl, B1.out, hg1, O1.out, from_start t b⟩
  case round =>
    obtain ⟨k, g, r, hk, rfl, rfl, hbel, hgl, hown, hfrom⟩ := hrel
    have HF : Hid (IsFrom t (atomsL f k) b r) := hfrom
    clear hfrom
    by_cases hkl : k < n
    · have hki : (k : Int) < (n : Int) := by omega
      have hk0 : (0 : Int) ≤ (k : Int) := by omega
      obtain ⟨bb, off, rfl, hbb, hat⟩ := HR.out.at hbel hkl
      obtain ⟨c0, c1, c2⟩ := hat
      have har := HA.out k hkl
      obtain ⟨⟨ac, al, am⟩, ha⟩ : ∃ a, f k = a := ⟨_, rfl⟩
      have HFK : Hid (f k = ⟨ac, al, am⟩) := ha
      rw [ha] at c0 c1 c2 har
      simp only at c0 c1 c2
      obtain ⟨hrc, _, hl0, hl1, hm⟩ := har
      simp only at hrc hl0 hl1 hm
      have HSZ : Hid (ac.size ≤ maxLen) := right_maxLen hrc
      obtain ⟨wv, g2, hmk, hg3, hg4, hbv, hown2⟩ := HMK.out wr
      rw [show ((t.size + 1 : Nat) : Int) = (t.size : Int) + 1 from rfl] at hmk
      have hglt := hown.1
      have hbbl : bb < wr.heap.size := Nat.lt_of_lt_of_le hbb hbel.size
      have hng : g ≠ g2 := by omega
      have hnb : bb ≠ g2 := by omega
      have BV : Hid (Below w.heap.size w wv) := hbel.trans (hbv.mono hbel.size)
      have OG : Hid (OwnB wv g (t.size + 1) r) := hown.kept hbv hglt
      have ON : Hid (OwnB wv g2 (t.size + 1) (fun _ => false)) := hown2
      have e0 : wv.cell? ⟨bb, off + k * 3, none⟩ = some (.string ac) := (hbv.cell (p := ⟨bb, off + k * 3, none⟩) hbbl).trans c0
      have e1 : wv.cell? ⟨bb, off + k * 3 + 1, none⟩ = some (.int .i64 al) := (hbv.cell (p := ⟨bb, off + k * 3 + 1, none⟩) hbbl).trans c1
      have e2 : wv.cell? ⟨bb, off + k * 3 + 2, none⟩ = some (.int .i64 am) := (hbv.cell (p := ⟨bb, off + k * 3 + 2, none⟩) hbbl).trans c2
      have HC : Hid (∀ W : World, wv.grownBy W (some g2) → W.cell? ⟨bb, off + k * 3, none⟩ = some (.string ac) ∧ W.cell? ⟨bb, off + k * 3 + 1, none⟩ = some (.int .i64 al) ∧ W.cell? ⟨bb, off + k * 3 + 2, none⟩ = some (.int .i64 am) ∧ OwnB W g (t.size + 1) r ∧ Below w.heap.size w W) := fun W hgr => by
        have hb9 := hgr.block bb (by omega) (fun e => hnb (by injection e))
        have hg9 := hgr.block g (by omega) (fun e => hng (by injection e))
        refine ⟨?_, ?_, ?_, ⟨Nat.lt_of_lt_of_le OG.out.1 hgr.size, fun i hi => ?_, fun i hi => ?_⟩, BV.out.trans ⟨hgr.os, hgr.tape, hgr.output, hgr.size, fun j hj => hgr.block j (Nat.lt_of_lt_of_le hj BV.out.size) (fun e => by injection e with e; omega)⟩⟩
        · simpa [World.cell?, hb9] using e0
        · simpa [World.cell?, hb9] using e1
        · simpa [World.cell?, hb9] using e2
        · have := OG.out.2.1 i hi
          simpa [World.cell?, hg9] using this
        · have := OG.out.2.2 i hi
          simpa [World.frozen?, hg9] using this
      clear c0 c1 c2 e0 e1 e2 hbel hown hbv hown2 ha
      go_wp2_with fail
      clear hmk
      go_loopw [10] (fun sv wr => ∃ (s : Nat) (q : Nat → Bool), s ≤ t.size + 1 ∧ sv = .int .i64 (s : Int) ∧ wv.grownBy wr (some g2) ∧ OwnB wr g2 (t.size + 1) q ∧ IsNext t ⟨ac, al, am⟩ r s q) (fun sv _ => t.size + 1 - (intOf sv).toNat)
      case atStart => exact ⟨0, _, by omega, rfl, World.grownBy.refl _ _, ON.out, next_start _ _ _⟩
      case round =>
        obtain ⟨s, q, hs, rfl, hgr, hown, hnext⟩ := hrel
        have HN : Hid (IsNext t ⟨ac, al, am⟩ r s q) := hnext
        have HG : Hid (wv.grownBy wr (some g2)) := hgr
        have HO : Hid (OwnB wr g2 (t.size + 1) q) := hown
        obtain ⟨c0, c1, c2, og, hbel⟩ := HC.out wr hgr
        clear hnext hown hgr
        by_cases hsl : s ≤ t.size
        · have hsi : (s : Int) ≤ (t.size : Int) := by omega
          have hsi2 : (s : Int) < ((t.size + 1 : Nat) : Int) := by omega
          have hs0 : (0 : Int) ≤ (s : Int) := by omega
          have hrs := og.2.1 s (by omega)
          cases hr9 : r s with
          | false =>
            rw [hr9] at hrs
            have HN2 : Hid (IsNext t ⟨ac, al, am⟩ r (s + 1) q) := next_skip HN.out hr9
            clear hr9 hbel og
            go_wp2_with fail
            go_roundw
            case rel => exact ⟨s + 1, q, by omega, by go_num, HG.out, HO.out, HN2.out⟩
            case measure => simp [intOf]; omega
          | true =>
            rw [hr9] at hrs
            have HRS : Hid (r s = true) := hr9
            clear hr9 hbel og
            go_wp2_with fail
            clear c0 c1 c2 hrs
            go_loopw [11] (fun nv wr => ∃ (m : Nat) (x : Nat → Bool), s + m ≤ t.size ∧ nv = .int .i64 (m : Int) ∧ wv.grownBy wr (some g2) ∧ OwnB wr g2 (t.size + 1) x ∧ IsMore t ⟨ac, al, am⟩ q s m x ∧ RunC t ac s m ∧ ∀ k, k < m → am = -1 ∨ (k : Int) ≤ am) (fun nv _ => t.size + 1 - (intOf nv).toNat)
            case atStart => exact ⟨0, q, by omega, rfl, HG.out, HO.out, more_start _ _ _ _, RunC.zero _ _ _, fun k hk => by omega⟩
            case round =>
              obtain ⟨m, x, hsm, rfl, hgr, hown, hmore, hrun, hok⟩ := hrel
              have HX : Hid (IsMore t ⟨ac, al, am⟩ q s m x) := hmore
              have HRUN : Hid (RunC t ac s m) := hrun
              have HOK : Hid (∀ k, k < m → am = -1 ∨ (k : Int) ≤ am) := hok
              have HG3 : Hid (wv.grownBy wr (some g2)) := hgr
              have HO3 : Hid (OwnB wr g2 (t.size + 1) x) := hown
              obtain ⟨c0, c1, c2, og, hbel⟩ := HC.out wr hgr
              clear hmore hrun hok hgr hown og hbel
              by_cases hend : am ≠ -1 ∧ am < (m : Int)
              · have hd1 : ¬ am < 0 := by omega
                have hd2 : ¬ (m : Int) ≤ am := by omega
                have hd3 : decide (am < 0) = false := decide_eq_false hd1
                have HN2 : Hid (IsNext t ⟨ac, al, am⟩ r (s + 1) x) := next_done HN.out HRS.out HX.out (fun k hk => HRUN.out.mono (by omega)) HOK.out (Or.inl hend)
                go_wp2_with fail
                go_roundw
                case rel => exact ⟨s + 1, x, by omega, by go_num, HG3.out, HO3.out, HN2.out⟩
                case measure => simp [intOf]; omega
              · have HOK2 : Hid (∀ k, k < m + 1 → am = -1 ∨ (k : Int) ≤ am) := fun k hk => by
                  by_cases e : k = m
                  · subst e; omega
                  · exact HOK.out k (by omega)
                obtain ⟨p, hp⟩ : ∃ p, s + m = p := ⟨_, rfl⟩
                have HP : Hid (s + m = p) := hp
                have hpi : (s : Int) + (m : Int) = (p : Int) := by omega
                have hp0 : (0 : Int) ≤ (p : Int) := by omega
                have hp1 : (p : Int) < ((t.size + 1 : Nat) : Int) := by omega
                have hp1' : (p : Int) < (t.size : Int) + 1 := by omega
                have hcm := HO3.out.2.1 p (by omega)
                have hfm := HO3.out.2.2 p (by omega)
                have hA : am < 0 ∨ (¬ am < 0 ∧ (m : Int) ≤ am) := by omega
                clear hp
                rcases hA with hd1 | ⟨hd1, hd2⟩
                · have hd3 : decide (am < 0) = true := decide_eq_true hd1
                  by_cases hal : al ≤ (m : Int)
                  · have HX2 : Hid (IsMore t ⟨ac, al, am⟩ q s (m + 1) (fun i => if i = p then true else x i)) := by
                      have h9 := more_on HX.out hal
                      rw [HP.out] at h9
                      exact h9
                    by_cases hpl : p < t.size
                    · have hpi2 : ¬ (t.size : Int) ≤ (p : Int) := by omega
                      have hpi3 : (p : Int) < (t.size : Int) := by omega
                      have hdp : decide ((t.size : Int) ≤ (p : Int)) = false := decide_eq_false hpi2
                      have HTB : Hid (takesB t ac p = hasByte ac t[p].toNat) := takes_has hpl
                      have HL : Hid (∀ W, Calls Try.prog 99 #[.string ac, .int .u8 ((t[p].toNat : Nat) : Int)] W fun e w' => e = .returned (.bool (hasByte ac t[p].toNat)) ∧ w' = W) := fun W => l03Has_any ac t[p].toNat W HSZ.out
                      cases htk : hasByte ac t[p].toNat with
                      | false =>
                        rw [htk] at HTB HL
                        have HN2 : Hid (IsNext t ⟨ac, al, am⟩ r (s + 1) (fun i => if i = p then true else x i)) := next_done HN.out HRS.out HX2.out (fun k hk => HRUN.out.mono (by omega)) HOK2.out (Or.inr (run_stop (by rw [HP.out]; exact HTB.out)))
                        clear htk
                        go_wp2_with fail
                        go_quiet (first | (go_at_call 99; exact Calls.quiet_of_same (HL.out _)))
                        go_wp2_with fail
                        go_roundw
                        case rel => exact ⟨s + 1, (fun i => if i = p then true else x i), by omega, by go_num, grown_drewF _ (only_setF HG3.out), ownB_drew _ (HO3.out.set (by omega) true), HN2.out⟩
                        case measure => simp [intOf]; omega
                      | true =>
                        rw [htk] at HTB HL
                        have HR2 : Hid (RunC t ac s (m + 1)) := HRUN.out.succ (by rw [HP.out]; exact HTB.out)
                        clear htk
                        go_wp2_with fail
                        go_quiet (first | (go_at_call 99; exact Calls.quiet_of_same (HL.out _)))
                        go_wp2_with fail
                        go_roundw
                        case rel => exact ⟨m + 1, (fun i => if i = p then true else x i), by omega, by go_num, grown_drewF _ (only_setF HG3.out), ownB_drew _ (HO3.out.set (by omega) true), HX2.out, HR2.out, HOK2.out⟩
                        case measure => simp [intOf]; omega
                    · have hpi2 : (t.size : Int) ≤ (p : Int) := by omega
                      have hdp : decide ((t.size : Int) ≤ (p : Int)) = true := decide_eq_true hpi2
                      have HN2 : Hid (IsNext t ⟨ac, al, am⟩ r (s + 1) (fun i => if i = p then true else x i)) := next_done HN.out HRS.out HX2.out (fun k hk => HRUN.out.mono (by omega)) HOK2.out (Or.inr (run_stop (by rw [HP.out]; exact takes_off hpl)))
                      go_wp2_with fail
                      go_quiet (fail)
                      go_wp2_with fail
                      go_roundw
                      case rel => exact ⟨s + 1, (fun i => if i = p then true else x i), by omega, by go_num, grown_drewF _ (only_setF HG3.out), ownB_drew _ (HO3.out.set (by omega) true), HN2.out⟩
                      case measure => simp [intOf]; omega
                  · have HX2 : Hid (IsMore t ⟨ac, al, am⟩ q s (m + 1) x) := more_off HX.out hal
                    by_cases hpl : p < t.size
                    · have hpi2 : ¬ (t.size : Int) ≤ (p : Int) := by omega
                      have hpi3 : (p : Int) < (t.size : Int) := by omega
                      have hdp : decide ((t.size : Int) ≤ (p : Int)) = false := decide_eq_false hpi2
                      have HTB : Hid (takesB t ac p = hasByte ac t[p].toNat) := takes_has hpl
                      have HL : Hid (∀ W, Calls Try.prog 99 #[.string ac, .int .u8 ((t[p].toNat : Nat) : Int)] W fun e w' => e = .returned (.bool (hasByte ac t[p].toNat)) ∧ w' = W) := fun W => l03Has_any ac t[p].toNat W HSZ.out
                      cases htk : hasByte ac t[p].toNat with
                      | false =>
                        rw [htk] at HTB HL
                        have HN2 : Hid (IsNext t ⟨ac, al, am⟩ r (s + 1) x) := next_done HN.out HRS.out HX2.out (fun k hk => HRUN.out.mono (by omega)) HOK2.out (Or.inr (run_stop (by rw [HP.out]; exact HTB.out)))
                        clear htk
                        go_wp2_with fail
                        go_quiet (first | (go_at_call 99; exact Calls.quiet_of_same (HL.out _)))
                        go_wp2_with fail
                        go_roundw
                        case rel => exact ⟨s + 1, x, by omega, by go_num, grown_drewF _ HG3.out, ownB_drew _ HO3.out, HN2.out⟩
                        case measure => simp [intOf]; omega
                      | true =>
                        rw [htk] at HTB HL
                        have HR2 : Hid (RunC t ac s (m + 1)) := HRUN.out.succ (by rw [HP.out]; exact HTB.out)
                        clear htk
                        go_wp2_with fail
                        go_quiet (first | (go_at_call 99; exact Calls.quiet_of_same (HL.out _)))
                        go_wp2_with fail
                        go_roundw
                        case rel => exact ⟨m + 1, x, by omega, by go_num, grown_drewF _ HG3.out, ownB_drew _ HO3.out, HX2.out, HR2.out, HOK2.out⟩
                        case measure => simp [intOf]; omega
                    · have hpi2 : (t.size : Int) ≤ (p : Int) := by omega
                      have hdp : decide ((t.size : Int) ≤ (p : Int)) = true := decide_eq_true hpi2
                      have HN2 : Hid (IsNext t ⟨ac, al, am⟩ r (s + 1) x) := next_done HN.out HRS.out HX2.out (fun k hk => HRUN.out.mono (by omega)) HOK2.out (Or.inr (run_stop (by rw [HP.out]; exact takes_off hpl)))
                      go_wp2_with fail
                      go_quiet (fail)
                      go_wp2_with fail
                      go_roundw
                      case rel => exact ⟨s + 1, x, by omega, by go_num, grown_drewF _ HG3.out, ownB_drew _ HO3.out, HN2.out⟩
                      case measure => simp [intOf]; omega
                · have hd3 : decide (am < 0) = false := decide_eq_false hd1
                  by_cases hal : al ≤ (m : Int)
                  · have HX2 : Hid (IsMore t ⟨ac, al, am⟩ q s (m + 1) (fun i => if i = p then true else x i)) := by
                      have h9 := more_on HX.out hal
                      rw [HP.out] at h9
                      exact h9
                    by_cases hpl : p < t.size
                    · have hpi2 : ¬ (t.size : Int) ≤ (p : Int) := by omega
                      have hpi3 : (p : Int) < (t.size : Int) := by omega
                      have hdp : decide ((t.size : Int) ≤ (p : Int)) = false := decide_eq_false hpi2
                      have HTB : Hid (takesB t ac p = hasByte ac t[p].toNat) := takes_has hpl
                      have HL : Hid (∀ W, Calls Try.prog 99 #[.string ac, .int .u8 ((t[p].toNat : Nat) : Int)] W fun e w' => e = .returned (.bool (hasByte ac t[p].toNat)) ∧ w' = W) := fun W => l03Has_any ac t[p].toNat W HSZ.out
                      cases htk : hasByte ac t[p].toNat with
                      | false =>
                        rw [htk] at HTB HL
                        have HN2 : Hid (IsNext t ⟨ac, al, am⟩ r (s + 1) (fun i => if i = p then true else x i)) := next_done HN.out HRS.out HX2.out (fun k hk => HRUN.out.mono (by omega)) HOK2.out (Or.inr (run_stop (by rw [HP.out]; exact HTB.out)))
                        clear htk
                        go_wp2_with fail
                        go_quiet (first | (go_at_call 99; exact Calls.quiet_of_same (HL.out _)))
                        go_wp2_with fail
                        go_roundw
                        case rel => exact ⟨s + 1, (fun i => if i = p then true else x i), by omega, by go_num, grown_drewF _ (only_setF HG3.out), ownB_drew _ (HO3.out.set (by omega) true), HN2.out⟩
                        case measure => simp [intOf]; omega
                      | true =>
                        rw [htk] at HTB HL
                        have HR2 : Hid (RunC t ac s (m + 1)) := HRUN.out.succ (by rw [HP.out]; exact HTB.out)
                        clear htk
                        go_wp2_with fail
                        go_quiet (first | (go_at_call 99; exact Calls.quiet_of_same (HL.out _)))
                        go_wp2_with fail
                        go_roundw
                        case rel => exact ⟨m + 1, (fun i => if i = p then true else x i), by omega, by go_num, grown_drewF _ (only_setF HG3.out), ownB_drew _ (HO3.out.set (by omega) true), HX2.out, HR2.out, HOK2.out⟩
                        case measure => simp [intOf]; omega
                    · have hpi2 : (t.size : Int) ≤ (p : Int) := by omega
                      have hdp : decide ((t.size : Int) ≤ (p : Int)) = true := decide_eq_true hpi2
                      have HN2 : Hid (IsNext t ⟨ac, al, am⟩ r (s + 1) (fun i => if i = p then true else x i)) := next_done HN.out HRS.out HX2.out (fun k hk => HRUN.out.mono (by omega)) HOK2.out (Or.inr (run_stop (by rw [HP.out]; exact takes_off hpl)))
                      go_wp2_with fail
                      go_quiet (fail)
                      go_wp2_with fail
                      go_roundw
                      case rel => exact ⟨s + 1, (fun i => if i = p then true else x i), by omega, by go_num, grown_drewF _ (only_setF HG3.out), ownB_drew _ (HO3.out.set (by omega) true), HN2.out⟩
                      case measure => simp [intOf]; omega
                  · have HX2 : Hid (IsMore t ⟨ac, al, am⟩ q s (m + 1) x) := more_off HX.out hal
                    by_cases hpl : p < t.size
                    · have hpi2 : ¬ (t.size : Int) ≤ (p : Int) := by omega
                      have hpi3 : (p : Int) < (t.size : Int) := by omega
                      have hdp : decide ((t.size : Int) ≤ (p : Int)) = false := decide_eq_false hpi2
                      have HTB : Hid (takesB t ac p = hasByte ac t[p].toNat) := takes_has hpl
                      have HL : Hid (∀ W, Calls Try.prog 99 #[.string ac, .int .u8 ((t[p].toNat : Nat) : Int)] W fun e w' => e = .returned (.bool (hasByte ac t[p].toNat)) ∧ w' = W) := fun W => l03Has_any ac t[p].toNat W HSZ.out
                      cases htk : hasByte ac t[p].toNat with
                      | false =>
                        rw [htk] at HTB HL
                        have HN2 : Hid (IsNext t ⟨ac, al, am⟩ r (s + 1) x) := next_done HN.out HRS.out HX2.out (fun k hk => HRUN.out.mono (by omega)) HOK2.out (Or.inr (run_stop (by rw [HP.out]; exact HTB.out)))
                        clear htk
                        go_wp2_with fail
                        go_quiet (first | (go_at_call 99; exact Calls.quiet_of_same (HL.out _)))
                        go_wp2_with fail
                        go_roundw
                        case rel => exact ⟨s + 1, x, by omega, by go_num, grown_drewF _ HG3.out, ownB_drew _ HO3.out, HN2.out⟩
                        case measure => simp [intOf]; omega
                      | true =>
                        rw [htk] at HTB HL
                        have HR2 : Hid (RunC t ac s (m + 1)) := HRUN.out.succ (by rw [HP.out]; exact HTB.out)
                        clear htk
                        go_wp2_with fail
                        go_quiet (first | (go_at_call 99; exact Calls.quiet_of_same (HL.out _)))
                        go_wp2_with fail
                        go_roundw
                        case rel => exact ⟨m + 1, x, by omega, by go_num, grown_drewF _ HG3.out, ownB_drew _ HO3.out, HX2.out, HR2.out, HOK2.out⟩
                        case measure => simp [intOf]; omega
                    · have hpi2 : (t.size : Int) ≤ (p : Int) := by omega
                      have hdp : decide ((t.size : Int) ≤ (p : Int)) = true := decide_eq_true hpi2
                      have HN2 : Hid (IsNext t ⟨ac, al, am⟩ r (s + 1) x) := next_done HN.out HRS.out HX2.out (fun k hk => HRUN.out.mono (by omega)) HOK2.out (Or.inr (run_stop (by rw [HP.out]; exact takes_off hpl)))
                      go_wp2_with fail
                      go_quiet (fail)
                      go_wp2_with fail
                      go_roundw
                      case rel => exact ⟨s + 1, x, by omega, by go_num, grown_drewF _ HG3.out, ownB_drew _ HO3.out, HN2.out⟩
                      case measure => simp [intOf]; omega
        · have hsi : ¬ (s : Int) ≤ (t.size : Int) := by omega
          obtain rfl : s = t.size + 1 := by omega
          have HFN : Hid (IsFrom t (atomsL f (k + 1)) b q) := by
            have h9 := from_next hb HF.out HN.out
            show IsFrom t (atomsL f (k + 1)) b q
            rw [atomsL_succ, HFK.out]
            exact h9
          have HBF : Hid (Below w.heap.size w wr) := hbel
          clear hbel og
          go_wp2_with fail
          go_roundw
          case rel => exact ⟨k + 1, g2, q, by omega, by go_num, rfl, HBF.out, by omega, HO.out, HFN.out⟩
          case measure => simp [intOf]; omega
    · have hki : ¬ (k : Int) < (n : Int) := by omega
      obtain rfl : k = n := by omega
      have HBF : Hid (Below w.heap.size w wr) := hbel
      have HO : Hid (OwnB wr g (t.size + 1) r) := hown
      clear hbel hown
      go_wp2_with fail
      go_ret
      exact ⟨g, rfl, HBF.out, hgl, r, HO.out, HF.out⟩
end Go.Proofs.Ytfeolbgenpknfaa
