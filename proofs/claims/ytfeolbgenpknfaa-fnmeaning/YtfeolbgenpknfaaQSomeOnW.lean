/- What is proved here: taking as many bytes as an atom may, the program says how far one gets; but for the map nothing that was there turns. -/
import Derived.Test.YtfeolbgenpknfaaQMemo2WToFurW
namespace Go.Proofs.Ytfeolbgenpknfaa
open Go.RowKit

set_option maxRecDepth 100000 in
set_option maxHeartbeats 4000000 in
theorem someOn_any (sa : Option Addr) (n cap : Nat) (t : ByteArray) (g : Nat → Atm) (B i s : Nat) (w : World) (hn : n ≤ 40) (hi : i < n) (ht : t.size ≤ 8000) (hs : s ≤ t.size) (hl0 : 0 ≤ (g i).l) (hm0 : (g i).l ≤ (g i).m) (hm1 : (g i).m ≤ 20)
    (ih : ∀ k : Nat, s + k ≤ t.size → FurC sa n cap t g B (i + 1) (s + k)) (hM : Memo t (atomsL g n) B w) (hR : ARow w B sa n g) :
    Calls Try.prog 112 #[.agg #[.slice sa n cap, .string t, .map (some B)], .agg #[.int .i64 (i : Int), .int .i64 (s : Int)]] w fun e w' => ∃ v : Int, e = .returned (.int .i64 v) ∧ Far t ((atomsL g n).drop i) s v ∧ Memo t (atomsL g n) B w' ∧ Turn B w w' := by
  have HB := hM.lt
  have bt := below_two w (.cells #[.slice sa n cap, .string t, .map (some B)] 73) (.cells #[.int .i64 (i : Int), .int .i64 (s : Int)] 129)
  have tw := two_new w sa n cap t B i s HB 73 129
  have IH : Hid (∀ k : Nat, s + k ≤ t.size → FurC sa n cap t g B (i + 1) (s + k)) := ih
  have T1 := Turn.of (B := B) bt
  have M1 := hM.late bt
  have R1 := hR.turn T1 HB
  clear hM hR bt ih
  obtain ⟨⟨ac, al, am⟩, ha⟩ : ∃ a, g i = a := ⟨_, rfl⟩
  rw [ha] at hl0 hm0 hm1
  simp only at hl0 hm0 hm1
  have HG : Hid (g i = ⟨ac, al, am⟩) := ha
  have r1 := R1
  rcases r1 with h0 | ⟨bb, off, hsa, hbb, hcel⟩
  · omega
  have hat := hcel i hi
  rw [ha] at hat
  obtain ⟨c0, c1, c2⟩ := hat
  simp only at c0 c1 c2
  have hii : (i : Int) < (n : Int) := by omega
  have hi0 : (0 : Int) ≤ (i : Int) := by omega
  obtain ⟨t0, t1, t2, t3, t4, t5, t6, t7, t8⟩ := tw
  have HTW : Hid (Two ((w.alloc (.cells #[.slice sa n cap, .string t, .map (some B)] 73)).alloc (.cells #[.int .i64 (i : Int), .int .i64 (s : Int)] 129)) w.heap.size (w.heap.size + 1) sa n cap t B i s) := ⟨t0, t1, t2, t3, t4, t5, t6, t7, t8⟩
  have HT1 : Hid (Turn B w ((w.alloc (.cells #[.slice sa n cap, .string t, .map (some B)] 73)).alloc (.cells #[.int .i64 (i : Int), .int .i64 (s : Int)] 129))) := T1
  have HM1 : Hid (Memo t (atomsL g n) B ((w.alloc (.cells #[.slice sa n cap, .string t, .map (some B)] 73)).alloc (.cells #[.int .i64 (i : Int), .int .i64 (s : Int)] 129))) := M1
  have HR1 : Hid (ARow ((w.alloc (.cells #[.slice sa n cap, .string t, .map (some B)] 73)).alloc (.cells #[.int .i64 (i : Int), .int .i64 (s : Int)] 129)) B sa n g) := R1
  clear T1 M1 R1 hcel ha t0 t1 t2 t3 t4
  subst hsa
  go_enter Try.func112, Try.ntmps112
  go_wp2
  go_step3
  go_wp2
  go_step3
  have th := HTW.out.three (by simp; omega) ⟨ac, al, am⟩ 89
  simp only at th
  have al2 := (Below.refl ((w.alloc (.cells #[.slice (some ⟨bb, off, none⟩) n cap, .string t, .map (some B)] 73)).alloc (.cells #[.int .i64 (i : Int), .int .i64 (s : Int)] 129)).heap.size ((w.alloc (.cells #[.slice (some ⟨bb, off, none⟩) n cap, .string t, .map (some B)] 73)).alloc (.cells #[.int .i64 (i : Int), .int .i64 (s : Int)] 129))).alloc (Nat.le_refl _) (.cells #[.string ac, .int .i64 al, .int .i64 am] 89)
  have T2 := HT1.out.trans (Turn.of al2)
  have M2 := HM1.out.late al2
  have R2 := HR1.out.turn (Turn.of al2) (by simp; omega)
  clear al2 HTW HT1 HM1 HR1 c0 c1 c2 t5 t6
  generalize (((w.alloc (.cells #[.slice (some ⟨bb, off, none⟩) n cap, .string t, .map (some B)] 73)).alloc (.cells #[.int .i64 (i : Int), .int .i64 (s : Int)] 129)).alloc (.cells #[.string ac, .int .i64 al, .int .i64 am] 89)) = v at *
  have th2 : Three v w.heap.size (w.heap.size + 1) (w.heap.size + 1 + 1) (some ⟨bb, off, none⟩) n cap t B i s ⟨ac, al, am⟩ := by simpa using th
  clear th
  generalize w.heap.size = p at *
  have HV : Hid (Three v p (p + 1) (p + 1 + 1) (some ⟨bb, off, none⟩) n cap t B i s ⟨ac, al, am⟩) := th2
  have HT2 : Hid (Turn B w v) := T2
  have HM2 : Hid (Memo t (atomsL g n) B v) := M2
  have HR2 : Hid (ARow v B (some ⟨bb, off, none⟩) n g) := R2
  have q1 := th2.q1
  have HBv : B < v.heap.size := M2.lt
  clear th2 T2 M2 R2 HB t7 t8
  go_wp2
  go_quiet (fail)
  generalize hvd : v.drewN _ = vd at *
  have BD : Below v.heap.size v vd := by rw [← hvd]; exact below_drewC _ (Below.refl _ _)
  have HVD : Hid (Three vd p (p + 1) (p + 1 + 1) (some ⟨bb, off, none⟩) n cap t B i s ⟨ac, al, am⟩) := HV.out.turn (Turn.of BD)
  have HTD : Hid (Turn B w vd) := HT2.out.trans (Turn.of BD)
  have HMD : Hid (Memo t (atomsL g n) B vd) := HM2.out.late BD
  have HRD : Hid (ARow vd B (some ⟨bb, off, none⟩) n g) := HR2.out.turn (Turn.of BD) HBv
  have HBd : B < vd.heap.size := HMD.out.lt
  have HPS : Hid ((atomsL g n).drop i = ⟨ac, al, am⟩ :: (atomsL g n).drop (i + 1)) := by
    show (atomsL g n).drop i = _
    rw [atomsL_drop hi, HG.out]
  clear hvd BD HV HT2 HM2 HR2 q1 HBv
  go_wp2
  go_loopw [6, 7, 8] (fun fv kv pv wr => ∃ (k : Nat) (far : Int), kv = .int .i64 (k : Int) ∧ pv = .int .i64 ((s + k : Nat) : Int) ∧ fv = .int .i64 far ∧ Best (Tried t ⟨ac, al, am⟩ ((atomsL g n).drop (i + 1)) s k) far ∧ RunC t ac s k ∧ (k : Int) ≤ am ∧ s + k ≤ t.size ∧ Turn B vd wr ∧ Memo t (atomsL g n) B wr) (fun _ kv _ _ => 21 - (intOf kv).toNat)
  case atStart => exact ⟨0, -1, rfl, rfl, rfl, tried_zero, RunC.zero _ _ _, by omega, by omega, Turn.refl _ _, HMD.out⟩
  case round =>
    obtain ⟨k, far, rfl, rfl, rfl, hbest, hrun, hkm, hsk, hturn, hmemo⟩ := hrel
    have HBEST : Hid (Best (Tried t ⟨ac, al, am⟩ ((atomsL g n).drop (i + 1)) s k) far) := hbest
    have HRUN : Hid (RunC t ac s k) := hrun
    have HTURN : Hid (Turn B vd wr) := hturn
    have HMEMO : Hid (Memo t (atomsL g n) B wr) := hmemo
    obtain ⟨m0, m1, m2, q0, q1, a0, a1, a2, lp, lq, lr, np, nq, nr⟩ := HVD.out.turn hturn
    simp only at a0 a1 a2
    clear hbest hrun hturn hmemo
    have hk20 : k ≤ 20 := by omega
    have hs8 : s + k ≤ 8000 := by omega
    by_cases hal : al ≤ (k : Int)
    · go_wp2_with fail
      have C := IH.out k hsk wr HMEMO.out (HRD.out.turn HTURN.out HBd)
      rw [show ((i + 1 : Nat) : Int) = (i : Int) + 1 from rfl, show ((s + k : Nat) : Int) = (s : Int) + (k : Int) from rfl] at C
      refine C.mono ?_
      rintro e w1 ⟨u, rfl, hfar, hm1', ht1⟩
      obtain ⟨x, hx⟩ : ∃ x, (if far < u then u else far) = x := ⟨_, rfl⟩
      have HB2 : Hid (Best (Tried t ⟨ac, al, am⟩ ((atomsL g n).drop (i + 1)) s (k + 1)) x) := by
        have h9 := tried_on hal HBEST.out hfar
        have e9 : max far u = x := by rw [← hx]; split <;> omega
        rw [e9] at h9
        exact h9
      have T1 : Hid (Turn B vd w1) := HTURN.out.trans ht1
      have M1 : Hid (Memo t (atomsL g n) B w1) := hm1'
      clear C hfar hm1' ht1 m0 m1 m2 q0 q1 a0 a1 a2 lp lq lr np nq nr
      obtain ⟨m0, m1, m2, q0, q1, a0, a1, a2, lp, lq, lr, np, nq, nr⟩ := HVD.out.turn T1.out
      simp only at a0 a1 a2
      by_cases hkm2 : (k : Int) = am
      · have hkb : ((k : Int) == am) = true := by simpa using hkm2
        have FAR : Hid (Far t (⟨ac, al, am⟩ :: (atomsL g n).drop (i + 1)) s x) := tried_all HRUN.out hkm (Or.inl hkm2) HB2.out
        clear hkm2
        go_wp2_with fail
        try rw [Exit.noGoto_ret]
        go_ret
        exact ⟨_, rfl, by rw [HPS.out]; exact FAR.out, M1.out, HTD.out.trans T1.out⟩
      · have hkb : ((k : Int) == am) = false := by simpa using hkm2
        go_wp2_with fail
        have CT := takes_any (some ⟨bb, off, none⟩) n cap t (some B) ac al am (s + k) w1 hs8
        cases htk : takesB t ac (s + k) with
        | false =>
          rw [htk] at CT
          have FAR : Hid (Far t (⟨ac, al, am⟩ :: (atomsL g n).drop (i + 1)) s x) := tried_all HRUN.out hkm (Or.inr htk) HB2.out
          clear htk hkm2
          refine CT.mono ?_
          rintro e w9 ⟨rfl, hb9⟩
          have T9 : Hid (Turn B vd w9) := T1.out.trans (Turn.of hb9)
          have M9 : Hid (Memo t (atomsL g n) B w9) := M1.out.late hb9
          clear hb9 CT
          go_wp2_with fail
          try rw [Exit.noGoto_ret]
          go_ret
          exact ⟨_, rfl, by rw [HPS.out]; exact FAR.out, M9.out, HTD.out.trans T9.out⟩
        | true =>
          rw [htk] at CT
          have HTK : Hid (takesB t ac (s + k) = true) := htk
          have hlt9 := takesB_lt htk
          clear htk
          refine CT.mono ?_
          rintro e w9 ⟨rfl, hb9⟩
          have T9 : Hid (Turn B vd w9) := T1.out.trans (Turn.of hb9)
          have M9 : Hid (Memo t (atomsL g n) B w9) := M1.out.late hb9
          clear hb9 CT m0 m1 m2 q0 q1 a0 a1 a2
          obtain ⟨m0, m1, m2, q0, q1, a0, a1, a2, _, _, _, _, _, _⟩ := HVD.out.turn T9.out
          simp only at a0 a1 a2
          by_cases hfu : x = (t.size : Int)
          · have hfb : (x == (t.size : Int)) = true := by simpa using hfu
            have FAR : Hid (Far t (⟨ac, al, am⟩ :: (atomsL g n).drop (i + 1)) s x) := by
              show Far t (⟨ac, al, am⟩ :: (atomsL g n).drop (i + 1)) s x
              have h9 := HB2.out
              rw [hfu] at h9 ⊢
              exact tried_full hs HRUN.out hkm h9
            clear hfu
            go_wp2_with fail
            try rw [Exit.noGoto_ret]
            go_ret
            exact ⟨_, rfl, by rw [HPS.out]; exact FAR.out, M9.out, HTD.out.trans T9.out⟩
          · have hfb : (x == (t.size : Int)) = false := by simpa using hfu
            clear hfu
            go_wp2_with fail
            go_roundw
            case rel => exact ⟨k + 1, x, by go_num, by go_num, rfl, HB2.out, HRUN.out.succ HTK.out, by omega, by omega, T9.out, M9.out⟩
            case measure => simp [intOf]; omega
    · have HB2 : Hid (Best (Tried t ⟨ac, al, am⟩ ((atomsL g n).drop (i + 1)) s (k + 1)) far) := tried_off hal HBEST.out
      by_cases hkm2 : (k : Int) = am
      · have hkb : ((k : Int) == am) = true := by simpa using hkm2
        have FAR : Hid (Far t (⟨ac, al, am⟩ :: (atomsL g n).drop (i + 1)) s far) := tried_all HRUN.out hkm (Or.inl hkm2) HB2.out
        clear hkm2
        go_wp2_with fail
        try rw [Exit.noGoto_ret]
        go_ret
        exact ⟨_, rfl, by rw [HPS.out]; exact FAR.out, HMEMO.out, HTD.out.trans HTURN.out⟩
      · have hkb : ((k : Int) == am) = false := by simpa using hkm2
        go_wp2_with fail
        have CT := takes_any (some ⟨bb, off, none⟩) n cap t (some B) ac al am (s + k) wr hs8
        cases htk : takesB t ac (s + k) with
        | false =>
          rw [htk] at CT
          have FAR : Hid (Far t (⟨ac, al, am⟩ :: (atomsL g n).drop (i + 1)) s far) := tried_all HRUN.out hkm (Or.inr htk) HB2.out
          clear htk hkm2
          refine CT.mono ?_
          rintro e w9 ⟨rfl, hb9⟩
          have T9 : Hid (Turn B vd w9) := HTURN.out.trans (Turn.of hb9)
          have M9 : Hid (Memo t (atomsL g n) B w9) := HMEMO.out.late hb9
          clear hb9 CT
          go_wp2_with fail
          try rw [Exit.noGoto_ret]
          go_ret
          exact ⟨_, rfl, by rw [HPS.out]; exact FAR.out, M9.out, HTD.out.trans T9.out⟩
        | true =>
          rw [htk] at CT
          have HTK : Hid (takesB t ac (s + k) = true) := htk
          have hlt9 := takesB_lt htk
          clear htk
          refine CT.mono ?_
          rintro e w9 ⟨rfl, hb9⟩
          have T9 : Hid (Turn B vd w9) := HTURN.out.trans (Turn.of hb9)
          have M9 : Hid (Memo t (atomsL g n) B w9) := HMEMO.out.late hb9
          clear hb9 CT m0 m1 m2 q0 q1 a0 a1 a2
          obtain ⟨m0, m1, m2, q0, q1, a0, a1, a2, _, _, _, _, _, _⟩ := HVD.out.turn T9.out
          simp only at a0 a1 a2
          by_cases hfu : far = (t.size : Int)
          · have hfb : (far == (t.size : Int)) = true := by simpa using hfu
            have FAR : Hid (Far t (⟨ac, al, am⟩ :: (atomsL g n).drop (i + 1)) s far) := by
              show Far t (⟨ac, al, am⟩ :: (atomsL g n).drop (i + 1)) s far
              have h9 := HB2.out
              rw [hfu] at h9 ⊢
              exact tried_full hs HRUN.out hkm h9
            clear hfu
            go_wp2_with fail
            try rw [Exit.noGoto_ret]
            go_ret
            exact ⟨_, rfl, by rw [HPS.out]; exact FAR.out, M9.out, HTD.out.trans T9.out⟩
          · have hfb : (far == (t.size : Int)) = false := by simpa using hfu
            clear hfu
            go_wp2_with fail
            go_roundw
            case rel => exact ⟨k + 1, far, by go_num, by go_num, rfl, HB2.out, HRUN.out.succ HTK.out, by omega, by omega, T9.out, M9.out⟩
            case measure => simp [intOf]; omega
end Go.Proofs.Ytfeolbgenpknfaa
