/- What is proved here: leaving an atom of any times, or taking one byte and asking the same again, the program says how far one gets; but for the map nothing that was there turns. -/
import Derived.Test.YtfeolbgenpknfaaQMemo2WToFurW
import Derived.Deep.RegionHeld3
namespace Go.Proofs.Ytfeolbgenpknfaa
open Go.RowKit

theorem tdecide {p : Prop} [Decidable p] (h : p) : decide p = true := decide_eq_true h
set_option maxRecDepth 100000 in
set_option maxHeartbeats 4000000 in
theorem anyOn_any (sa : Option Addr) (n cap : Nat) (t : ByteArray) (g : Nat → Atm) (B i s : Nat) (w : World) (hn : n ≤ 40) (hi : i < n) (ht : t.size ≤ 8000) (hs : s ≤ t.size) (hl0 : (g i).l = 0) (hm0 : (g i).m = -1)
    (ih1 : FurC sa n cap t g B (i + 1) s) (ih2 : takesB t (g i).c s = true → FurC sa n cap t g B i (s + 1)) (hM : Memo t (atomsL g n) B w) (hR : ARow w B sa n g) :
    Calls Try.prog 113 #[.agg #[.slice sa n cap, .string t, .map (some B)], .agg #[.int .i64 (i : Int), .int .i64 (s : Int)]] w fun e w' => ∃ v : Int, e = .returned (.int .i64 v) ∧ Far t ((atomsL g n).drop i) s v ∧ Memo t (atomsL g n) B w' ∧ Turn B w w' := by
  have HB := hM.lt
  have bt := below_two w (.cells #[.slice sa n cap, .string t, .map (some B)] 73) (.cells #[.int .i64 (i : Int), .int .i64 (s : Int)] 129)
  have tw := two_new w sa n cap t B i s HB 73 129
  have IH1 : Hid (FurC sa n cap t g B (i + 1) s) := ih1
  have IH2 : Hid (takesB t (g i).c s = true → FurC sa n cap t g B i (s + 1)) := ih2
  have HT1 : Hid (Turn B w ((w.alloc (.cells #[.slice sa n cap, .string t, .map (some B)] 73)).alloc (.cells #[.int .i64 (i : Int), .int .i64 (s : Int)] 129))) := Turn.of (B := B) bt
  have HM1 : Hid (Memo t (atomsL g n) B ((w.alloc (.cells #[.slice sa n cap, .string t, .map (some B)] 73)).alloc (.cells #[.int .i64 (i : Int), .int .i64 (s : Int)] 129))) := hM.late bt
  have HR1 : Hid (ARow ((w.alloc (.cells #[.slice sa n cap, .string t, .map (some B)] 73)).alloc (.cells #[.int .i64 (i : Int), .int .i64 (s : Int)] 129)) B sa n g) := hR.turn HT1.out HB
  have HTW : Hid (Two ((w.alloc (.cells #[.slice sa n cap, .string t, .map (some B)] 73)).alloc (.cells #[.int .i64 (i : Int), .int .i64 (s : Int)] 129)) w.heap.size (w.heap.size + 1) sa n cap t B i s) := tw
  clear hM hR bt ih1 ih2 tw
  obtain ⟨⟨ac, al, am⟩, ha⟩ : ∃ a, g i = a := ⟨_, rfl⟩
  rw [ha] at hl0 hm0 IH2
  simp only at hl0 hm0 IH2
  subst hl0 hm0
  have HG : Hid (g i = ⟨ac, 0, -1⟩) := ha
  clear ha
  have HPS : Hid ((atomsL g n).drop i = ⟨ac, 0, -1⟩ :: (atomsL g n).drop (i + 1)) := by
    show (atomsL g n).drop i = _
    rw [atomsL_drop hi, HG.out]
  have hii : (i : Int) < (n : Int) := by omega
  have hi0 : (0 : Int) ≤ (i : Int) := by omega
  go_enter Try.func113, Try.ntmps113
  go_wp2_with fail
  generalize ((w.alloc (.cells #[.slice sa n cap, .string t, .map (some B)] 73)).alloc (.cells #[.int .i64 (i : Int), .int .i64 (s : Int)] 129)) = v at *
  generalize w.heap.size = p at *
  have C := IH1.out v HM1.out HR1.out
  rw [show ((i + 1 : Nat) : Int) = (i : Int) + 1 from rfl] at C
  refine C.mono ?_
  rintro e w1 ⟨far, rfl, hfar, hmemo, ht1⟩
  have hbd := Far.bd hfar hs
  have HFAR : Hid (Far t ((atomsL g n).drop (i + 1)) s far) := hfar
  have M1 : Hid (Memo t (atomsL g n) B w1) := hmemo
  have T1 : Hid (Turn B w w1) := HT1.out.trans ht1
  have R1 : Hid (ARow w1 B sa n g) := HR1.out.turn ht1 HM1.out.lt
  have HW1 : Hid (Two w1 p (p + 1) sa n cap t B i s) := HTW.out.turn ht1
  have HB1 := hmemo.lt
  have r1 := R1.out
  rcases r1 with h0 | ⟨bb, off, hsa, hbb, hcel⟩
  · omega
  have hat := hcel i hi
  rw [HG.out] at hat
  obtain ⟨c0, c1, c2⟩ := hat
  simp only at c0 c1 c2
  have hblt : bb < w1.heap.size := by omega
  obtain ⟨m0, m1, m2, q0, q1, lp, lq, np, nq⟩ := HW1.out
  clear C hfar hmemo ht1 HT1 HM1 HR1 HTW IH1 HB hcel
  subst hsa
  by_cases hlt : far < (t.size : Int)
  · have hd : decide (far < (t.size : Int)) = true := decide_eq_true hlt
    have CT := fun W => takes_any (some ⟨bb, off, none⟩) n cap t (some B) ac 0 (-1) s W (by omega)
    cases htk : takesB t ac s with
    | false =>
      rw [htk] at CT
      have HCT : Hid (∀ W, Calls Try.prog 126 #[.agg #[.slice (some ⟨bb, off, none⟩) n cap, .string t, .map (some B)], .agg #[.string ac, .int .i64 0, .int .i64 (-1)], .int .i64 (s : Int)] W fun e w' => e = .returned (.bool false) ∧ Below W.heap.size W w') := CT
      have FAR : Hid (Far t (⟨ac, 0, -1⟩ :: (atomsL g n).drop (i + 1)) s far) := far_any_off rfl rfl htk HFAR.out
      clear CT htk
      go_wp2_with fail
      go_region_held3 (fun W => W.cell? ⟨p, 0, none⟩ = some (.slice (some ⟨bb, off, none⟩) n cap) ∧ W.cell? ⟨p, 1, none⟩ = some (.string t) ∧ W.cell? ⟨p, 2, none⟩ = some (.map (some B)) ∧ W.cell? ⟨p + 1, 0, none⟩ = some (.int .i64 (i : Int)) ∧ W.cell? ⟨p + 1, 1, none⟩ = some (.int .i64 (s : Int)) ∧ W.cell? ⟨bb, off + i * 3, none⟩ = some (.string ac) ∧ W.cell? ⟨bb, off + i * 3 + 1, none⟩ = some (.int .i64 0) ∧ W.cell? ⟨bb, off + i * 3 + 2, none⟩ = some (.int .i64 (-1))) (go_keep) (first | (go_at_call 126; refine (HCT.out _).mono ?_; rintro e w2 ⟨rfl, hb2⟩; have HB2 : Hid (Below w1.heap.size w1 w2) := ((Below.refl w1.heap.size w1).drew).trans hb2; clear hb2; obtain ⟨k0, k1, k2, k3, k4, _, _, _, _⟩ := HW1.out.turn (Turn.of (B := B) HB2.out); have k5 := (HB2.out.cell (p := ⟨bb, off + i * 3, none⟩) hblt).trans c0; have k6 := (HB2.out.cell (p := ⟨bb, off + i * 3 + 1, none⟩) hblt).trans c1; have k7 := (HB2.out.cell (p := ⟨bb, off + i * 3 + 2, none⟩) hblt).trans c2))
      all_goals
        go_wp2_with fail
        go_ret
        exact ⟨_, rfl, by rw [HPS.out]; exact FAR.out, M1.out.late HB2.out, T1.out.trans (Turn.of HB2.out)⟩
    | true =>
      rw [htk] at CT
      have HCT : Hid (∀ W, Calls Try.prog 126 #[.agg #[.slice (some ⟨bb, off, none⟩) n cap, .string t, .map (some B)], .agg #[.string ac, .int .i64 0, .int .i64 (-1)], .int .i64 (s : Int)] W fun e w' => e = .returned (.bool true) ∧ Below W.heap.size W w') := CT
      have HTK : Hid (takesB t ac s = true) := htk
      have hlt9 := takesB_lt htk
      clear CT htk
      go_wp2_with fail
      go_region_held3 (fun W => W.cell? ⟨p, 0, none⟩ = some (.slice (some ⟨bb, off, none⟩) n cap) ∧ W.cell? ⟨p, 1, none⟩ = some (.string t) ∧ W.cell? ⟨p, 2, none⟩ = some (.map (some B)) ∧ W.cell? ⟨p + 1, 0, none⟩ = some (.int .i64 (i : Int)) ∧ W.cell? ⟨p + 1, 1, none⟩ = some (.int .i64 (s : Int)) ∧ W.cell? ⟨bb, off + i * 3, none⟩ = some (.string ac) ∧ W.cell? ⟨bb, off + i * 3 + 1, none⟩ = some (.int .i64 0) ∧ W.cell? ⟨bb, off + i * 3 + 2, none⟩ = some (.int .i64 (-1))) (go_keep) (first | (go_at_call 126; refine (HCT.out _).mono ?_; rintro e w2 ⟨rfl, hb2⟩; have HB2 : Hid (Below w1.heap.size w1 w2) := ((Below.refl w1.heap.size w1).drew).trans hb2; clear hb2; obtain ⟨k0, k1, k2, k3, k4, _, _, _, _⟩ := HW1.out.turn (Turn.of (B := B) HB2.out); have k5 := (HB2.out.cell (p := ⟨bb, off + i * 3, none⟩) hblt).trans c0; have k6 := (HB2.out.cell (p := ⟨bb, off + i * 3 + 1, none⟩) hblt).trans c1; have k7 := (HB2.out.cell (p := ⟨bb, off + i * 3 + 2, none⟩) hblt).trans c2))
      all_goals
        have M2 : Hid (Memo t (atomsL g n) B w2) := M1.out.late HB2.out
        have T2 : Hid (Turn B w w2) := T1.out.trans (Turn.of HB2.out)
        have R2 : Hid (ARow w2 B (some ⟨bb, off, none⟩) n g) := R1.out.turn (Turn.of HB2.out) HB1
        clear m0 m1 m2 q0 q1 c0 c1 c2
        go_wp2_with fail
        have C := IH2.out HTK.out w2 M2.out R2.out
        rw [show ((s + 1 : Nat) : Int) = (s : Int) + 1 from rfl] at C
        refine C.mono ?_
        rintro e w3 ⟨u, rfl, hfar2, hm3, ht3⟩
        obtain ⟨x, hx⟩ : ∃ x, (if far < u then u else far) = x := ⟨_, rfl⟩
        have FAR : Hid (Far t (⟨ac, 0, -1⟩ :: (atomsL g n).drop (i + 1)) s x) := by
          have h9 := far_any_on (a := ⟨ac, 0, -1⟩) rfl rfl HTK.out HFAR.out (by rw [← HPS.out]; exact hfar2)
          have e9 : max far u = x := by rw [← hx]; split <;> omega
          rw [e9] at h9
          exact h9
        have M3 : Hid (Memo t (atomsL g n) B w3) := hm3
        have T3 : Hid (Turn B w w3) := T2.out.trans ht3
        clear C hfar2 hm3 ht3
        go_wp2_with fail
        go_ret
        exact ⟨_, rfl, by rw [HPS.out]; exact FAR.out, M3.out, T3.out⟩
  · have hd : decide (far < (t.size : Int)) = false := decide_eq_false hlt
    have FAR : Hid (Far t (⟨ac, 0, -1⟩ :: (atomsL g n).drop (i + 1)) s far) := by
      show Far t (⟨ac, 0, -1⟩ :: (atomsL g n).drop (i + 1)) s far
      have e9 : far = (t.size : Int) := by omega
      have h9 := HFAR.out
      rw [e9] at h9 ⊢
      exact far_any_full rfl rfl hs h9
    go_wp2_with fail
    go_quiet (fail)
    go_wp2_with fail
    go_ret
    exact ⟨_, rfl, by rw [HPS.out]; exact FAR.out, M1.out.late (below_drewC _ (Below.refl _ _)), T1.out.trans (Turn.of (below_drewC _ (Below.refl _ _)))⟩
end Go.Proofs.Ytfeolbgenpknfaa
