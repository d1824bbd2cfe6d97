/- What is proved here: the program's furthest says how far one gets, where those that it asks do; but for the map nothing that was there turns. -/
import Derived.Test.YtfeolbgenpknfaaQSomeOnW
import Derived.Test.YtfeolbgenpknfaaQAnyOnW
namespace Go.Proofs.Ytfeolbgenpknfaa
open Go.RowKit Go.Maps

theorem Try.intZero (w : World) : (zeroValue 3).run Try.prog w = .ok (.int .i64 0) w := by kernel_rfl
theorem ownAtom {W : World} {B n i : Nat} {sa : Option Addr} {g : Nat → Atm} (h : ARow W B sa n g) (hi : i < n) : ∃ bb off : Nat, sa = some ⟨bb, off, none⟩ ∧ bb < B ∧ AtomAt W bb (off + i * 3) (g i) := by
  rcases h with h0 | ⟨bb, off, hsa, hbb, hcel⟩
  · omega
  · exact ⟨bb, off, hsa, hbb, hcel i hi⟩
set_option maxRecDepth 100000 in
set_option maxHeartbeats 4000000 in
theorem fur_step (sa : Option Addr) (n cap : Nat) (t : ByteArray) (g : Nat → Atm) (B i s : Nat) (hn : n ≤ 40) (hin : i ≤ n) (ht : t.size ≤ 8000) (hs : s ≤ t.size) (hP : ∀ j, j < n → Parted (g j))
    (ih1 : i < n → ∀ k : Nat, s + k ≤ t.size → FurC sa n cap t g B (i + 1) (s + k)) (ih2 : i < n → takesB t (g i).c s = true → FurC sa n cap t g B i (s + 1)) : FurC sa n cap t g B i s := by
  intro w hM hR
  have HB := hM.lt
  have bt := below_two w (.cells #[.slice sa n cap, .string t, .map (some B)] 73) (.cells #[.int .i64 (i : Int), .int .i64 (s : Int)] 129)
  have tw := two_new w sa n cap t B i s HB 73 129
  have HT1 : Hid (Turn B w ((w.alloc (.cells #[.slice sa n cap, .string t, .map (some B)] 73)).alloc (.cells #[.int .i64 (i : Int), .int .i64 (s : Int)] 129))) := Turn.of (B := B) bt
  have HM1 : Hid (Memo t (atomsL g n) B ((w.alloc (.cells #[.slice sa n cap, .string t, .map (some B)] 73)).alloc (.cells #[.int .i64 (i : Int), .int .i64 (s : Int)] 129))) := hM.late bt
  have HR1 : Hid (ARow ((w.alloc (.cells #[.slice sa n cap, .string t, .map (some B)] 73)).alloc (.cells #[.int .i64 (i : Int), .int .i64 (s : Int)] 129)) B sa n g) := hR.turn HT1.out HB
  have HTW : Hid (Two ((w.alloc (.cells #[.slice sa n cap, .string t, .map (some B)] 73)).alloc (.cells #[.int .i64 (i : Int), .int .i64 (s : Int)] 129)) w.heap.size (w.heap.size + 1) sa n cap t B i s) := tw
  clear hM hR bt tw
  by_cases hie : i = n
  · subst hie
    have hib : ((i : Int) == (i : Int)) = true := by simp
    go_enter Try.func95, Try.ntmps95
    go_wp2_with fail
    go_ret
    refine ⟨_, rfl, ?_, HM1.out, HT1.out⟩
    rw [List.drop_eq_nil_of_le (by rw [atomsL_len]; omega)]
    exact far_nil t s
  have hi : i < n := by omega
  have hib : ((i : Int) == (n : Int)) = false := by simp; omega
  have hii : (i : Int) < (n : Int) := by omega
  have hi0 : (0 : Int) ≤ (i : Int) := by omega
  obtain ⟨⟨ac, al, am⟩, ha⟩ : ∃ a, g i = a := ⟨_, rfl⟩
  have hp := hP i hi
  rw [ha] at hp
  obtain ⟨hp1, hp2, hp3⟩ := hp
  simp only at hp1 hp2 hp3
  have HG : Hid (g i = ⟨ac, al, am⟩) := ha
  obtain ⟨bb, off, rfl, hbb, hat⟩ := ownAtom HR1.out hi
  rw [ha] at hat
  obtain ⟨c0, c1, c2⟩ := hat
  simp only at c0 c1 c2
  have CS : Hid (al ≤ am → am ≤ 20 → ∀ W, Memo t (atomsL g n) B W → ARow W B (some ⟨bb, off, none⟩) n g → Calls Try.prog 112 #[.agg #[.slice (some ⟨bb, off, none⟩) n cap, .string t, .map (some B)], .agg #[.int .i64 (i : Int), .int .i64 (s : Int)]] W fun e w' => ∃ v : Int, e = .returned (.int .i64 v) ∧ Far t ((atomsL g n).drop i) s v ∧ Memo t (atomsL g n) B w' ∧ Turn B W w') :=
    fun h1 h2 (W : World) hM hR => someOn_any (some ⟨bb, off, none⟩) n cap t g B i s W hn hi ht hs (by rw [HG.out]; exact hp1) (by rw [HG.out]; exact h1) (by rw [HG.out]; exact h2) (ih1 hi) hM hR
  have ih0 : FurC (some ⟨bb, off, none⟩) n cap t g B (i + 1) s := by
    have h9 := ih1 hi 0 (by omega)
    rw [Nat.add_zero] at h9
    exact h9
  have CA : Hid (al = 0 → am = -1 → ∀ W, Memo t (atomsL g n) B W → ARow W B (some ⟨bb, off, none⟩) n g → Calls Try.prog 113 #[.agg #[.slice (some ⟨bb, off, none⟩) n cap, .string t, .map (some B)], .agg #[.int .i64 (i : Int), .int .i64 (s : Int)]] W fun e w' => ∃ v : Int, e = .returned (.int .i64 v) ∧ Far t ((atomsL g n).drop i) s v ∧ Memo t (atomsL g n) B w' ∧ Turn B W w') :=
    fun h1 h2 (W : World) hM hR => anyOn_any (some ⟨bb, off, none⟩) n cap t g B i s W hn hi ht hs (by rw [HG.out]; exact h1) (by rw [HG.out]; exact h2) ih0 (ih2 hi) hM hR
  have BX : Hid (∀ W : World, Below W.heap.size W (W.alloc (.cells #[.string ac, .int .i64 al, .int .i64 am] 89))) := fun W => (Below.refl _ _).alloc (Nat.le_refl _) _
  clear ih0 ih1 ih2 ha hP
  have th := HTW.out.three HM1.out.lt ⟨ac, al, am⟩ 89
  simp only at th
  have hsz : ((w.alloc (.cells #[.slice (some ⟨bb, off, none⟩) n cap, .string t, .map (some B)] 73)).alloc (.cells #[.int .i64 (i : Int), .int .i64 (s : Int)] 129)).heap.size = w.heap.size + 1 + 1 := by simp
  obtain ⟨m0, m1, m2, q0, q1, _, _, _, _⟩ := HTW.out
  rw [hsz] at th
  have T2 := HT1.out.trans (Turn.of (B := B) (BX.out _))
  have M2 := HM1.out.late (BX.out _)
  have R2 := HR1.out.turn (Turn.of (BX.out _)) HM1.out.lt
  clear hsz m0 m1 m2 q0 q1
  go_enter Try.func95, Try.ntmps95
  go_upto_region 4 with fail
  generalize (((w.alloc (.cells #[.slice (some ⟨bb, off, none⟩) n cap, .string t, .map (some B)] 73)).alloc (.cells #[.int .i64 (i : Int), .int .i64 (s : Int)] 129)).alloc (.cells #[.string ac, .int .i64 al, .int .i64 am] 89)) = v at *
  clear HTW HT1 HM1 HR1 c0 c1 c2 HB
  generalize w.heap.size = p at *
  have HV : Hid (Three v p (p + 1) (p + 1 + 1) (some ⟨bb, off, none⟩) n cap t B i s ⟨ac, al, am⟩) := th
  have HT2 : Hid (Turn B w v) := T2
  have HM2 : Hid (Memo t (atomsL g n) B v) := M2
  have HR2 : Hid (ARow v B (some ⟨bb, off, none⟩) n g) := R2
  have HBv := M2.lt
  obtain ⟨m0, m1, m2, q0, q1, a0, a1, a2, lp, lq, lr, np, nq, nr⟩ := th
  simp only at a0 a1 a2
  clear T2 M2 R2
  by_cases hlm : al = am
  · have hlb : (al == am) = true := by simpa using hlm
    have C := CS.out (by omega) (by omega) v HM2.out HR2.out
    clear CS CA
    go_wp2_with fail
    refine C.mono ?_
    rintro e w1 ⟨u, rfl, hfar, hm1, ht1⟩
    have T1 : Hid (Turn B w w1) := HT2.out.trans ht1
    have M1 : Hid (Memo t (atomsL g n) B w1) := hm1
    have F1 : Hid (Far t ((atomsL g n).drop i) s u) := hfar
    clear C hfar hm1 ht1
    go_wp2_with fail
    go_ret
    exact ⟨_, rfl, F1.out, M1.out, T1.out⟩
  have hlb : (al == am) = false := by simpa using hlm
  obtain ⟨D, hown, hD⟩ := HM2.out.ex
  have HKEY : keyOf Try.prog 129 (.agg #[.int .i64 (i : Int), .int .i64 (s : Int)]) = some (askL (i : Int) (s : Int)) := ask_key (wf_nat (by omega)) (wf_nat (by omega))
  cases hhas : Maps.has D (askL (i : Int) (s : Int)) with
  | true =>
    obtain ⟨u, hu, hfar⟩ := hD i s (by omega) (by omega) hhas
    have HF : Hid (Far t ((atomsL g n).drop i) s u) := hfar
    clear hfar CS CA hD
    go_wp2_with (first | (at_lookup; refine wpList_lookup_own_ok_int _ rfl _ _ 71 rfl 129 3 .i64 askLaw Try.underlying71 Try.underlying3 (Try.intZero _) B (cntTo (knownAt D) 1000000) D rfl hown _ _ rfl HKEY ?_; intro c hat hwc))
    go_ret
    rw [hu] at hat
    injection hat with hat
    injection hat with _ hat
    subst hat
    exact ⟨_, rfl, HF.out, HM2.out, HT2.out⟩
  | false =>
    by_cases hop : am = -1
    · have hob : (am == -1) = true := by simpa using hop
      have C := CA.out (by omega) hop v HM2.out HR2.out
      clear CS CA
      go_wp2_with (first | (at_lookup; refine wpList_lookup_own_ok_int _ rfl _ _ 71 rfl 129 3 .i64 askLaw Try.underlying71 Try.underlying3 (Try.intZero _) B (cntTo (knownAt D) 1000000) D rfl hown _ _ rfl HKEY ?_; intro c hat hwc))
      clear hown hD
      go_wp2_with fail
      refine C.mono ?_
      rintro e w1 ⟨u, rfl, hfar, hm1, ht1⟩
      have hbd := Far.bd hfar hs
      have T1 : Hid (Turn B w w1) := HT2.out.trans ht1
      have F1 : Hid (Far t ((atomsL g n).drop i) s u) := hfar
      obtain ⟨D2, hown2, hD2⟩ := hm1.ex
      have HD2 : Hid (∀ i s : Nat, i < 100 → s < 10000 → Maps.has D2 (askL (i : Int) (s : Int)) = true → ∃ v : Int, D2.atKey (askL (i : Int) (s : Int)) (.lit (.int .i64 0)) = .lit (.int .i64 v) ∧ Far t ((atomsL g n).drop i) s v) := hD2
      clear m0 m1 m2 q0 q1 a0 a1 a2 lp lq lr np nq nr
      obtain ⟨m0, m1, m2, q0, q1, a0, a1, a2, lp, lq, lr, np, nq, nr⟩ := HV.out.turn ht1
      simp only at a0 a1 a2
      have HVAL : plainElem (H := Unit) Try.prog 3 (.int .i64 u) = some (.lit (.int .i64 u), []) := plainElem_int Try.underlying3 (WalkArith.wf_i64 (by omega))
      clear C hfar hm1 ht1 hD2 hat hwc hhas
      go_wp2_with (first | (at_mapUpdate; refine wpList_mapUpdate_own _ rfl _ _ _ 71 rfl 129 3 askLaw Try.underlying71 _ B (cntTo (knownAt D2) 1000000) D2 rfl hown2 (Memo.cnt D2) _ _ (askL (i : Int) (s : Int)) rfl rfl HKEY (.lit (.int .i64 u)) [] HVAL ?_; intro w2 hown3 hgrow3; have M3 : Hid (Memo t (atomsL g n) B w2) := memo_put_any (by omega) (by omega) HD2.out hown2 F1.out hown3; have T3 : Hid (Turn B w w2) := T1.out.trans ⟨hgrow3⟩; clear hown3 hgrow3))
      go_ret
      exact ⟨_, rfl, F1.out, M3.out, T3.out⟩
    · have hob : (am == -1) = false := by simpa using hop
      have C := CS.out (by omega) (by omega) v HM2.out HR2.out
      clear CS CA
      go_wp2_with (first | (at_lookup; refine wpList_lookup_own_ok_int _ rfl _ _ 71 rfl 129 3 .i64 askLaw Try.underlying71 Try.underlying3 (Try.intZero _) B (cntTo (knownAt D) 1000000) D rfl hown _ _ rfl HKEY ?_; intro c hat hwc))
      clear hown hD
      go_wp2_with fail
      refine C.mono ?_
      rintro e w1 ⟨u, rfl, hfar, hm1, ht1⟩
      have hbd := Far.bd hfar hs
      have T1 : Hid (Turn B w w1) := HT2.out.trans ht1
      have F1 : Hid (Far t ((atomsL g n).drop i) s u) := hfar
      obtain ⟨D2, hown2, hD2⟩ := hm1.ex
      have HD2 : Hid (∀ i s : Nat, i < 100 → s < 10000 → Maps.has D2 (askL (i : Int) (s : Int)) = true → ∃ v : Int, D2.atKey (askL (i : Int) (s : Int)) (.lit (.int .i64 0)) = .lit (.int .i64 v) ∧ Far t ((atomsL g n).drop i) s v) := hD2
      clear m0 m1 m2 q0 q1 a0 a1 a2 lp lq lr np nq nr
      obtain ⟨m0, m1, m2, q0, q1, a0, a1, a2, lp, lq, lr, np, nq, nr⟩ := HV.out.turn ht1
      simp only at a0 a1 a2
      have HVAL : plainElem (H := Unit) Try.prog 3 (.int .i64 u) = some (.lit (.int .i64 u), []) := plainElem_int Try.underlying3 (WalkArith.wf_i64 (by omega))
      clear C hfar hm1 ht1 hD2 hat hwc hhas
      go_wp2_with (first | (at_mapUpdate; refine wpList_mapUpdate_own _ rfl _ _ _ 71 rfl 129 3 askLaw Try.underlying71 _ B (cntTo (knownAt D2) 1000000) D2 rfl hown2 (Memo.cnt D2) _ _ (askL (i : Int) (s : Int)) rfl rfl HKEY (.lit (.int .i64 u)) [] HVAL ?_; intro w2 hown3 hgrow3; have M3 : Hid (Memo t (atomsL g n) B w2) := memo_put_any (by omega) (by omega) HD2.out hown2 F1.out hown3; have T3 : Hid (Turn B w w2) := T1.out.trans ⟨hgrow3⟩; clear hown3 hgrow3))
      go_ret
      exact ⟨_, rfl, F1.out, M3.out, T3.out⟩

set_option maxRecDepth 100000 in
/-- From every place on the program says how far one gets. -/
theorem fur_all (sa : Option Addr) (n cap : Nat) (t : ByteArray) (g : Nat → Atm) (B : Nat) (hn : n ≤ 40) (ht : t.size ≤ 8000) (hP : ∀ j, j < n → Parted (g j)) : ∀ (d i s : Nat), (n - i) * 10000 + (t.size - s) ≤ d → i ≤ n → s ≤ t.size → FurC sa n cap t g B i s := by
  intro d
  induction d with
  | zero =>
    intro i s hd hi hs
    have h1 : ¬ i < n := fun h => by
      have : 1 * 10000 ≤ (n - i) * 10000 := Nat.mul_le_mul_right _ (by omega)
      omega
    exact fur_step sa n cap t g B i s hn hi ht hs hP (fun h => absurd h h1) (fun h => absurd h h1)
  | succ d ih =>
    intro i s hd hi hs
    refine fur_step sa n cap t g B i s hn hi ht hs hP (fun h k hk => ?_) (fun h htk => ?_)
    · refine ih (i + 1) (s + k) ?_ (by omega) hk
      obtain ⟨x, hx⟩ : ∃ x, n - (i + 1) = x := ⟨_, rfl⟩
      have hx2 : n - i = x + 1 := by omega
      rw [hx2] at hd
      rw [hx]
      omega
    · have := takesB_lt htk
      exact ih i (s + 1) (by omega) hi (by omega)
end Go.Proofs.Ytfeolbgenpknfaa
