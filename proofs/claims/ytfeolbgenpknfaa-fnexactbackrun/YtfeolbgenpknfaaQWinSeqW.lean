/- What is proved here: the program's windows hands out the windows of a text, one by one, and whether each goes with the cells: its contract; its row's table may be made meanwhile. -/
import Derived.Test.YtfeolbgenpknfaaQLookFW
import Derived.Test.YtfeolbgenpknfaaQWinM
namespace Go.Proofs.Ytfeolbgenpknfaa
open Go.RowKit Go.Shelf

attribute [local go_sem] Oper.semAt_some

set_option maxHeartbeats 1000000 in
/-- windows(r, text): both are boxed; the function value captures the boxes. -/
theorem windows_in (m : Nat) (pr : Addr) (t : ByteArray) (w : World) :
    CallsIn Fence.wide m Try.prog 85 #[.pointer (some pr), .string t] w fun e w' => e = .returned (.func (.func 109) #[] #[.pointer (some ⟨w.heap.size, 0, none⟩), .pointer (some ⟨w.heap.size + 1, 0, none⟩)]) ∧ w' = (w.alloc (.cells #[.pointer (some pr)] 104)).alloc (.cells #[.string t] 9) := by
  refine callsIn_of_wp Try.func85 rfl trivial ?_ rfl
  simp only [Try.ntmps85, List.size_toArray, List.length_cons, List.length_nil, Nat.reduceAdd, Nat.reduceSub, Array.replicate_succ, Array.replicate_zero, List.push_toArray, List.append_toArray, List.nil_append, List.cons_append]
  gi_wp2
  go_ret
  exact ⟨rfl, rfl⟩
theorem slice_piece (t : ByteArray) (a q : Nat) (h : a ≤ q) (hq : q ≤ t.size) (w : World) : (Instr.slice 9 (.string t) (some (.int .i64 (a : Int))) (some (.int .i64 (q : Int))) none).run Try.prog w = .ok (.string (t.extract a q)) w := by
  have h1 : (0 : Int) ≤ (a : Int) := by omega
  have h2 : (a : Int) ≤ (q : Int) := by omega
  have h3 : (q : Int) ≤ (t.size : Int) := by omega
  go_simp
theorem grown_of_below' {w w' : World} {row : Option Nat} (h : Below w.heap.size w w') : w.grownBy w' row := ⟨h.os, h.tape, h.output, h.size, fun k hk _ => h.block k hk⟩
/-- A window's value. -/
def winV (x : Nat × Nat × Nat) : Value := .agg #[.int .i64 (x.1 : Int), .int .i64 (x.2.1 : Int), .int .i64 (x.2.2 : Int)]
set_option maxRecDepth 100000 in
set_option maxHeartbeats 4000000 in
theorem windows1_in (m l b2 b3 B pr br pk : Nat) (sa : Option Addr) (n cap sk lo : Nat) (f : Nat → Cel) (t : ByteArray) (hn : n ≤ 60) (J Jx : List ((Nat × Nat × Nat) × Bool) → World → Prop) (W : World) (hJ : Lets (fun r => r = br) (fun V => Ready V br sa n cap sk lo f) J) (hm : 4 ≤ m) (hn1 : 1 ≤ n) (hsz : ∀ i, i < n → (f i).c.size ≤ 256) (ht : t.size ≤ 8000)
    (hY : ∀ pre x V, J pre V → pre.length < 8001 → YieldAt Fence.wide (m - 1) Try.prog l #[.agg #[.int .i64 (x.1.1 : Int), .int .i64 (x.1.2.1 : Int), .int .i64 (x.1.2.2 : Int)], .bool x.2] V fun e V' =>
      (e = .returned (.bool true) ∧ J (pre ++ [x]) V' ∧ KeptEx (fun k => k = pk) V V' B) ∨ (e = .returned (.bool false) ∧ Jx (pre ++ [x]) V'))
    (h2 : W.cell? ⟨b2, 0, none⟩ = some (.pointer (some ⟨pr, 0, none⟩))) (h3 : W.cell? ⟨b3, 0, none⟩ = some (.string t)) (hb2 : b2 < B ∧ ¬ (b2 = br ∨ b2 = pk)) (hb3 : b3 < B ∧ ¬ (b3 = br ∨ b3 = pk)) (hpr : pr < B ∧ pr < pk) (hB : B ≤ W.heap.size) (hR : BackAt W pr br sa n cap sk lo f) (h0 : J [] W) :
    CallsIn Fence.wide m Try.prog 109 #[.func (.yield l) #[] #[], .pointer (some ⟨b2, 0, none⟩), .pointer (some ⟨b3, 0, none⟩)] W fun e W' => (∃ v, e = .returned v) ∧
      ((∃ ys, (∃ k, LastW n f t hn k ∧ ys = uptoW n f t hn k) ∧ J ys W') ∨ (∃ pre, True ∧ Jx pre W')) := by
  have HY : Hid (∀ pre x V, J pre V → pre.length < 8001 → YieldAt Fence.wide (m - 1) Try.prog l #[.agg #[.int .i64 (x.1.1 : Int), .int .i64 (x.1.2.1 : Int), .int .i64 (x.1.2.2 : Int)], .bool x.2] V fun e V' =>
      (e = .returned (.bool true) ∧ J (pre ++ [x]) V' ∧ KeptEx (fun k => k = pk) V V' B) ∨ (e = .returned (.bool false) ∧ Jx (pre ++ [x]) V')) := hY
  have HJ : Hid (Lets (fun r => r = br) (fun V => Ready V br sa n cap sk lo f) J) := hJ
  have HR : Hid (BackAt W pr br sa n cap sk lo f) := hR
  have H2 : Hid (W.cell? ⟨b2, 0, none⟩ = some (.pointer (some ⟨pr, 0, none⟩))) := h2
  have H3 : Hid (W.cell? ⟨b3, 0, none⟩ = some (.string t)) := h3
  have HBB : Hid ((b2 < B ∧ ¬ (b2 = br ∨ b2 = pk)) ∧ (b3 < B ∧ ¬ (b3 = br ∨ b3 = pk)) ∧ pr < B ∧ B ≤ W.heap.size ∧ br < pr ∧ pr < pk) := ⟨hb2, hb3, hpr.1, hB, hR.ne, hpr.2⟩
  have HEX : Hid (¬ (pr = br ∨ pr = pk) ∧ ∀ b, b < br → ¬ (b = br ∨ b = pk)) := ⟨by have := hR.ne; omega, fun b hb => by have := hR.ne; omega⟩
  have HL : Hid (∀ (u : ByteArray), u.size ≤ 8000 → ∀ V, pr < V.heap.size → BackAt V pr br sa n cap sk lo f → Calls Try.prog 81 #[.pointer (some ⟨pr, 0, none⟩), .string u] V fun e V' => (∃ (lk bd : Nat) (fc : Bool), e = .returned (.agg #[.int .i64 (lk : Int), .int .i64 (bd : Int), .bool fc]) ∧ LookP n f u lk bd fc) ∧ V.grownBy V' (some br) ∧ Ready V' br sa n cap sk lo f) := fun u hu V hV hBV => callsIn_wide.1 (look_in 3 (Nat.le_refl _) pr br sa n cap sk lo f u V hn hsz hu hBV hV)
  have J0 : Hid (J (uptoW n f t hn 0) W) := h0
  have p0 := hR.p0
  have q0 := hR.ready.c0
  clear hJ hY hR h0 hsz hb2 hb3 hpr hB
  refine callsIn_of_wp Try.func109 rfl trivial ?_ rfl
  simp only [Try.ntmps109, List.size_toArray, List.length_cons, List.length_nil, Nat.reduceAdd, Nat.reduceSub, Array.replicate_succ, Array.replicate_zero, List.push_toArray, List.append_toArray, List.nil_append, List.cons_append]
  gi_wp2
  clear p0 q0 h2 h3
  gi_loopw [5, 6, 7] (fun av _ _ wr => ∃ k : Nat, av = .int .i64 ((posW n f t hn k : Nat) : Int) ∧ (∀ i, i < k → posW n f t hn i + n ≤ t.size) ∧ J (uptoW n f t hn k) wr ∧ KeptEx (fun k => k = br ∨ k = pk) W wr B ∧ Ready wr br sa n cap sk lo f) (fun av _ _ _ => t.size + 1 - (intOf av).toNat)
  case atStart => exact ⟨0, rfl, fun i hi => absurd hi (Nat.not_lt_zero _), J0.out, KeptEx.refl _ _ _, HR.out.ready⟩
  case round =>
    obtain ⟨k, rfl, hall, hJs, hkept, hready⟩ := hrel
    have JS : Hid (J (uptoW n f t hn k) wr) := hJs
    have HK : Hid (KeptEx (fun k => k = br ∨ k = pk) W wr B) := hkept
    have HRD : Hid (Ready wr br sa n cap sk lo f) := hready
    have HA : Hid (∀ i, i < k → posW n f t hn i + n ≤ t.size) := hall
    have c2 : wr.cell? ⟨b2, 0, none⟩ = some (.pointer (some ⟨pr, 0, none⟩)) := by rw [hkept.cell HBB.out.1.1 HBB.out.1.2]; exact H2.out
    have c3 : wr.cell? ⟨b3, 0, none⟩ = some (.string t) := by rw [hkept.cell HBB.out.2.1.1 HBB.out.2.1.2]; exact H3.out
    have BA := HR.out.later hkept hready HBB.out.2.2.1 HEX.out
    have HBA : Hid (BackAt wr pr br sa n cap sk lo f) := BA
    obtain ⟨a, ha⟩ : ∃ a, posW n f t hn k = a := ⟨_, rfl⟩
    have HPA : Hid (posW n f t hn k = a) := ha
    rw [ha]
    have hka : k ≤ a := by rw [← ha]; exact posW_ge hn1 k
    have hat : a ≤ t.size := by rw [← ha]; exact posW_le hall
    clear hJs hkept hready hall BA ha
    obtain ⟨q, hq⟩ : ∃ q, a + n = q := ⟨_, rfl⟩
    have HQ : Hid (a + n = q) := hq
    have hqi : (a : Int) + (n : Int) = (q : Int) := by omega
    have ha0 : (0 : Int) ≤ (a : Int) := by omega
    have hwq : IntKind.i64.wrap (q : Int) = (q : Int) := by rw [IntKind.wrap_i64] <;> omega
    by_cases hql : q ≤ t.size
    · have hqt : (q : Int) ≤ (t.size : Int) := by omega
      have hsl := slice_piece t a q (by omega) hql
      clear hq
      gi_wp2
      refine wpIn_wide.2 ?_
      have hzs : (t.extract a q).size ≤ 8000 := by rw [cut_size hql]; omega
      have hbr := HBB.out
      have hdl : wr.heap.size ≤ wr.drew.heap.size := Nat.le_refl _
      have hwl : br < wr.heap.size := HRD.out.cells.2.2
      have hprl : pr < wr.heap.size := Nat.lt_of_lt_of_le HBB.out.2.2.1 (Nat.le_trans HBB.out.2.2.2.1 HK.out.size)
      have k0 : Below wr.heap.size wr wr.drew := (Below.refl wr.heap.size wr).drew
      have k1 : Below wr.heap.size wr (wr.alloc (.cells #[.int .i64 0, .int .i64 0, .bool false] 107)).drew := ((Below.refl wr.heap.size wr).alloc (Nat.le_refl _) _).drew
      have BD0 : BackAt wr.drew pr br sa n cap sk lo f := HBA.out.later (ex := fun _ => False) (KeptEx.below k0) (HRD.out.kept k0 hwl) hprl ⟨id, fun _ _ => id⟩
      have BD1 : BackAt (wr.alloc (.cells #[.int .i64 0, .int .i64 0, .bool false] 107)).drew pr br sa n cap sk lo f := HBA.out.later (ex := fun _ => False) (KeptEx.below k1) (HRD.out.kept k1 hwl) hprl ⟨id, fun _ _ => id⟩
      have L0 : pr < wr.drew.heap.size := hprl
      have L1 : pr < (wr.alloc (.cells #[.int .i64 0, .int .i64 0, .bool false] 107)).drew.heap.size := Nat.lt_of_lt_of_le hprl k1.size
      have HG : Hid (∀ V U, Below wr.heap.size wr V → V.grownBy U (some br) → wr.grownBy U (some br)) := fun V U h1 h2 => (grown_of_below' h1).trans h2
      have HS6 : Hid (∀ U, (wr.alloc (.cells #[.int .i64 0, .int .i64 0, .bool false] 107)).drew.grownBy U (some br) → SightAt U wr.heap.size 0 0 false) := fun U hU => (sight_new wr 0 0 false 107).sameB hU.size (hU.block _ (by show _ < (wr.alloc _).heap.size; simp) (fun e => by injection e with e; omega))
      have HBD : Hid (BackAt wr.drew pr br sa n cap sk lo f ∧ BackAt (wr.alloc (.cells #[.int .i64 0, .int .i64 0, .bool false] 107)).drew pr br sa n cap sk lo f ∧ pr < wr.drew.heap.size ∧ pr < (wr.alloc (.cells #[.int .i64 0, .int .i64 0, .bool false] 107)).drew.heap.size ∧ Below wr.heap.size wr wr.drew ∧ Below wr.heap.size wr (wr.alloc (.cells #[.int .i64 0, .int .i64 0, .bool false] 107)).drew) := ⟨BD0, BD1, L0, L1, k0, k1⟩
      clear BD0 BD1 L0 L1 k0 k1 hdl hbr
      have n2 := World.new_ne wr _ c2
      have n3 := World.new_ne wr _ c3
      go_region_held3 (fun V => V.cell? ⟨b2, 0, none⟩ = some (.pointer (some ⟨pr, 0, none⟩)) ∧ V.cell? ⟨b3, 0, none⟩ = some (.string t)) (go_keep) (first | (go_at_call 81; (with_reducible refine (HL.out (t.extract a q) hzs _ (by first | exact HBD.out.2.2.1 | exact HBD.out.2.2.2.1) (by first | exact HBD.out.1 | exact HBD.out.2.1)).mono ?_); rintro e w1 ⟨⟨lk, bd, fc, rfl, hlk⟩, hg, hrd⟩; have E1 : Hid (wr.grownBy w1 (some br) ∧ Ready w1 br sa n cap sk lo f ∧ LookP n f (t.extract a q) lk bd fc) := ⟨(by first | exact HG.out _ _ HBD.out.2.2.2.2.1 hg | exact HG.out _ _ HBD.out.2.2.2.2.2 hg), hrd, hlk⟩; (try have s6 := HS6.out w1 hg); (try have z0 := s6.c0); (try have z1 := s6.c1); (try have z2 := s6.c2); (try have y0 := s6.f 0); (try have y1 := s6.f 1); (try have y2 := s6.f 2); (try have yl := s6.lt); have d2 : w1.cell? ⟨b2, 0, none⟩ = some (.pointer (some ⟨pr, 0, none⟩)) := (by rw [(KeptEx.grown (B := B) (ex := fun k => k = br ∨ k = pk) E1.out.1 (Nat.le_trans HBB.out.2.2.2.1 HK.out.size) (Or.inl rfl)).cell HBB.out.1.1 HBB.out.1.2, HK.out.cell HBB.out.1.1 HBB.out.1.2]; exact H2.out); have d3 : w1.cell? ⟨b3, 0, none⟩ = some (.string t) := (by rw [(KeptEx.grown (B := B) (ex := fun k => k = br ∨ k = pk) E1.out.1 (Nat.le_trans HBB.out.2.2.2.1 HK.out.size) (Or.inl rfl)).cell HBB.out.2.1.1 HBB.out.2.1.2, HK.out.cell HBB.out.2.1.1 HBB.out.2.1.2]; exact H3.out); have m2 := World.new_ne w1 _ d2; have m3 := World.new_ne w1 _ d3; clear hg hrd hlk))
      all_goals
        have FIN : ∀ (U : World), wr.grownBy U (some br) → Ready U br sa n cap sk lo f → J (uptoW n f t hn k) U ∧ KeptEx (fun k => k = br ∨ k = pk) W U B ∧ Ready U br sa n cap sk lo f := fun U hg hr => ⟨HJ.out _ _ _ _ JS.out hg (fun r e => by injection e with e; exact e.symm) hr, HK.out.trans (KeptEx.grown hg (Nat.le_trans HBB.out.2.2.2.1 HK.out.size) (Or.inl rfl)), hr⟩
        have HE1 := E1.out
        first
          | (obtain ⟨U, hU, hsight, hgU, hrU⟩ : ∃ U : World, ((w1.setCell ⟨wr.heap.size, 0, none⟩ (.int .i64 (lk : Int))).setCell ⟨wr.heap.size, 1, none⟩ (.int .i64 (bd : Int))).setCell ⟨wr.heap.size, 2, none⟩ (.bool fc) = U ∧ SightAt U wr.heap.size lk bd fc ∧ wr.grownBy U (some br) ∧ Ready U br sa n cap sk lo f := ⟨_, rfl, ((s6.set0 lk).set1 bd).set2 fc, ⟨HE1.1.os, HE1.1.tape, HE1.1.output, by simp [World.setCell]; exact HE1.1.size, fun i hi hne => ((((kept_set (B := wr.heap.size)).trans kept_set).trans kept_set).block i hi (by omega)).trans (HE1.1.block i hi hne)⟩, HE1.2.1.keptEx (((kept_set (B := wr.heap.size)).trans kept_set).trans kept_set) hwl (by omega)⟩
             rw [hU]
             obtain ⟨p6, hp6⟩ : ∃ p6, wr.heap.size = p6 := ⟨_, rfl⟩
             rw [hp6] at hsight ⊢)
          | (obtain ⟨U, hU, hsight, hgU, hrU⟩ : ∃ U : World, w1.alloc (.cells #[.int .i64 (lk : Int), .int .i64 (bd : Int), .bool fc] 107) = U ∧ SightAt U w1.heap.size lk bd fc ∧ wr.grownBy U (some br) ∧ Ready U br sa n cap sk lo f := ⟨_, rfl, sight_new w1 lk bd fc _, HE1.1.trans (World.grownBy_alloc w1 _ _), HE1.2.1.kept ((Below.refl w1.heap.size w1).alloc (Nat.le_refl _) _) HE1.2.1.cells.2.2⟩
             rw [hU]
             obtain ⟨p6, hp6⟩ : ∃ p6, w1.heap.size = p6 := ⟨_, rfl⟩
             rw [hp6] at hsight ⊢)
        have HU6 : Hid (J (uptoW n f t hn k) U ∧ KeptEx (fun k => k = br ∨ k = pk) W U B ∧ Ready U br sa n cap sk lo f) := FIN U hgU hrU
        have HLK : Hid (LookP n f (t.extract a q) lk bd fc) := HE1.2.2
        have t0 := hsight.c0
        have t1 := hsight.c1
        have t2 := hsight.c2
        clear hU hp6 hsight hgU hrU HE1 FIN E1
        clear d2 d3
        have hbdn : bd < n := by
          rcases HLK.out.bd.1 with h9 | h9
          · omega
          · exact h9.1
        obtain ⟨sft, hs⟩ : ∃ sft, n - bd = sft := ⟨_, rfl⟩
        have hsi : (n : Int) - (bd : Int) = (sft : Int) := by omega
        have hs1 : 1 ≤ sft := by omega
        have hs2 : sft ≤ 60 := by omega
        have HWIN : Hid (winW n f t hn k = ((a, lk, sft), fc) ∧ posW n f t hn (k + 1) = a + sft) := by
          have hpc : pieceT n t a = t.extract a q := by unfold pieceT; rw [HQ.out]
          obtain ⟨e1, e2, e3⟩ := look_one (lookN f (t.extract a q) hn) HLK.out
          refine ⟨?_, ?_⟩
          · unfold winW
            rw [HPA.out, hpc, e1, e2, e3, hs]
          · show posW n f t hn k + (n - bdN n f (pieceT n t (posW n f t hn k)) hn) = _
            rw [HPA.out, hpc, e2, hs]
        clear hs
        have hlen : (uptoW n f t hn k).length < 8001 := by rw [uptoW_len]; omega
        obtain ⟨fn, tmps, assign, body, hyl2, hRd⟩ := HY.out (uptoW n f t hn k) ((a, lk, sft), fc) U HU6.out.1 hlen
        have HRR : Hid (RoundIn Fence.wide (m - 1) Try.prog l fn tmps assign body U fun e V' =>
          (e = .returned (.bool true) ∧ J (uptoW n f t hn k ++ [((a, lk, sft), fc)]) V' ∧ KeptEx (fun k => k = pk) U V' B) ∨ (e = .returned (.bool false) ∧ Jx (uptoW n f t hn k ++ [((a, lk, sft), fc)]) V')) := hRd
        clear hRd hlen
        dsimp only at hyl2
        have hm1 : 1 ≤ m := by omega
        gi_wp2
        refine HRR.out.mono ?_
        rintro e V (⟨rfl, hJ3, hk3⟩ | ⟨rfl, hJx3⟩)
        · have J3 : Hid (J (uptoW n f t hn (k + 1)) V ∧ KeptEx (fun k => k = br ∨ k = pk) W V B ∧ Ready V br sa n cap sk lo f) := ⟨by rw [uptoW_succ, HWIN.out.1]; exact hJ3, HU6.out.2.1.trans (hk3.mono (fun k e => Or.inr e)), HU6.out.2.2.keptEx hk3 (by have := HBB.out; omega) (by have := HBB.out; omega)⟩
          clear hJ3 hk3 hyl2
          gi_wp2
          go_roundw
          case rel => exact ⟨k + 1, by rw [HWIN.out.2]; go_num, fun i hi => by
            by_cases e : i = k
            · rw [e, HPA.out, HQ.out]; exact hql
            · exact HA.out i (by omega), J3.out.1, J3.out.2.1, J3.out.2.2⟩
          case measure => have := HQ.out; simp [intOf]; omega
        · have J3 : Hid (Jx (uptoW n f t hn k ++ [((a, lk, sft), fc)]) V) := hJx3
          clear hJx3 hyl2
          gi_wp2
          refine bodyPost_ret (results_none rfl _ _ _) rfl ?_
          first | exact ⟨⟨_, rfl⟩, .inr ⟨_, trivial, J3.out⟩⟩ | exact ⟨⟨_, rfl⟩, .inr ⟨_, J3.out⟩⟩
    · have hqt : ¬ (q : Int) ≤ (t.size : Int) := by omega
      have HLAST : Hid (LastW n f t hn k) := ⟨HA.out, by rw [HPA.out, HQ.out]; exact hql⟩
      clear hq
      gi_wp2
      go_end0
      first | exact ⟨⟨_, rfl⟩, .inl ⟨_, ⟨k, HLAST.out, rfl⟩, JS.out⟩⟩ | exact ⟨⟨_, rfl⟩, .inl ⟨k, HLAST.out, JS.out⟩⟩
/-- windows' contract. -/
theorem windows_turns (m b2 b3 B pr br pk : Nat) (sa : Option Addr) (n cap sk lo : Nat) (f : Nat → Cel) (t : ByteArray) (hn : n ≤ 60) (w : World) (hm : 4 ≤ m) (hn1 : 1 ≤ n) (hsz : ∀ i, i < n → (f i).c.size ≤ 256) (ht : t.size ≤ 8000)
    (h2 : w.cell? ⟨b2, 0, none⟩ = some (.pointer (some ⟨pr, 0, none⟩))) (h3 : w.cell? ⟨b3, 0, none⟩ = some (.string t)) (hb2 : b2 < B ∧ ¬ (b2 = br ∨ b2 = pk)) (hb3 : b3 < B ∧ ¬ (b3 = br ∨ b3 = pk)) (hpr : pr < B ∧ pr < pk) (hB : B ≤ w.heap.size) (hR : BackAt w pr br sa n cap sk lo f) :
    SeqTurns Fence.wide m Try.prog 109 #[.pointer (some ⟨b2, 0, none⟩), .pointer (some ⟨b3, 0, none⟩)] (fun x : (Nat × Nat × Nat) × Bool => #[Value.agg #[.int .i64 (x.1.1 : Int), .int .i64 (x.1.2.1 : Int), .int .i64 (x.1.2.2 : Int)], .bool x.2]) (fun V V' => KeptEx (fun k => k = pk) V V' B) (fun r => r = br) (fun V => Ready V br sa n cap sk lo f) (fun ys => ∃ k, LastW n f t hn k ∧ ys = uptoW n f t hn k) (fun _ => True) 8001 w := fun l J Jx W hW hJ _ hY h0 => by
  have hk : KeptEx (fun k => k = br ∨ k = pk) w W B := KeptEx.below (hW.mono hB)
  have hne := hR.ne
  exact windows1_in m l b2 b3 B pr br pk sa n cap sk lo f t hn J Jx W hJ hm hn1 hsz ht hY (by rw [hk.cell hb2.1 hb2.2]; exact h2) (by rw [hk.cell hb3.1 hb3.2]; exact h3) hb2 hb3 hpr (Nat.le_trans hB hW.size) (hR.later hk (hR.ready.kept (hW.mono hB) (by omega)) hpr.1 ⟨by omega, fun b hb => by omega⟩) h0
end Go.Proofs.Ytfeolbgenpknfaa
