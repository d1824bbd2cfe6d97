/- What is proved here: the program's fromBehind hands out, one by one, how many bytes of a piece were looked at and the places from which on the cells go with these: its contract; its row's table may be made meanwhile.
   What is said here: what is seen of a piece from behind, told from what comes byte by byte: plain mathematics. -/
import Derived.Test.YtfeolbgenpknfaaGreatQStartMToTurnSeqM
import Derived.Test.YtfeolbgenpknfaaGreatQBehMToBehindW
import Derived.Test.YtfeolbgenpknfaaGreatQFillWToOnceW
import Derived.RegionCalls
import Derived.Deep.RegionWith
import Derived.Deep.RegionHeld3
import Derived.Shelf.Abstract
import Derived.Shelf.RegionOpen
import Derived.WalkKit
import Derived.OwnWalkIn
import Derived.TacticsInMore
import Derived.LoopNIn
import Derived.LoopIn
namespace Go.Proofs.YtfeolbgenpknfaaGreat
open Go.RowKit Go.Shelf

attribute [local go_sem] Oper.semAt_some

/-- What lies below a border stays, but for some blocks. -/
structure KeptEx (ex : Nat → Prop) (W W' : World) (B : Nat) : Prop where
  size : W.heap.size ≤ W'.heap.size
  block : ∀ k, k < B → ¬ ex k → W'.heap[k]? = W.heap[k]?
theorem KeptEx.refl (ex : Nat → Prop) (W : World) (B : Nat) : KeptEx ex W W B := ⟨Nat.le_refl _, fun _ _ _ => rfl⟩
theorem KeptEx.trans {ex : Nat → Prop} {W V U : World} {B : Nat} (h : KeptEx ex W V B) (k : KeptEx ex V U B) : KeptEx ex W U B := ⟨Nat.le_trans h.size k.size, fun i h1 h2 => (k.block i h1 h2).trans (h.block i h1 h2)⟩
theorem KeptEx.mono {ex ex' : Nat → Prop} {W V : World} {B : Nat} (h : KeptEx ex W V B) (hm : ∀ k, ex k → ex' k) : KeptEx ex' W V B := ⟨h.size, fun i h1 h2 => h.block i h1 (fun e => h2 (hm i e))⟩
theorem KeptEx.below {ex : Nat → Prop} {W V : World} {B : Nat} (h : Below B W V) : KeptEx ex W V B := ⟨h.size, fun k hk _ => h.block k hk⟩
theorem KeptEx.grown {ex : Nat → Prop} {W V : World} {B br : Nat} (h : W.grownBy V (some br)) (hB : B ≤ W.heap.size) (he : ex br) : KeptEx ex W V B := ⟨h.size, fun k hk hne => h.block k (by omega) (fun e => hne (by injection e with e; rw [e]; exact he))⟩
theorem KeptEx.cell {ex : Nat → Prop} {W V : World} {B b o : Nat} (h : KeptEx ex W V B) (hb : b < B) (hne : ¬ ex b) : V.cell? ⟨b, o, none⟩ = W.cell? ⟨b, o, none⟩ := by simp [World.cell?, h.block b hb hne]
theorem KRow.sameB {W W' : World} {b : Nat} {sa : Option Addr} {n cap sk lo : Nat} {d u : Int} {tab : Nat → Nat} (h : KRow W b sa n cap sk lo d u tab) (hs : W.heap.size ≤ W'.heap.size) (hb : W'.heap[b]? = W.heap[b]?) : KRow W' b sa n cap sk lo d u tab := by
  have hc : ∀ o, W'.cell? ⟨b, o, none⟩ = W.cell? ⟨b, o, none⟩ := fun o => by simp [World.cell?, hb]
  have hf : ∀ o, W'.frozen? ⟨b, o, none⟩ = W.frozen? ⟨b, o, none⟩ := fun o => by simp [World.frozen?, hb]
  exact ⟨(hc _).trans h.c0, (hc _).trans h.c1, (hc _).trans h.c2, (hc _).trans h.c3, (hc _).trans h.c4, fun j hj => (hc _).trans (h.tb j hj), fun j hj => (hf _).trans (h.fr j hj), Nat.lt_of_lt_of_le h.lt hs⟩
theorem Ready.keptEx {ex : Nat → Prop} {W V : World} {B br : Nat} {sa : Option Addr} {n cap sk lo : Nat} {f : Nat → Cel} (h : Ready W br sa n cap sk lo f) (k : KeptEx ex W V B) (hb : br < B) (hne : ¬ ex br) : Ready V br sa n cap sk lo f := by
  rcases h with h | ⟨tab, h, h2⟩
  · exact Or.inl (h.sameB k.size (k.block br hb hne))
  · exact Or.inr ⟨tab, h.sameB k.size (k.block br hb hne), h2⟩
set_option maxHeartbeats 1000000 in
/-- fromBehind(r, piece): both are boxed; the function value captures the boxes. -/
theorem fromBehind_in (n : Nat) (pr : Addr) (t : ByteArray) (w : World) :
    CallsIn Fence.wide n Tryz.prog 80 #[.pointer (some pr), .string t] w fun e w' => e = .returned (.func (.func 99) #[] #[.pointer (some ⟨w.heap.size, 0, none⟩), .pointer (some ⟨w.heap.size + 1, 0, none⟩)]) ∧ w' = (w.alloc (.cells #[.pointer (some pr)] 57)).alloc (.cells #[.string t] 9) := by
  refine callsIn_of_wp Tryz.func80 rfl trivial ?_ rfl
  simp only [Tryz.ntmps80, List.size_toArray, List.length_cons, List.length_nil, Nat.reduceAdd, Nat.reduceSub, Array.replicate_succ, Array.replicate_zero, List.push_toArray, List.append_toArray, List.nil_append, List.cons_append]
  gi_wp2
  go_ret
  exact ⟨rfl, rfl⟩
/-- A row that is looked at from behind, in memory: its block, the row's own block. -/
structure BackAt (W : World) (pr br : Nat) (sa : Option Addr) (n cap sk lo : Nat) (f : Nat → Cel) : Prop where
  p0 : W.cell? ⟨pr, 0, none⟩ = some (.pointer (some ⟨br, 0, none⟩))
  p1 : W.cell? ⟨pr, 1, none⟩ = some (.int .u64 ((2 ^ (n + 1) - 1 : Nat) : Int))
  ready : Ready W br sa n cap sk lo f
  cells : CRow W br sa n f
  ne : br < pr
theorem BackAt.later {ex : Nat → Prop} {W V : World} {pr br B : Nat} {sa : Option Addr} {n cap sk lo : Nat} {f : Nat → Cel} (h : BackAt W pr br sa n cap sk lo f) (k : KeptEx ex W V B) (hr : Ready V br sa n cap sk lo f) (hpr : pr < B) (he : ¬ ex pr ∧ ∀ b, b < br → ¬ ex b) : BackAt V pr br sa n cap sk lo f := by
  have hne := h.ne
  refine ⟨by rw [k.cell hpr he.1]; exact h.p0, by rw [k.cell hpr he.1]; exact h.p1, hr, ?_, h.ne⟩
  rcases h.cells with h9 | ⟨bb, off, h1, h2, h3⟩
  · exact Or.inl h9
  · refine Or.inr ⟨bb, off, h1, h2, fun i hi => ?_⟩
    obtain ⟨c0, c1, c2⟩ := h3 i hi
    exact ⟨by rw [k.cell (by omega) (he.2 bb h2)]; exact c0, by rw [k.cell (by omega) (he.2 bb h2)]; exact c1, by rw [k.cell (by omega) (he.2 bb h2)]; exact c2⟩
open Classical in
set_option maxRecDepth 100000 in
set_option maxHeartbeats 4000000 in
theorem fromBeh1_in (m l b2 b3 B pr br pk : Nat) (sa : Option Addr) (n cap sk lo : Nat) (f : Nat → Cel) (t : ByteArray) (J Jx : List (Nat × Nat) → World → Prop) (W : World) (hJ : Lets (fun r => r = br) (fun V => Ready V br sa n cap sk lo f) J) (hm : 1 ≤ m) (hn : n ≤ 60) (hsz : ∀ i, i < n → (f i).c.size ≤ 256) (ht : t.size ≤ 8000)
    (hY : ∀ pre x V, J pre V → pre.length < t.size → YieldAt Fence.wide (m - 1) Tryz.prog l #[.int .i64 (x.1 : Int), .int .u64 (x.2 : Int)] V fun e V' =>
      (e = .returned (.bool true) ∧ J (pre ++ [x]) V' ∧ KeptEx (fun k => k = pk) V V' B) ∨ (e = .returned (.bool false) ∧ Jx (pre ++ [x]) V'))
    (h2 : W.cell? ⟨b2, 0, none⟩ = some (.pointer (some ⟨pr, 0, none⟩))) (h3 : W.cell? ⟨b3, 0, none⟩ = some (.string t)) (hb2 : b2 < B ∧ ¬ (b2 = br ∨ b2 = pk)) (hb3 : b3 < B ∧ ¬ (b3 = br ∨ b3 = pk)) (hpr : pr < B ∧ pr < pk) (hB : B ≤ W.heap.size) (hR : BackAt W pr br sa n cap sk lo f) (h0 : J [] W) :
    CallsIn Fence.wide m Tryz.prog 99 #[.func (.yield l) #[] #[], .pointer (some ⟨b2, 0, none⟩), .pointer (some ⟨b3, 0, none⟩)] W fun e W' => (∃ v, e = .returned v) ∧
      ((∃ ys, ys = uptoB n f t t.size ∧ J ys W') ∨ (∃ pre, (∃ k, k ≤ t.size ∧ pre = uptoB n f t k) ∧ Jx pre W')) := by
  have HY : Hid (∀ pre x V, J pre V → pre.length < t.size → YieldAt Fence.wide (m - 1) Tryz.prog l #[.int .i64 (x.1 : Int), .int .u64 (x.2 : Int)] V fun e V' =>
      (e = .returned (.bool true) ∧ J (pre ++ [x]) V' ∧ KeptEx (fun k => k = pk) V V' B) ∨ (e = .returned (.bool false) ∧ Jx (pre ++ [x]) V')) := hY
  have HJ : Hid (Lets (fun r => r = br) (fun V => Ready V br sa n cap sk lo f) J) := hJ
  have HR : Hid (BackAt W pr br sa n cap sk lo f) := hR
  have H2 : Hid (W.cell? ⟨b2, 0, none⟩ = some (.pointer (some ⟨pr, 0, none⟩))) := h2
  have H3 : Hid (W.cell? ⟨b3, 0, none⟩ = some (.string t)) := h3
  have HBB : Hid ((b2 < B ∧ ¬ (b2 = br ∨ b2 = pk)) ∧ (b3 < B ∧ ¬ (b3 = br ∨ b3 = pk)) ∧ pr < B ∧ B ≤ W.heap.size ∧ br < pr ∧ pr < pk) := ⟨hb2, hb3, hpr.1, hB, hR.ne, hpr.2⟩
  have HEX : Hid (¬ (pr = br ∨ pr = pk) ∧ ∀ b, b < br → ¬ (b = br ∨ b = pk)) := ⟨by have := hR.ne; omega, fun b hb => by have := hR.ne; omega⟩
  have HH : Hid (∀ (c : Nat), c < 256 → ∀ V, BackAt V pr br sa n cap sk lo f → Calls Tryz.prog 100 #[.pointer (some ⟨br, 0, none⟩), .int .u8 (c : Int)] V fun e V' => ∃ x : Nat, e = .returned (.int .u64 (x : Int)) ∧ IsBits x (behind (fun i => hasByte (f i).c c) n) ∧ Ready V' br sa n cap sk lo f ∧ V.grownBy V' (some br)) := fun c hc V hV => having_any br sa n cap sk lo c f V hn hc hsz hV.cells hV.ready
  have J0 : Hid (J (uptoB n f t 0) W) := h0
  have p0 := hR.p0
  have p1 := hR.p1
  have e0 : Hid (((2 ^ (n + 1) - 1 : Nat) : Int) = ((begN n f t 0 : Nat) : Int)) := by show _ = _; rw [begN_zero hn]
  rw [e0.out] at p1
  clear hJ hY hR h0 hsz hb2 hb3 hpr hB
  refine callsIn_of_wp Tryz.func99 rfl trivial ?_ rfl
  simp only [Tryz.ntmps99, List.size_toArray, List.length_cons, List.length_nil, Nat.reduceAdd, Nat.reduceSub, Array.replicate_succ, Array.replicate_zero, List.push_toArray, List.append_toArray, List.nil_append, List.cons_append]
  gi_wp2
  clear p0 p1 h2 h3
  gi_loopw [4, 5] (fun bv lv wr => ∃ k : Nat, k ≤ t.size ∧ lv = .int .i64 ((k + 1 : Nat) : Int) ∧ bv = .int .u64 ((begN n f t k : Nat) : Int) ∧ J (uptoB n f t k) wr ∧ KeptEx (fun k => k = br ∨ k = pk) W wr B ∧ Ready wr br sa n cap sk lo f) (fun _ lv _ => t.size + 1 - (intOf lv).toNat)
  case atStart => exact ⟨0, Nat.zero_le _, rfl, rfl, J0.out, KeptEx.refl _ _ _, HR.out.ready⟩
  case round =>
    obtain ⟨k, hk, rfl, rfl, hJs, hkept, hready⟩ := hrel
    have JS : Hid (J (uptoB n f t k) wr) := hJs
    have HK : Hid (KeptEx (fun k => k = br ∨ k = pk) W wr B) := hkept
    have HRD : Hid (Ready wr br sa n cap sk lo f) := hready
    have c2 : wr.cell? ⟨b2, 0, none⟩ = some (.pointer (some ⟨pr, 0, none⟩)) := by rw [hkept.cell HBB.out.1.1 HBB.out.1.2]; exact H2.out
    have c3 : wr.cell? ⟨b3, 0, none⟩ = some (.string t) := by rw [hkept.cell HBB.out.2.1.1 HBB.out.2.1.2]; exact H3.out
    have BA := HR.out.later hkept hready HBB.out.2.2.1 HEX.out
    have p0 := BA.p0
    obtain ⟨q, hq⟩ : ∃ q, k + 1 = q := ⟨_, rfl⟩
    have HQ : Hid (k + 1 = q) := hq
    rw [hq]
    clear hJs hkept hready
    by_cases hkl : k < t.size
    · have hqi : (q : Int) ≤ (t.size : Int) := by omega
      obtain ⟨j, hj⟩ : ∃ j, t.size - 1 - k = j := ⟨_, rfl⟩
      have hji : (t.size : Int) - (q : Int) = (j : Int) := by omega
      have hjt : j < t.size := by omega
      have hj0 : (0 : Int) ≤ (j : Int) := by omega
      have hjl : (j : Int) < (t.size : Int) := by omega
      have hwj : IntKind.i64.wrap (j : Int) = (j : Int) := by rw [IntKind.wrap_i64] <;> omega
      have hBd : BackAt wr.drew pr br sa n cap sk lo f := ⟨BA.p0, BA.p1, HRD.out.kept ((Below.refl wr.heap.size wr).drew) HRD.out.cells.2.2, BA.cells.kept ((Below.refl br wr).drew), BA.ne⟩
      have CH := HH.out (t[j].toNat) t[j].toNat_lt wr.drew hBd
      have HSTEP : Hid (∀ y, IsBits y (behind (fun i => hasByte (f i).c t[j].toNat) n) → begN n f t q = (begN n f t k &&& y) / 2 ∧ y < 18446744073709551616) := fun y hy => by
        subst hj
        rw [← HQ.out]
        exact ⟨begN_succ hn hkl hy, hy.lt⟩
      have hxlt : begN n f t k < 18446744073709551616 := (begN_bits hn (by omega)).lt
      have HXL : Hid (begN n f t k < 18446744073709551616) := hxlt
      clear BA hBd hxlt hj hq
      gi_wp2
      refine wpIn_wide.2 ?_
      go_region_held3 (fun V => V.cell? ⟨b2, 0, none⟩ = some (.pointer (some ⟨pr, 0, none⟩)) ∧ V.cell? ⟨b3, 0, none⟩ = some (.string t) ∧ V.cell? ⟨pr, 0, none⟩ = some (.pointer (some ⟨br, 0, none⟩))) (go_keep) (first | (go_at_call 100; refine CH.mono ?_; rintro e w1 ⟨y, rfl, hy, hrd, hgr⟩; have E1 : Hid (J (uptoB n f t k) w1 ∧ KeptEx (fun k => k = br ∨ k = pk) W w1 B ∧ Ready w1 br sa n cap sk lo f) := ⟨HJ.out _ _ _ _ (HJ.out _ _ wr.drew none JS.out ⟨rfl, rfl, rfl, Nat.le_refl _, fun _ _ _ => rfl⟩ (fun r e => by cases e) (HRD.out.kept ((Below.refl wr.heap.size wr).drew) HRD.out.cells.2.2)) hgr (fun r e => by injection e with e; exact e.symm) hrd, HK.out.trans ((KeptEx.below ((Below.refl B wr).drew)).trans (KeptEx.grown hgr (Nat.le_trans HBB.out.2.2.2.1 HK.out.size) (Or.inl rfl))), hrd⟩; obtain ⟨hbe, hyl⟩ := HSTEP.out y hy; have hand : bits .and .u64 ((begN n f t k : Nat) : Int) (y : Int) = ((begN n f t k &&& y : Nat) : Int) := and64 HXL.out hyl; have HDIV : Hid (((begN n f t k &&& y : Nat) : Int) / 2 = ((begN n f t q : Nat) : Int)) := (by show _ = _; rw [hbe]; omega); clear hbe; have d2 : w1.cell? ⟨b2, 0, none⟩ = some (.pointer (some ⟨pr, 0, none⟩)) := (by rw [E1.out.2.1.cell HBB.out.1.1 HBB.out.1.2]; exact H2.out); have d3 : w1.cell? ⟨b3, 0, none⟩ = some (.string t) := (by rw [E1.out.2.1.cell HBB.out.2.1.1 HBB.out.2.1.2]; exact H3.out); have d4 := (HR.out.later E1.out.2.1 hrd HBB.out.2.2.1 HEX.out).p0; clear hy hrd hgr))
      all_goals
        rw [HDIV.out]
        have hlen : (uptoB n f t k).length < t.size := by rw [uptoB_len]; exact hkl
        obtain ⟨fn, tmps, assign, body, hyl2, hRd⟩ := HY.out (uptoB n f t k) (q, begN n f t q) w1 E1.out.1 hlen
        have HRR : Hid (RoundIn Fence.wide (m - 1) Tryz.prog l fn tmps assign body w1 fun e V' =>
          (e = .returned (.bool true) ∧ J (uptoB n f t k ++ [(q, begN n f t q)]) V' ∧ KeptEx (fun k => k = pk) w1 V' B) ∨ (e = .returned (.bool false) ∧ Jx (uptoB n f t k ++ [(q, begN n f t q)]) V')) := hRd
        have HU : Hid (uptoB n f t q = uptoB n f t k ++ [(q, begN n f t q)]) := by show _ = _; rw [← HQ.out]; exact uptoB_succ n f t k
        clear hRd hlen hand
        dsimp only at hyl2
        gi_wp2
        refine HRR.out.mono ?_
        rintro e V (⟨rfl, hJ3, hk3⟩ | ⟨rfl, hJx3⟩)
        · have J3 : Hid (J (uptoB n f t q) V ∧ KeptEx (fun k => k = br ∨ k = pk) W V B ∧ Ready V br sa n cap sk lo f) := ⟨by rw [HU.out]; exact hJ3, E1.out.2.1.trans (hk3.mono (fun k e => Or.inr e)), E1.out.2.2.keptEx hk3 (by have := HBB.out; omega) (by have := HBB.out; omega)⟩
          clear hJ3 hk3 hyl2
          gi_wp2
          go_roundw
          case rel => exact ⟨q, by omega, by go_num, rfl, J3.out.1, J3.out.2.1, J3.out.2.2⟩
          case measure => simp [intOf]; omega
        · have J3 : Hid (Jx (uptoB n f t q) V) := by rw [HU.out]; exact hJx3
          clear hJx3 hyl2
          gi_wp2
          refine bodyPost_ret (results_none rfl _ _ _) rfl ?_
          exact ⟨⟨_, rfl⟩, .inr ⟨_, ⟨q, by omega, rfl⟩, J3.out⟩⟩
    · have hqi : ¬ (q : Int) ≤ (t.size : Int) := by omega
      obtain rfl : k = t.size := by omega
      gi_wp2
      go_end0
      first | exact ⟨⟨_, rfl⟩, .inl JS.out⟩ | exact ⟨⟨_, rfl⟩, .inl ⟨_, rfl, JS.out⟩⟩
/-- fromBehind's contract. -/
theorem behind_turns (m b2 b3 B pr br pk : Nat) (sa : Option Addr) (n cap sk lo : Nat) (f : Nat → Cel) (t : ByteArray) (w : World) (hm : 1 ≤ m) (hn : n ≤ 60) (hsz : ∀ i, i < n → (f i).c.size ≤ 256) (ht : t.size ≤ 8000)
    (h2 : w.cell? ⟨b2, 0, none⟩ = some (.pointer (some ⟨pr, 0, none⟩))) (h3 : w.cell? ⟨b3, 0, none⟩ = some (.string t)) (hb2 : b2 < B ∧ ¬ (b2 = br ∨ b2 = pk)) (hb3 : b3 < B ∧ ¬ (b3 = br ∨ b3 = pk)) (hpr : pr < B ∧ pr < pk) (hB : B ≤ w.heap.size) (hR : BackAt w pr br sa n cap sk lo f) :
    SeqTurns Fence.wide m Tryz.prog 99 #[.pointer (some ⟨b2, 0, none⟩), .pointer (some ⟨b3, 0, none⟩)] (fun x : Nat × Nat => #[Value.int .i64 (x.1 : Int), .int .u64 (x.2 : Int)]) (fun V V' => KeptEx (fun k => k = pk) V V' B) (fun r => r = br) (fun V => Ready V br sa n cap sk lo f) (fun ys => ys = uptoB n f t t.size) (fun pre => ∃ k, k ≤ t.size ∧ pre = uptoB n f t k) t.size w := fun l J Jx W hW hJ _ hY h0 => by
  have hk : KeptEx (fun k => k = br ∨ k = pk) w W B := KeptEx.below (hW.mono hB)
  have hne := hR.ne
  exact fromBeh1_in m l b2 b3 B pr br pk sa n cap sk lo f t J Jx W hJ hm hn hsz ht hY (by rw [hk.cell hb2.1 hb2.2]; exact h2) (by rw [hk.cell hb3.1 hb3.2]; exact h3) hb2 hb3 hpr (Nat.le_trans hB hW.size) (hR.later hk (hR.ready.kept (hW.mono hB) (by omega)) hpr.1 ⟨by omega, fun b hb => by omega⟩) h0
end Go.Proofs.YtfeolbgenpknfaaGreat
namespace Go.Proofs.YtfeolbgenpknfaaGreat
open Go.RowKit

/-- How many bytes were looked at, of what has come. -/
def lookedL (L : List (Nat × Nat)) : Nat := (L.getLast?.map Prod.fst).getD 0
/-- The border, of what has come. -/
def borderL (n : Nat) (L : List (Nat × Nat)) : Nat := L.foldl (fun b x => if x.2 % 2 = 1 ∧ x.1 < n then x.1 else b) 0
theorem lookedL_app (L : List (Nat × Nat)) (x : Nat × Nat) : lookedL (L ++ [x]) = x.1 := by simp [lookedL]
theorem borderL_app (n : Nat) (L : List (Nat × Nat)) (x : Nat × Nat) : borderL n (L ++ [x]) = if x.2 % 2 = 1 ∧ x.1 < n then x.1 else borderL n L := by simp [borderL]
/-- What is seen of a piece from behind. -/
structure LookP (n : Nat) (f : Nat → Cel) (t : ByteArray) (lk bd : Nat) (fc : Bool) : Prop where
  bd : IsBorder n f t bd
  fac : fc = true ↔ SomeS n f t t.size
  all : fc = true → lk = t.size
  less : fc = false → 1 ≤ lk ∧ lk ≤ t.size ∧ ¬ SomeS n f t lk ∧ ∀ j, j < lk → SomeS n f t j
theorem border_upto {n : Nat} {f : Nat → Cel} {t : ByteArray} (hn : n ≤ 60) : ∀ k, k ≤ t.size → (borderL n (uptoB n f t k) = 0 ∨ (borderL n (uptoB n f t k) ≤ k ∧ borderL n (uptoB n f t k) < n ∧ GoesS n f t (borderL n (uptoB n f t k)) 0)) ∧ ∀ j, borderL n (uptoB n f t k) < j → j ≤ k → j < n → ¬ GoesS n f t j 0
  | 0, _ => ⟨Or.inl rfl, fun j h1 h2 _ => by omega⟩
  | k + 1, hk => by
    obtain ⟨h1, h2⟩ := border_upto (n := n) (f := f) (t := t) hn k (by omega)
    rw [uptoB_succ, borderL_app]
    by_cases hc : begN n f t (k + 1) % 2 = 1 ∧ k + 1 < n
    · rw [if_pos hc]
      exact ⟨Or.inr ⟨Nat.le_refl _, hc.2, (begN_low hn hk).1 hc.1⟩, fun j h3 h4 _ => by omega⟩
    · rw [if_neg hc]
      refine ⟨h1.imp id (fun h => ⟨by omega, h.2⟩), fun j h3 h4 h5 h6 => ?_⟩
      by_cases e : j = k + 1
      · subst e
        exact hc ⟨(begN_low hn hk).2 h6, h5⟩
      · exact h2 j h3 (by omega) h5 h6
theorem goes_some {n : Nat} {f : Nat → Cel} {t : ByteArray} {k : Nat} (h : GoesS n f t k 0) : SomeS n f t k := ⟨0, h⟩
theorem some_zero {n : Nat} {f : Nat → Cel} {t : ByteArray} : SomeS n f t 0 := ⟨0, goesS_zero.2 (Nat.zero_le _)⟩
theorem uptoB_mem {n : Nat} {f : Nat → Cel} {t : ByteArray} {k j : Nat} (hj : j < k) : (j + 1, begN n f t (j + 1)) ∈ uptoB n f t k := List.mem_map.2 ⟨j, List.mem_range.2 hj, rfl⟩
/-- All has come. -/
theorem look_all {n : Nat} {f : Nat → Cel} {t : ByteArray} (hn : n ≤ 60) (hnz : ∀ x, x ∈ uptoB n f t t.size → x.2 ≠ 0) : LookP n f t (lookedL (uptoB n f t t.size)) (borderL n (uptoB n f t t.size)) true := by
  obtain ⟨h1, h2⟩ := border_upto (n := n) (f := f) (t := t) hn t.size (Nat.le_refl _)
  refine ⟨⟨h1.imp id (fun h => h.2), fun k h3 h4 h5 => h2 k h3 h5.1 h4 h5⟩, ⟨fun _ => ?_, fun _ => rfl⟩, fun _ => ?_, fun h => by cases h⟩
  · rcases Nat.eq_zero_or_pos t.size with h0 | h0
    · rw [h0]; exact some_zero
    · obtain ⟨j, hj⟩ : ∃ j, t.size = j + 1 := ⟨t.size - 1, by omega⟩
      have h9 := hnz _ (uptoB_mem (n := n) (f := f) (t := t) (k := t.size) (j := j) (by omega))
      refine Classical.byContradiction (fun hc => h9 ?_)
      show begN n f t (j + 1) = 0
      rw [begN_none hn (by omega), ← hj]
      exact hc
  · rcases Nat.eq_zero_or_pos t.size with h0 | h0
    · rw [h0]; rfl
    · obtain ⟨j, hj⟩ : ∃ j, t.size = j + 1 := ⟨t.size - 1, by omega⟩
      rw [hj, uptoB_succ, lookedL_app]
/-- What came last goes with no cells. -/
theorem look_less {n : Nat} {f : Nat → Cel} {t : ByteArray} (hn : n ≤ 60) {k : Nat} (hk : k ≤ t.size) {pre : List (Nat × Nat)} {x : Nat × Nat} (he : pre ++ [x] = uptoB n f t k) (hx : x.2 = 0) (hnz : ∀ y, y ∈ pre → y.2 ≠ 0) : LookP n f t x.1 (borderL n pre) false := by
  cases k with
  | zero => simp [uptoB] at he
  | succ k =>
    rw [uptoB_succ] at he
    obtain ⟨rfl, he2⟩ := List.append_inj' he rfl
    obtain rfl : x = (k + 1, begN n f t (k + 1)) := by injection he2
    have hx' : begN n f t (k + 1) = 0 := hx
    have hno : ¬ SomeS n f t (k + 1) := (begN_none hn hk).1 hx'
    obtain ⟨h1, h2⟩ := border_upto (n := n) (f := f) (t := t) hn k (by omega)
    refine ⟨⟨h1.imp id (fun h => h.2), fun j h3 h4 h5 => ?_⟩, ⟨fun h => (by cases h), fun h => absurd (someS_less h hk) hno⟩, fun h => (by cases h), fun _ => ⟨(by show 1 ≤ k + 1; omega), hk, hno, fun j hj => ?_⟩⟩
    · by_cases e : j ≤ k
      · exact h2 j h3 e h4 h5
      · exact hno (someS_less (goes_some h5) (by omega))
    · have hj' : j < k + 1 := hj
      cases j with
      | zero => exact some_zero
      | succ j =>
        have h9 := hnz _ (uptoB_mem (n := n) (f := f) (t := t) (k := k) (j := j) (by omega))
        refine Classical.byContradiction (fun hc => h9 ?_)
        exact (begN_none hn (by omega)).2 hc
end Go.Proofs.YtfeolbgenpknfaaGreat
