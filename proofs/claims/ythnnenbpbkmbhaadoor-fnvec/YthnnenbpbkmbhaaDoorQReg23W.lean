/- What is proved here: the statement in FnVec's loop that holds the bits of what was put together against the bits of both: whatever order its operations come in, it says that all is right. -/
import Derived.Test.YthnnenbpbkmbhaaDoorQVvLateW
import Derived.Test.YthnnenbpbkmbhaaDoorQFourStepW
import Derived.Test.YthnnenbpbkmbhaaDoorQChainW
import Derived.Test.YthnnenbpbkmbhaaDoorQVvEndM
namespace Go.Proofs.YthnnenbpbkmbhaaDoor
open Go.RowKit
set_option maxRecDepth 100000

/-- The operations of a statement, by its number. -/
def findR (n : Nat) : Code → Option (Array Oper)
  | .region id ops _ => if id = n then some ops else none
  | .seq a b => (findR n a).or (findR n b)
  | .cond _ a b => (findR n a).or (findR n b)
  | .block _ a => findR n a
  | .loop a => findR n a
  | .scope a => findR n a
  | _ => none
theorem reg23_ff {ops : Array Oper} (hops : (Go.Proofs.Tryd.f3.body).bind (findR 23) = some ops) {Q : Exit → Act → World → Prop} {a0 : Act} {wZ w : World} {x y z u a : Vv} {px py pz pu p5 : Nat} {k : Nat} {lw : Bool}
    (hz0 : a0.tmps.size = 290) (hk0 : (k : Int) < 320) (han : a.n ≤ 1048576)
    (e5 : a0.tmps[5]? = some (.pointer (some ⟨p5, 0, none⟩))) (e13 : a0.tmps[13]? = some (.pointer (some ⟨px, 0, none⟩))) (e14 : a0.tmps[14]? = some (.pointer (some ⟨py, 0, none⟩))) (e15 : a0.tmps[15]? = some (.pointer (some ⟨pz, 0, none⟩))) (e16 : a0.tmps[16]? = some (.pointer (some ⟨pu, 0, none⟩))) (e18 : a0.tmps[18]? = some (.int .i64 (k : Int))) (e19 : a0.tmps[19]? = some (.bool false)) (e20 : a0.tmps[20]? = some (.bool false))
    (hL22 : LateV wZ w)
    (KBx : ∀ W, LateV wZ W → W.cell? ⟨px, 0, none⟩ = some (.int .i64 x.b) ∧ W.cell? ⟨px, 1, none⟩ = some (.slice x.s x.n x.c)) (KBy : ∀ W, LateV wZ W → W.cell? ⟨py, 0, none⟩ = some (.int .i64 y.b) ∧ W.cell? ⟨py, 1, none⟩ = some (.slice y.s y.n y.c)) (KBz : ∀ W, LateV wZ W → W.cell? ⟨pz, 0, none⟩ = some (.int .i64 z.b) ∧ W.cell? ⟨pz, 1, none⟩ = some (.slice z.s z.n z.c)) (KBu : ∀ W, LateV wZ W → W.cell? ⟨pu, 0, none⟩ = some (.int .i64 u.b) ∧ W.cell? ⟨pu, 1, none⟩ = some (.slice u.s u.n u.c)) (KBa : ∀ W, LateV wZ W → W.cell? ⟨p5, 0, none⟩ = some (.int .i64 a.b) ∧ W.cell? ⟨p5, 1, none⟩ = some (.slice a.s a.n a.c))
    (Gx : GivesR wZ 34 #[.agg #[.int .i64 x.b, .slice x.s x.n x.c], .int .i64 (k : Int)] (.bool false)) (Gy : GivesR wZ 34 #[.agg #[.int .i64 y.b, .slice y.s y.n y.c], .int .i64 (k : Int)] (.bool false)) (Gz : GivesR wZ 34 #[.agg #[.int .i64 z.b, .slice z.s z.n z.c], .int .i64 (k : Int)] (.bool false)) (Gu : GivesR wZ 34 #[.agg #[.int .i64 u.b, .slice u.s u.n u.c], .int .i64 (k : Int)] (.bool true))
    (PU : Hid (GivesV wZ 24 #[.agg #[.int .i64 a.b, .slice a.s a.n a.c]] a.b a.n (cutF a.b a.n (sumF 0 a.f a.f)))) (GUP : GotB a.b a.n (cutF a.b a.n (sumF 0 a.f a.f)) (k : Int) lw) (GLW : GivesR wZ 35 #[.agg #[.int .i64 a.b, .slice a.s a.n a.c], .int .i64 ((k : Int) - 1)] (.bool lw))
    (fin : ∀ (V : Nat → Value) (W : World), V 277 = .bool false → LateV wZ W → Q .normal (putL a0 V (List.range' 233 45)) W) :
    Code.wp Tryd.prog (.region 23 ops true) Q a0 w := by
  change some _ = some ops at hops
  injection hops with hops
  subst hops
  have hsz0 : 233 + 45 ≤ a0.tmps.size := by omega
  refine wp_region_inv (by kernel_rfl) (ChI ⟨fun W => LateV wZ W, a0, 233, [.con (.agg #[.int .i64 x.b, .slice x.s x.n x.c]), .con (.int .i64 (k : Int)), .con (.bool false), .con (.bool false), .con (.bool false), .con (undef), .con (.bool false), .con (.bool false), .con (.bool false), .con (.agg #[.int .i64 y.b, .slice y.s y.n y.c]), .con (.int .i64 (k : Int)), .con (.bool false), .con (.bool false), .con (.bool false), .con (.bool false), .con (.bool false), .con (.bool false), .con (.bool false), .con (.bool false), .con (.agg #[.int .i64 z.b, .slice z.s z.n z.c]), .con (.int .i64 (k : Int)), .con (.bool false), .con (.bool false), .con (.bool false), .con (.bool false), .con (.bool false), .con (.bool false), .con (.bool false), .con (.agg #[.int .i64 u.b, .slice u.s u.n u.c]), .con (.int .i64 (k : Int)), .con (.bool true), .con (.bool false), .con (.bool false), .con (.bool false), .con (.bool false), .con (.agg #[.int .i64 a.b, .slice a.s a.n a.c]), .vec a.b a.n (cutF a.b a.n (sumF 0 a.f a.f)), .con (.int .i64 (k : Int)), .con (.bool lw), .con (.agg #[.int .i64 a.b, .slice a.s a.n a.c]), .con (.int .i64 (k : Int)), .con (.int .i64 ((k : Int) - 1)), .con (.bool lw), .con (.bool false), .con (.bool false)]⟩) (acyc_of (by kernel_rfl)) (ch_start hL22.drew) ?_ ?_
  · intro L ac W i o ho hLi hdep hI
    have hsz : (233 : Nat) + 45 ≤ a0.tmps.size := hsz0
    have hlt : i < 45 := (Array.getElem?_eq_some_iff.1 ho).1
    match i, hlt, ho, hLi with
    | 0, _, ho, hLi =>
      exact chs_con 0 (.agg #[.int .i64 x.b, .slice x.s x.n x.c]) hI rfl rfl (want_none rfl) (fun K hK => op_load ((ch_out hI 13 (Or.inl (show (13 : Nat) < 233 by decide))).trans e13) (KBx W (ch_good hI)).1 (KBx W (ch_good hI)).2 hK)
    | 1, _, ho, hLi =>
      exact chs_con 1 (.int .i64 (k : Int)) hI rfl rfl (want_none rfl) (fun K hK => op_move ((ch_out hI 18 (Or.inl (show (18 : Nat) < 233 by decide))).trans e18) hK)
    | 2, _, ho, hLi =>
      exact chs_call 2 (.bool false) hI rfl rfl (want_none rfl) ((Gx W (ch_good hI))) (fun K hK => op_call2 (ch_con hI hsz 0 rfl (dep_at ho hdep 0 ⟨0, .data⟩ rfl rfl)) (ch_con hI hsz 1 rfl (dep_at ho hdep 1 ⟨1, .data⟩ rfl rfl)) enter_impl_VecGet hK)
    | 3, _, ho, hLi =>
      exact chs_con 3 (.bool false) hI rfl rfl (want_none rfl) (fun K hK => op_move ((ch_out hI 19 (Or.inl (show (19 : Nat) < 233 by decide))).trans e19) hK)
    | 4, _, ho, hLi =>
      exact chs_con 4 (.bool false) hI rfl rfl (want_none rfl) (fun K hK => op_move (ch_con hI hsz 3 rfl (dep_at ho hdep 0 ⟨3, .data⟩ rfl rfl)) hK)
    | 5, _, ho, hLi =>
      exact chs_skip 5 hI rfl rfl rfl (unwant_of rfl rfl rfl (ch_con hI hsz 4 rfl (dep_at ho hdep 0 ⟨4, .guard⟩ rfl rfl)) rfl)
    | 6, _, ho, hLi =>
      exact chs_con 6 (.bool false) hI rfl rfl (want_none rfl) (fun K hK => op_pickAnd0 (ch_con hI hsz 4 rfl (dep_at ho hdep 0 ⟨4, .data⟩ rfl rfl)) hK)
    | 7, _, ho, hLi =>
      exact chs_con 7 (.bool false) hI rfl rfl (want_none rfl) (fun K hK => op_neqB (ch_con hI hsz 2 rfl (dep_at ho hdep 0 ⟨2, .data⟩ rfl rfl)) (ch_con hI hsz 6 rfl (dep_at ho hdep 1 ⟨6, .data⟩ rfl rfl)) hK)
    | 8, _, ho, hLi =>
      exact chs_con 8 (.bool false) hI rfl rfl (want_none rfl) (fun K hK => op_move (ch_con hI hsz 7 rfl (dep_at ho hdep 0 ⟨7, .data⟩ rfl rfl)) hK)
    | 9, _, ho, hLi =>
      exact chs_con 9 (.agg #[.int .i64 y.b, .slice y.s y.n y.c]) hI rfl rfl (want_of rfl rfl rfl (ch_con hI hsz 8 rfl (dep_at ho hdep 0 ⟨8, .guard⟩ rfl rfl))) (fun K hK => op_load ((ch_out hI 14 (Or.inl (show (14 : Nat) < 233 by decide))).trans e14) (KBy W (ch_good hI)).1 (KBy W (ch_good hI)).2 hK)
    | 10, _, ho, hLi =>
      exact chs_con 10 (.int .i64 (k : Int)) hI rfl rfl (want_of rfl rfl rfl (ch_con hI hsz 8 rfl (dep_at ho hdep 0 ⟨8, .guard⟩ rfl rfl))) (fun K hK => op_move ((ch_out hI 18 (Or.inl (show (18 : Nat) < 233 by decide))).trans e18) hK)
    | 11, _, ho, hLi =>
      exact chs_call 11 (.bool false) hI rfl rfl (want_of rfl rfl rfl (ch_con hI hsz 8 rfl (dep_at ho hdep 2 ⟨8, .chain⟩ rfl rfl))) ((Gy W (ch_good hI))) (fun K hK => op_call2 (ch_con hI hsz 9 rfl (dep_at ho hdep 0 ⟨9, .data⟩ rfl rfl)) (ch_con hI hsz 10 rfl (dep_at ho hdep 1 ⟨10, .data⟩ rfl rfl)) enter_impl_VecGet hK)
    | 12, _, ho, hLi =>
      exact chs_con 12 (.bool false) hI rfl rfl (want_of rfl rfl rfl (ch_con hI hsz 8 rfl (dep_at ho hdep 0 ⟨8, .guard⟩ rfl rfl))) (fun K hK => op_move ((ch_out hI 19 (Or.inl (show (19 : Nat) < 233 by decide))).trans e19) hK)
    | 13, _, ho, hLi =>
      exact chs_con 13 (.bool false) hI rfl rfl (want_of rfl rfl rfl (ch_con hI hsz 8 rfl (dep_at ho hdep 2 ⟨8, .guard⟩ rfl rfl))) (fun K hK => op_move (ch_con hI hsz 12 rfl (dep_at ho hdep 0 ⟨12, .data⟩ rfl rfl)) hK)
    | 14, _, ho, hLi =>
      exact chs_con 14 (.bool false) hI rfl rfl (want_of rfl rfl rfl (ch_con hI hsz 13 rfl (dep_at ho hdep 0 ⟨13, .guard⟩ rfl rfl))) (fun K hK => op_move ((ch_out hI 20 (Or.inl (show (20 : Nat) < 233 by decide))).trans e20) hK)
    | 15, _, ho, hLi =>
      exact chs_con 15 (.bool false) hI rfl rfl (want_of rfl rfl rfl (ch_con hI hsz 8 rfl (dep_at ho hdep 2 ⟨8, .guard⟩ rfl rfl))) (fun K hK => op_pickOr (ch_con hI hsz 13 rfl (dep_at ho hdep 0 ⟨13, .data⟩ rfl rfl)) (ch_con hI hsz 14 rfl (dep_at ho hdep 1 ⟨14, .data⟩ rfl rfl)) hK)
    | 16, _, ho, hLi =>
      exact chs_con 16 (.bool false) hI rfl rfl (want_of rfl rfl rfl (ch_con hI hsz 8 rfl (dep_at ho hdep 2 ⟨8, .guard⟩ rfl rfl))) (fun K hK => op_neqB (ch_con hI hsz 11 rfl (dep_at ho hdep 0 ⟨11, .data⟩ rfl rfl)) (ch_con hI hsz 15 rfl (dep_at ho hdep 1 ⟨15, .data⟩ rfl rfl)) hK)
    | 17, _, ho, hLi =>
      exact chs_con 17 (.bool false) hI rfl rfl (want_none rfl) (fun K hK => op_pickOr (ch_con hI hsz 8 rfl (dep_at ho hdep 0 ⟨8, .data⟩ rfl rfl)) (ch_con hI hsz 16 rfl (dep_at ho hdep 1 ⟨16, .data⟩ rfl rfl)) hK)
    | 18, _, ho, hLi =>
      exact chs_con 18 (.bool false) hI rfl rfl (want_none rfl) (fun K hK => op_move (ch_con hI hsz 17 rfl (dep_at ho hdep 0 ⟨17, .data⟩ rfl rfl)) hK)
    | 19, _, ho, hLi =>
      exact chs_con 19 (.agg #[.int .i64 z.b, .slice z.s z.n z.c]) hI rfl rfl (want_of rfl rfl rfl (ch_con hI hsz 18 rfl (dep_at ho hdep 0 ⟨18, .guard⟩ rfl rfl))) (fun K hK => op_load ((ch_out hI 15 (Or.inl (show (15 : Nat) < 233 by decide))).trans e15) (KBz W (ch_good hI)).1 (KBz W (ch_good hI)).2 hK)
    | 20, _, ho, hLi =>
      exact chs_con 20 (.int .i64 (k : Int)) hI rfl rfl (want_of rfl rfl rfl (ch_con hI hsz 18 rfl (dep_at ho hdep 0 ⟨18, .guard⟩ rfl rfl))) (fun K hK => op_move ((ch_out hI 18 (Or.inl (show (18 : Nat) < 233 by decide))).trans e18) hK)
    | 21, _, ho, hLi =>
      exact chs_call 21 (.bool false) hI rfl rfl (want_of rfl rfl rfl (ch_con hI hsz 18 rfl (dep_at ho hdep 2 ⟨18, .chain⟩ rfl rfl))) ((Gz W (ch_good hI))) (fun K hK => op_call2 (ch_con hI hsz 19 rfl (dep_at ho hdep 0 ⟨19, .data⟩ rfl rfl)) (ch_con hI hsz 20 rfl (dep_at ho hdep 1 ⟨20, .data⟩ rfl rfl)) enter_impl_VecGet hK)
    | 22, _, ho, hLi =>
      exact chs_con 22 (.bool false) hI rfl rfl (want_of rfl rfl rfl (ch_con hI hsz 18 rfl (dep_at ho hdep 0 ⟨18, .guard⟩ rfl rfl))) (fun K hK => op_move ((ch_out hI 19 (Or.inl (show (19 : Nat) < 233 by decide))).trans e19) hK)
    | 23, _, ho, hLi =>
      exact chs_con 23 (.bool false) hI rfl rfl (want_of rfl rfl rfl (ch_con hI hsz 18 rfl (dep_at ho hdep 0 ⟨18, .guard⟩ rfl rfl))) (fun K hK => op_move ((ch_out hI 20 (Or.inl (show (20 : Nat) < 233 by decide))).trans e20) hK)
    | 24, _, ho, hLi =>
      exact chs_con 24 (.bool false) hI rfl rfl (want_of rfl rfl rfl (ch_con hI hsz 18 rfl (dep_at ho hdep 2 ⟨18, .guard⟩ rfl rfl))) (fun K hK => op_neqB (ch_con hI hsz 22 rfl (dep_at ho hdep 0 ⟨22, .data⟩ rfl rfl)) (ch_con hI hsz 23 rfl (dep_at ho hdep 1 ⟨23, .data⟩ rfl rfl)) hK)
    | 25, _, ho, hLi =>
      exact chs_con 25 (.bool false) hI rfl rfl (want_of rfl rfl rfl (ch_con hI hsz 18 rfl (dep_at ho hdep 2 ⟨18, .guard⟩ rfl rfl))) (fun K hK => op_neqB (ch_con hI hsz 21 rfl (dep_at ho hdep 0 ⟨21, .data⟩ rfl rfl)) (ch_con hI hsz 24 rfl (dep_at ho hdep 1 ⟨24, .data⟩ rfl rfl)) hK)
    | 26, _, ho, hLi =>
      exact chs_con 26 (.bool false) hI rfl rfl (want_none rfl) (fun K hK => op_pickOr (ch_con hI hsz 18 rfl (dep_at ho hdep 0 ⟨18, .data⟩ rfl rfl)) (ch_con hI hsz 25 rfl (dep_at ho hdep 1 ⟨25, .data⟩ rfl rfl)) hK)
    | 27, _, ho, hLi =>
      exact chs_con 27 (.bool false) hI rfl rfl (want_none rfl) (fun K hK => op_move (ch_con hI hsz 26 rfl (dep_at ho hdep 0 ⟨26, .data⟩ rfl rfl)) hK)
    | 28, _, ho, hLi =>
      exact chs_con 28 (.agg #[.int .i64 u.b, .slice u.s u.n u.c]) hI rfl rfl (want_of rfl rfl rfl (ch_con hI hsz 27 rfl (dep_at ho hdep 0 ⟨27, .guard⟩ rfl rfl))) (fun K hK => op_load ((ch_out hI 16 (Or.inl (show (16 : Nat) < 233 by decide))).trans e16) (KBu W (ch_good hI)).1 (KBu W (ch_good hI)).2 hK)
    | 29, _, ho, hLi =>
      exact chs_con 29 (.int .i64 (k : Int)) hI rfl rfl (want_of rfl rfl rfl (ch_con hI hsz 27 rfl (dep_at ho hdep 0 ⟨27, .guard⟩ rfl rfl))) (fun K hK => op_move ((ch_out hI 18 (Or.inl (show (18 : Nat) < 233 by decide))).trans e18) hK)
    | 30, _, ho, hLi =>
      exact chs_call 30 (.bool true) hI rfl rfl (want_of rfl rfl rfl (ch_con hI hsz 27 rfl (dep_at ho hdep 2 ⟨27, .chain⟩ rfl rfl))) ((Gu W (ch_good hI))) (fun K hK => op_call2 (ch_con hI hsz 28 rfl (dep_at ho hdep 0 ⟨28, .data⟩ rfl rfl)) (ch_con hI hsz 29 rfl (dep_at ho hdep 1 ⟨29, .data⟩ rfl rfl)) enter_impl_VecGet hK)
    | 31, _, ho, hLi =>
      exact chs_con 31 (.bool false) hI rfl rfl (want_of rfl rfl rfl (ch_con hI hsz 27 rfl (dep_at ho hdep 0 ⟨27, .guard⟩ rfl rfl))) (fun K hK => op_move ((ch_out hI 19 (Or.inl (show (19 : Nat) < 233 by decide))).trans e19) hK)
    | 32, _, ho, hLi =>
      exact chs_con 32 (.bool false) hI rfl rfl (want_of rfl rfl rfl (ch_con hI hsz 27 rfl (dep_at ho hdep 2 ⟨27, .guard⟩ rfl rfl))) (fun K hK => op_eqlB (ch_con hI hsz 30 rfl (dep_at ho hdep 0 ⟨30, .data⟩ rfl rfl)) (ch_con hI hsz 31 rfl (dep_at ho hdep 1 ⟨31, .data⟩ rfl rfl)) rfl hK)
    | 33, _, ho, hLi =>
      exact chs_con 33 (.bool false) hI rfl rfl (want_none rfl) (fun K hK => op_pickOr (ch_con hI hsz 27 rfl (dep_at ho hdep 0 ⟨27, .data⟩ rfl rfl)) (ch_con hI hsz 32 rfl (dep_at ho hdep 1 ⟨32, .data⟩ rfl rfl)) hK)
    | 34, _, ho, hLi =>
      exact chs_con 34 (.bool false) hI rfl rfl (want_none rfl) (fun K hK => op_move (ch_con hI hsz 33 rfl (dep_at ho hdep 0 ⟨33, .data⟩ rfl rfl)) hK)
    | 35, _, ho, hLi =>
      exact chs_con 35 (.agg #[.int .i64 a.b, .slice a.s a.n a.c]) hI rfl rfl (want_of rfl rfl rfl (ch_con hI hsz 34 rfl (dep_at ho hdep 0 ⟨34, .guard⟩ rfl rfl))) (fun K hK => op_load ((ch_out hI 5 (Or.inl (show (5 : Nat) < 233 by decide))).trans e5) (KBa W (ch_good hI)).1 (KBa W (ch_good hI)).2 hK)
    | 36, _, ho, hLi =>
      exact chs_vec 36 hI rfl rfl (want_of rfl rfl rfl (ch_con hI hsz 34 rfl (dep_at ho hdep 1 ⟨34, .chain⟩ rfl rfl))) (PU.out W (ch_good hI)) (fun K hK => op_call1 (ch_con hI hsz 35 rfl (dep_at ho hdep 0 ⟨35, .data⟩ rfl rfl)) enter_impl_VecUp hK)
    | 37, _, ho, hLi =>
      exact chs_con 37 (.int .i64 (k : Int)) hI rfl rfl (want_of rfl rfl rfl (ch_con hI hsz 34 rfl (dep_at ho hdep 0 ⟨34, .guard⟩ rfl rfl))) (fun K hK => op_move ((ch_out hI 18 (Or.inl (show (18 : Nat) < 233 by decide))).trans e18) hK)
    | 38, _, ho, hLi =>
      obtain ⟨so0, co0, g0, r0⟩ := ch_vec hI hsz 36 rfl (dep_at ho hdep 0 ⟨36, .data⟩ rfl rfl)
      exact chs_call 38 (.bool lw) hI rfl rfl (want_of rfl rfl rfl (ch_con hI hsz 34 rfl (dep_at ho hdep 3 ⟨34, .guard⟩ rfl rfl))) (get_fresh (ch_good hI) han r0 _ _ GUP) (fun K hK => op_call2 g0 (ch_con hI hsz 37 rfl (dep_at ho hdep 1 ⟨37, .data⟩ rfl rfl)) enter_impl_VecGet hK)
    | 39, _, ho, hLi =>
      exact chs_con 39 (.agg #[.int .i64 a.b, .slice a.s a.n a.c]) hI rfl rfl (want_of rfl rfl rfl (ch_con hI hsz 34 rfl (dep_at ho hdep 0 ⟨34, .guard⟩ rfl rfl))) (fun K hK => op_load ((ch_out hI 5 (Or.inl (show (5 : Nat) < 233 by decide))).trans e5) (KBa W (ch_good hI)).1 (KBa W (ch_good hI)).2 hK)
    | 40, _, ho, hLi =>
      exact chs_con 40 (.int .i64 (k : Int)) hI rfl rfl (want_of rfl rfl rfl (ch_con hI hsz 34 rfl (dep_at ho hdep 0 ⟨34, .guard⟩ rfl rfl))) (fun K hK => op_move ((ch_out hI 18 (Or.inl (show (18 : Nat) < 233 by decide))).trans e18) hK)
    | 41, _, ho, hLi =>
      exact chs_con 41 (.int .i64 ((k : Int) - 1)) hI rfl rfl (want_of rfl rfl rfl (ch_con hI hsz 34 rfl (dep_at ho hdep 1 ⟨34, .guard⟩ rfl rfl))) (fun K hK => op_less1 (ch_con hI hsz 40 rfl (dep_at ho hdep 0 ⟨40, .data⟩ rfl rfl)) (by omega) (by omega) hK)
    | 42, _, ho, hLi =>
      exact chs_call 42 (.bool lw) hI rfl rfl (want_of rfl rfl rfl (ch_con hI hsz 34 rfl (dep_at ho hdep 3 ⟨34, .guard⟩ rfl rfl))) ((GLW W (ch_good hI))) (fun K hK => op_call2 (ch_con hI hsz 39 rfl (dep_at ho hdep 0 ⟨39, .data⟩ rfl rfl)) (ch_con hI hsz 41 rfl (dep_at ho hdep 1 ⟨41, .data⟩ rfl rfl)) enter_spec_VecGet hK)
    | 43, _, ho, hLi =>
      exact chs_con 43 (.bool false) hI rfl rfl (want_of rfl rfl rfl (ch_con hI hsz 34 rfl (dep_at ho hdep 2 ⟨34, .guard⟩ rfl rfl))) (fun K hK => op_neqBs (ch_con hI hsz 38 rfl (dep_at ho hdep 0 ⟨38, .data⟩ rfl rfl)) (ch_con hI hsz 42 rfl (dep_at ho hdep 1 ⟨42, .data⟩ rfl rfl)) hK)
    | 44, _, ho, hLi =>
      exact chs_con 44 (.bool false) hI rfl rfl (want_none rfl) (fun K hK => op_pickOr (ch_con hI hsz 34 rfl (dep_at ho hdep 0 ⟨34, .data⟩ rfl rfl)) (ch_con hI hsz 43 rfl (dep_at ho hdep 1 ⟨43, .data⟩ rfl rfl)) hK)
    | m + 45, hlt, _, _ => exact absurd hlt (by omega)
  · intro L ac W hall hI
    obtain ⟨V, rfl, hg, hV⟩ := hI
    exact fin V W (hV 44 _ rfl (hall 44 (by decide))) hg
theorem reg23_ft {ops : Array Oper} (hops : (Go.Proofs.Tryd.f3.body).bind (findR 23) = some ops) {Q : Exit → Act → World → Prop} {a0 : Act} {wZ w : World} {x y z u a : Vv} {px py pz pu p5 : Nat} {k : Nat} {lw : Bool}
    (hz0 : a0.tmps.size = 290) (hk0 : (k : Int) < 320) (han : a.n ≤ 1048576)
    (e5 : a0.tmps[5]? = some (.pointer (some ⟨p5, 0, none⟩))) (e13 : a0.tmps[13]? = some (.pointer (some ⟨px, 0, none⟩))) (e14 : a0.tmps[14]? = some (.pointer (some ⟨py, 0, none⟩))) (e15 : a0.tmps[15]? = some (.pointer (some ⟨pz, 0, none⟩))) (e16 : a0.tmps[16]? = some (.pointer (some ⟨pu, 0, none⟩))) (e18 : a0.tmps[18]? = some (.int .i64 (k : Int))) (e19 : a0.tmps[19]? = some (.bool false)) (e20 : a0.tmps[20]? = some (.bool true))
    (hL22 : LateV wZ w)
    (KBx : ∀ W, LateV wZ W → W.cell? ⟨px, 0, none⟩ = some (.int .i64 x.b) ∧ W.cell? ⟨px, 1, none⟩ = some (.slice x.s x.n x.c)) (KBy : ∀ W, LateV wZ W → W.cell? ⟨py, 0, none⟩ = some (.int .i64 y.b) ∧ W.cell? ⟨py, 1, none⟩ = some (.slice y.s y.n y.c)) (KBz : ∀ W, LateV wZ W → W.cell? ⟨pz, 0, none⟩ = some (.int .i64 z.b) ∧ W.cell? ⟨pz, 1, none⟩ = some (.slice z.s z.n z.c)) (KBu : ∀ W, LateV wZ W → W.cell? ⟨pu, 0, none⟩ = some (.int .i64 u.b) ∧ W.cell? ⟨pu, 1, none⟩ = some (.slice u.s u.n u.c)) (KBa : ∀ W, LateV wZ W → W.cell? ⟨p5, 0, none⟩ = some (.int .i64 a.b) ∧ W.cell? ⟨p5, 1, none⟩ = some (.slice a.s a.n a.c))
    (Gx : GivesR wZ 34 #[.agg #[.int .i64 x.b, .slice x.s x.n x.c], .int .i64 (k : Int)] (.bool false)) (Gy : GivesR wZ 34 #[.agg #[.int .i64 y.b, .slice y.s y.n y.c], .int .i64 (k : Int)] (.bool true)) (Gz : GivesR wZ 34 #[.agg #[.int .i64 z.b, .slice z.s z.n z.c], .int .i64 (k : Int)] (.bool true)) (Gu : GivesR wZ 34 #[.agg #[.int .i64 u.b, .slice u.s u.n u.c], .int .i64 (k : Int)] (.bool true))
    (PU : Hid (GivesV wZ 24 #[.agg #[.int .i64 a.b, .slice a.s a.n a.c]] a.b a.n (cutF a.b a.n (sumF 0 a.f a.f)))) (GUP : GotB a.b a.n (cutF a.b a.n (sumF 0 a.f a.f)) (k : Int) lw) (GLW : GivesR wZ 35 #[.agg #[.int .i64 a.b, .slice a.s a.n a.c], .int .i64 ((k : Int) - 1)] (.bool lw))
    (fin : ∀ (V : Nat → Value) (W : World), V 277 = .bool false → LateV wZ W → Q .normal (putL a0 V (List.range' 233 45)) W) :
    Code.wp Tryd.prog (.region 23 ops true) Q a0 w := by
  change some _ = some ops at hops
  injection hops with hops
  subst hops
  have hsz0 : 233 + 45 ≤ a0.tmps.size := by omega
  refine wp_region_inv (by kernel_rfl) (ChI ⟨fun W => LateV wZ W, a0, 233, [.con (.agg #[.int .i64 x.b, .slice x.s x.n x.c]), .con (.int .i64 (k : Int)), .con (.bool false), .con (.bool false), .con (.bool false), .con (undef), .con (.bool false), .con (.bool false), .con (.bool false), .con (.agg #[.int .i64 y.b, .slice y.s y.n y.c]), .con (.int .i64 (k : Int)), .con (.bool true), .con (.bool false), .con (.bool false), .con (.bool true), .con (.bool true), .con (.bool false), .con (.bool false), .con (.bool false), .con (.agg #[.int .i64 z.b, .slice z.s z.n z.c]), .con (.int .i64 (k : Int)), .con (.bool true), .con (.bool false), .con (.bool true), .con (.bool true), .con (.bool false), .con (.bool false), .con (.bool false), .con (.agg #[.int .i64 u.b, .slice u.s u.n u.c]), .con (.int .i64 (k : Int)), .con (.bool true), .con (.bool false), .con (.bool false), .con (.bool false), .con (.bool false), .con (.agg #[.int .i64 a.b, .slice a.s a.n a.c]), .vec a.b a.n (cutF a.b a.n (sumF 0 a.f a.f)), .con (.int .i64 (k : Int)), .con (.bool lw), .con (.agg #[.int .i64 a.b, .slice a.s a.n a.c]), .con (.int .i64 (k : Int)), .con (.int .i64 ((k : Int) - 1)), .con (.bool lw), .con (.bool false), .con (.bool false)]⟩) (acyc_of (by kernel_rfl)) (ch_start hL22.drew) ?_ ?_
  · intro L ac W i o ho hLi hdep hI
    have hsz : (233 : Nat) + 45 ≤ a0.tmps.size := hsz0
    have hlt : i < 45 := (Array.getElem?_eq_some_iff.1 ho).1
    match i, hlt, ho, hLi with
    | 0, _, ho, hLi =>
      exact chs_con 0 (.agg #[.int .i64 x.b, .slice x.s x.n x.c]) hI rfl rfl (want_none rfl) (fun K hK => op_load ((ch_out hI 13 (Or.inl (show (13 : Nat) < 233 by decide))).trans e13) (KBx W (ch_good hI)).1 (KBx W (ch_good hI)).2 hK)
    | 1, _, ho, hLi =>
      exact chs_con 1 (.int .i64 (k : Int)) hI rfl rfl (want_none rfl) (fun K hK => op_move ((ch_out hI 18 (Or.inl (show (18 : Nat) < 233 by decide))).trans e18) hK)
    | 2, _, ho, hLi =>
      exact chs_call 2 (.bool false) hI rfl rfl (want_none rfl) ((Gx W (ch_good hI))) (fun K hK => op_call2 (ch_con hI hsz 0 rfl (dep_at ho hdep 0 ⟨0, .data⟩ rfl rfl)) (ch_con hI hsz 1 rfl (dep_at ho hdep 1 ⟨1, .data⟩ rfl rfl)) enter_impl_VecGet hK)
    | 3, _, ho, hLi =>
      exact chs_con 3 (.bool false) hI rfl rfl (want_none rfl) (fun K hK => op_move ((ch_out hI 19 (Or.inl (show (19 : Nat) < 233 by decide))).trans e19) hK)
    | 4, _, ho, hLi =>
      exact chs_con 4 (.bool false) hI rfl rfl (want_none rfl) (fun K hK => op_move (ch_con hI hsz 3 rfl (dep_at ho hdep 0 ⟨3, .data⟩ rfl rfl)) hK)
    | 5, _, ho, hLi =>
      exact chs_skip 5 hI rfl rfl rfl (unwant_of rfl rfl rfl (ch_con hI hsz 4 rfl (dep_at ho hdep 0 ⟨4, .guard⟩ rfl rfl)) rfl)
    | 6, _, ho, hLi =>
      exact chs_con 6 (.bool false) hI rfl rfl (want_none rfl) (fun K hK => op_pickAnd0 (ch_con hI hsz 4 rfl (dep_at ho hdep 0 ⟨4, .data⟩ rfl rfl)) hK)
    | 7, _, ho, hLi =>
      exact chs_con 7 (.bool false) hI rfl rfl (want_none rfl) (fun K hK => op_neqB (ch_con hI hsz 2 rfl (dep_at ho hdep 0 ⟨2, .data⟩ rfl rfl)) (ch_con hI hsz 6 rfl (dep_at ho hdep 1 ⟨6, .data⟩ rfl rfl)) hK)
    | 8, _, ho, hLi =>
      exact chs_con 8 (.bool false) hI rfl rfl (want_none rfl) (fun K hK => op_move (ch_con hI hsz 7 rfl (dep_at ho hdep 0 ⟨7, .data⟩ rfl rfl)) hK)
    | 9, _, ho, hLi =>
      exact chs_con 9 (.agg #[.int .i64 y.b, .slice y.s y.n y.c]) hI rfl rfl (want_of rfl rfl rfl (ch_con hI hsz 8 rfl (dep_at ho hdep 0 ⟨8, .guard⟩ rfl rfl))) (fun K hK => op_load ((ch_out hI 14 (Or.inl (show (14 : Nat) < 233 by decide))).trans e14) (KBy W (ch_good hI)).1 (KBy W (ch_good hI)).2 hK)
    | 10, _, ho, hLi =>
      exact chs_con 10 (.int .i64 (k : Int)) hI rfl rfl (want_of rfl rfl rfl (ch_con hI hsz 8 rfl (dep_at ho hdep 0 ⟨8, .guard⟩ rfl rfl))) (fun K hK => op_move ((ch_out hI 18 (Or.inl (show (18 : Nat) < 233 by decide))).trans e18) hK)
    | 11, _, ho, hLi =>
      exact chs_call 11 (.bool true) hI rfl rfl (want_of rfl rfl rfl (ch_con hI hsz 8 rfl (dep_at ho hdep 2 ⟨8, .chain⟩ rfl rfl))) ((Gy W (ch_good hI))) (fun K hK => op_call2 (ch_con hI hsz 9 rfl (dep_at ho hdep 0 ⟨9, .data⟩ rfl rfl)) (ch_con hI hsz 10 rfl (dep_at ho hdep 1 ⟨10, .data⟩ rfl rfl)) enter_impl_VecGet hK)
    | 12, _, ho, hLi =>
      exact chs_con 12 (.bool false) hI rfl rfl (want_of rfl rfl rfl (ch_con hI hsz 8 rfl (dep_at ho hdep 0 ⟨8, .guard⟩ rfl rfl))) (fun K hK => op_move ((ch_out hI 19 (Or.inl (show (19 : Nat) < 233 by decide))).trans e19) hK)
    | 13, _, ho, hLi =>
      exact chs_con 13 (.bool false) hI rfl rfl (want_of rfl rfl rfl (ch_con hI hsz 8 rfl (dep_at ho hdep 2 ⟨8, .guard⟩ rfl rfl))) (fun K hK => op_move (ch_con hI hsz 12 rfl (dep_at ho hdep 0 ⟨12, .data⟩ rfl rfl)) hK)
    | 14, _, ho, hLi =>
      exact chs_con 14 (.bool true) hI rfl rfl (want_of rfl rfl rfl (ch_con hI hsz 13 rfl (dep_at ho hdep 0 ⟨13, .guard⟩ rfl rfl))) (fun K hK => op_move ((ch_out hI 20 (Or.inl (show (20 : Nat) < 233 by decide))).trans e20) hK)
    | 15, _, ho, hLi =>
      exact chs_con 15 (.bool true) hI rfl rfl (want_of rfl rfl rfl (ch_con hI hsz 8 rfl (dep_at ho hdep 2 ⟨8, .guard⟩ rfl rfl))) (fun K hK => op_pickOr (ch_con hI hsz 13 rfl (dep_at ho hdep 0 ⟨13, .data⟩ rfl rfl)) (ch_con hI hsz 14 rfl (dep_at ho hdep 1 ⟨14, .data⟩ rfl rfl)) hK)
    | 16, _, ho, hLi =>
      exact chs_con 16 (.bool false) hI rfl rfl (want_of rfl rfl rfl (ch_con hI hsz 8 rfl (dep_at ho hdep 2 ⟨8, .guard⟩ rfl rfl))) (fun K hK => op_neqB (ch_con hI hsz 11 rfl (dep_at ho hdep 0 ⟨11, .data⟩ rfl rfl)) (ch_con hI hsz 15 rfl (dep_at ho hdep 1 ⟨15, .data⟩ rfl rfl)) hK)
    | 17, _, ho, hLi =>
      exact chs_con 17 (.bool false) hI rfl rfl (want_none rfl) (fun K hK => op_pickOr (ch_con hI hsz 8 rfl (dep_at ho hdep 0 ⟨8, .data⟩ rfl rfl)) (ch_con hI hsz 16 rfl (dep_at ho hdep 1 ⟨16, .data⟩ rfl rfl)) hK)
    | 18, _, ho, hLi =>
      exact chs_con 18 (.bool false) hI rfl rfl (want_none rfl) (fun K hK => op_move (ch_con hI hsz 17 rfl (dep_at ho hdep 0 ⟨17, .data⟩ rfl rfl)) hK)
    | 19, _, ho, hLi =>
      exact chs_con 19 (.agg #[.int .i64 z.b, .slice z.s z.n z.c]) hI rfl rfl (want_of rfl rfl rfl (ch_con hI hsz 18 rfl (dep_at ho hdep 0 ⟨18, .guard⟩ rfl rfl))) (fun K hK => op_load ((ch_out hI 15 (Or.inl (show (15 : Nat) < 233 by decide))).trans e15) (KBz W (ch_good hI)).1 (KBz W (ch_good hI)).2 hK)
    | 20, _, ho, hLi =>
      exact chs_con 20 (.int .i64 (k : Int)) hI rfl rfl (want_of rfl rfl rfl (ch_con hI hsz 18 rfl (dep_at ho hdep 0 ⟨18, .guard⟩ rfl rfl))) (fun K hK => op_move ((ch_out hI 18 (Or.inl (show (18 : Nat) < 233 by decide))).trans e18) hK)
    | 21, _, ho, hLi =>
      exact chs_call 21 (.bool true) hI rfl rfl (want_of rfl rfl rfl (ch_con hI hsz 18 rfl (dep_at ho hdep 2 ⟨18, .chain⟩ rfl rfl))) ((Gz W (ch_good hI))) (fun K hK => op_call2 (ch_con hI hsz 19 rfl (dep_at ho hdep 0 ⟨19, .data⟩ rfl rfl)) (ch_con hI hsz 20 rfl (dep_at ho hdep 1 ⟨20, .data⟩ rfl rfl)) enter_impl_VecGet hK)
    | 22, _, ho, hLi =>
      exact chs_con 22 (.bool false) hI rfl rfl (want_of rfl rfl rfl (ch_con hI hsz 18 rfl (dep_at ho hdep 0 ⟨18, .guard⟩ rfl rfl))) (fun K hK => op_move ((ch_out hI 19 (Or.inl (show (19 : Nat) < 233 by decide))).trans e19) hK)
    | 23, _, ho, hLi =>
      exact chs_con 23 (.bool true) hI rfl rfl (want_of rfl rfl rfl (ch_con hI hsz 18 rfl (dep_at ho hdep 0 ⟨18, .guard⟩ rfl rfl))) (fun K hK => op_move ((ch_out hI 20 (Or.inl (show (20 : Nat) < 233 by decide))).trans e20) hK)
    | 24, _, ho, hLi =>
      exact chs_con 24 (.bool true) hI rfl rfl (want_of rfl rfl rfl (ch_con hI hsz 18 rfl (dep_at ho hdep 2 ⟨18, .guard⟩ rfl rfl))) (fun K hK => op_neqB (ch_con hI hsz 22 rfl (dep_at ho hdep 0 ⟨22, .data⟩ rfl rfl)) (ch_con hI hsz 23 rfl (dep_at ho hdep 1 ⟨23, .data⟩ rfl rfl)) hK)
    | 25, _, ho, hLi =>
      exact chs_con 25 (.bool false) hI rfl rfl (want_of rfl rfl rfl (ch_con hI hsz 18 rfl (dep_at ho hdep 2 ⟨18, .guard⟩ rfl rfl))) (fun K hK => op_neqB (ch_con hI hsz 21 rfl (dep_at ho hdep 0 ⟨21, .data⟩ rfl rfl)) (ch_con hI hsz 24 rfl (dep_at ho hdep 1 ⟨24, .data⟩ rfl rfl)) hK)
    | 26, _, ho, hLi =>
      exact chs_con 26 (.bool false) hI rfl rfl (want_none rfl) (fun K hK => op_pickOr (ch_con hI hsz 18 rfl (dep_at ho hdep 0 ⟨18, .data⟩ rfl rfl)) (ch_con hI hsz 25 rfl (dep_at ho hdep 1 ⟨25, .data⟩ rfl rfl)) hK)
    | 27, _, ho, hLi =>
      exact chs_con 27 (.bool false) hI rfl rfl (want_none rfl) (fun K hK => op_move (ch_con hI hsz 26 rfl (dep_at ho hdep 0 ⟨26, .data⟩ rfl rfl)) hK)
    | 28, _, ho, hLi =>
      exact chs_con 28 (.agg #[.int .i64 u.b, .slice u.s u.n u.c]) hI rfl rfl (want_of rfl rfl rfl (ch_con hI hsz 27 rfl (dep_at ho hdep 0 ⟨27, .guard⟩ rfl rfl))) (fun K hK => op_load ((ch_out hI 16 (Or.inl (show (16 : Nat) < 233 by decide))).trans e16) (KBu W (ch_good hI)).1 (KBu W (ch_good hI)).2 hK)
    | 29, _, ho, hLi =>
      exact chs_con 29 (.int .i64 (k : Int)) hI rfl rfl (want_of rfl rfl rfl (ch_con hI hsz 27 rfl (dep_at ho hdep 0 ⟨27, .guard⟩ rfl rfl))) (fun K hK => op_move ((ch_out hI 18 (Or.inl (show (18 : Nat) < 233 by decide))).trans e18) hK)
    | 30, _, ho, hLi =>
      exact chs_call 30 (.bool true) hI rfl rfl (want_of rfl rfl rfl (ch_con hI hsz 27 rfl (dep_at ho hdep 2 ⟨27, .chain⟩ rfl rfl))) ((Gu W (ch_good hI))) (fun K hK => op_call2 (ch_con hI hsz 28 rfl (dep_at ho hdep 0 ⟨28, .data⟩ rfl rfl)) (ch_con hI hsz 29 rfl (dep_at ho hdep 1 ⟨29, .data⟩ rfl rfl)) enter_impl_VecGet hK)
    | 31, _, ho, hLi =>
      exact chs_con 31 (.bool false) hI rfl rfl (want_of rfl rfl rfl (ch_con hI hsz 27 rfl (dep_at ho hdep 0 ⟨27, .guard⟩ rfl rfl))) (fun K hK => op_move ((ch_out hI 19 (Or.inl (show (19 : Nat) < 233 by decide))).trans e19) hK)
    | 32, _, ho, hLi =>
      exact chs_con 32 (.bool false) hI rfl rfl (want_of rfl rfl rfl (ch_con hI hsz 27 rfl (dep_at ho hdep 2 ⟨27, .guard⟩ rfl rfl))) (fun K hK => op_eqlB (ch_con hI hsz 30 rfl (dep_at ho hdep 0 ⟨30, .data⟩ rfl rfl)) (ch_con hI hsz 31 rfl (dep_at ho hdep 1 ⟨31, .data⟩ rfl rfl)) rfl hK)
    | 33, _, ho, hLi =>
      exact chs_con 33 (.bool false) hI rfl rfl (want_none rfl) (fun K hK => op_pickOr (ch_con hI hsz 27 rfl (dep_at ho hdep 0 ⟨27, .data⟩ rfl rfl)) (ch_con hI hsz 32 rfl (dep_at ho hdep 1 ⟨32, .data⟩ rfl rfl)) hK)
    | 34, _, ho, hLi =>
      exact chs_con 34 (.bool false) hI rfl rfl (want_none rfl) (fun K hK => op_move (ch_con hI hsz 33 rfl (dep_at ho hdep 0 ⟨33, .data⟩ rfl rfl)) hK)
    | 35, _, ho, hLi =>
      exact chs_con 35 (.agg #[.int .i64 a.b, .slice a.s a.n a.c]) hI rfl rfl (want_of rfl rfl rfl (ch_con hI hsz 34 rfl (dep_at ho hdep 0 ⟨34, .guard⟩ rfl rfl))) (fun K hK => op_load ((ch_out hI 5 (Or.inl (show (5 : Nat) < 233 by decide))).trans e5) (KBa W (ch_good hI)).1 (KBa W (ch_good hI)).2 hK)
    | 36, _, ho, hLi =>
      exact chs_vec 36 hI rfl rfl (want_of rfl rfl rfl (ch_con hI hsz 34 rfl (dep_at ho hdep 1 ⟨34, .chain⟩ rfl rfl))) (PU.out W (ch_good hI)) (fun K hK => op_call1 (ch_con hI hsz 35 rfl (dep_at ho hdep 0 ⟨35, .data⟩ rfl rfl)) enter_impl_VecUp hK)
    | 37, _, ho, hLi =>
      exact chs_con 37 (.int .i64 (k : Int)) hI rfl rfl (want_of rfl rfl rfl (ch_con hI hsz 34 rfl (dep_at ho hdep 0 ⟨34, .guard⟩ rfl rfl))) (fun K hK => op_move ((ch_out hI 18 (Or.inl (show (18 : Nat) < 233 by decide))).trans e18) hK)
    | 38, _, ho, hLi =>
      obtain ⟨so0, co0, g0, r0⟩ := ch_vec hI hsz 36 rfl (dep_at ho hdep 0 ⟨36, .data⟩ rfl rfl)
      exact chs_call 38 (.bool lw) hI rfl rfl (want_of rfl rfl rfl (ch_con hI hsz 34 rfl (dep_at ho hdep 3 ⟨34, .guard⟩ rfl rfl))) (get_fresh (ch_good hI) han r0 _ _ GUP) (fun K hK => op_call2 g0 (ch_con hI hsz 37 rfl (dep_at ho hdep 1 ⟨37, .data⟩ rfl rfl)) enter_impl_VecGet hK)
    | 39, _, ho, hLi =>
      exact chs_con 39 (.agg #[.int .i64 a.b, .slice a.s a.n a.c]) hI rfl rfl (want_of rfl rfl rfl (ch_con hI hsz 34 rfl (dep_at ho hdep 0 ⟨34, .guard⟩ rfl rfl))) (fun K hK => op_load ((ch_out hI 5 (Or.inl (show (5 : Nat) < 233 by decide))).trans e5) (KBa W (ch_good hI)).1 (KBa W (ch_good hI)).2 hK)
    | 40, _, ho, hLi =>
      exact chs_con 40 (.int .i64 (k : Int)) hI rfl rfl (want_of rfl rfl rfl (ch_con hI hsz 34 rfl (dep_at ho hdep 0 ⟨34, .guard⟩ rfl rfl))) (fun K hK => op_move ((ch_out hI 18 (Or.inl (show (18 : Nat) < 233 by decide))).trans e18) hK)
    | 41, _, ho, hLi =>
      exact chs_con 41 (.int .i64 ((k : Int) - 1)) hI rfl rfl (want_of rfl rfl rfl (ch_con hI hsz 34 rfl (dep_at ho hdep 1 ⟨34, .guard⟩ rfl rfl))) (fun K hK => op_less1 (ch_con hI hsz 40 rfl (dep_at ho hdep 0 ⟨40, .data⟩ rfl rfl)) (by omega) (by omega) hK)
    | 42, _, ho, hLi =>
      exact chs_call 42 (.bool lw) hI rfl rfl (want_of rfl rfl rfl (ch_con hI hsz 34 rfl (dep_at ho hdep 3 ⟨34, .guard⟩ rfl rfl))) ((GLW W (ch_good hI))) (fun K hK => op_call2 (ch_con hI hsz 39 rfl (dep_at ho hdep 0 ⟨39, .data⟩ rfl rfl)) (ch_con hI hsz 41 rfl (dep_at ho hdep 1 ⟨41, .data⟩ rfl rfl)) enter_spec_VecGet hK)
    | 43, _, ho, hLi =>
      exact chs_con 43 (.bool false) hI rfl rfl (want_of rfl rfl rfl (ch_con hI hsz 34 rfl (dep_at ho hdep 2 ⟨34, .guard⟩ rfl rfl))) (fun K hK => op_neqBs (ch_con hI hsz 38 rfl (dep_at ho hdep 0 ⟨38, .data⟩ rfl rfl)) (ch_con hI hsz 42 rfl (dep_at ho hdep 1 ⟨42, .data⟩ rfl rfl)) hK)
    | 44, _, ho, hLi =>
      exact chs_con 44 (.bool false) hI rfl rfl (want_none rfl) (fun K hK => op_pickOr (ch_con hI hsz 34 rfl (dep_at ho hdep 0 ⟨34, .data⟩ rfl rfl)) (ch_con hI hsz 43 rfl (dep_at ho hdep 1 ⟨43, .data⟩ rfl rfl)) hK)
    | m + 45, hlt, _, _ => exact absurd hlt (by omega)
  · intro L ac W hall hI
    obtain ⟨V, rfl, hg, hV⟩ := hI
    exact fin V W (hV 44 _ rfl (hall 44 (by decide))) hg
theorem reg23_tf {ops : Array Oper} (hops : (Go.Proofs.Tryd.f3.body).bind (findR 23) = some ops) {Q : Exit → Act → World → Prop} {a0 : Act} {wZ w : World} {x y z u a : Vv} {px py pz pu p5 : Nat} {k : Nat} {lw : Bool}
    (hz0 : a0.tmps.size = 290) (hk0 : (k : Int) < 320) (han : a.n ≤ 1048576)
    (e5 : a0.tmps[5]? = some (.pointer (some ⟨p5, 0, none⟩))) (e13 : a0.tmps[13]? = some (.pointer (some ⟨px, 0, none⟩))) (e14 : a0.tmps[14]? = some (.pointer (some ⟨py, 0, none⟩))) (e15 : a0.tmps[15]? = some (.pointer (some ⟨pz, 0, none⟩))) (e16 : a0.tmps[16]? = some (.pointer (some ⟨pu, 0, none⟩))) (e18 : a0.tmps[18]? = some (.int .i64 (k : Int))) (e19 : a0.tmps[19]? = some (.bool true)) (e20 : a0.tmps[20]? = some (.bool false))
    (hL22 : LateV wZ w)
    (KBx : ∀ W, LateV wZ W → W.cell? ⟨px, 0, none⟩ = some (.int .i64 x.b) ∧ W.cell? ⟨px, 1, none⟩ = some (.slice x.s x.n x.c)) (KBy : ∀ W, LateV wZ W → W.cell? ⟨py, 0, none⟩ = some (.int .i64 y.b) ∧ W.cell? ⟨py, 1, none⟩ = some (.slice y.s y.n y.c)) (KBz : ∀ W, LateV wZ W → W.cell? ⟨pz, 0, none⟩ = some (.int .i64 z.b) ∧ W.cell? ⟨pz, 1, none⟩ = some (.slice z.s z.n z.c)) (KBu : ∀ W, LateV wZ W → W.cell? ⟨pu, 0, none⟩ = some (.int .i64 u.b) ∧ W.cell? ⟨pu, 1, none⟩ = some (.slice u.s u.n u.c)) (KBa : ∀ W, LateV wZ W → W.cell? ⟨p5, 0, none⟩ = some (.int .i64 a.b) ∧ W.cell? ⟨p5, 1, none⟩ = some (.slice a.s a.n a.c))
    (Gx : GivesR wZ 34 #[.agg #[.int .i64 x.b, .slice x.s x.n x.c], .int .i64 (k : Int)] (.bool false)) (Gy : GivesR wZ 34 #[.agg #[.int .i64 y.b, .slice y.s y.n y.c], .int .i64 (k : Int)] (.bool true)) (Gz : GivesR wZ 34 #[.agg #[.int .i64 z.b, .slice z.s z.n z.c], .int .i64 (k : Int)] (.bool true)) (Gu : GivesR wZ 34 #[.agg #[.int .i64 u.b, .slice u.s u.n u.c], .int .i64 (k : Int)] (.bool false))
    (PU : Hid (GivesV wZ 24 #[.agg #[.int .i64 a.b, .slice a.s a.n a.c]] a.b a.n (cutF a.b a.n (sumF 0 a.f a.f)))) (GUP : GotB a.b a.n (cutF a.b a.n (sumF 0 a.f a.f)) (k : Int) lw) (GLW : GivesR wZ 35 #[.agg #[.int .i64 a.b, .slice a.s a.n a.c], .int .i64 ((k : Int) - 1)] (.bool lw))
    (fin : ∀ (V : Nat → Value) (W : World), V 277 = .bool false → LateV wZ W → Q .normal (putL a0 V (List.range' 233 45)) W) :
    Code.wp Tryd.prog (.region 23 ops true) Q a0 w := by
  change some _ = some ops at hops
  injection hops with hops
  subst hops
  have hsz0 : 233 + 45 ≤ a0.tmps.size := by omega
  refine wp_region_inv (by kernel_rfl) (ChI ⟨fun W => LateV wZ W, a0, 233, [.con (.agg #[.int .i64 x.b, .slice x.s x.n x.c]), .con (.int .i64 (k : Int)), .con (.bool false), .con (.bool true), .con (.bool true), .con (.bool false), .con (.bool false), .con (.bool false), .con (.bool false), .con (.agg #[.int .i64 y.b, .slice y.s y.n y.c]), .con (.int .i64 (k : Int)), .con (.bool true), .con (.bool true), .con (.bool true), .con (undef), .con (.bool true), .con (.bool false), .con (.bool false), .con (.bool false), .con (.agg #[.int .i64 z.b, .slice z.s z.n z.c]), .con (.int .i64 (k : Int)), .con (.bool true), .con (.bool true), .con (.bool false), .con (.bool true), .con (.bool false), .con (.bool false), .con (.bool false), .con (.agg #[.int .i64 u.b, .slice u.s u.n u.c]), .con (.int .i64 (k : Int)), .con (.bool false), .con (.bool true), .con (.bool false), .con (.bool false), .con (.bool false), .con (.agg #[.int .i64 a.b, .slice a.s a.n a.c]), .vec a.b a.n (cutF a.b a.n (sumF 0 a.f a.f)), .con (.int .i64 (k : Int)), .con (.bool lw), .con (.agg #[.int .i64 a.b, .slice a.s a.n a.c]), .con (.int .i64 (k : Int)), .con (.int .i64 ((k : Int) - 1)), .con (.bool lw), .con (.bool false), .con (.bool false)]⟩) (acyc_of (by kernel_rfl)) (ch_start hL22.drew) ?_ ?_
  · intro L ac W i o ho hLi hdep hI
    have hsz : (233 : Nat) + 45 ≤ a0.tmps.size := hsz0
    have hlt : i < 45 := (Array.getElem?_eq_some_iff.1 ho).1
    match i, hlt, ho, hLi with
    | 0, _, ho, hLi =>
      exact chs_con 0 (.agg #[.int .i64 x.b, .slice x.s x.n x.c]) hI rfl rfl (want_none rfl) (fun K hK => op_load ((ch_out hI 13 (Or.inl (show (13 : Nat) < 233 by decide))).trans e13) (KBx W (ch_good hI)).1 (KBx W (ch_good hI)).2 hK)
    | 1, _, ho, hLi =>
      exact chs_con 1 (.int .i64 (k : Int)) hI rfl rfl (want_none rfl) (fun K hK => op_move ((ch_out hI 18 (Or.inl (show (18 : Nat) < 233 by decide))).trans e18) hK)
    | 2, _, ho, hLi =>
      exact chs_call 2 (.bool false) hI rfl rfl (want_none rfl) ((Gx W (ch_good hI))) (fun K hK => op_call2 (ch_con hI hsz 0 rfl (dep_at ho hdep 0 ⟨0, .data⟩ rfl rfl)) (ch_con hI hsz 1 rfl (dep_at ho hdep 1 ⟨1, .data⟩ rfl rfl)) enter_impl_VecGet hK)
    | 3, _, ho, hLi =>
      exact chs_con 3 (.bool true) hI rfl rfl (want_none rfl) (fun K hK => op_move ((ch_out hI 19 (Or.inl (show (19 : Nat) < 233 by decide))).trans e19) hK)
    | 4, _, ho, hLi =>
      exact chs_con 4 (.bool true) hI rfl rfl (want_none rfl) (fun K hK => op_move (ch_con hI hsz 3 rfl (dep_at ho hdep 0 ⟨3, .data⟩ rfl rfl)) hK)
    | 5, _, ho, hLi =>
      exact chs_con 5 (.bool false) hI rfl rfl (want_of rfl rfl rfl (ch_con hI hsz 4 rfl (dep_at ho hdep 0 ⟨4, .guard⟩ rfl rfl))) (fun K hK => op_move ((ch_out hI 20 (Or.inl (show (20 : Nat) < 233 by decide))).trans e20) hK)
    | 6, _, ho, hLi =>
      exact chs_con 6 (.bool false) hI rfl rfl (want_none rfl) (fun K hK => op_pickAnd1 (ch_con hI hsz 4 rfl (dep_at ho hdep 0 ⟨4, .data⟩ rfl rfl)) (ch_con hI hsz 5 rfl (dep_at ho hdep 1 ⟨5, .data⟩ rfl rfl)) hK)
    | 7, _, ho, hLi =>
      exact chs_con 7 (.bool false) hI rfl rfl (want_none rfl) (fun K hK => op_neqB (ch_con hI hsz 2 rfl (dep_at ho hdep 0 ⟨2, .data⟩ rfl rfl)) (ch_con hI hsz 6 rfl (dep_at ho hdep 1 ⟨6, .data⟩ rfl rfl)) hK)
    | 8, _, ho, hLi =>
      exact chs_con 8 (.bool false) hI rfl rfl (want_none rfl) (fun K hK => op_move (ch_con hI hsz 7 rfl (dep_at ho hdep 0 ⟨7, .data⟩ rfl rfl)) hK)
    | 9, _, ho, hLi =>
      exact chs_con 9 (.agg #[.int .i64 y.b, .slice y.s y.n y.c]) hI rfl rfl (want_of rfl rfl rfl (ch_con hI hsz 8 rfl (dep_at ho hdep 0 ⟨8, .guard⟩ rfl rfl))) (fun K hK => op_load ((ch_out hI 14 (Or.inl (show (14 : Nat) < 233 by decide))).trans e14) (KBy W (ch_good hI)).1 (KBy W (ch_good hI)).2 hK)
    | 10, _, ho, hLi =>
      exact chs_con 10 (.int .i64 (k : Int)) hI rfl rfl (want_of rfl rfl rfl (ch_con hI hsz 8 rfl (dep_at ho hdep 0 ⟨8, .guard⟩ rfl rfl))) (fun K hK => op_move ((ch_out hI 18 (Or.inl (show (18 : Nat) < 233 by decide))).trans e18) hK)
    | 11, _, ho, hLi =>
      exact chs_call 11 (.bool true) hI rfl rfl (want_of rfl rfl rfl (ch_con hI hsz 8 rfl (dep_at ho hdep 2 ⟨8, .chain⟩ rfl rfl))) ((Gy W (ch_good hI))) (fun K hK => op_call2 (ch_con hI hsz 9 rfl (dep_at ho hdep 0 ⟨9, .data⟩ rfl rfl)) (ch_con hI hsz 10 rfl (dep_at ho hdep 1 ⟨10, .data⟩ rfl rfl)) enter_impl_VecGet hK)
    | 12, _, ho, hLi =>
      exact chs_con 12 (.bool true) hI rfl rfl (want_of rfl rfl rfl (ch_con hI hsz 8 rfl (dep_at ho hdep 0 ⟨8, .guard⟩ rfl rfl))) (fun K hK => op_move ((ch_out hI 19 (Or.inl (show (19 : Nat) < 233 by decide))).trans e19) hK)
    | 13, _, ho, hLi =>
      exact chs_con 13 (.bool true) hI rfl rfl (want_of rfl rfl rfl (ch_con hI hsz 8 rfl (dep_at ho hdep 2 ⟨8, .guard⟩ rfl rfl))) (fun K hK => op_move (ch_con hI hsz 12 rfl (dep_at ho hdep 0 ⟨12, .data⟩ rfl rfl)) hK)
    | 14, _, ho, hLi =>
      exact chs_skip 14 hI rfl rfl rfl (unwant_of rfl rfl rfl (ch_con hI hsz 13 rfl (dep_at ho hdep 0 ⟨13, .guard⟩ rfl rfl)) rfl)
    | 15, _, ho, hLi =>
      exact chs_con 15 (.bool true) hI rfl rfl (want_of rfl rfl rfl (ch_con hI hsz 8 rfl (dep_at ho hdep 2 ⟨8, .guard⟩ rfl rfl))) (fun K hK => op_pickOr1 (ch_con hI hsz 13 rfl (dep_at ho hdep 0 ⟨13, .data⟩ rfl rfl)) hK)
    | 16, _, ho, hLi =>
      exact chs_con 16 (.bool false) hI rfl rfl (want_of rfl rfl rfl (ch_con hI hsz 8 rfl (dep_at ho hdep 2 ⟨8, .guard⟩ rfl rfl))) (fun K hK => op_neqB (ch_con hI hsz 11 rfl (dep_at ho hdep 0 ⟨11, .data⟩ rfl rfl)) (ch_con hI hsz 15 rfl (dep_at ho hdep 1 ⟨15, .data⟩ rfl rfl)) hK)
    | 17, _, ho, hLi =>
      exact chs_con 17 (.bool false) hI rfl rfl (want_none rfl) (fun K hK => op_pickOr (ch_con hI hsz 8 rfl (dep_at ho hdep 0 ⟨8, .data⟩ rfl rfl)) (ch_con hI hsz 16 rfl (dep_at ho hdep 1 ⟨16, .data⟩ rfl rfl)) hK)
    | 18, _, ho, hLi =>
      exact chs_con 18 (.bool false) hI rfl rfl (want_none rfl) (fun K hK => op_move (ch_con hI hsz 17 rfl (dep_at ho hdep 0 ⟨17, .data⟩ rfl rfl)) hK)
    | 19, _, ho, hLi =>
      exact chs_con 19 (.agg #[.int .i64 z.b, .slice z.s z.n z.c]) hI rfl rfl (want_of rfl rfl rfl (ch_con hI hsz 18 rfl (dep_at ho hdep 0 ⟨18, .guard⟩ rfl rfl))) (fun K hK => op_load ((ch_out hI 15 (Or.inl (show (15 : Nat) < 233 by decide))).trans e15) (KBz W (ch_good hI)).1 (KBz W (ch_good hI)).2 hK)
    | 20, _, ho, hLi =>
      exact chs_con 20 (.int .i64 (k : Int)) hI rfl rfl (want_of rfl rfl rfl (ch_con hI hsz 18 rfl (dep_at ho hdep 0 ⟨18, .guard⟩ rfl rfl))) (fun K hK => op_move ((ch_out hI 18 (Or.inl (show (18 : Nat) < 233 by decide))).trans e18) hK)
    | 21, _, ho, hLi =>
      exact chs_call 21 (.bool true) hI rfl rfl (want_of rfl rfl rfl (ch_con hI hsz 18 rfl (dep_at ho hdep 2 ⟨18, .chain⟩ rfl rfl))) ((Gz W (ch_good hI))) (fun K hK => op_call2 (ch_con hI hsz 19 rfl (dep_at ho hdep 0 ⟨19, .data⟩ rfl rfl)) (ch_con hI hsz 20 rfl (dep_at ho hdep 1 ⟨20, .data⟩ rfl rfl)) enter_impl_VecGet hK)
    | 22, _, ho, hLi =>
      exact chs_con 22 (.bool true) hI rfl rfl (want_of rfl rfl rfl (ch_con hI hsz 18 rfl (dep_at ho hdep 0 ⟨18, .guard⟩ rfl rfl))) (fun K hK => op_move ((ch_out hI 19 (Or.inl (show (19 : Nat) < 233 by decide))).trans e19) hK)
    | 23, _, ho, hLi =>
      exact chs_con 23 (.bool false) hI rfl rfl (want_of rfl rfl rfl (ch_con hI hsz 18 rfl (dep_at ho hdep 0 ⟨18, .guard⟩ rfl rfl))) (fun K hK => op_move ((ch_out hI 20 (Or.inl (show (20 : Nat) < 233 by decide))).trans e20) hK)
    | 24, _, ho, hLi =>
      exact chs_con 24 (.bool true) hI rfl rfl (want_of rfl rfl rfl (ch_con hI hsz 18 rfl (dep_at ho hdep 2 ⟨18, .guard⟩ rfl rfl))) (fun K hK => op_neqB (ch_con hI hsz 22 rfl (dep_at ho hdep 0 ⟨22, .data⟩ rfl rfl)) (ch_con hI hsz 23 rfl (dep_at ho hdep 1 ⟨23, .data⟩ rfl rfl)) hK)
    | 25, _, ho, hLi =>
      exact chs_con 25 (.bool false) hI rfl rfl (want_of rfl rfl rfl (ch_con hI hsz 18 rfl (dep_at ho hdep 2 ⟨18, .guard⟩ rfl rfl))) (fun K hK => op_neqB (ch_con hI hsz 21 rfl (dep_at ho hdep 0 ⟨21, .data⟩ rfl rfl)) (ch_con hI hsz 24 rfl (dep_at ho hdep 1 ⟨24, .data⟩ rfl rfl)) hK)
    | 26, _, ho, hLi =>
      exact chs_con 26 (.bool false) hI rfl rfl (want_none rfl) (fun K hK => op_pickOr (ch_con hI hsz 18 rfl (dep_at ho hdep 0 ⟨18, .data⟩ rfl rfl)) (ch_con hI hsz 25 rfl (dep_at ho hdep 1 ⟨25, .data⟩ rfl rfl)) hK)
    | 27, _, ho, hLi =>
      exact chs_con 27 (.bool false) hI rfl rfl (want_none rfl) (fun K hK => op_move (ch_con hI hsz 26 rfl (dep_at ho hdep 0 ⟨26, .data⟩ rfl rfl)) hK)
    | 28, _, ho, hLi =>
      exact chs_con 28 (.agg #[.int .i64 u.b, .slice u.s u.n u.c]) hI rfl rfl (want_of rfl rfl rfl (ch_con hI hsz 27 rfl (dep_at ho hdep 0 ⟨27, .guard⟩ rfl rfl))) (fun K hK => op_load ((ch_out hI 16 (Or.inl (show (16 : Nat) < 233 by decide))).trans e16) (KBu W (ch_good hI)).1 (KBu W (ch_good hI)).2 hK)
    | 29, _, ho, hLi =>
      exact chs_con 29 (.int .i64 (k : Int)) hI rfl rfl (want_of rfl rfl rfl (ch_con hI hsz 27 rfl (dep_at ho hdep 0 ⟨27, .guard⟩ rfl rfl))) (fun K hK => op_move ((ch_out hI 18 (Or.inl (show (18 : Nat) < 233 by decide))).trans e18) hK)
    | 30, _, ho, hLi =>
      exact chs_call 30 (.bool false) hI rfl rfl (want_of rfl rfl rfl (ch_con hI hsz 27 rfl (dep_at ho hdep 2 ⟨27, .chain⟩ rfl rfl))) ((Gu W (ch_good hI))) (fun K hK => op_call2 (ch_con hI hsz 28 rfl (dep_at ho hdep 0 ⟨28, .data⟩ rfl rfl)) (ch_con hI hsz 29 rfl (dep_at ho hdep 1 ⟨29, .data⟩ rfl rfl)) enter_impl_VecGet hK)
    | 31, _, ho, hLi =>
      exact chs_con 31 (.bool true) hI rfl rfl (want_of rfl rfl rfl (ch_con hI hsz 27 rfl (dep_at ho hdep 0 ⟨27, .guard⟩ rfl rfl))) (fun K hK => op_move ((ch_out hI 19 (Or.inl (show (19 : Nat) < 233 by decide))).trans e19) hK)
    | 32, _, ho, hLi =>
      exact chs_con 32 (.bool false) hI rfl rfl (want_of rfl rfl rfl (ch_con hI hsz 27 rfl (dep_at ho hdep 2 ⟨27, .guard⟩ rfl rfl))) (fun K hK => op_eqlB (ch_con hI hsz 30 rfl (dep_at ho hdep 0 ⟨30, .data⟩ rfl rfl)) (ch_con hI hsz 31 rfl (dep_at ho hdep 1 ⟨31, .data⟩ rfl rfl)) rfl hK)
    | 33, _, ho, hLi =>
      exact chs_con 33 (.bool false) hI rfl rfl (want_none rfl) (fun K hK => op_pickOr (ch_con hI hsz 27 rfl (dep_at ho hdep 0 ⟨27, .data⟩ rfl rfl)) (ch_con hI hsz 32 rfl (dep_at ho hdep 1 ⟨32, .data⟩ rfl rfl)) hK)
    | 34, _, ho, hLi =>
      exact chs_con 34 (.bool false) hI rfl rfl (want_none rfl) (fun K hK => op_move (ch_con hI hsz 33 rfl (dep_at ho hdep 0 ⟨33, .data⟩ rfl rfl)) hK)
    | 35, _, ho, hLi =>
      exact chs_con 35 (.agg #[.int .i64 a.b, .slice a.s a.n a.c]) hI rfl rfl (want_of rfl rfl rfl (ch_con hI hsz 34 rfl (dep_at ho hdep 0 ⟨34, .guard⟩ rfl rfl))) (fun K hK => op_load ((ch_out hI 5 (Or.inl (show (5 : Nat) < 233 by decide))).trans e5) (KBa W (ch_good hI)).1 (KBa W (ch_good hI)).2 hK)
    | 36, _, ho, hLi =>
      exact chs_vec 36 hI rfl rfl (want_of rfl rfl rfl (ch_con hI hsz 34 rfl (dep_at ho hdep 1 ⟨34, .chain⟩ rfl rfl))) (PU.out W (ch_good hI)) (fun K hK => op_call1 (ch_con hI hsz 35 rfl (dep_at ho hdep 0 ⟨35, .data⟩ rfl rfl)) enter_impl_VecUp hK)
    | 37, _, ho, hLi =>
      exact chs_con 37 (.int .i64 (k : Int)) hI rfl rfl (want_of rfl rfl rfl (ch_con hI hsz 34 rfl (dep_at ho hdep 0 ⟨34, .guard⟩ rfl rfl))) (fun K hK => op_move ((ch_out hI 18 (Or.inl (show (18 : Nat) < 233 by decide))).trans e18) hK)
    | 38, _, ho, hLi =>
      obtain ⟨so0, co0, g0, r0⟩ := ch_vec hI hsz 36 rfl (dep_at ho hdep 0 ⟨36, .data⟩ rfl rfl)
      exact chs_call 38 (.bool lw) hI rfl rfl (want_of rfl rfl rfl (ch_con hI hsz 34 rfl (dep_at ho hdep 3 ⟨34, .guard⟩ rfl rfl))) (get_fresh (ch_good hI) han r0 _ _ GUP) (fun K hK => op_call2 g0 (ch_con hI hsz 37 rfl (dep_at ho hdep 1 ⟨37, .data⟩ rfl rfl)) enter_impl_VecGet hK)
    | 39, _, ho, hLi =>
      exact chs_con 39 (.agg #[.int .i64 a.b, .slice a.s a.n a.c]) hI rfl rfl (want_of rfl rfl rfl (ch_con hI hsz 34 rfl (dep_at ho hdep 0 ⟨34, .guard⟩ rfl rfl))) (fun K hK => op_load ((ch_out hI 5 (Or.inl (show (5 : Nat) < 233 by decide))).trans e5) (KBa W (ch_good hI)).1 (KBa W (ch_good hI)).2 hK)
    | 40, _, ho, hLi =>
      exact chs_con 40 (.int .i64 (k : Int)) hI rfl rfl (want_of rfl rfl rfl (ch_con hI hsz 34 rfl (dep_at ho hdep 0 ⟨34, .guard⟩ rfl rfl))) (fun K hK => op_move ((ch_out hI 18 (Or.inl (show (18 : Nat) < 233 by decide))).trans e18) hK)
    | 41, _, ho, hLi =>
      exact chs_con 41 (.int .i64 ((k : Int) - 1)) hI rfl rfl (want_of rfl rfl rfl (ch_con hI hsz 34 rfl (dep_at ho hdep 1 ⟨34, .guard⟩ rfl rfl))) (fun K hK => op_less1 (ch_con hI hsz 40 rfl (dep_at ho hdep 0 ⟨40, .data⟩ rfl rfl)) (by omega) (by omega) hK)
    | 42, _, ho, hLi =>
      exact chs_call 42 (.bool lw) hI rfl rfl (want_of rfl rfl rfl (ch_con hI hsz 34 rfl (dep_at ho hdep 3 ⟨34, .guard⟩ rfl rfl))) ((GLW W (ch_good hI))) (fun K hK => op_call2 (ch_con hI hsz 39 rfl (dep_at ho hdep 0 ⟨39, .data⟩ rfl rfl)) (ch_con hI hsz 41 rfl (dep_at ho hdep 1 ⟨41, .data⟩ rfl rfl)) enter_spec_VecGet hK)
    | 43, _, ho, hLi =>
      exact chs_con 43 (.bool false) hI rfl rfl (want_of rfl rfl rfl (ch_con hI hsz 34 rfl (dep_at ho hdep 2 ⟨34, .guard⟩ rfl rfl))) (fun K hK => op_neqBs (ch_con hI hsz 38 rfl (dep_at ho hdep 0 ⟨38, .data⟩ rfl rfl)) (ch_con hI hsz 42 rfl (dep_at ho hdep 1 ⟨42, .data⟩ rfl rfl)) hK)
    | 44, _, ho, hLi =>
      exact chs_con 44 (.bool false) hI rfl rfl (want_none rfl) (fun K hK => op_pickOr (ch_con hI hsz 34 rfl (dep_at ho hdep 0 ⟨34, .data⟩ rfl rfl)) (ch_con hI hsz 43 rfl (dep_at ho hdep 1 ⟨43, .data⟩ rfl rfl)) hK)
    | m + 45, hlt, _, _ => exact absurd hlt (by omega)
  · intro L ac W hall hI
    obtain ⟨V, rfl, hg, hV⟩ := hI
    exact fin V W (hV 44 _ rfl (hall 44 (by decide))) hg
theorem reg23_tt {ops : Array Oper} (hops : (Go.Proofs.Tryd.f3.body).bind (findR 23) = some ops) {Q : Exit → Act → World → Prop} {a0 : Act} {wZ w : World} {x y z u a : Vv} {px py pz pu p5 : Nat} {k : Nat} {lw : Bool}
    (hz0 : a0.tmps.size = 290) (hk0 : (k : Int) < 320) (han : a.n ≤ 1048576)
    (e5 : a0.tmps[5]? = some (.pointer (some ⟨p5, 0, none⟩))) (e13 : a0.tmps[13]? = some (.pointer (some ⟨px, 0, none⟩))) (e14 : a0.tmps[14]? = some (.pointer (some ⟨py, 0, none⟩))) (e15 : a0.tmps[15]? = some (.pointer (some ⟨pz, 0, none⟩))) (e16 : a0.tmps[16]? = some (.pointer (some ⟨pu, 0, none⟩))) (e18 : a0.tmps[18]? = some (.int .i64 (k : Int))) (e19 : a0.tmps[19]? = some (.bool true)) (e20 : a0.tmps[20]? = some (.bool true))
    (hL22 : LateV wZ w)
    (KBx : ∀ W, LateV wZ W → W.cell? ⟨px, 0, none⟩ = some (.int .i64 x.b) ∧ W.cell? ⟨px, 1, none⟩ = some (.slice x.s x.n x.c)) (KBy : ∀ W, LateV wZ W → W.cell? ⟨py, 0, none⟩ = some (.int .i64 y.b) ∧ W.cell? ⟨py, 1, none⟩ = some (.slice y.s y.n y.c)) (KBz : ∀ W, LateV wZ W → W.cell? ⟨pz, 0, none⟩ = some (.int .i64 z.b) ∧ W.cell? ⟨pz, 1, none⟩ = some (.slice z.s z.n z.c)) (KBu : ∀ W, LateV wZ W → W.cell? ⟨pu, 0, none⟩ = some (.int .i64 u.b) ∧ W.cell? ⟨pu, 1, none⟩ = some (.slice u.s u.n u.c)) (KBa : ∀ W, LateV wZ W → W.cell? ⟨p5, 0, none⟩ = some (.int .i64 a.b) ∧ W.cell? ⟨p5, 1, none⟩ = some (.slice a.s a.n a.c))
    (Gx : GivesR wZ 34 #[.agg #[.int .i64 x.b, .slice x.s x.n x.c], .int .i64 (k : Int)] (.bool true)) (Gy : GivesR wZ 34 #[.agg #[.int .i64 y.b, .slice y.s y.n y.c], .int .i64 (k : Int)] (.bool true)) (Gz : GivesR wZ 34 #[.agg #[.int .i64 z.b, .slice z.s z.n z.c], .int .i64 (k : Int)] (.bool false)) (Gu : GivesR wZ 34 #[.agg #[.int .i64 u.b, .slice u.s u.n u.c], .int .i64 (k : Int)] (.bool false))
    (PU : Hid (GivesV wZ 24 #[.agg #[.int .i64 a.b, .slice a.s a.n a.c]] a.b a.n (cutF a.b a.n (sumF 0 a.f a.f)))) (GUP : GotB a.b a.n (cutF a.b a.n (sumF 0 a.f a.f)) (k : Int) lw) (GLW : GivesR wZ 35 #[.agg #[.int .i64 a.b, .slice a.s a.n a.c], .int .i64 ((k : Int) - 1)] (.bool lw))
    (fin : ∀ (V : Nat → Value) (W : World), V 277 = .bool false → LateV wZ W → Q .normal (putL a0 V (List.range' 233 45)) W) :
    Code.wp Tryd.prog (.region 23 ops true) Q a0 w := by
  change some _ = some ops at hops
  injection hops with hops
  subst hops
  have hsz0 : 233 + 45 ≤ a0.tmps.size := by omega
  refine wp_region_inv (by kernel_rfl) (ChI ⟨fun W => LateV wZ W, a0, 233, [.con (.agg #[.int .i64 x.b, .slice x.s x.n x.c]), .con (.int .i64 (k : Int)), .con (.bool true), .con (.bool true), .con (.bool true), .con (.bool true), .con (.bool true), .con (.bool false), .con (.bool false), .con (.agg #[.int .i64 y.b, .slice y.s y.n y.c]), .con (.int .i64 (k : Int)), .con (.bool true), .con (.bool true), .con (.bool true), .con (undef), .con (.bool true), .con (.bool false), .con (.bool false), .con (.bool false), .con (.agg #[.int .i64 z.b, .slice z.s z.n z.c]), .con (.int .i64 (k : Int)), .con (.bool false), .con (.bool true), .con (.bool true), .con (.bool false), .con (.bool false), .con (.bool false), .con (.bool false), .con (.agg #[.int .i64 u.b, .slice u.s u.n u.c]), .con (.int .i64 (k : Int)), .con (.bool false), .con (.bool true), .con (.bool false), .con (.bool false), .con (.bool false), .con (.agg #[.int .i64 a.b, .slice a.s a.n a.c]), .vec a.b a.n (cutF a.b a.n (sumF 0 a.f a.f)), .con (.int .i64 (k : Int)), .con (.bool lw), .con (.agg #[.int .i64 a.b, .slice a.s a.n a.c]), .con (.int .i64 (k : Int)), .con (.int .i64 ((k : Int) - 1)), .con (.bool lw), .con (.bool false), .con (.bool false)]⟩) (acyc_of (by kernel_rfl)) (ch_start hL22.drew) ?_ ?_
  · intro L ac W i o ho hLi hdep hI
    have hsz : (233 : Nat) + 45 ≤ a0.tmps.size := hsz0
    have hlt : i < 45 := (Array.getElem?_eq_some_iff.1 ho).1
    match i, hlt, ho, hLi with
    | 0, _, ho, hLi =>
      exact chs_con 0 (.agg #[.int .i64 x.b, .slice x.s x.n x.c]) hI rfl rfl (want_none rfl) (fun K hK => op_load ((ch_out hI 13 (Or.inl (show (13 : Nat) < 233 by decide))).trans e13) (KBx W (ch_good hI)).1 (KBx W (ch_good hI)).2 hK)
    | 1, _, ho, hLi =>
      exact chs_con 1 (.int .i64 (k : Int)) hI rfl rfl (want_none rfl) (fun K hK => op_move ((ch_out hI 18 (Or.inl (show (18 : Nat) < 233 by decide))).trans e18) hK)
    | 2, _, ho, hLi =>
      exact chs_call 2 (.bool true) hI rfl rfl (want_none rfl) ((Gx W (ch_good hI))) (fun K hK => op_call2 (ch_con hI hsz 0 rfl (dep_at ho hdep 0 ⟨0, .data⟩ rfl rfl)) (ch_con hI hsz 1 rfl (dep_at ho hdep 1 ⟨1, .data⟩ rfl rfl)) enter_impl_VecGet hK)
    | 3, _, ho, hLi =>
      exact chs_con 3 (.bool true) hI rfl rfl (want_none rfl) (fun K hK => op_move ((ch_out hI 19 (Or.inl (show (19 : Nat) < 233 by decide))).trans e19) hK)
    | 4, _, ho, hLi =>
      exact chs_con 4 (.bool true) hI rfl rfl (want_none rfl) (fun K hK => op_move (ch_con hI hsz 3 rfl (dep_at ho hdep 0 ⟨3, .data⟩ rfl rfl)) hK)
    | 5, _, ho, hLi =>
      exact chs_con 5 (.bool true) hI rfl rfl (want_of rfl rfl rfl (ch_con hI hsz 4 rfl (dep_at ho hdep 0 ⟨4, .guard⟩ rfl rfl))) (fun K hK => op_move ((ch_out hI 20 (Or.inl (show (20 : Nat) < 233 by decide))).trans e20) hK)
    | 6, _, ho, hLi =>
      exact chs_con 6 (.bool true) hI rfl rfl (want_none rfl) (fun K hK => op_pickAnd1 (ch_con hI hsz 4 rfl (dep_at ho hdep 0 ⟨4, .data⟩ rfl rfl)) (ch_con hI hsz 5 rfl (dep_at ho hdep 1 ⟨5, .data⟩ rfl rfl)) hK)
    | 7, _, ho, hLi =>
      exact chs_con 7 (.bool false) hI rfl rfl (want_none rfl) (fun K hK => op_neqB (ch_con hI hsz 2 rfl (dep_at ho hdep 0 ⟨2, .data⟩ rfl rfl)) (ch_con hI hsz 6 rfl (dep_at ho hdep 1 ⟨6, .data⟩ rfl rfl)) hK)
    | 8, _, ho, hLi =>
      exact chs_con 8 (.bool false) hI rfl rfl (want_none rfl) (fun K hK => op_move (ch_con hI hsz 7 rfl (dep_at ho hdep 0 ⟨7, .data⟩ rfl rfl)) hK)
    | 9, _, ho, hLi =>
      exact chs_con 9 (.agg #[.int .i64 y.b, .slice y.s y.n y.c]) hI rfl rfl (want_of rfl rfl rfl (ch_con hI hsz 8 rfl (dep_at ho hdep 0 ⟨8, .guard⟩ rfl rfl))) (fun K hK => op_load ((ch_out hI 14 (Or.inl (show (14 : Nat) < 233 by decide))).trans e14) (KBy W (ch_good hI)).1 (KBy W (ch_good hI)).2 hK)
    | 10, _, ho, hLi =>
      exact chs_con 10 (.int .i64 (k : Int)) hI rfl rfl (want_of rfl rfl rfl (ch_con hI hsz 8 rfl (dep_at ho hdep 0 ⟨8, .guard⟩ rfl rfl))) (fun K hK => op_move ((ch_out hI 18 (Or.inl (show (18 : Nat) < 233 by decide))).trans e18) hK)
    | 11, _, ho, hLi =>
      exact chs_call 11 (.bool true) hI rfl rfl (want_of rfl rfl rfl (ch_con hI hsz 8 rfl (dep_at ho hdep 2 ⟨8, .chain⟩ rfl rfl))) ((Gy W (ch_good hI))) (fun K hK => op_call2 (ch_con hI hsz 9 rfl (dep_at ho hdep 0 ⟨9, .data⟩ rfl rfl)) (ch_con hI hsz 10 rfl (dep_at ho hdep 1 ⟨10, .data⟩ rfl rfl)) enter_impl_VecGet hK)
    | 12, _, ho, hLi =>
      exact chs_con 12 (.bool true) hI rfl rfl (want_of rfl rfl rfl (ch_con hI hsz 8 rfl (dep_at ho hdep 0 ⟨8, .guard⟩ rfl rfl))) (fun K hK => op_move ((ch_out hI 19 (Or.inl (show (19 : Nat) < 233 by decide))).trans e19) hK)
    | 13, _, ho, hLi =>
      exact chs_con 13 (.bool true) hI rfl rfl (want_of rfl rfl rfl (ch_con hI hsz 8 rfl (dep_at ho hdep 2 ⟨8, .guard⟩ rfl rfl))) (fun K hK => op_move (ch_con hI hsz 12 rfl (dep_at ho hdep 0 ⟨12, .data⟩ rfl rfl)) hK)
    | 14, _, ho, hLi =>
      exact chs_skip 14 hI rfl rfl rfl (unwant_of rfl rfl rfl (ch_con hI hsz 13 rfl (dep_at ho hdep 0 ⟨13, .guard⟩ rfl rfl)) rfl)
    | 15, _, ho, hLi =>
      exact chs_con 15 (.bool true) hI rfl rfl (want_of rfl rfl rfl (ch_con hI hsz 8 rfl (dep_at ho hdep 2 ⟨8, .guard⟩ rfl rfl))) (fun K hK => op_pickOr1 (ch_con hI hsz 13 rfl (dep_at ho hdep 0 ⟨13, .data⟩ rfl rfl)) hK)
    | 16, _, ho, hLi =>
      exact chs_con 16 (.bool false) hI rfl rfl (want_of rfl rfl rfl (ch_con hI hsz 8 rfl (dep_at ho hdep 2 ⟨8, .guard⟩ rfl rfl))) (fun K hK => op_neqB (ch_con hI hsz 11 rfl (dep_at ho hdep 0 ⟨11, .data⟩ rfl rfl)) (ch_con hI hsz 15 rfl (dep_at ho hdep 1 ⟨15, .data⟩ rfl rfl)) hK)
    | 17, _, ho, hLi =>
      exact chs_con 17 (.bool false) hI rfl rfl (want_none rfl) (fun K hK => op_pickOr (ch_con hI hsz 8 rfl (dep_at ho hdep 0 ⟨8, .data⟩ rfl rfl)) (ch_con hI hsz 16 rfl (dep_at ho hdep 1 ⟨16, .data⟩ rfl rfl)) hK)
    | 18, _, ho, hLi =>
      exact chs_con 18 (.bool false) hI rfl rfl (want_none rfl) (fun K hK => op_move (ch_con hI hsz 17 rfl (dep_at ho hdep 0 ⟨17, .data⟩ rfl rfl)) hK)
    | 19, _, ho, hLi =>
      exact chs_con 19 (.agg #[.int .i64 z.b, .slice z.s z.n z.c]) hI rfl rfl (want_of rfl rfl rfl (ch_con hI hsz 18 rfl (dep_at ho hdep 0 ⟨18, .guard⟩ rfl rfl))) (fun K hK => op_load ((ch_out hI 15 (Or.inl (show (15 : Nat) < 233 by decide))).trans e15) (KBz W (ch_good hI)).1 (KBz W (ch_good hI)).2 hK)
    | 20, _, ho, hLi =>
      exact chs_con 20 (.int .i64 (k : Int)) hI rfl rfl (want_of rfl rfl rfl (ch_con hI hsz 18 rfl (dep_at ho hdep 0 ⟨18, .guard⟩ rfl rfl))) (fun K hK => op_move ((ch_out hI 18 (Or.inl (show (18 : Nat) < 233 by decide))).trans e18) hK)
    | 21, _, ho, hLi =>
      exact chs_call 21 (.bool false) hI rfl rfl (want_of rfl rfl rfl (ch_con hI hsz 18 rfl (dep_at ho hdep 2 ⟨18, .chain⟩ rfl rfl))) ((Gz W (ch_good hI))) (fun K hK => op_call2 (ch_con hI hsz 19 rfl (dep_at ho hdep 0 ⟨19, .data⟩ rfl rfl)) (ch_con hI hsz 20 rfl (dep_at ho hdep 1 ⟨20, .data⟩ rfl rfl)) enter_impl_VecGet hK)
    | 22, _, ho, hLi =>
      exact chs_con 22 (.bool true) hI rfl rfl (want_of rfl rfl rfl (ch_con hI hsz 18 rfl (dep_at ho hdep 0 ⟨18, .guard⟩ rfl rfl))) (fun K hK => op_move ((ch_out hI 19 (Or.inl (show (19 : Nat) < 233 by decide))).trans e19) hK)
    | 23, _, ho, hLi =>
      exact chs_con 23 (.bool true) hI rfl rfl (want_of rfl rfl rfl (ch_con hI hsz 18 rfl (dep_at ho hdep 0 ⟨18, .guard⟩ rfl rfl))) (fun K hK => op_move ((ch_out hI 20 (Or.inl (show (20 : Nat) < 233 by decide))).trans e20) hK)
    | 24, _, ho, hLi =>
      exact chs_con 24 (.bool false) hI rfl rfl (want_of rfl rfl rfl (ch_con hI hsz 18 rfl (dep_at ho hdep 2 ⟨18, .guard⟩ rfl rfl))) (fun K hK => op_neqB (ch_con hI hsz 22 rfl (dep_at ho hdep 0 ⟨22, .data⟩ rfl rfl)) (ch_con hI hsz 23 rfl (dep_at ho hdep 1 ⟨23, .data⟩ rfl rfl)) hK)
    | 25, _, ho, hLi =>
      exact chs_con 25 (.bool false) hI rfl rfl (want_of rfl rfl rfl (ch_con hI hsz 18 rfl (dep_at ho hdep 2 ⟨18, .guard⟩ rfl rfl))) (fun K hK => op_neqB (ch_con hI hsz 21 rfl (dep_at ho hdep 0 ⟨21, .data⟩ rfl rfl)) (ch_con hI hsz 24 rfl (dep_at ho hdep 1 ⟨24, .data⟩ rfl rfl)) hK)
    | 26, _, ho, hLi =>
      exact chs_con 26 (.bool false) hI rfl rfl (want_none rfl) (fun K hK => op_pickOr (ch_con hI hsz 18 rfl (dep_at ho hdep 0 ⟨18, .data⟩ rfl rfl)) (ch_con hI hsz 25 rfl (dep_at ho hdep 1 ⟨25, .data⟩ rfl rfl)) hK)
    | 27, _, ho, hLi =>
      exact chs_con 27 (.bool false) hI rfl rfl (want_none rfl) (fun K hK => op_move (ch_con hI hsz 26 rfl (dep_at ho hdep 0 ⟨26, .data⟩ rfl rfl)) hK)
    | 28, _, ho, hLi =>
      exact chs_con 28 (.agg #[.int .i64 u.b, .slice u.s u.n u.c]) hI rfl rfl (want_of rfl rfl rfl (ch_con hI hsz 27 rfl (dep_at ho hdep 0 ⟨27, .guard⟩ rfl rfl))) (fun K hK => op_load ((ch_out hI 16 (Or.inl (show (16 : Nat) < 233 by decide))).trans e16) (KBu W (ch_good hI)).1 (KBu W (ch_good hI)).2 hK)
    | 29, _, ho, hLi =>
      exact chs_con 29 (.int .i64 (k : Int)) hI rfl rfl (want_of rfl rfl rfl (ch_con hI hsz 27 rfl (dep_at ho hdep 0 ⟨27, .guard⟩ rfl rfl))) (fun K hK => op_move ((ch_out hI 18 (Or.inl (show (18 : Nat) < 233 by decide))).trans e18) hK)
    | 30, _, ho, hLi =>
      exact chs_call 30 (.bool false) hI rfl rfl (want_of rfl rfl rfl (ch_con hI hsz 27 rfl (dep_at ho hdep 2 ⟨27, .chain⟩ rfl rfl))) ((Gu W (ch_good hI))) (fun K hK => op_call2 (ch_con hI hsz 28 rfl (dep_at ho hdep 0 ⟨28, .data⟩ rfl rfl)) (ch_con hI hsz 29 rfl (dep_at ho hdep 1 ⟨29, .data⟩ rfl rfl)) enter_impl_VecGet hK)
    | 31, _, ho, hLi =>
      exact chs_con 31 (.bool true) hI rfl rfl (want_of rfl rfl rfl (ch_con hI hsz 27 rfl (dep_at ho hdep 0 ⟨27, .guard⟩ rfl rfl))) (fun K hK => op_move ((ch_out hI 19 (Or.inl (show (19 : Nat) < 233 by decide))).trans e19) hK)
    | 32, _, ho, hLi =>
      exact chs_con 32 (.bool false) hI rfl rfl (want_of rfl rfl rfl (ch_con hI hsz 27 rfl (dep_at ho hdep 2 ⟨27, .guard⟩ rfl rfl))) (fun K hK => op_eqlB (ch_con hI hsz 30 rfl (dep_at ho hdep 0 ⟨30, .data⟩ rfl rfl)) (ch_con hI hsz 31 rfl (dep_at ho hdep 1 ⟨31, .data⟩ rfl rfl)) rfl hK)
    | 33, _, ho, hLi =>
      exact chs_con 33 (.bool false) hI rfl rfl (want_none rfl) (fun K hK => op_pickOr (ch_con hI hsz 27 rfl (dep_at ho hdep 0 ⟨27, .data⟩ rfl rfl)) (ch_con hI hsz 32 rfl (dep_at ho hdep 1 ⟨32, .data⟩ rfl rfl)) hK)
    | 34, _, ho, hLi =>
      exact chs_con 34 (.bool false) hI rfl rfl (want_none rfl) (fun K hK => op_move (ch_con hI hsz 33 rfl (dep_at ho hdep 0 ⟨33, .data⟩ rfl rfl)) hK)
    | 35, _, ho, hLi =>
      exact chs_con 35 (.agg #[.int .i64 a.b, .slice a.s a.n a.c]) hI rfl rfl (want_of rfl rfl rfl (ch_con hI hsz 34 rfl (dep_at ho hdep 0 ⟨34, .guard⟩ rfl rfl))) (fun K hK => op_load ((ch_out hI 5 (Or.inl (show (5 : Nat) < 233 by decide))).trans e5) (KBa W (ch_good hI)).1 (KBa W (ch_good hI)).2 hK)
    | 36, _, ho, hLi =>
      exact chs_vec 36 hI rfl rfl (want_of rfl rfl rfl (ch_con hI hsz 34 rfl (dep_at ho hdep 1 ⟨34, .chain⟩ rfl rfl))) (PU.out W (ch_good hI)) (fun K hK => op_call1 (ch_con hI hsz 35 rfl (dep_at ho hdep 0 ⟨35, .data⟩ rfl rfl)) enter_impl_VecUp hK)
    | 37, _, ho, hLi =>
      exact chs_con 37 (.int .i64 (k : Int)) hI rfl rfl (want_of rfl rfl rfl (ch_con hI hsz 34 rfl (dep_at ho hdep 0 ⟨34, .guard⟩ rfl rfl))) (fun K hK => op_move ((ch_out hI 18 (Or.inl (show (18 : Nat) < 233 by decide))).trans e18) hK)
    | 38, _, ho, hLi =>
      obtain ⟨so0, co0, g0, r0⟩ := ch_vec hI hsz 36 rfl (dep_at ho hdep 0 ⟨36, .data⟩ rfl rfl)
      exact chs_call 38 (.bool lw) hI rfl rfl (want_of rfl rfl rfl (ch_con hI hsz 34 rfl (dep_at ho hdep 3 ⟨34, .guard⟩ rfl rfl))) (get_fresh (ch_good hI) han r0 _ _ GUP) (fun K hK => op_call2 g0 (ch_con hI hsz 37 rfl (dep_at ho hdep 1 ⟨37, .data⟩ rfl rfl)) enter_impl_VecGet hK)
    | 39, _, ho, hLi =>
      exact chs_con 39 (.agg #[.int .i64 a.b, .slice a.s a.n a.c]) hI rfl rfl (want_of rfl rfl rfl (ch_con hI hsz 34 rfl (dep_at ho hdep 0 ⟨34, .guard⟩ rfl rfl))) (fun K hK => op_load ((ch_out hI 5 (Or.inl (show (5 : Nat) < 233 by decide))).trans e5) (KBa W (ch_good hI)).1 (KBa W (ch_good hI)).2 hK)
    | 40, _, ho, hLi =>
      exact chs_con 40 (.int .i64 (k : Int)) hI rfl rfl (want_of rfl rfl rfl (ch_con hI hsz 34 rfl (dep_at ho hdep 0 ⟨34, .guard⟩ rfl rfl))) (fun K hK => op_move ((ch_out hI 18 (Or.inl (show (18 : Nat) < 233 by decide))).trans e18) hK)
    | 41, _, ho, hLi =>
      exact chs_con 41 (.int .i64 ((k : Int) - 1)) hI rfl rfl (want_of rfl rfl rfl (ch_con hI hsz 34 rfl (dep_at ho hdep 1 ⟨34, .guard⟩ rfl rfl))) (fun K hK => op_less1 (ch_con hI hsz 40 rfl (dep_at ho hdep 0 ⟨40, .data⟩ rfl rfl)) (by omega) (by omega) hK)
    | 42, _, ho, hLi =>
      exact chs_call 42 (.bool lw) hI rfl rfl (want_of rfl rfl rfl (ch_con hI hsz 34 rfl (dep_at ho hdep 3 ⟨34, .guard⟩ rfl rfl))) ((GLW W (ch_good hI))) (fun K hK => op_call2 (ch_con hI hsz 39 rfl (dep_at ho hdep 0 ⟨39, .data⟩ rfl rfl)) (ch_con hI hsz 41 rfl (dep_at ho hdep 1 ⟨41, .data⟩ rfl rfl)) enter_spec_VecGet hK)
    | 43, _, ho, hLi =>
      exact chs_con 43 (.bool false) hI rfl rfl (want_of rfl rfl rfl (ch_con hI hsz 34 rfl (dep_at ho hdep 2 ⟨34, .guard⟩ rfl rfl))) (fun K hK => op_neqBs (ch_con hI hsz 38 rfl (dep_at ho hdep 0 ⟨38, .data⟩ rfl rfl)) (ch_con hI hsz 42 rfl (dep_at ho hdep 1 ⟨42, .data⟩ rfl rfl)) hK)
    | 44, _, ho, hLi =>
      exact chs_con 44 (.bool false) hI rfl rfl (want_none rfl) (fun K hK => op_pickOr (ch_con hI hsz 34 rfl (dep_at ho hdep 0 ⟨34, .data⟩ rfl rfl)) (ch_con hI hsz 43 rfl (dep_at ho hdep 1 ⟨43, .data⟩ rfl rfl)) hK)
    | m + 45, hlt, _, _ => exact absurd hlt (by omega)
  · intro L ac W hall hI
    obtain ⟨V, rfl, hg, hV⟩ := hI
    exact fin V W (hV 44 _ rfl (hall 44 (by decide))) hg
end Go.Proofs.YthnnenbpbkmbhaaDoor
