/- What is proved here: the laws' helpers over what packs tell (the comparison, the marks laid and found again): what they hand back and what they leave as it was. -/
import Derived.Test.YtbdjjggaahjjpaaQPoM
import Derived.Test.YtbdjjggaahjjpaaQPkHW
import Derived.Test.YtbdjjggaahjjpaaQBoxAtMToVecEqW
import Derived.Test.YtbdjjggaahjjpaaQVecHMarkWToRowsSMarkW
namespace Go.Proofs.Ytbdjjggaahjjpaa
open Go.RowKit

/-- What is told is no longer than it may be. -/
def PoSize (Q : Po) : Prop := Q.P.k ≤ 1048576 ∧ Q.P.m ≤ 1048576 ∧ totC Q.P.n Q.P.k ≤ 1048576 ∧ Q.nv ≤ 1048576 ∧ Q.nh ≤ 1048576
set_option maxHeartbeats 2000000 in
theorem eqPo_same (sr sm sv sh tr tm tv th : Option Addr) (cr cm cv ch dr dm dv dh : Nat) (Q : Po) (w : World) (hz : PoSize Q) (ha : PoRead w sr sm sv sh Q) (hb : PoRead w tr tm tv th Q) :
    Calls Try.prog 16 #[.agg #[.slice sr Q.P.k cr, .slice sm Q.P.m cm, .int .i64 Q.P.b, .int .i64 Q.vb, .slice sv Q.nv cv, .slice sh Q.nh ch, .int .i64 Q.cd], .agg #[.slice tr Q.P.k dr, .slice tm Q.P.m dm, .int .i64 Q.P.b, .int .i64 Q.vb, .slice tv Q.nv dv, .slice th Q.nh dh, .int .i64 Q.cd]] w fun e w' => e = .returned (.bool true) ∧ Below w.heap.size w w' := by
  have HA : Hid (PoRead w sr sm sv sh Q) := ha
  have HB : Hid (PoRead w tr tm tv th Q) := hb
  have HZ : Hid (PoSize Q) := hz
  have hb0 : Below w.heap.size w ((w.alloc (.cells #[.slice sr Q.P.k cr, .slice sm Q.P.m cm, .int .i64 Q.P.b, .int .i64 Q.vb, .slice sv Q.nv cv, .slice sh Q.nh ch, .int .i64 Q.cd] 38)).alloc (.cells #[.slice tr Q.P.k dr, .slice tm Q.P.m dm, .int .i64 Q.P.b, .int .i64 Q.vb, .slice tv Q.nv dv, .slice th Q.nh dh, .int .i64 Q.cd] 38)) := ((Below.refl _ _).alloc (Nat.le_refl _) _).alloc (by simp) _
  have HB0 : Hid (Below w.heap.size w ((w.alloc (.cells #[.slice sr Q.P.k cr, .slice sm Q.P.m cm, .int .i64 Q.P.b, .int .i64 Q.vb, .slice sv Q.nv cv, .slice sh Q.nh ch, .int .i64 Q.cd] 38)).alloc (.cells #[.slice tr Q.P.k dr, .slice tm Q.P.m dm, .int .i64 Q.P.b, .int .i64 Q.vb, .slice tv Q.nv dv, .slice th Q.nh dh, .int .i64 Q.cd] 38))) := hb0
  have HX0 : Hid (BoxAt ((w.alloc (.cells #[.slice sr Q.P.k cr, .slice sm Q.P.m cm, .int .i64 Q.P.b, .int .i64 Q.vb, .slice sv Q.nv cv, .slice sh Q.nh ch, .int .i64 Q.cd] 38)).alloc (.cells #[.slice tr Q.P.k dr, .slice tm Q.P.m dm, .int .i64 Q.P.b, .int .i64 Q.vb, .slice tv Q.nv dv, .slice th Q.nh dh, .int .i64 Q.cd] 38)) w.heap.size #[.slice sr Q.P.k cr, .slice sm Q.P.m cm, .int .i64 Q.P.b, .int .i64 Q.vb, .slice sv Q.nv cv, .slice sh Q.nh ch, .int .i64 Q.cd] 38) := (boxAt_new w _ _).2.1.kept ((Below.refl _ _).alloc (Nat.le_refl _) _)
  have HY0 : Hid (BoxAt ((w.alloc (.cells #[.slice sr Q.P.k cr, .slice sm Q.P.m cm, .int .i64 Q.P.b, .int .i64 Q.vb, .slice sv Q.nv cv, .slice sh Q.nh ch, .int .i64 Q.cd] 38)).alloc (.cells #[.slice tr Q.P.k dr, .slice tm Q.P.m dm, .int .i64 Q.P.b, .int .i64 Q.vb, .slice tv Q.nv dv, .slice th Q.nh dh, .int .i64 Q.cd] 38)) (w.heap.size + 1) #[.slice tr Q.P.k dr, .slice tm Q.P.m dm, .int .i64 Q.P.b, .int .i64 Q.vb, .slice tv Q.nv dv, .slice th Q.nh dh, .int .i64 Q.cd] 38) := by
    have h := (boxAt_new (w.alloc (.cells #[.slice sr Q.P.k cr, .slice sm Q.P.m cm, .int .i64 Q.P.b, .int .i64 Q.vb, .slice sv Q.nv cv, .slice sh Q.nh ch, .int .i64 Q.cd] 38)) #[.slice tr Q.P.k dr, .slice tm Q.P.m dm, .int .i64 Q.P.b, .int .i64 Q.vb, .slice tv Q.nv dv, .slice th Q.nh dh, .int .i64 Q.cd] 38).2.1
    exact (by simpa using h : BoxAt _ _ _ _)
  have C1 := eqPack_same sr sm tr tm cr cm dr dm Q.P _ hz.1 hz.2.1 (fun i hi => Nat.le_trans (totC_le hi) hz.2.2.1) (ha.1.late hb0) (hb.1.late hb0)
  have C2 : Hid (∀ W, Below w.heap.size w W → Calls Try.prog 29 #[.agg #[.int .i64 Q.vb, .slice sv Q.nv cv], .agg #[.int .i64 Q.vb, .slice tv Q.nv dv]] W fun e w' => e = .returned (.bool true) ∧ Below W.heap.size W w') := fun W hW => eqVec_same Q.vb sv tv Q.nv cv dv Q.vf W hz.2.2.2.1 ((ha.2.1.kept hW).up hW.size) ((hb.2.1.kept hW).up hW.size)
  have C3 : Hid (∀ W, Below w.heap.size w W → Calls Try.prog 39 #[.slice sh Q.nh ch, .slice th Q.nh dh] W fun e w' => e = .returned (.bool true) ∧ Below W.heap.size W w') := fun W hW => eqRow_same sh th Q.nh ch dh Q.hf W hz.2.2.2.2 ((ha.2.2.kept hW).up hW.size) ((hb.2.2.kept hW).up hW.size)
  clear ha hb hz hb0
  go_enter Try.func16, Try.ntmps16
  go_wp2_with fail
  generalize (w.alloc (.cells #[.slice sr Q.P.k cr, .slice sm Q.P.m cm, .int .i64 Q.P.b, .int .i64 Q.vb, .slice sv Q.nv cv, .slice sh Q.nh ch, .int .i64 Q.cd] 38)).alloc (.cells #[.slice tr Q.P.k dr, .slice tm Q.P.m dm, .int .i64 Q.P.b, .int .i64 Q.vb, .slice tv Q.nv dv, .slice th Q.nh dh, .int .i64 Q.cd] 38) = w0 at *
  refine C1.mono ?_
  rintro e w1 ⟨rfl, hb⟩
  have HX1 : Hid (BoxAt w1 w.heap.size #[.slice sr Q.P.k cr, .slice sm Q.P.m cm, .int .i64 Q.P.b, .int .i64 Q.vb, .slice sv Q.nv cv, .slice sh Q.nh ch, .int .i64 Q.cd] 38) := HX0.out.kept hb
  have HY1 : Hid (BoxAt w1 (w.heap.size + 1) #[.slice tr Q.P.k dr, .slice tm Q.P.m dm, .int .i64 Q.P.b, .int .i64 Q.vb, .slice tv Q.nv dv, .slice th Q.nh dh, .int .i64 Q.cd] 38) := HY0.out.kept hb
  have B1 : Hid (Below w.heap.size w w1) := HB0.out.trans (hb.mono HB0.out.size)
  clear hb C1 HX0 HY0 HB0
  have x0 : w1.cell? ⟨w.heap.size, 0, none⟩ = some (.slice sr Q.P.k cr) := HX1.out.cell 0 _ rfl
  have x1 : w1.cell? ⟨w.heap.size, 1, none⟩ = some (.slice sm Q.P.m cm) := HX1.out.cell 1 _ rfl
  have x2 : w1.cell? ⟨w.heap.size, 2, none⟩ = some (.int .i64 Q.P.b) := HX1.out.cell 2 _ rfl
  have x3 : w1.cell? ⟨w.heap.size, 3, none⟩ = some (.int .i64 Q.vb) := HX1.out.cell 3 _ rfl
  have x4 : w1.cell? ⟨w.heap.size, 4, none⟩ = some (.slice sv Q.nv cv) := HX1.out.cell 4 _ rfl
  have x5 : w1.cell? ⟨w.heap.size, 5, none⟩ = some (.slice sh Q.nh ch) := HX1.out.cell 5 _ rfl
  have x6 : w1.cell? ⟨w.heap.size, 6, none⟩ = some (.int .i64 Q.cd) := HX1.out.cell 6 _ rfl
  have y0 : w1.cell? ⟨w.heap.size + 1, 0, none⟩ = some (.slice tr Q.P.k dr) := HY1.out.cell 0 _ rfl
  have y1 : w1.cell? ⟨w.heap.size + 1, 1, none⟩ = some (.slice tm Q.P.m dm) := HY1.out.cell 1 _ rfl
  have y2 : w1.cell? ⟨w.heap.size + 1, 2, none⟩ = some (.int .i64 Q.P.b) := HY1.out.cell 2 _ rfl
  have y3 : w1.cell? ⟨w.heap.size + 1, 3, none⟩ = some (.int .i64 Q.vb) := HY1.out.cell 3 _ rfl
  have y4 : w1.cell? ⟨w.heap.size + 1, 4, none⟩ = some (.slice tv Q.nv dv) := HY1.out.cell 4 _ rfl
  have y5 : w1.cell? ⟨w.heap.size + 1, 5, none⟩ = some (.slice th Q.nh dh) := HY1.out.cell 5 _ rfl
  have y6 : w1.cell? ⟨w.heap.size + 1, 6, none⟩ = some (.int .i64 Q.cd) := HY1.out.cell 6 _ rfl
  go_wp2_with fail
  refine (C2.out w1 B1.out).mono ?_
  clear x0 x1 x2 x3 x4 x5 x6 y0 y1 y2 y3 y4 y5 y6
  rintro e w2 ⟨rfl, hb⟩
  have HX2 : Hid (BoxAt w2 w.heap.size #[.slice sr Q.P.k cr, .slice sm Q.P.m cm, .int .i64 Q.P.b, .int .i64 Q.vb, .slice sv Q.nv cv, .slice sh Q.nh ch, .int .i64 Q.cd] 38) := HX1.out.kept hb
  have HY2 : Hid (BoxAt w2 (w.heap.size + 1) #[.slice tr Q.P.k dr, .slice tm Q.P.m dm, .int .i64 Q.P.b, .int .i64 Q.vb, .slice tv Q.nv dv, .slice th Q.nh dh, .int .i64 Q.cd] 38) := HY1.out.kept hb
  have B2 : Hid (Below w.heap.size w w2) := B1.out.trans (hb.mono B1.out.size)
  clear hb HX1 HY1 B1
  have x0 : w2.cell? ⟨w.heap.size, 0, none⟩ = some (.slice sr Q.P.k cr) := HX2.out.cell 0 _ rfl
  have x1 : w2.cell? ⟨w.heap.size, 1, none⟩ = some (.slice sm Q.P.m cm) := HX2.out.cell 1 _ rfl
  have x2 : w2.cell? ⟨w.heap.size, 2, none⟩ = some (.int .i64 Q.P.b) := HX2.out.cell 2 _ rfl
  have x3 : w2.cell? ⟨w.heap.size, 3, none⟩ = some (.int .i64 Q.vb) := HX2.out.cell 3 _ rfl
  have x4 : w2.cell? ⟨w.heap.size, 4, none⟩ = some (.slice sv Q.nv cv) := HX2.out.cell 4 _ rfl
  have x5 : w2.cell? ⟨w.heap.size, 5, none⟩ = some (.slice sh Q.nh ch) := HX2.out.cell 5 _ rfl
  have x6 : w2.cell? ⟨w.heap.size, 6, none⟩ = some (.int .i64 Q.cd) := HX2.out.cell 6 _ rfl
  have y0 : w2.cell? ⟨w.heap.size + 1, 0, none⟩ = some (.slice tr Q.P.k dr) := HY2.out.cell 0 _ rfl
  have y1 : w2.cell? ⟨w.heap.size + 1, 1, none⟩ = some (.slice tm Q.P.m dm) := HY2.out.cell 1 _ rfl
  have y2 : w2.cell? ⟨w.heap.size + 1, 2, none⟩ = some (.int .i64 Q.P.b) := HY2.out.cell 2 _ rfl
  have y3 : w2.cell? ⟨w.heap.size + 1, 3, none⟩ = some (.int .i64 Q.vb) := HY2.out.cell 3 _ rfl
  have y4 : w2.cell? ⟨w.heap.size + 1, 4, none⟩ = some (.slice tv Q.nv dv) := HY2.out.cell 4 _ rfl
  have y5 : w2.cell? ⟨w.heap.size + 1, 5, none⟩ = some (.slice th Q.nh dh) := HY2.out.cell 5 _ rfl
  have y6 : w2.cell? ⟨w.heap.size + 1, 6, none⟩ = some (.int .i64 Q.cd) := HY2.out.cell 6 _ rfl
  go_wp2_with fail
  refine (C3.out w2 B2.out).mono ?_
  clear x0 x1 x2 x3 x4 x5 x6 y0 y1 y2 y3 y4 y5 y6
  rintro e w3 ⟨rfl, hb⟩
  have HX3 : Hid (BoxAt w3 w.heap.size #[.slice sr Q.P.k cr, .slice sm Q.P.m cm, .int .i64 Q.P.b, .int .i64 Q.vb, .slice sv Q.nv cv, .slice sh Q.nh ch, .int .i64 Q.cd] 38) := HX2.out.kept hb
  have HY3 : Hid (BoxAt w3 (w.heap.size + 1) #[.slice tr Q.P.k dr, .slice tm Q.P.m dm, .int .i64 Q.P.b, .int .i64 Q.vb, .slice tv Q.nv dv, .slice th Q.nh dh, .int .i64 Q.cd] 38) := HY2.out.kept hb
  have B3 : Hid (Below w.heap.size w w3) := B2.out.trans (hb.mono B2.out.size)
  clear hb HX2 HY2 B2
  have x0 : w3.cell? ⟨w.heap.size, 0, none⟩ = some (.slice sr Q.P.k cr) := HX3.out.cell 0 _ rfl
  have x1 : w3.cell? ⟨w.heap.size, 1, none⟩ = some (.slice sm Q.P.m cm) := HX3.out.cell 1 _ rfl
  have x2 : w3.cell? ⟨w.heap.size, 2, none⟩ = some (.int .i64 Q.P.b) := HX3.out.cell 2 _ rfl
  have x3 : w3.cell? ⟨w.heap.size, 3, none⟩ = some (.int .i64 Q.vb) := HX3.out.cell 3 _ rfl
  have x4 : w3.cell? ⟨w.heap.size, 4, none⟩ = some (.slice sv Q.nv cv) := HX3.out.cell 4 _ rfl
  have x5 : w3.cell? ⟨w.heap.size, 5, none⟩ = some (.slice sh Q.nh ch) := HX3.out.cell 5 _ rfl
  have x6 : w3.cell? ⟨w.heap.size, 6, none⟩ = some (.int .i64 Q.cd) := HX3.out.cell 6 _ rfl
  have y0 : w3.cell? ⟨w.heap.size + 1, 0, none⟩ = some (.slice tr Q.P.k dr) := HY3.out.cell 0 _ rfl
  have y1 : w3.cell? ⟨w.heap.size + 1, 1, none⟩ = some (.slice tm Q.P.m dm) := HY3.out.cell 1 _ rfl
  have y2 : w3.cell? ⟨w.heap.size + 1, 2, none⟩ = some (.int .i64 Q.P.b) := HY3.out.cell 2 _ rfl
  have y3 : w3.cell? ⟨w.heap.size + 1, 3, none⟩ = some (.int .i64 Q.vb) := HY3.out.cell 3 _ rfl
  have y4 : w3.cell? ⟨w.heap.size + 1, 4, none⟩ = some (.slice tv Q.nv dv) := HY3.out.cell 4 _ rfl
  have y5 : w3.cell? ⟨w.heap.size + 1, 5, none⟩ = some (.slice th Q.nh dh) := HY3.out.cell 5 _ rfl
  have y6 : w3.cell? ⟨w.heap.size + 1, 6, none⟩ = some (.int .i64 Q.cd) := HY3.out.cell 6 _ rfl
  go_wp2_with fail
  go_ret
  exact ⟨rfl, B3.out⟩
set_option maxHeartbeats 2000000 in
theorem markPo_any (lo hi : Nat) (sr sm sv sh : Option Addr) (cr cm cv ch : Nat) (Q : Po) (w : World) (hz : PoSize Q) (ho : PoOwn w lo hi sr sm sv sh Q) :
    Calls Try.prog 19 #[.agg #[.slice sr Q.P.k cr, .slice sm Q.P.m cm, .int .i64 Q.P.b, .int .i64 Q.vb, .slice sv Q.nv cv, .slice sh Q.nh ch, .int .i64 Q.cd], .int .i64 1] w fun e w' => e = .returned (.int .i64 ((1 + totC Q.P.n Q.P.k * 3 + Q.P.m + Q.nv + Q.nh : Nat) : Int)) ∧ OnlyM w w' lo hi ∧ PoOwn w' lo hi sr sm sv sh (Q.marked 1) := by
  obtain ⟨h1, h2, a1, a2, a3, a4, ha, hb, hc⟩ := ho
  have hb0 : Below w.heap.size w (w.alloc (.cells #[.slice sr Q.P.k cr, .slice sm Q.P.m cm, .int .i64 Q.P.b, .int .i64 Q.vb, .slice sv Q.nv cv, .slice sh Q.nh ch, .int .i64 Q.cd] 38)) := (Below.refl _ _).alloc (Nat.le_refl _) _
  have HX0 : Hid (BoxAt (w.alloc (.cells #[.slice sr Q.P.k cr, .slice sm Q.P.m cm, .int .i64 Q.P.b, .int .i64 Q.vb, .slice sv Q.nv cv, .slice sh Q.nh ch, .int .i64 Q.cd] 38)) w.heap.size #[.slice sr Q.P.k cr, .slice sm Q.P.m cm, .int .i64 Q.P.b, .int .i64 Q.vb, .slice sv Q.nv cv, .slice sh Q.nh ch, .int .i64 Q.cd] 38) := (boxAt_new w _ _).2.1
  have C1 : Calls Try.prog 24 _ (w.alloc (.cells #[.slice sr Q.P.k cr, .slice sm Q.P.m cm, .int .i64 Q.P.b, .int .i64 Q.vb, .slice sv Q.nv cv, .slice sh Q.nh ch, .int .i64 Q.cd] 38)) _ := markPack_any h2 hi sr sm cr cm 1 Q.P (w.alloc (.cells #[.slice sr Q.P.k cr, .slice sm Q.P.m cm, .int .i64 Q.P.b, .int .i64 Q.vb, .slice sv Q.nv cv, .slice sh Q.nh ch, .int .i64 Q.cd] 38)) hz.1 hz.2.1 hz.2.2.1 (by omega) (by omega) (hc.kept hb0)
  obtain ⟨q1, hq1⟩ : ∃ q, 1 + totC Q.P.n Q.P.k * 3 + Q.P.m = q := ⟨_, rfl⟩
  have HQ1 : Hid (1 + totC Q.P.n Q.P.k * 3 + Q.P.m = q1) := hq1
  rw [hq1] at C1
  have hq9 : q1 ≤ 8000000 := by have := hz.2.1; have := hz.2.2.1; omega
  have HA0 : Hid (Slice (w.alloc (.cells #[.slice sr Q.P.k cr, .slice sm Q.P.m cm, .int .i64 Q.P.b, .int .i64 Q.vb, .slice sv Q.nv cv, .slice sh Q.nh ch, .int .i64 Q.cd] 38)) lo h1 sv Q.nv Q.vf) := ha.kept hb0 rfl
  have HB0 : Hid (Slice (w.alloc (.cells #[.slice sr Q.P.k cr, .slice sm Q.P.m cm, .int .i64 Q.P.b, .int .i64 Q.vb, .slice sv Q.nv cv, .slice sh Q.nh ch, .int .i64 Q.cd] 38)) h1 h2 sh Q.nh Q.hf) := hb.kept hb0 rfl
  have HM0 : Hid (OnlyM w (w.alloc (.cells #[.slice sr Q.P.k cr, .slice sm Q.P.m cm, .int .i64 Q.P.b, .int .i64 Q.vb, .slice sv Q.nv cv, .slice sh Q.nh ch, .int .i64 Q.cd] 38)) lo hi) := OnlyM.ofBelow hb0
  have HZ : Hid (PoSize Q) := hz
  have HL : Hid (lo ≤ h1 ∧ h1 ≤ h2 ∧ h2 ≤ hi ∧ hi ≤ w.heap.size) := ⟨a1, a2, a3, a4⟩
  have HSZ : Hid (w.heap.size < (w.alloc (.cells #[.slice sr Q.P.k cr, .slice sm Q.P.m cm, .int .i64 Q.P.b, .int .i64 Q.vb, .slice sv Q.nv cv, .slice sh Q.nh ch, .int .i64 Q.cd] 38)).heap.size) := by show _ < _; simp
  clear ha hb hc hb0 hq1 hz a1 a2 a3 a4
  go_enter Try.func19, Try.ntmps19
  go_wp2_with fail
  generalize w.alloc (.cells #[.slice sr Q.P.k cr, .slice sm Q.P.m cm, .int .i64 Q.P.b, .int .i64 Q.vb, .slice sv Q.nv cv, .slice sh Q.nh ch, .int .i64 Q.cd] 38) = w0 at *
  refine C1.mono ?_
  rintro e w1 ⟨rfl, hm, hp⟩
  have hl := HL.out
  have HX1 : Hid (BoxAt w1 w.heap.size #[.slice sr Q.P.k cr, .slice sm Q.P.m cm, .int .i64 Q.P.b, .int .i64 Q.vb, .slice sv Q.nv cv, .slice sh Q.nh ch, .int .i64 Q.cd] 38) := HX0.out.onlyM hm (by omega)
  have HA1 : Hid (Slice w1 lo h1 sv Q.nv Q.vf) := HA0.out.onlyM hm (by omega)
  have HB1 : Hid (Slice w1 h1 h2 sh Q.nh Q.hf) := HB0.out.onlyM hm (by omega)
  have HP1 : Hid (PkOwn w1 h2 hi sr sm (Q.P.marked 1)) := hp
  have hm9 : OnlyM w0 w1 lo hi := ⟨hm.os, hm.tape, hm.output, hm.size, fun k hk hd => hm.block k hk (by omega)⟩
  have HM1 : Hid (OnlyM w w1 lo hi) := HM0.out.trans hm9
  clear hm hp hm9 C1 HX0 HA0 HB0 HM0
  have x0 : w1.cell? ⟨w.heap.size, 0, none⟩ = some (.slice sr Q.P.k cr) := HX1.out.cell 0 _ rfl
  have x1 : w1.cell? ⟨w.heap.size, 1, none⟩ = some (.slice sm Q.P.m cm) := HX1.out.cell 1 _ rfl
  have x2 : w1.cell? ⟨w.heap.size, 2, none⟩ = some (.int .i64 Q.P.b) := HX1.out.cell 2 _ rfl
  have x3 : w1.cell? ⟨w.heap.size, 3, none⟩ = some (.int .i64 Q.vb) := HX1.out.cell 3 _ rfl
  have x4 : w1.cell? ⟨w.heap.size, 4, none⟩ = some (.slice sv Q.nv cv) := HX1.out.cell 4 _ rfl
  have x5 : w1.cell? ⟨w.heap.size, 5, none⟩ = some (.slice sh Q.nh ch) := HX1.out.cell 5 _ rfl
  have x6 : w1.cell? ⟨w.heap.size, 6, none⟩ = some (.int .i64 Q.cd) := HX1.out.cell 6 _ rfl
  go_wp2_with fail
  refine (markVec_in Q.vb sv Q.nv cv lo h1 Q.vf (q1 : Int) w1 HZ.out.2.2.2.1 (by omega) (by omega) HA1.out).mono ?_
  clear x0 x1 x2 x3 x4 x5 x6
  rintro e w2 ⟨rfl, hm, hsv⟩
  have hmm : OnlyM w1 w2 lo h1 := OnlyM.of hm (Nat.le_refl _) (Nat.le_refl _)
  have HX2 : Hid (BoxAt w2 w.heap.size #[.slice sr Q.P.k cr, .slice sm Q.P.m cm, .int .i64 Q.P.b, .int .i64 Q.vb, .slice sv Q.nv cv, .slice sh Q.nh ch, .int .i64 Q.cd] 38) := HX1.out.onlyM hmm (by omega)
  have HA2 : Hid (Slice w2 lo h1 sv Q.nv (fun i => (q1 : Int) + i)) := hsv
  have HB2 : Hid (Slice w2 h1 h2 sh Q.nh Q.hf) := HB1.out.onlyM hmm (by omega)
  have HP2 : Hid (PkOwn w2 h2 hi sr sm (Q.P.marked 1)) := HP1.out.onlyM hmm (by omega)
  have HM2 : Hid (OnlyM w w2 lo hi) := HM1.out.trans ⟨hmm.os, hmm.tape, hmm.output, hmm.size, fun k hk hd => hmm.block k hk (by omega)⟩
  clear hm hsv hmm HX1 HA1 HB1 HP1 HM1
  have hnv9 := HZ.out.2.2.2.1
  have x0 : w2.cell? ⟨w.heap.size, 0, none⟩ = some (.slice sr Q.P.k cr) := HX2.out.cell 0 _ rfl
  have x1 : w2.cell? ⟨w.heap.size, 1, none⟩ = some (.slice sm Q.P.m cm) := HX2.out.cell 1 _ rfl
  have x2 : w2.cell? ⟨w.heap.size, 2, none⟩ = some (.int .i64 Q.P.b) := HX2.out.cell 2 _ rfl
  have x3 : w2.cell? ⟨w.heap.size, 3, none⟩ = some (.int .i64 Q.vb) := HX2.out.cell 3 _ rfl
  have x4 : w2.cell? ⟨w.heap.size, 4, none⟩ = some (.slice sv Q.nv cv) := HX2.out.cell 4 _ rfl
  have x5 : w2.cell? ⟨w.heap.size, 5, none⟩ = some (.slice sh Q.nh ch) := HX2.out.cell 5 _ rfl
  have x6 : w2.cell? ⟨w.heap.size, 6, none⟩ = some (.int .i64 Q.cd) := HX2.out.cell 6 _ rfl
  go_wp2_with fail
  refine (markRow_in sh Q.nh ch h1 h2 Q.hf ((q1 : Int) + (Q.nv : Int)) w2 HZ.out.2.2.2.2 (by omega) (by omega) HB2.out).mono ?_
  clear x0 x1 x2 x3 x4 x5 x6
  rintro e w3 ⟨rfl, hm, hsv⟩
  have hmm : OnlyM w2 w3 h1 h2 := by
    first | exact hm | exact OnlyM.of hm (Nat.le_refl _) (Nat.le_refl _)
  have HA3 : Hid (Slice w3 lo h1 sv Q.nv (fun i => (q1 : Int) + i)) := HA2.out.onlyM hmm (by omega)
  have HB3 : Hid (Slice w3 h1 h2 sh Q.nh (fun i => (q1 : Int) + (Q.nv : Int) + i)) := hsv
  have HP3 : Hid (PkOwn w3 h2 hi sr sm (Q.P.marked 1)) := HP2.out.onlyM hmm (by omega)
  have HM3 : Hid (OnlyM w w3 lo hi) := HM2.out.trans ⟨hmm.os, hmm.tape, hmm.output, hmm.size, fun k hk hd => hmm.block k hk (by omega)⟩
  clear hm hsv hmm HX2 HA2 HB2 HP2 HM2
  go_wp2_with fail
  go_ret
  refine ⟨by have h9 := HQ1.out; (show Ending.returned (Value.int .i64 ((q1 : Int) + (Q.nv : Int) + (Q.nh : Int))) = _); (congr 2; omega), HM3.out, h1, h2, by omega, by omega, by omega, Nat.le_trans hl.2.2.2 HM3.out.size, ?_, ?_, HP3.out⟩
  · have e : (Q.marked 1).vf = fun i : Nat => (q1 : Int) + (i : Int) := by unfold Po.marked; rw [HQ1.out]
    rw [e]
    exact HA3.out
  · have e : (Q.marked 1).hf = fun i : Nat => (q1 : Int) + (Q.nv : Int) + (i : Int) := by
      funext i
      unfold Po.marked
      have := HQ1.out
      show ((1 + totC Q.P.n Q.P.k * 3 + Q.P.m + Q.nv : Nat) : Int) + (i : Int) = _
      omega
    rw [e]
    exact HB3.out
set_option maxHeartbeats 2000000 in
theorem heldPo_any (sr sm sv sh : Option Addr) (cr cm cv ch : Nat) (Q : Po) (w : World) (hz : PoSize Q) (ho : PoRead w sr sm sv sh (Q.marked 1)) :
    Calls Try.prog 20 #[.agg #[.slice sr Q.P.k cr, .slice sm Q.P.m cm, .int .i64 Q.P.b, .int .i64 Q.vb, .slice sv Q.nv cv, .slice sh Q.nh ch, .int .i64 Q.cd], .int .i64 1] w fun e w' => e = .returned (.int .i64 ((1 + totC Q.P.n Q.P.k * 3 + Q.P.m + Q.nv + Q.nh : Nat) : Int)) ∧ Below w.heap.size w w' := by
  obtain ⟨hp, hv, hh⟩ := ho
  have hb0 : Below w.heap.size w (w.alloc (.cells #[.slice sr Q.P.k cr, .slice sm Q.P.m cm, .int .i64 Q.P.b, .int .i64 Q.vb, .slice sv Q.nv cv, .slice sh Q.nh ch, .int .i64 Q.cd] 38)) := (Below.refl _ _).alloc (Nat.le_refl _) _
  have HX0 : Hid (BoxAt (w.alloc (.cells #[.slice sr Q.P.k cr, .slice sm Q.P.m cm, .int .i64 Q.P.b, .int .i64 Q.vb, .slice sv Q.nv cv, .slice sh Q.nh ch, .int .i64 Q.cd] 38)) w.heap.size #[.slice sr Q.P.k cr, .slice sm Q.P.m cm, .int .i64 Q.P.b, .int .i64 Q.vb, .slice sv Q.nv cv, .slice sh Q.nh ch, .int .i64 Q.cd] 38) := (boxAt_new w _ _).2.1
  have C1 : Calls Try.prog 48 _ (w.alloc (.cells #[.slice sr Q.P.k cr, .slice sm Q.P.m cm, .int .i64 Q.P.b, .int .i64 Q.vb, .slice sv Q.nv cv, .slice sh Q.nh ch, .int .i64 Q.cd] 38)) _ := heldPack_any sr sm cr cm 1 Q.P (w.alloc (.cells #[.slice sr Q.P.k cr, .slice sm Q.P.m cm, .int .i64 Q.P.b, .int .i64 Q.vb, .slice sv Q.nv cv, .slice sh Q.nh ch, .int .i64 Q.cd] 38)) hz.1 hz.2.1 hz.2.2.1 (by omega) (by omega) (hp.late hb0)
  obtain ⟨q1, hq1⟩ : ∃ q, 1 + totC Q.P.n Q.P.k * 3 + Q.P.m = q := ⟨_, rfl⟩
  have HQ1 : Hid (1 + totC Q.P.n Q.P.k * 3 + Q.P.m = q1) := hq1
  rw [hq1] at C1
  have hq9 : q1 ≤ 8000000 := by have := hz.2.1; have := hz.2.2.1; omega
  have hnv9 := hz.2.2.2.1
  have hnh9 := hz.2.2.2.2
  have e1 : (Q.marked 1).vf = fun i : Nat => (q1 : Int) + (i : Int) := by unfold Po.marked; rw [hq1]
  have e2 : (Q.marked 1).hf = fun i : Nat => (q1 : Int) + (Q.nv : Int) + (i : Int) := by
    funext i
    unfold Po.marked
    show ((1 + totC Q.P.n Q.P.k * 3 + Q.P.m + Q.nv : Nat) : Int) + (i : Int) = _
    omega
  rw [e1] at hv
  rw [e2] at hh
  have HV : Hid (∀ W, Below w.heap.size w W → Calls Try.prog 31 #[.agg #[.int .i64 Q.vb, .slice sv Q.nv cv], .int .i64 (q1 : Int)] W fun e w' => e = .returned (.int .i64 ((q1 : Int) + Q.nv)) ∧ Below W.heap.size W w') := fun W hW => heldVec_any Q.vb sv Q.nv cv (q1 : Int) W hnv9 (by omega) (by omega) ((hv.kept hW).up hW.size)
  have HH : Hid (∀ W, Below w.heap.size w W → Calls Try.prog 49 #[.slice sh Q.nh ch, .int .i64 ((q1 : Int) + (Q.nv : Int))] W fun e w' => e = .returned (.int .i64 ((q1 : Int) + (Q.nv : Int) + Q.nh)) ∧ Below W.heap.size W w') := fun W hW => heldRow_any sh Q.nh ch ((q1 : Int) + (Q.nv : Int)) W hnh9 (by omega) (by omega) ((hh.kept hW).up hW.size)
  have HB0 : Hid (Below w.heap.size w (w.alloc (.cells #[.slice sr Q.P.k cr, .slice sm Q.P.m cm, .int .i64 Q.P.b, .int .i64 Q.vb, .slice sv Q.nv cv, .slice sh Q.nh ch, .int .i64 Q.cd] 38))) := hb0
  have hg1 : ¬ (q1 : Int) < 0 := by omega
  have hg2 : ¬ (q1 : Int) + (Q.nv : Int) < 0 := by omega
  have hg3 : ¬ (q1 : Int) + (Q.nv : Int) + (Q.nh : Int) < 0 := by omega
  clear hp hv hh e1 e2 hb0 hq1 hz
  go_enter Try.func20, Try.ntmps20
  go_wp2_with fail
  generalize w.alloc (.cells #[.slice sr Q.P.k cr, .slice sm Q.P.m cm, .int .i64 Q.P.b, .int .i64 Q.vb, .slice sv Q.nv cv, .slice sh Q.nh ch, .int .i64 Q.cd] 38) = w0 at *
  refine C1.mono ?_
  rintro e w1 ⟨rfl, hb⟩
  have HX1 : Hid (BoxAt w1 w.heap.size #[.slice sr Q.P.k cr, .slice sm Q.P.m cm, .int .i64 Q.P.b, .int .i64 Q.vb, .slice sv Q.nv cv, .slice sh Q.nh ch, .int .i64 Q.cd] 38) := HX0.out.kept hb
  have B1 : Hid (Below w.heap.size w w1) := HB0.out.trans (hb.mono HB0.out.size)
  clear hb C1 HX0 HB0
  have x0 : w1.cell? ⟨w.heap.size, 0, none⟩ = some (.slice sr Q.P.k cr) := HX1.out.cell 0 _ rfl
  have x1 : w1.cell? ⟨w.heap.size, 1, none⟩ = some (.slice sm Q.P.m cm) := HX1.out.cell 1 _ rfl
  have x2 : w1.cell? ⟨w.heap.size, 2, none⟩ = some (.int .i64 Q.P.b) := HX1.out.cell 2 _ rfl
  have x3 : w1.cell? ⟨w.heap.size, 3, none⟩ = some (.int .i64 Q.vb) := HX1.out.cell 3 _ rfl
  have x4 : w1.cell? ⟨w.heap.size, 4, none⟩ = some (.slice sv Q.nv cv) := HX1.out.cell 4 _ rfl
  have x5 : w1.cell? ⟨w.heap.size, 5, none⟩ = some (.slice sh Q.nh ch) := HX1.out.cell 5 _ rfl
  have x6 : w1.cell? ⟨w.heap.size, 6, none⟩ = some (.int .i64 Q.cd) := HX1.out.cell 6 _ rfl
  go_wp2_with fail
  refine (HV.out w1 B1.out).mono ?_
  clear x0 x1 x2 x3 x4 x5 x6
  rintro e w2 ⟨rfl, hb⟩
  have HX2 : Hid (BoxAt w2 w.heap.size #[.slice sr Q.P.k cr, .slice sm Q.P.m cm, .int .i64 Q.P.b, .int .i64 Q.vb, .slice sv Q.nv cv, .slice sh Q.nh ch, .int .i64 Q.cd] 38) := HX1.out.kept hb
  have B2 : Hid (Below w.heap.size w w2) := B1.out.trans (hb.mono B1.out.size)
  clear hb HX1 B1
  have x0 : w2.cell? ⟨w.heap.size, 0, none⟩ = some (.slice sr Q.P.k cr) := HX2.out.cell 0 _ rfl
  have x1 : w2.cell? ⟨w.heap.size, 1, none⟩ = some (.slice sm Q.P.m cm) := HX2.out.cell 1 _ rfl
  have x2 : w2.cell? ⟨w.heap.size, 2, none⟩ = some (.int .i64 Q.P.b) := HX2.out.cell 2 _ rfl
  have x3 : w2.cell? ⟨w.heap.size, 3, none⟩ = some (.int .i64 Q.vb) := HX2.out.cell 3 _ rfl
  have x4 : w2.cell? ⟨w.heap.size, 4, none⟩ = some (.slice sv Q.nv cv) := HX2.out.cell 4 _ rfl
  have x5 : w2.cell? ⟨w.heap.size, 5, none⟩ = some (.slice sh Q.nh ch) := HX2.out.cell 5 _ rfl
  have x6 : w2.cell? ⟨w.heap.size, 6, none⟩ = some (.int .i64 Q.cd) := HX2.out.cell 6 _ rfl
  go_wp2_with fail
  refine (HH.out w2 B2.out).mono ?_
  clear x0 x1 x2 x3 x4 x5 x6
  rintro e w3 ⟨rfl, hb⟩
  have B3 : Hid (Below w.heap.size w w3) := B2.out.trans (hb.mono B2.out.size)
  clear hb HX2 B2
  go_wp2_with fail
  go_ret
  exact ⟨by have h9 := HQ1.out; (show Ending.returned (Value.int .i64 ((q1 : Int) + (Q.nv : Int) + (Q.nh : Int))) = _); (congr 2; omega), B3.out⟩
end Go.Proofs.Ytbdjjggaahjjpaa
