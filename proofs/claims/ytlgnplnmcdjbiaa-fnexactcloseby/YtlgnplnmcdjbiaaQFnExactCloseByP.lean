/- What is proved here: the given statement FnExactCloseBySaid: at every input the law returns true and leaves what was there as it was; no condition. The walk lies in YtlgnplnmcdjbiaaCByE. -/
import Derived.Test.YtlgnplnmcdjbiaaRows
import Derived.Test.YtlgnplnmcdjbiaaQCByE
import Derived.WalkKit
import Derived.ProofKit
import Derived.OpenShut
import Derived.ShutString
import Derived.ChangeOld
import Derived.Below
import Derived.Lib.SmallJoins
import Derived.Deep.Strs
namespace Go.Proofs.Ytlgnplnmcdjbiaa.fnExactCloseBy
open Go.ChangeShapes Go.WideShapes Go.ChangeAt Go.RowKit
open Go.ChangeMaps (open_string shut_string)
set_option linter.unusedVariables false

theorem own : ownKnob Try.prog.godebug = none := by kernel_rfl
theorem laidOut : laidOutB Try.prog = true := by kernel_rfl
set_option maxRecDepth 100000 in
/-- A vector that came in: its bits, its words in cells. -/
theorem openVec {H : Type} {enc : TypeId × Value → H} {W : World} {r : Reach} {base : Nat} {v : Value} {d : DataW H} {p : List MemPlace} (hv : Value.okWide Try.prog W r base 68 v) (h : DataW.Trod enc Try.prog W 0 (fun _ => true) true 68 v d p) :
    ∃ (b : Int) (sa : Option Addr) (n cap : Nat) (f : Nat → Int), v = .agg #[.int .i64 b, .slice sa n cap] ∧ n ≤ maxLen ∧ Row W W.heap.size sa n f := by
  obtain ⟨u0, u1, y0, y1, m, rfl, _, _, hy0, hy1⟩ := Joins.open_agg2 Try.underlying68 (by kernel_rfl) (by kernel_rfl) hv h
  obtain ⟨b, rfl⟩ : ∃ b, u0 = .int .i64 b := by
    obtain ⟨b, hb, _⟩ := DataW.trod_int Try.underlying2 hy0
    simp at hb
    exact ⟨b, hb⟩
  rcases open_ints Try.underlying27 Try.underlying2 (by kernel_rfl) hy1 with ⟨hcs, _⟩ | ⟨x, l, c, zs, hcs, _, hl, hm, hz, _, hcell, hwz⟩
  · simp at hcs
    subst hcs
    exact ⟨b, none, 0, 0, fun _ => 0, rfl, Nat.zero_le _, Or.inl rfl⟩
  · simp at hcs
    subst hcs
    refine ⟨b, some x, l, c, fun i => zs.getD i 0, rfl, Nat.le_trans hl hm, ?_⟩
    have hzl : zs.length = c := by simpa using hz
    rcases Nat.eq_zero_or_pos l with h0 | h0
    · exact Or.inl h0
    · obtain ⟨bb, off, spot⟩ := x
      have hc := hcell 0 (by omega)
      have hspot : spot = none := by simpa [Addr.add] using World.cell?_spot hc
      subst hspot
      have hc0 : W.cell? ⟨bb, off, none⟩ = some (.int .i64 (zs.getD 0 0)) := by simpa [Addr.add] using hc
      refine Or.inr ⟨bb, off, rfl, World.block_lt_of_cell? W _ hc0, fun i hi => ?_⟩
      have hp : (⟨bb, off, none⟩ : Addr).add i = ⟨bb, off + i, none⟩ := by unfold Addr.add; split <;> simp_all
      rw [← hp]
      exact hcell i (by omega)
theorem array10 {α : Type} {cs : Array α} (h : cs.size = 10) : ∃ c0 c1 c2 c3 c4 c5 c6 c7 c8 c9, cs = #[c0, c1, c2, c3, c4, c5, c6, c7, c8, c9] := by
  obtain ⟨l⟩ := cs
  match l, h with
  | [c0, c1, c2, c3, c4, c5, c6, c7, c8, c9], _ => exact ⟨c0, c1, c2, c3, c4, c5, c6, c7, c8, c9, rfl⟩
set_option maxRecDepth 100000 in
/-- A vector's two cells. -/
theorem openTwo {H : Type} {enc : TypeId × Value → H} {W : World} {m : Nat} {u0 u1 : Value} {y : DataW H × List MemPlace} (h : DataW.trod enc Try.prog W 0 (fun _ => true) true m 68 [u0, u1] = some y) :
    ∃ (b : Int) (sa : Option Addr) (n cap : Nat) (f : Nat → Int), u0 = .int .i64 b ∧ u1 = .slice sa n cap ∧ n ≤ maxLen ∧ Row W W.heap.size sa n f := by
  obtain ⟨y0, y1, m2, _, _, hy0, hy1⟩ := trod_struct2 Try.underlying68 h
  have e0 : Try.prog.cellsOf 2 = 1 := by kernel_rfl
  have e1 : Try.prog.cellsOf 27 = 1 := by kernel_rfl
  simp only [e0, e1, List.drop_zero, List.take_succ_cons, List.take_zero, List.drop_succ_cons] at hy0 hy1
  obtain ⟨b, rfl⟩ : ∃ b, u0 = .int .i64 b := by
    obtain ⟨b, hb, _⟩ := DataW.trod_int Try.underlying2 hy0
    simp at hb
    exact ⟨b, hb⟩
  rcases open_ints Try.underlying27 Try.underlying2 (by kernel_rfl) hy1 with ⟨hcs, _⟩ | ⟨x, l, c, zs, hcs, _, hl, hm, hz, _, hcell, hwz⟩
  · simp at hcs
    subst hcs
    exact ⟨b, none, 0, 0, fun _ => 0, rfl, rfl, Nat.zero_le _, Or.inl rfl⟩
  · simp at hcs
    subst hcs
    refine ⟨b, some x, l, c, fun i => zs.getD i 0, rfl, rfl, Nat.le_trans hl hm, ?_⟩
    have hzl : zs.length = c := by simpa using hz
    rcases Nat.eq_zero_or_pos l with h0 | h0
    · exact Or.inl h0
    · obtain ⟨bb, off, spot⟩ := x
      have hc := hcell 0 (by omega)
      have hspot : spot = none := by simpa [Addr.add] using World.cell?_spot hc
      subst hspot
      have hc0 : W.cell? ⟨bb, off, none⟩ = some (.int .i64 (zs.getD 0 0)) := by simpa [Addr.add] using hc
      refine Or.inr ⟨bb, off, rfl, World.block_lt_of_cell? W _ hc0, fun i hi => ?_⟩
      have hp : (⟨bb, off, none⟩ : Addr).add i = ⟨bb, off + i, none⟩ := by unfold Addr.add; split <;> simp_all
      rw [← hp]
      exact hcell i (by omega)
set_option maxRecDepth 100000 in
/-- Five vectors that came in. -/
theorem openMasks {H : Type} {enc : TypeId × Value → H} {W : World} {r : Reach} {base : Nat} {v : Value} {d : DataW H} {p : List MemPlace} (hv : Value.okWide Try.prog W r base 70 v) (h : DataW.Trod enc Try.prog W 0 (fun _ => true) true 70 v d p) :
    ∃ (b : Nat → Int) (s : Nat → Option Addr) (n c : Nat → Nat) (F : Nat → Nat → Int), v = m5V b s n c ∧ (∀ i, i < 5 → n i ≤ maxLen) ∧ M5Row W s n F := by
  obtain ⟨cs, rfl, hsz⟩ := okWide_struct Try.underlying70 hv
  have hC : Try.prog.cellsOf 70 = 10 := by kernel_rfl
  have e2 : Try.prog.cellsOf 68 = 2 := by kernel_rfl
  obtain ⟨c0, c1, c2, c3, c4, c5, c6, c7, c8, c9, rfl⟩ := array10 (hsz.trans hC)
  obtain ⟨fuel, hf⟩ := h
  obtain ⟨xs, m, _, _, _, hlen, hfi⟩ := DataW.trod_struct Try.underlying70 hf
  match xs, hlen with
  | [y0, y1, y2, y3, y4], _ =>
    have g0 := hfi 0 _ rfl
    have g1 := hfi 1 _ rfl
    have g2 := hfi 2 _ rfl
    have g3 := hfi 3 _ rfl
    have g4 := hfi 4 _ rfl
    simp [e2, Value.cells] at g0 g1 g2 g3 g4
    obtain ⟨b0, s0, n0, k0, f0, rfl, rfl, hm0, hr0⟩ := openTwo g0
    obtain ⟨b1, s1, n1, k1, f1, rfl, rfl, hm1, hr1⟩ := openTwo g1
    obtain ⟨b2, s2, n2, k2, f2, rfl, rfl, hm2, hr2⟩ := openTwo g2
    obtain ⟨b3, s3, n3, k3, f3, rfl, rfl, hm3, hr3⟩ := openTwo g3
    obtain ⟨b4, s4, n4, k4, f4, rfl, rfl, hm4, hr4⟩ := openTwo g4
    refine ⟨five b0 b1 b2 b3 b4, five s0 s1 s2 s3 s4, five n0 n1 n2 n3 n4, five k0 k1 k2 k3 k4, five f0 f1 f2 f3 f4, rfl, fun i hi => ?_, fun i hi => ?_⟩
    · have hc : i = 0 ∨ i = 1 ∨ i = 2 ∨ i = 3 ∨ i = 4 := by omega
      rcases hc with rfl | rfl | rfl | rfl | rfl <;> assumption
    · have hc : i = 0 ∨ i = 1 ∨ i = 2 ∨ i = 3 ∨ i = 4 := by omega
      rcases hc with rfl | rfl | rfl | rfl | rfl <;> assumption

set_option maxRecDepth 100000 in
theorem lifted (os : Os) (started : os.Started) (H : Type) (enc : TypeId × Value → H) :
    ReturnsInHanded {} Try.checked os 6 .any (Rows.fnExactCloseBySpec.pre6 enc Try.prog Try.f6 Rows.fnExactCloseByRow.domain false) (Rows.fnExactCloseBySpec.post enc Try.prog Try.f6 false true false false) := by
  refine returnsInHanded_of_change (C := Try.checked) own started (by kernel_rfl) Try.func6
    (ChangeSpec.witness6 (enc := enc) (C := Try.checked) false ⟨#[], #[.agg #[.int .i64 0, .slice none 0 0, .int .i64 0, .slice none 0 0, .int .i64 0, .slice none 0 0, .int .i64 0, .slice none 0 0, .int .i64 0, .slice none 0 0], .agg #[.int .i64 0, .slice none 0 0]], []⟩ 8 (by kernel_rfl) (by kernel_rfl) (by kernel_rfl) (by kernel_rfl)) ?_
  intro W base args ds gs before hval0 hW hcnd _
  have hval : ∀ (j : Nat) t v, Try.f6.params[j]? = some t → args[j]? = some v → Value.okWide Try.prog W .any base t v := hval0
  have hW' := hW
  obtain ⟨p, q, hA0, hV, rfl, hfz, hnd⟩ := hW
  have hA : DataW.TrodAll enc Try.prog W 0 (fun _ => true) true Try.f6.params.toList args.toList ds p := hA0
  rw [Try.params6] at hA hval
  obtain ⟨v0, vs0, d0, ds0, p0, q0, hargs, rfl, rfl, h0, r0⟩ := trodAll_cons hA
  obtain ⟨v1, vs1, d1, ds1, p1, q1, rfl, rfl, rfl, h1, r1⟩ := trodAll_cons r0
  obtain ⟨rfl, rfl, rfl⟩ := trodAll_nil r1
  obtain rfl : args = #[v0, v1] := by cases args; simp_all
  obtain ⟨rfl, rfl⟩ := trodVars_none hV
  have k0 := h0
  have lt0 : ∀ x ∈ p0, x.block < W.heap.size := by obtain ⟨m, hm⟩ := k0; exact DataW.trod_lt m _ _ _ hm
  obtain ⟨b0, s0, n0, c0, F0, rfl, hm0, hr0⟩ := openMasks (hval 0 70 v0 rfl rfl) h0
  have k1 := h1
  have lt1 : ∀ x ∈ p1, x.block < W.heap.size := by obtain ⟨m, hm⟩ := k1; exact DataW.trod_lt m _ _ _ hm
  obtain ⟨b1, sa1, n1, ca1, f1, rfl, hm1, hr1⟩ := openVec (hval 1 68 v1 rfl rfl) h1
  clear hA0 hval0
  refine (end_CloseBy b0 s0 n0 c0 F0 b1 sa1 n1 ca1 f1 W hm0 hr0 hm1 hr1).mono fun e W' ⟨he, bel⟩ => ?_
  subst he
  exact ⟨_, rfl, _, _, _, [], _, [], hW', trodAll_mk1 (shut_bool Try.underlying4 _), (trodAll_cons_mk (Below.trod laidOut (by kernel_rfl) (of_decide_eq_true (by kernel_rfl)) k0 bel lt0) (trodAll_cons_mk (Below.trod laidOut (by kernel_rfl) (of_decide_eq_true (by kernel_rfl)) k1 bel lt1) trodAll_mk0)), rfl, bel.frame _, fun h => by cases h⟩

theorem over : Rows.fnExactCloseByRow.holds Try.pinned (OpenSpec.ofChange Rows.fnExactCloseBySpec) :=
  OpenClaim.holds_of_wide 6 Try.f6 rfl rfl rfl rfl rfl rfl rfl ⟨rfl, rfl, rfl, rfl, rfl⟩ rfl rfl rfl rfl rfl (by kernel_rfl) Try.func6 (by kernel_rfl)
    (of_decide_eq_true (by kernel_rfl)) (by unfold Func.isWrapper; first | (rw [if_pos (by decide +kernel)]; kernel_rfl) | (rw [if_neg (by decide +kernel)]; exact ⟨rfl, rfl⟩))
    (fun os started H enc _ => lifted os started H enc)

end Go.Proofs.Ytlgnplnmcdjbiaa.fnExactCloseBy
namespace Go.Proofs.Ytlgnplnmcdjbiaa
theorem fnExactCloseBy_holds : Rows.FnExactCloseBySaid := fnExactCloseBy.over
#print axioms fnExactCloseBy_holds
end Go.Proofs.Ytlgnplnmcdjbiaa
