/- What is proved here: the given statement FnExactBackRunSaid: at every input the law returns true and leaves what was there as it was; no condition. The walk lies in YtfeolbgenpknfaaBackE. -/
import Derived.Test.YtfeolbgenpknfaaRows
import Derived.Test.YtfeolbgenpknfaaQBackE
import Derived.WalkKit
import Derived.ProofKit
import Derived.OpenShut
import Derived.ShutString
import Derived.ChangeOld
import Derived.Below
import Derived.Lib.SmallJoins
import Derived.Deep.Strs
namespace Go.Proofs.Ytfeolbgenpknfaa.fnExactBackRun
open Go.ChangeShapes Go.WideShapes Go.ChangeAt Go.RowKit
open Go.ChangeMaps (open_string shut_string)
set_option linter.unusedVariables false

theorem own : ownKnob Try.prog.godebug = none := by kernel_rfl
theorem laidOut : laidOutB Try.prog = true := by kernel_rfl
set_option maxRecDepth 100000 in
/-- A slice of cells that came in. -/
theorem openCells {H : Type} {enc : TypeId × Value → H} {W : World} {r : Reach} {base : Nat} {v : Value} {d : DataW H} {p : List MemPlace} (hv : Value.okWide Try.prog W r base 50 v) (h : DataW.Trod enc Try.prog W 0 (fun _ => true) true 50 v d p) :
    ∃ (sa : Option Addr) (n cap : Nat) (f : Nat → Cel), v = .slice sa n cap ∧ n ≤ maxLen ∧ CRow W W.heap.size sa n f ∧ ∀ i, i < n → (f i).c.size ≤ maxLen := by
  obtain ⟨a0, l0, c0, rfl⟩ := okWide_slice Try.underlying50 hv
  obtain ⟨fuel, hf⟩ := h
  have cel : Try.prog.cellsOf 100 = 3 := by kernel_rfl
  have cls : Try.prog.cellsOf 9 = 1 := by kernel_rfl
  have cli : Try.prog.cellsOf 4 = 1 := by kernel_rfl
  rcases Deep.open_slice Try.underlying50 hf with ⟨hcs, _⟩ | ⟨x, l, c, m, fu, D, Pl, hcs, _, hl, hm, hmm, _, hx⟩
  · simp [Value.cells] at hcs
    obtain ⟨rfl, rfl, rfl⟩ := hcs
    exact ⟨none, 0, 0, fun _ => cel0, rfl, Nat.zero_le _, Or.inl rfl, fun i hi => by omega⟩
  · simp [Value.cells] at hcs
    obtain ⟨rfl, rfl, rfl⟩ := hcs
    simp at hmm
    subst hmm
    rcases Nat.eq_zero_or_pos l0 with h0 | h0
    · subst h0
      exact ⟨some x, 0, _, fun _ => cel0, rfl, Nat.zero_le _, Or.inl rfl, fun i hi => by omega⟩
    obtain ⟨bb, off, spot⟩ := x
    have hspot : spot = none := by
      obtain ⟨cs', h1, h2⟩ := hx 0 (by omega)
      rw [cel] at h1
      obtain ⟨_, hl2, hcells⟩ := World.cells?_some h1
      have z0 := hcells 0 (by omega)
      rw [List.getElem?_eq_getElem (by omega)] at z0
      have := World.cell?_spot z0
      simpa [Addr.add] using this
    subst hspot
    have ad : ∀ u t : Nat, ((⟨bb, off, none⟩ : Addr).add u).add t = ⟨bb, off + u + t, none⟩ := fun u t => by rw [Deep.add_add]; unfold Addr.add; split <;> (simp_all; try omega)
    obtain ⟨f, hfz⟩ : ∃ f : Nat → Cel, ∀ i, i < l0 → CellAt W bb (off + i * 3) (f i) ∧ (f i).c.size ≤ maxLen := by
      haveI : Inhabited Cel := ⟨cel0⟩
      refine Deep.choose_lt (α := Cel) (p := fun i a => CellAt W bb (off + i * 3) a ∧ a.c.size ≤ maxLen) fun i hi => ?_
      obtain ⟨cs', h1, h2⟩ := hx i (by omega)
      rw [cel] at h1
      obtain ⟨y0, y1, y2, nn, _, hlen, q0, q1, q2⟩ := Deep.trod_struct3 Try.underlying100 h2
      rw [cel] at hlen
      obtain ⟨_, hl2, hcells⟩ := World.cells?_some h1
      match cs', hlen with
      | [e0, e1, e2], _ =>
        obtain ⟨s0, es, _, hs0⟩ := DataW.trod_string Try.underlying9 q0
        obtain ⟨i1, ei1, _⟩ := DataW.trod_bool Try.underlying4 q1
        obtain ⟨i2, ei2, _⟩ := DataW.trod_bool Try.underlying4 q2
        simp [cls] at es
        simp [cli] at ei1 ei2
        subst es ei1 ei2
        have z0 := hcells 0 (by simp)
        have z1 := hcells 1 (by simp)
        have z2 := hcells 2 (by simp)
        rw [ad] at z0 z1 z2
        exact ⟨⟨s0, i1, i2⟩, ⟨by simpa using z0, by simpa using z1, by simpa using z2⟩, hs0⟩
    exact ⟨some ⟨bb, off, none⟩, l0, _, f, rfl, Nat.le_trans hl hm, Or.inr ⟨bb, off, rfl, World.block_lt_of_cell? W _ (hfz 0 h0).1.c0, fun i hi => (hfz i hi).1⟩, fun i hi => (hfz i hi).2⟩

set_option maxRecDepth 100000 in
theorem lifted (os : Os) (started : os.Started) (H : Type) (enc : TypeId × Value → H) :
    ReturnsInHanded {} Try.checked os 8 .any (Rows.fnExactBackRunSpec.pre6 enc Try.prog Try.f8 Rows.fnExactBackRunRow.domain false) (Rows.fnExactBackRunSpec.post enc Try.prog Try.f8 false true false false) := by
  refine returnsInHanded_of_change (C := Try.checked) own started (by kernel_rfl) Try.func8
    (ChangeSpec.witness6 (enc := enc) (C := Try.checked) false ⟨#[], #[.slice none 0 0, .string ByteArray.empty], []⟩ 8 (by kernel_rfl) (by kernel_rfl) (by kernel_rfl) (by kernel_rfl)) ?_
  intro W base args ds gs before hval0 hW hcnd _
  have hval : ∀ (j : Nat) t v, Try.f8.params[j]? = some t → args[j]? = some v → Value.okWide Try.prog W .any base t v := hval0
  have hW' := hW
  obtain ⟨p, q, hA0, hV, rfl, hfz, hnd⟩ := hW
  have hA : DataW.TrodAll enc Try.prog W 0 (fun _ => true) true Try.f8.params.toList args.toList ds p := hA0
  rw [Try.params8] at hA hval
  obtain ⟨v0, vs0, d0, ds0, p0, q0, hargs, rfl, rfl, h0, r0⟩ := trodAll_cons hA
  obtain ⟨v1, vs1, d1, ds1, p1, q1, rfl, rfl, rfl, h1, r1⟩ := trodAll_cons r0
  obtain ⟨rfl, rfl, rfl⟩ := trodAll_nil r1
  obtain rfl : args = #[v0, v1] := by cases args; simp_all
  obtain ⟨rfl, rfl⟩ := trodVars_none hV
  have k0 := h0
  have lt0 : ∀ x ∈ p0, x.block < W.heap.size := by obtain ⟨m, hm⟩ := k0; exact DataW.trod_lt m _ _ _ hm
  obtain ⟨sa0, n0, ca0, f0, rfl, hm0, hr0, hc0⟩ := openCells (hval 0 50 v0 rfl rfl) h0
  obtain ⟨a1, rfl, rfl, rfl, w1⟩ := open_string Try.underlying9 (hval 1 9 v1 rfl rfl) h1
  clear hA0 hval0
  refine (end_BackRun sa0 n0 ca0 f0 a1 W hm0 hr0 hc0 w1).mono fun e W' ⟨he, bel⟩ => ?_
  subst he
  exact ⟨_, rfl, _, _, _, [], _, [], hW', trodAll_mk1 (shut_bool Try.underlying4 _), (trodAll_cons_mk (Below.trod laidOut (by kernel_rfl) (of_decide_eq_true (by kernel_rfl)) k0 bel lt0) (trodAll_cons_mk (shut_string Try.underlying9 w1) trodAll_mk0)), rfl, bel.frame _, fun h => by cases h⟩

theorem over : Rows.fnExactBackRunRow.holds Try.pinned (OpenSpec.ofChange Rows.fnExactBackRunSpec) :=
  OpenClaim.holds_of_wide 8 Try.f8 rfl rfl rfl rfl rfl rfl rfl ⟨rfl, rfl, rfl, rfl, rfl⟩ rfl rfl rfl rfl rfl (by kernel_rfl) Try.func8 (by kernel_rfl)
    (of_decide_eq_true (by kernel_rfl)) (by unfold Func.isWrapper; first | (rw [if_pos (by decide +kernel)]; kernel_rfl) | (rw [if_neg (by decide +kernel)]; exact ⟨rfl, rfl⟩))
    (fun os started H enc _ => lifted os started H enc)

end Go.Proofs.Ytfeolbgenpknfaa.fnExactBackRun
namespace Go.Proofs.Ytfeolbgenpknfaa
theorem fnExactBackRun_holds : Rows.FnExactBackRunSaid := fnExactBackRun.over
#print axioms fnExactBackRun_holds
end Go.Proofs.Ytfeolbgenpknfaa
