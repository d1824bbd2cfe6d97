/- What is proved here: the given statement FnExactPackByteSaid: at every input the law returns true and leaves what was there as it was; no condition. The walk lies in YtbdjjggaahjjpaaPkByteE. -/
import Derived.Test.YtbdjjggaahjjpaaRows
import Derived.Test.YtbdjjggaahjjpaaQPkByteE
import Derived.WalkKit
import Derived.ProofKit
import Derived.OpenShut
import Derived.ShutString
import Derived.ChangeOld
import Derived.Below
import Derived.Lib.SmallJoins
import Derived.Deep.Strs
namespace Go.Proofs.Ytbdjjggaahjjpaa.fnExactPackByte
open Go.ChangeShapes Go.WideShapes Go.ChangeAt Go.RowKit
open Go.ChangeMaps (open_string shut_string)
set_option linter.unusedVariables false

theorem own : ownKnob Try.prog.godebug = none := by kernel_rfl
theorem laidOut : laidOutB Try.prog = true := by kernel_rfl
set_option maxRecDepth 100000 in
/-- A slice of cells that lies in a cell. -/
theorem openCellsC {H : Type} {enc : TypeId × Value → H} {W : World} {v : Value} {fuel : Nat} {y : DataW H × List MemPlace} (hf : DataW.trod enc Try.prog W 0 (fun _ => true) true fuel 65 [v] = some y) :
    ∃ (sa : Option Addr) (n cap : Nat) (f : Nat → Cel), v = .slice sa n cap ∧ n ≤ maxLen ∧ CRow W W.heap.size sa n f ∧ ∀ i, i < n → (f i).c.size ≤ maxLen := by
  have cel : Try.prog.cellsOf 88 = 3 := by kernel_rfl
  have cls : Try.prog.cellsOf 9 = 1 := by kernel_rfl
  have cli : Try.prog.cellsOf 4 = 1 := by kernel_rfl
  rcases Deep.open_slice Try.underlying65 hf with ⟨hcs, _⟩ | ⟨x, l, c, m, fu, D, Pl, hcs, _, hl, hm, hmm, _, hx⟩
  · simp at hcs
    subst hcs
    exact ⟨none, 0, 0, fun _ => cel0, rfl, Nat.zero_le _, Or.inl rfl, fun i hi => by omega⟩
  · simp at hcs
    subst hcs
    obtain ⟨l0, hl0⟩ : ∃ l0, l = l0 := ⟨_, rfl⟩
    subst hl0
    simp at hmm
    subst hmm
    rcases Nat.eq_zero_or_pos l with h0 | h0
    · subst h0
      exact ⟨some x, 0, _, fun _ => cel0, rfl, Nat.zero_le _, Or.inl rfl, fun i hi => by omega⟩
    obtain ⟨bb, off, spot⟩ := x
    have hspot : spot = none := by
      obtain ⟨cs', h1, h2⟩ := hx 0 (by omega)
      rw [cel] at h1
      obtain ⟨_, hl2, hcells⟩ := World.cells?_some h1
      have z0 := hcells 0 (by omega)
      rw [List.getElem?_eq_getElem (by omega)] at z0
      have := World.cell?_spot z0
      simpa [Addr.add] using this
    subst hspot
    have ad : ∀ u t : Nat, ((⟨bb, off, none⟩ : Addr).add u).add t = ⟨bb, off + u + t, none⟩ := fun u t => by rw [Deep.add_add]; unfold Addr.add; split <;> (simp_all; try omega)
    obtain ⟨f, hfz⟩ : ∃ f : Nat → Cel, ∀ i, i < l → CellAt W bb (off + i * 3) (f i) ∧ (f i).c.size ≤ maxLen := by
      haveI : Inhabited Cel := ⟨cel0⟩
      refine Deep.choose_lt (α := Cel) (p := fun i a => CellAt W bb (off + i * 3) a ∧ a.c.size ≤ maxLen) fun i hi => ?_
      obtain ⟨cs', h1, h2⟩ := hx i (by omega)
      rw [cel] at h1
      obtain ⟨y0, y1, y2, nn, _, hlen, q0, q1, q2⟩ := Deep.trod_struct3 Try.underlying88 h2
      rw [cel] at hlen
      obtain ⟨_, hl2, hcells⟩ := World.cells?_some h1
      match cs', hlen with
      | [e0, e1, e2], _ =>
        obtain ⟨s0, es, _, hs0⟩ := DataW.trod_string Try.underlying9 q0
        obtain ⟨i1, ei1, _⟩ := DataW.trod_bool Try.underlying4 q1
        obtain ⟨i2, ei2, _⟩ := DataW.trod_bool Try.underlying4 q2
        simp [cls] at es
        simp [cli] at ei1 ei2
        subst es ei1 ei2
        have z0 := hcells 0 (by simp)
        have z1 := hcells 1 (by simp)
        have z2 := hcells 2 (by simp)
        rw [ad] at z0 z1 z2
        exact ⟨⟨s0, i1, i2⟩, ⟨by simpa using z0, by simpa using z1, by simpa using z2⟩, hs0⟩
    exact ⟨some ⟨bb, off, none⟩, l, _, f, rfl, Nat.le_trans hl hm, Or.inr ⟨bb, off, rfl, World.block_lt_of_cell? W _ (hfz 0 h0).1.c0, fun i hi => (hfz i hi).1⟩, fun i hi => (hfz i hi).2⟩
set_option maxRecDepth 100000 in
/-- A slice of slices of cells that came in. -/
theorem openSST {H : Type} {enc : TypeId × Value → H} {W : World} {v : Value} {fuel : Nat} {y : DataW H × List MemPlace} (hf : DataW.trod enc Try.prog W 0 (fun _ => true) true fuel 22 [v] = some y) :
    ∃ (sa : Option Addr) (k cap : Nat) (s : Nat → Option Addr) (n c : Nat → Nat) (f : Nat → Nat → Cel), v = .slice sa k cap ∧ k ≤ maxLen ∧ CCRows W W.heap.size sa k s n c f ∧ (∀ i, i < k → n i ≤ maxLen) ∧ ∀ i, i < k → ∀ j, j < n i → (f i j).c.size ≤ maxLen := by
  have cel : Try.prog.cellsOf 65 = 1 := by kernel_rfl
  rcases Deep.open_slice1 Try.underlying22 cel hf with ⟨hcs, _⟩ | ⟨x, l, c, m, fu, V, D, Pl, hcs, _, hl, hm, hmm, _, hx⟩
  · simp at hcs
    subst hcs
    exact ⟨none, 0, 0, fun _ => none, fun _ => 0, fun _ => 0, fun _ _ => cel0, rfl, Nat.zero_le _, Or.inl rfl, fun i hi => by omega, fun i hi => by omega⟩
  · simp at hcs
    subst hcs
    simp at hmm
    subst hmm
    rcases Nat.eq_zero_or_pos l with h0 | h0
    · subst h0
      exact ⟨some x, 0, _, fun _ => none, fun _ => 0, fun _ => 0, fun _ _ => cel0, rfl, Nat.zero_le _, Or.inl rfl, fun i hi => by omega, fun i hi => by omega⟩
    obtain ⟨bb, off, spot⟩ := x
    have hspot : spot = none := by
      have z0 := (hx 0 (by omega)).1
      have := World.cell?_spot z0
      simpa [Addr.add] using this
    subst hspot
    have ad : ∀ u : Nat, ((⟨bb, off, none⟩ : Addr).add u) = ⟨bb, off + u, none⟩ := fun u => by unfold Addr.add; split <;> simp_all
    have each : ∀ i, i < l → ∃ q : Option Addr × Nat × Nat × (Nat → Cel), W.cell? ⟨bb, off + i, none⟩ = some (.slice q.1 q.2.1 q.2.2.1) ∧ q.2.1 ≤ maxLen ∧ CRow W W.heap.size q.1 q.2.1 q.2.2.2 ∧ ∀ j, j < q.2.1 → (q.2.2.2 j).c.size ≤ maxLen := fun i hi => by
      obtain ⟨h1, h2⟩ := hx i (by omega)
      obtain ⟨sa, n, cap, f, hv1, hn, hr, hc⟩ := openCellsC h2
      rw [ad, hv1] at h1
      exact ⟨⟨sa, n, cap, f⟩, h1, hn, hr, hc⟩
    haveI : Inhabited (Option Addr × Nat × Nat × (Nat → Cel)) := ⟨⟨none, 0, 0, fun _ => cel0⟩⟩
    obtain ⟨Q, hQ⟩ := Deep.choose_lt each
    exact ⟨some ⟨bb, off, none⟩, l, _, fun i => (Q i).1, fun i => (Q i).2.1, fun i => (Q i).2.2.1, fun i => (Q i).2.2.2, rfl, Nat.le_trans hl hm, Or.inr ⟨bb, off, rfl, World.block_lt_of_cell? W _ (hQ 0 h0).1, fun i hi => ⟨(hQ i hi).1, (hQ i hi).2.2.1⟩⟩, fun i hi => (hQ i hi).2.1, fun i hi => (hQ i hi).2.2.2⟩
set_option maxRecDepth 100000 in
theorem openSS {H : Type} {enc : TypeId × Value → H} {W : World} {r : Reach} {base : Nat} {v : Value} {d : DataW H} {p : List MemPlace} (hv : Value.okWide Try.prog W r base 22 v) (h : DataW.Trod enc Try.prog W 0 (fun _ => true) true 22 v d p) :
    ∃ (sa : Option Addr) (k cap : Nat) (s : Nat → Option Addr) (n c : Nat → Nat) (f : Nat → Nat → Cel), v = .slice sa k cap ∧ k ≤ maxLen ∧ CCRows W W.heap.size sa k s n c f ∧ (∀ i, i < k → n i ≤ maxLen) ∧ ∀ i, i < k → ∀ j, j < n i → (f i j).c.size ≤ maxLen := by
  obtain ⟨a0, l0, c0, rfl⟩ := okWide_slice Try.underlying22 hv
  obtain ⟨fuel, hf⟩ := h
  exact openSST (v := .slice a0 l0 c0) hf
set_option maxRecDepth 100000 in
/-- A pack that came in. -/
theorem openPk {H : Type} {enc : TypeId × Value → H} {W : World} {r : Reach} {base : Nat} {v : Value} {d : DataW H} {p : List MemPlace} (hv : Value.okWide Try.prog W r base 25 v) (h : DataW.Trod enc Try.prog W 0 (fun _ => true) true 25 v d p) :
    ∃ (sr sm : Option Addr) (cr cm : Nat) (P : Pk), v = .agg #[.slice sr P.k cr, .slice sm P.m cm, .int .i64 P.b] ∧ P.k ≤ maxLen ∧ P.m ≤ maxLen ∧ PkRead W sr sm P ∧ (∀ i, i < P.k → P.n i ≤ maxLen) ∧ ∀ i, i < P.k → ∀ j, j < P.n i → (P.f i j).c.size ≤ maxLen := by
  obtain ⟨u0, u1, u2, y0, y1, y2, m, rfl, _, _, hy0, hy1, hy2⟩ := Joins.open_agg3 Try.underlying25 (by kernel_rfl) (by kernel_rfl) hv h
  obtain ⟨b, rfl⟩ : ∃ b, u2 = .int .i64 b := by
    obtain ⟨b, hb, _⟩ := DataW.trod_int Try.underlying2 hy2
    simp at hb
    exact ⟨b, hb⟩
  obtain ⟨sr, k, cr, s, n, c, f, rfl, hk, hr, hn, hc⟩ := openSST hy0
  rcases open_ints Try.underlying23 Try.underlying2 (by kernel_rfl) hy1 with ⟨hcs, _⟩ | ⟨x, l, cc, zs, hcs, _, hl, hm, hz, _, hcell, hwz⟩
  · simp at hcs
    subst hcs
    exact ⟨sr, none, cr, 0, ⟨k, n, f, 0, fun _ => 0, b⟩, rfl, hk, Nat.zero_le _, ⟨⟨s, c, hr⟩, Or.inl rfl⟩, hn, hc⟩
  · simp at hcs
    subst hcs
    refine ⟨sr, some x, cr, cc, ⟨k, n, f, l, fun i => zs.getD i 0, b⟩, rfl, hk, Nat.le_trans hl hm, ⟨⟨s, c, hr⟩, ?_⟩, hn, hc⟩
    have hzl : zs.length = cc := by simpa using hz
    rcases Nat.eq_zero_or_pos l with h0 | h0
    · exact Or.inl h0
    · obtain ⟨bb, off, spot⟩ := x
      have hc := hcell 0 (by omega)
      have hspot : spot = none := by simpa [Addr.add] using World.cell?_spot hc
      subst hspot
      have hc0 : W.cell? ⟨bb, off, none⟩ = some (.int .i64 (zs.getD 0 0)) := by simpa [Addr.add] using hc
      refine Or.inr ⟨bb, off, rfl, World.block_lt_of_cell? W _ hc0, fun i (hi : i < l) => ?_⟩
      have hp : (⟨bb, off, none⟩ : Addr).add i = ⟨bb, off + i, none⟩ := by unfold Addr.add; split <;> simp_all
      rw [← hp]
      exact hcell i (by omega)

set_option maxRecDepth 100000 in
theorem lifted (os : Os) (started : os.Started) (H : Type) (enc : TypeId × Value → H) :
    ReturnsInHanded {} Try.checked os 6 .any (Rows.fnExactPackByteSpec.pre6 enc Try.prog Try.f6 Rows.fnExactPackByteRow.domain false) (Rows.fnExactPackByteSpec.post enc Try.prog Try.f6 false true false false) := by
  refine returnsInHanded_of_change (C := Try.checked) own started (by kernel_rfl) Try.func6
    (ChangeSpec.witness6 (enc := enc) (C := Try.checked) false ⟨#[], #[.agg #[.slice none 0 0, .slice none 0 0, .int .i64 0], .int .i64 0, .bool false], []⟩ 8 (by kernel_rfl) (by kernel_rfl) (by kernel_rfl) (by kernel_rfl)) ?_
  intro W base args ds gs before hval0 hW hcnd _
  have hval : ∀ (j : Nat) t v, Try.f6.params[j]? = some t → args[j]? = some v → Value.okWide Try.prog W .any base t v := hval0
  have hW' := hW
  obtain ⟨p, q, hA0, hV, rfl, hfz, hnd⟩ := hW
  have hA : DataW.TrodAll enc Try.prog W 0 (fun _ => true) true Try.f6.params.toList args.toList ds p := hA0
  rw [Try.params6] at hA hval
  obtain ⟨v0, vs0, d0, ds0, p0, q0, hargs, rfl, rfl, h0, r0⟩ := trodAll_cons hA
  obtain ⟨v1, vs1, d1, ds1, p1, q1, rfl, rfl, rfl, h1, r1⟩ := trodAll_cons r0
  obtain ⟨v2, vs2, d2, ds2, p2, q2, rfl, rfl, rfl, h2, r2⟩ := trodAll_cons r1
  obtain ⟨rfl, rfl, rfl⟩ := trodAll_nil r2
  obtain rfl : args = #[v0, v1, v2] := by cases args; simp_all
  obtain ⟨rfl, rfl⟩ := trodVars_none hV
  have k0 := h0
  have lt0 : ∀ x ∈ p0, x.block < W.heap.size := by obtain ⟨m, hm⟩ := k0; exact DataW.trod_lt m _ _ _ hm
  obtain ⟨sa0, sb0, ca0, cb0, P0, rfl, hk0, hm0, hr0, hn0, hc0⟩ := openPk (hval 0 25 v0 rfl rfl) h0
  obtain ⟨a1, rfl, rfl, rfl, w1⟩ := open_int Try.underlying2 (hval 1 2 v1 rfl rfl) h1
  obtain ⟨a2, rfl, rfl, rfl⟩ := open_bool Try.underlying4 (hval 2 4 v2 rfl rfl) h2
  clear hA0 hval0
  refine (end_PackByte sa0 sb0 ca0 cb0 P0 a1 a2 W hk0 hm0 hr0 hn0 hc0 w1 ).mono fun e W' ⟨he, bel⟩ => ?_
  subst he
  exact ⟨_, rfl, _, _, _, [], _, [], hW', trodAll_mk1 (shut_bool Try.underlying4 _), (trodAll_cons_mk (Below.trod laidOut (by kernel_rfl) (of_decide_eq_true (by kernel_rfl)) k0 bel lt0) (trodAll_cons_mk (shut_int Try.underlying2 w1) (trodAll_cons_mk (shut_bool Try.underlying4 _) trodAll_mk0))), rfl, bel.frame _, fun h => by cases h⟩

theorem over : Rows.fnExactPackByteRow.holds Try.pinned (OpenSpec.ofChange Rows.fnExactPackByteSpec) :=
  OpenClaim.holds_of_wide 6 Try.f6 rfl rfl rfl rfl rfl rfl rfl ⟨rfl, rfl, rfl, rfl, rfl⟩ rfl rfl rfl rfl rfl (by kernel_rfl) Try.func6 (by kernel_rfl)
    (of_decide_eq_true (by kernel_rfl)) (by unfold Func.isWrapper; first | (rw [if_pos (by decide +kernel)]; kernel_rfl) | (rw [if_neg (by decide +kernel)]; exact ⟨rfl, rfl⟩))
    (fun os started H enc _ => lifted os started H enc)

end Go.Proofs.Ytbdjjggaahjjpaa.fnExactPackByte
namespace Go.Proofs.Ytbdjjggaahjjpaa
theorem fnExactPackByte_holds : Rows.FnExactPackByteSaid := fnExactPackByte.over
#print axioms fnExactPackByte_holds
end Go.Proofs.Ytbdjjggaahjjpaa
