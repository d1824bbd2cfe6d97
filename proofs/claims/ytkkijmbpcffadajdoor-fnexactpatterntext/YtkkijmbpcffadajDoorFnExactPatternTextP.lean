/- What is proved here: the given statement FnExactPatternTextCardSaid: at every input the law returns true and leaves what was there as it was. Its condition, tied to the program's text by the given tie: the variable math/bits.deBruijn64tab holds the library's table. The walk lies in YtkkijmbpcffadajDoorPTextE. -/
import Derived.Test.YtkkijmbpcffadajDoorCards
import Derived.Test.YtkkijmbpcffadajDoorTie
import Derived.Test.YtkkijmbpcffadajDoorPTextE
import Derived.WalkKit
import Derived.ProofKit
import Derived.OpenShut
import Derived.ShutString
import Derived.ChangeSame
import Derived.ChangeOld
import Derived.Below
import Derived.ChangeVars
import Derived.JoinedOf
import Derived.RowKit
import Derived.LaidLaws
import Derived.LaidHandle
import Derived.LaidMore
import Derived.Lib.LaidTab
import Derived.Lib.SmallJoins
import Derived.Deep.Strs
import Derived.Stop.Joined
import Derived.SevenTiedAt
namespace Go.Proofs.YtkkijmbpcffadajDoor.fnExactPatternText
open Go.ChangeShapes Go.WideShapes Go.ChangeAt Go.RowKit
open Go.ChangeMaps (open_string shut_string)
set_option linter.unusedVariables false

theorem own : ownKnob Tryd.prog.godebug = none := by kernel_rfl
theorem laidOut : laidOutB Tryd.prog = true := by kernel_rfl
theorem gTab : Tryd.prog.globalNamed "math/bits.deBruijn64tab" = some 1 := by kernel_rfl
theorem tTab : (Tryd.prog.globals[1]?).map (·.type) = some 109 := by kernel_rfl
set_option maxRecDepth 100000 in
/-- A slice of atoms that came in. -/
theorem openAtoms {H : Type} {enc : TypeId × Value → H} {W : World} {r : Reach} {base : Nat} {v : Value} {d : DataW H} {p : List MemPlace} (hv : Value.okWide Tryd.prog W r base 22 v) (h : DataW.Trod enc Tryd.prog W 0 (fun _ => true) true 22 v d p) :
    ∃ (sa : Option Addr) (n cap : Nat) (f : Nat → Atm), v = .slice sa n cap ∧ n ≤ maxLen ∧ ARow W W.heap.size sa n f ∧ ∀ i, i < n → (f i).c.size ≤ maxLen := by
  obtain ⟨a0, l0, c0, rfl⟩ := okWide_slice Tryd.underlying22 hv
  obtain ⟨fuel, hf⟩ := h
  have cel : Tryd.prog.cellsOf 37 = 3 := by kernel_rfl
  have cls : Tryd.prog.cellsOf 9 = 1 := by kernel_rfl
  have cli : Tryd.prog.cellsOf 2 = 1 := by kernel_rfl
  rcases Deep.open_slice Tryd.underlying22 hf with ⟨hcs, _⟩ | ⟨x, l, c, m, fu, D, Pl, hcs, _, hl, hm, hmm, _, hx⟩
  · simp [Value.cells] at hcs
    obtain ⟨rfl, rfl, rfl⟩ := hcs
    exact ⟨none, 0, 0, fun _ => atm0, rfl, Nat.zero_le _, Or.inl rfl, fun i hi => by omega⟩
  · simp [Value.cells] at hcs
    obtain ⟨rfl, rfl, rfl⟩ := hcs
    simp at hmm
    subst hmm
    rcases Nat.eq_zero_or_pos l0 with h0 | h0
    · subst h0
      exact ⟨some x, 0, _, fun _ => atm0, rfl, Nat.zero_le _, Or.inl rfl, fun i hi => by omega⟩
    obtain ⟨bb, off, spot⟩ := x
    have hspot : spot = none := by
      obtain ⟨cs', h1, h2⟩ := hx 0 (by omega)
      rw [cel] at h1
      obtain ⟨_, hl2, hcells⟩ := World.cells?_some h1
      have z0 := hcells 0 (by omega)
      rw [List.getElem?_eq_getElem (by omega)] at z0
      have := World.cell?_spot z0
      simpa [Addr.add] using this
    subst hspot
    have ad : ∀ u t : Nat, ((⟨bb, off, none⟩ : Addr).add u).add t = ⟨bb, off + u + t, none⟩ := fun u t => by rw [Deep.add_add]; unfold Addr.add; split <;> (simp_all; try omega)
    obtain ⟨f, hfz⟩ : ∃ f : Nat → Atm, ∀ i, i < l0 → AtomAt W bb (off + i * 3) (f i) ∧ (f i).c.size ≤ maxLen := by
      haveI : Inhabited Atm := ⟨atm0⟩
      refine Deep.choose_lt (α := Atm) (p := fun i a => AtomAt W bb (off + i * 3) a ∧ a.c.size ≤ maxLen) fun i hi => ?_
      obtain ⟨cs', h1, h2⟩ := hx i (by omega)
      rw [cel] at h1
      obtain ⟨y0, y1, y2, nn, _, hlen, q0, q1, q2⟩ := Deep.trod_struct3 Tryd.underlying37 h2
      rw [cel] at hlen
      obtain ⟨_, hl2, hcells⟩ := World.cells?_some h1
      match cs', hlen with
      | [e0, e1, e2], _ =>
        obtain ⟨s0, es, _, hs0⟩ := DataW.trod_string Tryd.underlying9 q0
        obtain ⟨i1, ei1, _, _⟩ := DataW.trod_int Tryd.underlying2 q1
        obtain ⟨i2, ei2, _, _⟩ := DataW.trod_int Tryd.underlying2 q2
        simp [cls] at es
        simp [cli] at ei1 ei2
        subst es ei1 ei2
        have z0 := hcells 0 (by simp)
        have z1 := hcells 1 (by simp)
        have z2 := hcells 2 (by simp)
        rw [ad] at z0 z1 z2
        exact ⟨⟨s0, i1, i2⟩, ⟨by simpa using z0, by simpa using z1, by simpa using z2⟩, hs0⟩
    exact ⟨some ⟨bb, off, none⟩, l0, _, f, rfl, Nat.le_trans hl hm, Or.inr ⟨bb, off, rfl, World.block_lt_of_cell? W _ (hfz 0 h0).1.c0, fun i hi => (hfz i hi).1⟩, fun i hi => (hfz i hi).2⟩

/-- What the row's list gives a walk: the library's table. -/
theorem tab_of_laid {W : World} (h : laidMetH Tryd.prog Rows.fnExactPatternTextRow.laid W) : Tab64 W ∧ 1 < W.heap.size := by
  have h' : laidMet Tryd.prog (("math/bits.deBruijn64tab", Lib.tabData .u8 (Lib.deBruijn64tab.map fun x : Nat => (x : Int))) :: []) W := h
  have h2 := Lib.tabIs_of_head gTab tTab Tryd.underlying109 Tryd.underlying5 (by kernel_rfl) (by kernel_rfl) h'
  have h3 : Tab64 W := fun j hj => by
    have h4 := h2.cell gTab j (by rw [List.length_map]; exact hj)
    rw [h4]
    congr 2
    simp [List.getD, hj]
  exact ⟨h3, World.block_lt_of_cell? W ⟨1, 0, Option.none⟩ (h3 0 (by decide))⟩

/-- The door's own heap meets the condition. -/
theorem door_met (os : Os) (args : Array Value) : laidMetH Tryd.prog Rows.fnExactPatternTextRow.laid ((World.doorLaid Tryd.prog 400 os).forCall (fun _ _ => 0) ⟨#[], args, []⟩).memory :=
  laidMetH_of_parts3 (fuel := 8) (laidMet_of_run' 8 (by kernel_rfl) (by kernel_rfl)) (by kernel_rfl) (by kernel_rfl)

set_option maxRecDepth 100000 in
theorem lifted (os : Os) (started : os.Started) (H : Type) (enc : TypeId × Value → H) :
    ReturnsInHanded {} Tryd.checked os 3 .any (fun w args => (Rows.fnExactPatternTextSpec.pre enc Tryd.prog Tryd.f3 [] false w args ∧ laidMetH Tryd.prog Rows.fnExactPatternTextRow.laid w) ∧ sizedMet enc Tryd.prog Tryd.f3 (OpenSpec.ofChange Rows.fnExactPatternTextSpec) false w args)
      (Rows.fnExactPatternTextSpec.post enc Tryd.prog Tryd.f3 false true false false) := by
  refine returnsInHanded_of_change_and (C := Tryd.checked) (X := fun w _ => laidMetH Tryd.prog Rows.fnExactPatternTextRow.laid w) (fun _ _ _ hh h => h.of_heap hh) own started (by kernel_rfl) Tryd.func3
    (ChangeSpec.witness_shaped (enc := enc) (C := Tryd.checked) (os := os) (X := fun w _ => laidMetH Tryd.prog Rows.fnExactPatternTextRow.laid w) false (World.doorLaid Tryd.prog 400 os) #[.slice none 0 0] 8 rfl (World.shaped_of_RefB (by kernel_rfl) (by kernel_rfl)) (by kernel_rfl) (by kernel_rfl) (by kernel_rfl) (door_met os _)) ?_
  intro W base args ds gs before hval0 hW _ _ hL _
  have hval : ∀ (j : Nat) t v, Tryd.f3.params[j]? = some t → args[j]? = some v → Value.okWide Tryd.prog W .any base t v := hval0
  have hW' := hW
  obtain ⟨p, q, hA0, hV0, rfl, hfz, hnd⟩ := hW
  have hA : DataW.TrodAll enc Tryd.prog W 0 (fun _ => true) true Tryd.f3.params.toList args.toList ds p := hA0
  have hV : DataW.TrodVars enc Tryd.prog W (fun _ => true) [] gs q := hV0
  rw [Tryd.params3] at hA hval
  obtain ⟨v0, vs0, d0, ds0, p0, q0, hargs, rfl, rfl, h0, r0⟩ := trodAll_cons hA
  obtain ⟨rfl, rfl, rfl⟩ := trodAll_nil r0
  obtain rfl : args = #[v0] := by cases args; simp_all
  have k0 := h0
  have lt0 : ∀ x ∈ p0, x.block < W.heap.size := by obtain ⟨m, hm⟩ := k0; exact DataW.trod_lt m _ _ _ hm
  obtain ⟨sa0, n0, ca0, f0, rfl, hm0, hr0, hc0⟩ := openAtoms (hval 0 22 v0 rfl rfl) h0
  obtain ⟨rfl, rfl⟩ : gs = [] ∧ q = [] := by
    cases gs with
    | nil => exact ⟨rfl, hV⟩
    | cons g r => exact absurd hV (by intro h; cases h)
  have hg := tab_of_laid hL
  refine (end_PatternText sa0 n0 ca0 f0 W hm0 hr0 hc0  hg.1 hg.2).mono fun e W' ⟨he, bel⟩ => ?_
  subst he
  exact ⟨_, rfl, _, _, _, [], _, [], hW', (trodAll_cons_mk (shut_bool Tryd.underlying4 _) trodAll_mk0), (trodAll_cons_mk (Below.trod laidOut (by kernel_rfl) (of_decide_eq_true (by kernel_rfl)) k0 bel lt0) trodAll_mk0), rfl, bel.frame _, fun h => by cases h⟩

theorem said : Rows.FnExactPatternTextSaid :=
  OpenClaim.holds_of_wide 3 Tryd.f3 rfl rfl rfl rfl rfl rfl rfl ⟨rfl, rfl, rfl, rfl, rfl⟩ rfl rfl rfl rfl rfl (by kernel_rfl) Tryd.func3 (by kernel_rfl)
    (of_decide_eq_true (by kernel_rfl)) (by unfold Func.isWrapper; first | (rw [if_pos (by decide +kernel)]; kernel_rfl) | (rw [if_neg (by decide +kernel)]; exact ⟨rfl, rfl⟩))
    (fun os started H enc _ => lifted os started H enc)

theorem plain (f : FuncId) (fn : Func) (hf : Tryd.pinned.checked.prog.funcNamed "loop.example/g00736/laws.FnExactPatternText" = some f) (hfn : Tryd.pinned.checked.prog.funcs[f]? = some fn) :
    true = Tryd.pinned.checked.prog.looks [] ∧ ∀ (j : Nat) t, fn.params[j]? = some t → Tryd.pinned.checked.prog.wantsStandIn t = false := by
  obtain rfl : f = 3 := Option.some.inj ((show Tryd.prog.funcNamed "loop.example/g00736/laws.FnExactPatternText" = some 3 by kernel_rfl).symm.trans hf) |>.symm
  obtain rfl : fn = Tryd.f3 := (Option.some.inj (Tryd.func3.symm.trans hfn)).symm
  refine ⟨by kernel_rfl, fun j t ht => ?_⟩
  rw [Tryd.params3] at ht
  have hm := Array.mem_of_getElem? ht
  simp at hm
  obtain rfl : t = 22 := by first | exact hm.2 | exact hm
  · exact (show Tryd.prog.wantsStandIn 22 = false by kernel_rfl)
end Go.Proofs.YtkkijmbpcffadajDoor.fnExactPatternText
namespace Go.Proofs.YtkkijmbpcffadajDoor
/-- The card. -/
theorem fnExactPatternText_holds : Rows.FnExactPatternTextCardSaid :=
  Claim7.holds_tied_plain_at .later [] _ _ _ _ fnExactPatternText.said (fun _ h => by cases h) (by kernel_rfl) (fun _ h => by cases h) fnExactPatternText_row_tie rfl ⟨rfl, rfl⟩ (by kernel_rfl) rfl fnExactPatternText.plain (by kernel_rfl)
#print axioms fnExactPatternText_holds
end Go.Proofs.YtkkijmbpcffadajDoor
