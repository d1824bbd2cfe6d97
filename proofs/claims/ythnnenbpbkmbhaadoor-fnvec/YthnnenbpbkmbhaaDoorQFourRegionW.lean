/- What is proved here: small laws for a statement in whatever order: its frame under a name, that no operation waits for a later one, the beginning and the end of the four calls. -/
import Derived.Test.YthnnenbpbkmbhaaDoorQFourW
namespace Go.Proofs.YthnnenbpbkmbhaaDoor
open Go.RowKit

theorem region_frame {P : Program} {c : Code} {Q : Exit → Act → World → Prop} {a : Act} {w : World} (h : ∀ a', a' = a → Code.wp P c Q a' w) : Code.wp P c Q a w := h a rfl
/-- No operation waits for a later one. -/
def acycB (ops : Array Oper) : Bool := (List.range ops.size).all fun i => match ops[i]? with
  | some o => o.after.all (fun e => decide (e.on < i))
  | none => true
theorem acyc_of {ops : Array Oper} (h : acycB ops = true) : ∀ (i : Nat) (o : Oper), ops[i]? = some o → ∀ e ∈ o.after, e.on < i := by
  intro i o ho e he
  have hlt : i < ops.size := (Array.getElem?_eq_some_iff.1 ho).1
  have h1 := List.all_eq_true.1 h i (List.mem_range.2 hlt)
  simp only [ho] at h1
  have h2 := Array.all_eq_true'.1 h1 e he
  exact of_decide_eq_true h2
theorem putL_self (a : Act) : ∀ l : List Nat, putL a (fun t => a.tmps.getD t undef) l = a := by
  intro l
  refine act_ext (fun t => ?_) (putL_defers _ l a)
  rw [putL_at]
  split
  · rename_i h
    simp [h.2]
  · rfl
theorem four_start (X : Four) : FourI X (fun _ => false) X.a0 X.wB.drew := by
  refine ⟨fun t => X.a0.tmps.getD t undef, fun _ => 0, fun _ => none, fun _ => 0, fun _ => 0, (putL_self _ _).symm, ?_⟩
  refine { since := since_drew (since_refl _), load := ?_, call := ?_, row := ?_, ptr := ?_, box0 := ?_, box1 := ?_, done := ?_, apart := ?_, away := ?_ } <;> intros <;> contradiction
/-- What the four calls leave. -/
def Left4 (X : Four) (v0 v1 v2 v3 : Value) (wc : World) : Prop :=
  ∃ (p : Nat → Nat) (sx : Nat → Option Addr) (cx : Nat → Nat), v0 = .pointer (some ⟨p 0, 0, none⟩) ∧ v1 = .pointer (some ⟨p 1, 0, none⟩) ∧ v2 = .pointer (some ⟨p 2, 0, none⟩) ∧ v3 = .pointer (some ⟨p 3, 0, none⟩) ∧ Since X.wB wc ∧
    ∀ k, k < 4 → Boxed wc (p k) 25 (X.rb k) (sx k) (X.rn k) (cx k) ∧ Row wc wc.heap.size (sx k) (X.rn k) (X.rf k)
theorem four_end {X : Four} {L : Nat → Bool} {V : Nat → Value} {p : Nat → Nat} {sx : Nat → Option Addr} {cx g : Nat → Nat} {w : World} (m : FourM X L V p sx cx g w) (hL : ∀ i, i < 19 → L i = true) : Left4 X (V 13) (V 14) (V 15) (V 16) w := by
  refine ⟨p, sx, cx, (m.ptr 0 (by decide) (hL 11 (by decide))).1, (m.ptr 1 (by decide) (hL 12 (by decide))).1, (m.ptr 2 (by decide) (hL 13 (by decide))).1, (m.ptr 3 (by decide) (hL 14 (by decide))).1, m.since, fun k hk => ⟨m.box1 k hk (hL _ (by omega)), ?_⟩⟩
  rcases m.row k hk (hL _ (by have := callNo_le hk; omega)) with h | ⟨h1, _, h3⟩
  · exact Or.inl h
  · rw [h1]
    exact h3.row h3.1
end Go.Proofs.YthnnenbpbkmbhaaDoor
