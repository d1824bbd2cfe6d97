/- What is proved here: a statement whose operations may come in any order, by an invariant: what holds of what has come up, shown once for each operation. -/
import Derived.Test.YthnnenbpbkmbhaaDoorProg
import Derived.WalkKit
import Derived.Orders
import Derived.RegionTactic
namespace Go.Proofs.YthnnenbpbkmbhaaDoor
open Go.RowKit

/-- How many of a list have not come up. -/
def unl (l : Array Bool) : List Nat → Nat
  | [] => 0
  | i :: is => (if l.getD i true then 0 else 1) + unl l is
theorem unl_le (l : Array Bool) (i : Nat) : ∀ is, unl (l.setIfInBounds i true) is ≤ unl l is
  | [] => Nat.le_refl _
  | j :: is => by
    have ih := unl_le l i is
    unfold unl
    by_cases e : i = j
    · subst e
      have : (l.setIfInBounds i true).getD i true = true := by
        rcases Nat.lt_or_ge i l.size with h | h <;> simp [h]
      rw [this]
      simp
      omega
    · rw [getD_set_ne true e]
      omega
theorem unl_lt (l : Array Bool) (i : Nat) (h : l.getD i true = false) : ∀ is, i ∈ is → unl (l.setIfInBounds i true) is + 1 ≤ unl l is
  | [], hm => by cases hm
  | j :: is, hm => by
    unfold unl
    by_cases e : i = j
    · subst e
      have h1 : (l.setIfInBounds i true).getD i true = true := by
        rcases Nat.lt_or_ge i l.size with h | h <;> simp [h]
      have h2 := unl_le l i is
      rw [h1, h]
      simp
      omega
    · rw [getD_set_ne true e]
      have : i ∈ is := by
        rcases List.mem_cons.1 hm with h | h
        · exact absurd h e
        · exact h
      have := unl_lt l i h is this
      omega
theorem unl_zero (l : Array Bool) : ∀ is, unl l is = 0 → ∀ i ∈ is, l.getD i true = true
  | [], _, i, hi => by cases hi
  | j :: is, h, i, hi => by
    unfold unl at h
    rcases List.mem_cons.1 hi with e | e
    · subst e
      cases hg : l.getD i true
      · rw [hg] at h
        simp at h
      · rfl
    · exact unl_zero l is (by omega) i e
section
variable {P : Program} {ops : Array Oper} {Q : Exit → Act → World → Prop}
/-- An operation is added to those that have come up. -/
def more (L : Nat → Bool) (i : Nat) : Nat → Bool := fun j => if j = i then true else L j
theorem wpAny_inv (Inv : (Nat → Bool) → Act → World → Prop)
    (step : ∀ (L : Nat → Bool) (a : Act) (w : World) (i : Nat) (o : Oper), ops[i]? = some o → L i = false → (∀ e ∈ o.after, Region.binds .any e = true → L e.on = true) → Inv L a w → wpOp P ops Q i (fun a' w' => Inv (more L i) a' w') a w)
    (fin : ∀ (L : Nat → Bool) (a : Act) (w : World), (∀ i, i < ops.size → L i = true) → Inv L a w → Q .normal a w)
    (acyc : ∀ (i : Nat) (o : Oper), ops[i]? = some o → ∀ e ∈ o.after, e.on < i) :
    ∀ (fuel : Nat) (listed : Array Bool) (a : Act) (w : World), listed.size = ops.size → unl listed (List.range ops.size) ≤ fuel → Inv (fun i => listed.getD i false) a w → wpAny P .any ops Q fuel listed a w := by
  have all_of : ∀ (listed : Array Bool), listed.size = ops.size → Region.ready .any ops listed = [] → ∀ i, i < ops.size → listed.getD i false = true := by
    intro listed hsz hr i
    induction i using Nat.strongRecOn with
    | _ i ih =>
      intro hi
      cases h : listed.getD i false
      · exfalso
        have : i ∈ Region.ready .any ops listed := by
          refine mem_ready.2 ⟨?_, ops[i], ?_, ?_⟩
          · simp [hsz, hi] at h ⊢
            exact h
          · simp [hi]
          · intro e he _
            have h1 := acyc i ops[i] (by simp [hi]) e he
            exact ih e.on h1 (by omega)
        rw [hr] at this
        cases this
      · rfl
  intro fuel
  induction fuel with
  | zero =>
    intro listed a w hsz hu hI
    have hz := unl_zero listed _ (by omega : unl listed (List.range ops.size) = 0)
    have hr : Region.ready .any ops listed = [] := by
      rw [List.eq_nil_iff_forall_not_mem]
      intro i hi
      obtain ⟨h1, o, h2, _⟩ := mem_ready.1 hi
      have h3 := hz i (List.mem_range.2 (Array.getElem?_eq_some_iff.1 h2).1)
      rw [h1] at h3
      cases h3
    exact ⟨hr, fin _ a w (all_of listed hsz hr) hI⟩
  | succ fuel ih =>
    intro listed a w hsz hu hI
    refine ⟨fun hr => fin _ a w (all_of listed hsz hr) hI, fun i hi => ?_⟩
    obtain ⟨h1, o, h2, h3⟩ := mem_ready.1 hi
    have hlt : i < ops.size := (Array.getElem?_eq_some_iff.1 h2).1
    have h4 : listed.getD i false = false := by
      simp [hsz, hlt] at h1 ⊢
      exact h1
    refine wpOp_mono (fun a' w' hI' => ih (listed.setIfInBounds i true) a' w' (by simp [hsz]) ?_ ?_) (step (fun j => listed.getD j false) a w i o h2 h4 h3 hI)
    · have := unl_lt listed i h1 (List.range ops.size) (List.mem_range.2 hlt)
      omega
    · have e : (fun j => (listed.setIfInBounds i true).getD j false) = more (fun j => listed.getD j false) i := by
        funext j
        unfold more
        by_cases hj : j = i
        · subst hj
          simp [hsz, hlt]
        · rw [if_neg hj, getD_set_ne false (Ne.symm hj)]
      rw [e]
      exact hI'
theorem unl_replicate (n : Nat) : ∀ is : List Nat, unl (Array.replicate n false) is ≤ is.length
  | [] => Nat.le_refl _
  | i :: is => by
    have := unl_replicate n is
    unfold unl
    simp only [List.length_cons]
    split <;> omega
/-- **A statement in whatever order, by an invariant.** -/
theorem wp_region_inv {id : Nat} {a : Act} {w : World} (hm : P.follows .mixedOrders = true) (Inv : (Nat → Bool) → Act → World → Prop)
    (acyc : ∀ (i : Nat) (o : Oper), ops[i]? = some o → ∀ e ∈ o.after, e.on < i)
    (start : Inv (fun _ => false) a { w with drawn := w.drawn + 1 })
    (step : ∀ (L : Nat → Bool) (a : Act) (w : World) (i : Nat) (o : Oper), ops[i]? = some o → L i = false → (∀ e ∈ o.after, Region.binds .any e = true → L e.on = true) → Inv L a w → wpOp P ops Q i (fun a' w' => Inv (more L i) a' w') a w)
    (fin : ∀ (L : Nat → Bool) (a : Act) (w : World), (∀ i, i < ops.size → L i = true) → Inv L a w → Q .normal a w) : (Code.region id ops true).wp P Q a w := by
  refine wp_region_any hm (wpAny_inv Inv step fin acyc ops.size _ a _ (by simp) ?_ ?_)
  · exact Nat.le_trans (unl_replicate _ _) (by simp)
  · have e : (fun i => (Array.replicate ops.size false).getD i false) = fun _ => false := by
      funext i
      rcases Nat.lt_or_ge i ops.size with h | h <;> simp [h]
    rw [e]
    exact start
/-- One operation that no guard holds back. -/
theorem wpOp_one {i : Nat} {o : Oper} {K : Act → World → Prop} {a : Act} {w : World} (h : ops[i]? = some o) (hg : o.guard = none) (hw : o.wp P a w K Q) : wpOp P ops Q i K a w := by
  unfold wpOp
  rw [h]
  have hn : Region.wanted o (yielded ops a.tmps) = true := by unfold Region.wanted; rw [hg]
  simp only [hn, if_true]
  exact Or.inl hw
end
end Go.Proofs.YthnnenbpbkmbhaaDoor
