/- What is proved here: a statement whose operations may come in any order, each of which yields what it should in every good world: an invariant of what has come up, the slots in a row. -/
import Derived.Test.YthnnenbpbkmbhaaDoorQFourRegionW
import Derived.Test.YthnnenbpbkmbhaaDoorQOperW
namespace Go.Proofs.YthnnenbpbkmbhaaDoor
open Go.RowKit

/-- What an operation yields: one value, or a new vector. -/
inductive Ex where
  | con (v : Value)
  | vec (rb : Int) (rn : Nat) (rf : Nat → Int)
def Ex.holds : Ex → World → Value → Prop
  | .con c, _, v => v = c
  | .vec rb rn rf, w, v => ∃ so co, v = .agg #[.int .i64 rb, .slice so rn co] ∧ Row w w.heap.size so rn rf
theorem Ex.mono {e : Ex} {w w' : World} {v : Value} (hb : Below w.heap.size w w') (h : e.holds w v) : e.holds w' v := by
  cases e with
  | con c => exact h
  | vec rb rn rf =>
    obtain ⟨so, co, h1, h2⟩ := h
    exact ⟨so, co, h1, row_since h2 ⟨hb⟩⟩
/-- The good worlds, the frame at the start, the first slot, what is yielded. -/
structure Ch where
  good : World → Prop
  a0 : Act
  base : Nat
  exs : List Ex
def ChI (X : Ch) (L : Nat → Bool) (a : Act) (w : World) : Prop :=
  ∃ V : Nat → Value, a = putL X.a0 V (List.range' X.base X.exs.length) ∧ X.good w ∧ ∀ i e, X.exs[i]? = some e → L i = true → e.holds w (V (X.base + i))
theorem ch_start {X : Ch} {w : World} (h : X.good w) : ChI X (fun _ => false) X.a0 w :=
  ⟨fun t => X.a0.tmps.getD t undef, (putL_self _ _).symm, h, fun _ _ _ h2 => by cases h2⟩
theorem ch_put {X : Ch} {L : Nat → Bool} {a : Act} {w w' : World} {v : Value} {e : Ex} (h : ChI X L a w) (i : Nat) (he : X.exs[i]? = some e) (hg : X.good w') (hb : Below w.heap.size w w' ∨ w' = w) (hv : e.holds w' v) : ChI X (more L i) (a.put (some (X.base + i : Nat)) v) w' := by
  obtain ⟨V, rfl, _, hV⟩ := h
  have hi : i < X.exs.length := (List.getElem?_eq_some_iff.1 he).1
  refine ⟨upd V (X.base + i) v, putL_put _ (List.mem_range'_1.2 ⟨by omega, by omega⟩), hg, fun j e' he' hL => ?_⟩
  by_cases hj : j = i
  · subst hj
    rw [upd_at]
    rw [he] at he'
    injection he' with he'
    subst he'
    exact hv
  · rw [upd_of (by omega)]
    have h1 := hV j e' he' (by rw [more_of hj] at hL; exact hL)
    rcases hb with hb | rfl
    · exact Ex.mono (e := e') hb h1
    · exact h1
theorem ch_get {X : Ch} {L : Nat → Bool} {a : Act} {w : World} {e : Ex} (h : ChI X L a w) (hsz : X.base + X.exs.length ≤ X.a0.tmps.size) (j : Nat) (he : X.exs[j]? = some e) (hL : L j = true) : ∃ v, a.tmps[X.base + j]? = some v ∧ e.holds w v := by
  obtain ⟨V, rfl, _, hV⟩ := h
  have hj : j < X.exs.length := (List.getElem?_eq_some_iff.1 he).1
  exact ⟨_, putL_in_at (List.mem_range'_1.2 ⟨by omega, by omega⟩) (by omega), hV j e he hL⟩
theorem ch_con {X : Ch} {L : Nat → Bool} {a : Act} {w : World} {c : Value} (h : ChI X L a w) (hsz : X.base + X.exs.length ≤ X.a0.tmps.size) (j : Nat) (he : X.exs[j]? = some (.con c)) (hL : L j = true) : a.tmps[X.base + j]? = some c := by
  obtain ⟨v, h1, h2⟩ := ch_get h hsz j he hL
  have h3 : v = c := h2
  rw [h1, h3]
theorem ch_vec {X : Ch} {L : Nat → Bool} {a : Act} {w : World} {rb : Int} {rn : Nat} {rf : Nat → Int} (h : ChI X L a w) (hsz : X.base + X.exs.length ≤ X.a0.tmps.size) (j : Nat) (he : X.exs[j]? = some (.vec rb rn rf)) (hL : L j = true) : ∃ so co, a.tmps[X.base + j]? = some (.agg #[.int .i64 rb, .slice so rn co]) ∧ Row w w.heap.size so rn rf := by
  obtain ⟨v, h1, so, co, h2, h3⟩ := ch_get h hsz j he hL
  exact ⟨so, co, by rw [h1, h2], h3⟩
theorem ch_out {X : Ch} {L : Nat → Bool} {a : Act} {w : World} (h : ChI X L a w) (t : Nat) (ht : t < X.base ∨ X.base + X.exs.length ≤ t) : a.tmps[t]? = X.a0.tmps[t]? := by
  obtain ⟨V, rfl, _, _⟩ := h
  refine putL_out_at (fun hm => ?_)
  have := List.mem_range'_1.1 hm
  omega
theorem ch_good {X : Ch} {L : Nat → Bool} {a : Act} {w : World} (h : ChI X L a w) : X.good w := by
  obtain ⟨_, _, h, _⟩ := h
  exact h
theorem dep_at {ops : Array Oper} {o : Oper} {L : Nat → Bool} {i : Nat} (ho : ops[i]? = some o) (hdep : ∀ e ∈ o.after, Region.binds .any e = true → L e.on = true) (idx : Nat) (e : Edge) (h : (ops[i]?).bind (fun o => o.after[idx]?) = some e) (hb : Region.binds .any e = true) : L e.on = true := by
  rw [ho] at h
  exact hdep e (Array.mem_of_getElem? h) hb
theorem want_of {ops : Array Oper} {tm : Array Value} {o og : Oper} {g d : Nat} {b : Bool} (hg : o.guard = some (g, b)) (hog : ops[g]? = some og) (hd : og.dst = some d) (hv : tm[d]? = some (.bool b)) : Region.wanted o (yielded ops tm) = true := by
  unfold Region.wanted
  rw [hg]
  show (yielded ops tm g == some b) = true
  unfold yielded
  rw [hog]
  show ((match (og.dst).bind (tm[·]?) with | some (.bool b) => some b | _ => none) == some b) = true
  rw [hd]
  show ((match tm[d]? with | some (.bool b) => some b | _ => none) == some b) = true
  rw [hv]
  simp
theorem unwant_of {ops : Array Oper} {tm : Array Value} {o og : Oper} {g d : Nat} {b c : Bool} (hg : o.guard = some (g, b)) (hog : ops[g]? = some og) (hd : og.dst = some d) (hv : tm[d]? = some (.bool c)) (hbc : (c == b) = false) : Region.wanted o (yielded ops tm) = false := by
  unfold Region.wanted
  rw [hg]
  show (yielded ops tm g == some b) = false
  unfold yielded
  rw [hog]
  show ((match (og.dst).bind (tm[·]?) with | some (.bool b) => some b | _ => none) == some b) = false
  rw [hd]
  show ((match tm[d]? with | some (.bool b) => some b | _ => none) == some b) = false
  rw [hv]
  exact hbc
theorem unwant_undef {ops : Array Oper} {tm : Array Value} {o og : Oper} {g d : Nat} {b : Bool} (hg : o.guard = some (g, b)) (hog : ops[g]? = some og) (hd : og.dst = some d) (hv : tm[d]? = some undef) : Region.wanted o (yielded ops tm) = false := by
  unfold Region.wanted
  rw [hg]
  show (yielded ops tm g == some b) = false
  unfold yielded
  rw [hog]
  show ((match (og.dst).bind (tm[·]?) with | some (.bool b) => some b | _ => none) == some b) = false
  rw [hd]
  show ((match tm[d]? with | some (.bool b) => some b | _ => none) == some b) = false
  rw [hv]
  rfl
theorem want_none {ops : Array Oper} {tm : Array Value} {o : Oper} (hg : o.guard = none) : Region.wanted o (yielded ops tm) = true := by unfold Region.wanted; rw [hg]
section
variable {ops : Array Oper} {Q : Exit → Act → World → Prop} {X : Ch} {L : Nat → Bool} {ac : Act} {W : World} {o : Oper}
theorem wpOp_want {P : Program} {i : Nat} {K : Act → World → Prop} (h : ops[i]? = some o) (hn : Region.wanted o (yielded ops ac.tmps) = true) (hw : o.wp P ac W K Q) : wpOp P ops Q i K ac W := by
  unfold wpOp
  rw [h]
  simp only [hn, if_true]
  exact Or.inl hw
/-- An operation that yields one value and leaves the world. -/
theorem chs_con (i : Nat) (v : Value) (hI : ChI X L ac W) (he : X.exs[i]? = some (.con v)) (hop : ops[i]? = some o) (hn : Region.wanted o (yielded ops ac.tmps) = true) (hwp : ∀ K : Act → World → Prop, K (ac.put (some (X.base + i : Nat)) v) W → Oper.wp Tryd.prog o ac W K Q) : wpOp Tryd.prog ops Q i (fun a' w' => ChI X (more L i) a' w') ac W :=
  wpOp_want hop hn (hwp _ (ch_put hI i he (ch_good hI) (Or.inr rfl) rfl))
/-- An operation that its guard passes over. -/
theorem chs_skip (i : Nat) (hI : ChI X L ac W) (he : X.exs[i]? = some (.con undef)) (hop : ops[i]? = some o) (hd : o.dst = some (X.base + i : Nat)) (hn : Region.wanted o (yielded ops ac.tmps) = false) : wpOp Tryd.prog ops Q i (fun a' w' => ChI X (more L i) a' w') ac W := by
  unfold wpOp
  rw [hop]
  simp only [hn]
  rw [hd]
  exact ch_put hI i he (ch_good hI) (Or.inr rfl) rfl
/-- A call that hands one value back. -/
theorem chs_call {f : Nat} {args : Array Value} (i : Nat) (v : Value) (hI : ChI X L ac W) (he : X.exs[i]? = some (.con v)) (hop : ops[i]? = some o) (hn : Region.wanted o (yielded ops ac.tmps) = true) (hC : Calls Tryd.prog f args W fun e w' => e = .returned v ∧ X.good w' ∧ Below W.heap.size W w') (hwp : ∀ K : Act → World → Prop, (Calls Tryd.prog f args W fun e w' => ∃ v, e = .returned v ∧ K (ac.put (some (X.base + i : Nat)) v) w') → Oper.wp Tryd.prog o ac W K Q) : wpOp Tryd.prog ops Q i (fun a' w' => ChI X (more L i) a' w') ac W :=
  wpOp_want hop hn (hwp _ (hC.mono fun _ _ h => ⟨v, h.1, ch_put hI i he h.2.1 (Or.inl h.2.2) rfl⟩))
/-- A call that hands a new vector back. -/
theorem chs_vec {f : Nat} {args : Array Value} {rb : Int} {rn : Nat} {rf : Nat → Int} (i : Nat) (hI : ChI X L ac W) (he : X.exs[i]? = some (.vec rb rn rf)) (hop : ops[i]? = some o) (hn : Region.wanted o (yielded ops ac.tmps) = true) (hC : Calls Tryd.prog f args W fun e w' => ∃ so co, e = .returned (.agg #[.int .i64 rb, .slice so rn co]) ∧ X.good w' ∧ Below W.heap.size W w' ∧ Row w' w'.heap.size so rn rf) (hwp : ∀ K : Act → World → Prop, (Calls Tryd.prog f args W fun e w' => ∃ v, e = .returned v ∧ K (ac.put (some (X.base + i : Nat)) v) w') → Oper.wp Tryd.prog o ac W K Q) : wpOp Tryd.prog ops Q i (fun a' w' => ChI X (more L i) a' w') ac W :=
  wpOp_want hop hn (hwp _ (hC.mono fun _ _ ⟨so, co, h1, h2, h3, h4⟩ => ⟨_, h1, ch_put hI i he h2 (Or.inl h3) ⟨so, co, rfl, h4⟩⟩))
end
end Go.Proofs.YthnnenbpbkmbhaaDoor
