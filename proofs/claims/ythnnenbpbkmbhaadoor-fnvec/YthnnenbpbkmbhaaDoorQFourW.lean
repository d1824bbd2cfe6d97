/- What is proved here: four calls whose four answers are stored into four new boxes, in whatever order: an invariant of what has come up. -/
import Derived.Test.YthnnenbpbkmbhaaDoorQInvW
import Derived.Test.YthnnenbpbkmbhaaDoorQRowsDToVecS
namespace Go.Proofs.YthnnenbpbkmbhaaDoor
open Go.RowKit

/-- A frame with some slots written. -/
def putL (a : Act) (V : Nat → Value) : List Nat → Act
  | [] => a
  | d :: l => putL (a.put (some d) (V d)) V l
theorem putL_size (V : Nat → Value) : ∀ (l : List Nat) (a : Act), (putL a V l).tmps.size = a.tmps.size
  | [], _ => rfl
  | d :: l, a => by
    unfold putL
    rw [putL_size V l]
    simp [Act.put]
theorem putL_defers (V : Nat → Value) : ∀ (l : List Nat) (a : Act), (putL a V l).defers = a.defers
  | [], _ => rfl
  | d :: l, a => by
    unfold putL
    rw [putL_defers V l]
    rfl
theorem putL_at (V : Nat → Value) (t : Nat) : ∀ (l : List Nat) (a : Act), (putL a V l).tmps[t]? = if t ∈ l ∧ t < a.tmps.size then some (V t) else a.tmps[t]?
  | [], a => by simp [putL]
  | d :: l, a => by
    unfold putL
    rw [putL_at V t l]
    have hs : (a.put (some d) (V d)).tmps.size = a.tmps.size := by simp [Act.put]
    rw [hs]
    by_cases h1 : t ∈ l ∧ t < a.tmps.size
    · rw [if_pos h1, if_pos ⟨List.mem_cons_of_mem _ h1.1, h1.2⟩]
    · rw [if_neg h1]
      by_cases h2 : t = d
      · subst h2
        by_cases h3 : t < a.tmps.size
        · rw [if_pos ⟨by simp, h3⟩]
          simp [Act.put, h3]
        · rw [if_neg (fun h => h3 h.2)]
          simp [Act.put, h3]
      · rw [if_neg (fun h => by
          rcases List.mem_cons.1 h.1 with e | e
          · exact h2 e
          · exact h1 ⟨e, h.2⟩)]
        simp [Act.put, Array.getElem?_setIfInBounds_ne (Ne.symm h2)]
/-- One slot written anew. -/
def upd (V : Nat → Value) (d : Nat) (v : Value) : Nat → Value := fun t => if t = d then v else V t
theorem act_ext {a b : Act} (h1 : ∀ t : Nat, a.tmps[t]? = b.tmps[t]?) (h2 : a.defers = b.defers) : a = b := by
  cases a
  cases b
  simp only at h1 h2
  subst h2
  congr 1
  exact Array.ext_getElem? h1
theorem putL_put {V : Nat → Value} {l : List Nat} {a : Act} {d : Nat} (v : Value) (hd : d ∈ l) : (putL a V l).put (some d) v = putL a (upd V d v) l := by
  refine act_ext (fun t => ?_) ?_
  · rw [putL_at]
    have hs := putL_size V l a
    by_cases h : t = d
    · subst h
      by_cases h3 : t < a.tmps.size
      · rw [if_pos ⟨hd, h3⟩]
        simp [Act.put, hs, h3, upd]
      · rw [if_neg (fun h => h3 h.2)]
        simp [Act.put, hs, h3]
    · have e : ((putL a V l).put (some d) v).tmps[t]? = (putL a V l).tmps[t]? := by simp [Act.put, Array.getElem?_setIfInBounds_ne (Ne.symm h)]
      rw [e, putL_at]
      simp [upd, h]
  · rw [putL_defers]
    show (putL a V l).defers = _
    rw [putL_defers]
theorem putL_in {V : Nat → Value} {l : List Nat} {a : Act} {d : Nat} (hd : d ∈ l) (hs : d < a.tmps.size) : (putL a V l).eval (.tmp d) = V d := by
  have h := putL_at V d l a
  rw [if_pos ⟨hd, hs⟩] at h
  simp [Act.eval, h]
theorem putL_out {V : Nat → Value} {l : List Nat} {a : Act} {d : Nat} (hd : d ∉ l) : (putL a V l).eval (.tmp d) = a.eval (.tmp d) := by
  have h := putL_at V d l a
  rw [if_neg (fun h => hd h.1)] at h
  simp [Act.eval, h]
theorem putL_in_at {V : Nat → Value} {l : List Nat} {a : Act} {d : Nat} (hd : d ∈ l) (hs : d < a.tmps.size) : (putL a V l).tmps[d]? = some (V d) := by rw [putL_at, if_pos ⟨hd, hs⟩]
theorem putL_out_at {V : Nat → Value} {l : List Nat} {a : Act} {d : Nat} (hd : d ∉ l) : (putL a V l).tmps[d]? = a.tmps[d]? := by rw [putL_at, if_neg (fun h => hd h.1)]
/-- The slots of the statement. -/
def slots4 : List Nat := [47, 48, 49, 50, 51, 52, 53, 54, 55, 56, 57, 13, 14, 15, 16]
def slotOf (i : Nat) : Nat := if i ≤ 10 then 47 + i else i + 2
/-- The four calls' numbers. -/
def callNo (k : Nat) : Nat := if k = 3 then 10 else 3 * k + 2
structure Four where
  wB : World
  a0 : Act
  lv : Nat → Value
  rb : Nat → Int
  rn : Nat → Nat
  rf : Nat → Nat → Int
/-- What holds of the memory. -/
structure FourM (X : Four) (L : Nat → Bool) (V : Nat → Value) (p : Nat → Nat) (sx : Nat → Option Addr) (cx g : Nat → Nat) (w : World) : Prop where
  since : Since X.wB w
  load : ∀ i, L i = true → i ≤ 10 → (∀ k, k < 4 → i ≠ callNo k) → V (47 + i) = X.lv i
  call : ∀ k, k < 4 → L (callNo k) = true → V (slotOf (callNo k)) = .agg #[.int .i64 (X.rb k), .slice (sx k) (X.rn k) (cx k)]
  row : ∀ k, k < 4 → L (callNo k) = true → X.rn k = 0 ∨ (sx k = some ⟨g k, 0, none⟩ ∧ X.wB.heap.size ≤ g k ∧ Own w (g k) (X.rn k) (X.rf k))
  ptr : ∀ k, k < 4 → L (11 + k) = true → V (13 + k) = .pointer (some ⟨p k, 0, none⟩) ∧ X.wB.heap.size ≤ p k ∧ p k < w.heap.size
  box0 : ∀ k, k < 4 → L (11 + k) = true → L (15 + k) = false → Boxed w (p k) 25 0 none 0 0
  box1 : ∀ k, k < 4 → L (15 + k) = true → Boxed w (p k) 25 (X.rb k) (sx k) (X.rn k) (cx k)
  done : ∀ k, k < 4 → L (15 + k) = true → L (11 + k) = true ∧ L (callNo k) = true
  apart : ∀ k j, k < 4 → j < 4 → k ≠ j → L (11 + k) = true → L (11 + j) = true → p k ≠ p j
  away : ∀ k j, k < 4 → j < 4 → L (11 + k) = true → L (callNo j) = true → X.rn j ≠ 0 → p k ≠ g j
/-- The invariant. -/
def FourI (X : Four) (L : Nat → Bool) (a : Act) (w : World) : Prop :=
  ∃ (V : Nat → Value) (p : Nat → Nat) (sx : Nat → Option Addr) (cx g : Nat → Nat), a = putL X.a0 V slots4 ∧ FourM X L V p sx cx g w
theorem callNo_le {k : Nat} (h : k < 4) : callNo k ≤ 10 := by unfold callNo; split <;> omega
theorem callNo_inj {k j : Nat} (_hk : k < 4) (_hj : j < 4) (h : callNo k = callNo j) : k = j := by
  unfold callNo at h
  split at h <;> split at h <;> omega
theorem more_at (L : Nat → Bool) (i : Nat) : more L i i = true := by simp [more]
theorem more_of {L : Nat → Bool} {i j : Nat} (h : j ≠ i) : more L i j = L j := by simp [more, h]
theorem slot_mem {i : Nat} (h : i ≤ 14) : slotOf i ∈ slots4 := by
  unfold slotOf slots4
  split
  · have : i = 0 ∨ i = 1 ∨ i = 2 ∨ i = 3 ∨ i = 4 ∨ i = 5 ∨ i = 6 ∨ i = 7 ∨ i = 8 ∨ i = 9 ∨ i = 10 := by omega
    rcases this with rfl | rfl | rfl | rfl | rfl | rfl | rfl | rfl | rfl | rfl | rfl <;> decide
  · have : i = 11 ∨ i = 12 ∨ i = 13 ∨ i = 14 := by omega
    rcases this with rfl | rfl | rfl | rfl <;> decide
theorem upd_at (V : Nat → Value) (d : Nat) (v : Value) : upd V d v d = v := by simp [upd]
theorem upd_of {V : Nat → Value} {d t : Nat} {v : Value} (h : t ≠ d) : upd V d v t = V t := by simp [upd, h]
theorem slot_low {i : Nat} (h : i ≤ 10) : slotOf i = 47 + i := by unfold slotOf; rw [if_pos h]
/-- A load. -/
theorem four_load {X : Four} {L : Nat → Bool} {a : Act} {w : World} (h : FourI X L a w) (i : Nat) (hi : i ≤ 10) (hn : ∀ k, k < 4 → i ≠ callNo k) : FourI X (more L i) (a.put (some (47 + i : Nat)) (X.lv i)) w := by
  obtain ⟨V, p, sx, cx, g, rfl, m⟩ := h
  have hm : 47 + i ∈ slots4 := by rw [← slot_low hi]; exact slot_mem (by omega)
  refine ⟨upd V (47 + i) (X.lv i), p, sx, cx, g, putL_put _ hm, ?_⟩
  have hL : ∀ j, (11 ≤ j ∨ ∃ k, k < 4 ∧ j = callNo k) → more L i j = L j := fun j hj => more_of (by
    rcases hj with h | ⟨k, hk, rfl⟩
    · omega
    · exact fun e => hn k hk e.symm)
  refine { since := m.since, load := ?_, call := ?_, row := ?_, ptr := ?_, box0 := ?_, box1 := ?_, done := ?_, apart := ?_, away := ?_ }
  · intro j hj hj10 hjn
    by_cases e : j = i
    · subst e; exact upd_at _ _ _
    · rw [upd_of (by omega)]
      exact m.load j (by rw [more_of e] at hj; exact hj) hj10 hjn
  · intro k hk hL2
    rw [hL _ (Or.inr ⟨k, hk, rfl⟩)] at hL2
    rw [upd_of (by rw [slot_low (callNo_le hk)]; have := hn k hk; omega)]
    exact m.call k hk hL2
  · intro k hk hL2
    rw [hL _ (Or.inr ⟨k, hk, rfl⟩)] at hL2
    exact m.row k hk hL2
  · intro k hk hL2
    rw [hL _ (Or.inl (by omega))] at hL2
    rw [upd_of (by omega)]
    exact m.ptr k hk hL2
  · intro k hk h1 h2
    rw [hL _ (Or.inl (by omega))] at h1 h2
    exact m.box0 k hk h1 h2
  · intro k hk h1
    rw [hL _ (Or.inl (by omega))] at h1
    exact m.box1 k hk h1
  · intro k hk h1
    rw [hL _ (Or.inl (by omega))] at h1
    rw [hL _ (Or.inl (by omega)), hL _ (Or.inr ⟨k, hk, rfl⟩)]
    exact m.done k hk h1
  · intro k j hk hj hne h1 h2
    rw [hL _ (Or.inl (by omega))] at h1 h2
    exact m.apart k j hk hj hne h1 h2
  · intro k j hk hj h1 h2 h3
    rw [hL _ (Or.inl (by omega))] at h1
    rw [hL _ (Or.inr ⟨j, hj, rfl⟩)] at h2
    exact m.away k j hk hj h1 h2 h3
/-- A call. -/
theorem four_call {X : Four} {L : Nat → Bool} {a : Act} {w w' : World} {v : Value} (h : FourI X L a w) (k : Nat) (hk : k < 4) (hL0 : L (callNo k) = false) (hv : NewVec w (X.rb k) (X.rn k) (X.rf k) (.returned v) w') : FourI X (more L (callNo k)) (a.put (some (47 + callNo k : Nat)) v) w' := by
  obtain ⟨V, p, sx, cx, g, rfl, m⟩ := h
  obtain ⟨so, co, hv1, hb, ho⟩ := hv
  injection hv1 with hv1
  subst hv1
  have hc := callNo_le hk
  have hm : 47 + callNo k ∈ slots4 := by rw [← slot_low hc]; exact slot_mem (by omega)
  have hlo := m.since.size
  obtain ⟨gk, hg⟩ : ∃ gk, X.rn k = 0 ∨ (so = some ⟨gk, 0, none⟩ ∧ w.heap.size ≤ gk ∧ Own w' gk (X.rn k) (X.rf k)) := by
    rcases ho with h | ⟨g, h1, h2, h3⟩
    · exact ⟨0, Or.inl h⟩
    · exact ⟨g, Or.inr ⟨h1, h2, h3⟩⟩
  have hL : ∀ j, j ≠ callNo k → more L (callNo k) j = L j := fun j hj => more_of hj
  refine ⟨upd V (47 + callNo k) _, p, fun j => if j = k then so else sx j, fun j => if j = k then co else cx j, fun j => if j = k then gk else g j, putL_put _ hm, ?_⟩
  have nostore : ∀ j, j < 4 → L (15 + j) = true → j ≠ k := fun j hj h e => by
    subst e
    have := (m.done j hj h).2
    rw [hL0] at this
    cases this
  refine { since := since_call m.since hb, load := ?_, call := ?_, row := ?_, ptr := ?_, box0 := ?_, box1 := ?_, done := ?_, apart := ?_, away := ?_ }
  · intro j hj hj10 hjn
    rw [hL j (hjn k hk)] at hj
    rw [upd_of (by have := hjn k hk; omega)]
    exact m.load j hj hj10 hjn
  · intro j hj h1
    by_cases e : j = k
    · subst e
      rw [slot_low hc, upd_at]
      simp [vecV]
    · have hne : callNo j ≠ callNo k := fun h => e (callNo_inj hj hk h)
      rw [hL _ hne] at h1
      rw [slot_low (callNo_le hj), upd_of (by omega), ← slot_low (callNo_le hj), m.call j hj h1]
      simp [e]
  · intro j hj h1
    by_cases e : j = k
    · subst e
      simp only [if_true]
      rcases hg with h | ⟨h1, h2, h3⟩
      · exact Or.inl h
      · exact Or.inr ⟨h1, by omega, h3⟩
    · have hne : callNo j ≠ callNo k := fun h => e (callNo_inj hj hk h)
      rw [hL _ hne] at h1
      simp only [if_neg e]
      rcases m.row j hj h1 with h | ⟨h1, h2, h3⟩
      · exact Or.inl h
      · exact Or.inr ⟨h1, h2, h3.kept hb h3.1⟩
  · intro j hj h1
    rw [hL _ (by omega)] at h1
    rw [upd_of (by omega)]
    obtain ⟨h2, h3, h4⟩ := m.ptr j hj h1
    exact ⟨h2, h3, Nat.lt_of_lt_of_le h4 hb.size⟩
  · intro j hj h1 h2
    rw [hL _ (by omega)] at h1 h2
    exact (m.box0 j hj h1 h2).kept hb rfl
  · intro j hj h1
    rw [hL _ (by omega)] at h1
    have hne := nostore j hj h1
    simp only [if_neg hne]
    exact (m.box1 j hj h1).kept hb rfl
  · intro j hj h1
    rw [hL _ (by omega)] at h1
    have hne : callNo j ≠ callNo k := fun h => nostore j hj h1 (callNo_inj hj hk h)
    rw [hL _ (by omega), hL _ hne]
    exact m.done j hj h1
  · intro i j hi hj hne h1 h2
    rw [hL _ (by omega)] at h1 h2
    exact m.apart i j hi hj hne h1 h2
  · intro i j hi hj h1 h2 h3
    rw [hL _ (by omega)] at h1
    by_cases e : j = k
    · subst e
      simp only [if_true]
      have := (m.ptr i hi h1).2.2
      rcases hg with h | ⟨_, h5, _⟩
      · exact absurd h h3
      · omega
    · have hne : callNo j ≠ callNo k := fun h => e (callNo_inj hj hk h)
      rw [hL _ hne] at h2
      simp only [if_neg e]
      exact m.away i j hi hj h1 h2 h3
/-- A new box. -/
theorem four_alloc {X : Four} {L : Nat → Bool} {a : Act} {w : World} (h : FourI X L a w) (k : Nat) (hk : k < 4) (hL0 : L (11 + k) = false) : FourI X (more L (11 + k)) (a.put (some (13 + k : Nat)) (.pointer (some ⟨w.heap.size, 0, none⟩))) (w.alloc (.cells #[.int .i64 0, .slice none 0 0] 25)) := by
  obtain ⟨V, p, sx, cx, g, rfl, m⟩ := h
  have hm : 13 + k ∈ slots4 := by
    have := slot_mem (i := 11 + k) (by omega)
    unfold slotOf at this
    rw [if_neg (by omega)] at this
    rwa [show 11 + k + 2 = 13 + k by omega] at this
  have q := boxing w 25 0 none 0 0
  have hlo := m.since.size
  have hL : ∀ j, j ≠ 11 + k → more L (11 + k) j = L j := fun j hj => more_of hj
  have hc : ∀ j, j < 4 → callNo j ≠ 11 + k := fun j hj => by have := callNo_le hj; omega
  have nostore : ∀ j, j < 4 → L (15 + j) = true → j ≠ k := fun j hj h e => by
    subst e
    have := (m.done j hj h).1
    rw [hL0] at this
    cases this
  refine ⟨upd V (13 + k) _, fun j => if j = k then w.heap.size else p j, sx, cx, g, putL_put _ hm, ?_⟩
  refine { since := since_alloc m.since, load := ?_, call := ?_, row := ?_, ptr := ?_, box0 := ?_, box1 := ?_, done := ?_, apart := ?_, away := ?_ }
  · intro j hj hj10 hjn
    rw [hL j (by omega)] at hj
    rw [upd_of (by omega)]
    exact m.load j hj hj10 hjn
  · intro j hj h1
    rw [hL _ (hc j hj)] at h1
    rw [upd_of (by rw [slot_low (callNo_le hj)]; omega)]
    exact m.call j hj h1
  · intro j hj h1
    rw [hL _ (hc j hj)] at h1
    rcases m.row j hj h1 with h | ⟨h1, h2, h3⟩
    · exact Or.inl h
    · exact Or.inr ⟨h1, h2, h3.kept q.1 h3.1⟩
  · intro j hj h1
    by_cases e : j = k
    · subst e
      simp only [if_true]
      exact ⟨upd_at _ _ _, hlo, by rw [q.2.2]; omega⟩
    · rw [hL _ (by omega)] at h1
      simp only [if_neg e]
      obtain ⟨h2, h3, h4⟩ := m.ptr j hj h1
      exact ⟨by rw [upd_of (by omega)]; exact h2, h3, by rw [q.2.2]; omega⟩
  · intro j hj h1 h2
    by_cases e : j = k
    · subst e
      simp only [if_true]
      exact q.2.1
    · rw [hL _ (by omega)] at h1 h2
      simp only [if_neg e]
      exact (m.box0 j hj h1 h2).kept q.1 rfl
  · intro j hj h1
    rw [hL _ (by omega)] at h1
    simp only [if_neg (nostore j hj h1)]
    exact (m.box1 j hj h1).kept q.1 rfl
  · intro j hj h1
    rw [hL _ (by omega)] at h1
    have hne := nostore j hj h1
    rw [hL _ (by omega), hL _ (hc j hj)]
    exact m.done j hj h1
  · intro i j hi hj hne h1 h2
    by_cases e : i = k
    · subst e
      rw [hL _ (by omega)] at h2
      simp only [if_true, if_neg (Ne.symm hne)]
      have := (m.ptr j hj h2).2.2
      omega
    · by_cases e2 : j = k
      · subst e2
        rw [hL _ (by omega)] at h1
        simp only [if_true, if_neg e]
        have := (m.ptr i hi h1).2.2
        omega
      · rw [hL _ (by omega)] at h1 h2
        simp only [if_neg e, if_neg e2]
        exact m.apart i j hi hj hne h1 h2
  · intro i j hi hj h1 h2 h3
    rw [hL _ (hc j hj)] at h2
    by_cases e : i = k
    · subst e
      simp only [if_true]
      rcases m.row j hj h2 with h | ⟨_, _, h5⟩
      · exact absurd h h3
      · have := h5.1
        omega
    · rw [hL _ (by omega)] at h1
      simp only [if_neg e]
      exact m.away i j hi hj h1 h2 h3
/-- An answer is stored into its box. -/
theorem four_store {X : Four} {L : Nat → Bool} {V : Nat → Value} {p : Nat → Nat} {sx : Nat → Option Addr} {cx g : Nat → Nat} {w : World} (m : FourM X L V p sx cx g w) (k : Nat) (hk : k < 4) (hL0 : L (15 + k) = false) (h11 : L (11 + k) = true) (hcall : L (callNo k) = true) :
    FourM X (more L (15 + k)) V p sx cx g ((w.setCell ⟨p k, 0, none⟩ (.int .i64 (X.rb k))).setCell ⟨p k, 1, none⟩ (.slice (sx k) (X.rn k) (cx k))) := by
  have hL : ∀ j, j ≠ 15 + k → more L (15 + k) j = L j := fun j hj => more_of hj
  have hc : ∀ j, j < 4 → callNo j ≠ 15 + k := fun j hj => by have := callNo_le hj; omega
  have hp := m.ptr k hk h11
  have hb0 := m.box0 k hk h11 hL0
  refine { since := since_set (since_set m.since hp.2.1) hp.2.1, load := ?_, call := ?_, row := ?_, ptr := ?_, box0 := ?_, box1 := ?_, done := ?_, apart := ?_, away := ?_ }
  · intro j hj hj10 hjn
    rw [hL j (by omega)] at hj
    exact m.load j hj hj10 hjn
  · intro j hj h1
    rw [hL _ (hc j hj)] at h1
    exact m.call j hj h1
  · intro j hj h1
    rw [hL _ (hc j hj)] at h1
    rcases m.row j hj h1 with h | ⟨h2, h3, h4⟩
    · exact Or.inl h
    · by_cases hz : X.rn j = 0
      · exact Or.inl hz
      · have hne := m.away k j hk hj h11 h1 hz
        exact Or.inr ⟨h2, h3, (h4.setOther _ _ hne).setOther _ _ hne⟩
  · intro j hj h1
    rw [hL _ (by omega)] at h1
    obtain ⟨h2, h3, h4⟩ := m.ptr j hj h1
    exact ⟨h2, h3, by simpa [World.setCell] using h4⟩
  · intro j hj h1 h2
    rw [hL _ (by omega)] at h1
    by_cases e : j = k
    · subst e
      rw [more_at] at h2
      cases h2
    · rw [hL _ (by omega)] at h2
      have hne := m.apart k j hk hj (Ne.symm e) h11 h1
      exact ((m.box0 j hj h1 h2).setOther _ _ hne).setOther _ _ hne
  · intro j hj h1
    by_cases e : j = k
    · subst e
      unfold Boxed at hb0 ⊢
      have g1 := heap_setCell_same w (p j) 0 _ _ (.int .i64 (X.rb j)) hb0
      have g2 := heap_setCell_same _ (p j) 1 _ _ (.slice (sx j) (X.rn j) (cx j)) g1
      rw [g2]
      rfl
    · rw [hL _ (by omega)] at h1
      have hne := m.apart k j hk hj (Ne.symm e) h11 (m.done j hj h1).1
      exact ((m.box1 j hj h1).setOther _ _ hne).setOther _ _ hne
  · intro j hj h1
    rw [hL _ (by omega), hL _ (hc j hj)]
    by_cases e : j = k
    · subst e
      exact ⟨h11, hcall⟩
    · rw [hL _ (by omega)] at h1
      exact m.done j hj h1
  · intro i j hi hj hne h1 h2
    rw [hL _ (by omega)] at h1 h2
    exact m.apart i j hi hj hne h1 h2
  · intro i j hi hj h1 h2 h3
    rw [hL _ (by omega)] at h1
    rw [hL _ (hc j hj)] at h2
    exact m.away i j hi hj h1 h2 h3
end Go.Proofs.YthnnenbpbkmbhaaDoor
