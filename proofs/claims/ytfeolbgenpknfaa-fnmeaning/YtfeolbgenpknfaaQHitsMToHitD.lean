/- What is said here: the hits of patterns, end by end and pattern by pattern: told by looking for an end among a pattern's ends, and told from the heads of what is left of them: plain mathematics, for HitsOf.
   What is said here: hits in memory, slices of slices of numbers. -/
import Derived.Test.YtfeolbgenpknfaaQAtomDToPatM
import Derived.Test.YtfeolbgenpknfaaQSpecPYesWToIntRowW
import Derived.Laws.AppendOwn
namespace Go.Proofs.Ytfeolbgenpknfaa

/-- The hits at an end, of the first patterns. -/
def hitsAt (P : Nat → Nat → Bool) (e k : Nat) : List (Nat × Nat) := ((List.range k).filter (fun i => P i e)).map (fun i => (e, i))
/-- The hits at the first ends, from 1 on. -/
def hitsTo (P : Nat → Nat → Bool) (k m : Nat) : List (Nat × Nat) := (List.range m).flatMap (fun j => hitsAt P (j + 1) k)
theorem hitsAt_zero (P : Nat → Nat → Bool) (e : Nat) : hitsAt P e 0 = [] := rfl
theorem hitsAt_yes {P : Nat → Nat → Bool} {e k : Nat} (h : P k e = true) : hitsAt P e (k + 1) = hitsAt P e k ++ [(e, k)] := by simp [hitsAt, List.range_succ, List.filter_append, h]
theorem hitsAt_no {P : Nat → Nat → Bool} {e k : Nat} (h : P k e = false) : hitsAt P e (k + 1) = hitsAt P e k := by simp [hitsAt, List.range_succ, List.filter_append, h]
theorem hitsTo_succ (P : Nat → Nat → Bool) (k m : Nat) : hitsTo P k (m + 1) = hitsTo P k m ++ hitsAt P (m + 1) k := by simp [hitsTo, List.range_succ]
theorem hitsAt_len (P : Nat → Nat → Bool) (e : Nat) : ∀ k, (hitsAt P e k).length ≤ k
  | 0 => Nat.le_refl _
  | k + 1 => by
    have ih := hitsAt_len P e k
    cases h : P k e with
    | true => rw [hitsAt_yes h]; simp; omega
    | false => rw [hitsAt_no h]; omega
theorem hitsTo_len (P : Nat → Nat → Bool) (k : Nat) : ∀ m, (hitsTo P k m).length ≤ m * k
  | 0 => by simp [hitsTo]
  | m + 1 => by
    have ih := hitsTo_len P k m
    have h1 := hitsAt_len P (m + 1) k
    rw [hitsTo_succ, List.length_append, Nat.add_mul, Nat.one_mul]
    omega
/-- What is left of a row's ends from an end on. -/
def tailL (p : Nat → Bool) (e n : Nat) : List Int := ((List.range n).filter (fun x => p x && decide (e ≤ x))).map (fun x : Nat => (x : Int))
theorem tail_all {p : Nat → Bool} {n : Nat} (h : p 0 = false) : tailL p 1 n = classL p n := by
  unfold tailL classL
  congr 1
  apply List.filter_congr
  intro x _
  cases x with
  | zero => rw [h]; rfl
  | succ x => simp
theorem tail_no {p : Nat → Bool} {e n : Nat} (h : p e = false) : tailL p e n = tailL p (e + 1) n := by
  unfold tailL
  congr 1
  apply List.filter_congr
  intro x _
  by_cases hx : x = e
  · subst hx
    rw [h]
    rfl
  · congr 1
    simp only [decide_eq_decide]
    omega
theorem tail_yes {p : Nat → Bool} {e n : Nat} (he : e < n) (h : p e = true) : tailL p e n = (e : Int) :: tailL p (e + 1) n := by
  unfold tailL
  obtain ⟨d, rfl⟩ : ∃ d, n = e + (d + 1) := ⟨n - e - 1, by omega⟩
  rw [List.range_add, List.filter_append, List.filter_append, List.map_append, List.map_append]
  have h1 : (List.range e).filter (fun x => p x && decide (e ≤ x)) = [] := by
    rw [List.filter_eq_nil_iff]
    intro x hx
    have := List.mem_range.1 hx
    simp
    omega
  have h2 : (List.range e).filter (fun x => p x && decide (e + 1 ≤ x)) = [] := by
    rw [List.filter_eq_nil_iff]
    intro x hx
    have := List.mem_range.1 hx
    simp
    omega
  rw [h1, h2, List.range_succ_eq_map, List.map_cons, List.filter_cons_of_pos (by simp [h]), List.filter_cons_of_neg (by simp)]
  simp only [List.map_nil, List.nil_append, List.map_cons, Nat.add_zero]
  congr 2
  apply List.filter_congr
  intro x hx
  obtain ⟨y, hy, rfl⟩ := List.mem_map.1 hx
  obtain ⟨z, hz, rfl⟩ := List.mem_map.1 hy
  congr 1
  simp
/-- What is left begins with an end just where there is one. -/
theorem tail_head {p : Nat → Bool} {e n : Nat} (he : e < n) : (0 < (tailL p e n).length ∧ (tailL p e n).getD 0 0 = (e : Int)) ↔ p e = true := by
  constructor
  · rintro ⟨h1, h2⟩
    cases h : p e with
    | true => rfl
    | false =>
      exfalso
      rw [tail_no h] at h1 h2
      have h3 : (tailL p (e + 1) n)[0] ∈ tailL p (e + 1) n := List.getElem_mem h1
      have h4 : (tailL p (e + 1) n).getD 0 0 = (tailL p (e + 1) n)[0] := by simp [List.getD, h1]
      rw [← h4, h2] at h3
      unfold tailL at h3
      obtain ⟨x, h5, h6⟩ := List.mem_map.1 h3
      obtain ⟨_, h7⟩ := List.mem_filter.1 h5
      simp at h7
      omega
  · intro h
    rw [tail_yes he h]
    exact ⟨by simp, rfl⟩
/-- An end stands among a row's ends at one place at most. -/
theorem class_rising {p : Nat → Bool} : ∀ {n i j : Nat}, i < j → j < (classL p n).length → (classL p n).getD i 0 < (classL p n).getD j 0
  | 0, i, j, _, hj => by
    rw [classL_zero] at hj
    exact absurd hj (Nat.not_lt_zero _)
  | n + 1, i, j, hij, hj => by
    have mem : ∀ k, k < (classL p n).length → (classL p n).getD k 0 < (n : Int) := fun k hk => by
      have h1 : (classL p n)[k] ∈ classL p n := List.getElem_mem hk
      have h2 : (classL p n).getD k 0 = (classL p n)[k] := by simp [List.getD, hk]
      rw [h2]
      generalize (classL p n)[k] = x at *
      unfold classL at h1
      obtain ⟨e, h3, h4⟩ := List.mem_map.1 h1
      obtain ⟨h5, _⟩ := List.mem_filter.1 h3
      have := List.mem_range.1 h5
      omega
    cases h : p n with
    | false =>
      rw [classL_no h] at hj ⊢
      exact class_rising hij hj
    | true =>
      rw [classL_yes h] at hj ⊢
      rw [List.length_append] at hj
      have hj2 : j < (classL p n).length + 1 := hj
      have e1 : ∀ k, k < (classL p n).length → (classL p n ++ [(n : Int)]).getD k 0 = (classL p n).getD k 0 := fun k hk => by simp [List.getD, List.getElem?_append_left hk]
      by_cases hl : j < (classL p n).length
      · rw [e1 i (by omega), e1 j hl]
        exact class_rising hij hl
      · obtain rfl : j = (classL p n).length := by omega
        rw [e1 i hij, show (classL p n ++ [(n : Int)]).getD (classL p n).length 0 = (n : Int) by simp [List.getD]]
        exact mem i hij
/-- An end is told where it stands among the first ends of a row. -/
def toldB (p : Nat → Bool) (n e k : Nat) : Bool := (List.range k).any (fun j => (classL p n).getD j 0 == (e : Int))
theorem told_succ (p : Nat → Bool) (n e k : Nat) : toldB p n e (k + 1) = (toldB p n e k || (classL p n).getD k 0 == (e : Int)) := by simp [toldB, List.range_succ]
theorem told_once {p : Nat → Bool} {n e k : Nat} (hk : k < (classL p n).length) (h : (classL p n).getD k 0 = (e : Int)) : toldB p n e k = false := by
  cases h1 : toldB p n e k with
  | false => rfl
  | true =>
    exfalso
    unfold toldB at h1
    obtain ⟨j, h2, h3⟩ := List.any_eq_true.1 h1
    have h4 := List.mem_range.1 h2
    have h5 := class_rising h4 hk
    have h6 : (classL p n).getD j 0 = (e : Int) := by simpa using h3
    omega
theorem told_all {p : Nat → Bool} {n e : Nat} (he : e < n) : toldB p n e (classL p n).length = p e := by
  cases h : p e with
  | true =>
    have h1 : (e : Int) ∈ classL p n := by
      unfold classL
      exact List.mem_map.2 ⟨e, List.mem_filter.2 ⟨List.mem_range.2 he, h⟩, rfl⟩
    obtain ⟨j, hj, h2⟩ := List.getElem_of_mem h1
    unfold toldB
    refine List.any_eq_true.2 ⟨j, List.mem_range.2 hj, ?_⟩
    simp [List.getD, hj, h2]
  | false =>
    cases h1 : toldB p n e (classL p n).length with
    | false => rfl
    | true =>
      exfalso
      unfold toldB at h1
      obtain ⟨j, h2, h3⟩ := List.any_eq_true.1 h1
      have hj := List.mem_range.1 h2
      have h4 : (classL p n)[j] ∈ classL p n := List.getElem_mem hj
      have h5 : (classL p n)[j] = (e : Int) := by
        have : (classL p n).getD j 0 = (e : Int) := by simpa using h3
        simpa [List.getD, hj] using this
      rw [h5] at h4
      unfold classL at h4
      obtain ⟨x, h6, h7⟩ := List.mem_map.1 h4
      obtain ⟨_, h8⟩ := List.mem_filter.1 h6
      obtain rfl : x = e := by omega
      rw [h] at h8
      cases h8
end Go.Proofs.Ytfeolbgenpknfaa
namespace Go.Proofs.Ytfeolbgenpknfaa
open Go.RowKit

theorem Try.hitInfo : (Try.prog.info? 83).map (fun i => (i.zero, i.size, i.bytes)) = some (some (.agg #[.int .i64 0, .int .i64 0]), 2, 16) := by kernel_rfl
/-- The cells of hits. -/
def hcells : List (Nat × Nat) → List Value
  | [] => []
  | x :: l => .int .i64 (x.1 : Int) :: .int .i64 (x.2 : Int) :: hcells l
theorem hcells_append : ∀ l m, hcells (l ++ m) = hcells l ++ hcells m
  | [], _ => rfl
  | x :: l, m => by
    show _ :: _ :: hcells (l ++ m) = _ :: _ :: (hcells l ++ hcells m)
    rw [hcells_append l m]
/-- A slice of hits that lies in new memory. -/
def OwnsH (W : World) (base : Nat) (v : Value) (L : List (Nat × Nat)) : Prop := W.ownsRow base 83 2 v L.length (hcells L)
theorem hits_start (w : World) (base : Nat) (hb : base ≤ w.heap.size) (C : Array Value) (hC : C.size = 0) : OwnsH (w.alloc (.cells C 83)) base (.slice (some ⟨w.heap.size, 0, none⟩) 0 0) [] :=
  ⟨rfl, Or.inr ⟨w.heap.size, 0, C, rfl, hb, heap_alloc_new w _, Nat.le_refl _, Nat.zero_le _, by omega, by simp [hcells]⟩⟩
/-- Hits in new memory, handed back. -/
def NewHits (w : World) (L : List (Nat × Nat)) (e : Ending) (w' : World) : Prop := ∃ v, e = .returned v ∧ Below w.heap.size w w' ∧ OwnsH w' w.heap.size v L
/-- A slice of slices of numbers. -/
def ERows (w : World) (B : Nat) (sa : Option Addr) (k : Nat) (s : Nat → Option Addr) (n c : Nat → Nat) (F : Nat → Nat → Int) : Prop := k = 0 ∨ ∃ bb off : Nat, sa = some ⟨bb, off, none⟩ ∧ bb < B ∧ ∀ i, i < k → w.cell? ⟨bb, off + i, none⟩ = some (.slice (s i) (n i) (c i)) ∧ Row w B (s i) (n i) (F i)
theorem ERows.late {w W : World} {sa : Option Addr} {k : Nat} {s : Nat → Option Addr} {n c : Nat → Nat} {F : Nat → Nat → Int} (h : ERows w w.heap.size sa k s n c F) (hb : Below w.heap.size w W) : ERows W w.heap.size sa k s n c F := by
  rcases h with h | ⟨bb, off, h1, h2, h3⟩
  · exact Or.inl h
  · exact Or.inr ⟨bb, off, h1, h2, fun i hi => ⟨by rw [hb.cell (p := ⟨bb, off + i, none⟩) h2]; exact (h3 i hi).1, (h3 i hi).2.kept hb⟩⟩
end Go.Proofs.Ytfeolbgenpknfaa
