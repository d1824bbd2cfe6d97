/- What is said here: what is seen of a piece from behind, told from what comes byte by byte: plain mathematics. -/
import Derived.Test.YtfeolbgenpknfaaQBehBitsM
namespace Go.Proofs.Ytfeolbgenpknfaa
open Go.RowKit

/-- How many bytes were looked at, of what has come. -/
def lookedL (L : List (Nat × Nat)) : Nat := (L.getLast?.map Prod.fst).getD 0
/-- The border, of what has come. -/
def borderL (n : Nat) (L : List (Nat × Nat)) : Nat := L.foldl (fun b x => if x.2 % 2 = 1 ∧ x.1 < n then x.1 else b) 0
theorem lookedL_app (L : List (Nat × Nat)) (x : Nat × Nat) : lookedL (L ++ [x]) = x.1 := by simp [lookedL]
theorem borderL_app (n : Nat) (L : List (Nat × Nat)) (x : Nat × Nat) : borderL n (L ++ [x]) = if x.2 % 2 = 1 ∧ x.1 < n then x.1 else borderL n L := by simp [borderL]
/-- What is seen of a piece from behind. -/
structure LookP (n : Nat) (f : Nat → Cel) (t : ByteArray) (lk bd : Nat) (fc : Bool) : Prop where
  bd : IsBorder n f t bd
  fac : fc = true ↔ SomeS n f t t.size
  all : fc = true → lk = t.size
  less : fc = false → 1 ≤ lk ∧ lk ≤ t.size ∧ ¬ SomeS n f t lk ∧ ∀ j, j < lk → SomeS n f t j
theorem border_upto {n : Nat} {f : Nat → Cel} {t : ByteArray} (hn : n ≤ 60) : ∀ k, k ≤ t.size → (borderL n (uptoB n f t k) = 0 ∨ (borderL n (uptoB n f t k) ≤ k ∧ borderL n (uptoB n f t k) < n ∧ GoesS n f t (borderL n (uptoB n f t k)) 0)) ∧ ∀ j, borderL n (uptoB n f t k) < j → j ≤ k → j < n → ¬ GoesS n f t j 0
  | 0, _ => ⟨Or.inl rfl, fun j h1 h2 _ => by omega⟩
  | k + 1, hk => by
    obtain ⟨h1, h2⟩ := border_upto (n := n) (f := f) (t := t) hn k (by omega)
    rw [uptoB_succ, borderL_app]
    by_cases hc : begN n f t (k + 1) % 2 = 1 ∧ k + 1 < n
    · rw [if_pos hc]
      exact ⟨Or.inr ⟨Nat.le_refl _, hc.2, (begN_low hn hk).1 hc.1⟩, fun j h3 h4 _ => by omega⟩
    · rw [if_neg hc]
      refine ⟨h1.imp id (fun h => ⟨by omega, h.2⟩), fun j h3 h4 h5 h6 => ?_⟩
      by_cases e : j = k + 1
      · subst e
        exact hc ⟨(begN_low hn hk).2 h6, h5⟩
      · exact h2 j h3 (by omega) h5 h6
theorem goes_some {n : Nat} {f : Nat → Cel} {t : ByteArray} {k : Nat} (h : GoesS n f t k 0) : SomeS n f t k := ⟨0, h⟩
theorem some_zero {n : Nat} {f : Nat → Cel} {t : ByteArray} : SomeS n f t 0 := ⟨0, goesS_zero.2 (Nat.zero_le _)⟩
theorem uptoB_mem {n : Nat} {f : Nat → Cel} {t : ByteArray} {k j : Nat} (hj : j < k) : (j + 1, begN n f t (j + 1)) ∈ uptoB n f t k := List.mem_map.2 ⟨j, List.mem_range.2 hj, rfl⟩
/-- All has come. -/
theorem look_all {n : Nat} {f : Nat → Cel} {t : ByteArray} (hn : n ≤ 60) (hnz : ∀ x, x ∈ uptoB n f t t.size → x.2 ≠ 0) : LookP n f t (lookedL (uptoB n f t t.size)) (borderL n (uptoB n f t t.size)) true := by
  obtain ⟨h1, h2⟩ := border_upto (n := n) (f := f) (t := t) hn t.size (Nat.le_refl _)
  refine ⟨⟨h1.imp id (fun h => h.2), fun k h3 h4 h5 => h2 k h3 h5.1 h4 h5⟩, ⟨fun _ => ?_, fun _ => rfl⟩, fun _ => ?_, fun h => by cases h⟩
  · rcases Nat.eq_zero_or_pos t.size with h0 | h0
    · rw [h0]; exact some_zero
    · obtain ⟨j, hj⟩ : ∃ j, t.size = j + 1 := ⟨t.size - 1, by omega⟩
      have h9 := hnz _ (uptoB_mem (n := n) (f := f) (t := t) (k := t.size) (j := j) (by omega))
      refine Classical.byContradiction (fun hc => h9 ?_)
      show begN n f t (j + 1) = 0
      rw [begN_none hn (by omega), ← hj]
      exact hc
  · rcases Nat.eq_zero_or_pos t.size with h0 | h0
    · rw [h0]; rfl
    · obtain ⟨j, hj⟩ : ∃ j, t.size = j + 1 := ⟨t.size - 1, by omega⟩
      rw [hj, uptoB_succ, lookedL_app]
/-- What came last goes with no cells. -/
theorem look_less {n : Nat} {f : Nat → Cel} {t : ByteArray} (hn : n ≤ 60) {k : Nat} (hk : k ≤ t.size) {pre : List (Nat × Nat)} {x : Nat × Nat} (he : pre ++ [x] = uptoB n f t k) (hx : x.2 = 0) (hnz : ∀ y, y ∈ pre → y.2 ≠ 0) : LookP n f t x.1 (borderL n pre) false := by
  cases k with
  | zero => simp [uptoB] at he
  | succ k =>
    rw [uptoB_succ] at he
    obtain ⟨rfl, he2⟩ := List.append_inj' he rfl
    obtain rfl : x = (k + 1, begN n f t (k + 1)) := by injection he2
    have hx' : begN n f t (k + 1) = 0 := hx
    have hno : ¬ SomeS n f t (k + 1) := (begN_none hn hk).1 hx'
    obtain ⟨h1, h2⟩ := border_upto (n := n) (f := f) (t := t) hn k (by omega)
    refine ⟨⟨h1.imp id (fun h => h.2), fun j h3 h4 h5 => ?_⟩, ⟨fun h => (by cases h), fun h => absurd (someS_less h hk) hno⟩, fun h => (by cases h), fun _ => ⟨(by show 1 ≤ k + 1; omega), hk, hno, fun j hj => ?_⟩⟩
    · by_cases e : j ≤ k
      · exact h2 j h3 e h4 h5
      · exact hno (someS_less (goes_some h5) (by omega))
    · have hj' : j < k + 1 := hj
      cases j with
      | zero => exact some_zero
      | succ j =>
        have h9 := hnz _ (uptoB_mem (n := n) (f := f) (t := t) (k := k) (j := j) (by omega))
        refine Classical.byContradiction (fun hc => h9 ?_)
        exact (begN_none hn (by omega)).2 hc
end Go.Proofs.Ytfeolbgenpknfaa
