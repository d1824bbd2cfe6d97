/- What is said here: the windows of a text, one behind the other, and the ends that are found: plain mathematics, for what looks from behind. -/
import Derived.Test.YtfeolbgenpknfaaQLookM
namespace Go.Proofs.Ytfeolbgenpknfaa
open Go.RowKit

/-- The piece of a text that a window shows. -/
def pieceT (n : Nat) (t : ByteArray) (a : Nat) : ByteArray := t.extract a (a + n)
theorem piece_size {n : Nat} {t : ByteArray} {a : Nat} (h : a + n ≤ t.size) : (pieceT n t a).size = n := by unfold pieceT; rw [cut_size h]; omega
theorem look_one {n : Nat} {f : Nat → Cel} {t : ByteArray} {lk bd lk' bd' : Nat} {fc fc' : Bool} (h : LookP n f t lk bd fc) (h' : LookP n f t lk' bd' fc') : lk = lk' ∧ bd = bd' ∧ fc = fc' := by
  have e3 : fc = fc' := by
    cases fc with
    | true => exact (h'.fac.2 (h.fac.1 rfl)).symm
    | false =>
      cases fc' with
      | true => exact absurd (h.fac.2 (h'.fac.1 rfl)) (by simp)
      | false => rfl
  subst e3
  refine ⟨?_, border_one h.bd h'.bd, rfl⟩
  cases fc with
  | true => rw [h.all rfl, h'.all rfl]
  | false =>
    obtain ⟨_, _, h1, h2⟩ := h.less rfl
    obtain ⟨_, _, h3, h4⟩ := h'.less rfl
    rcases Nat.lt_trichotomy lk lk' with hl | hl | hl
    · exact absurd (h4 lk hl) h1
    · exact hl
    · exact absurd (h2 lk' hl) h3
theorem look_ex {n : Nat} (f : Nat → Cel) (t : ByteArray) (hn : n ≤ 60) : ∃ (lk bd : Nat) (fc : Bool), LookP n f t lk bd fc := by
  by_cases h : ∃ k, k ≤ t.size ∧ ¬ SomeS n f t k
  · -- the least of them
    have hmin : ∀ k, k ≤ t.size → ¬ SomeS n f t k → ∃ j, j ≤ t.size ∧ ¬ SomeS n f t j ∧ ∀ i, i < j → SomeS n f t i := by
      intro k
      induction k using Nat.strongRecOn with
      | ind k ih =>
        intro h1 h2
        by_cases h3 : ∃ i, i < k ∧ ¬ SomeS n f t i
        · obtain ⟨i, h4, h5⟩ := h3
          exact ih i h4 (by omega) h5
        · exact ⟨k, h1, h2, fun i hi => Classical.byContradiction (fun hc => h3 ⟨i, hi, hc⟩)⟩
    obtain ⟨k0, h1, h2⟩ := h
    obtain ⟨j, hj, hno, hyes⟩ := hmin k0 h1 h2
    cases j with
    | zero => exact absurd some_zero hno
    | succ j =>
      have he : uptoB n f t (j + 1) = uptoB n f t j ++ [(j + 1, begN n f t (j + 1))] := uptoB_succ n f t j
      exact ⟨_, _, _, look_less hn hj he.symm ((begN_none hn hj).2 hno) (fun y hy => by
        obtain ⟨i, hi, rfl⟩ := List.mem_map.1 hy
        have hi2 := List.mem_range.1 hi
        intro hz
        exact (begN_none hn (by omega)).1 hz (hyes (i + 1) (by omega)))⟩
  · refine ⟨_, _, _, look_all (f := f) (t := t) hn (fun y hy => ?_)⟩
    obtain ⟨i, hi, rfl⟩ := List.mem_map.1 hy
    have hi2 := List.mem_range.1 hi
    intro hz
    exact h ⟨i + 1, by omega, (begN_none hn (by omega)).1 hz⟩
/-- What is seen of a window: how many bytes were looked at, the border, whether it is a factor. -/
noncomputable def lkN (n : Nat) (f : Nat → Cel) (u : ByteArray) (hn : n ≤ 60) : Nat := (look_ex f u hn).choose
noncomputable def bdN (n : Nat) (f : Nat → Cel) (u : ByteArray) (hn : n ≤ 60) : Nat := (look_ex f u hn).choose_spec.choose
noncomputable def fcN (n : Nat) (f : Nat → Cel) (u : ByteArray) (hn : n ≤ 60) : Bool := (look_ex f u hn).choose_spec.choose_spec.choose
theorem lookN {n : Nat} (f : Nat → Cel) (u : ByteArray) (hn : n ≤ 60) : LookP n f u (lkN n f u hn) (bdN n f u hn) (fcN n f u hn) := (look_ex f u hn).choose_spec.choose_spec.choose_spec
theorem bdN_lt {n : Nat} (f : Nat → Cel) (u : ByteArray) (hn : n ≤ 60) (h1 : 1 ≤ n) : bdN n f u hn < n := by
  rcases (lookN f u hn).bd.1 with h | h
  · omega
  · exact h.1
theorem lkN_le {n : Nat} (f : Nat → Cel) (u : ByteArray) (hn : n ≤ 60) : lkN n f u hn ≤ u.size := by
  cases h : fcN n f u hn with
  | true => exact Nat.le_of_eq ((lookN f u hn).all h)
  | false => exact ((lookN f u hn).less h).2.1
section
variable (n : Nat) (f : Nat → Cel) (t : ByteArray) (hn : n ≤ 60)
/-- Where the windows stand. -/
noncomputable def posW : Nat → Nat
  | 0 => 0
  | i + 1 => posW i + (n - bdN n f (pieceT n t (posW i)) hn)
/-- A window: where it stands, how many bytes were looked at, how far the next one is; whether it goes with the cells. -/
noncomputable def winW (i : Nat) : (Nat × Nat × Nat) × Bool := ((posW n f t hn i, lkN n f (pieceT n t (posW n f t hn i)) hn, n - bdN n f (pieceT n t (posW n f t hn i)) hn), fcN n f (pieceT n t (posW n f t hn i)) hn)
/-- The first windows. -/
noncomputable def uptoW (k : Nat) : List ((Nat × Nat × Nat) × Bool) := (List.range k).map (winW n f t hn)
end
theorem uptoW_len {n : Nat} {f : Nat → Cel} {t : ByteArray} {hn : n ≤ 60} (k : Nat) : (uptoW n f t hn k).length = k := by simp [uptoW]
theorem uptoW_succ {n : Nat} {f : Nat → Cel} {t : ByteArray} {hn : n ≤ 60} (k : Nat) : uptoW n f t hn (k + 1) = uptoW n f t hn k ++ [winW n f t hn k] := by simp [uptoW, List.range_succ]
theorem posW_ge {n : Nat} {f : Nat → Cel} {t : ByteArray} {hn : n ≤ 60} (h1 : 1 ≤ n) : ∀ i, i ≤ posW n f t hn i
  | 0 => Nat.le_refl _
  | i + 1 => by
    have h2 := posW_ge (f := f) (t := t) (hn := hn) h1 i
    have h3 := bdN_lt f (pieceT n t (posW n f t hn i)) hn h1
    show i + 1 ≤ posW n f t hn i + (n - _)
    omega
theorem posW_le {n : Nat} {f : Nat → Cel} {t : ByteArray} {hn : n ≤ 60} : ∀ {k : Nat}, (∀ i, i < k → posW n f t hn i + n ≤ t.size) → posW n f t hn k ≤ t.size
  | 0, _ => Nat.zero_le _
  | k + 1, h => by
    have h1 := h k (Nat.lt_succ_self _)
    show posW n f t hn k + (n - _) ≤ _
    omega
/-- So many windows there are. -/
def LastW (n : Nat) (f : Nat → Cel) (t : ByteArray) (hn : n ≤ 60) (k : Nat) : Prop := (∀ i, i < k → posW n f t hn i + n ≤ t.size) ∧ ¬ posW n f t hn k + n ≤ t.size
theorem last_one {n : Nat} {f : Nat → Cel} {t : ByteArray} {hn : n ≤ 60} {k j : Nat} (h : LastW n f t hn k) (h' : LastW n f t hn j) : k = j := by
  rcases Nat.lt_trichotomy k j with hl | hl | hl
  · exact absurd (h'.1 k hl) h.2
  · exact hl
  · exact absurd (h.1 j hl) h'.2
theorem last_ex {n : Nat} (f : Nat → Cel) (t : ByteArray) (hn : n ≤ 60) (h1 : 1 ≤ n) : ∃ k, k ≤ t.size ∧ LastW n f t hn k := by
  have go : ∀ m, (∀ i, i < m → posW n f t hn i + n ≤ t.size) → ∀ d, t.size + 1 - m = d → m ≤ t.size + 1 → ∃ k, LastW n f t hn k := by
    intro m hm d
    induction d generalizing m with
    | zero =>
      intro h2 h3
      have h4 := hm t.size (by omega)
      have h5 := posW_ge (f := f) (t := t) (hn := hn) h1 t.size
      omega
    | succ d ih =>
      intro h2 h3
      by_cases h4 : posW n f t hn m + n ≤ t.size
      · exact ih (m + 1) (fun i hi => by
          by_cases e : i = m
          · rw [e]; exact h4
          · exact hm i (by omega)) (by omega) (by omega)
      · exact ⟨m, hm, h4⟩
  obtain ⟨k, hk⟩ := go 0 (fun i hi => absurd hi (Nat.not_lt_zero _)) _ rfl (Nat.zero_le _)
  refine ⟨k, ?_, hk⟩
  rcases Nat.eq_zero_or_pos k with h0 | h0
  · omega
  · have h2 := hk.1 (k - 1) (by omega)
    have h3 := posW_ge (f := f) (t := t) (hn := hn) h1 (k - 1)
    omega
/-- The ends of the windows that go with the cells. -/
def endsW (n : Nat) (L : List ((Nat × Nat × Nat) × Bool)) : List Int := (L.filter (fun x => x.2)).map (fun x => ((x.1.1 + n : Nat) : Int))
theorem endsW_yes {n : Nat} {L : List ((Nat × Nat × Nat) × Bool)} {x : (Nat × Nat × Nat) × Bool} (h : x.2 = true) : endsW n (L ++ [x]) = endsW n L ++ [((x.1.1 + n : Nat) : Int)] := by simp [endsW, List.filter_append, h]
theorem endsW_no {n : Nat} {L : List ((Nat × Nat × Nat) × Bool)} {x : (Nat × Nat × Nat) × Bool} (h : x.2 = false) : endsW n (L ++ [x]) = endsW n L := by simp [endsW, List.filter_append, h]
theorem endsW_len (n : Nat) (L : List ((Nat × Nat × Nat) × Bool)) : (endsW n L).length ≤ L.length := by unfold endsW; rw [List.length_map]; exact List.length_filter_le _ _
end Go.Proofs.Ytfeolbgenpknfaa
