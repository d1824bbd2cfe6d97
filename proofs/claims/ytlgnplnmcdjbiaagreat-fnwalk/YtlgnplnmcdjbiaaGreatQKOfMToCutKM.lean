/- What is said here: the cells of atoms, as plain mathematics.
   What is said here: a text that is cut into pieces of cells is just one that walks along them; the cells of right atoms are cut as the atoms are: plain mathematics. -/
import Derived.Test.YtlgnplnmcdjbiaaGreatQRunMToMeanM
import Derived.Test.YtlgnplnmcdjbiaaGreatQClassMToCellD
import Derived.Test.YtlgnplnmcdjbiaaGreatQSpecKRightWToIsW
namespace Go.Proofs.YtlgnplnmcdjbiaaGreat

/-- How many cells an atom has. -/
def cnt (a : Atm) : Nat := (counted a).toNat
/-- The cells of an atom. -/
def cellA (a : Atm) (k : Nat) : Cel := ⟨a.c, decide (a.l ≤ (k : Int)), decide (a.m = -1 ∧ k + 1 = cnt a)⟩
def cellsA (a : Atm) : List Cel := (List.range (cnt a)).map (cellA a)
/-- The cells of a pattern. -/
def cellsP (L : List Atm) : List Cel := L.flatMap cellsA
theorem cellsA_len (a : Atm) : (cellsA a).length = cnt a := by simp [cellsA]
theorem cellsP_append (L : List Atm) (a : Atm) : cellsP (L ++ [a]) = cellsP L ++ cellsA a := by simp [cellsP]
theorem cellsA_get {a : Atm} {k : Nat} (h : k < cnt a) : (cellsA a).getD k cel0 = cellA a k := by simp [cellsA, List.getD, h]
theorem cnt_bd {a : Atm} (h : AtomRight a) : 1 ≤ cnt a ∧ cnt a ≤ 20 ∧ (cnt a : Int) = counted a := by
  have := counted_bd h
  unfold cnt
  omega
theorem sum_len {f : Nat → Atm} : ∀ k, (∀ i, i < k → AtomRight (f i)) → ((cellsP (atomsL f k)).length : Int) = sumTo (fun i => counted (f i)) k
  | 0, _ => rfl
  | k + 1, h => by
    rw [atomsL_succ, cellsP_append, List.length_append, cellsA_len]
    have h1 := sum_len k (fun i hi => h i (by omega))
    have h2 := (cnt_bd (h k (by omega))).2.2
    show _ = sumTo (fun i => counted (f i)) k + counted (f k)
    omega
theorem sumTo_mono {f : Nat → Atm} : ∀ {k n : Nat}, k ≤ n → (∀ i, i < n → AtomRight (f i)) → sumTo (fun i => counted (f i)) k ≤ sumTo (fun i => counted (f i)) n
  | k, 0, h, _ => by obtain rfl : k = 0 := by omega
                     exact Int.le_refl _
  | k, n + 1, h, hr => by
    by_cases e : k = n + 1
    · rw [e]; exact Int.le_refl _
    · have h1 := sumTo_mono (k := k) (n := n) (by omega) (fun i hi => hr i (by omega))
      have h2 := (counted_bd (hr n (by omega))).1
      show _ ≤ sumTo (fun i => counted (f i)) n + counted (f n)
      omega
end Go.Proofs.YtlgnplnmcdjbiaaGreat
namespace Go.Proofs.YtlgnplnmcdjbiaaGreat
open Go.RowKit

/-- So often a cell may come. -/
def CellN (a : Cel) (m : Nat) : Prop := m = 1 ∨ (m = 0 ∧ a.k = true) ∨ (2 ≤ m ∧ a.o = true)
/-- A text, from a place to a place, is cut into pieces of these cells. -/
def CutK (t : ByteArray) : List Cel → Nat → Nat → Prop
  | [], s, e => s = e
  | a :: L, s, e => ∃ m : Nat, CellN a m ∧ RunC t a.c s m ∧ CutK t L (s + m) e
theorem cutK_append {t : ByteArray} : ∀ {L M : List Cel} {s e : Nat}, CutK t (L ++ M) s e ↔ ∃ m, CutK t L s m ∧ CutK t M m e
  | [], M, s, e => ⟨fun h => ⟨s, rfl, h⟩, fun ⟨m, h1, h2⟩ => by have : s = m := h1; rw [this]; exact h2⟩
  | a :: L, M, s, e => by
    constructor
    · rintro ⟨n, h1, h2, h3⟩
      obtain ⟨m, h4, h5⟩ := cutK_append.1 h3
      exact ⟨m, ⟨n, h1, h2, h4⟩, h5⟩
    · rintro ⟨m, ⟨n, h1, h2, h3⟩, h4⟩
      exact ⟨n, h1, h2, cutK_append.2 ⟨m, h3, h4⟩⟩
theorem CutK.le {t : ByteArray} : ∀ {L : List Cel} {s e : Nat}, CutK t L s e → s ≤ e
  | [], s, e, h => by have : s = e := h; omega
  | a :: L, s, e, ⟨n, _, _, h3⟩ => by have := CutK.le h3; omega
theorem cutK_snoc {t : ByteArray} {L : List Cel} {a : Cel} {s e : Nat} : CutK t (L ++ [a]) s e ↔ ∃ m d, d + m = e ∧ CutK t L s d ∧ CellN a m ∧ RunC t a.c d m := by
  rw [cutK_append]
  constructor
  · rintro ⟨d, h1, m, h2, h3, h4⟩
    exact ⟨m, d, h4, h1, h2, h3⟩
  · rintro ⟨m, d, h1, h2, h3, h4⟩
    exact ⟨d, h2, m, h3, h4, h1⟩
/-- The first cells of a row as a list. -/
def cellsL (f : Nat → Cel) (n : Nat) : List Cel := (List.range n).map f
theorem cellsL_succ (f : Nat → Cel) (n : Nat) : cellsL f (n + 1) = cellsL f n ++ [f n] := by simp [cellsL, List.range_succ]
theorem cellsL_getD (L : List Cel) : cellsL (fun i => L.getD i cel0) L.length = L := by
  apply List.ext_getElem?
  intro i
  by_cases h : i < L.length
  · simp [cellsL, h]
  · rw [List.getElem?_eq_none (by simp [cellsL]; omega), List.getElem?_eq_none (by omega)]
/-- One comes to a place of a row, with so many bytes gone by, from a beginning. -/
def At (t : ByteArray) (f : Nat → Cel) (s k j : Nat) : Prop := CutK t (cellsL f j) s k
theorem at_zero {t : ByteArray} {f : Nat → Cel} {s k : Nat} : At t f s k 0 ↔ s = k := Iff.rfl
theorem at_begin {t : ByteArray} {f : Nat → Cel} {s j : Nat} : At t f s s (j + 1) ↔ (f j).k = true ∧ At t f s s j := by
  unfold At
  rw [cellsL_succ, cutK_snoc]
  constructor
  · rintro ⟨m, d, h1, h2, h3, h4⟩
    have := h2.le
    obtain rfl : m = 0 := by omega
    obtain rfl : d = s := by omega
    rcases h3 with h3 | ⟨_, h3⟩ | ⟨h3, _⟩
    · omega
    · exact ⟨h3, h2⟩
    · omega
  · rintro ⟨h1, h2⟩
    exact ⟨0, s, rfl, h2, Or.inr (Or.inl ⟨rfl, h1⟩), RunC.zero _ _ _⟩
/-- One byte more. -/
theorem at_step {t : ByteArray} {f : Nat → Cel} {s k j : Nat} (_hs : s ≤ k) : At t f s (k + 1) (j + 1) ↔ (takesB t (f j).c k = true ∧ (At t f s k j ∨ ((f j).o = true ∧ At t f s k (j + 1)))) ∨ ((f j).k = true ∧ At t f s (k + 1) j) := by
  unfold At
  rw [cellsL_succ, cutK_snoc, cutK_snoc]
  constructor
  · rintro ⟨m, d, h1, h2, h3, h4⟩
    cases m with
    | zero =>
      obtain rfl : d = k + 1 := by omega
      rcases h3 with h3 | ⟨_, h3⟩ | ⟨h3, _⟩
      · omega
      · exact Or.inr ⟨h3, h2⟩
      · omega
    | succ m =>
      have h5 := h4 m (by omega)
      rw [show d + m = k by omega] at h5
      refine Or.inl ⟨h5, ?_⟩
      by_cases hm : m = 0
      · subst hm
        exact Or.inl (by rw [show k = d by omega]; exact h2)
      · rcases h3 with h3 | ⟨h3, _⟩ | ⟨_, h3⟩
        · omega
        · omega
        · refine Or.inr ⟨h3, m, d, by omega, h2, ?_, h4.mono (by omega)⟩
          by_cases h1 : m = 1
          · exact Or.inl h1
          · exact Or.inr (Or.inr ⟨by omega, h3⟩)
  · rintro (⟨h1, h2 | ⟨h2, m, d, h3, h4, h5, h6⟩⟩ | ⟨h1, h2⟩)
    · exact ⟨1, k, rfl, h2, Or.inl rfl, RunC.cons h1 (RunC.zero _ _ _)⟩
    · refine ⟨m + 1, d, by omega, h4, ?_, h6.succ (by rw [show d + m = k by omega]; exact h1)⟩
      cases m with
      | zero => exact Or.inl rfl
      | succ m => exact Or.inr (Or.inr ⟨by omega, h2⟩)
    · exact ⟨0, k + 1, rfl, h2, Or.inr (Or.inl ⟨rfl, h1⟩), RunC.zero _ _ _⟩
/-- A cell in a right row, its byte. -/
theorem takes_hasK {t c : ByteArray} {k : Nat} (hk : k < t.size) : takesB t c k = hasByte c t[k].toNat := by unfold takesB; rw [dif_pos hk]
/-- Where one stands is told by a step from where one stood. -/
theorem step_at {t : ByteArray} {f : Nat → Cel} {n s k : Nat} {A B : Nat → Bool} (hs : s ≤ k) (hk : k < t.size) (hA : ∀ j, j ≤ n → (A j = true ↔ At t f s k j)) (hB : ∀ j, B j = cloB (behind (fun i => (f i).k) n) (passB f n A t[k].toNat) j) : ∀ j, j ≤ n → (B j = true ↔ At t f s (k + 1) j)
  | 0, _ => by
    rw [hB 0, at_zero]
    unfold cloB passB behind
    simp
    omega
  | j + 1, hj => by
    have ih := step_at hs hk hA hB j (by omega)
    rw [hB (j + 1), show cloB (behind (fun i => (f i).k) n) (passB f n A t[k].toNat) (j + 1) = (passB f n A t[k].toNat (j + 1) || (behind (fun i => (f i).k) n (j + 1) && cloB (behind (fun i => (f i).k) n) (passB f n A t[k].toNat) j)) from rfl, ← hB j]
    unfold passB
    rw [behind_at _ (show j < n by omega), behind_at _ (show j < n by omega), behind_at _ (show j < n by omega), at_step hs, takes_hasK hk, ← hA j (by omega), ← hA (j + 1) hj, ← ih]
    simp only [Nat.add_sub_cancel, Bool.or_eq_true, Bool.and_eq_true]
    constructor
    · rintro (⟨h1, h2 | h2⟩ | h)
      · exact Or.inl ⟨h1, Or.inl h2⟩
      · exact Or.inl ⟨h1, Or.inr ⟨h2.2, h2.1⟩⟩
      · exact Or.inr h
    · rintro (⟨h1, h2 | h2⟩ | h)
      · exact Or.inl ⟨h1, Or.inl h2⟩
      · exact Or.inl ⟨h1, Or.inr ⟨h2.2, h2.1⟩⟩
      · exact Or.inr h
theorem start_at {t : ByteArray} {f : Nat → Cel} {n s : Nat} : ∀ j, j ≤ n → (cloB (behind (fun i => (f i).k) n) (fun j => decide (0 = j)) j = true ↔ At t f s s j)
  | 0, _ => by rw [at_zero]; simp [cloB]
  | j + 1, hj => by
    have ih := start_at (t := t) (f := f) (n := n) (s := s) j (by omega)
    rw [at_begin, ← ih, show cloB (behind (fun i => (f i).k) n) (fun j => decide (0 = j)) (j + 1) = (decide (0 = j + 1) || (behind (fun i => (f i).k) n (j + 1) && cloB (behind (fun i => (f i).k) n) (fun j => decide (0 = j)) j)) from rfl, behind_at _ (show j < n by omega)]
    simp
/-- The places behind so many bytes are those to which one comes. -/
theorem run_at {t : ByteArray} {f : Nat → Cel} {n : Nat} : ∀ k, k ≤ t.size → ∀ j, j ≤ n → (runB f n t k j = true ↔ At t f 0 k j)
  | 0, _ => fun j hj => start_at j hj
  | k + 1, hk => fun j hj => step_at (Nat.zero_le k) (show k < t.size by omega) (run_at k (by omega)) (fun j => by show cloB _ (passB f n (runB f n t k) (if h : k < t.size then t[k].toNat else 0)) j = _; rw [dif_pos (show k < t.size by omega)]) j hj
/-- So many bytes may be cut among some cells. -/
def SumN : List Cel → Nat → Prop
  | [], n => n = 0
  | a :: L, n => ∃ m d, m + d = n ∧ CellN a m ∧ SumN L d
theorem cutK_same {t c : ByteArray} : ∀ {L : List Cel} {s e : Nat}, (∀ a ∈ L, a.c = c) → (CutK t L s e ↔ ∃ n, SumN L n ∧ RunC t c s n ∧ s + n = e)
  | [], s, e, _ => ⟨fun h => ⟨0, rfl, RunC.zero _ _ _, h⟩, fun ⟨n, h1, _, h2⟩ => by have : n = 0 := h1; show s = e; omega⟩
  | a :: L, s, e, h => by
    have ha := h a (by simp)
    have ih := fun s => cutK_same (t := t) (L := L) (s := s) (e := e) (fun b hb => h b (by simp [hb]))
    constructor
    · rintro ⟨m, h1, h2, h3⟩
      obtain ⟨d, h4, h5, h6⟩ := (ih _).1 h3
      rw [ha] at h2
      exact ⟨m + d, ⟨m, d, rfl, h1, h4⟩, h2.append h5, by omega⟩
    · rintro ⟨n, ⟨m, d, h1, h2, h3⟩, h4, h5⟩
      rw [← h1] at h4
      obtain ⟨h6, h7⟩ := h4.split
      exact ⟨m, h2, by rw [ha]; exact h6, (ih _).2 ⟨d, h3, h7, by omega⟩⟩
/-- The fewest bytes that some cells take. -/
def loN : List Cel → Nat
  | [] => 0
  | a :: L => (if a.k then 0 else 1) + loN L
/-- May any of them be passed again? -/
def anyO : List Cel → Bool
  | [] => false
  | a :: L => a.o || anyO L
theorem loN_le : ∀ L : List Cel, loN L ≤ L.length
  | [] => Nat.le_refl _
  | a :: L => by
    have := loN_le L
    show (if a.k then 0 else 1) + loN L ≤ L.length + 1
    split <;> omega
theorem sumN_iff : ∀ {L : List Cel} {n : Nat}, SumN L n ↔ (loN L ≤ n ∧ (n ≤ L.length ∨ anyO L = true))
  | [], n => ⟨fun h => by have : n = 0 := h; subst this; exact ⟨Nat.le_refl _, Or.inl (Nat.le_refl _)⟩, fun ⟨_, h⟩ => h.elim (fun h => Nat.le_zero.1 h) (fun h => by cases h)⟩
  | a :: L, n => by
    have hl := loN_le L
    show (∃ m d, m + d = n ∧ CellN a m ∧ SumN L d) ↔ ((if a.k then 0 else 1) + loN L ≤ n ∧ (n ≤ L.length + 1 ∨ (a.o || anyO L) = true))
    constructor
    · rintro ⟨m, d, h1, h2, h3⟩
      obtain ⟨h4, h5⟩ := sumN_iff.1 h3
      unfold CellN at h2
      cases hk : a.k <;> cases ho : a.o <;> cases hy : anyO L <;> simp [hk, ho, hy] at h2 h5 ⊢ <;> omega
    · rintro ⟨h1, h2⟩
      by_cases h3 : loN L + 1 ≤ n ∧ (n - 1 ≤ L.length ∨ anyO L = true)
      · exact ⟨1, n - 1, by omega, Or.inl rfl, sumN_iff.2 ⟨by omega, h3.2⟩⟩
      · by_cases h4 : loN L + 1 ≤ n
        · have h5 : ¬ (n - 1 ≤ L.length ∨ anyO L = true) := fun h => h3 ⟨h4, h⟩
          have h6 : a.o = true := by
            rcases h2 with h2 | h2
            · exact absurd (Or.inl (by omega)) h5
            · rw [Bool.or_eq_true] at h2
              exact h2.resolve_right (fun h => h5 (Or.inr h))
          have h7 : ¬ n - 1 ≤ L.length := fun h => h5 (Or.inl h)
          exact ⟨n - L.length, L.length, by omega, Or.inr (Or.inr ⟨by omega, h6⟩), sumN_iff.2 ⟨hl, Or.inl (Nat.le_refl _)⟩⟩
        · have h5 : a.k = true := by
            cases hk : a.k with
            | true => rfl
            | false => rw [hk] at h1; simp at h1; omega
          rw [h5] at h1
          simp at h1
          exact ⟨0, n, by omega, Or.inr (Or.inl ⟨rfl, h5⟩), sumN_iff.2 ⟨h1, Or.inl (by omega)⟩⟩
theorem loN_append : ∀ L M : List Cel, loN (L ++ M) = loN L + loN M
  | [], M => by simp [loN]
  | a :: L, M => by
    show (if a.k then 0 else 1) + loN (L ++ M) = (if a.k then 0 else 1) + loN L + loN M
    rw [loN_append L M]
    omega
theorem anyO_append : ∀ L M : List Cel, anyO (L ++ M) = (anyO L || anyO M)
  | [], M => by simp [anyO]
  | a :: L, M => by
    show (a.o || anyO (L ++ M)) = ((a.o || anyO L) || anyO M)
    rw [anyO_append L M, Bool.or_assoc]
theorem lo_cells {a : Atm} (h0 : 0 ≤ a.l) : ∀ k : Nat, (loN ((List.range k).map (cellA a)) : Int) = min (k : Int) a.l
  | 0 => by simp [loN]; omega
  | k + 1 => by
    have ih := lo_cells h0 k
    rw [List.range_succ, List.map_append, loN_append]
    show ((loN ((List.range k).map (cellA a)) + ((if decide (a.l ≤ (k : Int)) then 0 else 1) + 0) : Nat) : Int) = _
    by_cases h : a.l ≤ (k : Int)
    · rw [decide_eq_true h]
      simp
      omega
    · rw [decide_eq_false h]
      simp
      omega
theorem any_cells {a : Atm} : ∀ k : Nat, anyO ((List.range k).map (cellA a)) = decide (a.m = -1 ∧ 1 ≤ cnt a ∧ cnt a ≤ k)
  | 0 => by simp [anyO]; omega
  | k + 1 => by
    rw [List.range_succ, List.map_append, anyO_append, any_cells k]
    show (_ || (decide (a.m = -1 ∧ k + 1 = cnt a) || false)) = _
    rw [Bool.or_false, ← Bool.decide_or]
    congr 1
    simp only [eq_iff_iff]
    omega
/-- An atom's cells take as many bytes as the atom. -/
theorem sum_atom {a : Atm} (h : AtomRight a) (n : Nat) : SumN (cellsA a) n ↔ Okay a n := by
  obtain ⟨h1, h2, h3⟩ := cnt_bd h
  obtain ⟨_, _, h4, h5, h6⟩ := h
  rw [sumN_iff]
  unfold cellsA
  rw [any_cells, List.length_map, List.length_range]
  have hlo := lo_cells h4 (cnt a)
  generalize loN ((List.range (cnt a)).map (cellA a)) = y at *
  unfold Okay counted at *
  simp only [decide_eq_true_eq]
  by_cases hm : a.m = -1
  · rw [if_pos hm] at h3
    by_cases hl : a.l < 1
    · rw [if_pos hl] at h3
      omega
    · rw [if_neg hl] at h3
      omega
  · rw [if_neg hm] at h3
    omega
theorem cells_cut {t : ByteArray} : ∀ {L : List Atm} {s e : Nat}, (∀ a ∈ L, AtomRight a) → (CutK t (cellsP L) s e ↔ Cuts t L s e)
  | [], s, e, _ => Iff.rfl
  | a :: L, s, e, h => by
    show CutK t (cellsA a ++ cellsP L) s e ↔ _
    rw [cutK_append]
    have hc : ∀ x ∈ cellsA a, x.c = a.c := fun x hx => by
      unfold cellsA at hx
      obtain ⟨k, _, rfl⟩ := List.mem_map.1 hx
      rfl
    have ih := fun s => cells_cut (t := t) (L := L) (s := s) (e := e) (fun b hb => h b (by simp [hb]))
    constructor
    · rintro ⟨m, h1, h2⟩
      obtain ⟨n, h3, h4, h5⟩ := (cutK_same hc).1 h1
      exact ⟨n, (sum_atom (h a (by simp)) n).1 h3, h4, by rw [h5]; exact (ih _).1 h2⟩
    · rintro ⟨n, h1, h2, h3⟩
      exact ⟨s + n, (cutK_same hc).2 ⟨n, (sum_atom (h a (by simp)) n).2 h1, h2, rfl⟩, (ih _).2 h3⟩
/-- The cells of a right pattern, walked along, are the pattern's pieces. -/
theorem run_cuts {t : ByteArray} {L : List Atm} (h : ∀ a ∈ L, AtomRight a) {k : Nat} (hk : k ≤ t.size) : runB (fun i => (cellsP L).getD i cel0) (cellsP L).length t k (cellsP L).length = true ↔ Cuts t L 0 k := by
  rw [run_at k hk _ (Nat.le_refl _)]
  unfold At
  rw [cellsL_getD, cells_cut h]
end Go.Proofs.YtlgnplnmcdjbiaaGreat
