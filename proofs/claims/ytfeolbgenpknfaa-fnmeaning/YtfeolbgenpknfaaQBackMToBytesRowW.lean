/- What is said here: a text and a pattern turned round, as plain mathematics.
   What is said here: what fits, as plain mathematics.
   What is said here: how long a text of a pattern is at least, and at most.
   What is said here: how long a text is that a pattern means; what a piece of a text means alone; a pattern turned round means a text turned round; a meant text's last end: plain mathematics, for FnMeaning.
   What is proved here: a slice of bytes that the call owns, made into a text. -/
import Derived.Test.YtfeolbgenpknfaaQMeanM
import Derived.Test.YtfeolbgenpknfaaQAtomDToPatM
import Derived.Test.YtfeolbgenpknfaaProg
import Derived.WalkKit
import Derived.Laws.BytesArg
import Derived.Maps.AppendAt
import Derived.Maps.Range
namespace Go.Proofs.Ytfeolbgenpknfaa

/-- The list with so many of its ends changed places. -/
def Swapped (l m : List UInt8) (k : Nat) : Prop := m.length = l.length ∧ ∀ i, i < l.length → m.getD i 0 = if i < k ∨ l.length - k ≤ i then l.getD (l.length - 1 - i) 0 else l.getD i 0
theorem swapped_zero (l : List UInt8) : Swapped l l 0 := ⟨rfl, fun i hi => by rw [if_neg (by omega)]⟩
theorem getD_set (l : List UInt8) (p i : Nat) (x : UInt8) (hp : p < l.length) : (l.set p x).getD i 0 = if i = p then x else l.getD i 0 := by
  by_cases e : i = p
  · subst e; simp [List.getD, List.getElem?_set_self hp]
  · rw [if_neg e]; simp [List.getD, List.getElem?_set_ne (Ne.symm e)]
theorem swapped_succ {l m : List UInt8} {k j : Nat} (h : Swapped l m k) (hj : j + k + 1 = l.length) (hk : k < j) : Swapped l ((m.set k (m.getD j 0)).set j (m.getD k 0)) (k + 1) := by
  obtain ⟨h1, h2⟩ := h
  refine ⟨by simp [h1], fun i hi => ?_⟩
  rw [getD_set _ _ _ _ (by simp [h1]; omega), getD_set _ _ _ _ (by omega)]
  have a := h2 j (by omega)
  have b := h2 k (by omega)
  rw [if_neg (by omega)] at a b
  by_cases e1 : i = j
  · subst e1
    rw [if_pos rfl, if_pos (by omega), b]
    congr 1
    omega
  · rw [if_neg e1]
    by_cases e2 : i = k
    · subst e2
      rw [if_pos rfl, if_pos (by omega), a]
      congr 1
      omega
    · rw [if_neg e2, h2 i hi]
      by_cases e3 : i < k ∨ l.length - k ≤ i
      · rw [if_pos e3, if_pos (by omega)]
      · rw [if_neg e3, if_neg (by omega)]
theorem swapped_end {l m : List UInt8} {k : Nat} (h : Swapped l m k) (hk : l.length ≤ 2 * k + 1) : m = l.reverse := by
  obtain ⟨h1, h2⟩ := h
  apply List.ext_getElem (by simp [h1])
  intro i g1 g2
  have hi : i < l.length := by omega
  have a := h2 i hi
  rw [List.getElem_reverse]
  have e1 : m.getD i 0 = m[i] := by simp [List.getD, g1]
  have e2 : l.getD (l.length - 1 - i) 0 = l[l.length - 1 - i] := by simp [List.getD, show l.length - 1 - i < l.length by omega]
  rw [← e1, ← e2, a]
  by_cases e3 : i < k ∨ l.length - k ≤ i
  · rw [if_pos e3]
  · rw [if_neg e3]
    congr 1
    omega
/-- A text the other way round. -/
def backT (t : ByteArray) : ByteArray := ⟨t.data.toList.reverse.toArray⟩
theorem back_size (t : ByteArray) : (backT t).size = t.size := by
  show t.data.toList.reverse.toArray.size = t.data.size
  rw [List.size_toArray, List.length_reverse, Array.length_toList]
theorem takes_back {t c : ByteArray} {s u : Nat} (h : s + u + 1 = t.size) : takesB (backT t) c s = takesB t c u := by
  unfold takesB
  rw [dif_pos (by rw [back_size]; omega), dif_pos (by omega)]
  congr 2
  show (backT t).data[s]'_ = t.data[u]'_
  simp only [backT]
  rw [List.getElem_toArray, List.getElem_reverse]
  simp only [Array.length_toList, Array.getElem_toList]
  congr 1
  have : t.data.size = t.size := rfl
  omega
theorem run_back {t c : ByteArray} {s n : Nat} (h : s + n ≤ t.size) : RunC (backT t) c (t.size - (s + n)) n ↔ RunC t c s n := by
  constructor
  · intro hr j hj
    have a := hr (n - 1 - j) (by omega)
    rw [takes_back (u := s + j) (by omega)] at a
    exact a
  · intro hr j hj
    rw [takes_back (u := s + (n - 1 - j)) (by omega)]
    exact hr _ (by omega)
theorem cuts_back {t : ByteArray} : ∀ {L : List Atm} {s e : Nat}, s ≤ e → e ≤ t.size → (Cuts (backT t) L.reverse (t.size - e) (t.size - s) ↔ Cuts t L s e)
  | [], s, e, h1, h2 => by
    show t.size - e = t.size - s ↔ s = e
    omega
  | a :: L, s, e, h1, h2 => by
    rw [List.reverse_cons, cuts_append]
    constructor
    · rintro ⟨m, g1, n, g2, g3, g4⟩
      have g4' : m + n = t.size - s := g4
      have g5 := g1.le (by rw [back_size]; omega)
      rw [back_size] at g5
      have em : m = t.size - (s + n) := by omega
      subst em
      have g6 : s + n ≤ t.size := by omega
      refine ⟨n, g2, (run_back g6).1 g3, ?_⟩
      exact (cuts_back (by omega) h2).1 g1
    · rintro ⟨n, g2, g3, g4⟩
      have g6 := g3.le (by omega)
      have g7 := g4.le g6
      refine ⟨t.size - (s + n), (cuts_back (by omega) h2).2 g4, n, g2, (run_back g6).2 g3, ?_⟩
      show t.size - (s + n) + n = t.size - s
      omega
theorem atomsL_rev (f : Nat → Atm) (n : Nat) : atomsL (fun i => f (n - 1 - i)) n = (atomsL f n).reverse := by
  apply List.ext_getElem (by simp [atomsL])
  intro i h1 h2
  simp [atomsL]
/-- An end is where, turned round, one gets on. -/
theorem far_ends {t : ByteArray} {L : List Atm} {e : Nat} {v : Int} (he : e ≤ t.size) (h : Far (backT t) L.reverse (t.size - e) v) : ((t.size - e : Nat) : Int) < v ↔ ∃ s, s < e ∧ Cuts t L s e := by
  rcases h with ⟨h1, h2⟩ | ⟨x, h1, h2, h3⟩
  · constructor
    · intro h; omega
    · rintro ⟨s, g1, g2⟩
      exact absurd ((cuts_back (by omega) he).2 g2) (h2 _)
  · have hx := h2.le (by rw [back_size]; omega)
    rw [back_size] at hx
    constructor
    · intro h
      refine ⟨t.size - x, by omega, ?_⟩
      rw [← cuts_back (by omega) he]
      have : t.size - (t.size - x) = x := by omega
      rw [this]
      exact h2
    · rintro ⟨s, g1, g2⟩
      have := h3 _ ((cuts_back (by omega) he).2 g2)
      omega
end Go.Proofs.Ytfeolbgenpknfaa
namespace Go.Proofs.Ytfeolbgenpknfaa
/-- A right pattern means a text that is not too long. -/
def FitsP (n : Nat) (f : Nat → Atm) (t : ByteArray) : Prop := t.size ≤ 8000 ∧ PatRight n f ∧ Cuts t (atomsL f n) 0 t.size
end Go.Proofs.Ytfeolbgenpknfaa
namespace Go.Proofs.Ytfeolbgenpknfaa
open Go.RowKit

/-- At least. -/
def leastOf (n : Nat) (f : Nat → Atm) : Int := sumTo (fun i => (f i).l) n
/-- At most. -/
def mostOf (n : Nat) (f : Nat → Atm) : Int := if (List.range n).any (fun i => (f i).m == -1) = true then -1 else sumTo (fun i => (f i).m) n
theorem most_none {n : Nat} {f : Nat → Atm} (h : ∃ i, i < n ∧ (f i).m = -1) : mostOf n f = -1 := by unfold mostOf; rw [if_pos (by simpa using h)]
theorem most_some {n : Nat} {f : Nat → Atm} (h : ∀ i, i < n → (f i).m ≠ -1) : mostOf n f = sumTo (fun i => (f i).m) n := by
  unfold mostOf
  rw [if_neg]
  intro e
  simp at e
  obtain ⟨i, hi, e⟩ := e
  exact h i hi e
end Go.Proofs.Ytfeolbgenpknfaa
namespace Go.Proofs.Ytfeolbgenpknfaa
open Go.RowKit

theorem cuts_len {t : ByteArray} {f : Nat → Atm} : ∀ {n s e : Nat}, s ≤ t.size → Cuts t (atomsL f n) s e → sumTo (fun i => (f i).l) n ≤ (e : Int) - s ∧ ((∀ i, i < n → (f i).m ≠ -1) → (e : Int) - s ≤ sumTo (fun i => (f i).m) n)
  | 0, s, e, _, h => by
    have h1 : s = e := h
    subst h1
    exact ⟨by show (0 : Int) ≤ _; omega, fun _ => by show _ ≤ (0 : Int); omega⟩
  | n + 1, s, e, hs, h => by
    rw [atomsL_succ, cuts_append] at h
    obtain ⟨m, h1, k, ⟨h2, h3⟩, h4, h5⟩ := h
    have h6 : m + k = e := h5
    obtain ⟨h7, h8⟩ := cuts_len hs h1
    refine ⟨?_, fun hm => ?_⟩
    · show sumTo (fun i => (f i).l) n + (f n).l ≤ _
      omega
    · have h9 := h8 (fun i hi => hm i (by omega))
      have h10 := hm n (by omega)
      show _ ≤ sumTo (fun i => (f i).m) n + (f n).m
      rcases h3 with h3 | h3
      · exact absurd h3 h10
      · omega
/-- A text that a pattern means is no shorter and no longer than it may be. -/
theorem fits_len {n : Nat} {f : Nat → Atm} {t : ByteArray} (h : FitsP n f t) : leastOf n f ≤ (t.size : Int) ∧ (mostOf n f < 0 ∨ (t.size : Int) ≤ mostOf n f) := by
  obtain ⟨h1, h2⟩ := cuts_len (Nat.zero_le _) h.2.2
  refine ⟨by unfold leastOf; omega, ?_⟩
  by_cases hm : ∃ i, i < n ∧ (f i).m = -1
  · exact Or.inl (by rw [most_none hm]; omega)
  · have h3 : ∀ i, i < n → (f i).m ≠ -1 := fun i hi e => hm ⟨i, hi, e⟩
    have h4 := h2 h3
    exact Or.inr (by rw [most_some h3]; omega)
theorem takes_cut {t c : ByteArray} {s e k : Nat} (hs : s ≤ e) (he : e ≤ t.size) (hk : k < e - s) : takesB (t.extract s e) c k = takesB t c (s + k) := by
  have h1 : k < (t.extract s e).size := by rw [ByteArray.size_extract]; omega
  unfold takesB
  rw [dif_pos h1, dif_pos (by omega), ByteArray.getElem_extract]
theorem cuts_cut {t : ByteArray} {s e : Nat} (hs : s ≤ e) (he : e ≤ t.size) : ∀ {L : List Atm} {a b : Nat}, b ≤ e - s → s + a ≤ t.size → Cuts t L (s + a) (s + b) → Cuts (t.extract s e) L a b
  | [], a, b, _, _, h => by have : s + a = s + b := h; show a = b; omega
  | x :: L, a, b, hb, ha, ⟨m, h1, h2, h3⟩ => by
    have h5 := h2.le ha
    have h4 := (h3.le h5).1
    exact ⟨m, h1, fun j hj => by rw [takes_cut hs he (by omega), ← Nat.add_assoc]; exact h2 j hj, cuts_cut hs he hb (by omega) (by rw [← Nat.add_assoc]; exact h3)⟩
/-- The piece ahead of an end is meant. -/
theorem piece_fits {n : Nat} {f : Nat → Atm} {t : ByteArray} {s e : Nat} (hP : PatRight n f) (ht : t.size ≤ 8000) (hs : s ≤ e) (he : e ≤ t.size) (h : Cuts t (atomsL f n) s e) : FitsP n f (t.extract s e) := by
  have hz : (t.extract s e).size = e - s := by rw [ByteArray.size_extract]; omega
  refine ⟨by omega, hP, ?_⟩
  rw [hz]
  exact cuts_cut hs he (Nat.le_refl _) (by omega) (by rw [Nat.add_zero, show s + (e - s) = e by omega]; exact h)
theorem pat_back {n : Nat} {f : Nat → Atm} (h : PatRight n f) : PatRight n (fun i => f (n - 1 - i)) := by
  refine ⟨h.1, h.2.1, fun i hi => h.2.2.1 _ (by omega), ?_⟩
  have hsum : ∀ (g : Nat → Int) (k : Nat), sumTo (fun i => g i) k = ((List.range k).map g).sum := fun g k => by
    induction k with
    | zero => rfl
    | succ k ih =>
      rw [List.range_succ, List.map_append, List.sum_append, ← ih]
      show sumTo g k + g k = _
      simp
  have h9 := h.2.2.2
  rw [hsum] at h9 ⊢
  have he : (List.range n).map (fun i => counted (f (n - 1 - i))) = ((List.range n).map (fun i => counted (f i))).reverse := by
    apply List.ext_getElem (by simp)
    intro i h1 h2
    simp
  rw [he, List.sum_reverse]
  exact h9
/-- What a pattern means, turned round, is what it means turned round. -/
theorem fits_back {n : Nat} {f : Nat → Atm} {t : ByteArray} (h : PatRight n f) : FitsP n (fun i => f (n - 1 - i)) (backT t) ↔ FitsP n f t := by
  have h1 := cuts_back (t := t) (L := atomsL f n) (Nat.zero_le t.size) (Nat.le_refl _)
  rw [Nat.sub_self, Nat.sub_zero, ← atomsL_rev] at h1
  unfold FitsP
  rw [back_size, h1]
  exact ⟨fun ⟨a, _, c⟩ => ⟨a, h, c⟩, fun ⟨a, _, c⟩ => ⟨a, pat_back h, c⟩⟩
/-- The last of the ends of a text that is meant is its own. -/
theorem last_end {n : Nat} {f : Nat → Atm} {t : ByteArray} {p : Nat → Bool} (h : FitsP n f t) (h0 : 0 < t.size) (hp : ∀ e, e ≤ t.size → (p e = true ↔ ∃ s, s < e ∧ Cuts t (atomsL f n) s e)) : 0 < (classL p (t.size + 1)).length ∧ (classL p (t.size + 1)).getD ((classL p (t.size + 1)).length - 1) 0 = (t.size : Int) := by
  have h1 : p t.size = true := (hp t.size (Nat.le_refl _)).2 ⟨0, h0, h.2.2⟩
  rw [classL_yes h1]
  simp [List.getD]
/-- An end has a beginning. -/
theorem first_start {t : ByteArray} {L : List Atm} {p : Nat → Bool} {i : Nat} (hi : i < (classL p (t.size + 1)).length) (hp : ∀ e, e ≤ t.size → (p e = true ↔ ∃ s, s < e ∧ Cuts t L s e)) : ∃ e : Nat, e ≤ t.size ∧ (classL p (t.size + 1)).getD i 0 = (e : Int) ∧ ∀ q : Nat → Bool, (∀ s, s < e → (q s = true ↔ Cuts t L s e)) → 0 < (classL q e).length ∧ ∃ s : Nat, s < e ∧ (classL q e).getD 0 0 = (s : Int) ∧ Cuts t L s e := by
  have mem : ∀ (r : Nat → Bool) (k j : Nat), j < (classL r k).length → ∃ e : Nat, e < k ∧ r e = true ∧ (classL r k).getD j 0 = (e : Int) := fun r k j h => by
    have h1 : (classL r k)[j] ∈ classL r k := List.getElem_mem h
    have h2 : (classL r k).getD j 0 = (classL r k)[j] := by simp [List.getD, h]
    rw [h2]
    generalize (classL r k)[j] = x at *
    unfold classL at h1
    obtain ⟨e, h3, h4⟩ := List.mem_map.1 h1
    obtain ⟨h5, h6⟩ := List.mem_filter.1 h3
    exact ⟨e, List.mem_range.1 h5, h6, h4.symm⟩
  obtain ⟨e, h1, h2, h3⟩ := mem p _ _ hi
  obtain ⟨s, h4, h5⟩ := (hp e (by omega)).1 h2
  refine ⟨e, by omega, h3, fun q hq => ?_⟩
  have h6 : 0 < (classL q e).length := by
    have h7 : (s : Int) ∈ classL q e := by
      unfold classL
      exact List.mem_map.2 ⟨s, List.mem_filter.2 ⟨List.mem_range.2 h4, (hq s h4).2 h5⟩, rfl⟩
    exact List.length_pos_of_mem h7
  obtain ⟨s2, h8, h9, h10⟩ := mem q e 0 h6
  exact ⟨h6, s2, h8, h10, (hq s2 h8).1 h9⟩
end Go.Proofs.Ytfeolbgenpknfaa
namespace Go.Proofs.Ytfeolbgenpknfaa
open Go.RowKit

theorem Try.drawInfo : (Try.prog.info? 5).map (fun i => (i.zero, i.size, i.bytes)) = some (some (.int .u8 0), 1, 1) := by kernel_rfl
theorem convRow {w : World} {base n : Nat} {v : Value} {M : List Int} (h : w.ownsRow base 5 1 v n (M.map (Value.int .u8))) :
    (convert 22 9 v).run Try.prog w = .ok (.string (strOfNums M)) w := by
  have hl : M.length = n := by simpa using h.1
  obtain ⟨_, ⟨rfl, h0⟩ | ⟨g, cap, cur, rfl, hg, hh, hnc, hm, hs, ht⟩⟩ := h
  · obtain rfl : M = [] := List.length_eq_zero_iff.1 (by omega)
    exact run_convert_bytes_nil (P := Try.prog) w 22 5 Try.underlying22 Try.underlying5 0 0 9 Try.underlying9
  · refine run_convert_bytes_arg (P := Try.prog) w 22 5 Try.underlying22 Try.underlying5 g 0 n cap M hl (fun i hi => ?_) 9 Try.underlying9
    have h1 : (cur.toList.take (n * 1))[i]? = (M.map (Value.int .u8))[i]? := by rw [ht]
    rw [List.getElem?_take_of_lt (by omega), List.getElem?_map] at h1
    have h2 : M[i]? = some (M.getD i 0) := by rw [List.getD, List.getElem?_eq_getElem (by omega)]; rfl
    rw [h2] at h1
    simpa [World.cell?, hh] using h1
end Go.Proofs.Ytfeolbgenpknfaa
