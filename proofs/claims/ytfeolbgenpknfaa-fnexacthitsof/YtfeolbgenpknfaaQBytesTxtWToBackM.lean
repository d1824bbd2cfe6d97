/- What is proved here: a text turned into a slice of bytes, and back, as a walk uses it.
   What is said here: a text and a pattern turned round, as plain mathematics. -/
import Derived.Test.YtfeolbgenpknfaaProg
import Derived.WalkKit
import Derived.WalkSpells
import Derived.Laws.BytesArg
import Derived.Lib.ConvBytes
import Derived.Test.YtfeolbgenpknfaaQMeanM
namespace Go.Proofs.Ytfeolbgenpknfaa
open Go.RowKit Go.Lib

theorem bsize_eq (s : ByteArray) : s.size = s.data.toList.length := by simp
/-- The bytes of a list lie in a row that may be written. -/
def BRow (w : World) (g : Nat) (l : List UInt8) : Prop := g < w.heap.size ∧ (∀ j, j < l.length → w.cell? ⟨g, j, none⟩ = some (.int .u8 ((l.getD j 0).toNat : Int))) ∧ ∀ j, j < l.length → w.frozen? ⟨g, j, none⟩ = false
theorem text_bytes (w : World) (s : ByteArray) : ∃ w' cap, (convert 9 22 (.string s)).run Try.prog w = .ok (.slice (some ⟨w.heap.size, 0, none⟩) s.size cap) w' ∧ Below w.heap.size w w' ∧ BRow w' w.heap.size s.data.toList := by
  refine ⟨bytesWorld w 5 s, _, Lib.run_convert_string_bytes w 9 22 5 s Try.underlying9 Try.underlying22 Try.underlying5, ⟨rfl, rfl, rfl, by rw [bytesWorld_size]; omega, fun k hk => bytesWorld_at_old w _ s k hk⟩, by rw [bytesWorld_size]; omega, fun j hj => bytesWorld_cell w _ s j (by rw [bsize_eq]; exact hj), fun j hj => ?_⟩
  have h := bytesWorld_at_new w 5 s
  have hj' : j < (bytesCells w 5 s).size := by
    have : s.size ≤ (bytesCells w 5 s).size := by unfold bytesCells; rw [Array.size_append, Array.size_map, ByteArray.size_data]; omega
    rw [bsize_eq] at this
    omega
  simp [World.frozen?, h]
  omega
theorem nums_bytes (l : List UInt8) : strOfNums (l.map fun b => (b.toNat : Int)) = ⟨l.toArray⟩ := by
  unfold strOfNums
  rw [List.map_map]
  congr 2
  rw [show ((fun n : Int => UInt8.ofNat n.toNat) ∘ fun b : UInt8 => (b.toNat : Int)) = id from by funext b; simp]
  simp
theorem bytes_text (w : World) (g n cap : Nat) (l : List UInt8) (hn : l.length = n) (h : BRow w g l) : (convert 22 9 (.slice (some ⟨g, 0, none⟩) n cap)).run Try.prog w = .ok (.string ⟨l.toArray⟩) w := by
  have hc := run_convert_bytes_arg (P := Try.prog) w 22 5 Try.underlying22 Try.underlying5 g 0 n cap (l.map fun b => (b.toNat : Int)) (by simp [hn]) (fun i hi => by
    rw [Nat.zero_add, h.2.1 i (by omega)]
    simp [List.getD, List.getElem?_map, List.getElem?_eq_getElem (show i < l.length by omega)]) 9 Try.underlying9
  rw [nums_bytes] at hc
  exact hc
theorem BRow.set {w : World} {g p : Nat} {l : List UInt8} (h : BRow w g l) (hp : p < l.length) (x : UInt8) : BRow (w.setCell ⟨g, p, none⟩ (.int .u8 (x.toNat : Int))) g (l.set p x) := by
  refine ⟨by simpa [World.setCell] using h.1, fun j hj => ?_, fun j hj => ?_⟩
  · rw [List.length_set] at hj
    by_cases e : j = p
    · subst e
      rw [World.cell?_setCell_same _ _ _ (h.2.1 j hj)]
      simp [List.getD, List.getElem?_set_self hj]
    · rw [World.cell?_setCell_other _ _ _ _ (fun hh => e (by injection hh with _ h2 _; exact h2.symm)), h.2.1 j hj]
      simp [List.getD, List.getElem?_set_ne (Ne.symm e)]
  · rw [List.length_set] at hj
    rw [World.frozen?_setCell]
    exact h.2.2 j hj
theorem BRow.drew {w : World} {g : Nat} {l : List UInt8} (h : BRow w g l) : BRow w.drew g l := h
end Go.Proofs.Ytfeolbgenpknfaa
namespace Go.Proofs.Ytfeolbgenpknfaa

/-- The list with so many of its ends changed places. -/
def Swapped (l m : List UInt8) (k : Nat) : Prop := m.length = l.length ∧ ∀ i, i < l.length → m.getD i 0 = if i < k ∨ l.length - k ≤ i then l.getD (l.length - 1 - i) 0 else l.getD i 0
theorem swapped_zero (l : List UInt8) : Swapped l l 0 := ⟨rfl, fun i hi => by rw [if_neg (by omega)]⟩
theorem getD_set (l : List UInt8) (p i : Nat) (x : UInt8) (hp : p < l.length) : (l.set p x).getD i 0 = if i = p then x else l.getD i 0 := by
  by_cases e : i = p
  · subst e; simp [List.getD, List.getElem?_set_self hp]
  · rw [if_neg e]; simp [List.getD, List.getElem?_set_ne (Ne.symm e)]
theorem swapped_succ {l m : List UInt8} {k j : Nat} (h : Swapped l m k) (hj : j + k + 1 = l.length) (hk : k < j) : Swapped l ((m.set k (m.getD j 0)).set j (m.getD k 0)) (k + 1) := by
  obtain ⟨h1, h2⟩ := h
  refine ⟨by simp [h1], fun i hi => ?_⟩
  rw [getD_set _ _ _ _ (by simp [h1]; omega), getD_set _ _ _ _ (by omega)]
  have a := h2 j (by omega)
  have b := h2 k (by omega)
  rw [if_neg (by omega)] at a b
  by_cases e1 : i = j
  · subst e1
    rw [if_pos rfl, if_pos (by omega), b]
    congr 1
    omega
  · rw [if_neg e1]
    by_cases e2 : i = k
    · subst e2
      rw [if_pos rfl, if_pos (by omega), a]
      congr 1
      omega
    · rw [if_neg e2, h2 i hi]
      by_cases e3 : i < k ∨ l.length - k ≤ i
      · rw [if_pos e3, if_pos (by omega)]
      · rw [if_neg e3, if_neg (by omega)]
theorem swapped_end {l m : List UInt8} {k : Nat} (h : Swapped l m k) (hk : l.length ≤ 2 * k + 1) : m = l.reverse := by
  obtain ⟨h1, h2⟩ := h
  apply List.ext_getElem (by simp [h1])
  intro i g1 g2
  have hi : i < l.length := by omega
  have a := h2 i hi
  rw [List.getElem_reverse]
  have e1 : m.getD i 0 = m[i] := by simp [List.getD, g1]
  have e2 : l.getD (l.length - 1 - i) 0 = l[l.length - 1 - i] := by simp [List.getD, show l.length - 1 - i < l.length by omega]
  rw [← e1, ← e2, a]
  by_cases e3 : i < k ∨ l.length - k ≤ i
  · rw [if_pos e3]
  · rw [if_neg e3]
    congr 1
    omega
/-- A text the other way round. -/
def backT (t : ByteArray) : ByteArray := ⟨t.data.toList.reverse.toArray⟩
theorem back_size (t : ByteArray) : (backT t).size = t.size := by
  show t.data.toList.reverse.toArray.size = t.data.size
  rw [List.size_toArray, List.length_reverse, Array.length_toList]
theorem takes_back {t c : ByteArray} {s u : Nat} (h : s + u + 1 = t.size) : takesB (backT t) c s = takesB t c u := by
  unfold takesB
  rw [dif_pos (by rw [back_size]; omega), dif_pos (by omega)]
  congr 2
  show (backT t).data[s]'_ = t.data[u]'_
  simp only [backT]
  rw [List.getElem_toArray, List.getElem_reverse]
  simp only [Array.length_toList, Array.getElem_toList]
  congr 1
  have : t.data.size = t.size := rfl
  omega
theorem run_back {t c : ByteArray} {s n : Nat} (h : s + n ≤ t.size) : RunC (backT t) c (t.size - (s + n)) n ↔ RunC t c s n := by
  constructor
  · intro hr j hj
    have a := hr (n - 1 - j) (by omega)
    rw [takes_back (u := s + j) (by omega)] at a
    exact a
  · intro hr j hj
    rw [takes_back (u := s + (n - 1 - j)) (by omega)]
    exact hr _ (by omega)
theorem cuts_back {t : ByteArray} : ∀ {L : List Atm} {s e : Nat}, s ≤ e → e ≤ t.size → (Cuts (backT t) L.reverse (t.size - e) (t.size - s) ↔ Cuts t L s e)
  | [], s, e, h1, h2 => by
    show t.size - e = t.size - s ↔ s = e
    omega
  | a :: L, s, e, h1, h2 => by
    rw [List.reverse_cons, cuts_append]
    constructor
    · rintro ⟨m, g1, n, g2, g3, g4⟩
      have g4' : m + n = t.size - s := g4
      have g5 := g1.le (by rw [back_size]; omega)
      rw [back_size] at g5
      have em : m = t.size - (s + n) := by omega
      subst em
      have g6 : s + n ≤ t.size := by omega
      refine ⟨n, g2, (run_back g6).1 g3, ?_⟩
      exact (cuts_back (by omega) h2).1 g1
    · rintro ⟨n, g2, g3, g4⟩
      have g6 := g3.le (by omega)
      have g7 := g4.le g6
      refine ⟨t.size - (s + n), (cuts_back (by omega) h2).2 g4, n, g2, (run_back g6).2 g3, ?_⟩
      show t.size - (s + n) + n = t.size - s
      omega
theorem atomsL_rev (f : Nat → Atm) (n : Nat) : atomsL (fun i => f (n - 1 - i)) n = (atomsL f n).reverse := by
  apply List.ext_getElem (by simp [atomsL])
  intro i h1 h2
  simp [atomsL]
/-- An end is where, turned round, one gets on. -/
theorem far_ends {t : ByteArray} {L : List Atm} {e : Nat} {v : Int} (he : e ≤ t.size) (h : Far (backT t) L.reverse (t.size - e) v) : ((t.size - e : Nat) : Int) < v ↔ ∃ s, s < e ∧ Cuts t L s e := by
  rcases h with ⟨h1, h2⟩ | ⟨x, h1, h2, h3⟩
  · constructor
    · intro h; omega
    · rintro ⟨s, g1, g2⟩
      exact absurd ((cuts_back (by omega) he).2 g2) (h2 _)
  · have hx := h2.le (by rw [back_size]; omega)
    rw [back_size] at hx
    constructor
    · intro h
      refine ⟨t.size - x, by omega, ?_⟩
      rw [← cuts_back (by omega) he]
      have : t.size - (t.size - x) = x := by omega
      rw [this]
      exact h2
    · rintro ⟨s, g1, g2⟩
      have := h3 _ ((cuts_back (by omega) he).2 g2)
      omega
end Go.Proofs.Ytfeolbgenpknfaa
