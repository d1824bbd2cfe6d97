/- What is proved here: the specification's ByteVec hands back a vector in new memory, or nothing; nothing that was there turns.
   What is proved here: the specification's LoopVec hands back a vector in new memory, or nothing; nothing that was there turns.
   What is said here: a text that is cut into pieces of cells is just one that walks along them; the cells of right atoms are cut as the atoms are: plain mathematics.
   What is said here: what fits, as plain mathematics.
   What is said here: what FnCells calls, at drawn inputs: the program and the specification answer with the same, whatever the world behind. -/
import Derived.Test.YthnnenbpbkmbhaaGreatQSpecKVecW
import Derived.Test.YthnnenbpbkmbhaaGreatQImplKVecW
import Derived.Test.YthnnenbpbkmbhaaGreatQCellDToCopy3W
import Derived.Test.YthnnenbpbkmbhaaGreatQCellMToFitKM
import Derived.Test.YthnnenbpbkmbhaaGreatQDrawFnCW
import Derived.Test.YthnnenbpbkmbhaaGreatQImplKOfW
import Derived.Test.YthnnenbpbkmbhaaGreatQSpecKOfW
import Derived.Test.YthnnenbpbkmbhaaGreatQImplFitKW
import Derived.Test.YthnnenbpbkmbhaaGreatQSpecFitKW
import Derived.Test.YthnnenbpbkmbhaaGreatQImplMaskW
import Derived.Test.YthnnenbpbkmbhaaGreatQSpecMaskW
import Derived.Test.YthnnenbpbkmbhaaGreatQMasksAtWToIsByteW
import Derived.Test.YthnnenbpbkmbhaaGreatQImplRightWToStepVM
namespace Go.Proofs.YthnnenbpbkmbhaaGreat
open Go.RowKit

open Classical in
set_option maxHeartbeats 1000000 in
theorem specByte_yes (sa : Option Addr) (n cap c m x : Nat) (f : Nat → Cel) (w : World) (hn : n ≤ maxLen) (hr : CRow w w.heap.size sa n f) (hc : ∀ i, i < n → (f i).c.size ≤ maxLen) (h : CellsOk n f) (hc9 : c < 256) (hm : m = (n + 1 + 31) / 32) (hx : IsBits x (behind (asksB f c false) n)) :
    Calls Tryz.prog 20 #[.slice sa n cap, .int .i64 (c : Int)] w fun e w' => NewVec w ((n : Int) + 1) m (wordsN x) e w' := by
  have q0 := boxing w 35 0 none 0 0
  have C := specKRight_any sa n cap f (w.alloc (.cells #[.int .i64 0, .slice none 0 0] 35)) hn ((hr.kept q0.1).up q0.1.size) hc
  rw [decide_eq_true h] at C
  have HSZ : Hid (∀ i, i < n → (f i).c.size ≤ 256) := okSize (fun i _ hi => right_size hi) h
  have HX : Hid (IsBits x (behind (asksB f c false) n)) := hx
  have HM : Hid (m = (n + 1 + 31) / 32) := hm
  have HR : Hid (CRow w w.heap.size sa n f) := hr
  have hn60 := h.2.1
  have hc0 : (0 : Int) ≤ (c : Int) := by omega
  have hc1 : (c : Int) ≤ 255 := by omega
  clear hn hr hc h hm hx
  go_enter Tryz.func20, Tryz.ntmps20
  go_wp2_with fail
  generalize w.alloc (.cells #[.int .i64 0, .slice none 0 0] 35) = v0 at *
  refine C.mono ?_
  rintro e w1 ⟨rfl, hb1⟩
  have X1 : Hid (Boxed w1 w.heap.size 35 0 none 0 0) := q0.2.1.kept hb1 rfl
  have S1 : Hid (Since w w1) := since_call (since_call (since_refl _) q0.1) hb1
  clear C hb1 q0
  go_wp2_with (first | (go_at_call 63; refine (is_yes _ _ _ _ hc0 hc1).mono ?_; rintro e w9 ⟨rfl, hw9⟩; rw [hw9]; clear hw9 w9))
  refine (l06Byte_any sa n cap c m x false f w1 hn60 ((HR.out.kept S1.out.below).up S1.out.size) HSZ.out hc9 HM.out HX.out).mono ?_
  rintro e w3 ⟨s3, c3, rfl, hb3, ho3⟩
  unfold vecV
  obtain ⟨a0, a1, a2, a3⟩ := (X1.out.kept hb3 rfl).four
  have S3 : Hid (Since w w3) := since_call S1.out hb3
  have O3 : Hid (OwnS w3 w1.heap.size s3 m (wordsN x)) := ho3
  have l3 : w.heap.size < w3.heap.size := by have := hb3.size; have := X1.out.lt; omega
  have l2 : w.heap.size < w1.heap.size := X1.out.lt
  clear hb3 ho3
  go_wp2_with fail
  refine bodyPost_ret (v := vecV ((n : Int) + 1) s3 m c3) (by simp [results, Tryz.results20, go_sem, vecV, a0, a1]) rfl ?_
  refine ⟨_, _, rfl, (since_set (since_set S3.out (by show w.heap.size ≤ w.heap.size; omega)) (by show w.heap.size ≤ w.heap.size; omega)).below, ?_⟩
  rcases O3.out with h | ⟨g5, h1, h2, h3⟩
  · exact Or.inl h
  · exact Or.inr ⟨g5, h1, by omega, (h3.setOther _ _ (by show w.heap.size ≠ g5; omega)).setOther _ _ (by show w.heap.size ≠ g5; omega)⟩
open Classical in
set_option maxHeartbeats 1000000 in
theorem specByte_no (sa : Option Addr) (n cap : Nat) (en : Int) (f : Nat → Cel) (w : World) (hn : n ≤ maxLen) (hr : CRow w w.heap.size sa n f) (hc : ∀ i, i < n → (f i).c.size ≤ maxLen) (h : ¬ ByteP n f en) :
    Calls Tryz.prog 20 #[.slice sa n cap, .int .i64 en] w fun e w' => NewVec w 0 0 (fun _ => 0) e w' := by
  have q0 := boxing w 35 0 none 0 0
  have C := specKRight_any sa n cap f (w.alloc (.cells #[.int .i64 0, .slice none 0 0] 35)) hn ((hr.kept q0.1).up q0.1.size) hc
  by_cases hk : CellsOk n f
  · rw [decide_eq_true hk] at C
    have HEN : Hid (¬ (0 ≤ en ∧ en ≤ 255)) := fun h9 => h ⟨hk, h9.1, h9.2⟩
    clear hn hr hc h hk
    go_enter Tryz.func20, Tryz.ntmps20
    go_wp2_with fail
    generalize w.alloc (.cells #[.int .i64 0, .slice none 0 0] 35) = v0 at *
    refine C.mono ?_
    rintro e w1 ⟨rfl, hb1⟩
    obtain ⟨a0, a1, a2, a3⟩ := (q0.2.1.kept hb1 rfl).four
    have S1 : Hid (Since w w1) := since_call (since_call (since_refl _) q0.1) hb1
    clear C hb1 q0
    go_wp2_with (first | (go_at_call 63; refine (is_no _ _ _ _ HEN.out).mono ?_; rintro e w9 ⟨rfl, hw9⟩; rw [hw9]; clear hw9 w9))
    refine bodyPost_ret (v := vecV 0 none 0 0) (by simp [results, Tryz.results20, go_sem, vecV, a0, a1]) rfl ?_
    exact ⟨_, _, rfl, (since_set (since_set S1.out (by show w.heap.size ≤ w.heap.size; omega)) (by show w.heap.size ≤ w.heap.size; omega)).below, Or.inl rfl⟩
  · rw [decide_eq_false hk] at C
    clear hn hr hc h hk
    go_enter Tryz.func20, Tryz.ntmps20
    go_wp2_with fail
    generalize w.alloc (.cells #[.int .i64 0, .slice none 0 0] 35) = v0 at *
    refine C.mono ?_
    rintro e w1 ⟨rfl, hb1⟩
    obtain ⟨a0, a1, a2, a3⟩ := (q0.2.1.kept hb1 rfl).four
    have S1 : Hid (Since w w1) := since_call (since_call (since_refl _) q0.1) hb1
    clear C hb1 q0
    go_wp2_with fail
    refine bodyPost_ret (v := vecV 0 none 0 0) (by simp [results, Tryz.results20, go_sem, vecV, a0, a1]) rfl ?_
    exact ⟨_, _, rfl, (since_set (since_set S1.out (by show w.heap.size ≤ w.heap.size; omega)) (by show w.heap.size ≤ w.heap.size; omega)).below, Or.inl rfl⟩
end Go.Proofs.YthnnenbpbkmbhaaGreat
namespace Go.Proofs.YthnnenbpbkmbhaaGreat
open Go.RowKit

open Classical in
set_option maxHeartbeats 1000000 in
theorem specLoop_yes (sa : Option Addr) (n cap c m x : Nat) (f : Nat → Cel) (w : World) (hn : n ≤ maxLen) (hr : CRow w w.heap.size sa n f) (hc : ∀ i, i < n → (f i).c.size ≤ maxLen) (h : CellsOk n f) (hc9 : c < 256) (hm : m = (n + 1 + 31) / 32) (hx : IsBits x (behind (asksB f c true) n)) :
    Calls Tryz.prog 21 #[.slice sa n cap, .int .i64 (c : Int)] w fun e w' => NewVec w ((n : Int) + 1) m (wordsN x) e w' := by
  have q0 := boxing w 35 0 none 0 0
  have C := specKRight_any sa n cap f (w.alloc (.cells #[.int .i64 0, .slice none 0 0] 35)) hn ((hr.kept q0.1).up q0.1.size) hc
  rw [decide_eq_true h] at C
  have HSZ : Hid (∀ i, i < n → (f i).c.size ≤ 256) := okSize (fun i _ hi => right_size hi) h
  have HX : Hid (IsBits x (behind (asksB f c true) n)) := hx
  have HM : Hid (m = (n + 1 + 31) / 32) := hm
  have HR : Hid (CRow w w.heap.size sa n f) := hr
  have hn60 := h.2.1
  have hc0 : (0 : Int) ≤ (c : Int) := by omega
  have hc1 : (c : Int) ≤ 255 := by omega
  clear hn hr hc h hm hx
  go_enter Tryz.func21, Tryz.ntmps21
  go_wp2_with fail
  generalize w.alloc (.cells #[.int .i64 0, .slice none 0 0] 35) = v0 at *
  refine C.mono ?_
  rintro e w1 ⟨rfl, hb1⟩
  have X1 : Hid (Boxed w1 w.heap.size 35 0 none 0 0) := q0.2.1.kept hb1 rfl
  have S1 : Hid (Since w w1) := since_call (since_call (since_refl _) q0.1) hb1
  clear C hb1 q0
  go_wp2_with (first | (go_at_call 63; refine (is_yes _ _ _ _ hc0 hc1).mono ?_; rintro e w9 ⟨rfl, hw9⟩; rw [hw9]; clear hw9 w9))
  refine (l06Byte_any sa n cap c m x true f w1 hn60 ((HR.out.kept S1.out.below).up S1.out.size) HSZ.out hc9 HM.out HX.out).mono ?_
  rintro e w3 ⟨s3, c3, rfl, hb3, ho3⟩
  unfold vecV
  obtain ⟨a0, a1, a2, a3⟩ := (X1.out.kept hb3 rfl).four
  have S3 : Hid (Since w w3) := since_call S1.out hb3
  have O3 : Hid (OwnS w3 w1.heap.size s3 m (wordsN x)) := ho3
  have l3 : w.heap.size < w3.heap.size := by have := hb3.size; have := X1.out.lt; omega
  have l2 : w.heap.size < w1.heap.size := X1.out.lt
  clear hb3 ho3
  go_wp2_with fail
  refine bodyPost_ret (v := vecV ((n : Int) + 1) s3 m c3) (by simp [results, Tryz.results21, go_sem, vecV, a0, a1]) rfl ?_
  refine ⟨_, _, rfl, (since_set (since_set S3.out (by show w.heap.size ≤ w.heap.size; omega)) (by show w.heap.size ≤ w.heap.size; omega)).below, ?_⟩
  rcases O3.out with h | ⟨g5, h1, h2, h3⟩
  · exact Or.inl h
  · exact Or.inr ⟨g5, h1, by omega, (h3.setOther _ _ (by show w.heap.size ≠ g5; omega)).setOther _ _ (by show w.heap.size ≠ g5; omega)⟩
open Classical in
set_option maxHeartbeats 1000000 in
theorem specLoop_no (sa : Option Addr) (n cap : Nat) (en : Int) (f : Nat → Cel) (w : World) (hn : n ≤ maxLen) (hr : CRow w w.heap.size sa n f) (hc : ∀ i, i < n → (f i).c.size ≤ maxLen) (h : ¬ ByteP n f en) :
    Calls Tryz.prog 21 #[.slice sa n cap, .int .i64 en] w fun e w' => NewVec w 0 0 (fun _ => 0) e w' := by
  have q0 := boxing w 35 0 none 0 0
  have C := specKRight_any sa n cap f (w.alloc (.cells #[.int .i64 0, .slice none 0 0] 35)) hn ((hr.kept q0.1).up q0.1.size) hc
  by_cases hk : CellsOk n f
  · rw [decide_eq_true hk] at C
    have HEN : Hid (¬ (0 ≤ en ∧ en ≤ 255)) := fun h9 => h ⟨hk, h9.1, h9.2⟩
    clear hn hr hc h hk
    go_enter Tryz.func21, Tryz.ntmps21
    go_wp2_with fail
    generalize w.alloc (.cells #[.int .i64 0, .slice none 0 0] 35) = v0 at *
    refine C.mono ?_
    rintro e w1 ⟨rfl, hb1⟩
    obtain ⟨a0, a1, a2, a3⟩ := (q0.2.1.kept hb1 rfl).four
    have S1 : Hid (Since w w1) := since_call (since_call (since_refl _) q0.1) hb1
    clear C hb1 q0
    go_wp2_with (first | (go_at_call 63; refine (is_no _ _ _ _ HEN.out).mono ?_; rintro e w9 ⟨rfl, hw9⟩; rw [hw9]; clear hw9 w9))
    refine bodyPost_ret (v := vecV 0 none 0 0) (by simp [results, Tryz.results21, go_sem, vecV, a0, a1]) rfl ?_
    exact ⟨_, _, rfl, (since_set (since_set S1.out (by show w.heap.size ≤ w.heap.size; omega)) (by show w.heap.size ≤ w.heap.size; omega)).below, Or.inl rfl⟩
  · rw [decide_eq_false hk] at C
    clear hn hr hc h hk
    go_enter Tryz.func21, Tryz.ntmps21
    go_wp2_with fail
    generalize w.alloc (.cells #[.int .i64 0, .slice none 0 0] 35) = v0 at *
    refine C.mono ?_
    rintro e w1 ⟨rfl, hb1⟩
    obtain ⟨a0, a1, a2, a3⟩ := (q0.2.1.kept hb1 rfl).four
    have S1 : Hid (Since w w1) := since_call (since_call (since_refl _) q0.1) hb1
    clear C hb1 q0
    go_wp2_with fail
    refine bodyPost_ret (v := vecV 0 none 0 0) (by simp [results, Tryz.results21, go_sem, vecV, a0, a1]) rfl ?_
    exact ⟨_, _, rfl, (since_set (since_set S1.out (by show w.heap.size ≤ w.heap.size; omega)) (by show w.heap.size ≤ w.heap.size; omega)).below, Or.inl rfl⟩
end Go.Proofs.YthnnenbpbkmbhaaGreat
namespace Go.Proofs.YthnnenbpbkmbhaaGreat
open Go.RowKit

/-- So often a cell may come. -/
def CellN (a : Cel) (m : Nat) : Prop := m = 1 ∨ (m = 0 ∧ a.k = true) ∨ (2 ≤ m ∧ a.o = true)
/-- A text, from a place to a place, is cut into pieces of these cells. -/
def CutK (t : ByteArray) : List Cel → Nat → Nat → Prop
  | [], s, e => s = e
  | a :: L, s, e => ∃ m : Nat, CellN a m ∧ RunC t a.c s m ∧ CutK t L (s + m) e
theorem cutK_append {t : ByteArray} : ∀ {L M : List Cel} {s e : Nat}, CutK t (L ++ M) s e ↔ ∃ m, CutK t L s m ∧ CutK t M m e
  | [], M, s, e => ⟨fun h => ⟨s, rfl, h⟩, fun ⟨m, h1, h2⟩ => by have : s = m := h1; rw [this]; exact h2⟩
  | a :: L, M, s, e => by
    constructor
    · rintro ⟨n, h1, h2, h3⟩
      obtain ⟨m, h4, h5⟩ := cutK_append.1 h3
      exact ⟨m, ⟨n, h1, h2, h4⟩, h5⟩
    · rintro ⟨m, ⟨n, h1, h2, h3⟩, h4⟩
      exact ⟨n, h1, h2, cutK_append.2 ⟨m, h3, h4⟩⟩
theorem CutK.le {t : ByteArray} : ∀ {L : List Cel} {s e : Nat}, CutK t L s e → s ≤ e
  | [], s, e, h => by have : s = e := h; omega
  | a :: L, s, e, ⟨n, _, _, h3⟩ => by have := CutK.le h3; omega
theorem cutK_snoc {t : ByteArray} {L : List Cel} {a : Cel} {s e : Nat} : CutK t (L ++ [a]) s e ↔ ∃ m d, d + m = e ∧ CutK t L s d ∧ CellN a m ∧ RunC t a.c d m := by
  rw [cutK_append]
  constructor
  · rintro ⟨d, h1, m, h2, h3, h4⟩
    exact ⟨m, d, h4, h1, h2, h3⟩
  · rintro ⟨m, d, h1, h2, h3, h4⟩
    exact ⟨d, h2, m, h3, h4, h1⟩
/-- The first cells of a row as a list. -/
def cellsL (f : Nat → Cel) (n : Nat) : List Cel := (List.range n).map f
theorem cellsL_succ (f : Nat → Cel) (n : Nat) : cellsL f (n + 1) = cellsL f n ++ [f n] := by simp [cellsL, List.range_succ]
theorem cellsL_getD (L : List Cel) : cellsL (fun i => L.getD i cel0) L.length = L := by
  apply List.ext_getElem?
  intro i
  by_cases h : i < L.length
  · simp [cellsL, h]
  · rw [List.getElem?_eq_none (by simp [cellsL]; omega), List.getElem?_eq_none (by omega)]
/-- One comes to a place of a row, with so many bytes gone by, from a beginning. -/
def At (t : ByteArray) (f : Nat → Cel) (s k j : Nat) : Prop := CutK t (cellsL f j) s k
theorem at_zero {t : ByteArray} {f : Nat → Cel} {s k : Nat} : At t f s k 0 ↔ s = k := Iff.rfl
theorem at_begin {t : ByteArray} {f : Nat → Cel} {s j : Nat} : At t f s s (j + 1) ↔ (f j).k = true ∧ At t f s s j := by
  unfold At
  rw [cellsL_succ, cutK_snoc]
  constructor
  · rintro ⟨m, d, h1, h2, h3, h4⟩
    have := h2.le
    obtain rfl : m = 0 := by omega
    obtain rfl : d = s := by omega
    rcases h3 with h3 | ⟨_, h3⟩ | ⟨h3, _⟩
    · omega
    · exact ⟨h3, h2⟩
    · omega
  · rintro ⟨h1, h2⟩
    exact ⟨0, s, rfl, h2, Or.inr (Or.inl ⟨rfl, h1⟩), RunC.zero _ _ _⟩
/-- One byte more. -/
theorem at_step {t : ByteArray} {f : Nat → Cel} {s k j : Nat} (_hs : s ≤ k) : At t f s (k + 1) (j + 1) ↔ (takesB t (f j).c k = true ∧ (At t f s k j ∨ ((f j).o = true ∧ At t f s k (j + 1)))) ∨ ((f j).k = true ∧ At t f s (k + 1) j) := by
  unfold At
  rw [cellsL_succ, cutK_snoc, cutK_snoc]
  constructor
  · rintro ⟨m, d, h1, h2, h3, h4⟩
    cases m with
    | zero =>
      obtain rfl : d = k + 1 := by omega
      rcases h3 with h3 | ⟨_, h3⟩ | ⟨h3, _⟩
      · omega
      · exact Or.inr ⟨h3, h2⟩
      · omega
    | succ m =>
      have h5 := h4 m (by omega)
      rw [show d + m = k by omega] at h5
      refine Or.inl ⟨h5, ?_⟩
      by_cases hm : m = 0
      · subst hm
        exact Or.inl (by rw [show k = d by omega]; exact h2)
      · rcases h3 with h3 | ⟨h3, _⟩ | ⟨_, h3⟩
        · omega
        · omega
        · refine Or.inr ⟨h3, m, d, by omega, h2, ?_, h4.mono (by omega)⟩
          by_cases h1 : m = 1
          · exact Or.inl h1
          · exact Or.inr (Or.inr ⟨by omega, h3⟩)
  · rintro (⟨h1, h2 | ⟨h2, m, d, h3, h4, h5, h6⟩⟩ | ⟨h1, h2⟩)
    · exact ⟨1, k, rfl, h2, Or.inl rfl, RunC.cons h1 (RunC.zero _ _ _)⟩
    · refine ⟨m + 1, d, by omega, h4, ?_, h6.succ (by rw [show d + m = k by omega]; exact h1)⟩
      cases m with
      | zero => exact Or.inl rfl
      | succ m => exact Or.inr (Or.inr ⟨by omega, h2⟩)
    · exact ⟨0, k + 1, rfl, h2, Or.inr (Or.inl ⟨rfl, h1⟩), RunC.zero _ _ _⟩
/-- A cell in a right row, its byte. -/
theorem takes_has {t c : ByteArray} {k : Nat} (hk : k < t.size) : takesB t c k = hasByte c t[k].toNat := by unfold takesB; rw [dif_pos hk]
/-- Where one stands is told by a step from where one stood. -/
theorem step_at {t : ByteArray} {f : Nat → Cel} {n s k : Nat} {A B : Nat → Bool} (hs : s ≤ k) (hk : k < t.size) (hA : ∀ j, j ≤ n → (A j = true ↔ At t f s k j)) (hB : ∀ j, B j = cloB (behind (fun i => (f i).k) n) (passB f n A t[k].toNat) j) : ∀ j, j ≤ n → (B j = true ↔ At t f s (k + 1) j)
  | 0, _ => by
    rw [hB 0, at_zero]
    unfold cloB passB behind
    simp
    omega
  | j + 1, hj => by
    have ih := step_at hs hk hA hB j (by omega)
    rw [hB (j + 1), show cloB (behind (fun i => (f i).k) n) (passB f n A t[k].toNat) (j + 1) = (passB f n A t[k].toNat (j + 1) || (behind (fun i => (f i).k) n (j + 1) && cloB (behind (fun i => (f i).k) n) (passB f n A t[k].toNat) j)) from rfl, ← hB j]
    unfold passB
    rw [behind_at _ (show j < n by omega), behind_at _ (show j < n by omega), behind_at _ (show j < n by omega), at_step hs, takes_has hk, ← hA j (by omega), ← hA (j + 1) hj, ← ih]
    simp only [Nat.add_sub_cancel, Bool.or_eq_true, Bool.and_eq_true]
    constructor
    · rintro (⟨h1, h2 | h2⟩ | h)
      · exact Or.inl ⟨h1, Or.inl h2⟩
      · exact Or.inl ⟨h1, Or.inr ⟨h2.2, h2.1⟩⟩
      · exact Or.inr h
    · rintro (⟨h1, h2 | h2⟩ | h)
      · exact Or.inl ⟨h1, Or.inl h2⟩
      · exact Or.inl ⟨h1, Or.inr ⟨h2.2, h2.1⟩⟩
      · exact Or.inr h
theorem start_at {t : ByteArray} {f : Nat → Cel} {n s : Nat} : ∀ j, j ≤ n → (cloB (behind (fun i => (f i).k) n) (fun j => decide (0 = j)) j = true ↔ At t f s s j)
  | 0, _ => by rw [at_zero]; simp [cloB]
  | j + 1, hj => by
    have ih := start_at (t := t) (f := f) (n := n) (s := s) j (by omega)
    rw [at_begin, ← ih, show cloB (behind (fun i => (f i).k) n) (fun j => decide (0 = j)) (j + 1) = (decide (0 = j + 1) || (behind (fun i => (f i).k) n (j + 1) && cloB (behind (fun i => (f i).k) n) (fun j => decide (0 = j)) j)) from rfl, behind_at _ (show j < n by omega)]
    simp
/-- The places behind so many bytes are those to which one comes. -/
theorem run_at {t : ByteArray} {f : Nat → Cel} {n : Nat} : ∀ k, k ≤ t.size → ∀ j, j ≤ n → (runB f n t k j = true ↔ At t f 0 k j)
  | 0, _ => fun j hj => start_at j hj
  | k + 1, hk => fun j hj => step_at (Nat.zero_le k) (show k < t.size by omega) (run_at k (by omega)) (fun j => by show cloB _ (passB f n (runB f n t k) (if h : k < t.size then t[k].toNat else 0)) j = _; rw [dif_pos (show k < t.size by omega)]) j hj
/-- So many bytes may be cut among some cells. -/
def SumN : List Cel → Nat → Prop
  | [], n => n = 0
  | a :: L, n => ∃ m d, m + d = n ∧ CellN a m ∧ SumN L d
theorem cutK_same {t c : ByteArray} : ∀ {L : List Cel} {s e : Nat}, (∀ a ∈ L, a.c = c) → (CutK t L s e ↔ ∃ n, SumN L n ∧ RunC t c s n ∧ s + n = e)
  | [], s, e, _ => ⟨fun h => ⟨0, rfl, RunC.zero _ _ _, h⟩, fun ⟨n, h1, _, h2⟩ => by have : n = 0 := h1; show s = e; omega⟩
  | a :: L, s, e, h => by
    have ha := h a (by simp)
    have ih := fun s => cutK_same (t := t) (L := L) (s := s) (e := e) (fun b hb => h b (by simp [hb]))
    constructor
    · rintro ⟨m, h1, h2, h3⟩
      obtain ⟨d, h4, h5, h6⟩ := (ih _).1 h3
      rw [ha] at h2
      exact ⟨m + d, ⟨m, d, rfl, h1, h4⟩, h2.append h5, by omega⟩
    · rintro ⟨n, ⟨m, d, h1, h2, h3⟩, h4, h5⟩
      rw [← h1] at h4
      obtain ⟨h6, h7⟩ := h4.split
      exact ⟨m, h2, by rw [ha]; exact h6, (ih _).2 ⟨d, h3, h7, by omega⟩⟩
/-- The fewest bytes that some cells take. -/
def loN : List Cel → Nat
  | [] => 0
  | a :: L => (if a.k then 0 else 1) + loN L
/-- May any of them be passed again? -/
def anyO : List Cel → Bool
  | [] => false
  | a :: L => a.o || anyO L
theorem loN_le : ∀ L : List Cel, loN L ≤ L.length
  | [] => Nat.le_refl _
  | a :: L => by
    have := loN_le L
    show (if a.k then 0 else 1) + loN L ≤ L.length + 1
    split <;> omega
theorem sumN_iff : ∀ {L : List Cel} {n : Nat}, SumN L n ↔ (loN L ≤ n ∧ (n ≤ L.length ∨ anyO L = true))
  | [], n => ⟨fun h => by have : n = 0 := h; subst this; exact ⟨Nat.le_refl _, Or.inl (Nat.le_refl _)⟩, fun ⟨_, h⟩ => h.elim (fun h => Nat.le_zero.1 h) (fun h => by cases h)⟩
  | a :: L, n => by
    have hl := loN_le L
    show (∃ m d, m + d = n ∧ CellN a m ∧ SumN L d) ↔ ((if a.k then 0 else 1) + loN L ≤ n ∧ (n ≤ L.length + 1 ∨ (a.o || anyO L) = true))
    constructor
    · rintro ⟨m, d, h1, h2, h3⟩
      obtain ⟨h4, h5⟩ := sumN_iff.1 h3
      unfold CellN at h2
      cases hk : a.k <;> cases ho : a.o <;> cases hy : anyO L <;> simp [hk, ho, hy] at h2 h5 ⊢ <;> omega
    · rintro ⟨h1, h2⟩
      by_cases h3 : loN L + 1 ≤ n ∧ (n - 1 ≤ L.length ∨ anyO L = true)
      · exact ⟨1, n - 1, by omega, Or.inl rfl, sumN_iff.2 ⟨by omega, h3.2⟩⟩
      · by_cases h4 : loN L + 1 ≤ n
        · have h5 : ¬ (n - 1 ≤ L.length ∨ anyO L = true) := fun h => h3 ⟨h4, h⟩
          have h6 : a.o = true := by
            rcases h2 with h2 | h2
            · exact absurd (Or.inl (by omega)) h5
            · rw [Bool.or_eq_true] at h2
              exact h2.resolve_right (fun h => h5 (Or.inr h))
          have h7 : ¬ n - 1 ≤ L.length := fun h => h5 (Or.inl h)
          exact ⟨n - L.length, L.length, by omega, Or.inr (Or.inr ⟨by omega, h6⟩), sumN_iff.2 ⟨hl, Or.inl (Nat.le_refl _)⟩⟩
        · have h5 : a.k = true := by
            cases hk : a.k with
            | true => rfl
            | false => rw [hk] at h1; simp at h1; omega
          rw [h5] at h1
          simp at h1
          exact ⟨0, n, by omega, Or.inr (Or.inl ⟨rfl, h5⟩), sumN_iff.2 ⟨h1, Or.inl (by omega)⟩⟩
theorem loN_append : ∀ L M : List Cel, loN (L ++ M) = loN L + loN M
  | [], M => by simp [loN]
  | a :: L, M => by
    show (if a.k then 0 else 1) + loN (L ++ M) = (if a.k then 0 else 1) + loN L + loN M
    rw [loN_append L M]
    omega
theorem anyO_append : ∀ L M : List Cel, anyO (L ++ M) = (anyO L || anyO M)
  | [], M => by simp [anyO]
  | a :: L, M => by
    show (a.o || anyO (L ++ M)) = ((a.o || anyO L) || anyO M)
    rw [anyO_append L M, Bool.or_assoc]
theorem lo_cells {a : Atm} (h0 : 0 ≤ a.l) : ∀ k : Nat, (loN ((List.range k).map (cellA a)) : Int) = min (k : Int) a.l
  | 0 => by simp [loN]; omega
  | k + 1 => by
    have ih := lo_cells h0 k
    rw [List.range_succ, List.map_append, loN_append]
    show ((loN ((List.range k).map (cellA a)) + ((if decide (a.l ≤ (k : Int)) then 0 else 1) + 0) : Nat) : Int) = _
    by_cases h : a.l ≤ (k : Int)
    · rw [decide_eq_true h]
      simp
      omega
    · rw [decide_eq_false h]
      simp
      omega
theorem any_cells {a : Atm} : ∀ k : Nat, anyO ((List.range k).map (cellA a)) = decide (a.m = -1 ∧ 1 ≤ cnt a ∧ cnt a ≤ k)
  | 0 => by simp [anyO]; omega
  | k + 1 => by
    rw [List.range_succ, List.map_append, anyO_append, any_cells k]
    show (_ || (decide (a.m = -1 ∧ k + 1 = cnt a) || false)) = _
    rw [Bool.or_false, ← Bool.decide_or]
    congr 1
    simp only [eq_iff_iff]
    omega
/-- An atom's cells take as many bytes as the atom. -/
theorem sum_atom {a : Atm} (h : AtomRight a) (n : Nat) : SumN (cellsA a) n ↔ Okay a n := by
  obtain ⟨h1, h2, h3⟩ := cnt_bd h
  obtain ⟨_, _, h4, h5, h6⟩ := h
  rw [sumN_iff]
  unfold cellsA
  rw [any_cells, List.length_map, List.length_range]
  have hlo := lo_cells h4 (cnt a)
  generalize loN ((List.range (cnt a)).map (cellA a)) = y at *
  unfold Okay counted at *
  simp only [decide_eq_true_eq]
  by_cases hm : a.m = -1
  · rw [if_pos hm] at h3
    by_cases hl : a.l < 1
    · rw [if_pos hl] at h3
      omega
    · rw [if_neg hl] at h3
      omega
  · rw [if_neg hm] at h3
    omega
theorem cells_cut {t : ByteArray} : ∀ {L : List Atm} {s e : Nat}, (∀ a ∈ L, AtomRight a) → (CutK t (cellsP L) s e ↔ Cuts t L s e)
  | [], s, e, _ => Iff.rfl
  | a :: L, s, e, h => by
    show CutK t (cellsA a ++ cellsP L) s e ↔ _
    rw [cutK_append]
    have hc : ∀ x ∈ cellsA a, x.c = a.c := fun x hx => by
      unfold cellsA at hx
      obtain ⟨k, _, rfl⟩ := List.mem_map.1 hx
      rfl
    have ih := fun s => cells_cut (t := t) (L := L) (s := s) (e := e) (fun b hb => h b (by simp [hb]))
    constructor
    · rintro ⟨m, h1, h2⟩
      obtain ⟨n, h3, h4, h5⟩ := (cutK_same hc).1 h1
      exact ⟨n, (sum_atom (h a (by simp)) n).1 h3, h4, by rw [h5]; exact (ih _).1 h2⟩
    · rintro ⟨n, h1, h2, h3⟩
      exact ⟨s + n, (cutK_same hc).2 ⟨n, (sum_atom (h a (by simp)) n).2 h1, h2, rfl⟩, (ih _).2 h3⟩
/-- The cells of a right pattern, walked along, are the pattern's pieces. -/
theorem run_cuts {t : ByteArray} {L : List Atm} (h : ∀ a ∈ L, AtomRight a) {k : Nat} (hk : k ≤ t.size) : runB (fun i => (cellsP L).getD i cel0) (cellsP L).length t k (cellsP L).length = true ↔ Cuts t L 0 k := by
  rw [run_at k hk _ (Nat.le_refl _)]
  unfold At
  rw [cellsL_getD, cells_cut h]
end Go.Proofs.YthnnenbpbkmbhaaGreat
namespace Go.Proofs.YthnnenbpbkmbhaaGreat
/-- A right pattern means a text that is not too long. -/
def FitsP (n : Nat) (f : Nat → Atm) (t : ByteArray) : Prop := t.size ≤ 8000 ∧ PatRight n f ∧ Cuts t (atomsL f n) 0 t.size
end Go.Proofs.YthnnenbpbkmbhaaGreat
namespace Go.Proofs.YthnnenbpbkmbhaaGreat
open Go.RowKit

theorem max256 {k : Nat} (h : k ≤ 256) : k ≤ maxLen := by unfold maxLen; omega
theorem max60 {k : Nat} (h : k ≤ 60) : k ≤ maxLen := by unfold maxLen; omega
theorem crow_since {w W : World} {sa : Option Addr} {n : Nat} {f : Nat → Cel} (h : CRow w w.heap.size sa n f) (hs : Since w W) : CRow W W.heap.size sa n f := (h.kept hs.below).up hs.below.size
theorem arow_since {w W : World} {sa : Option Addr} {n : Nat} {f : Nat → Atm} (h : ARow w w.heap.size sa n f) (hs : Since w W) : ARow W W.heap.size sa n f := (h.kept hs.below).up hs.below.size
theorem kof_both (sa : Option Addr) (n cap : Nat) (f : Nat → Atm) (w : World) (hn : n ≤ 5) (hr : ARow w w.heap.size sa n f) (hc : ∀ i, i < n → SmallA (f i)) :
    ∃ (k : Nat) (g : Nat → Cel), k ≤ 40 ∧ (∀ i, i < k → (g i).c.size ≤ 256) ∧ (PatRight n f → k = (cellsP (atomsL f n)).length ∧ g = fun i => (cellsP (atomsL f n)).getD i cel0) ∧
      (∀ W, Since w W → Calls Tryz.prog 6 #[.slice sa n cap] W fun e w' => NewCells W k g e w') ∧
      (∀ W, Since w W → Calls Tryz.prog 13 #[.slice sa n cap] W fun e w' => NewCells W k g e w') := by
  have hm : n ≤ maxLen := max60 (by omega)
  have hc' : ∀ i, i < n → (f i).c.size ≤ maxLen := fun i hi => max256 (hc i hi).1
  by_cases hP : PatRight n f
  · exact ⟨_, _, pat_len hP, fun i hi => celsP_class (fun a ha => by obtain ⟨j, hj, rfl⟩ := atomsL_mem ha; exact (hc j hj).1) _ (getD_mem hi), fun _ => ⟨rfl, rfl⟩, fun W h => implKOf_yes sa n cap f W hm (arow_since hr h) hc' hP, fun W h => specKOf_yes sa n cap f W hm (arow_since hr h) hc' hP⟩
  · exact ⟨0, fun _ => cel0, by omega, fun i hi => by omega, fun h => absurd h hP, fun W h => implKOf_no sa n cap f W hm (arow_since hr h) hc' hP, fun W h => specKOf_no sa n cap f W hm (arow_since hr h) hc' hP⟩
open Classical in
theorem fit_both (sa : Option Addr) (n cap : Nat) (f : Nat → Cel) (t : ByteArray) (w : World) (hn : n ≤ 60) (hr : CRow w w.heap.size sa n f) (hc : ∀ i, i < n → (f i).c.size ≤ 256) (ht : t.size ≤ 20000) :
    (∀ W, Since w W → Calls Tryz.prog 14 #[.slice sa n cap, .string t] W fun e w' => e = .returned (.bool (decide (FitK n f t))) ∧ Below W.heap.size W w') ∧
      (∀ W, Since w W → Calls Tryz.prog 15 #[.slice sa n cap, .string t] W fun e w' => e = .returned (.bool (decide (FitK n f t))) ∧ Below W.heap.size W w') := by
  have hm : n ≤ maxLen := max60 hn
  have hc' : ∀ i, i < n → (f i).c.size ≤ maxLen := fun i hi => max256 (hc i hi)
  have ht' : t.size ≤ maxLen := by unfold maxLen; omega
  exact ⟨fun W h => implFitK_any sa n cap f t W hm (crow_since hr h) hc' ht', fun W h => specFitK_any sa n cap f t W hm (crow_since hr h) hc' ht'⟩
theorem masks_both (sa : Option Addr) (n cap : Nat) (f : Nat → Cel) (w : World) (hn : n ≤ 60) (hr : CRow w w.heap.size sa n f) (hc : ∀ i, i < n → (f i).c.size ≤ 256) :
    ∃ (b : Int) (m : Nat) (F : Nat → Nat → Int), m ≤ 2 ∧
      (∀ W, Since w W → Calls Tryz.prog 17 #[.slice sa n cap] W fun e w' => NewMasks W b m F e w') ∧
      (∀ W, Since w W → Calls Tryz.prog 18 #[.slice sa n cap] W fun e w' => NewMasks W b m F e w') := by
  have hm : n ≤ maxLen := max60 hn
  have hc' : ∀ i, i < n → (f i).c.size ≤ maxLen := fun i hi => max256 (hc i hi)
  by_cases h : CellsOk n f
  · obtain ⟨xb, hb⟩ := first_ex f hn
    obtain ⟨xe, he⟩ := last_ex f hn
    obtain ⟨sk, hk⟩ := skip_ex f hn
    exact ⟨(n : Int) + 1, (n + 1 + 31) / 32, masksF n xb xe sk, by omega,
      fun W hs => implMasks_yes sa n cap _ xb xe sk f W hm (crow_since hr hs) hc' h rfl (hb.congr (fun j => by unfold firstB skipB; simp)) he hk,
      fun W hs => specMasks_yes sa n cap _ f _ W hm (crow_since hr hs) hc' h (fun W' hy' => (l06Masks_any sa n cap _ f W' h.1 hn hy' rfl).mono (fun _ _ h9 => masksAt_new hn h9 hb he hk))⟩
  · exact ⟨0, 0, fun _ _ => 0, by omega, fun W hs => implMasks_no sa n cap f W hm (crow_since hr hs) hc' h, fun W hs => specMasks_no sa n cap f W hm (crow_since hr hs) hc' h⟩
theorem vecIs_and {f g : Nat → Int} {P Q : Nat → Bool} {m : Nat} (h : VecIs f P m) (h' : VecIs g Q m) : VecIs (fun i => bits .and .i64 (f i) (g i)) (fun j => P j && Q j) m := fun i hi => by
  obtain ⟨a, e1, h1, h2⟩ := h i hi
  obtain ⟨b, e2, h3, h4⟩ := h' i hi
  refine ⟨a &&& b, ?_, Nat.and_lt_two_pow _ h3, fun q hq => by rw [Nat.testBit_and, h2 q hq, h4 q hq]⟩
  show bits .and .i64 (f i) (g i) = _
  rw [e1, e2]
  exact (bits_nat .i64 32 (by decide) wraps_i64w a b h1 h3).1
theorem not_right0 (f : Nat → Int) : ¬ Right 0 0 f := fun h => by
  have := h.1
  omega
theorem vec_both (sa : Option Addr) (n cap : Nat) (f : Nat → Cel) (en : Int) (w : World) (hn : n ≤ 60) (hr : CRow w w.heap.size sa n f) (hc : ∀ i, i < n → (f i).c.size ≤ 256) :
    ∃ (b : Int) (m : Nat) (F G : Nat → Int), m ≤ 2 ∧ (Right b m F → Right b m G ∧ (fun i => bits .and .i64 (F i) (G i)) = G) ∧
      (∀ W, Since w W → Calls Tryz.prog 10 #[.slice sa n cap, .int .i64 en] W fun e w' => NewVec W b m F e w') ∧
      (∀ W, Since w W → Calls Tryz.prog 11 #[.slice sa n cap, .int .i64 en] W fun e w' => NewVec W b m G e w') ∧
      (∀ W, Since w W → Calls Tryz.prog 20 #[.slice sa n cap, .int .i64 en] W fun e w' => NewVec W b m F e w') ∧
      (∀ W, Since w W → Calls Tryz.prog 21 #[.slice sa n cap, .int .i64 en] W fun e w' => NewVec W b m G e w') := by
  have hm : n ≤ maxLen := max60 hn
  have hc' : ∀ i, i < n → (f i).c.size ≤ maxLen := fun i hi => max256 (hc i hi)
  by_cases h : ByteP n f en
  · obtain ⟨h1, h2, h3⟩ := h
    obtain ⟨c, rfl⟩ := Int.eq_ofNat_of_zero_le h2
    have hn60 := h1.2.1
    obtain ⟨x, hx⟩ := behind_ex (fun i => hasByte (f i).c c) n (by omega)
    have hx2 : IsBits x (behind (asksB f c false) n) := hx.congr (fun j => by unfold behind asksB; simp)
    obtain ⟨y, hy⟩ := behind_ex (fun i => hasByte (f i).c c && (f i).o) n (by omega)
    have hy2 : IsBits y (behind (asksB f c true) n) := hy.congr (fun j => by unfold behind asksB; simp)
    refine ⟨(n : Int) + 1, (n + 1 + 31) / 32, wordsN x, wordsN y, by omega, fun _ => ⟨right_of_vecIs (by omega) rfl (vecIs_words hy _) (fun j hj => behind_le _ n j hj), ?_⟩,
      fun W hs => implByte_yes sa n cap c _ x f W hm (crow_since hr hs) hc' h1 (by omega) rfl hx,
      fun W hs => implLoop_yes sa n cap c _ y f W hm (crow_since hr hs) hc' h1 (by omega) rfl hy,
      fun W hs => specByte_yes sa n cap c _ x f W hm (crow_since hr hs) hc' h1 (by omega) rfl hx2,
      fun W hs => specLoop_yes sa n cap c _ y f W hm (crow_since hr hs) hc' h1 (by omega) rfl hy2⟩
    funext i
    have e := vecIs_and (vecIs_words hx (i + 1)) (vecIs_words hy (i + 1))
    exact VecIs.uniq (e.congr (fun j => by rw [behind_and]; unfold behind; simp)) (vecIs_words hy (i + 1)) i (by omega)
  · exact ⟨0, 0, fun _ => 0, fun _ => 0, by omega, fun h9 => absurd h9 (not_right0 _), fun W hs => implByte_no sa n cap en f W hm (crow_since hr hs) hc' h, fun W hs => implLoop_no sa n cap en f W hm (crow_since hr hs) hc' h, fun W hs => specByte_no sa n cap en f W hm (crow_since hr hs) hc' h, fun W hs => specLoop_no sa n cap en f W hm (crow_since hr hs) hc' h⟩
/-- The cells of a right pattern fit just what it means. -/
theorem fits_same {n k : Nat} {f : Nat → Atm} {g : Nat → Cel} {t : ByteArray} (hP : PatRight n f) (hk : k = (cellsP (atomsL f n)).length) (hg : g = fun i => (cellsP (atomsL f n)).getD i cel0) (hok : CellsOk k g) : FitK k g t ↔ FitsP n f t := by
  subst hk
  subst hg
  have hr : ∀ a ∈ atomsL f n, AtomRight a := fun a ha => by obtain ⟨j, hj, rfl⟩ := atomsL_mem ha; exact hP.2.2.1 j hj
  have h := run_cuts (t := t) hr (Nat.le_refl _)
  exact ⟨fun ⟨h1, _, h3⟩ => ⟨h1, hP, h.1 h3⟩, fun ⟨h1, _, h3⟩ => ⟨h1, hok, h.2 h3⟩⟩
/-- The cells of a right pattern are right. -/
theorem cells_right {n k : Nat} {f : Nat → Atm} {g : Nat → Cel} (hP : PatRight n f) (hk : k = (cellsP (atomsL f n)).length) (hg : g = fun i => (cellsP (atomsL f n)).getD i cel0) : CellsOk k g := by
  have h40 := pat_len hP
  have hs := sum_len n hP.2.2.1
  have h1 := sumTo_mono (k := 1) (n := n) hP.1 hP.2.2.1
  have h2 := (counted_bd (hP.2.2.1 0 hP.1)).1
  have h3 : sumTo (fun i => counted (f i)) 1 = 0 + counted (f 0) := rfl
  subst hk
  subst hg
  refine ⟨by omega, by omega, fun i hi => ?_⟩
  have hz : (cellsP (atomsL f n)).getD i cel0 ∈ cellsP (atomsL f n) := getD_mem hi
  show CellOk ((cellsP (atomsL f n)).getD i cel0)
  generalize (cellsP (atomsL f n)).getD i cel0 = z at hz ⊢
  obtain ⟨a, ha, hc2⟩ := List.mem_flatMap.1 hz
  obtain ⟨j, hj, rfl⟩ := atomsL_mem ha
  unfold cellsA at hc2
  obtain ⟨r, _, rfl⟩ := List.mem_map.1 hc2
  exact ⟨(hP.2.2.1 j hj).1, (hP.2.2.1 j hj).2.1⟩
end Go.Proofs.YthnnenbpbkmbhaaGreat
