/- What is said here: along plain cells the turned walk, the walk and what is looked at from behind tell the same ends: plain mathematics.
   What is proved here: the specification's l02Not hands back the words turned, in new memory; nothing that was there turns.
   What is said here: the words of all bits turned, as plain mathematics. -/
import Derived.Test.YtfeolbgenpknfaaGreatQStartMToTurnSeqM
import Derived.Test.YtfeolbgenpknfaaGreatQAtomSToSpecBackW
import Derived.Test.YtfeolbgenpknfaaGreatQClassMToCellD
import Derived.Test.YtfeolbgenpknfaaGreatQSpecStartWToVecAddW
import Derived.Test.YtfeolbgenpknfaaGreatQStepVMToMaskD
namespace Go.Proofs.YtfeolbgenpknfaaGreat
open Go.RowKit

open Classical in
/-- The cells end here. -/
noncomputable def fullB (f : Nat → Cel) (n : Nat) (t : ByteArray) (e : Nat) : Bool := decide (n ≤ e ∧ e ≤ t.size ∧ ∀ i, i < n → takesB t (f i).c (e - n + i) = true)
theorem fullB_iff {f : Nat → Cel} {n : Nat} {t : ByteArray} {e : Nat} : fullB f n t e = true ↔ n ≤ e ∧ e ≤ t.size ∧ ∀ i, i < n → takesB t (f i).c (e - n + i) = true := decide_eq_true_iff
theorem takes_byteT {t c : ByteArray} {s : Nat} (h : s < t.size) : takesB t c s = hasByte c (byteT t s) := by unfold takesB byteT; rw [dif_pos h, dif_pos h]
theorem byteT_N (t : ByteArray) (k : Nat) : byteN t k = byteT t k := rfl
theorem turnS_iff {f : Nat → Cel} {n : Nat} {t : ByteArray} : ∀ k j, j < n → (turnS f n t k j = false ↔ j + 1 ≤ k ∧ ∀ i, i ≤ j → hasByte (f i).c (byteT t (k - 1 - j + i)) = true)
  | 0, j, hj => by
    show allB n j = false ↔ _
    unfold allB
    rw [decide_eq_true hj]
    exact ⟨fun h => (by cases h), fun h => by have := h.1; omega⟩
  | k + 1, j, hj => by
    show turnB f n (turnS f n t k) (byteT t k) j = false ↔ _
    unfold turnB lackB
    rw [decide_eq_true hj]
    cases j with
    | zero =>
      simp
    | succ j =>
      have ih := turnS_iff (f := f) (n := n) (t := t) k j (by omega)
      rw [decide_eq_true (show 1 ≤ j + 1 ∧ j + 1 < n by omega)]
      simp only [Bool.true_and, Bool.or_eq_false_iff, Nat.add_sub_cancel, Bool.not_eq_false']
      rw [ih]
      constructor
      · rintro ⟨⟨h1, h2⟩, h3⟩
        refine ⟨by omega, fun i hi => ?_⟩
        by_cases e : i = j + 1
        · subst e
          rw [show k - (j + 1) + (j + 1) = k by omega]
          exact h3
        · have := h2 i (by omega)
          rw [show k - 1 - j + i = k - (j + 1) + i by omega] at this
          exact this
      · rintro ⟨h1, h2⟩
        refine ⟨⟨by omega, fun i hi => ?_⟩, ?_⟩
        · have := h2 i (by omega)
          rw [show k - 1 - j + i = k - (j + 1) + i by omega]
          exact this
        · have := h2 (j + 1) (Nat.le_refl _)
          rw [show k - (j + 1) + (j + 1) = k by omega] at this
          exact this
theorem hitT_full {f : Nat → Cel} {n : Nat} {t : ByteArray} (hn : 1 ≤ n) {e : Nat} (he : e ≤ t.size) : hitT f n t e = fullB f n t e := by
  rw [Bool.eq_iff_iff, fullB_iff]
  cases e with
  | zero =>
    show (false = true) ↔ _
    exact ⟨fun h => (by cases h), fun h => by have := h.1; omega⟩
  | succ k =>
    show (!turnS f n t (k + 1) (n - 1)) = true ↔ _
    rw [Bool.not_eq_true', turnS_iff (k + 1) (n - 1) (by omega)]
    constructor
    · rintro ⟨h1, h2⟩
      refine ⟨by omega, he, fun i hi => ?_⟩
      rw [takes_byteT (by omega)]
      have := h2 i (by omega)
      rw [show k + 1 - 1 - (n - 1) + i = k + 1 - n + i by omega] at this
      exact this
    · rintro ⟨h1, _, h2⟩
      refine ⟨by omega, fun i hi => ?_⟩
      have := h2 i (by omega)
      rw [takes_byteT (by omega)] at this
      rw [show k + 1 - 1 - (n - 1) + i = k + 1 - n + i by omega]
      exact this
theorem behind_noT {P : Nat → Bool} {n : Nat} (h : ∀ i, i < n → P i = false) : ∀ j, behind P n j = false := fun j => by
  unfold behind
  by_cases e : 1 ≤ j ∧ j ≤ n
  · rw [h (j - 1) (by omega), Bool.and_false]
  · rw [decide_eq_false e, Bool.false_and]
theorem clo_no {S P : Nat → Bool} (h : ∀ j, S j = false) : ∀ j, cloB S P j = P j
  | 0 => rfl
  | j + 1 => by unfold cloB; rw [h, Bool.false_and, Bool.or_false]
theorem step_plain {f : Nat → Cel} {n : Nat} {A : Nat → Bool} {c : Nat} (hP : PlainP n f) (j : Nat) : stepB f n A c j = (decide (1 ≤ j ∧ j ≤ n) && hasByte (f (j - 1)).c c && A (j - 1)) := by
  unfold stepB
  rw [clo_no (by intro j; unfold skipB; exact behind_noT (fun i hi => (hP.2 i hi).1) j)]
  unfold passB
  rw [behind_noT (P := fun i => (f i).o) (fun i hi => (hP.2 i hi).2) j, Bool.and_false, Bool.or_false]
  rfl
theorem walkS_iff {f : Nat → Cel} {n : Nat} {t : ByteArray} (hP : PlainP n f) : ∀ k j, j ≤ n → (walkS f n t k j = true ↔ j ≤ k ∧ ∀ i, i < j → hasByte (f i).c (byteT t (k - j + i)) = true)
  | 0, j, hj => by
    show startB f n j = true ↔ _
    unfold startB
    rw [clo_no (by intro j; unfold skipB; exact behind_noT (fun i hi => (hP.2 i hi).1) j), decide_eq_true_iff]
    exact ⟨fun h => ⟨by omega, fun i hi => by omega⟩, fun h => by have := h.1; omega⟩
  | k + 1, j, hj => by
    show (stepB f n (walkS f n t k) (byteN t k) j || startB f n j) = true ↔ _
    unfold startB
    rw [clo_no (by intro j; unfold skipB; exact behind_noT (fun i hi => (hP.2 i hi).1) j), step_plain hP, byteT_N]
    cases j with
    | zero => simp
    | succ j =>
      have ih := walkS_iff (t := t) hP k j (by omega)
      rw [decide_eq_true (show 1 ≤ j + 1 ∧ j + 1 ≤ n by omega), decide_eq_false (show ¬ 0 = j + 1 by omega)]
      simp only [Bool.true_and, Bool.or_false, Bool.and_eq_true, Nat.add_sub_cancel]
      rw [ih]
      constructor
      · rintro ⟨h3, h1, h2⟩
        refine ⟨by omega, fun i hi => ?_⟩
        by_cases e : i = j
        · subst e
          rw [show k + 1 - (i + 1) + i = k by omega]
          exact h3
        · have := h2 i (by omega)
          rw [show k + 1 - (j + 1) + i = k - j + i by omega]
          exact this
      · rintro ⟨h1, h2⟩
        refine ⟨?_, by omega, fun i hi => ?_⟩
        · have := h2 j (by omega)
          rw [show k + 1 - (j + 1) + j = k by omega] at this
          exact this
        · have := h2 i (by omega)
          rw [show k + 1 - (j + 1) + i = k - j + i by omega] at this
          exact this
theorem hitP_full {f : Nat → Cel} {n : Nat} {t : ByteArray} (hP : PlainP n f) {e : Nat} (he : e ≤ t.size) : hitP f n t e = fullB f n t e := by
  have hn := hP.1.1
  rw [Bool.eq_iff_iff, fullB_iff]
  cases e with
  | zero =>
    show (false = true) ↔ _
    exact ⟨fun h => (by cases h), fun h => by have := h.1; omega⟩
  | succ k =>
    show stepB f n (walkS f n t k) (byteN t k) n = true ↔ _
    rw [step_plain hP, decide_eq_true (show 1 ≤ n ∧ n ≤ n by omega), Bool.true_and, Bool.and_eq_true, walkS_iff hP k (n - 1) (by omega), byteT_N]
    constructor
    · rintro ⟨h3, h1, h2⟩
      refine ⟨by omega, he, fun i hi => ?_⟩
      rw [takes_byteT (by omega)]
      by_cases e : i = n - 1
      · subst e
        rw [show k + 1 - n + (n - 1) = k by omega]
        exact h3
      · have := h2 i (by omega)
        rw [show k + 1 - n + i = k - (n - 1) + i by omega]
        exact this
    · rintro ⟨h1, _, h2⟩
      refine ⟨?_, by omega, fun i hi => ?_⟩
      · have := h2 (n - 1) (by omega)
        rw [takes_byteT (by omega), show k + 1 - n + (n - 1) = k by omega] at this
        exact this
      · have := h2 i (by omega)
        rw [takes_byteT (by omega), show k + 1 - n + i = k - (n - 1) + i by omega] at this
        exact this
theorem turn_run {f : Nat → Cel} {n : Nat} {t : ByteArray} (hP : PlainP n f) : turnL f n t = runL f n t :=
  classL_congr (fun e he => by rw [hitT_full hP.1.1 (by omega), hitP_full hP (by omega)])
/-- Between two windows nothing ends. -/
theorem full_between {n : Nat} {f : Nat → Cel} {t : ByteArray} {hn : n ≤ 60} {j e : Nat} (h : posW n f t hn j + n ≤ t.size) (h1 : posW n f t hn j + n < e) (h2 : e < posW n f t hn (j + 1) + n) : fullB f n t e = false := by
  rw [← Bool.not_eq_true, fullB_iff]
  rintro ⟨_, _, h3⟩
  obtain ⟨a, ha⟩ : ∃ a, posW n f t hn j = a := ⟨_, rfl⟩
  have hs : posW n f t hn (j + 1) = a + (n - bdN n f (pieceT n t a) hn) := by show posW n f t hn j + (n - bdN n f (pieceT n t (posW n f t hn j)) hn) = _; rw [ha]
  rw [hs] at h2
  rw [ha] at h h1
  have hl := (lookN f (pieceT n t a) hn).bd
  have hz := piece_size h
  have hb : bdN n f (pieceT n t a) hn ≤ n := by
    rcases hl.1 with h9 | h9
    · omega
    · have := h9.1; omega
  refine hl.2 (n - (e - n - a)) (by omega) (by omega) ⟨by omega, by omega, fun i hi => ?_⟩
  rw [hz]
  unfold pieceT
  rw [takes_cutB (by omega) h (by omega)]
  have := h3 i (by omega)
  rw [Nat.zero_add, show a + (n - (n - (e - n - a)) + i) = e - n + i by omega]
  exact this
theorem full_at {n : Nat} {f : Nat → Cel} {t : ByteArray} {hn : n ≤ 60} {j : Nat} (h : posW n f t hn j + n ≤ t.size) : fullB f n t (posW n f t hn j + n) = (winW n f t hn j).2 := by
  rw [Bool.eq_iff_iff, fullB_iff, whole_iff h]
  have hz := piece_size h
  unfold pieceT at hz
  constructor
  · rintro ⟨_, _, h3⟩
    refine ⟨by omega, fun i hi => ?_⟩
    rw [takes_cutB (by omega) h (by omega), Nat.zero_add]
    have := h3 i (by omega)
    rw [Nat.add_sub_cancel] at this
    exact this
  · intro h3
    refine ⟨by omega, h, fun i hi => ?_⟩
    have := h3.2 i (by omega)
    rw [takes_cutB (by omega) h (by omega), Nat.zero_add] at this
    rw [Nat.add_sub_cancel]
    exact this
theorem ends_full {n : Nat} {f : Nat → Cel} {t : ByteArray} {hn : n ≤ 60} (h1 : 1 ≤ n) : ∀ j, (∀ i, i < j → posW n f t hn i + n ≤ t.size) → endsW n (uptoW n f t hn j) = classL (fullB f n t) (posW n f t hn j + n)
  | 0, _ => by
    rw [classL_none (f := fullB f n t) (a := 0) (posW n f t hn 0 + n) (Nat.zero_le _) (fun i _ hi => by
      rw [← Bool.not_eq_true, fullB_iff]
      have h0 : posW n f t hn 0 = 0 := rfl
      rintro ⟨h9, _⟩
      omega)]
    rfl
  | j + 1, h => by
    have ih := ends_full h1 j (fun i hi => h i (by omega))
    have hj := h j (Nat.lt_succ_self _)
    have hlt := bdN_lt f (pieceT n t (posW n f t hn j)) hn h1
    have hle : posW n f t hn j + n + 1 ≤ posW n f t hn (j + 1) + n := by
      show _ ≤ posW n f t hn j + (n - bdN n f (pieceT n t (posW n f t hn j)) hn) + n
      omega
    rw [endsW_take, ih, classL_none (a := posW n f t hn j + n + 1) _ hle (fun i hi1 hi2 => full_between hj (by omega) hi2)]
    have hf := full_at hj
    by_cases hw : (winW n f t hn j).2 = true
    · rw [if_pos hw, classL_yes (by rw [hf]; exact hw)]
    · rw [if_neg hw, List.append_nil, classL_no (by rw [hf]; simpa using hw)]
theorem ends_run {n : Nat} {f : Nat → Cel} {t : ByteArray} {hn : n ≤ 60} {k : Nat} (hP : PlainP n f) (hk : LastW n f t hn k) : endsW n (uptoW n f t hn k) = runL f n t := by
  rw [ends_full hP.1.1 k hk.1]
  have hl := hk.2
  rw [classL_none (f := fullB f n t) (a := t.size + 1) _ (by omega) (fun i hi _ => by
    rw [← Bool.not_eq_true, fullB_iff]
    rintro ⟨_, h9, _⟩
    omega)]
  exact (classL_congr (fun e he => hitP_full hP (by omega))).symm
end Go.Proofs.YtfeolbgenpknfaaGreat
namespace Go.Proofs.YtfeolbgenpknfaaGreat
open Go.RowKit


set_option maxRecDepth 100000 in
set_option maxHeartbeats 4000000 in
theorem not_any (b : Int) (sa : Option Addr) (n ka : Nat) (f : Nat → Int) (w : World) (hbb : 1 ≤ b) (hbc : b ≤ 320) (hf : ∀ i, i < n → 0 ≤ f i ∧ f i ≤ 4294967295) (hn0 : 0 < n) (hn : n ≤ 1048576) (ha : Row w w.heap.size sa n f) :
    Calls Tryz.prog 71 #[.agg #[.int .i64 b, .slice sa n ka]] w fun e w' => NewVec w b n (cutF b n (notF f)) e w' := by
  obtain ⟨b1, o1, rfl, hb1, hc1⟩ : ∃ bb off : Nat, sa = some ⟨bb, off, none⟩ ∧ bb < w.heap.size ∧ ∀ i, i < n → w.cell? ⟨bb, off + i, none⟩ = some (.int .i64 (f i)) := by
    rcases ha with h | h
    · omega
    · exact h
  have HA : Hid (Row w w.heap.size (some ⟨b1, o1, none⟩) n f) := ha
  have HC1 : Hid (∀ i, i < n → w.cell? ⟨b1, o1 + i, none⟩ = some (.int .i64 (f i))) := hc1
  have HF : Hid (∀ i, i < n → 0 ≤ f i ∧ f i ≤ 4294967295) := hf
  clear ha hc1 hf
  go_enter Tryz.func71, Tryz.ntmps71
  go_wp2_with fail
  have q1 := boxing w 29 b (some ⟨b1, o1, none⟩) n ka
  generalize w.alloc (.cells #[.int .i64 b, .slice (some ⟨b1, o1, none⟩) n ka] 29) = v1 at *
  have q3 := boxing v1 29 0 none 0 0
  generalize v1.alloc (.cells #[.int .i64 0, .slice none 0 0] 29) = v3 at *
  have X1 : Hid (Boxed v3 w.heap.size 29 b (some ⟨b1, o1, none⟩) n ka) := q1.2.1.kept q3.1 rfl
  have X3 : Hid (Boxed v3 (w.heap.size + 1) 29 0 none 0 0) := by rw [← q1.2.2]; exact q3.2.1
  have S3 : Hid (Since w v3) := since_call (since_call (since_refl _) q1.1) q3.1
  have z3 : v3.heap.size = w.heap.size + 2 := by rw [q3.2.2, q1.2.2]
  clear q1 q3
  refine (copy_any b _ n ka f v3 hn0 hn (row_since HA.out S3.out)).mono ?_
  rintro e w4 ⟨s4, c4, rfl, hb4, ho4⟩
  obtain ⟨g4, rfl, hg1, ho⟩ : ∃ g, s4 = some ⟨g, 0, none⟩ ∧ v3.heap.size ≤ g ∧ Own w4 g n f := by
    rcases ho4 with h | h
    · omega
    · exact h
  have hg2 := ho.1
  have O4 : Hid (Own w4 g4 n f) := ho
  have Y1 : Hid (Boxed w4 w.heap.size 29 b (some ⟨b1, o1, none⟩) n ka) := X1.out.kept hb4 rfl
  have Y3 : Hid (Boxed w4 (w.heap.size + 1) 29 0 none 0 0) := X3.out.kept hb4 rfl
  have S4 : Hid (Since w w4) := since_call S3.out hb4
  unfold vecV
  clear hb4 ho4 ho X1 X3 S3
  go_wp2
  have q5 := boxing w4 29 b (some ⟨g4, 0, none⟩) n c4
  generalize w4.alloc (.cells #[.int .i64 b, .slice (some ⟨g4, 0, none⟩) n c4] 29) = v5 at *
  obtain ⟨p5, hp5⟩ : ∃ p, p = w4.heap.size := ⟨_, rfl⟩
  rw [← hp5]
  have Y5 : Hid (Boxed v5 p5 29 b (some ⟨g4, 0, none⟩) n c4) := by rw [hp5]; exact q5.2.1
  have V1 : Hid (Boxed v5 w.heap.size 29 b (some ⟨b1, o1, none⟩) n ka) := Y1.out.kept q5.1 rfl
  have V3 : Hid (Boxed v5 (w.heap.size + 1) 29 0 none 0 0) := Y3.out.kept q5.1 rfl
  have S5 : Hid (Since w v5) := since_call S4.out q5.1
  have O5 : Hid (Own v5 g4 n f) := O4.out.kept q5.1 hg2
  have hgp : g4 < p5 := by omega
  clear q5 Y1 Y3 S4 O4 hg2 hp5
  go_loopw [4] (fun i wr => ∃ k : Nat, k ≤ n ∧ i = .int .i64 (k : Int) ∧ Since w wr ∧ Boxed wr w.heap.size 29 b (some ⟨b1, o1, none⟩) n ka ∧ Boxed wr (w.heap.size + 1) 29 0 none 0 0 ∧ Boxed wr p5 29 b (some ⟨g4, 0, none⟩) n c4 ∧ Own wr g4 n (fun i => if i < k then notF f i else f i)) (fun i _ => n - (intOf i).toNat)
  case atStart => exact ⟨0, Nat.zero_le _, rfl, S5.out, V1.out, V3.out, Y5.out, O5.out.congr (fun i _ => by simp)⟩
  case round =>
    obtain ⟨k, hk, rfl, hS, hx1, hx3, hx5, hown⟩ := hrel
    have HS : Hid (Since w wr) := hS
    have H1 : Hid (Boxed wr w.heap.size 29 b (some ⟨b1, o1, none⟩) n ka) := hx1
    have H3 : Hid (Boxed wr (w.heap.size + 1) 29 0 none 0 0) := hx3
    have H5 : Hid (Boxed wr p5 29 b (some ⟨g4, 0, none⟩) n c4) := hx5
    have HW : Hid (Own wr g4 n (fun i => if i < k then notF f i else f i)) := hown
    obtain ⟨ca0, ca1⟩ := hx1.cells
    obtain ⟨cc0, cc1, cc2, cc3⟩ := hx3.four
    obtain ⟨cd0, cd1⟩ := hx5.cells
    by_cases hkl : k < n
    · have cz : wr.cell? ⟨b1, o1 + k, none⟩ = some (.int .i64 (f k)) := by rw [hS.below.cell (p := ⟨b1, o1 + k, none⟩) hb1]; exact HC1.out k hkl
      have cw := hown.2.1 k hkl
      have cf := hown.2.2 k hkl
      have hsz := hown.1
      have r1 := HF.out k hkl
      clear hS hx1 hx3 hx5 hown
      have hki : (k : Int) < (n : Int) := by omega
      have hk0 : (0 : Int) ≤ (k : Int) := by omega
      go_wp2
      go_region
      all_goals
        go_wp2
        go_roundw
        case rel => exact ⟨k + 1, by omega, by go_num, since_drew (since_set HS.out (by show w.heap.size ≤ g4; omega)), (H1.out.setOther _ _ (by show g4 ≠ w.heap.size; omega)).drew, (H3.out.setOther _ _ (by show g4 ≠ w.heap.size + 1; omega)).drew, (H5.out.setOther _ _ (by show g4 ≠ p5; omega)).drew, ((HW.out.set hkl (4294967295 - f k)).congr (fun i hi => by
          by_cases e : i = k
          · subst e
            simp [notF]
          · simp only [if_neg e]
            by_cases e2 : i < k
            · rw [if_pos e2, if_pos (by omega)]
            · rw [if_neg e2, if_neg (by omega)])).drew⟩
        case measure => simp [intOf]; omega
    · have hki : ¬ (k : Int) < (n : Int) := by omega
      clear hS hx1 hx3 hx5 hown
      go_wp2_with fail
      refine (cut_any b g4 n c4 (notF f) wr hbb hbc hn0 hn (HW.out.congr (fun i hi => if_pos (by omega))) (fun i hi => by unfold notF; have := HF.out i hi; omega)).mono ?_
      rintro e w6 ⟨rfl, hgr, ho6⟩
      have Z3 : Hid (Boxed w6 (w.heap.size + 1) 29 0 none 0 0) := by
        show Boxed w6 (w.heap.size + 1) 29 0 none 0 0
        unfold Boxed
        rw [hgr.block _ H3.out.lt (fun e => by injection e with e; omega)]
        exact H3.out
      have hin : OnlyIn wr w6 g4 (g4 + 1) := ⟨some g4, hgr, fun g' e => by injection e with e; omega⟩
      have S6 : Hid (Since w w6) := ⟨HS.out.below.trans (hin.below (by omega) HS.out.size)⟩
      have O6 : Hid (Own w6 g4 n (cutF b n (notF f))) := ho6
      unfold vecV
      clear ca0 ca1 cc0 cc1 cc2 cc3 cd0 cd1 hgr ho6 hin
      obtain ⟨cc0, cc1, cc2, cc3⟩ := Z3.out.four
      go_wp2
      refine bodyPost_ret (v := vecV b (some ⟨g4, 0, none⟩) n c4) (by simp [results, Tryz.results71, go_sem, vecV, cc0, cc1]) rfl ?_
      exact ⟨_, _, rfl, (since_set (since_set S6.out (by show w.heap.size ≤ w.heap.size + 1; omega)) (by show w.heap.size ≤ w.heap.size + 1; omega)).below, Or.inr ⟨g4, rfl, by omega, (O6.out.setOther _ _ (by show w.heap.size + 1 ≠ g4; omega)).setOther _ _ (by show w.heap.size + 1 ≠ g4; omega)⟩⟩
end Go.Proofs.YtfeolbgenpknfaaGreat
namespace Go.Proofs.YtfeolbgenpknfaaGreat
open Go.RowKit

theorem VecIs.notC {f : Nat → Int} {P : Nat → Bool} {n m : Nat} (hm : m = (n + 1 + 31) / 32) (h : VecIs f P m) : VecIs (cutF ((n : Int) + 1) m (notF f)) (fun j => decide (j ≤ n) && !P j) m := fun i hi => by
  obtain ⟨a, e1, h1, h2⟩ := h i hi
  have hs : notF f i = ((4294967295 - a : Nat) : Int) := by
    unfold notF
    rw [e1]
    omega
  have hsb : ∀ q, q < 32 → (4294967295 - a).testBit q = !P (32 * i + q) := fun q hq => by
    have hb : (2 ^ 32 - (a + 1)).testBit q = (decide (q < 32) && !a.testBit q) := Nat.testBit_two_pow_sub_succ h1 q
    rw [decide_eq_true hq, Bool.true_and, h2 q hq] at hb
    rw [← hb]
    congr 1
    have : (2 : Nat) ^ 32 = 4294967296 := by decide
    omega
  have hzl : 4294967295 - a < 4294967296 := by omega
  generalize 4294967295 - a = z at *
  unfold cutF
  by_cases hl : i + 1 = m ∧ 0 < ((n : Int) + 1) % 32
  · rw [if_pos hl, hs]
    obtain ⟨r, hr⟩ : ∃ r, (n + 1) % 32 = r := ⟨_, rfl⟩
    have hr2 : (((n : Int) + 1) % 32).toNat = r := by omega
    rw [hr2]
    refine ⟨z % 2 ^ r, by simp, Nat.lt_of_le_of_lt (Nat.mod_le _ _) hzl, fun q hq => ?_⟩
    rw [Nat.testBit_mod_two_pow, hsb q hq]
    show _ = (decide (32 * i + q ≤ n) && !P (32 * i + q))
    congr 1
    simp only [decide_eq_decide]
    omega
  · rw [if_neg hl, hs]
    refine ⟨z, rfl, hzl, fun q hq => ?_⟩
    rw [hsb q hq]
    show _ = (decide (32 * i + q ≤ n) && !P (32 * i + q))
    rw [decide_eq_true (show 32 * i + q ≤ n by omega), Bool.true_and]
end Go.Proofs.YtfeolbgenpknfaaGreat
