/- What is proved here: the specification's bit by bit functions over two right vectors hand back a new vector, word by word (l02And); nothing that was there turns.
   What is proved here: the specification's bit by bit functions over two right vectors hand back a new vector, word by word (l02Or); nothing that was there turns.
   What is proved here: the specification's l02Get says whether a bit of a word is on; nothing that was there turns. -/
import Derived.Test.YtfeolbgenpknfaaGreatQVecCopyWToSpecCloW
import Derived.BigRegion
import Derived.Test.YtfeolbgenpknfaaGreatQSpecKVecWToWordsForW
import Derived.Test.YtfeolbgenpknfaaGreatQGetBWToClassRightW
namespace Go.Proofs.YtfeolbgenpknfaaGreat
open Go.RowKit

set_option maxRecDepth 100000 in
set_option maxHeartbeats 4000000 in
theorem l02And_any (b c : Int) (sa sb : Option Addr) (n ka kb : Nat) (f g : Nat → Int) (w : World) (hn0 : 0 < n) (hn : n ≤ 1048576) (ha : Row w w.heap.size sa n f) (hb : Row w w.heap.size sb n g) :
    Calls Tryz.prog 86 #[.agg #[.int .i64 b, .slice sa n ka], .agg #[.int .i64 c, .slice sb n kb]] w fun e w' => NewVec w b n (fun i => bits .and .i64 (f i) (g i)) e w' := by
  obtain ⟨b1, o1, rfl, hb1, hc1⟩ : ∃ bb off : Nat, sa = some ⟨bb, off, none⟩ ∧ bb < w.heap.size ∧ ∀ i, i < n → w.cell? ⟨bb, off + i, none⟩ = some (.int .i64 (f i)) := by
    rcases ha with h | h
    · omega
    · exact h
  obtain ⟨b2, o2, rfl, hb2, hc2⟩ : ∃ bb off : Nat, sb = some ⟨bb, off, none⟩ ∧ bb < w.heap.size ∧ ∀ i, i < n → w.cell? ⟨bb, off + i, none⟩ = some (.int .i64 (g i)) := by
    rcases hb with h | h
    · omega
    · exact h
  have HA : Hid (Row w w.heap.size (some ⟨b1, o1, none⟩) n f) := ha
  have HC1 : Hid (∀ i, i < n → w.cell? ⟨b1, o1 + i, none⟩ = some (.int .i64 (f i))) := hc1
  have HC2 : Hid (∀ i, i < n → w.cell? ⟨b2, o2 + i, none⟩ = some (.int .i64 (g i))) := hc2
  clear ha hb hc1 hc2
  go_enter Tryz.func86, Tryz.ntmps86
  go_wp2_with fail
  have q1 := boxing w 29 b (some ⟨b1, o1, none⟩) n ka
  generalize w.alloc (.cells #[.int .i64 b, .slice (some ⟨b1, o1, none⟩) n ka] 29) = v1 at *
  have q2 := boxing v1 29 c (some ⟨b2, o2, none⟩) n kb
  generalize v1.alloc (.cells #[.int .i64 c, .slice (some ⟨b2, o2, none⟩) n kb] 29) = v2 at *
  have q3 := boxing v2 29 0 none 0 0
  generalize v2.alloc (.cells #[.int .i64 0, .slice none 0 0] 29) = v3 at *
  have X1 : Hid (Boxed v3 w.heap.size 29 b (some ⟨b1, o1, none⟩) n ka) := (q1.2.1.kept q2.1 rfl).kept q3.1 rfl
  have X2 : Hid (Boxed v3 (w.heap.size + 1) 29 c (some ⟨b2, o2, none⟩) n kb) := by rw [← q1.2.2]; exact q2.2.1.kept q3.1 rfl
  have X3 : Hid (Boxed v3 (w.heap.size + 2) 29 0 none 0 0) := by rw [show w.heap.size + 2 = v2.heap.size by rw [q2.2.2, q1.2.2]]; exact q3.2.1
  have S3 : Hid (Since w v3) := since_call (since_call (since_call (since_refl _) q1.1) q2.1) q3.1
  have z3 : v3.heap.size = w.heap.size + 3 := by rw [q3.2.2, q2.2.2, q1.2.2]
  clear q1 q2 q3
  refine (copy_any b _ n ka f v3 hn0 hn (row_since HA.out S3.out)).mono ?_
  rintro e w4 ⟨s4, c4, rfl, hb4, ho4⟩
  obtain ⟨g4, rfl, hg1, ho⟩ : ∃ g, s4 = some ⟨g, 0, none⟩ ∧ v3.heap.size ≤ g ∧ Own w4 g n f := by
    rcases ho4 with h | h
    · omega
    · exact h
  have hg2 := ho.1
  have O4 : Hid (Own w4 g4 n f) := ho
  have Y1 : Hid (Boxed w4 w.heap.size 29 b (some ⟨b1, o1, none⟩) n ka) := X1.out.kept hb4 rfl
  have Y2 : Hid (Boxed w4 (w.heap.size + 1) 29 c (some ⟨b2, o2, none⟩) n kb) := X2.out.kept hb4 rfl
  have Y3 : Hid (Boxed w4 (w.heap.size + 2) 29 0 none 0 0) := X3.out.kept hb4 rfl
  have S4 : Hid (Since w w4) := since_call S3.out hb4
  unfold vecV
  clear hb4 ho4 ho X1 X2 X3 S3
  go_wp2
  have q5 := boxing w4 29 b (some ⟨g4, 0, none⟩) n c4
  generalize w4.alloc (.cells #[.int .i64 b, .slice (some ⟨g4, 0, none⟩) n c4] 29) = v5 at *
  obtain ⟨p5, hp5⟩ : ∃ p, p = w4.heap.size := ⟨_, rfl⟩
  rw [← hp5]
  have Y5 : Hid (Boxed v5 p5 29 b (some ⟨g4, 0, none⟩) n c4) := by rw [hp5]; exact q5.2.1
  have V1 : Hid (Boxed v5 w.heap.size 29 b (some ⟨b1, o1, none⟩) n ka) := Y1.out.kept q5.1 rfl
  have V2 : Hid (Boxed v5 (w.heap.size + 1) 29 c (some ⟨b2, o2, none⟩) n kb) := Y2.out.kept q5.1 rfl
  have V3 : Hid (Boxed v5 (w.heap.size + 2) 29 0 none 0 0) := Y3.out.kept q5.1 rfl
  have S5 : Hid (Since w v5) := since_call S4.out q5.1
  have O5 : Hid (Own v5 g4 n f) := O4.out.kept q5.1 hg2
  have hgp : g4 < p5 := by omega
  clear q5 Y1 Y2 Y3 S4 O4 hg2 hp5
  go_loopw [6] (fun i wr => ∃ k : Nat, k ≤ n ∧ i = .int .i64 (k : Int) ∧ Since w wr ∧ Boxed wr w.heap.size 29 b (some ⟨b1, o1, none⟩) n ka ∧ Boxed wr (w.heap.size + 1) 29 c (some ⟨b2, o2, none⟩) n kb ∧ Boxed wr (w.heap.size + 2) 29 0 none 0 0 ∧ Boxed wr p5 29 b (some ⟨g4, 0, none⟩) n c4 ∧ Own wr g4 n (fun i => if i < k then bits .and .i64 (f i) (g i) else f i)) (fun i _ => n - (intOf i).toNat)
  case atStart => exact ⟨0, Nat.zero_le _, rfl, S5.out, V1.out, V2.out, V3.out, Y5.out, O5.out.congr (fun i _ => by simp)⟩
  case round =>
    obtain ⟨k, hk, rfl, hS, hx1, hx2, hx3, hx5, hown⟩ := hrel
    have HS : Hid (Since w wr) := hS
    have H1 : Hid (Boxed wr w.heap.size 29 b (some ⟨b1, o1, none⟩) n ka) := hx1
    have H2 : Hid (Boxed wr (w.heap.size + 1) 29 c (some ⟨b2, o2, none⟩) n kb) := hx2
    have H3 : Hid (Boxed wr (w.heap.size + 2) 29 0 none 0 0) := hx3
    have H5 : Hid (Boxed wr p5 29 b (some ⟨g4, 0, none⟩) n c4) := hx5
    have HW : Hid (Own wr g4 n (fun i => if i < k then bits .and .i64 (f i) (g i) else f i)) := hown
    obtain ⟨ca0, ca1⟩ := hx1.cells
    obtain ⟨cb0, cb1⟩ := hx2.cells
    obtain ⟨cc0, cc1, cc2, cc3⟩ := hx3.four
    obtain ⟨cd0, cd1⟩ := hx5.cells
    by_cases hkl : k < n
    · have cz : wr.cell? ⟨b1, o1 + k, none⟩ = some (.int .i64 (f k)) := by rw [hS.below.cell (p := ⟨b1, o1 + k, none⟩) hb1]; exact HC1.out k hkl
      have cy : wr.cell? ⟨b2, o2 + k, none⟩ = some (.int .i64 (g k)) := by rw [hS.below.cell (p := ⟨b2, o2 + k, none⟩) hb2]; exact HC2.out k hkl
      have cw := hown.2.1 k hkl
      have cf := hown.2.2 k hkl
      have hsz := hown.1
      clear hS hx1 hx2 hx3 hx5 hown
      have hki : (k : Int) < (n : Int) := by omega
      have hk0 : (0 : Int) ≤ (k : Int) := by omega
      go_wp2
      go_region
      all_goals
        go_wp2
        go_roundw
        case rel => exact ⟨k + 1, by omega, by go_num, since_drew (since_set HS.out (by show w.heap.size ≤ g4; omega)), (H1.out.setOther _ _ (by show g4 ≠ w.heap.size; omega)).drew, (H2.out.setOther _ _ (by show g4 ≠ w.heap.size + 1; omega)).drew, (H3.out.setOther _ _ (by show g4 ≠ w.heap.size + 2; omega)).drew, (H5.out.setOther _ _ (by show g4 ≠ p5; omega)).drew, ((HW.out.set hkl (bits .and .i64 (f k) (g k))).congr (fun i hi => by
          by_cases e : i = k
          · subst e; simp
          · simp only [if_neg e]
            by_cases e2 : i < k
            · rw [if_pos e2, if_pos (by omega)]
            · rw [if_neg e2, if_neg (by omega)])).drew⟩
        case measure => simp [intOf]; omega
    · have hki : ¬ (k : Int) < (n : Int) := by omega
      have lb := hx3.lt
      clear hS hx1 hx2 hx3 hx5 hown
      go_wp2
      refine bodyPost_ret (v := vecV b (some ⟨g4, 0, none⟩) n c4) (by simp [results, Tryz.results86, go_sem, vecV, cc0, cc1]) rfl ?_
      exact ⟨_, _, rfl, (since_set (since_set HS.out (by show w.heap.size ≤ w.heap.size + 2; omega)) (by show w.heap.size ≤ w.heap.size + 2; omega)).below, Or.inr ⟨g4, rfl, by omega, ((HW.out.congr (fun i hi => if_pos (by omega))).setOther _ _ (by show w.heap.size + 2 ≠ g4; omega)).setOther _ _ (by show w.heap.size + 2 ≠ g4; omega)⟩⟩
end Go.Proofs.YtfeolbgenpknfaaGreat
namespace Go.Proofs.YtfeolbgenpknfaaGreat
open Go.RowKit

set_option maxRecDepth 100000 in
set_option maxHeartbeats 4000000 in
theorem l02Or_any (b c : Int) (sa sb : Option Addr) (n ka kb : Nat) (f g : Nat → Int) (w : World) (hn0 : 0 < n) (hn : n ≤ 1048576) (ha : Row w w.heap.size sa n f) (hb : Row w w.heap.size sb n g) :
    Calls Tryz.prog 73 #[.agg #[.int .i64 b, .slice sa n ka], .agg #[.int .i64 c, .slice sb n kb]] w fun e w' => NewVec w b n (fun i => bits .or .i64 (f i) (g i)) e w' := by
  obtain ⟨b1, o1, rfl, hb1, hc1⟩ : ∃ bb off : Nat, sa = some ⟨bb, off, none⟩ ∧ bb < w.heap.size ∧ ∀ i, i < n → w.cell? ⟨bb, off + i, none⟩ = some (.int .i64 (f i)) := by
    rcases ha with h | h
    · omega
    · exact h
  obtain ⟨b2, o2, rfl, hb2, hc2⟩ : ∃ bb off : Nat, sb = some ⟨bb, off, none⟩ ∧ bb < w.heap.size ∧ ∀ i, i < n → w.cell? ⟨bb, off + i, none⟩ = some (.int .i64 (g i)) := by
    rcases hb with h | h
    · omega
    · exact h
  have HA : Hid (Row w w.heap.size (some ⟨b1, o1, none⟩) n f) := ha
  have HC1 : Hid (∀ i, i < n → w.cell? ⟨b1, o1 + i, none⟩ = some (.int .i64 (f i))) := hc1
  have HC2 : Hid (∀ i, i < n → w.cell? ⟨b2, o2 + i, none⟩ = some (.int .i64 (g i))) := hc2
  clear ha hb hc1 hc2
  go_enter Tryz.func73, Tryz.ntmps73
  go_wp2_with fail
  have q1 := boxing w 29 b (some ⟨b1, o1, none⟩) n ka
  generalize w.alloc (.cells #[.int .i64 b, .slice (some ⟨b1, o1, none⟩) n ka] 29) = v1 at *
  have q2 := boxing v1 29 c (some ⟨b2, o2, none⟩) n kb
  generalize v1.alloc (.cells #[.int .i64 c, .slice (some ⟨b2, o2, none⟩) n kb] 29) = v2 at *
  have q3 := boxing v2 29 0 none 0 0
  generalize v2.alloc (.cells #[.int .i64 0, .slice none 0 0] 29) = v3 at *
  have X1 : Hid (Boxed v3 w.heap.size 29 b (some ⟨b1, o1, none⟩) n ka) := (q1.2.1.kept q2.1 rfl).kept q3.1 rfl
  have X2 : Hid (Boxed v3 (w.heap.size + 1) 29 c (some ⟨b2, o2, none⟩) n kb) := by rw [← q1.2.2]; exact q2.2.1.kept q3.1 rfl
  have X3 : Hid (Boxed v3 (w.heap.size + 2) 29 0 none 0 0) := by rw [show w.heap.size + 2 = v2.heap.size by rw [q2.2.2, q1.2.2]]; exact q3.2.1
  have S3 : Hid (Since w v3) := since_call (since_call (since_call (since_refl _) q1.1) q2.1) q3.1
  have z3 : v3.heap.size = w.heap.size + 3 := by rw [q3.2.2, q2.2.2, q1.2.2]
  clear q1 q2 q3
  refine (copy_any b _ n ka f v3 hn0 hn (row_since HA.out S3.out)).mono ?_
  rintro e w4 ⟨s4, c4, rfl, hb4, ho4⟩
  obtain ⟨g4, rfl, hg1, ho⟩ : ∃ g, s4 = some ⟨g, 0, none⟩ ∧ v3.heap.size ≤ g ∧ Own w4 g n f := by
    rcases ho4 with h | h
    · omega
    · exact h
  have hg2 := ho.1
  have O4 : Hid (Own w4 g4 n f) := ho
  have Y1 : Hid (Boxed w4 w.heap.size 29 b (some ⟨b1, o1, none⟩) n ka) := X1.out.kept hb4 rfl
  have Y2 : Hid (Boxed w4 (w.heap.size + 1) 29 c (some ⟨b2, o2, none⟩) n kb) := X2.out.kept hb4 rfl
  have Y3 : Hid (Boxed w4 (w.heap.size + 2) 29 0 none 0 0) := X3.out.kept hb4 rfl
  have S4 : Hid (Since w w4) := since_call S3.out hb4
  unfold vecV
  clear hb4 ho4 ho X1 X2 X3 S3
  go_wp2
  have q5 := boxing w4 29 b (some ⟨g4, 0, none⟩) n c4
  generalize w4.alloc (.cells #[.int .i64 b, .slice (some ⟨g4, 0, none⟩) n c4] 29) = v5 at *
  obtain ⟨p5, hp5⟩ : ∃ p, p = w4.heap.size := ⟨_, rfl⟩
  rw [← hp5]
  have Y5 : Hid (Boxed v5 p5 29 b (some ⟨g4, 0, none⟩) n c4) := by rw [hp5]; exact q5.2.1
  have V1 : Hid (Boxed v5 w.heap.size 29 b (some ⟨b1, o1, none⟩) n ka) := Y1.out.kept q5.1 rfl
  have V2 : Hid (Boxed v5 (w.heap.size + 1) 29 c (some ⟨b2, o2, none⟩) n kb) := Y2.out.kept q5.1 rfl
  have V3 : Hid (Boxed v5 (w.heap.size + 2) 29 0 none 0 0) := Y3.out.kept q5.1 rfl
  have S5 : Hid (Since w v5) := since_call S4.out q5.1
  have O5 : Hid (Own v5 g4 n f) := O4.out.kept q5.1 hg2
  have hgp : g4 < p5 := by omega
  clear q5 Y1 Y2 Y3 S4 O4 hg2 hp5
  go_loopw [6] (fun i wr => ∃ k : Nat, k ≤ n ∧ i = .int .i64 (k : Int) ∧ Since w wr ∧ Boxed wr w.heap.size 29 b (some ⟨b1, o1, none⟩) n ka ∧ Boxed wr (w.heap.size + 1) 29 c (some ⟨b2, o2, none⟩) n kb ∧ Boxed wr (w.heap.size + 2) 29 0 none 0 0 ∧ Boxed wr p5 29 b (some ⟨g4, 0, none⟩) n c4 ∧ Own wr g4 n (fun i => if i < k then bits .or .i64 (f i) (g i) else f i)) (fun i _ => n - (intOf i).toNat)
  case atStart => exact ⟨0, Nat.zero_le _, rfl, S5.out, V1.out, V2.out, V3.out, Y5.out, O5.out.congr (fun i _ => by simp)⟩
  case round =>
    obtain ⟨k, hk, rfl, hS, hx1, hx2, hx3, hx5, hown⟩ := hrel
    have HS : Hid (Since w wr) := hS
    have H1 : Hid (Boxed wr w.heap.size 29 b (some ⟨b1, o1, none⟩) n ka) := hx1
    have H2 : Hid (Boxed wr (w.heap.size + 1) 29 c (some ⟨b2, o2, none⟩) n kb) := hx2
    have H3 : Hid (Boxed wr (w.heap.size + 2) 29 0 none 0 0) := hx3
    have H5 : Hid (Boxed wr p5 29 b (some ⟨g4, 0, none⟩) n c4) := hx5
    have HW : Hid (Own wr g4 n (fun i => if i < k then bits .or .i64 (f i) (g i) else f i)) := hown
    obtain ⟨ca0, ca1⟩ := hx1.cells
    obtain ⟨cb0, cb1⟩ := hx2.cells
    obtain ⟨cc0, cc1, cc2, cc3⟩ := hx3.four
    obtain ⟨cd0, cd1⟩ := hx5.cells
    by_cases hkl : k < n
    · have cz : wr.cell? ⟨b1, o1 + k, none⟩ = some (.int .i64 (f k)) := by rw [hS.below.cell (p := ⟨b1, o1 + k, none⟩) hb1]; exact HC1.out k hkl
      have cy : wr.cell? ⟨b2, o2 + k, none⟩ = some (.int .i64 (g k)) := by rw [hS.below.cell (p := ⟨b2, o2 + k, none⟩) hb2]; exact HC2.out k hkl
      have cw := hown.2.1 k hkl
      have cf := hown.2.2 k hkl
      have hsz := hown.1
      clear hS hx1 hx2 hx3 hx5 hown
      have hki : (k : Int) < (n : Int) := by omega
      have hk0 : (0 : Int) ≤ (k : Int) := by omega
      go_wp2
      go_region
      all_goals
        go_wp2
        go_roundw
        case rel => exact ⟨k + 1, by omega, by go_num, since_drew (since_set HS.out (by show w.heap.size ≤ g4; omega)), (H1.out.setOther _ _ (by show g4 ≠ w.heap.size; omega)).drew, (H2.out.setOther _ _ (by show g4 ≠ w.heap.size + 1; omega)).drew, (H3.out.setOther _ _ (by show g4 ≠ w.heap.size + 2; omega)).drew, (H5.out.setOther _ _ (by show g4 ≠ p5; omega)).drew, ((HW.out.set hkl (bits .or .i64 (f k) (g k))).congr (fun i hi => by
          by_cases e : i = k
          · subst e; simp
          · simp only [if_neg e]
            by_cases e2 : i < k
            · rw [if_pos e2, if_pos (by omega)]
            · rw [if_neg e2, if_neg (by omega)])).drew⟩
        case measure => simp [intOf]; omega
    · have hki : ¬ (k : Int) < (n : Int) := by omega
      have lb := hx3.lt
      clear hS hx1 hx2 hx3 hx5 hown
      go_wp2
      refine bodyPost_ret (v := vecV b (some ⟨g4, 0, none⟩) n c4) (by simp [results, Tryz.results73, go_sem, vecV, cc0, cc1]) rfl ?_
      exact ⟨_, _, rfl, (since_set (since_set HS.out (by show w.heap.size ≤ w.heap.size + 2; omega)) (by show w.heap.size ≤ w.heap.size + 2; omega)).below, Or.inr ⟨g4, rfl, by omega, ((HW.out.congr (fun i hi => if_pos (by omega))).setOther _ _ (by show w.heap.size + 2 ≠ g4; omega)).setOther _ _ (by show w.heap.size + 2 ≠ g4; omega)⟩⟩
end Go.Proofs.YtfeolbgenpknfaaGreat
namespace Go.Proofs.YtfeolbgenpknfaaGreat
open Go.RowKit

/-- A bit that a right vector has. -/
def HasBit (b : Int) (n : Nat) (f : Nat → Int) (i : Int) : Prop := Right b n f ∧ 0 ≤ i ∧ i < b
theorem bit_place {b : Int} {n : Nat} {f : Nat → Int} {i : Int} (h : HasBit b n f i) : ∃ k q : Nat, i / 32 = (k : Int) ∧ i % 32 = (q : Int) ∧ k < n ∧ q < 32 ∧ (i / 32).toNat = k ∧ (i % 32).toNat = q := by
  obtain ⟨h1, h2, h3⟩ := h
  have h4 := h1.2.2.1
  exact ⟨(i / 32).toNat, (i % 32).toNat, by omega, by omega, by omega, by omega, rfl, rfl⟩

end Go.Proofs.YtfeolbgenpknfaaGreat
