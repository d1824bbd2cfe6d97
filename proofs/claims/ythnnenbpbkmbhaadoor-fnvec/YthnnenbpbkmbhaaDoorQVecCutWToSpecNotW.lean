/- What is proved here: the specification's l02Cut turns the bits behind the last off, in the vector's own words.
   What is proved here: the specification's l02Not hands back the words turned, in new memory; nothing that was there turns.
   What is proved here: the specification's VecNot hands back the words turned, in new memory, or nothing; nothing that was there turns. -/
import Derived.Test.YthnnenbpbkmbhaaDoorQVecCopyWToSpecAndW
import Derived.Test.YthnnenbpbkmbhaaDoorQVecSpecWToWordsForW
import Derived.BigRegion
namespace Go.Proofs.YthnnenbpbkmbhaaDoor
open Go.RowKit

theorem grown_setNew {w W : World} {row : Option Nat} {p : Addr} {v : Value} (h : w.grownBy W row) (hp : w.heap.size ≤ p.block) : w.grownBy (W.setCell p v) row :=
  ⟨h.os, h.tape, h.output, by simpa [World.setCell] using h.size, fun k hk hr => by rw [Below.heap_setCell _ _ _ _ (fun e => by omega)]; exact h.block k hk hr⟩
theorem pow_over (b : Int) (h0 : 0 < b % 32) : ∃ P : Int, (2 : Int) ^ (b % 32).toNat = P ∧ 0 < P ∧ P ≤ 2147483648 := by
  refine ⟨_, rfl, Int.pow_pos (by decide), ?_⟩
  have h : (b % 32).toNat ≤ 31 := by omega
  have e : (2 : Int) ^ (b % 32).toNat = ((2 ^ (b % 32).toNat : Nat) : Int) := by simp
  have h2 : 2 ^ (b % 32).toNat ≤ 2 ^ 31 := Nat.pow_le_pow_right (by decide) h
  rw [e]
  omega

set_option maxRecDepth 100000 in
set_option maxHeartbeats 4000000 in
theorem cut_any (b : Int) (g n cap : Nat) (f : Nat → Int) (w : World) (hb1 : 1 ≤ b) (hb2 : b ≤ 320) (hn0 : 0 < n) (hn : n ≤ 1048576) (ho : Own w g n f) (hf : ∀ i, i < n → 0 ≤ f i) :
    Calls Tryd.prog 87 #[.agg #[.int .i64 b, .slice (some ⟨g, 0, none⟩) n cap]] w fun e w' => e = .returned (vecV b (some ⟨g, 0, none⟩) n cap) ∧ w.grownBy w' (some g) ∧ Own w' g n (cutF b n f) := by
  obtain ⟨m, rfl⟩ : ∃ m, n = m + 1 := ⟨n - 1, by omega⟩
  have hfm := hf m (by omega)
  have hglt := ho.1
  have HO : Hid (Own w g (m + 1) f) := ho
  clear hf ho
  go_enter Tryd.func87, Tryd.ntmps87
  have q1 := boxing w 25 b (some ⟨g, 0, none⟩) (m + 1) cap
  have q2 := boxing (w.alloc (.cells #[.int .i64 b, .slice (some ⟨g, 0, none⟩) (m + 1) cap] 25)) 25 0 none 0 0
  have hgr : w.grownBy ((w.alloc (.cells #[.int .i64 b, .slice (some ⟨g, 0, none⟩) (m + 1) cap] 25)).alloc (.cells #[.int .i64 0, .slice none 0 0] 25)) (some g) := (World.grownBy_alloc w _ _).trans (World.grownBy_alloc _ _ _)
  go_upto_region 1 with fail
  generalize w.alloc (.cells #[.int .i64 b, .slice (some ⟨g, 0, none⟩) (m + 1) cap] 25) = v1 at *
  generalize v1.alloc (.cells #[.int .i64 0, .slice none 0 0] 25) = v2 at *
  have X1 : Hid (Boxed v2 w.heap.size 25 b (some ⟨g, 0, none⟩) (m + 1) cap) := q1.2.1.kept q2.1 rfl
  have X2 : Hid (Boxed v2 (w.heap.size + 1) 25 0 none 0 0) := by rw [← q1.2.2]; exact q2.2.1
  have HG : Hid (w.grownBy v2 (some g)) := hgr
  have ho2 : Own v2 g (m + 1) f := (HO.out.kept q1.1 hglt).kept q2.1 (by rw [q1.2.2]; omega)
  have H2 : Hid (Own v2 g (m + 1) f) := ho2
  obtain ⟨ca0, ca1⟩ := X1.out.cells
  obtain ⟨cb0, cb1, cb2, cb3⟩ := X2.out.four
  have cy := ho2.2.1 m (by omega)
  have cf := ho2.2.2 m (by omega)
  have lg := ho2.1
  have l1 := X1.out.lt
  have l2 := X2.out.lt
  clear q1 q2 hgr ho2 HO
  by_cases h0 : b % 32 = 0
  · go_wp2
    refine bodyPost_ret (v := vecV b (some ⟨g, 0, none⟩) (m + 1) cap) (by simp [results, Tryd.results87, go_sem, vecV, cb0, cb1]) rfl ?_
    exact ⟨rfl, grown_setNew (grown_setNew HG.out (by show w.heap.size ≤ w.heap.size + 1; omega)) (by show w.heap.size ≤ w.heap.size + 1; omega), ((H2.out.congr (fun i hi => by unfold cutF; rw [if_neg (by omega)])).setOther _ _ (by show w.heap.size + 1 ≠ g; omega)).setOther _ _ (by show w.heap.size + 1 ≠ g; omega)⟩
  · have h1 : 0 < b % 32 := by omega
    obtain ⟨P, hP, hP0, hP1⟩ := pow_over b h1
    have hw : wrap64 P = P := by unfold wrap64; omega
    have hlt : (m : Int) < (m : Int) + 1 := by omega
    go_wp2
    go_region
    have Y1 : Hid (Boxed (v2.setCell ⟨g, m, none⟩ (.int .i64 (f m % P))).drew w.heap.size 25 b (some ⟨g, 0, none⟩) (m + 1) cap) := X1.out.setOther _ _ (by show g ≠ w.heap.size; omega)
    have Y2 : Hid (Boxed (v2.setCell ⟨g, m, none⟩ (.int .i64 (f m % P))).drew (w.heap.size + 1) 25 0 none 0 0) := X2.out.setOther _ _ (by show g ≠ w.heap.size + 1; omega)
    have G3 : Hid (w.grownBy (v2.setCell ⟨g, m, none⟩ (.int .i64 (f m % P))).drew (some g)) := only_drawn (only_set HG.out)
    have O3 : Hid (Own (v2.setCell ⟨g, m, none⟩ (.int .i64 (f m % P))).drew g (m + 1) (cutF b (m + 1) f)) := (H2.out.set (by omega) (f m % P)).congr (fun i hi => by
      unfold cutF
      by_cases e : i = m
      · subst e
        simp [h1, hP]
      · simp [e])
    clear ca0 ca1 cb0 cb1 cb2 cb3 cy cf lg l1 l2 X1 X2 HG H2
    generalize (v2.setCell ⟨g, m, none⟩ (.int .i64 (f m % P))).drew = v3 at *
    obtain ⟨ca0, ca1⟩ := Y1.out.cells
    obtain ⟨cb0, cb1, cb2, cb3⟩ := Y2.out.four
    go_wp2
    refine bodyPost_ret (v := vecV b (some ⟨g, 0, none⟩) (m + 1) cap) (by simp [results, Tryd.results87, go_sem, vecV, cb0, cb1]) rfl ?_
    exact ⟨rfl, grown_setNew (grown_setNew G3.out (by show w.heap.size ≤ w.heap.size + 1; omega)) (by show w.heap.size ≤ w.heap.size + 1; omega), (O3.out.setOther _ _ (by show w.heap.size + 1 ≠ g; omega)).setOther _ _ (by show w.heap.size + 1 ≠ g; omega)⟩
end Go.Proofs.YthnnenbpbkmbhaaDoor
namespace Go.Proofs.YthnnenbpbkmbhaaDoor
open Go.RowKit


set_option maxRecDepth 100000 in
set_option maxHeartbeats 4000000 in
theorem not_any (b : Int) (sa : Option Addr) (n ka : Nat) (f : Nat → Int) (w : World) (hbb : 1 ≤ b) (hbc : b ≤ 320) (hf : ∀ i, i < n → 0 ≤ f i ∧ f i ≤ 4294967295) (hn0 : 0 < n) (hn : n ≤ 1048576) (ha : Row w w.heap.size sa n f) :
    Calls Tryd.prog 59 #[.agg #[.int .i64 b, .slice sa n ka]] w fun e w' => NewVec w b n (cutF b n (notF f)) e w' := by
  obtain ⟨b1, o1, rfl, hb1, hc1⟩ : ∃ bb off : Nat, sa = some ⟨bb, off, none⟩ ∧ bb < w.heap.size ∧ ∀ i, i < n → w.cell? ⟨bb, off + i, none⟩ = some (.int .i64 (f i)) := by
    rcases ha with h | h
    · omega
    · exact h
  have HA : Hid (Row w w.heap.size (some ⟨b1, o1, none⟩) n f) := ha
  have HC1 : Hid (∀ i, i < n → w.cell? ⟨b1, o1 + i, none⟩ = some (.int .i64 (f i))) := hc1
  have HF : Hid (∀ i, i < n → 0 ≤ f i ∧ f i ≤ 4294967295) := hf
  clear ha hc1 hf
  go_enter Tryd.func59, Tryd.ntmps59
  go_wp2_with fail
  have q1 := boxing w 25 b (some ⟨b1, o1, none⟩) n ka
  generalize w.alloc (.cells #[.int .i64 b, .slice (some ⟨b1, o1, none⟩) n ka] 25) = v1 at *
  have q3 := boxing v1 25 0 none 0 0
  generalize v1.alloc (.cells #[.int .i64 0, .slice none 0 0] 25) = v3 at *
  have X1 : Hid (Boxed v3 w.heap.size 25 b (some ⟨b1, o1, none⟩) n ka) := q1.2.1.kept q3.1 rfl
  have X3 : Hid (Boxed v3 (w.heap.size + 1) 25 0 none 0 0) := by rw [← q1.2.2]; exact q3.2.1
  have S3 : Hid (Since w v3) := since_call (since_call (since_refl _) q1.1) q3.1
  have z3 : v3.heap.size = w.heap.size + 2 := by rw [q3.2.2, q1.2.2]
  clear q1 q3
  refine (copy_any b _ n ka f v3 hn0 hn (row_since HA.out S3.out)).mono ?_
  rintro e w4 ⟨s4, c4, rfl, hb4, ho4⟩
  obtain ⟨g4, rfl, hg1, ho⟩ : ∃ g, s4 = some ⟨g, 0, none⟩ ∧ v3.heap.size ≤ g ∧ Own w4 g n f := by
    rcases ho4 with h | h
    · omega
    · exact h
  have hg2 := ho.1
  have O4 : Hid (Own w4 g4 n f) := ho
  have Y1 : Hid (Boxed w4 w.heap.size 25 b (some ⟨b1, o1, none⟩) n ka) := X1.out.kept hb4 rfl
  have Y3 : Hid (Boxed w4 (w.heap.size + 1) 25 0 none 0 0) := X3.out.kept hb4 rfl
  have S4 : Hid (Since w w4) := since_call S3.out hb4
  unfold vecV
  clear hb4 ho4 ho X1 X3 S3
  go_wp2
  have q5 := boxing w4 25 b (some ⟨g4, 0, none⟩) n c4
  generalize w4.alloc (.cells #[.int .i64 b, .slice (some ⟨g4, 0, none⟩) n c4] 25) = v5 at *
  obtain ⟨p5, hp5⟩ : ∃ p, p = w4.heap.size := ⟨_, rfl⟩
  rw [← hp5]
  have Y5 : Hid (Boxed v5 p5 25 b (some ⟨g4, 0, none⟩) n c4) := by rw [hp5]; exact q5.2.1
  have V1 : Hid (Boxed v5 w.heap.size 25 b (some ⟨b1, o1, none⟩) n ka) := Y1.out.kept q5.1 rfl
  have V3 : Hid (Boxed v5 (w.heap.size + 1) 25 0 none 0 0) := Y3.out.kept q5.1 rfl
  have S5 : Hid (Since w v5) := since_call S4.out q5.1
  have O5 : Hid (Own v5 g4 n f) := O4.out.kept q5.1 hg2
  have hgp : g4 < p5 := by omega
  clear q5 Y1 Y3 S4 O4 hg2 hp5
  go_loopw [4] (fun i wr => ∃ k : Nat, k ≤ n ∧ i = .int .i64 (k : Int) ∧ Since w wr ∧ Boxed wr w.heap.size 25 b (some ⟨b1, o1, none⟩) n ka ∧ Boxed wr (w.heap.size + 1) 25 0 none 0 0 ∧ Boxed wr p5 25 b (some ⟨g4, 0, none⟩) n c4 ∧ Own wr g4 n (fun i => if i < k then notF f i else f i)) (fun i _ => n - (intOf i).toNat)
  case atStart => exact ⟨0, Nat.zero_le _, rfl, S5.out, V1.out, V3.out, Y5.out, O5.out.congr (fun i _ => by simp)⟩
  case round =>
    obtain ⟨k, hk, rfl, hS, hx1, hx3, hx5, hown⟩ := hrel
    have HS : Hid (Since w wr) := hS
    have H1 : Hid (Boxed wr w.heap.size 25 b (some ⟨b1, o1, none⟩) n ka) := hx1
    have H3 : Hid (Boxed wr (w.heap.size + 1) 25 0 none 0 0) := hx3
    have H5 : Hid (Boxed wr p5 25 b (some ⟨g4, 0, none⟩) n c4) := hx5
    have HW : Hid (Own wr g4 n (fun i => if i < k then notF f i else f i)) := hown
    obtain ⟨ca0, ca1⟩ := hx1.cells
    obtain ⟨cc0, cc1, cc2, cc3⟩ := hx3.four
    obtain ⟨cd0, cd1⟩ := hx5.cells
    by_cases hkl : k < n
    · have cz : wr.cell? ⟨b1, o1 + k, none⟩ = some (.int .i64 (f k)) := by rw [hS.below.cell (p := ⟨b1, o1 + k, none⟩) hb1]; exact HC1.out k hkl
      have cw := hown.2.1 k hkl
      have cf := hown.2.2 k hkl
      have hsz := hown.1
      have r1 := HF.out k hkl
      clear hS hx1 hx3 hx5 hown
      have hki : (k : Int) < (n : Int) := by omega
      have hk0 : (0 : Int) ≤ (k : Int) := by omega
      go_wp2
      go_region
      all_goals
        go_wp2
        go_roundw
        case rel => exact ⟨k + 1, by omega, by go_num, since_drew (since_set HS.out (by show w.heap.size ≤ g4; omega)), (H1.out.setOther _ _ (by show g4 ≠ w.heap.size; omega)).drew, (H3.out.setOther _ _ (by show g4 ≠ w.heap.size + 1; omega)).drew, (H5.out.setOther _ _ (by show g4 ≠ p5; omega)).drew, ((HW.out.set hkl (4294967295 - f k)).congr (fun i hi => by
          by_cases e : i = k
          · subst e
            simp [notF]
          · simp only [if_neg e]
            by_cases e2 : i < k
            · rw [if_pos e2, if_pos (by omega)]
            · rw [if_neg e2, if_neg (by omega)])).drew⟩
        case measure => simp [intOf]; omega
    · have hki : ¬ (k : Int) < (n : Int) := by omega
      clear hS hx1 hx3 hx5 hown
      go_wp2_with fail
      refine (cut_any b g4 n c4 (notF f) wr hbb hbc hn0 hn (HW.out.congr (fun i hi => if_pos (by omega))) (fun i hi => by unfold notF; have := HF.out i hi; omega)).mono ?_
      rintro e w6 ⟨rfl, hgr, ho6⟩
      have Z3 : Hid (Boxed w6 (w.heap.size + 1) 25 0 none 0 0) := by
        show Boxed w6 (w.heap.size + 1) 25 0 none 0 0
        unfold Boxed
        rw [hgr.block _ H3.out.lt (fun e => by injection e with e; omega)]
        exact H3.out
      have hin : OnlyIn wr w6 g4 (g4 + 1) := ⟨some g4, hgr, fun g' e => by injection e with e; omega⟩
      have S6 : Hid (Since w w6) := ⟨HS.out.below.trans (hin.below (by omega) HS.out.size)⟩
      have O6 : Hid (Own w6 g4 n (cutF b n (notF f))) := ho6
      unfold vecV
      clear ca0 ca1 cc0 cc1 cc2 cc3 cd0 cd1 hgr ho6 hin
      obtain ⟨cc0, cc1, cc2, cc3⟩ := Z3.out.four
      go_wp2
      refine bodyPost_ret (v := vecV b (some ⟨g4, 0, none⟩) n c4) (by simp [results, Tryd.results59, go_sem, vecV, cc0, cc1]) rfl ?_
      exact ⟨_, _, rfl, (since_set (since_set S6.out (by show w.heap.size ≤ w.heap.size + 1; omega)) (by show w.heap.size ≤ w.heap.size + 1; omega)).below, Or.inr ⟨g4, rfl, by omega, (O6.out.setOther _ _ (by show w.heap.size + 1 ≠ g4; omega)).setOther _ _ (by show w.heap.size + 1 ≠ g4; omega)⟩⟩
end Go.Proofs.YthnnenbpbkmbhaaDoor
namespace Go.Proofs.YthnnenbpbkmbhaaDoor
open Go.RowKit

open Classical in
set_option maxHeartbeats 2000000 in
theorem specVecNot_yes (b : Int) (sa : Option Addr) (n ka : Nat) (f : Nat → Int) (w : World) (hn : n ≤ 1048576) (ha : Row w w.heap.size sa n f) (h1 : Right b n f) :
    Calls Tryd.prog 18 #[.agg #[.int .i64 b, .slice sa n ka]] w fun e w' => NewVec w b n (cutF b n (notF f)) e w' := by
  have HA : Hid (Row w w.heap.size sa n f) := ha
  have hn0 : 0 < n := by have e1 := h1.2.2.1; have := h1.1; omega
  have hbb := h1.1
  have hbc := h1.2.1
  have HF : Hid (∀ i, i < n → 0 ≤ f i ∧ f i ≤ 4294967295) := h1.2.2.2.1
  have C1 := fun W h => specRight_any b sa n ka f W hn h
  have e1 : decide (Right b n f) = true := decide_eq_true h1
  rw [e1] at C1
  have HC1 : Hid (∀ W, Row W W.heap.size sa n f → Calls Tryd.prog 33 #[.agg #[.int .i64 b, .slice sa n ka]] W fun e w' => e = .returned (.bool true) ∧ Below W.heap.size W w') := C1
  clear C1 e1 ha h1
  go_enter Tryd.func18, Tryd.ntmps18
  go_wp2_with fail
  have q1 := boxing w 25 b sa n ka
  generalize w.alloc (.cells #[.int .i64 b, .slice sa n ka] 25) = v1 at *
  have q3 := boxing v1 25 0 none 0 0
  generalize v1.alloc (.cells #[.int .i64 0, .slice none 0 0] 25) = v3 at *
  have X1 : Hid (Boxed v3 w.heap.size 25 b sa n ka) := q1.2.1.kept q3.1 rfl
  have X3 : Hid (Boxed v3 (w.heap.size + 1) 25 0 none 0 0) := by rw [← q1.2.2]; exact q3.2.1
  have S3 : Hid (Since w v3) := since_call (since_call (since_refl _) q1.1) q3.1
  have z3 : v3.heap.size = w.heap.size + 2 := by rw [q3.2.2, q1.2.2]
  clear q1 q3
  refine (HC1.out _ (row_since HA.out S3.out)).mono ?_
  rintro e w4 ⟨rfl, hb4⟩
  have z4 : w.heap.size + 2 ≤ w4.heap.size := by have := hb4.size; omega
  have Y1 : Hid (Boxed w4 w.heap.size 25 b sa n ka) := X1.out.kept hb4 rfl
  have Y3 : Hid (Boxed w4 (w.heap.size + 1) 25 0 none 0 0) := X3.out.kept hb4 rfl
  have S4 : Hid (Since w w4) := since_call S3.out hb4
  clear hb4 X1 X3 S3 z3
  obtain ⟨ca0, ca1⟩ := Y1.out.cells
  go_wp2_with fail
  refine (not_any b sa n ka f w4 hbb hbc HF.out hn0 hn (row_since HA.out S4.out)).mono ?_
  clear ca0 ca1
  rintro e w5 ⟨s5, c5, rfl, hb5, ho5⟩
  unfold vecV
  obtain ⟨cc0, cc1, cc2, cc3⟩ := (Y3.out.kept hb5 rfl).four
  have HO : Hid (OwnS w5 w4.heap.size s5 n (cutF b n (notF f))) := ho5
  have S5 : Hid (Since w w5) := since_call S4.out hb5
  clear hb5 ho5 Y1 Y3
  go_wp2
  refine bodyPost_ret (v := vecV b s5 n c5) (by simp [results, Tryd.results18, go_sem, vecV, cc0, cc1]) rfl ?_
  refine ⟨_, _, rfl, (since_set (since_set S5.out (by show w.heap.size ≤ w.heap.size + 1; omega)) (by show w.heap.size ≤ w.heap.size + 1; omega)).below, ?_⟩
  rcases HO.out with h | ⟨g5, h1, h2, h3⟩
  · exact Or.inl h
  · exact Or.inr ⟨g5, h1, by omega, (h3.setOther _ _ (by show w.heap.size + 1 ≠ g5; omega)).setOther _ _ (by show w.heap.size + 1 ≠ g5; omega)⟩

open Classical in
set_option maxHeartbeats 2000000 in
theorem specVecNot_no (b : Int) (sa : Option Addr) (n ka : Nat) (f : Nat → Int) (w : World) (hn : n ≤ 1048576) (ha : Row w w.heap.size sa n f) (hno : ¬ Right b n f) :
    Calls Tryd.prog 18 #[.agg #[.int .i64 b, .slice sa n ka]] w fun e w' => NewVec w 0 0 (fun _ => 0) e w' := by
  have HA : Hid (Row w w.heap.size sa n f) := ha
  have C1 := fun W h => specRight_any b sa n ka f W hn h
  have e1 : decide (Right b n f) = false := decide_eq_false hno
  rw [e1] at C1
  have HC1 : Hid (∀ W, Row W W.heap.size sa n f → Calls Tryd.prog 33 #[.agg #[.int .i64 b, .slice sa n ka]] W fun e w' => e = .returned (.bool false) ∧ Below W.heap.size W w') := C1
  clear C1 e1 ha hno
  go_enter Tryd.func18, Tryd.ntmps18
  go_wp2_with fail
  have q1 := boxing w 25 b sa n ka
  generalize w.alloc (.cells #[.int .i64 b, .slice sa n ka] 25) = v1 at *
  have q3 := boxing v1 25 0 none 0 0
  generalize v1.alloc (.cells #[.int .i64 0, .slice none 0 0] 25) = v3 at *
  have X3 : Hid (Boxed v3 (w.heap.size + 1) 25 0 none 0 0) := by rw [← q1.2.2]; exact q3.2.1
  have S3 : Hid (Since w v3) := since_call (since_call (since_refl _) q1.1) q3.1
  clear q1 q3
  refine (HC1.out _ (row_since HA.out S3.out)).mono ?_
  rintro e w4 ⟨rfl, hb4⟩
  obtain ⟨cc0, cc1, cc2, cc3⟩ := (X3.out.kept hb4 rfl).four
  have S4 : Hid (Since w w4) := since_call S3.out hb4
  clear hb4 X3 S3
  go_wp2
  refine bodyPost_ret (v := vecV 0 none 0 0) (by simp [results, Tryd.results18, go_sem, vecV, cc0, cc1]) rfl ?_
  exact ⟨_, _, rfl, (since_set (since_set S4.out (by show w.heap.size ≤ w.heap.size + 1; omega)) (by show w.heap.size ≤ w.heap.size + 1; omega)).below, Or.inl rfl⟩
end Go.Proofs.YthnnenbpbkmbhaaDoor
