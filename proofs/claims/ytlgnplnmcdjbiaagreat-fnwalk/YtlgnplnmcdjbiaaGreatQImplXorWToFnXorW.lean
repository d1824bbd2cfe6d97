/- What is proved here: the program's VecXor hands back the words put together one by one, cut behind the last bit, in new memory, or nothing; nothing that was there turns.
   What is proved here: the program's VecXor hands back the specification's words, in new memory, or nothing; nothing that was there turns. -/
import Derived.Test.YtlgnplnmcdjbiaaGreatQImplCRightWToPVecW
import Derived.Test.YtlgnplnmcdjbiaaGreatQImplRightWToCellS
import Derived.Deep.RegionHeld3
import Derived.Test.YtlgnplnmcdjbiaaGreatQWordNoWToFnOrW
namespace Go.Proofs.YtlgnplnmcdjbiaaGreat
open Go.RowKit

theorem putXor_any (x y : Int) (w : World) :
    Calls Tryz.prog 92 #[.int .u32 x, .int .u32 y] w fun e w' => e = .returned (.int .u32 (bits .xor .u32 x y)) ∧ w' = w := by
  go_enter Tryz.func92, Tryz.ntmps92
  go_wp2
  go_ret
  exact ⟨rfl, rfl⟩

open Classical in
set_option maxRecDepth 100000 in
set_option maxHeartbeats 4000000 in
theorem wordXor_yes (b : Int) (sa sb : Option Addr) (n ka kb c : Nat) (f g r : Nat → Int) (w : World) (hn : n ≤ 1048576) (ha : Row w c sa n f) (hb : Row w c sb n g) (h1 : Right b n f) (h2 : Right b n g) (hcs : c ≤ w.heap.size) (hr0 : ∀ j, j < n → 0 ≤ r j ∧ r j ≤ 4294967295) (hput : ∀ j, j < n → r j = bits .xor .u32 (f j) (g j)) :
    Calls Tryz.prog 88 #[.agg #[.int .i64 b, .slice sa n ka], .agg #[.int .i64 b, .slice sb n kb], .func (.func 92) #[] #[]] w fun e w' => ∃ (so : Option Addr) (co : Nat), e = .returned (vecV b so n co) ∧ Below c w w' ∧ OwnS w' w.heap.size so n (cutF b n r) := by
  have hn0 : 0 < n := by have e1 := h1.2.2.1; have := h1.1; omega
  have hbb := h1.1
  have hbc := h1.2.1
  have HM : Hid ((n : Int) = (b + 31) / 32) := h1.2.2.1
  have HF : Hid (∀ i, i < n → 0 ≤ f i ∧ f i ≤ 4294967295) := h1.2.2.2.1
  have HG : Hid (∀ i, i < n → 0 ≤ g i ∧ g i ≤ 4294967295) := h2.2.2.2.1
  obtain ⟨b1, o1, rfl, hb1, hc1⟩ : ∃ bb off : Nat, sa = some ⟨bb, off, none⟩ ∧ bb < c ∧ ∀ i, i < n → w.cell? ⟨bb, off + i, none⟩ = some (.int .i64 (f i)) := by
    rcases ha with h | h
    · omega
    · exact h
  obtain ⟨b2, o2, rfl, hb2, hc2⟩ : ∃ bb off : Nat, sb = some ⟨bb, off, none⟩ ∧ bb < c ∧ ∀ i, i < n → w.cell? ⟨bb, off + i, none⟩ = some (.int .i64 (g i)) := by
    rcases hb with h | h
    · omega
    · exact h
  have hcs' : c ≤ w.heap.size := by omega
  have HA : Hid (Row w w.heap.size (some ⟨b1, o1, none⟩) n f) := ha.up hcs'
  have HB : Hid (Row w w.heap.size (some ⟨b2, o2, none⟩) n g) := hb.up hcs'
  have HC1 : Hid (∀ i, i < n → w.cell? ⟨b1, o1 + i, none⟩ = some (.int .i64 (f i))) := hc1
  have HC2 : Hid (∀ i, i < n → w.cell? ⟨b2, o2 + i, none⟩ = some (.int .i64 (g i))) := hc2
  have C1 := fun W h => implRight_any b (some ⟨b1, o1, none⟩) n ka f W hn h
  have C2 := fun W h => implRight_any b (some ⟨b2, o2, none⟩) n kb g W hn h
  rw [decide_eq_true h1] at C1
  rw [decide_eq_true h2] at C2
  have R1 : Hid (∀ W, Row W W.heap.size (some ⟨b1, o1, none⟩) n f → Calls Tryz.prog 58 #[.agg #[.int .i64 b, .slice (some ⟨b1, o1, none⟩) n ka]] W fun e w' => e = .returned (.bool true) ∧ Below W.heap.size W w') := C1
  have R2 : Hid (∀ W, Row W W.heap.size (some ⟨b2, o2, none⟩) n g → Calls Tryz.prog 58 #[.agg #[.int .i64 b, .slice (some ⟨b2, o2, none⟩) n kb]] W fun e w' => e = .returned (.bool true) ∧ Below W.heap.size W w') := C2
  have HP : Hid (∀ j, j < n → r j = bits .xor .u32 (f j) (g j)) := hput
  have HR0 : Hid (∀ j, j < n → 0 ≤ r j ∧ r j ≤ 4294967295) := hr0
  clear ha hb hc1 hc2 C1 C2 h1 h2 hput hr0
  go_enter Tryz.func88, Tryz.ntmps88
  go_wp2_with fail
  have q1 := boxing w 26 b (some ⟨b1, o1, none⟩) n ka
  generalize w.alloc (.cells #[.int .i64 b, .slice (some ⟨b1, o1, none⟩) n ka] 26) = v1 at *
  have q2 := boxing v1 26 b (some ⟨b2, o2, none⟩) n kb
  generalize v1.alloc (.cells #[.int .i64 b, .slice (some ⟨b2, o2, none⟩) n kb] 26) = v2 at *
  have q3 := boxing v2 26 0 none 0 0
  generalize v2.alloc (.cells #[.int .i64 0, .slice none 0 0] 26) = v3 at *
  have X1 : Hid (Boxed v3 w.heap.size 26 b (some ⟨b1, o1, none⟩) n ka) := (q1.2.1.kept q2.1 rfl).kept q3.1 rfl
  have X2 : Hid (Boxed v3 (w.heap.size + 1) 26 b (some ⟨b2, o2, none⟩) n kb) := by rw [← q1.2.2]; exact q2.2.1.kept q3.1 rfl
  have X3 : Hid (Boxed v3 (w.heap.size + 2) 26 0 none 0 0) := by rw [show w.heap.size + 2 = v2.heap.size by rw [q2.2.2, q1.2.2]]; exact q3.2.1
  have S3 : Hid (Since w v3) := since_call (since_call (since_call (since_refl _) q1.1) q2.1) q3.1
  have z3 : v3.heap.size = w.heap.size + 3 := by rw [q3.2.2, q2.2.2, q1.2.2]
  clear q1 q2 q3
  refine (R1.out _ (row_since HA.out S3.out)).mono ?_
  rintro e w4 ⟨rfl, hb4⟩
  have Y1 : Hid (Boxed w4 w.heap.size 26 b (some ⟨b1, o1, none⟩) n ka) := X1.out.kept hb4 rfl
  have Y2 : Hid (Boxed w4 (w.heap.size + 1) 26 b (some ⟨b2, o2, none⟩) n kb) := X2.out.kept hb4 rfl
  have Y3 : Hid (Boxed w4 (w.heap.size + 2) 26 0 none 0 0) := X3.out.kept hb4 rfl
  have S4 : Hid (Since w w4) := since_call S3.out hb4
  have z4 : w.heap.size + 3 ≤ w4.heap.size := by have := hb4.size; omega
  clear hb4 X1 X2 X3 S3 z3
  obtain ⟨cb0, cb1⟩ := Y2.out.cells
  go_wp2_with fail
  refine (R2.out _ (row_since HB.out S4.out)).mono ?_
  clear cb0 cb1
  rintro e w5 ⟨rfl, hb5⟩
  have X1 : Hid (Boxed w5 w.heap.size 26 b (some ⟨b1, o1, none⟩) n ka) := Y1.out.kept hb5 rfl
  have X2 : Hid (Boxed w5 (w.heap.size + 1) 26 b (some ⟨b2, o2, none⟩) n kb) := Y2.out.kept hb5 rfl
  have X3 : Hid (Boxed w5 (w.heap.size + 2) 26 0 none 0 0) := Y3.out.kept hb5 rfl
  have S5 : Hid (Since w w5) := since_call S4.out hb5
  have z5 : w.heap.size + 3 ≤ w5.heap.size := by have := hb5.size; omega
  clear hb5 Y1 Y2 Y3 S4 z4
  obtain ⟨ca0, ca1⟩ := X1.out.cells
  obtain ⟨cb0, cb1⟩ := X2.out.cells
  go_wp2_with fail
  refine (implNew_yes b n w5 hbb hbc HM.out).mono ?_
  clear ca0 ca1 cb0 cb1
  rintro e w6 ⟨s6, c6, rfl, hb6, ho6⟩
  obtain ⟨g6, rfl, hg1, ho⟩ : ∃ g, s6 = some ⟨g, 0, none⟩ ∧ w5.heap.size ≤ g ∧ Own w6 g n (fun _ => 0) := by
    rcases ho6 with h | h
    · omega
    · exact h
  have hg2 := ho.1
  have O6 : Hid (Own w6 g6 n (fun _ => 0)) := ho
  have Y1 : Hid (Boxed w6 w.heap.size 26 b (some ⟨b1, o1, none⟩) n ka) := X1.out.kept hb6 rfl
  have Y2 : Hid (Boxed w6 (w.heap.size + 1) 26 b (some ⟨b2, o2, none⟩) n kb) := X2.out.kept hb6 rfl
  have Y3 : Hid (Boxed w6 (w.heap.size + 2) 26 0 none 0 0) := X3.out.kept hb6 rfl
  have S6 : Hid (Since w w6) := since_call S5.out hb6
  have hgl : w.heap.size + 3 ≤ g6 := by omega
  unfold vecV
  clear hb6 ho6 ho X1 X2 X3 S5 z5 hg1
  go_wp2
  have q5 := boxing w6 26 b (some ⟨g6, 0, none⟩) n c6
  generalize w6.alloc (.cells #[.int .i64 b, .slice (some ⟨g6, 0, none⟩) n c6] 26) = v7 at *
  obtain ⟨p7, hp7⟩ : ∃ p, p = w6.heap.size := ⟨_, rfl⟩
  rw [← hp7]
  have Y7 : Hid (Boxed v7 p7 26 b (some ⟨g6, 0, none⟩) n c6) := by rw [hp7]; exact q5.2.1
  have V1 : Hid (Boxed v7 w.heap.size 26 b (some ⟨b1, o1, none⟩) n ka) := Y1.out.kept q5.1 rfl
  have V2 : Hid (Boxed v7 (w.heap.size + 1) 26 b (some ⟨b2, o2, none⟩) n kb) := Y2.out.kept q5.1 rfl
  have V3 : Hid (Boxed v7 (w.heap.size + 2) 26 0 none 0 0) := Y3.out.kept q5.1 rfl
  have S7 : Hid (Since w v7) := since_call S6.out q5.1
  have O7 : Hid (Own v7 g6 n (fun _ => 0)) := O6.out.kept q5.1 hg2
  have hgp : g6 < p7 := by omega
  have SB : Hid (Below c w v7) := S7.out.below.mono hcs'
  have SZ : Hid (w.heap.size ≤ v7.heap.size) := S7.out.size
  clear q5 Y1 Y2 Y3 S6 S7 O6 hg2 hp7
  go_loopw [8, 31] (fun _ i wr => ∃ k : Nat, k ≤ n ∧ i = .int .i64 (k : Int) ∧ Below c w wr ∧ w.heap.size ≤ wr.heap.size ∧ Boxed wr w.heap.size 26 b (some ⟨b1, o1, none⟩) n ka ∧ Boxed wr (w.heap.size + 1) 26 b (some ⟨b2, o2, none⟩) n kb ∧ Boxed wr (w.heap.size + 2) 26 0 none 0 0 ∧ Boxed wr p7 26 b (some ⟨g6, 0, none⟩) n c6 ∧ Own wr g6 n (fun i => if i < k then r i else 0)) (fun _ i _ => n - (intOf i).toNat)
  case atStart => exact ⟨0, Nat.zero_le _, rfl, SB.out, SZ.out, V1.out, V2.out, V3.out, Y7.out, O7.out.congr (fun i _ => by simp)⟩
  case round =>
    obtain ⟨k, hk, rfl, hS, hsz0, hx1, hx2, hx3, hx5, hown⟩ := hrel
    have HS : Hid (Below c w wr) := hS
    have HZ : Hid (w.heap.size ≤ wr.heap.size) := hsz0
    have H1 : Hid (Boxed wr w.heap.size 26 b (some ⟨b1, o1, none⟩) n ka) := hx1
    have H2 : Hid (Boxed wr (w.heap.size + 1) 26 b (some ⟨b2, o2, none⟩) n kb) := hx2
    have H3 : Hid (Boxed wr (w.heap.size + 2) 26 0 none 0 0) := hx3
    have H5 : Hid (Boxed wr p7 26 b (some ⟨g6, 0, none⟩) n c6) := hx5
    have HW : Hid (Own wr g6 n (fun i => if i < k then r i else 0)) := hown
    obtain ⟨ca0, ca1⟩ := hx1.cells
    obtain ⟨cb0, cb1⟩ := hx2.cells
    obtain ⟨cd0, cd1⟩ := hx5.cells
    have la := hx1.lt
    have lb := hx2.lt
    have ld := hx5.lt
    by_cases hkl : k < n
    · have cz : wr.cell? ⟨b1, o1 + k, none⟩ = some (.int .i64 (f k)) := by rw [hS.cell (p := ⟨b1, o1 + k, none⟩) hb1]; exact HC1.out k hkl
      have cy : wr.cell? ⟨b2, o2 + k, none⟩ = some (.int .i64 (g k)) := by rw [hS.cell (p := ⟨b2, o2 + k, none⟩) hb2]; exact HC2.out k hkl
      have cw := hown.2.1 k hkl
      have cf := hown.2.2 k hkl
      have hsz := hown.1
      obtain ⟨x0, x1⟩ := HF.out k hkl
      obtain ⟨y0, y1⟩ := HG.out k hkl
      obtain ⟨r0, r1⟩ := HR0.out k hkl
      have HRK := HP.out k hkl
      clear hS hx1 hx2 hx3 hx5 hown hsz0
      have hki : (k : Int) < (n : Int) := by omega
      have hk0 : (0 : Int) ≤ (k : Int) := by omega
      have wx : IntKind.u32.wrap (f k) = f k := by rw [IntKind.wrap_u32]; omega
      have wy : IntKind.u32.wrap (g k) = g k := by rw [IntKind.wrap_u32]; omega
      have wz : IntKind.i64.wrap (r k) = r k := by rw [IntKind.wrap_i64]; omega
      have HQ : Hid (r k = bits .xor .u32 (f k) (g k)) := HRK
      clear HRK
      have n1 : g6 ≠ w.heap.size := by omega
      have n2 : g6 ≠ w.heap.size + 1 := by omega
      have n3 : g6 ≠ p7 := by omega
      have n4 : g6 ≠ b1 := by omega
      have n5 : g6 ≠ b2 := by omega
      go_wp2
      go_region_held3 (fun W => W.cell? ⟨w.heap.size, 1, none⟩ = some (.slice (some ⟨b1, o1, none⟩) n ka) ∧ W.cell? ⟨w.heap.size + 1, 1, none⟩ = some (.slice (some ⟨b2, o2, none⟩) n kb) ∧ W.cell? ⟨p7, 1, none⟩ = some (.slice (some ⟨g6, 0, none⟩) n c6) ∧ W.cell? ⟨b1, o1 + k, none⟩ = some (.int .i64 (f k)) ∧ W.cell? ⟨b2, o2 + k, none⟩ = some (.int .i64 (g k))) (go_keep) (first | (go_at_call 92; refine (putXor_any _ _ _).mono ?_; rintro e w' ⟨rfl, rfl⟩; rw [← HQ.out]))
      all_goals
        go_wp2
        go_roundw
        case rel => exact ⟨k + 1, by omega, by go_num, (HS.out.setCell (by show c ≤ g6; omega) _).drew, by have := HZ.out; simpa [World.setCell] using this, (H1.out.setOther _ _ (by show g6 ≠ w.heap.size; omega)).drew, (H2.out.setOther _ _ (by show g6 ≠ w.heap.size + 1; omega)).drew, (H3.out.setOther _ _ (by show g6 ≠ w.heap.size + 2; omega)).drew, (H5.out.setOther _ _ (by show g6 ≠ p7; omega)).drew, ((HW.out.set hkl (r k)).congr (fun i hi => by
          by_cases e : i = k
          · subst e; simp
          · simp only [if_neg e]
            by_cases e2 : i < k
            · rw [if_pos e2, if_pos (by omega)]
            · rw [if_neg e2, if_neg (by omega)])).drew⟩
        case measure => simp [intOf]; omega
    · have hki : ¬ (k : Int) < (n : Int) := by omega
      obtain rfl : k = n := by omega
      obtain ⟨m, rfl⟩ : ∃ m, k = m + 1 := ⟨k - 1, by omega⟩
      have cw : wr.cell? ⟨g6, m, none⟩ = some (.int .i64 (r m)) := by have h := hown.2.1 m (by omega); rw [h]; simp
      have cf := hown.2.2 m (by omega)
      have hsz := hown.1
      obtain ⟨r0, r1⟩ := HR0.out m (by omega)
      have HQ : Hid (bits .and .i64 (r m) (maskOf b) = r m % 2 ^ lastBits b) := mask_word (lastBits_le b) ⟨r0, by omega⟩
      have hlt : (m : Int) < (m : Int) + 1 := by omega
      obtain ⟨ce0, ce1, ce2, ce3⟩ := hx3.four
      have le := hx3.lt
      clear hS hx1 hx2 hx3 hx5 hown hsz0
      go_wp2
      have n1 : g6 ≠ w.heap.size := by omega
      have n3 : g6 ≠ p7 := by omega
      have m0 : (0 : Int) ≤ (m : Int) := by omega
      have wm : IntKind.i64.wrap ((m : Int) + 1 - 1) = m := by rw [IntKind.wrap_i64]; omega
      have wm2 : IntKind.i64.wrap (m : Int) = m := by rw [IntKind.wrap_i64]; omega
      go_region_with (first | (go_at_call 87; refine (lastMask_any _ _ (by omega) (by omega)).mono ?_; rintro e w' ⟨rfl, rfl⟩))
      all_goals
        rw [HQ.out]
        have Y2 : Hid (Boxed (wr.setCell ⟨g6, m, none⟩ (.int .i64 (r m % 2 ^ lastBits b))).drew (w.heap.size + 2) 26 0 none 0 0) := H3.out.setOther _ _ (by show g6 ≠ w.heap.size + 2; omega)
        have Y5 : Hid (Boxed (wr.setCell ⟨g6, m, none⟩ (.int .i64 (r m % 2 ^ lastBits b))).drew p7 26 b (some ⟨g6, 0, none⟩) (m + 1) c6) := H5.out.setOther _ _ (by show g6 ≠ p7; omega)
        have B3 : Hid (Below c w (wr.setCell ⟨g6, m, none⟩ (.int .i64 (r m % 2 ^ lastBits b))).drew) := (HS.out.setCell (by show c ≤ g6; omega) _).drew
        have O3 : Hid (Own (wr.setCell ⟨g6, m, none⟩ (.int .i64 (r m % 2 ^ lastBits b))).drew g6 (m + 1) (cutF b (m + 1) r)) := (HW.out.set (by omega) (r m % 2 ^ lastBits b)).congr (fun i hi => by
          rw [cut_last b (m + 1) r i (fun j hj => by have := HR0.out j hj; omega) hi]
          by_cases e : i = m
          · subst e
            simp
          · simp only [if_neg e]
            rw [if_pos (by omega), if_neg (by omega)])
        clear ca0 ca1 cb0 cb1 cd0 cd1 ce0 ce1 ce2 ce3 cw cf la lb ld le hsz H1 H2 H3 H5 HW HS
        generalize (wr.setCell ⟨g6, m, none⟩ (.int .i64 (r m % 2 ^ lastBits b))).drew = v8 at *
        obtain ⟨ce0, ce1, ce2, ce3⟩ := Y2.out.four
        obtain ⟨cd0, cd1⟩ := Y5.out.cells
        go_wp2
        refine bodyPost_ret (v := vecV b (some ⟨g6, 0, none⟩) (m + 1) c6) (by simp [results, Tryz.results88, go_sem, vecV, ce0, ce1]) rfl ?_
        exact ⟨_, _, rfl, (B3.out.setCell (by show c ≤ w.heap.size + 2; omega) _).setCell (by show c ≤ w.heap.size + 2; omega) _, Or.inr ⟨g6, rfl, by omega, (O3.out.setOther _ _ (by show w.heap.size + 2 ≠ g6; omega)).setOther _ _ (by show w.heap.size + 2 ≠ g6; omega)⟩⟩

end Go.Proofs.YtlgnplnmcdjbiaaGreat
namespace Go.Proofs.YtlgnplnmcdjbiaaGreat
open Go.RowKit

theorem wordsXor {b : Int} {n : Nat} {f g : Nat → Int} (h1 : Right b n f) (h2 : Right b n g) : ∀ i, i < n → cutF b n (fun i => bits .xor .u32 (f i) (g i)) i = (fun i => bits .xor .i64 (f i) (g i)) i := by
  have hn : 0 < n := by have := h1.2.2.1; have := h1.1; omega
  refine cut_same ?_ (fun i hi => xor_same (h1.word hi) (h2.word hi))
  by_cases ho : b % 32 = 0
  · exact Or.inl ho
  · exact Or.inr (xor_word (by omega) (h1.last ho) (h2.last ho))

set_option maxHeartbeats 2000000 in
theorem implVecXor_yes (b : Int) (sa sb : Option Addr) (n ka kb : Nat) (f g : Nat → Int) (w : World) (hn : n ≤ 1048576) (ha : Row w w.heap.size sa n f) (hb : Row w w.heap.size sb n g) (h1 : Right b n f) (h2 : Right b n g) :
    Calls Tryz.prog 63 #[.agg #[.int .i64 b, .slice sa n ka], .agg #[.int .i64 b, .slice sb n kb]] w fun e w' => NewVec w b n (fun i => bits .xor .i64 (f i) (g i)) e w' := by
  have HSAME : Hid (∀ i, i < n → cutF b n (fun i => bits .xor .u32 (f i) (g i)) i = (fun i => bits .xor .i64 (f i) (g i)) i) := wordsXor h1 h2
  have HA : Hid (Row w w.heap.size sa n f) := ha
  have HF : Hid (∀ i, i < n → 0 ≤ f i ∧ f i ≤ 4294967295) := h1.2.2.2.1
  have H1 : Hid (Right b n f) := h1
  have HB : Hid (Row w w.heap.size sb n g) := hb
  have HG : Hid (∀ i, i < n → 0 ≤ g i ∧ g i ≤ 4294967295) := h2.2.2.2.1
  have H2 : Hid (Right b n g) := h2
  clear hb h2
  clear ha h1
  go_enter Tryz.func63, Tryz.ntmps63
  go_wp2_with fail
  have q1 := boxing w 26 b sa n ka
  generalize w.alloc (.cells #[.int .i64 b, .slice sa n ka] 26) = v1 at *
  have q2 := boxing v1 26 b sb n kb
  generalize v1.alloc (.cells #[.int .i64 b, .slice sb n kb] 26) = v2 at *
  have q3 := boxing v2 26 0 none 0 0
  generalize v2.alloc (.cells #[.int .i64 0, .slice none 0 0] 26) = v3 at *
  have X3 : Hid (Boxed v3 (w.heap.size + 2) 26 0 none 0 0) := by rw [show w.heap.size + 2 = v2.heap.size by rw [q2.2.2, q1.2.2]]; exact q3.2.1
  have S3 : Hid (Since w v3) := since_call (since_call (since_call (since_refl _) q1.1) q2.1) q3.1
  have z3 : v3.heap.size = w.heap.size + 3 := by rw [q3.2.2, q2.2.2, q1.2.2]
  clear q1 q2 q3
  refine (wordXor_yes b sa sb n ka kb v3.heap.size f g (fun i => bits .xor .u32 (f i) (g i)) v3 hn (row_since HA.out S3.out) (row_since HB.out S3.out) H1.out H2.out (Nat.le_refl _) (fun j _ => ⟨bits_lo_u32 _ _ _, bits_hi_u32 _ _ _⟩) (fun _ _ => rfl)).mono ?_
  rintro e w4 ⟨s4, c4, rfl, hb4, ho4⟩
  unfold vecV
  obtain ⟨cc0, cc1, cc2, cc3⟩ := (X3.out.kept hb4 rfl).four
  have HO : Hid (OwnS w4 v3.heap.size s4 n (fun i => bits .xor .i64 (f i) (g i))) := ho4.congr HSAME.out
  have S4 : Hid (Since w w4) := since_call S3.out hb4
  clear hb4 ho4 X3 S3
  go_wp2
  refine bodyPost_ret (v := vecV b s4 n c4) (by simp [results, Tryz.results63, go_sem, vecV, cc0, cc1]) rfl ?_
  refine ⟨_, _, rfl, (since_set (since_set S4.out (by show w.heap.size ≤ w.heap.size + 2; omega)) (by show w.heap.size ≤ w.heap.size + 2; omega)).below, ?_⟩
  rcases HO.out with h | ⟨g5, h1, h2, h3⟩
  · exact Or.inl h
  · exact Or.inr ⟨g5, h1, by omega, (h3.setOther _ _ (by show w.heap.size + 2 ≠ g5; omega)).setOther _ _ (by show w.heap.size + 2 ≠ g5; omega)⟩

set_option maxHeartbeats 2000000 in
theorem implVecXor_no (b d : Int) (sa sb : Option Addr) (n m ka kb : Nat) (f g : Nat → Int) (w : World) (hn : n ≤ 1048576) (hm : m ≤ 1048576) (ha : Row w w.heap.size sa n f) (hb : Row w w.heap.size sb m g) (hno : ¬ (Right b n f ∧ Right d m g ∧ b = d)) :
    Calls Tryz.prog 63 #[.agg #[.int .i64 b, .slice sa n ka], .agg #[.int .i64 d, .slice sb m kb]] w fun e w' => NewVec w 0 0 (fun _ => 0) e w' := by
  have HA : Hid (Row w w.heap.size sa n f) := ha
  have HB : Hid (Row w w.heap.size sb m g) := hb
  have HN : Hid (¬ (Right b n f ∧ Right d m g ∧ b = d)) := hno
  clear ha hb hno
  go_enter Tryz.func63, Tryz.ntmps63
  go_wp2_with fail
  have q1 := boxing w 26 b sa n ka
  generalize w.alloc (.cells #[.int .i64 b, .slice sa n ka] 26) = v1 at *
  have q2 := boxing v1 26 d sb m kb
  generalize v1.alloc (.cells #[.int .i64 d, .slice sb m kb] 26) = v2 at *
  have q3 := boxing v2 26 0 none 0 0
  generalize v2.alloc (.cells #[.int .i64 0, .slice none 0 0] 26) = v3 at *
  have X3 : Hid (Boxed v3 (w.heap.size + 2) 26 0 none 0 0) := by rw [show w.heap.size + 2 = v2.heap.size by rw [q2.2.2, q1.2.2]]; exact q3.2.1
  have S3 : Hid (Since w v3) := since_call (since_call (since_call (since_refl _) q1.1) q2.1) q3.1
  clear q1 q2 q3
  refine (word_no b d sa sb n m ka kb _ f g v3 hn hm (row_since HA.out S3.out) (row_since HB.out S3.out) HN.out).mono ?_
  rintro e w5 ⟨s5, c5, rfl, hb5, ho5⟩
  unfold vecV
  obtain ⟨cc0, cc1, cc2, cc3⟩ := (X3.out.kept hb5 rfl).four
  have S5 : Hid (Since w w5) := since_call S3.out hb5
  clear hb5 ho5 X3 S3
  go_wp2
  refine bodyPost_ret (v := vecV 0 s5 0 c5) (by simp [results, Tryz.results63, go_sem, vecV, cc0, cc1]) rfl ?_
  exact ⟨_, _, rfl, (since_set (since_set S5.out (by show w.heap.size ≤ w.heap.size + 2; omega)) (by show w.heap.size ≤ w.heap.size + 2; omega)).below, Or.inl rfl⟩
end Go.Proofs.YtlgnplnmcdjbiaaGreat
