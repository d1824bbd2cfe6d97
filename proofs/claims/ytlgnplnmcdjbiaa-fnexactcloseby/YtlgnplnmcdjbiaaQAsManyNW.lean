/- What is proved here: the program says of five vectors that they are not all right and of so many bits; nothing that was there turns. -/
import Derived.Test.YtlgnplnmcdjbiaaQMaskDToMask5S
import Derived.Test.YtlgnplnmcdjbiaaQImplRightW
namespace Go.Proofs.Ytlgnplnmcdjbiaa
open Go.RowKit

open Classical in
set_option maxRecDepth 100000 in
set_option maxHeartbeats 8000000 in
theorem asMany_no (b : Nat → Int) (s : Nat → Option Addr) (n c : Nat → Nat) (F : Nat → Nat → Int) (bv : Int) (w : World) (hn : ∀ i, i < 5 → n i ≤ 1048576) (hr : ∀ i, i < 5 → Row w w.heap.size (s i) (n i) (F i)) (hno : ¬ ∀ i, i < 5 → Right (b i) (n i) (F i) ∧ b i = bv) :
    Calls Try.prog 109 #[m5V b s n c, .int .i64 bv] w fun e w' => e = .returned (.bool false) ∧ Below w.heap.size w w' := by
  have q1 := m5boxing w b s n c
  obtain ⟨v1, hv1⟩ : ∃ v, w.alloc (.cells #[.int .i64 (b 0), .slice (s 0) (n 0) (c 0), .int .i64 (b 1), .slice (s 1) (n 1) (c 1), .int .i64 (b 2), .slice (s 2) (n 2) (c 2), .int .i64 (b 3), .slice (s 3) (n 3) (c 3), .int .i64 (b 4), .slice (s 4) (n 4) (c 4)] 50) = v := ⟨_, rfl⟩
  rw [hv1] at q1
  have S1 : Hid (Since w v1) := since_call (since_refl _) q1.1
  have HT : Hid (∀ i W, i < 5 → Since v1 W → Calls Try.prog 108 #[.agg #[.int .i64 (b i), .slice (s i) (n i) (c i)]] W fun e w' => e = .returned (.bool (decide (Right (b i) (n i) (F i)))) ∧ Below W.heap.size W w') := fun i W hi hW =>
    implRight_any (b i) (s i) (n i) (c i) (F i) W (hn i hi) (row_since (row_since (hr i hi) S1.out) hW)
  have HNO : Hid (¬ ∀ i, i < 5 → Right (b i) (n i) (F i) ∧ b i = bv) := hno
  obtain ⟨x0, x1, x2, x3, x4, x5, x6, x7, x8, x9⟩ := q1.2.1.cells
  have xl := q1.2.1.lt
  clear q1 hr hno hn
  unfold m5V
  go_enter Try.func109, Try.ntmps109
  go_wp2_with fail
  clear x0 x1 x2 x3 x4 x5 x6 x7 x8 x9 xl
  go_loopw [18] (fun i wr => ∃ j : Int, 0 ≤ j ∧ j ≤ 5 ∧ i = .int .i64 j ∧ (∀ i : Nat, (i : Int) < j → Right (b i) (n i) (F i) ∧ b i = bv) ∧ Since v1 wr) (fun i _ => 5 - (intOf i).toNat)
  case atStart => exact ⟨0, by decide, by decide, rfl, fun i hi => by omega, since_refl _⟩
  case round =>
    obtain ⟨j, hj0, hj5, rfl, hok, hS⟩ := hrel
    have SR : Hid (Since v1 wr) := hS
    have OK : Hid (∀ i : Nat, (i : Int) < j → Right (b i) (n i) (F i) ∧ b i = bv) := hok
    clear hS hok
    have hc : j = 0 ∨ j = 1 ∨ j = 2 ∨ j = 3 ∨ j = 4 ∨ j = 5 := by omega
    clear hj0 hj5
    rcases hc with rfl | rfl | rfl | rfl | rfl | rfl
    · have he : Sem.run Try.prog (Instr.index 201 (.agg #[.int .i64 (b 0), .slice (s 0) (n 0) (c 0), .int .i64 (b 1), .slice (s 1) (n 1) (c 1), .int .i64 (b 2), .slice (s 2) (n 2) (c 2), .int .i64 (b 3), .slice (s 3) (n 3) (c 3), .int .i64 (b 4), .slice (s 4) (n 4) (c 4)]) (.int .i64 0)) wr = .ok (.agg #[.int .i64 (b 0), .slice (s 0) (n 0) (c 0)]) wr := by kernel_rfl
      have q := boxing wr 45 (b 0) (s 0) (n 0) (c 0)
      have hH := fun W hW => HT.out 0 W (by decide) hW
      by_cases hR : Right (b 0) (n 0) (F 0)
      · rw [decide_eq_true hR] at hH
        have H : Hid (∀ W, Since v1 W → Calls Try.prog 108 #[.agg #[.int .i64 (b 0), .slice (s 0) (n 0) (c 0)]] W fun e w' => e = .returned (.bool true) ∧ Below W.heap.size W w') := hH
        have HR : Hid (Right (b 0) (n 0) (F 0)) := hR
        clear hH hR
        by_cases hB : b 0 = bv
        · have hbb : (b 0 == bv) = true := by simp [hB]
          have HB : Hid (b 0 = bv) := hB
          clear hB
          go_wp2_with (first
            | (go_at_call 108; (with_reducible refine (H.out _ (since_alloc SR.out)).mono ?_); rintro e u ⟨rfl, hb⟩; have T : Hid (Since v1 u) := since_call (since_alloc SR.out) hb; obtain ⟨y0, y1⟩ := (q.2.1.kept hb rfl).cells; have yl := (q.2.1.kept hb rfl).lt; clear hb))
          go_roundw
          case rel => exact ⟨1, by decide, by decide, by go_num, fun k hk => by
            by_cases e : k = 0
            · rw [e]; exact ⟨HR.out, HB.out⟩
            · exact OK.out k (by omega), T.out⟩
          case measure => simp [intOf]
        · have hbb : (b 0 == bv) = false := by simp [hB]
          clear hB
          go_wp2_with (first
            | (go_at_call 108; (with_reducible refine (H.out _ (since_alloc SR.out)).mono ?_); rintro e u ⟨rfl, hb⟩; have T : Hid (Since v1 u) := since_call (since_alloc SR.out) hb; obtain ⟨y0, y1⟩ := (q.2.1.kept hb rfl).cells; have yl := (q.2.1.kept hb rfl).lt; clear hb))
          go_ret
          exact ⟨rfl, (since_call S1.out T.out.below).below⟩
      · rw [decide_eq_false hR] at hH
        have H : Hid (∀ W, Since v1 W → Calls Try.prog 108 #[.agg #[.int .i64 (b 0), .slice (s 0) (n 0) (c 0)]] W fun e w' => e = .returned (.bool false) ∧ Below W.heap.size W w') := hH
        clear hH hR
        go_wp2_with (first
          | (go_at_call 108; (with_reducible refine (H.out _ (since_alloc SR.out)).mono ?_); rintro e u ⟨rfl, hb⟩; have T : Hid (Since v1 u) := since_call (since_alloc SR.out) hb; obtain ⟨y0, y1⟩ := (q.2.1.kept hb rfl).cells; have yl := (q.2.1.kept hb rfl).lt; clear hb))
        go_ret
        exact ⟨rfl, (since_call S1.out T.out.below).below⟩
    · have he : Sem.run Try.prog (Instr.index 201 (.agg #[.int .i64 (b 0), .slice (s 0) (n 0) (c 0), .int .i64 (b 1), .slice (s 1) (n 1) (c 1), .int .i64 (b 2), .slice (s 2) (n 2) (c 2), .int .i64 (b 3), .slice (s 3) (n 3) (c 3), .int .i64 (b 4), .slice (s 4) (n 4) (c 4)]) (.int .i64 1)) wr = .ok (.agg #[.int .i64 (b 1), .slice (s 1) (n 1) (c 1)]) wr := by kernel_rfl
      have q := boxing wr 45 (b 1) (s 1) (n 1) (c 1)
      have hH := fun W hW => HT.out 1 W (by decide) hW
      by_cases hR : Right (b 1) (n 1) (F 1)
      · rw [decide_eq_true hR] at hH
        have H : Hid (∀ W, Since v1 W → Calls Try.prog 108 #[.agg #[.int .i64 (b 1), .slice (s 1) (n 1) (c 1)]] W fun e w' => e = .returned (.bool true) ∧ Below W.heap.size W w') := hH
        have HR : Hid (Right (b 1) (n 1) (F 1)) := hR
        clear hH hR
        by_cases hB : b 1 = bv
        · have hbb : (b 1 == bv) = true := by simp [hB]
          have HB : Hid (b 1 = bv) := hB
          clear hB
          go_wp2_with (first
            | (go_at_call 108; (with_reducible refine (H.out _ (since_alloc SR.out)).mono ?_); rintro e u ⟨rfl, hb⟩; have T : Hid (Since v1 u) := since_call (since_alloc SR.out) hb; obtain ⟨y0, y1⟩ := (q.2.1.kept hb rfl).cells; have yl := (q.2.1.kept hb rfl).lt; clear hb))
          go_roundw
          case rel => exact ⟨2, by decide, by decide, by go_num, fun k hk => by
            by_cases e : k = 1
            · rw [e]; exact ⟨HR.out, HB.out⟩
            · exact OK.out k (by omega), T.out⟩
          case measure => simp [intOf]
        · have hbb : (b 1 == bv) = false := by simp [hB]
          clear hB
          go_wp2_with (first
            | (go_at_call 108; (with_reducible refine (H.out _ (since_alloc SR.out)).mono ?_); rintro e u ⟨rfl, hb⟩; have T : Hid (Since v1 u) := since_call (since_alloc SR.out) hb; obtain ⟨y0, y1⟩ := (q.2.1.kept hb rfl).cells; have yl := (q.2.1.kept hb rfl).lt; clear hb))
          go_ret
          exact ⟨rfl, (since_call S1.out T.out.below).below⟩
      · rw [decide_eq_false hR] at hH
        have H : Hid (∀ W, Since v1 W → Calls Try.prog 108 #[.agg #[.int .i64 (b 1), .slice (s 1) (n 1) (c 1)]] W fun e w' => e = .returned (.bool false) ∧ Below W.heap.size W w') := hH
        clear hH hR
        go_wp2_with (first
          | (go_at_call 108; (with_reducible refine (H.out _ (since_alloc SR.out)).mono ?_); rintro e u ⟨rfl, hb⟩; have T : Hid (Since v1 u) := since_call (since_alloc SR.out) hb; obtain ⟨y0, y1⟩ := (q.2.1.kept hb rfl).cells; have yl := (q.2.1.kept hb rfl).lt; clear hb))
        go_ret
        exact ⟨rfl, (since_call S1.out T.out.below).below⟩
    · have he : Sem.run Try.prog (Instr.index 201 (.agg #[.int .i64 (b 0), .slice (s 0) (n 0) (c 0), .int .i64 (b 1), .slice (s 1) (n 1) (c 1), .int .i64 (b 2), .slice (s 2) (n 2) (c 2), .int .i64 (b 3), .slice (s 3) (n 3) (c 3), .int .i64 (b 4), .slice (s 4) (n 4) (c 4)]) (.int .i64 2)) wr = .ok (.agg #[.int .i64 (b 2), .slice (s 2) (n 2) (c 2)]) wr := by kernel_rfl
      have q := boxing wr 45 (b 2) (s 2) (n 2) (c 2)
      have hH := fun W hW => HT.out 2 W (by decide) hW
      by_cases hR : Right (b 2) (n 2) (F 2)
      · rw [decide_eq_true hR] at hH
        have H : Hid (∀ W, Since v1 W → Calls Try.prog 108 #[.agg #[.int .i64 (b 2), .slice (s 2) (n 2) (c 2)]] W fun e w' => e = .returned (.bool true) ∧ Below W.heap.size W w') := hH
        have HR : Hid (Right (b 2) (n 2) (F 2)) := hR
        clear hH hR
        by_cases hB : b 2 = bv
        · have hbb : (b 2 == bv) = true := by simp [hB]
          have HB : Hid (b 2 = bv) := hB
          clear hB
          go_wp2_with (first
            | (go_at_call 108; (with_reducible refine (H.out _ (since_alloc SR.out)).mono ?_); rintro e u ⟨rfl, hb⟩; have T : Hid (Since v1 u) := since_call (since_alloc SR.out) hb; obtain ⟨y0, y1⟩ := (q.2.1.kept hb rfl).cells; have yl := (q.2.1.kept hb rfl).lt; clear hb))
          go_roundw
          case rel => exact ⟨3, by decide, by decide, by go_num, fun k hk => by
            by_cases e : k = 2
            · rw [e]; exact ⟨HR.out, HB.out⟩
            · exact OK.out k (by omega), T.out⟩
          case measure => simp [intOf]
        · have hbb : (b 2 == bv) = false := by simp [hB]
          clear hB
          go_wp2_with (first
            | (go_at_call 108; (with_reducible refine (H.out _ (since_alloc SR.out)).mono ?_); rintro e u ⟨rfl, hb⟩; have T : Hid (Since v1 u) := since_call (since_alloc SR.out) hb; obtain ⟨y0, y1⟩ := (q.2.1.kept hb rfl).cells; have yl := (q.2.1.kept hb rfl).lt; clear hb))
          go_ret
          exact ⟨rfl, (since_call S1.out T.out.below).below⟩
      · rw [decide_eq_false hR] at hH
        have H : Hid (∀ W, Since v1 W → Calls Try.prog 108 #[.agg #[.int .i64 (b 2), .slice (s 2) (n 2) (c 2)]] W fun e w' => e = .returned (.bool false) ∧ Below W.heap.size W w') := hH
        clear hH hR
        go_wp2_with (first
          | (go_at_call 108; (with_reducible refine (H.out _ (since_alloc SR.out)).mono ?_); rintro e u ⟨rfl, hb⟩; have T : Hid (Since v1 u) := since_call (since_alloc SR.out) hb; obtain ⟨y0, y1⟩ := (q.2.1.kept hb rfl).cells; have yl := (q.2.1.kept hb rfl).lt; clear hb))
        go_ret
        exact ⟨rfl, (since_call S1.out T.out.below).below⟩
    · have he : Sem.run Try.prog (Instr.index 201 (.agg #[.int .i64 (b 0), .slice (s 0) (n 0) (c 0), .int .i64 (b 1), .slice (s 1) (n 1) (c 1), .int .i64 (b 2), .slice (s 2) (n 2) (c 2), .int .i64 (b 3), .slice (s 3) (n 3) (c 3), .int .i64 (b 4), .slice (s 4) (n 4) (c 4)]) (.int .i64 3)) wr = .ok (.agg #[.int .i64 (b 3), .slice (s 3) (n 3) (c 3)]) wr := by kernel_rfl
      have q := boxing wr 45 (b 3) (s 3) (n 3) (c 3)
      have hH := fun W hW => HT.out 3 W (by decide) hW
      by_cases hR : Right (b 3) (n 3) (F 3)
      · rw [decide_eq_true hR] at hH
        have H : Hid (∀ W, Since v1 W → Calls Try.prog 108 #[.agg #[.int .i64 (b 3), .slice (s 3) (n 3) (c 3)]] W fun e w' => e = .returned (.bool true) ∧ Below W.heap.size W w') := hH
        have HR : Hid (Right (b 3) (n 3) (F 3)) := hR
        clear hH hR
        by_cases hB : b 3 = bv
        · have hbb : (b 3 == bv) = true := by simp [hB]
          have HB : Hid (b 3 = bv) := hB
          clear hB
          go_wp2_with (first
            | (go_at_call 108; (with_reducible refine (H.out _ (since_alloc SR.out)).mono ?_); rintro e u ⟨rfl, hb⟩; have T : Hid (Since v1 u) := since_call (since_alloc SR.out) hb; obtain ⟨y0, y1⟩ := (q.2.1.kept hb rfl).cells; have yl := (q.2.1.kept hb rfl).lt; clear hb))
          go_roundw
          case rel => exact ⟨4, by decide, by decide, by go_num, fun k hk => by
            by_cases e : k = 3
            · rw [e]; exact ⟨HR.out, HB.out⟩
            · exact OK.out k (by omega), T.out⟩
          case measure => simp [intOf]
        · have hbb : (b 3 == bv) = false := by simp [hB]
          clear hB
          go_wp2_with (first
            | (go_at_call 108; (with_reducible refine (H.out _ (since_alloc SR.out)).mono ?_); rintro e u ⟨rfl, hb⟩; have T : Hid (Since v1 u) := since_call (since_alloc SR.out) hb; obtain ⟨y0, y1⟩ := (q.2.1.kept hb rfl).cells; have yl := (q.2.1.kept hb rfl).lt; clear hb))
          go_ret
          exact ⟨rfl, (since_call S1.out T.out.below).below⟩
      · rw [decide_eq_false hR] at hH
        have H : Hid (∀ W, Since v1 W → Calls Try.prog 108 #[.agg #[.int .i64 (b 3), .slice (s 3) (n 3) (c 3)]] W fun e w' => e = .returned (.bool false) ∧ Below W.heap.size W w') := hH
        clear hH hR
        go_wp2_with (first
          | (go_at_call 108; (with_reducible refine (H.out _ (since_alloc SR.out)).mono ?_); rintro e u ⟨rfl, hb⟩; have T : Hid (Since v1 u) := since_call (since_alloc SR.out) hb; obtain ⟨y0, y1⟩ := (q.2.1.kept hb rfl).cells; have yl := (q.2.1.kept hb rfl).lt; clear hb))
        go_ret
        exact ⟨rfl, (since_call S1.out T.out.below).below⟩
    · have he : Sem.run Try.prog (Instr.index 201 (.agg #[.int .i64 (b 0), .slice (s 0) (n 0) (c 0), .int .i64 (b 1), .slice (s 1) (n 1) (c 1), .int .i64 (b 2), .slice (s 2) (n 2) (c 2), .int .i64 (b 3), .slice (s 3) (n 3) (c 3), .int .i64 (b 4), .slice (s 4) (n 4) (c 4)]) (.int .i64 4)) wr = .ok (.agg #[.int .i64 (b 4), .slice (s 4) (n 4) (c 4)]) wr := by kernel_rfl
      have q := boxing wr 45 (b 4) (s 4) (n 4) (c 4)
      have hH := fun W hW => HT.out 4 W (by decide) hW
      by_cases hR : Right (b 4) (n 4) (F 4)
      · rw [decide_eq_true hR] at hH
        have H : Hid (∀ W, Since v1 W → Calls Try.prog 108 #[.agg #[.int .i64 (b 4), .slice (s 4) (n 4) (c 4)]] W fun e w' => e = .returned (.bool true) ∧ Below W.heap.size W w') := hH
        have HR : Hid (Right (b 4) (n 4) (F 4)) := hR
        clear hH hR
        by_cases hB : b 4 = bv
        · have hbb : (b 4 == bv) = true := by simp [hB]
          have HB : Hid (b 4 = bv) := hB
          clear hB
          go_wp2_with (first
            | (go_at_call 108; (with_reducible refine (H.out _ (since_alloc SR.out)).mono ?_); rintro e u ⟨rfl, hb⟩; have T : Hid (Since v1 u) := since_call (since_alloc SR.out) hb; obtain ⟨y0, y1⟩ := (q.2.1.kept hb rfl).cells; have yl := (q.2.1.kept hb rfl).lt; clear hb))
          go_roundw
          case rel => exact ⟨5, by decide, by decide, by go_num, fun k hk => by
            by_cases e : k = 4
            · rw [e]; exact ⟨HR.out, HB.out⟩
            · exact OK.out k (by omega), T.out⟩
          case measure => simp [intOf]
        · have hbb : (b 4 == bv) = false := by simp [hB]
          clear hB
          go_wp2_with (first
            | (go_at_call 108; (with_reducible refine (H.out _ (since_alloc SR.out)).mono ?_); rintro e u ⟨rfl, hb⟩; have T : Hid (Since v1 u) := since_call (since_alloc SR.out) hb; obtain ⟨y0, y1⟩ := (q.2.1.kept hb rfl).cells; have yl := (q.2.1.kept hb rfl).lt; clear hb))
          go_ret
          exact ⟨rfl, (since_call S1.out T.out.below).below⟩
      · rw [decide_eq_false hR] at hH
        have H : Hid (∀ W, Since v1 W → Calls Try.prog 108 #[.agg #[.int .i64 (b 4), .slice (s 4) (n 4) (c 4)]] W fun e w' => e = .returned (.bool false) ∧ Below W.heap.size W w') := hH
        clear hH hR
        go_wp2_with (first
          | (go_at_call 108; (with_reducible refine (H.out _ (since_alloc SR.out)).mono ?_); rintro e u ⟨rfl, hb⟩; have T : Hid (Since v1 u) := since_call (since_alloc SR.out) hb; obtain ⟨y0, y1⟩ := (q.2.1.kept hb rfl).cells; have yl := (q.2.1.kept hb rfl).lt; clear hb))
        go_ret
        exact ⟨rfl, (since_call S1.out T.out.below).below⟩
    · exact absurd (fun i hi => OK.out i (by omega)) HNO.out
end Go.Proofs.Ytlgnplnmcdjbiaa
