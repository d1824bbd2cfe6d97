/- What is proved here: the program says of five vectors that they are not all right and of so many bits; nothing that was there turns.
   What is proved here: the program's CloseBy hands back the zero vector where a mask or the places are not right, or not of as many bits; nothing that was there turns.
   What is proved here: the specification's VecAnd hands back the words put together, in new memory, or nothing; nothing that was there turns. -/
import Derived.Test.YtlgnplnmcdjbiaaQMask5DToVecH
import Derived.Test.YtlgnplnmcdjbiaaQImplRightW
import Derived.Test.YtlgnplnmcdjbiaaQWalkOfWToSubAnyW
import Derived.Test.YtlgnplnmcdjbiaaQVecAndWToGetS
namespace Go.Proofs.Ytlgnplnmcdjbiaa
open Go.RowKit

open Classical in
set_option maxRecDepth 100000 in
set_option maxHeartbeats 8000000 in
theorem asMany_no (b : Nat → Int) (s : Nat → Option Addr) (n c : Nat → Nat) (F : Nat → Nat → Int) (bv : Int) (w : World) (hn : ∀ i, i < 5 → n i ≤ 1048576) (hr : ∀ i, i < 5 → Row w w.heap.size (s i) (n i) (F i)) (hno : ¬ ∀ i, i < 5 → Right (b i) (n i) (F i) ∧ b i = bv) :
    Calls Try.prog 109 #[m5V b s n c, .int .i64 bv] w fun e w' => e = .returned (.bool false) ∧ Below w.heap.size w w' := by
  have q1 := m5boxing w b s n c
  obtain ⟨v1, hv1⟩ : ∃ v, w.alloc (.cells #[.int .i64 (b 0), .slice (s 0) (n 0) (c 0), .int .i64 (b 1), .slice (s 1) (n 1) (c 1), .int .i64 (b 2), .slice (s 2) (n 2) (c 2), .int .i64 (b 3), .slice (s 3) (n 3) (c 3), .int .i64 (b 4), .slice (s 4) (n 4) (c 4)] 50) = v := ⟨_, rfl⟩
  rw [hv1] at q1
  have S1 : Hid (Since w v1) := since_call (since_refl _) q1.1
  have HT : Hid (∀ i W, i < 5 → Since v1 W → Calls Try.prog 108 #[.agg #[.int .i64 (b i), .slice (s i) (n i) (c i)]] W fun e w' => e = .returned (.bool (decide (Right (b i) (n i) (F i)))) ∧ Below W.heap.size W w') := fun i W hi hW =>
    implRight_any (b i) (s i) (n i) (c i) (F i) W (hn i hi) (row_since (row_since (hr i hi) S1.out) hW)
  have HNO : Hid (¬ ∀ i, i < 5 → Right (b i) (n i) (F i) ∧ b i = bv) := hno
  obtain ⟨x0, x1, x2, x3, x4, x5, x6, x7, x8, x9⟩ := q1.2.1.cells
  have xl := q1.2.1.lt
  clear q1 hr hno hn
  unfold m5V
  go_enter Try.func109, Try.ntmps109
  go_wp2_with fail
  clear x0 x1 x2 x3 x4 x5 x6 x7 x8 x9 xl
  go_loopw [18] (fun i wr => ∃ j : Int, 0 ≤ j ∧ j ≤ 5 ∧ i = .int .i64 j ∧ (∀ i : Nat, (i : Int) < j → Right (b i) (n i) (F i) ∧ b i = bv) ∧ Since v1 wr) (fun i _ => 5 - (intOf i).toNat)
  case atStart => exact ⟨0, by decide, by decide, rfl, fun i hi => by omega, since_refl _⟩
  case round =>
    obtain ⟨j, hj0, hj5, rfl, hok, hS⟩ := hrel
    have SR : Hid (Since v1 wr) := hS
    have OK : Hid (∀ i : Nat, (i : Int) < j → Right (b i) (n i) (F i) ∧ b i = bv) := hok
    clear hS hok
    have hc : j = 0 ∨ j = 1 ∨ j = 2 ∨ j = 3 ∨ j = 4 ∨ j = 5 := by omega
    clear hj0 hj5
    rcases hc with rfl | rfl | rfl | rfl | rfl | rfl
    · have he : Sem.run Try.prog (Instr.index 201 (.agg #[.int .i64 (b 0), .slice (s 0) (n 0) (c 0), .int .i64 (b 1), .slice (s 1) (n 1) (c 1), .int .i64 (b 2), .slice (s 2) (n 2) (c 2), .int .i64 (b 3), .slice (s 3) (n 3) (c 3), .int .i64 (b 4), .slice (s 4) (n 4) (c 4)]) (.int .i64 0)) wr = .ok (.agg #[.int .i64 (b 0), .slice (s 0) (n 0) (c 0)]) wr := by kernel_rfl
      have q := boxing wr 45 (b 0) (s 0) (n 0) (c 0)
      have hH := fun W hW => HT.out 0 W (by decide) hW
      by_cases hR : Right (b 0) (n 0) (F 0)
      · rw [decide_eq_true hR] at hH
        have H : Hid (∀ W, Since v1 W → Calls Try.prog 108 #[.agg #[.int .i64 (b 0), .slice (s 0) (n 0) (c 0)]] W fun e w' => e = .returned (.bool true) ∧ Below W.heap.size W w') := hH
        have HR : Hid (Right (b 0) (n 0) (F 0)) := hR
        clear hH hR
        by_cases hB : b 0 = bv
        · have hbb : (b 0 == bv) = true := by simp [hB]
          have HB : Hid (b 0 = bv) := hB
          clear hB
          go_wp2_with (first
            | (go_at_call 108; (with_reducible refine (H.out _ (since_alloc SR.out)).mono ?_); rintro e u ⟨rfl, hb⟩; have T : Hid (Since v1 u) := since_call (since_alloc SR.out) hb; obtain ⟨y0, y1⟩ := (q.2.1.kept hb rfl).cells; have yl := (q.2.1.kept hb rfl).lt; clear hb))
          go_roundw
          case rel => exact ⟨1, by decide, by decide, by go_num, fun k hk => by
            by_cases e : k = 0
            · rw [e]; exact ⟨HR.out, HB.out⟩
            · exact OK.out k (by omega), T.out⟩
          case measure => simp [intOf]
        · have hbb : (b 0 == bv) = false := by simp [hB]
          clear hB
          go_wp2_with (first
            | (go_at_call 108; (with_reducible refine (H.out _ (since_alloc SR.out)).mono ?_); rintro e u ⟨rfl, hb⟩; have T : Hid (Since v1 u) := since_call (since_alloc SR.out) hb; obtain ⟨y0, y1⟩ := (q.2.1.kept hb rfl).cells; have yl := (q.2.1.kept hb rfl).lt; clear hb))
          go_ret
          exact ⟨rfl, (since_call S1.out T.out.below).below⟩
      · rw [decide_eq_false hR] at hH
        have H : Hid (∀ W, Since v1 W → Calls Try.prog 108 #[.agg #[.int .i64 (b 0), .slice (s 0) (n 0) (c 0)]] W fun e w' => e = .returned (.bool false) ∧ Below W.heap.size W w') := hH
        clear hH hR
        go_wp2_with (first
          | (go_at_call 108; (with_reducible refine (H.out _ (since_alloc SR.out)).mono ?_); rintro e u ⟨rfl, hb⟩; have T : Hid (Since v1 u) := since_call (since_alloc SR.out) hb; obtain ⟨y0, y1⟩ := (q.2.1.kept hb rfl).cells; have yl := (q.2.1.kept hb rfl).lt; clear hb))
        go_ret
        exact ⟨rfl, (since_call S1.out T.out.below).below⟩
    · have he : Sem.run Try.prog (Instr.index 201 (.agg #[.int .i64 (b 0), .slice (s 0) (n 0) (c 0), .int .i64 (b 1), .slice (s 1) (n 1) (c 1), .int .i64 (b 2), .slice (s 2) (n 2) (c 2), .int .i64 (b 3), .slice (s 3) (n 3) (c 3), .int .i64 (b 4), .slice (s 4) (n 4) (c 4)]) (.int .i64 1)) wr = .ok (.agg #[.int .i64 (b 1), .slice (s 1) (n 1) (c 1)]) wr := by kernel_rfl
      have q := boxing wr 45 (b 1) (s 1) (n 1) (c 1)
      have hH := fun W hW => HT.out 1 W (by decide) hW
      by_cases hR : Right (b 1) (n 1) (F 1)
      · rw [decide_eq_true hR] at hH
        have H : Hid (∀ W, Since v1 W → Calls Try.prog 108 #[.agg #[.int .i64 (b 1), .slice (s 1) (n 1) (c 1)]] W fun e w' => e = .returned (.bool true) ∧ Below W.heap.size W w') := hH
        have HR : Hid (Right (b 1) (n 1) (F 1)) := hR
        clear hH hR
        by_cases hB : b 1 = bv
        · have hbb : (b 1 == bv) = true := by simp [hB]
          have HB : Hid (b 1 = bv) := hB
          clear hB
          go_wp2_with (first
            | (go_at_call 108; (with_reducible refine (H.out _ (since_alloc SR.out)).mono ?_); rintro e u ⟨rfl, hb⟩; have T : Hid (Since v1 u) := since_call (since_alloc SR.out) hb; obtain ⟨y0, y1⟩ := (q.2.1.kept hb rfl).cells; have yl := (q.2.1.kept hb rfl).lt; clear hb))
          go_roundw
          case rel => exact ⟨2, by decide, by decide, by go_num, fun k hk => by
            by_cases e : k = 1
            · rw [e]; exact ⟨HR.out, HB.out⟩
            · exact OK.out k (by omega), T.out⟩
          case measure => simp [intOf]
        · have hbb : (b 1 == bv) = false := by simp [hB]
          clear hB
          go_wp2_with (first
            | (go_at_call 108; (with_reducible refine (H.out _ (since_alloc SR.out)).mono ?_); rintro e u ⟨rfl, hb⟩; have T : Hid (Since v1 u) := since_call (since_alloc SR.out) hb; obtain ⟨y0, y1⟩ := (q.2.1.kept hb rfl).cells; have yl := (q.2.1.kept hb rfl).lt; clear hb))
          go_ret
          exact ⟨rfl, (since_call S1.out T.out.below).below⟩
      · rw [decide_eq_false hR] at hH
        have H : Hid (∀ W, Since v1 W → Calls Try.prog 108 #[.agg #[.int .i64 (b 1), .slice (s 1) (n 1) (c 1)]] W fun e w' => e = .returned (.bool false) ∧ Below W.heap.size W w') := hH
        clear hH hR
        go_wp2_with (first
          | (go_at_call 108; (with_reducible refine (H.out _ (since_alloc SR.out)).mono ?_); rintro e u ⟨rfl, hb⟩; have T : Hid (Since v1 u) := since_call (since_alloc SR.out) hb; obtain ⟨y0, y1⟩ := (q.2.1.kept hb rfl).cells; have yl := (q.2.1.kept hb rfl).lt; clear hb))
        go_ret
        exact ⟨rfl, (since_call S1.out T.out.below).below⟩
    · have he : Sem.run Try.prog (Instr.index 201 (.agg #[.int .i64 (b 0), .slice (s 0) (n 0) (c 0), .int .i64 (b 1), .slice (s 1) (n 1) (c 1), .int .i64 (b 2), .slice (s 2) (n 2) (c 2), .int .i64 (b 3), .slice (s 3) (n 3) (c 3), .int .i64 (b 4), .slice (s 4) (n 4) (c 4)]) (.int .i64 2)) wr = .ok (.agg #[.int .i64 (b 2), .slice (s 2) (n 2) (c 2)]) wr := by kernel_rfl
      have q := boxing wr 45 (b 2) (s 2) (n 2) (c 2)
      have hH := fun W hW => HT.out 2 W (by decide) hW
      by_cases hR : Right (b 2) (n 2) (F 2)
      · rw [decide_eq_true hR] at hH
        have H : Hid (∀ W, Since v1 W → Calls Try.prog 108 #[.agg #[.int .i64 (b 2), .slice (s 2) (n 2) (c 2)]] W fun e w' => e = .returned (.bool true) ∧ Below W.heap.size W w') := hH
        have HR : Hid (Right (b 2) (n 2) (F 2)) := hR
        clear hH hR
        by_cases hB : b 2 = bv
        · have hbb : (b 2 == bv) = true := by simp [hB]
          have HB : Hid (b 2 = bv) := hB
          clear hB
          go_wp2_with (first
            | (go_at_call 108; (with_reducible refine (H.out _ (since_alloc SR.out)).mono ?_); rintro e u ⟨rfl, hb⟩; have T : Hid (Since v1 u) := since_call (since_alloc SR.out) hb; obtain ⟨y0, y1⟩ := (q.2.1.kept hb rfl).cells; have yl := (q.2.1.kept hb rfl).lt; clear hb))
          go_roundw
          case rel => exact ⟨3, by decide, by decide, by go_num, fun k hk => by
            by_cases e : k = 2
            · rw [e]; exact ⟨HR.out, HB.out⟩
            · exact OK.out k (by omega), T.out⟩
          case measure => simp [intOf]
        · have hbb : (b 2 == bv) = false := by simp [hB]
          clear hB
          go_wp2_with (first
            | (go_at_call 108; (with_reducible refine (H.out _ (since_alloc SR.out)).mono ?_); rintro e u ⟨rfl, hb⟩; have T : Hid (Since v1 u) := since_call (since_alloc SR.out) hb; obtain ⟨y0, y1⟩ := (q.2.1.kept hb rfl).cells; have yl := (q.2.1.kept hb rfl).lt; clear hb))
          go_ret
          exact ⟨rfl, (since_call S1.out T.out.below).below⟩
      · rw [decide_eq_false hR] at hH
        have H : Hid (∀ W, Since v1 W → Calls Try.prog 108 #[.agg #[.int .i64 (b 2), .slice (s 2) (n 2) (c 2)]] W fun e w' => e = .returned (.bool false) ∧ Below W.heap.size W w') := hH
        clear hH hR
        go_wp2_with (first
          | (go_at_call 108; (with_reducible refine (H.out _ (since_alloc SR.out)).mono ?_); rintro e u ⟨rfl, hb⟩; have T : Hid (Since v1 u) := since_call (since_alloc SR.out) hb; obtain ⟨y0, y1⟩ := (q.2.1.kept hb rfl).cells; have yl := (q.2.1.kept hb rfl).lt; clear hb))
        go_ret
        exact ⟨rfl, (since_call S1.out T.out.below).below⟩
    · have he : Sem.run Try.prog (Instr.index 201 (.agg #[.int .i64 (b 0), .slice (s 0) (n 0) (c 0), .int .i64 (b 1), .slice (s 1) (n 1) (c 1), .int .i64 (b 2), .slice (s 2) (n 2) (c 2), .int .i64 (b 3), .slice (s 3) (n 3) (c 3), .int .i64 (b 4), .slice (s 4) (n 4) (c 4)]) (.int .i64 3)) wr = .ok (.agg #[.int .i64 (b 3), .slice (s 3) (n 3) (c 3)]) wr := by kernel_rfl
      have q := boxing wr 45 (b 3) (s 3) (n 3) (c 3)
      have hH := fun W hW => HT.out 3 W (by decide) hW
      by_cases hR : Right (b 3) (n 3) (F 3)
      · rw [decide_eq_true hR] at hH
        have H : Hid (∀ W, Since v1 W → Calls Try.prog 108 #[.agg #[.int .i64 (b 3), .slice (s 3) (n 3) (c 3)]] W fun e w' => e = .returned (.bool true) ∧ Below W.heap.size W w') := hH
        have HR : Hid (Right (b 3) (n 3) (F 3)) := hR
        clear hH hR
        by_cases hB : b 3 = bv
        · have hbb : (b 3 == bv) = true := by simp [hB]
          have HB : Hid (b 3 = bv) := hB
          clear hB
          go_wp2_with (first
            | (go_at_call 108; (with_reducible refine (H.out _ (since_alloc SR.out)).mono ?_); rintro e u ⟨rfl, hb⟩; have T : Hid (Since v1 u) := since_call (since_alloc SR.out) hb; obtain ⟨y0, y1⟩ := (q.2.1.kept hb rfl).cells; have yl := (q.2.1.kept hb rfl).lt; clear hb))
          go_roundw
          case rel => exact ⟨4, by decide, by decide, by go_num, fun k hk => by
            by_cases e : k = 3
            · rw [e]; exact ⟨HR.out, HB.out⟩
            · exact OK.out k (by omega), T.out⟩
          case measure => simp [intOf]
        · have hbb : (b 3 == bv) = false := by simp [hB]
          clear hB
          go_wp2_with (first
            | (go_at_call 108; (with_reducible refine (H.out _ (since_alloc SR.out)).mono ?_); rintro e u ⟨rfl, hb⟩; have T : Hid (Since v1 u) := since_call (since_alloc SR.out) hb; obtain ⟨y0, y1⟩ := (q.2.1.kept hb rfl).cells; have yl := (q.2.1.kept hb rfl).lt; clear hb))
          go_ret
          exact ⟨rfl, (since_call S1.out T.out.below).below⟩
      · rw [decide_eq_false hR] at hH
        have H : Hid (∀ W, Since v1 W → Calls Try.prog 108 #[.agg #[.int .i64 (b 3), .slice (s 3) (n 3) (c 3)]] W fun e w' => e = .returned (.bool false) ∧ Below W.heap.size W w') := hH
        clear hH hR
        go_wp2_with (first
          | (go_at_call 108; (with_reducible refine (H.out _ (since_alloc SR.out)).mono ?_); rintro e u ⟨rfl, hb⟩; have T : Hid (Since v1 u) := since_call (since_alloc SR.out) hb; obtain ⟨y0, y1⟩ := (q.2.1.kept hb rfl).cells; have yl := (q.2.1.kept hb rfl).lt; clear hb))
        go_ret
        exact ⟨rfl, (since_call S1.out T.out.below).below⟩
    · have he : Sem.run Try.prog (Instr.index 201 (.agg #[.int .i64 (b 0), .slice (s 0) (n 0) (c 0), .int .i64 (b 1), .slice (s 1) (n 1) (c 1), .int .i64 (b 2), .slice (s 2) (n 2) (c 2), .int .i64 (b 3), .slice (s 3) (n 3) (c 3), .int .i64 (b 4), .slice (s 4) (n 4) (c 4)]) (.int .i64 4)) wr = .ok (.agg #[.int .i64 (b 4), .slice (s 4) (n 4) (c 4)]) wr := by kernel_rfl
      have q := boxing wr 45 (b 4) (s 4) (n 4) (c 4)
      have hH := fun W hW => HT.out 4 W (by decide) hW
      by_cases hR : Right (b 4) (n 4) (F 4)
      · rw [decide_eq_true hR] at hH
        have H : Hid (∀ W, Since v1 W → Calls Try.prog 108 #[.agg #[.int .i64 (b 4), .slice (s 4) (n 4) (c 4)]] W fun e w' => e = .returned (.bool true) ∧ Below W.heap.size W w') := hH
        have HR : Hid (Right (b 4) (n 4) (F 4)) := hR
        clear hH hR
        by_cases hB : b 4 = bv
        · have hbb : (b 4 == bv) = true := by simp [hB]
          have HB : Hid (b 4 = bv) := hB
          clear hB
          go_wp2_with (first
            | (go_at_call 108; (with_reducible refine (H.out _ (since_alloc SR.out)).mono ?_); rintro e u ⟨rfl, hb⟩; have T : Hid (Since v1 u) := since_call (since_alloc SR.out) hb; obtain ⟨y0, y1⟩ := (q.2.1.kept hb rfl).cells; have yl := (q.2.1.kept hb rfl).lt; clear hb))
          go_roundw
          case rel => exact ⟨5, by decide, by decide, by go_num, fun k hk => by
            by_cases e : k = 4
            · rw [e]; exact ⟨HR.out, HB.out⟩
            · exact OK.out k (by omega), T.out⟩
          case measure => simp [intOf]
        · have hbb : (b 4 == bv) = false := by simp [hB]
          clear hB
          go_wp2_with (first
            | (go_at_call 108; (with_reducible refine (H.out _ (since_alloc SR.out)).mono ?_); rintro e u ⟨rfl, hb⟩; have T : Hid (Since v1 u) := since_call (since_alloc SR.out) hb; obtain ⟨y0, y1⟩ := (q.2.1.kept hb rfl).cells; have yl := (q.2.1.kept hb rfl).lt; clear hb))
          go_ret
          exact ⟨rfl, (since_call S1.out T.out.below).below⟩
      · rw [decide_eq_false hR] at hH
        have H : Hid (∀ W, Since v1 W → Calls Try.prog 108 #[.agg #[.int .i64 (b 4), .slice (s 4) (n 4) (c 4)]] W fun e w' => e = .returned (.bool false) ∧ Below W.heap.size W w') := hH
        clear hH hR
        go_wp2_with (first
          | (go_at_call 108; (with_reducible refine (H.out _ (since_alloc SR.out)).mono ?_); rintro e u ⟨rfl, hb⟩; have T : Hid (Since v1 u) := since_call (since_alloc SR.out) hb; obtain ⟨y0, y1⟩ := (q.2.1.kept hb rfl).cells; have yl := (q.2.1.kept hb rfl).lt; clear hb))
        go_ret
        exact ⟨rfl, (since_call S1.out T.out.below).below⟩
    · exact absurd (fun i hi => OK.out i (by omega)) HNO.out
end Go.Proofs.Ytlgnplnmcdjbiaa
namespace Go.Proofs.Ytlgnplnmcdjbiaa
open Go.RowKit

open Classical in
set_option maxRecDepth 100000 in
set_option maxHeartbeats 8000000 in
theorem implCBy_no (b : Nat → Int) (s : Nat → Option Addr) (n c : Nat → Nat) (F : Nat → Nat → Int) (bv : Int) (sv : Option Addr) (m cv : Nat) (g : Nat → Int) (w : World) (hn : ∀ i, i < 5 → n i ≤ 1048576) (hm : m ≤ 1048576) (hr : ∀ i, i < 5 → Row w w.heap.size (s i) (n i) (F i)) (hv : Row w w.heap.size sv m g) (hno : ¬ All5 b n F bv m g Right) :
    Calls Try.prog 35 #[m5V b s n c, .agg #[.int .i64 bv, .slice sv m cv]] w fun e w' => NewVec w 0 0 (fun _ => 0) e w' := by
  have q1 := m5boxing w b s n c
  obtain ⟨v1, hv1⟩ : ∃ v, w.alloc (.cells #[.int .i64 (b 0), .slice (s 0) (n 0) (c 0), .int .i64 (b 1), .slice (s 1) (n 1) (c 1), .int .i64 (b 2), .slice (s 2) (n 2) (c 2), .int .i64 (b 3), .slice (s 3) (n 3) (c 3), .int .i64 (b 4), .slice (s 4) (n 4) (c 4)] 50) = v := ⟨_, rfl⟩
  rw [hv1] at q1
  have q2 := boxing v1 45 bv sv m cv
  obtain ⟨v2, hv2⟩ : ∃ v, v1.alloc (.cells #[.int .i64 bv, .slice sv m cv] 45) = v := ⟨_, rfl⟩
  rw [hv2] at q2
  have q3 := boxing v2 45 0 none 0 0
  obtain ⟨v3, hv3⟩ : ∃ v, v2.alloc (.cells #[.int .i64 0, .slice none 0 0] 45) = v := ⟨_, rfl⟩
  rw [hv3] at q3
  have S3 : Hid (Since w v3) := since_call (since_call (since_call (since_refl _) q1.1) q2.1) q3.1
  have X : Hid (M5Box v3 w.heap.size b s n c) := (q1.2.1.kept q2.1 rfl).kept q3.1 rfl
  have z1 := q1.2.2
  have z2 := q2.2.2
  have Y : Hid (Boxed v3 v1.heap.size 45 bv sv m cv) := q2.2.1.kept q3.1 rfl
  have Z : Hid (Boxed v3 v2.heap.size 45 0 none 0 0) := q3.2.1
  have ZS : Hid (w.heap.size ≤ v2.heap.size) := by have : w.heap.size ≤ v2.heap.size := by rw [z2, z1]; omega
                                                   exact this
  have RV : Hid (Row v3 v3.heap.size sv m g) := row_since hv S3.out
  have RM : Hid (∀ i, i < 5 → Row v3 v3.heap.size (s i) (n i) (F i)) := fun i hi => row_since (hr i hi) S3.out
  have hv1' : ∀ W, Since v3 W → Calls Try.prog 108 #[.agg #[.int .i64 bv, .slice sv m cv]] W fun e w' => e = .returned (.bool (decide (Right bv m g))) ∧ Below W.heap.size W w' := fun W hW => implRight_any bv sv m cv g W hm (row_since RV.out hW)
  have HM : Hid ((¬ ∀ i, i < 5 → Right (b i) (n i) (F i) ∧ b i = bv) → ∀ W, Since v3 W → Calls Try.prog 109 #[.agg #[.int .i64 (b 0), .slice (s 0) (n 0) (c 0), .int .i64 (b 1), .slice (s 1) (n 1) (c 1), .int .i64 (b 2), .slice (s 2) (n 2) (c 2), .int .i64 (b 3), .slice (s 3) (n 3) (c 3), .int .i64 (b 4), .slice (s 4) (n 4) (c 4)], .int .i64 bv] W fun e w' => e = .returned (.bool false) ∧ Below W.heap.size W w') := fun h W hW => asMany_no b s n c F bv W hn (fun i hi => row_since (RM.out i hi) hW) h
  clear q1 q2 q3 z1 z2 hr hv
  have T0 : Hid (Since v3 v3) := since_refl _
  obtain ⟨x0, x1, x2, x3, x4, x5, x6, x7, x8, x9⟩ := (X.out.kept T0.out.below rfl).cells
  have xl := (X.out.kept T0.out.below rfl).lt
  obtain ⟨y0, y1⟩ := (Y.out.since T0.out).cells
  have yl := (Y.out.since T0.out).lt
  obtain ⟨z0, z1, z2, z3⟩ := (Z.out.since T0.out).four
  have zl := (Z.out.since T0.out).lt
  unfold m5V
  by_cases hR : Right bv m g
  · rw [decide_eq_true hR] at hv1'
    have HV : Hid (∀ W, Since v3 W → Calls Try.prog 108 #[.agg #[.int .i64 bv, .slice sv m cv]] W fun e w' => e = .returned (.bool true) ∧ Below W.heap.size W w') := hv1'
    have HA : Hid (∀ W, Since v3 W → Calls Try.prog 109 #[.agg #[.int .i64 (b 0), .slice (s 0) (n 0) (c 0), .int .i64 (b 1), .slice (s 1) (n 1) (c 1), .int .i64 (b 2), .slice (s 2) (n 2) (c 2), .int .i64 (b 3), .slice (s 3) (n 3) (c 3), .int .i64 (b 4), .slice (s 4) (n 4) (c 4)], .int .i64 bv] W fun e w' => e = .returned (.bool false) ∧ Below W.heap.size W w') := HM.out (fun h => hno (fun i hi => ⟨(h i hi).1, hR, (h i hi).2⟩))
    clear hv1' HM hR hno
    go_enter Try.func35, Try.ntmps35
    go_wp2_with (first
      | (go_at_call 108; (with_reducible refine (HV.out _ T0.out).mono ?_); rintro e u1 ⟨rfl, hb⟩; have T1 : Hid (Since v3 u1) := since_call T0.out hb; clear hb; obtain ⟨x0, x1, x2, x3, x4, x5, x6, x7, x8, x9⟩ := (X.out.kept T1.out.below rfl).cells; have xl := (X.out.kept T1.out.below rfl).lt; obtain ⟨y0, y1⟩ := (Y.out.since T1.out).cells; have yl := (Y.out.since T1.out).lt; obtain ⟨z0, z1, z2, z3⟩ := (Z.out.since T1.out).four; have zl := (Z.out.since T1.out).lt)
      | (go_at_call 109; (with_reducible refine (HA.out _ T1.out).mono ?_); rintro e u2 ⟨rfl, hb⟩; have T2 : Hid (Since v3 u2) := since_call T1.out hb; clear hb; obtain ⟨x0, x1, x2, x3, x4, x5, x6, x7, x8, x9⟩ := (X.out.kept T2.out.below rfl).cells; have xl := (X.out.kept T2.out.below rfl).lt; obtain ⟨y0, y1⟩ := (Y.out.since T2.out).cells; have yl := (Y.out.since T2.out).lt; obtain ⟨z0, z1, z2, z3⟩ := (Z.out.since T2.out).four; have zl := (Z.out.since T2.out).lt))
    go_wp2_with fail
    refine bodyPost_ret (v := vecV 0 none 0 0) (by simp [results, Try.results35, go_sem, vecV, z0, z1]) rfl ?_
    have hSS := since_call S3.out T2.out.below
    have hz := ZS.out
    exact ⟨_, _, rfl, (since_set (since_set hSS (by show w.heap.size ≤ v2.heap.size; exact hz)) (by show w.heap.size ≤ v2.heap.size; exact hz)).below, Or.inl rfl⟩
  · rw [decide_eq_false hR] at hv1'
    have HV : Hid (∀ W, Since v3 W → Calls Try.prog 108 #[.agg #[.int .i64 bv, .slice sv m cv]] W fun e w' => e = .returned (.bool false) ∧ Below W.heap.size W w') := hv1'
    clear hv1' HM hR hno
    go_enter Try.func35, Try.ntmps35
    go_wp2_with (first
      | (go_at_call 108; (with_reducible refine (HV.out _ T0.out).mono ?_); rintro e u1 ⟨rfl, hb⟩; have T1 : Hid (Since v3 u1) := since_call T0.out hb; clear hb; obtain ⟨x0, x1, x2, x3, x4, x5, x6, x7, x8, x9⟩ := (X.out.kept T1.out.below rfl).cells; have xl := (X.out.kept T1.out.below rfl).lt; obtain ⟨y0, y1⟩ := (Y.out.since T1.out).cells; have yl := (Y.out.since T1.out).lt; obtain ⟨z0, z1, z2, z3⟩ := (Z.out.since T1.out).four; have zl := (Z.out.since T1.out).lt))
    go_wp2_with fail
    refine bodyPost_ret (v := vecV 0 none 0 0) (by simp [results, Try.results35, go_sem, vecV, z0, z1]) rfl ?_
    have hSS := since_call S3.out T1.out.below
    have hz := ZS.out
    exact ⟨_, _, rfl, (since_set (since_set hSS (by show w.heap.size ≤ v2.heap.size; exact hz)) (by show w.heap.size ≤ v2.heap.size; exact hz)).below, Or.inl rfl⟩
end Go.Proofs.Ytlgnplnmcdjbiaa
namespace Go.Proofs.Ytlgnplnmcdjbiaa
open Go.RowKit

open Classical in
set_option maxHeartbeats 2000000 in
theorem specVecAnd_yes (b : Int) (sa sb : Option Addr) (n ka kb : Nat) (f g : Nat → Int) (w : World) (hn : n ≤ 1048576) (ha : Row w w.heap.size sa n f) (hb : Row w w.heap.size sb n g) (h1 : Right b n f) (h2 : Right b n g) :
    Calls Try.prog 40 #[.agg #[.int .i64 b, .slice sa n ka], .agg #[.int .i64 b, .slice sb n kb]] w fun e w' => NewVec w b n (fun i => bits .and .i64 (f i) (g i)) e w' := by
  have HA : Hid (Row w w.heap.size sa n f) := ha
  have HB : Hid (Row w w.heap.size sb n g) := hb
  have hn0 := (words_same h1 h2 rfl).2
  have C1 := fun W h h' => two_any b b sa sb n n ka kb f g W hn hn h h'
  have e1 : decide (Right b n f ∧ Right b n g ∧ b = b) = true := decide_eq_true ⟨h1, h2, rfl⟩
  rw [e1] at C1
  have HC1 : Hid (∀ W, Row W W.heap.size sa n f → Row W W.heap.size sb n g → Calls Try.prog 115 #[.agg #[.int .i64 b, .slice sa n ka], .agg #[.int .i64 b, .slice sb n kb]] W fun e w' => e = .returned (.bool true) ∧ Below W.heap.size W w') := C1
  clear C1 e1 ha hb h1 h2
  go_enter Try.func40, Try.ntmps40
  go_wp2_with fail
  have q1 := boxing w 45 b sa n ka
  generalize w.alloc (.cells #[.int .i64 b, .slice sa n ka] 45) = v1 at *
  have q2 := boxing v1 45 b sb n kb
  generalize v1.alloc (.cells #[.int .i64 b, .slice sb n kb] 45) = v2 at *
  have q3 := boxing v2 45 0 none 0 0
  generalize v2.alloc (.cells #[.int .i64 0, .slice none 0 0] 45) = v3 at *
  have X1 : Hid (Boxed v3 w.heap.size 45 b sa n ka) := (q1.2.1.kept q2.1 rfl).kept q3.1 rfl
  have X2 : Hid (Boxed v3 (w.heap.size + 1) 45 b sb n kb) := by rw [← q1.2.2]; exact q2.2.1.kept q3.1 rfl
  have X3 : Hid (Boxed v3 (w.heap.size + 2) 45 0 none 0 0) := by rw [show w.heap.size + 2 = v2.heap.size by rw [q2.2.2, q1.2.2]]; exact q3.2.1
  have S3 : Hid (Since w v3) := since_call (since_call (since_call (since_refl _) q1.1) q2.1) q3.1
  have z3 : v3.heap.size = w.heap.size + 3 := by rw [q3.2.2, q2.2.2, q1.2.2]
  clear q1 q2 q3
  refine (HC1.out _ (row_since HA.out S3.out) (row_since HB.out S3.out)).mono ?_
  rintro e w4 ⟨rfl, hb4⟩
  have z4 : w.heap.size + 3 ≤ w4.heap.size := by have := hb4.size; omega
  have Y1 : Hid (Boxed w4 w.heap.size 45 b sa n ka) := X1.out.kept hb4 rfl
  have Y2 : Hid (Boxed w4 (w.heap.size + 1) 45 b sb n kb) := X2.out.kept hb4 rfl
  have Y3 : Hid (Boxed w4 (w.heap.size + 2) 45 0 none 0 0) := X3.out.kept hb4 rfl
  have S4 : Hid (Since w w4) := since_call S3.out hb4
  clear hb4 X1 X2 X3 S3 z3
  obtain ⟨ca0, ca1⟩ := Y1.out.cells
  obtain ⟨cb0, cb1⟩ := Y2.out.cells
  go_wp2_with fail
  refine (l02And_any b b sa sb n ka kb f g w4 hn0 hn (row_since HA.out S4.out) (row_since HB.out S4.out)).mono ?_
  clear ca0 ca1 cb0 cb1
  rintro e w5 ⟨s5, c5, rfl, hb5, ho5⟩
  unfold vecV
  obtain ⟨cc0, cc1, cc2, cc3⟩ := (Y3.out.kept hb5 rfl).four
  have HO : Hid (OwnS w5 w4.heap.size s5 n (fun i => bits .and .i64 (f i) (g i))) := ho5
  have S5 : Hid (Since w w5) := since_call S4.out hb5
  clear hb5 ho5 Y1 Y2 Y3
  go_wp2
  refine bodyPost_ret (v := vecV b s5 n c5) (by simp [results, Try.results40, go_sem, vecV, cc0, cc1]) rfl ?_
  refine ⟨_, _, rfl, (since_set (since_set S5.out (by show w.heap.size ≤ w.heap.size + 2; omega)) (by show w.heap.size ≤ w.heap.size + 2; omega)).below, ?_⟩
  rcases HO.out with h | ⟨g5, h1, h2, h3⟩
  · exact Or.inl h
  · exact Or.inr ⟨g5, h1, by omega, (h3.setOther _ _ (by show w.heap.size + 2 ≠ g5; omega)).setOther _ _ (by show w.heap.size + 2 ≠ g5; omega)⟩

open Classical in
set_option maxHeartbeats 2000000 in
theorem specVecAnd_no (b c : Int) (sa sb : Option Addr) (n m ka kb : Nat) (f g : Nat → Int) (w : World) (hn : n ≤ 1048576) (hm : m ≤ 1048576) (ha : Row w w.heap.size sa n f) (hb : Row w w.heap.size sb m g) (hno : ¬ (Right b n f ∧ Right c m g ∧ b = c)) :
    Calls Try.prog 40 #[.agg #[.int .i64 b, .slice sa n ka], .agg #[.int .i64 c, .slice sb m kb]] w fun e w' => NewVec w 0 0 (fun _ => 0) e w' := by
  have HA : Hid (Row w w.heap.size sa n f) := ha
  have HB : Hid (Row w w.heap.size sb m g) := hb
  have C1 := fun W h h' => two_any b c sa sb n m ka kb f g W hn hm h h'
  have e1 : decide (Right b n f ∧ Right c m g ∧ b = c) = false := decide_eq_false hno
  rw [e1] at C1
  have HC1 : Hid (∀ W, Row W W.heap.size sa n f → Row W W.heap.size sb m g → Calls Try.prog 115 #[.agg #[.int .i64 b, .slice sa n ka], .agg #[.int .i64 c, .slice sb m kb]] W fun e w' => e = .returned (.bool false) ∧ Below W.heap.size W w') := C1
  clear C1 e1 ha hb hno
  go_enter Try.func40, Try.ntmps40
  go_wp2_with fail
  have q1 := boxing w 45 b sa n ka
  generalize w.alloc (.cells #[.int .i64 b, .slice sa n ka] 45) = v1 at *
  have q2 := boxing v1 45 c sb m kb
  generalize v1.alloc (.cells #[.int .i64 c, .slice sb m kb] 45) = v2 at *
  have q3 := boxing v2 45 0 none 0 0
  generalize v2.alloc (.cells #[.int .i64 0, .slice none 0 0] 45) = v3 at *
  have X3 : Hid (Boxed v3 (w.heap.size + 2) 45 0 none 0 0) := by rw [show w.heap.size + 2 = v2.heap.size by rw [q2.2.2, q1.2.2]]; exact q3.2.1
  have S3 : Hid (Since w v3) := since_call (since_call (since_call (since_refl _) q1.1) q2.1) q3.1
  clear q1 q2 q3
  refine (HC1.out _ (row_since HA.out S3.out) (row_since HB.out S3.out)).mono ?_
  rintro e w4 ⟨rfl, hb4⟩
  obtain ⟨cc0, cc1, cc2, cc3⟩ := (X3.out.kept hb4 rfl).four
  have S4 : Hid (Since w w4) := since_call S3.out hb4
  clear hb4 X3 S3
  go_wp2
  refine bodyPost_ret (v := vecV 0 none 0 0) (by simp [results, Try.results40, go_sem, vecV, cc0, cc1]) rfl ?_
  exact ⟨_, _, rfl, (since_set (since_set S4.out (by show w.heap.size ≤ w.heap.size + 2; omega)) (by show w.heap.size ≤ w.heap.size + 2; omega)).below, Or.inl rfl⟩
end Go.Proofs.Ytlgnplnmcdjbiaa
