/- What is proved here: the program says of five right vectors of so many bits that they are so; nothing that was there turns. -/
import Derived.Test.YtlgnplnmcdjbiaaQCByM
import Derived.Test.YtlgnplnmcdjbiaaQImplRightW
namespace Go.Proofs.Ytlgnplnmcdjbiaa
open Go.RowKit

open Classical in
set_option maxRecDepth 100000 in
set_option maxHeartbeats 8000000 in
theorem asMany_yes (b : Int) (s : Nat → Option Addr) (n : Nat) (c : Nat → Nat) (F : Nat → Nat → Int) (w : World) (hn : n ≤ 1048576) (hr : ∀ i, i < 5 → Row w w.heap.size (s i) n (F i)) (h : ∀ i, i < 5 → Right b n (F i)) :
    Calls Try.prog 109 #[masksV b s n c, .int .i64 b] w fun e w' => e = .returned (.bool true) ∧ Below w.heap.size w w' := by
  have q1 := mboxing w b s n c
  obtain ⟨v1, hv1⟩ : ∃ v, w.alloc (.cells #[.int .i64 b, .slice (s 0) n (c 0), .int .i64 b, .slice (s 1) n (c 1), .int .i64 b, .slice (s 2) n (c 2), .int .i64 b, .slice (s 3) n (c 3), .int .i64 b, .slice (s 4) n (c 4)] 50) = v := ⟨_, rfl⟩
  rw [hv1] at q1
  have S1 : Hid (Since w v1) := since_call (since_refl _) q1.1
  have HT : Hid (∀ i W, i < 5 → Since v1 W → Calls Try.prog 108 #[.agg #[.int .i64 b, .slice (s i) n (c i)]] W fun e w' => e = .returned (.bool true) ∧ Below W.heap.size W w') := fun i W hi hW => by
    have k := implRight_any b (s i) n (c i) (F i) W hn (row_since (row_since (hr i hi) S1.out) hW)
    rw [decide_eq_true (h i hi)] at k
    exact k
  obtain ⟨x0, x1, x2, x3, x4, x5, x6, x7, x8, x9⟩ := q1.2.1.cells
  have xl := q1.2.1.lt
  clear q1 hr h
  unfold masksV
  go_enter Try.func109, Try.ntmps109
  go_wp2_with fail
  clear x0 x1 x2 x3 x4 x5 x6 x7 x8 x9 xl
  go_loopw [18] (fun i wr => ∃ j : Int, 0 ≤ j ∧ j ≤ 5 ∧ i = .int .i64 j ∧ Since v1 wr) (fun i _ => 5 - (intOf i).toNat)
  case atStart => exact ⟨0, by decide, by decide, rfl, since_refl _⟩
  case round =>
    obtain ⟨j, hj0, hj5, rfl, hS⟩ := hrel
    have SR : Hid (Since v1 wr) := hS
    clear hS
    have hc : j = 0 ∨ j = 1 ∨ j = 2 ∨ j = 3 ∨ j = 4 ∨ j = 5 := by omega
    clear hj0 hj5
    rcases hc with rfl | rfl | rfl | rfl | rfl | rfl
    · have he : Sem.run Try.prog (Instr.index 201 (.agg #[.int .i64 b, .slice (s 0) n (c 0), .int .i64 b, .slice (s 1) n (c 1), .int .i64 b, .slice (s 2) n (c 2), .int .i64 b, .slice (s 3) n (c 3), .int .i64 b, .slice (s 4) n (c 4)]) (.int .i64 0)) wr = .ok (.agg #[.int .i64 b, .slice (s 0) n (c 0)]) wr := by kernel_rfl
      have q := boxing wr 45 b (s 0) n (c 0)
      have hbb : (b == b) = true := by simp
      go_wp2_with (first
        | (go_at_call 108; (with_reducible refine (HT.out 0 _ (by decide) (since_alloc SR.out)).mono ?_); rintro e u ⟨rfl, hb⟩; have T : Hid (Since v1 u) := since_call (since_alloc SR.out) hb; obtain ⟨y0, y1⟩ := (q.2.1.kept hb rfl).cells; have yl := (q.2.1.kept hb rfl).lt; clear hb))
      go_roundw
      case rel => exact ⟨1, by decide, by decide, by go_num, T.out⟩
      case measure => simp [intOf]
    · have he : Sem.run Try.prog (Instr.index 201 (.agg #[.int .i64 b, .slice (s 0) n (c 0), .int .i64 b, .slice (s 1) n (c 1), .int .i64 b, .slice (s 2) n (c 2), .int .i64 b, .slice (s 3) n (c 3), .int .i64 b, .slice (s 4) n (c 4)]) (.int .i64 1)) wr = .ok (.agg #[.int .i64 b, .slice (s 1) n (c 1)]) wr := by kernel_rfl
      have q := boxing wr 45 b (s 1) n (c 1)
      have hbb : (b == b) = true := by simp
      go_wp2_with (first
        | (go_at_call 108; (with_reducible refine (HT.out 1 _ (by decide) (since_alloc SR.out)).mono ?_); rintro e u ⟨rfl, hb⟩; have T : Hid (Since v1 u) := since_call (since_alloc SR.out) hb; obtain ⟨y0, y1⟩ := (q.2.1.kept hb rfl).cells; have yl := (q.2.1.kept hb rfl).lt; clear hb))
      go_roundw
      case rel => exact ⟨2, by decide, by decide, by go_num, T.out⟩
      case measure => simp [intOf]
    · have he : Sem.run Try.prog (Instr.index 201 (.agg #[.int .i64 b, .slice (s 0) n (c 0), .int .i64 b, .slice (s 1) n (c 1), .int .i64 b, .slice (s 2) n (c 2), .int .i64 b, .slice (s 3) n (c 3), .int .i64 b, .slice (s 4) n (c 4)]) (.int .i64 2)) wr = .ok (.agg #[.int .i64 b, .slice (s 2) n (c 2)]) wr := by kernel_rfl
      have q := boxing wr 45 b (s 2) n (c 2)
      have hbb : (b == b) = true := by simp
      go_wp2_with (first
        | (go_at_call 108; (with_reducible refine (HT.out 2 _ (by decide) (since_alloc SR.out)).mono ?_); rintro e u ⟨rfl, hb⟩; have T : Hid (Since v1 u) := since_call (since_alloc SR.out) hb; obtain ⟨y0, y1⟩ := (q.2.1.kept hb rfl).cells; have yl := (q.2.1.kept hb rfl).lt; clear hb))
      go_roundw
      case rel => exact ⟨3, by decide, by decide, by go_num, T.out⟩
      case measure => simp [intOf]
    · have he : Sem.run Try.prog (Instr.index 201 (.agg #[.int .i64 b, .slice (s 0) n (c 0), .int .i64 b, .slice (s 1) n (c 1), .int .i64 b, .slice (s 2) n (c 2), .int .i64 b, .slice (s 3) n (c 3), .int .i64 b, .slice (s 4) n (c 4)]) (.int .i64 3)) wr = .ok (.agg #[.int .i64 b, .slice (s 3) n (c 3)]) wr := by kernel_rfl
      have q := boxing wr 45 b (s 3) n (c 3)
      have hbb : (b == b) = true := by simp
      go_wp2_with (first
        | (go_at_call 108; (with_reducible refine (HT.out 3 _ (by decide) (since_alloc SR.out)).mono ?_); rintro e u ⟨rfl, hb⟩; have T : Hid (Since v1 u) := since_call (since_alloc SR.out) hb; obtain ⟨y0, y1⟩ := (q.2.1.kept hb rfl).cells; have yl := (q.2.1.kept hb rfl).lt; clear hb))
      go_roundw
      case rel => exact ⟨4, by decide, by decide, by go_num, T.out⟩
      case measure => simp [intOf]
    · have he : Sem.run Try.prog (Instr.index 201 (.agg #[.int .i64 b, .slice (s 0) n (c 0), .int .i64 b, .slice (s 1) n (c 1), .int .i64 b, .slice (s 2) n (c 2), .int .i64 b, .slice (s 3) n (c 3), .int .i64 b, .slice (s 4) n (c 4)]) (.int .i64 4)) wr = .ok (.agg #[.int .i64 b, .slice (s 4) n (c 4)]) wr := by kernel_rfl
      have q := boxing wr 45 b (s 4) n (c 4)
      have hbb : (b == b) = true := by simp
      go_wp2_with (first
        | (go_at_call 108; (with_reducible refine (HT.out 4 _ (by decide) (since_alloc SR.out)).mono ?_); rintro e u ⟨rfl, hb⟩; have T : Hid (Since v1 u) := since_call (since_alloc SR.out) hb; obtain ⟨y0, y1⟩ := (q.2.1.kept hb rfl).cells; have yl := (q.2.1.kept hb rfl).lt; clear hb))
      go_roundw
      case rel => exact ⟨5, by decide, by decide, by go_num, T.out⟩
      case measure => simp [intOf]
    · go_wp2_with fail
      go_ret
      exact ⟨rfl, (since_call S1.out SR.out.below).below⟩
end Go.Proofs.Ytlgnplnmcdjbiaa
