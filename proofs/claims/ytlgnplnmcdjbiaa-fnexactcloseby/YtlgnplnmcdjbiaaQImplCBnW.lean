/- What is proved here: the program's CloseBy hands back the zero vector where a mask or the places are not right, or not of as many bits; nothing that was there turns. -/
import Derived.Test.YtlgnplnmcdjbiaaQMaskDToMask5S
import Derived.Test.YtlgnplnmcdjbiaaQAsManyNW
namespace Go.Proofs.Ytlgnplnmcdjbiaa
open Go.RowKit

open Classical in
set_option maxRecDepth 100000 in
set_option maxHeartbeats 8000000 in
theorem implCBy_no (b : Nat → Int) (s : Nat → Option Addr) (n c : Nat → Nat) (F : Nat → Nat → Int) (bv : Int) (sv : Option Addr) (m cv : Nat) (g : Nat → Int) (w : World) (hn : ∀ i, i < 5 → n i ≤ 1048576) (hm : m ≤ 1048576) (hr : ∀ i, i < 5 → Row w w.heap.size (s i) (n i) (F i)) (hv : Row w w.heap.size sv m g) (hno : ¬ All5 b n F bv m g Right) :
    Calls Try.prog 35 #[m5V b s n c, .agg #[.int .i64 bv, .slice sv m cv]] w fun e w' => NewVec w 0 0 (fun _ => 0) e w' := by
  have q1 := m5boxing w b s n c
  obtain ⟨v1, hv1⟩ : ∃ v, w.alloc (.cells #[.int .i64 (b 0), .slice (s 0) (n 0) (c 0), .int .i64 (b 1), .slice (s 1) (n 1) (c 1), .int .i64 (b 2), .slice (s 2) (n 2) (c 2), .int .i64 (b 3), .slice (s 3) (n 3) (c 3), .int .i64 (b 4), .slice (s 4) (n 4) (c 4)] 50) = v := ⟨_, rfl⟩
  rw [hv1] at q1
  have q2 := boxing v1 45 bv sv m cv
  obtain ⟨v2, hv2⟩ : ∃ v, v1.alloc (.cells #[.int .i64 bv, .slice sv m cv] 45) = v := ⟨_, rfl⟩
  rw [hv2] at q2
  have q3 := boxing v2 45 0 none 0 0
  obtain ⟨v3, hv3⟩ : ∃ v, v2.alloc (.cells #[.int .i64 0, .slice none 0 0] 45) = v := ⟨_, rfl⟩
  rw [hv3] at q3
  have S3 : Hid (Since w v3) := since_call (since_call (since_call (since_refl _) q1.1) q2.1) q3.1
  have X : Hid (M5Box v3 w.heap.size b s n c) := (q1.2.1.kept q2.1 rfl).kept q3.1 rfl
  have z1 := q1.2.2
  have z2 := q2.2.2
  have Y : Hid (Boxed v3 v1.heap.size 45 bv sv m cv) := q2.2.1.kept q3.1 rfl
  have Z : Hid (Boxed v3 v2.heap.size 45 0 none 0 0) := q3.2.1
  have ZS : Hid (w.heap.size ≤ v2.heap.size) := by have : w.heap.size ≤ v2.heap.size := by rw [z2, z1]; omega
                                                   exact this
  have RV : Hid (Row v3 v3.heap.size sv m g) := row_since hv S3.out
  have RM : Hid (∀ i, i < 5 → Row v3 v3.heap.size (s i) (n i) (F i)) := fun i hi => row_since (hr i hi) S3.out
  have hv1' : ∀ W, Since v3 W → Calls Try.prog 108 #[.agg #[.int .i64 bv, .slice sv m cv]] W fun e w' => e = .returned (.bool (decide (Right bv m g))) ∧ Below W.heap.size W w' := fun W hW => implRight_any bv sv m cv g W hm (row_since RV.out hW)
  have HM : Hid ((¬ ∀ i, i < 5 → Right (b i) (n i) (F i) ∧ b i = bv) → ∀ W, Since v3 W → Calls Try.prog 109 #[.agg #[.int .i64 (b 0), .slice (s 0) (n 0) (c 0), .int .i64 (b 1), .slice (s 1) (n 1) (c 1), .int .i64 (b 2), .slice (s 2) (n 2) (c 2), .int .i64 (b 3), .slice (s 3) (n 3) (c 3), .int .i64 (b 4), .slice (s 4) (n 4) (c 4)], .int .i64 bv] W fun e w' => e = .returned (.bool false) ∧ Below W.heap.size W w') := fun h W hW => asMany_no b s n c F bv W hn (fun i hi => row_since (RM.out i hi) hW) h
  clear q1 q2 q3 z1 z2 hr hv
  have T0 : Hid (Since v3 v3) := since_refl _
  obtain ⟨x0, x1, x2, x3, x4, x5, x6, x7, x8, x9⟩ := (X.out.kept T0.out.below rfl).cells
  have xl := (X.out.kept T0.out.below rfl).lt
  obtain ⟨y0, y1⟩ := (Y.out.since T0.out).cells
  have yl := (Y.out.since T0.out).lt
  obtain ⟨z0, z1, z2, z3⟩ := (Z.out.since T0.out).four
  have zl := (Z.out.since T0.out).lt
  unfold m5V
  by_cases hR : Right bv m g
  · rw [decide_eq_true hR] at hv1'
    have HV : Hid (∀ W, Since v3 W → Calls Try.prog 108 #[.agg #[.int .i64 bv, .slice sv m cv]] W fun e w' => e = .returned (.bool true) ∧ Below W.heap.size W w') := hv1'
    have HA : Hid (∀ W, Since v3 W → Calls Try.prog 109 #[.agg #[.int .i64 (b 0), .slice (s 0) (n 0) (c 0), .int .i64 (b 1), .slice (s 1) (n 1) (c 1), .int .i64 (b 2), .slice (s 2) (n 2) (c 2), .int .i64 (b 3), .slice (s 3) (n 3) (c 3), .int .i64 (b 4), .slice (s 4) (n 4) (c 4)], .int .i64 bv] W fun e w' => e = .returned (.bool false) ∧ Below W.heap.size W w') := HM.out (fun h => hno (fun i hi => ⟨(h i hi).1, hR, (h i hi).2⟩))
    clear hv1' HM hR hno
    go_enter Try.func35, Try.ntmps35
    go_wp2_with (first
      | (go_at_call 108; (with_reducible refine (HV.out _ T0.out).mono ?_); rintro e u1 ⟨rfl, hb⟩; have T1 : Hid (Since v3 u1) := since_call T0.out hb; clear hb; obtain ⟨x0, x1, x2, x3, x4, x5, x6, x7, x8, x9⟩ := (X.out.kept T1.out.below rfl).cells; have xl := (X.out.kept T1.out.below rfl).lt; obtain ⟨y0, y1⟩ := (Y.out.since T1.out).cells; have yl := (Y.out.since T1.out).lt; obtain ⟨z0, z1, z2, z3⟩ := (Z.out.since T1.out).four; have zl := (Z.out.since T1.out).lt)
      | (go_at_call 109; (with_reducible refine (HA.out _ T1.out).mono ?_); rintro e u2 ⟨rfl, hb⟩; have T2 : Hid (Since v3 u2) := since_call T1.out hb; clear hb; obtain ⟨x0, x1, x2, x3, x4, x5, x6, x7, x8, x9⟩ := (X.out.kept T2.out.below rfl).cells; have xl := (X.out.kept T2.out.below rfl).lt; obtain ⟨y0, y1⟩ := (Y.out.since T2.out).cells; have yl := (Y.out.since T2.out).lt; obtain ⟨z0, z1, z2, z3⟩ := (Z.out.since T2.out).four; have zl := (Z.out.since T2.out).lt))
    go_wp2_with fail
    refine bodyPost_ret (v := vecV 0 none 0 0) (by simp [results, Try.results35, go_sem, vecV, z0, z1]) rfl ?_
    have hSS := since_call S3.out T2.out.below
    have hz := ZS.out
    exact ⟨_, _, rfl, (since_set (since_set hSS (by show w.heap.size ≤ v2.heap.size; exact hz)) (by show w.heap.size ≤ v2.heap.size; exact hz)).below, Or.inl rfl⟩
  · rw [decide_eq_false hR] at hv1'
    have HV : Hid (∀ W, Since v3 W → Calls Try.prog 108 #[.agg #[.int .i64 bv, .slice sv m cv]] W fun e w' => e = .returned (.bool false) ∧ Below W.heap.size W w') := hv1'
    clear hv1' HM hR hno
    go_enter Try.func35, Try.ntmps35
    go_wp2_with (first
      | (go_at_call 108; (with_reducible refine (HV.out _ T0.out).mono ?_); rintro e u1 ⟨rfl, hb⟩; have T1 : Hid (Since v3 u1) := since_call T0.out hb; clear hb; obtain ⟨x0, x1, x2, x3, x4, x5, x6, x7, x8, x9⟩ := (X.out.kept T1.out.below rfl).cells; have xl := (X.out.kept T1.out.below rfl).lt; obtain ⟨y0, y1⟩ := (Y.out.since T1.out).cells; have yl := (Y.out.since T1.out).lt; obtain ⟨z0, z1, z2, z3⟩ := (Z.out.since T1.out).four; have zl := (Z.out.since T1.out).lt))
    go_wp2_with fail
    refine bodyPost_ret (v := vecV 0 none 0 0) (by simp [results, Try.results35, go_sem, vecV, z0, z1]) rfl ?_
    have hSS := since_call S3.out T1.out.below
    have hz := ZS.out
    exact ⟨_, _, rfl, (since_set (since_set hSS (by show w.heap.size ≤ v2.heap.size; exact hz)) (by show w.heap.size ≤ v2.heap.size; exact hz)).below, Or.inl rfl⟩
end Go.Proofs.Ytlgnplnmcdjbiaa
