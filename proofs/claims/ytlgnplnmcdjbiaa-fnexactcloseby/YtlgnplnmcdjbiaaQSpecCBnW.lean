/- What is proved here: the specification's CloseBy hands back the zero vector where a mask or the places are not right, or not of as many bits; nothing that was there turns. -/
import Derived.Test.YtlgnplnmcdjbiaaQMaskDToMask5S
import Derived.Test.YtlgnplnmcdjbiaaQVecTwoW
namespace Go.Proofs.Ytlgnplnmcdjbiaa
open Go.RowKit

open Classical in
set_option maxRecDepth 100000 in
set_option maxHeartbeats 8000000 in
theorem specCBy_no (b : Nat → Int) (s : Nat → Option Addr) (n c : Nat → Nat) (F : Nat → Nat → Int) (bv : Int) (sv : Option Addr) (m cv : Nat) (g : Nat → Int) (w : World) (hn : ∀ i, i < 5 → n i ≤ 1048576) (hm : m ≤ 1048576) (hr : ∀ i, i < 5 → Row w w.heap.size (s i) (n i) (F i)) (hv : Row w w.heap.size sv m g) (hno : ¬ All5 b n F bv m g Right) :
    Calls Try.prog 36 #[m5V b s n c, .agg #[.int .i64 bv, .slice sv m cv]] w fun e w' => NewVec w 0 0 (fun _ => 0) e w' := by
  have q1 := m5boxing w b s n c
  obtain ⟨v1, hv1⟩ : ∃ v, w.alloc (.cells #[.int .i64 (b 0), .slice (s 0) (n 0) (c 0), .int .i64 (b 1), .slice (s 1) (n 1) (c 1), .int .i64 (b 2), .slice (s 2) (n 2) (c 2), .int .i64 (b 3), .slice (s 3) (n 3) (c 3), .int .i64 (b 4), .slice (s 4) (n 4) (c 4)] 50) = v := ⟨_, rfl⟩
  rw [hv1] at q1
  have q2 := boxing v1 45 bv sv m cv
  obtain ⟨v2, hv2⟩ : ∃ v, v1.alloc (.cells #[.int .i64 bv, .slice sv m cv] 45) = v := ⟨_, rfl⟩
  rw [hv2] at q2
  have q3 := boxing v2 45 0 none 0 0
  obtain ⟨v3, hv3⟩ : ∃ v, v2.alloc (.cells #[.int .i64 0, .slice none 0 0] 45) = v := ⟨_, rfl⟩
  rw [hv3] at q3
  have S3 : Hid (Since w v3) := since_call (since_call (since_call (since_refl _) q1.1) q2.1) q3.1
  have X : Hid (M5Box v3 w.heap.size b s n c) := (q1.2.1.kept q2.1 rfl).kept q3.1 rfl
  have z1 := q1.2.2
  have z2 := q2.2.2
  have Y : Hid (Boxed v3 v1.heap.size 45 bv sv m cv) := q2.2.1.kept q3.1 rfl
  have Z : Hid (Boxed v3 v2.heap.size 45 0 none 0 0) := q3.2.1
  have ZS : Hid (w.heap.size ≤ v2.heap.size) := by have : w.heap.size ≤ v2.heap.size := by rw [z2, z1]; omega
                                                   exact this
  have RV : Hid (Row v3 v3.heap.size sv m g) := row_since hv S3.out
  have RM : Hid (∀ i, i < 5 → Row v3 v3.heap.size (s i) (n i) (F i)) := fun i hi => row_since (hr i hi) S3.out
  have HT : ∀ i, i < 5 → ∀ W, Since v3 W → Calls Try.prog 115 #[.agg #[.int .i64 (b i), .slice (s i) (n i) (c i)], .agg #[.int .i64 bv, .slice sv m cv]] W fun e w' => e = .returned (.bool (decide (Right (b i) (n i) (F i) ∧ Right bv m g ∧ b i = bv))) ∧ Below W.heap.size W w' := fun i hi W hW =>
    two_any (b i) bv (s i) sv (n i) m (c i) cv (F i) g W (hn i hi) hm (row_since (RM.out i hi) hW) (row_since RV.out hW)
  have hex : decide (Right (b 2) (n 2) (F 2) ∧ Right bv m g ∧ b 2 = bv) = false ∨ decide (Right (b 3) (n 3) (F 3) ∧ Right bv m g ∧ b 3 = bv) = false ∨ decide (Right (b 4) (n 4) (F 4) ∧ Right bv m g ∧ b 4 = bv) = false ∨ decide (Right (b 0) (n 0) (F 0) ∧ Right bv m g ∧ b 0 = bv) = false ∨ decide (Right (b 1) (n 1) (F 1) ∧ Right bv m g ∧ b 1 = bv) = false := by
    simp only [decide_eq_false_iff_not]
    by_cases k2 : Right (b 2) (n 2) (F 2) ∧ Right bv m g ∧ b 2 = bv
    · by_cases k3 : Right (b 3) (n 3) (F 3) ∧ Right bv m g ∧ b 3 = bv
      · by_cases k4 : Right (b 4) (n 4) (F 4) ∧ Right bv m g ∧ b 4 = bv
        · by_cases k0 : Right (b 0) (n 0) (F 0) ∧ Right bv m g ∧ b 0 = bv
          · refine Or.inr (Or.inr (Or.inr (Or.inr (fun k1 => hno (fun i hi => ?_)))))
            have hc : i = 0 ∨ i = 1 ∨ i = 2 ∨ i = 3 ∨ i = 4 := by omega
            rcases hc with rfl | rfl | rfl | rfl | rfl <;> assumption
          · exact Or.inr (Or.inr (Or.inr (Or.inl k0)))
        · exact Or.inr (Or.inr (Or.inl k4))
      · exact Or.inr (Or.inl k3)
    · exact Or.inl k2
  have h2 := HT 2 (by decide)
  have h3 := HT 3 (by decide)
  have h4 := HT 4 (by decide)
  have h0 := HT 0 (by decide)
  have h1 := HT 1 (by decide)
  generalize decide (Right (b 2) (n 2) (F 2) ∧ Right bv m g ∧ b 2 = bv) = t2 at h2 hex
  generalize decide (Right (b 3) (n 3) (F 3) ∧ Right bv m g ∧ b 3 = bv) = t3 at h3 hex
  generalize decide (Right (b 4) (n 4) (F 4) ∧ Right bv m g ∧ b 4 = bv) = t4 at h4 hex
  generalize decide (Right (b 0) (n 0) (F 0) ∧ Right bv m g ∧ b 0 = bv) = t0 at h0 hex
  generalize decide (Right (b 1) (n 1) (F 1) ∧ Right bv m g ∧ b 1 = bv) = t1 at h1 hex
  have H2 : Hid (∀ W, Since v3 W → Calls Try.prog 115 #[.agg #[.int .i64 (b 2), .slice (s 2) (n 2) (c 2)], .agg #[.int .i64 bv, .slice sv m cv]] W fun e w' => e = .returned (.bool t2) ∧ Below W.heap.size W w') := h2
  have H3 : Hid (∀ W, Since v3 W → Calls Try.prog 115 #[.agg #[.int .i64 (b 3), .slice (s 3) (n 3) (c 3)], .agg #[.int .i64 bv, .slice sv m cv]] W fun e w' => e = .returned (.bool t3) ∧ Below W.heap.size W w') := h3
  have H4 : Hid (∀ W, Since v3 W → Calls Try.prog 115 #[.agg #[.int .i64 (b 4), .slice (s 4) (n 4) (c 4)], .agg #[.int .i64 bv, .slice sv m cv]] W fun e w' => e = .returned (.bool t4) ∧ Below W.heap.size W w') := h4
  have H0 : Hid (∀ W, Since v3 W → Calls Try.prog 115 #[.agg #[.int .i64 (b 0), .slice (s 0) (n 0) (c 0)], .agg #[.int .i64 bv, .slice sv m cv]] W fun e w' => e = .returned (.bool t0) ∧ Below W.heap.size W w') := h0
  have H1 : Hid (∀ W, Since v3 W → Calls Try.prog 115 #[.agg #[.int .i64 (b 1), .slice (s 1) (n 1) (c 1)], .agg #[.int .i64 bv, .slice sv m cv]] W fun e w' => e = .returned (.bool t1) ∧ Below W.heap.size W w') := h1
  clear HT h0 h1 h2 h3 h4 hno
  clear q1 q2 q3 z1 z2 hr hv
  have T0 : Hid (Since v3 v3) := since_refl _
  obtain ⟨x0, x1, x2, x3, x4, x5, x6, x7, x8, x9⟩ := (X.out.kept T0.out.below rfl).cells
  have xl := (X.out.kept T0.out.below rfl).lt
  obtain ⟨y0, y1⟩ := (Y.out.since T0.out).cells
  have yl := (Y.out.since T0.out).lt
  obtain ⟨z0, z1, z2, z3⟩ := (Z.out.since T0.out).four
  have zl := (Z.out.since T0.out).lt
  unfold m5V
  cases t2 with
  | false =>
    go_enter Try.func36, Try.ntmps36
    go_wp2_with (first
      | (go_at_call 115; (with_reducible refine (H2.out _ T0.out).mono ?_); rintro e u1 ⟨rfl, hb⟩; have T1 : Hid (Since v3 u1) := since_call T0.out hb; clear hb; obtain ⟨x0, x1, x2, x3, x4, x5, x6, x7, x8, x9⟩ := (X.out.kept T1.out.below rfl).cells; have xl := (X.out.kept T1.out.below rfl).lt; obtain ⟨y0, y1⟩ := (Y.out.since T1.out).cells; have yl := (Y.out.since T1.out).lt; obtain ⟨z0, z1, z2, z3⟩ := (Z.out.since T1.out).four; have zl := (Z.out.since T1.out).lt))
    go_wp2_with fail
    refine bodyPost_ret (v := vecV 0 none 0 0) (by simp [results, Try.results36, go_sem, vecV, z0, z1]) rfl ?_
    have hSS := since_call S3.out T1.out.below
    have hz := ZS.out
    exact ⟨_, _, rfl, (since_set (since_set hSS (by show w.heap.size ≤ v2.heap.size; exact hz)) (by show w.heap.size ≤ v2.heap.size; exact hz)).below, Or.inl rfl⟩
  | true =>
    cases t3 with
    | false =>
      go_enter Try.func36, Try.ntmps36
      go_wp2_with (first
        | (go_at_call 115; (with_reducible refine (H2.out _ T0.out).mono ?_); rintro e u1 ⟨rfl, hb⟩; have T1 : Hid (Since v3 u1) := since_call T0.out hb; clear hb; obtain ⟨x0, x1, x2, x3, x4, x5, x6, x7, x8, x9⟩ := (X.out.kept T1.out.below rfl).cells; have xl := (X.out.kept T1.out.below rfl).lt; obtain ⟨y0, y1⟩ := (Y.out.since T1.out).cells; have yl := (Y.out.since T1.out).lt; obtain ⟨z0, z1, z2, z3⟩ := (Z.out.since T1.out).four; have zl := (Z.out.since T1.out).lt)
        | (go_at_call 115; (with_reducible refine (H3.out _ T1.out).mono ?_); rintro e u2 ⟨rfl, hb⟩; have T2 : Hid (Since v3 u2) := since_call T1.out hb; clear hb; obtain ⟨x0, x1, x2, x3, x4, x5, x6, x7, x8, x9⟩ := (X.out.kept T2.out.below rfl).cells; have xl := (X.out.kept T2.out.below rfl).lt; obtain ⟨y0, y1⟩ := (Y.out.since T2.out).cells; have yl := (Y.out.since T2.out).lt; obtain ⟨z0, z1, z2, z3⟩ := (Z.out.since T2.out).four; have zl := (Z.out.since T2.out).lt))
      go_wp2_with fail
      refine bodyPost_ret (v := vecV 0 none 0 0) (by simp [results, Try.results36, go_sem, vecV, z0, z1]) rfl ?_
      have hSS := since_call S3.out T2.out.below
      have hz := ZS.out
      exact ⟨_, _, rfl, (since_set (since_set hSS (by show w.heap.size ≤ v2.heap.size; exact hz)) (by show w.heap.size ≤ v2.heap.size; exact hz)).below, Or.inl rfl⟩
    | true =>
      cases t4 with
      | false =>
        go_enter Try.func36, Try.ntmps36
        go_wp2_with (first
          | (go_at_call 115; (with_reducible refine (H2.out _ T0.out).mono ?_); rintro e u1 ⟨rfl, hb⟩; have T1 : Hid (Since v3 u1) := since_call T0.out hb; clear hb; obtain ⟨x0, x1, x2, x3, x4, x5, x6, x7, x8, x9⟩ := (X.out.kept T1.out.below rfl).cells; have xl := (X.out.kept T1.out.below rfl).lt; obtain ⟨y0, y1⟩ := (Y.out.since T1.out).cells; have yl := (Y.out.since T1.out).lt; obtain ⟨z0, z1, z2, z3⟩ := (Z.out.since T1.out).four; have zl := (Z.out.since T1.out).lt)
          | (go_at_call 115; (with_reducible refine (H3.out _ T1.out).mono ?_); rintro e u2 ⟨rfl, hb⟩; have T2 : Hid (Since v3 u2) := since_call T1.out hb; clear hb; obtain ⟨x0, x1, x2, x3, x4, x5, x6, x7, x8, x9⟩ := (X.out.kept T2.out.below rfl).cells; have xl := (X.out.kept T2.out.below rfl).lt; obtain ⟨y0, y1⟩ := (Y.out.since T2.out).cells; have yl := (Y.out.since T2.out).lt; obtain ⟨z0, z1, z2, z3⟩ := (Z.out.since T2.out).four; have zl := (Z.out.since T2.out).lt)
          | (go_at_call 115; (with_reducible refine (H4.out _ T2.out).mono ?_); rintro e u3 ⟨rfl, hb⟩; have T3 : Hid (Since v3 u3) := since_call T2.out hb; clear hb; obtain ⟨x0, x1, x2, x3, x4, x5, x6, x7, x8, x9⟩ := (X.out.kept T3.out.below rfl).cells; have xl := (X.out.kept T3.out.below rfl).lt; obtain ⟨y0, y1⟩ := (Y.out.since T3.out).cells; have yl := (Y.out.since T3.out).lt; obtain ⟨z0, z1, z2, z3⟩ := (Z.out.since T3.out).four; have zl := (Z.out.since T3.out).lt))
        go_wp2_with fail
        refine bodyPost_ret (v := vecV 0 none 0 0) (by simp [results, Try.results36, go_sem, vecV, z0, z1]) rfl ?_
        have hSS := since_call S3.out T3.out.below
        have hz := ZS.out
        exact ⟨_, _, rfl, (since_set (since_set hSS (by show w.heap.size ≤ v2.heap.size; exact hz)) (by show w.heap.size ≤ v2.heap.size; exact hz)).below, Or.inl rfl⟩
      | true =>
        cases t0 with
        | false =>
          go_enter Try.func36, Try.ntmps36
          go_wp2_with (first
            | (go_at_call 115; (with_reducible refine (H2.out _ T0.out).mono ?_); rintro e u1 ⟨rfl, hb⟩; have T1 : Hid (Since v3 u1) := since_call T0.out hb; clear hb; obtain ⟨x0, x1, x2, x3, x4, x5, x6, x7, x8, x9⟩ := (X.out.kept T1.out.below rfl).cells; have xl := (X.out.kept T1.out.below rfl).lt; obtain ⟨y0, y1⟩ := (Y.out.since T1.out).cells; have yl := (Y.out.since T1.out).lt; obtain ⟨z0, z1, z2, z3⟩ := (Z.out.since T1.out).four; have zl := (Z.out.since T1.out).lt)
            | (go_at_call 115; (with_reducible refine (H3.out _ T1.out).mono ?_); rintro e u2 ⟨rfl, hb⟩; have T2 : Hid (Since v3 u2) := since_call T1.out hb; clear hb; obtain ⟨x0, x1, x2, x3, x4, x5, x6, x7, x8, x9⟩ := (X.out.kept T2.out.below rfl).cells; have xl := (X.out.kept T2.out.below rfl).lt; obtain ⟨y0, y1⟩ := (Y.out.since T2.out).cells; have yl := (Y.out.since T2.out).lt; obtain ⟨z0, z1, z2, z3⟩ := (Z.out.since T2.out).four; have zl := (Z.out.since T2.out).lt)
            | (go_at_call 115; (with_reducible refine (H4.out _ T2.out).mono ?_); rintro e u3 ⟨rfl, hb⟩; have T3 : Hid (Since v3 u3) := since_call T2.out hb; clear hb; obtain ⟨x0, x1, x2, x3, x4, x5, x6, x7, x8, x9⟩ := (X.out.kept T3.out.below rfl).cells; have xl := (X.out.kept T3.out.below rfl).lt; obtain ⟨y0, y1⟩ := (Y.out.since T3.out).cells; have yl := (Y.out.since T3.out).lt; obtain ⟨z0, z1, z2, z3⟩ := (Z.out.since T3.out).four; have zl := (Z.out.since T3.out).lt)
            | (go_at_call 115; (with_reducible refine (H0.out _ T3.out).mono ?_); rintro e u4 ⟨rfl, hb⟩; have T4 : Hid (Since v3 u4) := since_call T3.out hb; clear hb; obtain ⟨x0, x1, x2, x3, x4, x5, x6, x7, x8, x9⟩ := (X.out.kept T4.out.below rfl).cells; have xl := (X.out.kept T4.out.below rfl).lt; obtain ⟨y0, y1⟩ := (Y.out.since T4.out).cells; have yl := (Y.out.since T4.out).lt; obtain ⟨z0, z1, z2, z3⟩ := (Z.out.since T4.out).four; have zl := (Z.out.since T4.out).lt))
          go_wp2_with fail
          refine bodyPost_ret (v := vecV 0 none 0 0) (by simp [results, Try.results36, go_sem, vecV, z0, z1]) rfl ?_
          have hSS := since_call S3.out T4.out.below
          have hz := ZS.out
          exact ⟨_, _, rfl, (since_set (since_set hSS (by show w.heap.size ≤ v2.heap.size; exact hz)) (by show w.heap.size ≤ v2.heap.size; exact hz)).below, Or.inl rfl⟩
        | true =>
          cases t1 with
          | false =>
            go_enter Try.func36, Try.ntmps36
            go_wp2_with (first
              | (go_at_call 115; (with_reducible refine (H2.out _ T0.out).mono ?_); rintro e u1 ⟨rfl, hb⟩; have T1 : Hid (Since v3 u1) := since_call T0.out hb; clear hb; obtain ⟨x0, x1, x2, x3, x4, x5, x6, x7, x8, x9⟩ := (X.out.kept T1.out.below rfl).cells; have xl := (X.out.kept T1.out.below rfl).lt; obtain ⟨y0, y1⟩ := (Y.out.since T1.out).cells; have yl := (Y.out.since T1.out).lt; obtain ⟨z0, z1, z2, z3⟩ := (Z.out.since T1.out).four; have zl := (Z.out.since T1.out).lt)
              | (go_at_call 115; (with_reducible refine (H3.out _ T1.out).mono ?_); rintro e u2 ⟨rfl, hb⟩; have T2 : Hid (Since v3 u2) := since_call T1.out hb; clear hb; obtain ⟨x0, x1, x2, x3, x4, x5, x6, x7, x8, x9⟩ := (X.out.kept T2.out.below rfl).cells; have xl := (X.out.kept T2.out.below rfl).lt; obtain ⟨y0, y1⟩ := (Y.out.since T2.out).cells; have yl := (Y.out.since T2.out).lt; obtain ⟨z0, z1, z2, z3⟩ := (Z.out.since T2.out).four; have zl := (Z.out.since T2.out).lt)
              | (go_at_call 115; (with_reducible refine (H4.out _ T2.out).mono ?_); rintro e u3 ⟨rfl, hb⟩; have T3 : Hid (Since v3 u3) := since_call T2.out hb; clear hb; obtain ⟨x0, x1, x2, x3, x4, x5, x6, x7, x8, x9⟩ := (X.out.kept T3.out.below rfl).cells; have xl := (X.out.kept T3.out.below rfl).lt; obtain ⟨y0, y1⟩ := (Y.out.since T3.out).cells; have yl := (Y.out.since T3.out).lt; obtain ⟨z0, z1, z2, z3⟩ := (Z.out.since T3.out).four; have zl := (Z.out.since T3.out).lt)
              | (go_at_call 115; (with_reducible refine (H0.out _ T3.out).mono ?_); rintro e u4 ⟨rfl, hb⟩; have T4 : Hid (Since v3 u4) := since_call T3.out hb; clear hb; obtain ⟨x0, x1, x2, x3, x4, x5, x6, x7, x8, x9⟩ := (X.out.kept T4.out.below rfl).cells; have xl := (X.out.kept T4.out.below rfl).lt; obtain ⟨y0, y1⟩ := (Y.out.since T4.out).cells; have yl := (Y.out.since T4.out).lt; obtain ⟨z0, z1, z2, z3⟩ := (Z.out.since T4.out).four; have zl := (Z.out.since T4.out).lt)
              | (go_at_call 115; (with_reducible refine (H1.out _ T4.out).mono ?_); rintro e u5 ⟨rfl, hb⟩; have T5 : Hid (Since v3 u5) := since_call T4.out hb; clear hb; obtain ⟨x0, x1, x2, x3, x4, x5, x6, x7, x8, x9⟩ := (X.out.kept T5.out.below rfl).cells; have xl := (X.out.kept T5.out.below rfl).lt; obtain ⟨y0, y1⟩ := (Y.out.since T5.out).cells; have yl := (Y.out.since T5.out).lt; obtain ⟨z0, z1, z2, z3⟩ := (Z.out.since T5.out).four; have zl := (Z.out.since T5.out).lt))
            go_wp2_with fail
            refine bodyPost_ret (v := vecV 0 none 0 0) (by simp [results, Try.results36, go_sem, vecV, z0, z1]) rfl ?_
            have hSS := since_call S3.out T5.out.below
            have hz := ZS.out
            exact ⟨_, _, rfl, (since_set (since_set hSS (by show w.heap.size ≤ v2.heap.size; exact hz)) (by show w.heap.size ≤ v2.heap.size; exact hz)).below, Or.inl rfl⟩
          | true =>
            simp at hex
end Go.Proofs.Ytlgnplnmcdjbiaa
