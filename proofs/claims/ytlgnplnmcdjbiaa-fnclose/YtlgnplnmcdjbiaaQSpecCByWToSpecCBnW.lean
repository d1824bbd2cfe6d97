/- What is proved here: the specification's CloseBy, where the masks and the places are right and of as many bits, closes them by one subtraction, in new memory; nothing that was there turns.
   What is proved here: the specification's CloseBy hands back the zero vector where a mask or the places are not right, or not of as many bits; nothing that was there turns. -/
import Derived.Test.YtlgnplnmcdjbiaaQFnVecMToSet64M
import Derived.Test.YtlgnplnmcdjbiaaQWalkOfWToSubAnyW
import Derived.Test.YtlgnplnmcdjbiaaQVecAndWToGetS
import Derived.Test.YtlgnplnmcdjbiaaQMakeWToVecNotW
import Derived.Deep.RegionHeld3
import Derived.Test.YtlgnplnmcdjbiaaQMask5DToVecH
namespace Go.Proofs.Ytlgnplnmcdjbiaa
open Go.RowKit

open Classical in
set_option maxRecDepth 100000 in
set_option maxHeartbeats 8000000 in
theorem specCBy_yes (b : Int) (s : Nat → Option Addr) (n : Nat) (c : Nat → Nat) (F : Nat → Nat → Int) (sv : Option Addr) (cv : Nat) (g : Nat → Int) (w : World) (hn : n ≤ 1048576) (hr : ∀ i, i < 5 → Row w w.heap.size (s i) n (F i)) (hv : Row w w.heap.size sv n g) (h : ∀ i, i < 5 → Right b n (F i)) (hg : Right b n g) :
    Calls Try.prog 36 #[masksV b s n c, .agg #[.int .i64 b, .slice sv n cv]] w fun e w' => NewVec w b n (cyF b n (F 2) (F 3) (F 4) g) e w' := by
  have hn0 := right_pos hg
  have q1 := mboxing w b s n c
  obtain ⟨v1, hv1⟩ : ∃ v, w.alloc (.cells #[.int .i64 b, .slice (s 0) n (c 0), .int .i64 b, .slice (s 1) n (c 1), .int .i64 b, .slice (s 2) n (c 2), .int .i64 b, .slice (s 3) n (c 3), .int .i64 b, .slice (s 4) n (c 4)] 50) = v := ⟨_, rfl⟩
  rw [hv1] at q1
  have q2 := boxing v1 45 b sv n cv
  obtain ⟨v2, hv2⟩ : ∃ v, v1.alloc (.cells #[.int .i64 b, .slice sv n cv] 45) = v := ⟨_, rfl⟩
  rw [hv2] at q2
  have q3 := boxing v2 45 0 none 0 0
  obtain ⟨v3, hv3⟩ : ∃ v, v2.alloc (.cells #[.int .i64 0, .slice none 0 0] 45) = v := ⟨_, rfl⟩
  rw [hv3] at q3
  have S3 : Hid (Since w v3) := since_call (since_call (since_call (since_refl _) q1.1) q2.1) q3.1
  have X : Hid (MBox v3 w.heap.size b s n c) := (q1.2.1.kept q2.1 rfl).kept q3.1 rfl
  have z1 := q1.2.2
  have z2 := q2.2.2
  have Y : Hid (Boxed v3 v1.heap.size 45 b sv n cv) := q2.2.1.kept q3.1 rfl
  have Z : Hid (Boxed v3 v2.heap.size 45 0 none 0 0) := q3.2.1
  have ZS : Hid (v1.heap.size = w.heap.size + 1 ∧ v2.heap.size = w.heap.size + 2 ∧ v3.heap.size = w.heap.size + 3) := ⟨z1, by rw [z2, z1], by rw [q3.2.2, z2, z1]⟩
  have hb1 := hg.1
  have hb2 := hg.2.1
  have HGD : Hid (∀ i, i < n → 0 ≤ cyD (F 3) g i ∧ cyD (F 3) g i ≤ 4294967295) := (cyD_right (h 3 (by decide)) hg).2.2.2.1
  have HGF : Hid (∀ i, i < n → 0 ≤ F 2 i ∧ F 2 i ≤ 4294967295) := (h 2 (by decide)).2.2.2.1
  have HGX : Hid (∀ i, i < n → 0 ≤ cyX b n (F 2) (F 3) g i ∧ cyX b n (F 2) (F 3) g i ≤ 4294967295) := (cyX_right (h 3 (by decide)) hg).2.2.2.1
  have RV : Hid (Row v3 v3.heap.size sv n g) := row_since hv S3.out
  have RM : Hid (∀ i, i < 5 → Row v3 v3.heap.size (s i) n (F i)) := fun i hi => row_since (hr i hi) S3.out
  have HM : Hid (∀ i, i < 5 → Right b n (F i)) := h
  have HG : Hid (Right b n g) := hg
  have HT : Hid (∀ i W, i < 5 → Since v3 W → Calls Try.prog 115 #[.agg #[.int .i64 b, .slice (s i) n (c i)], .agg #[.int .i64 b, .slice sv n cv]] W fun e w' => e = .returned (.bool true) ∧ Below W.heap.size W w') := fun i W hi hW => by
    have k := two_any b b (s i) sv n n (c i) cv (F i) g W hn hn (row_since (RM.out i hi) hW) (row_since RV.out hW)
    rw [decide_eq_true (show Right b n (F i) ∧ Right b n g ∧ b = b from ⟨HM.out i hi, HG.out, rfl⟩)] at k
    exact k
  clear q1 q2 q3 z1 z2 hr hv h hg
  unfold masksV
  go_enter Try.func36, Try.ntmps36
  have T0 : Hid (Since v3 v3) := since_refl _
  obtain ⟨x0, x1, x2, x3, x4, x5, x6, x7, x8, x9⟩ := (X.out.kept T0.out.below rfl).cells
  have xl := (X.out.kept T0.out.below rfl).lt
  obtain ⟨y0, y1⟩ := (Y.out.since T0.out).cells
  have yl := (Y.out.since T0.out).lt
  go_upto_region 4 with (first
    | (go_at_call 115; (with_reducible refine (HT.out 2 _ (by decide) T0.out).mono ?_); rintro e u1 ⟨rfl, hb⟩; have T1 : Hid (Since v3 u1) := since_call T0.out hb; clear hb; obtain ⟨x0, x1, x2, x3, x4, x5, x6, x7, x8, x9⟩ := (X.out.kept T1.out.below rfl).cells; have xl := (X.out.kept T1.out.below rfl).lt; obtain ⟨y0, y1⟩ := (Y.out.since T1.out).cells; have yl := (Y.out.since T1.out).lt)
    | (go_at_call 115; (with_reducible refine (HT.out 3 _ (by decide) T1.out).mono ?_); rintro e u2 ⟨rfl, hb⟩; have T2 : Hid (Since v3 u2) := since_call T1.out hb; clear hb; obtain ⟨x0, x1, x2, x3, x4, x5, x6, x7, x8, x9⟩ := (X.out.kept T2.out.below rfl).cells; have xl := (X.out.kept T2.out.below rfl).lt; obtain ⟨y0, y1⟩ := (Y.out.since T2.out).cells; have yl := (Y.out.since T2.out).lt)
    | (go_at_call 115; (with_reducible refine (HT.out 4 _ (by decide) T2.out).mono ?_); rintro e u3 ⟨rfl, hb⟩; have T3 : Hid (Since v3 u3) := since_call T2.out hb; clear hb; obtain ⟨x0, x1, x2, x3, x4, x5, x6, x7, x8, x9⟩ := (X.out.kept T3.out.below rfl).cells; have xl := (X.out.kept T3.out.below rfl).lt; obtain ⟨y0, y1⟩ := (Y.out.since T3.out).cells; have yl := (Y.out.since T3.out).lt)
    | (go_at_call 115; (with_reducible refine (HT.out 0 _ (by decide) T3.out).mono ?_); rintro e u4 ⟨rfl, hb⟩; have T4 : Hid (Since v3 u4) := since_call T3.out hb; clear hb; obtain ⟨x0, x1, x2, x3, x4, x5, x6, x7, x8, x9⟩ := (X.out.kept T4.out.below rfl).cells; have xl := (X.out.kept T4.out.below rfl).lt; obtain ⟨y0, y1⟩ := (Y.out.since T4.out).cells; have yl := (Y.out.since T4.out).lt)
    | (go_at_call 115; (with_reducible refine (HT.out 1 _ (by decide) T4.out).mono ?_); rintro e u5 ⟨rfl, hb⟩; have T5 : Hid (Since v3 u5) := since_call T4.out hb; clear hb; obtain ⟨x0, x1, x2, x3, x4, x5, x6, x7, x8, x9⟩ := (X.out.kept T5.out.below rfl).cells; have xl := (X.out.kept T5.out.below rfl).lt; obtain ⟨y0, y1⟩ := (Y.out.since T5.out).cells; have yl := (Y.out.since T5.out).lt)
    | (go_at_call 116; (with_reducible refine (l02Or_any b b sv (s 3) n cv (c 3) g (F 3) _ hn0 hn (row_since RV.out T5.out) (row_since (RM.out 3 (by decide)) T5.out)).mono ?_); rintro e u6 ⟨sd, cd, rfl, hb, ho⟩; unfold vecV; have T6 : Hid (Since v3 u6) := since_call T5.out hb; have RD : Hid (Row u6 u6.heap.size sd n (cyD (F 3) g)) := ho.row; clear hb ho; obtain ⟨x0, x1, x2, x3, x4, x5, x6, x7, x8, x9⟩ := (X.out.kept T6.out.below rfl).cells; have xl := (X.out.kept T6.out.below rfl).lt; obtain ⟨y0, y1⟩ := (Y.out.since T6.out).cells; have yl := (Y.out.since T6.out).lt))
  have qd := boxing u6 45 b sd n cd
  obtain ⟨V, hV⟩ : ∃ v, u6.alloc (.cells #[.int .i64 b, .slice sd n cd] 45) = v := ⟨_, rfl⟩
  rw [hV] at qd ⊢
  clear hV
  have S7 : Hid (Since u6 V) := ⟨qd.1⟩
  have DB : Hid (Boxed V u6.heap.size 45 b sd n cd) := qd.2.1
  have RD7 : Hid (Row V V.heap.size sd n (cyD (F 3) g)) := row_since RD.out S7.out
  have hdz : u6.heap.size ≠ v2.heap.size := by have := T6.out.size; have := ZS.out; omega
  have hdw : w.heap.size ≠ v2.heap.size := by have := ZS.out; omega
  have hdv : v1.heap.size ≠ v2.heap.size := by have := ZS.out; omega
  have hdz' := Ne.symm hdz
  have hdw' := Ne.symm hdw
  have hdv' := Ne.symm hdv
  have Y0 := Y
  have X0 := X
  have Z0 := Z
  have P6 := T6
  clear x0 x1 x2 x3 x4 x5 x6 x7 x8 x9 xl y0 y1 yl qd
  clear T1 T2 T3 T4 T5 HT RD
  have X : Hid (MBox V w.heap.size b s n c) := (X0.out.kept P6.out.below rfl).kept S7.out.below rfl
  have Y : Hid (Boxed V v1.heap.size 45 b sv n cv) := (Y0.out.since P6.out).since S7.out
  have Z : Hid (Boxed V v2.heap.size 45 0 none 0 0) := (Z0.out.since P6.out).since S7.out
  have RV7 : Hid (Row V V.heap.size sv n g) := row_since (row_since RV.out P6.out) S7.out
  have RM7 : Hid (∀ i, i < 5 → Row V V.heap.size (s i) n (F i)) := fun i hi => row_since (row_since (RM.out i hi) P6.out) S7.out
  have SW : Hid (Since w V) := since_call (since_call S3.out P6.out.below) S7.out.below
  have Q0 : Hid (Since V V) := since_refl _
  clear X0 Y0 Z0
  obtain ⟨x0, x1, x2, x3, x4, x5, x6, x7, x8, x9⟩ := (X.out.kept Q0.out.below rfl).cells
  have xl := (X.out.kept Q0.out.below rfl).lt
  obtain ⟨y0, y1⟩ := (Y.out.since Q0.out).cells
  have yl := (Y.out.since Q0.out).lt
  obtain ⟨d0, d1⟩ := (DB.out.since Q0.out).cells
  have dl := (DB.out.since Q0.out).lt
  go_region_held3 (fun W => W.cell? ⟨w.heap.size, 4, none⟩ = some (.int .i64 b) ∧ W.cell? ⟨w.heap.size, 5, none⟩ = some (.slice (s 2) n (c 2)) ∧ W.cell? ⟨w.heap.size, 8, none⟩ = some (.int .i64 b) ∧ W.cell? ⟨w.heap.size, 9, none⟩ = some (.slice (s 4) n (c 4)) ∧ W.cell? ⟨v1.heap.size, 0, none⟩ = some (.int .i64 b) ∧ W.cell? ⟨v1.heap.size, 1, none⟩ = some (.slice sv n cv) ∧ W.cell? ⟨u6.heap.size, 0, none⟩ = some (.int .i64 b) ∧ W.cell? ⟨u6.heap.size, 1, none⟩ = some (.slice sd n cd)) (go_keep) (first
    | (go_at_call 120; (with_reducible refine (sub_any b sd (s 2) n cd (c 2) (cyD (F 3) g) (F 2) _ hb1 hb2 HGD.out HGF.out hn0 hn (row_since RD7.out (by first | exact since_drew (since_refl _) | exact since_refl _)) (row_since (RM7.out 2 (by decide)) (by first | exact since_drew (since_refl _) | exact since_refl _))).mono ?_); rintro e p1 ⟨s1, c1, rfl, hb, ho⟩; unfold vecV; have Q1 : Hid (Since V p1) := (by refine since_call ?_ hb; first | exact since_drew (since_refl _) | exact since_refl _); have R1 : Hid (OwnS p1 V.heap.size s1 n (cyS b n (F 2) (F 3) g)) := (own_low ho (by first | exact Nat.le_refl _ | exact Nat.le_refl _)); clear hb ho; obtain ⟨x0, x1, x2, x3, x4, x5, x6, x7, x8, x9⟩ := (X.out.kept Q1.out.below rfl).cells; have xl := (X.out.kept Q1.out.below rfl).lt; obtain ⟨y0, y1⟩ := (Y.out.since Q1.out).cells; have yl := (Y.out.since Q1.out).lt; obtain ⟨d0, d1⟩ := (DB.out.since Q1.out).cells; have dl := (DB.out.since Q1.out).lt)
    | (go_at_call 119; (with_reducible refine (l02Xor_any b b s1 sd n c1 cd (cyS b n (F 2) (F 3) g) (cyD (F 3) g) _ hn0 hn R1.out.row (row_since RD7.out Q1.out)).mono ?_); rintro e p2 ⟨s2, c2, rfl, hb, ho⟩; unfold vecV; have Q2 : Hid (Since V p2) := (by refine since_call ?_ hb; first | exact Q1.out | exact since_refl _); have R2 : Hid (OwnS p2 V.heap.size s2 n (cyX b n (F 2) (F 3) g)) := (own_low ho (by first | exact Nat.le_refl _ | exact Q1.out.size)); clear hb ho; obtain ⟨x0, x1, x2, x3, x4, x5, x6, x7, x8, x9⟩ := (X.out.kept Q2.out.below rfl).cells; have xl := (X.out.kept Q2.out.below rfl).lt; obtain ⟨y0, y1⟩ := (Y.out.since Q2.out).cells; have yl := (Y.out.since Q2.out).lt; obtain ⟨d0, d1⟩ := (DB.out.since Q2.out).cells; have dl := (DB.out.since Q2.out).lt)
    | (go_at_call 118; (with_reducible refine (not_any b s2 n c2 (cyX b n (F 2) (F 3) g) _ hb1 hb2 HGX.out hn0 hn R2.out.row).mono ?_); rintro e p3 ⟨s3, c3, rfl, hb, ho⟩; unfold vecV; have Q3 : Hid (Since V p3) := (by refine since_call ?_ hb; first | exact Q2.out | exact since_refl _); have R3 : Hid (OwnS p3 V.heap.size s3 n (cyN b n (F 2) (F 3) g)) := (own_low ho (by first | exact Nat.le_refl _ | exact Q2.out.size)); clear hb ho; obtain ⟨x0, x1, x2, x3, x4, x5, x6, x7, x8, x9⟩ := (X.out.kept Q3.out.below rfl).cells; have xl := (X.out.kept Q3.out.below rfl).lt; obtain ⟨y0, y1⟩ := (Y.out.since Q3.out).cells; have yl := (Y.out.since Q3.out).lt; obtain ⟨d0, d1⟩ := (DB.out.since Q3.out).cells; have dl := (DB.out.since Q3.out).lt)
    | (go_at_call 117; (with_reducible refine (l02And_any b b (s 4) s3 n (c 4) c3 (F 4) (cyN b n (F 2) (F 3) g) _ hn0 hn (row_since (RM7.out 4 (by decide)) Q3.out) R3.out.row).mono ?_); rintro e p4 ⟨s4, c4, rfl, hb, ho⟩; unfold vecV; have Q4 : Hid (Since V p4) := (by refine since_call ?_ hb; first | exact Q3.out | exact since_refl _); have R4 : Hid (OwnS p4 V.heap.size s4 n (cyA b n (F 2) (F 3) (F 4) g)) := (own_low ho (by first | exact Nat.le_refl _ | exact Q3.out.size)); clear hb ho; obtain ⟨x0, x1, x2, x3, x4, x5, x6, x7, x8, x9⟩ := (X.out.kept Q4.out.below rfl).cells; have xl := (X.out.kept Q4.out.below rfl).lt; obtain ⟨y0, y1⟩ := (Y.out.since Q4.out).cells; have yl := (Y.out.since Q4.out).lt; obtain ⟨d0, d1⟩ := (DB.out.since Q4.out).cells; have dl := (DB.out.since Q4.out).lt)
    | (go_at_call 116; (with_reducible refine (l02Or_any b b sv s4 n cv c4 g (cyA b n (F 2) (F 3) (F 4) g) _ hn0 hn (row_since RV7.out Q4.out) R4.out.row).mono ?_); rintro e p5 ⟨s5, c5, rfl, hb, ho⟩; unfold vecV; have Q5 : Hid (Since V p5) := (by refine since_call ?_ hb; first | exact Q4.out | exact since_refl _); have R5 : Hid (OwnS p5 V.heap.size s5 n (cyF b n (F 2) (F 3) (F 4) g)) := (own_low ho (by first | exact Nat.le_refl _ | exact Q4.out.size)); clear hb ho; obtain ⟨x0, x1, x2, x3, x4, x5, x6, x7, x8, x9⟩ := (X.out.kept Q5.out.below rfl).cells; have xl := (X.out.kept Q5.out.below rfl).lt; obtain ⟨y0, y1⟩ := (Y.out.since Q5.out).cells; have yl := (Y.out.since Q5.out).lt; obtain ⟨d0, d1⟩ := (DB.out.since Q5.out).cells; have dl := (DB.out.since Q5.out).lt; obtain ⟨z0, z1, z2, z3⟩ := (Z.out.since Q5.out).four; have zl := (Z.out.since Q5.out).lt))
  all_goals
    go_wp2_with fail
    refine bodyPost_ret (v := vecV b s5 n c5) (by simp [results, Try.results36, go_sem, vecV, z0, z1]) rfl ?_
    have hV : v2.heap.size < V.heap.size := Z.out.lt
    have hz := ZS.out
    have hSS := since_call SW.out Q5.out.below
    refine ⟨_, _, rfl, (since_set (since_set hSS (by show w.heap.size ≤ v2.heap.size; omega)) (by show w.heap.size ≤ v2.heap.size; omega)).below, ?_⟩
    rcases R5.out with h | ⟨g5, h1, h2, h3⟩
    · exact Or.inl h
    · exact Or.inr ⟨g5, h1, by omega, (h3.setOther _ _ (by show v2.heap.size ≠ g5; omega)).setOther _ _ (by show v2.heap.size ≠ g5; omega)⟩
end Go.Proofs.Ytlgnplnmcdjbiaa
namespace Go.Proofs.Ytlgnplnmcdjbiaa
open Go.RowKit

open Classical in
set_option maxRecDepth 100000 in
set_option maxHeartbeats 8000000 in
theorem specCBy_no (b : Nat → Int) (s : Nat → Option Addr) (n c : Nat → Nat) (F : Nat → Nat → Int) (bv : Int) (sv : Option Addr) (m cv : Nat) (g : Nat → Int) (w : World) (hn : ∀ i, i < 5 → n i ≤ 1048576) (hm : m ≤ 1048576) (hr : ∀ i, i < 5 → Row w w.heap.size (s i) (n i) (F i)) (hv : Row w w.heap.size sv m g) (hno : ¬ All5 b n F bv m g Right) :
    Calls Try.prog 36 #[m5V b s n c, .agg #[.int .i64 bv, .slice sv m cv]] w fun e w' => NewVec w 0 0 (fun _ => 0) e w' := by
  have q1 := m5boxing w b s n c
  obtain ⟨v1, hv1⟩ : ∃ v, w.alloc (.cells #[.int .i64 (b 0), .slice (s 0) (n 0) (c 0), .int .i64 (b 1), .slice (s 1) (n 1) (c 1), .int .i64 (b 2), .slice (s 2) (n 2) (c 2), .int .i64 (b 3), .slice (s 3) (n 3) (c 3), .int .i64 (b 4), .slice (s 4) (n 4) (c 4)] 50) = v := ⟨_, rfl⟩
  rw [hv1] at q1
  have q2 := boxing v1 45 bv sv m cv
  obtain ⟨v2, hv2⟩ : ∃ v, v1.alloc (.cells #[.int .i64 bv, .slice sv m cv] 45) = v := ⟨_, rfl⟩
  rw [hv2] at q2
  have q3 := boxing v2 45 0 none 0 0
  obtain ⟨v3, hv3⟩ : ∃ v, v2.alloc (.cells #[.int .i64 0, .slice none 0 0] 45) = v := ⟨_, rfl⟩
  rw [hv3] at q3
  have S3 : Hid (Since w v3) := since_call (since_call (since_call (since_refl _) q1.1) q2.1) q3.1
  have X : Hid (M5Box v3 w.heap.size b s n c) := (q1.2.1.kept q2.1 rfl).kept q3.1 rfl
  have z1 := q1.2.2
  have z2 := q2.2.2
  have Y : Hid (Boxed v3 v1.heap.size 45 bv sv m cv) := q2.2.1.kept q3.1 rfl
  have Z : Hid (Boxed v3 v2.heap.size 45 0 none 0 0) := q3.2.1
  have ZS : Hid (w.heap.size ≤ v2.heap.size) := by have : w.heap.size ≤ v2.heap.size := by rw [z2, z1]; omega
                                                   exact this
  have RV : Hid (Row v3 v3.heap.size sv m g) := row_since hv S3.out
  have RM : Hid (∀ i, i < 5 → Row v3 v3.heap.size (s i) (n i) (F i)) := fun i hi => row_since (hr i hi) S3.out
  have HT : ∀ i, i < 5 → ∀ W, Since v3 W → Calls Try.prog 115 #[.agg #[.int .i64 (b i), .slice (s i) (n i) (c i)], .agg #[.int .i64 bv, .slice sv m cv]] W fun e w' => e = .returned (.bool (decide (Right (b i) (n i) (F i) ∧ Right bv m g ∧ b i = bv))) ∧ Below W.heap.size W w' := fun i hi W hW =>
    two_any (b i) bv (s i) sv (n i) m (c i) cv (F i) g W (hn i hi) hm (row_since (RM.out i hi) hW) (row_since RV.out hW)
  have hex : decide (Right (b 2) (n 2) (F 2) ∧ Right bv m g ∧ b 2 = bv) = false ∨ decide (Right (b 3) (n 3) (F 3) ∧ Right bv m g ∧ b 3 = bv) = false ∨ decide (Right (b 4) (n 4) (F 4) ∧ Right bv m g ∧ b 4 = bv) = false ∨ decide (Right (b 0) (n 0) (F 0) ∧ Right bv m g ∧ b 0 = bv) = false ∨ decide (Right (b 1) (n 1) (F 1) ∧ Right bv m g ∧ b 1 = bv) = false := by
    simp only [decide_eq_false_iff_not]
    by_cases k2 : Right (b 2) (n 2) (F 2) ∧ Right bv m g ∧ b 2 = bv
    · by_cases k3 : Right (b 3) (n 3) (F 3) ∧ Right bv m g ∧ b 3 = bv
      · by_cases k4 : Right (b 4) (n 4) (F 4) ∧ Right bv m g ∧ b 4 = bv
        · by_cases k0 : Right (b 0) (n 0) (F 0) ∧ Right bv m g ∧ b 0 = bv
          · refine Or.inr (Or.inr (Or.inr (Or.inr (fun k1 => hno (fun i hi => ?_)))))
            have hc : i = 0 ∨ i = 1 ∨ i = 2 ∨ i = 3 ∨ i = 4 := by omega
            rcases hc with rfl | rfl | rfl | rfl | rfl <;> assumption
          · exact Or.inr (Or.inr (Or.inr (Or.inl k0)))
        · exact Or.inr (Or.inr (Or.inl k4))
      · exact Or.inr (Or.inl k3)
    · exact Or.inl k2
  have h2 := HT 2 (by decide)
  have h3 := HT 3 (by decide)
  have h4 := HT 4 (by decide)
  have h0 := HT 0 (by decide)
  have h1 := HT 1 (by decide)
  generalize decide (Right (b 2) (n 2) (F 2) ∧ Right bv m g ∧ b 2 = bv) = t2 at h2 hex
  generalize decide (Right (b 3) (n 3) (F 3) ∧ Right bv m g ∧ b 3 = bv) = t3 at h3 hex
  generalize decide (Right (b 4) (n 4) (F 4) ∧ Right bv m g ∧ b 4 = bv) = t4 at h4 hex
  generalize decide (Right (b 0) (n 0) (F 0) ∧ Right bv m g ∧ b 0 = bv) = t0 at h0 hex
  generalize decide (Right (b 1) (n 1) (F 1) ∧ Right bv m g ∧ b 1 = bv) = t1 at h1 hex
  have H2 : Hid (∀ W, Since v3 W → Calls Try.prog 115 #[.agg #[.int .i64 (b 2), .slice (s 2) (n 2) (c 2)], .agg #[.int .i64 bv, .slice sv m cv]] W fun e w' => e = .returned (.bool t2) ∧ Below W.heap.size W w') := h2
  have H3 : Hid (∀ W, Since v3 W → Calls Try.prog 115 #[.agg #[.int .i64 (b 3), .slice (s 3) (n 3) (c 3)], .agg #[.int .i64 bv, .slice sv m cv]] W fun e w' => e = .returned (.bool t3) ∧ Below W.heap.size W w') := h3
  have H4 : Hid (∀ W, Since v3 W → Calls Try.prog 115 #[.agg #[.int .i64 (b 4), .slice (s 4) (n 4) (c 4)], .agg #[.int .i64 bv, .slice sv m cv]] W fun e w' => e = .returned (.bool t4) ∧ Below W.heap.size W w') := h4
  have H0 : Hid (∀ W, Since v3 W → Calls Try.prog 115 #[.agg #[.int .i64 (b 0), .slice (s 0) (n 0) (c 0)], .agg #[.int .i64 bv, .slice sv m cv]] W fun e w' => e = .returned (.bool t0) ∧ Below W.heap.size W w') := h0
  have H1 : Hid (∀ W, Since v3 W → Calls Try.prog 115 #[.agg #[.int .i64 (b 1), .slice (s 1) (n 1) (c 1)], .agg #[.int .i64 bv, .slice sv m cv]] W fun e w' => e = .returned (.bool t1) ∧ Below W.heap.size W w') := h1
  clear HT h0 h1 h2 h3 h4 hno
  clear q1 q2 q3 z1 z2 hr hv
  have T0 : Hid (Since v3 v3) := since_refl _
  obtain ⟨x0, x1, x2, x3, x4, x5, x6, x7, x8, x9⟩ := (X.out.kept T0.out.below rfl).cells
  have xl := (X.out.kept T0.out.below rfl).lt
  obtain ⟨y0, y1⟩ := (Y.out.since T0.out).cells
  have yl := (Y.out.since T0.out).lt
  obtain ⟨z0, z1, z2, z3⟩ := (Z.out.since T0.out).four
  have zl := (Z.out.since T0.out).lt
  unfold m5V
  cases t2 with
  | false =>
    go_enter Try.func36, Try.ntmps36
    go_wp2_with (first
      | (go_at_call 115; (with_reducible refine (H2.out _ T0.out).mono ?_); rintro e u1 ⟨rfl, hb⟩; have T1 : Hid (Since v3 u1) := since_call T0.out hb; clear hb; obtain ⟨x0, x1, x2, x3, x4, x5, x6, x7, x8, x9⟩ := (X.out.kept T1.out.below rfl).cells; have xl := (X.out.kept T1.out.below rfl).lt; obtain ⟨y0, y1⟩ := (Y.out.since T1.out).cells; have yl := (Y.out.since T1.out).lt; obtain ⟨z0, z1, z2, z3⟩ := (Z.out.since T1.out).four; have zl := (Z.out.since T1.out).lt))
    go_wp2_with fail
    refine bodyPost_ret (v := vecV 0 none 0 0) (by simp [results, Try.results36, go_sem, vecV, z0, z1]) rfl ?_
    have hSS := since_call S3.out T1.out.below
    have hz := ZS.out
    exact ⟨_, _, rfl, (since_set (since_set hSS (by show w.heap.size ≤ v2.heap.size; exact hz)) (by show w.heap.size ≤ v2.heap.size; exact hz)).below, Or.inl rfl⟩
  | true =>
    cases t3 with
    | false =>
      go_enter Try.func36, Try.ntmps36
      go_wp2_with (first
        | (go_at_call 115; (with_reducible refine (H2.out _ T0.out).mono ?_); rintro e u1 ⟨rfl, hb⟩; have T1 : Hid (Since v3 u1) := since_call T0.out hb; clear hb; obtain ⟨x0, x1, x2, x3, x4, x5, x6, x7, x8, x9⟩ := (X.out.kept T1.out.below rfl).cells; have xl := (X.out.kept T1.out.below rfl).lt; obtain ⟨y0, y1⟩ := (Y.out.since T1.out).cells; have yl := (Y.out.since T1.out).lt; obtain ⟨z0, z1, z2, z3⟩ := (Z.out.since T1.out).four; have zl := (Z.out.since T1.out).lt)
        | (go_at_call 115; (with_reducible refine (H3.out _ T1.out).mono ?_); rintro e u2 ⟨rfl, hb⟩; have T2 : Hid (Since v3 u2) := since_call T1.out hb; clear hb; obtain ⟨x0, x1, x2, x3, x4, x5, x6, x7, x8, x9⟩ := (X.out.kept T2.out.below rfl).cells; have xl := (X.out.kept T2.out.below rfl).lt; obtain ⟨y0, y1⟩ := (Y.out.since T2.out).cells; have yl := (Y.out.since T2.out).lt; obtain ⟨z0, z1, z2, z3⟩ := (Z.out.since T2.out).four; have zl := (Z.out.since T2.out).lt))
      go_wp2_with fail
      refine bodyPost_ret (v := vecV 0 none 0 0) (by simp [results, Try.results36, go_sem, vecV, z0, z1]) rfl ?_
      have hSS := since_call S3.out T2.out.below
      have hz := ZS.out
      exact ⟨_, _, rfl, (since_set (since_set hSS (by show w.heap.size ≤ v2.heap.size; exact hz)) (by show w.heap.size ≤ v2.heap.size; exact hz)).below, Or.inl rfl⟩
    | true =>
      cases t4 with
      | false =>
        go_enter Try.func36, Try.ntmps36
        go_wp2_with (first
          | (go_at_call 115; (with_reducible refine (H2.out _ T0.out).mono ?_); rintro e u1 ⟨rfl, hb⟩; have T1 : Hid (Since v3 u1) := since_call T0.out hb; clear hb; obtain ⟨x0, x1, x2, x3, x4, x5, x6, x7, x8, x9⟩ := (X.out.kept T1.out.below rfl).cells; have xl := (X.out.kept T1.out.below rfl).lt; obtain ⟨y0, y1⟩ := (Y.out.since T1.out).cells; have yl := (Y.out.since T1.out).lt; obtain ⟨z0, z1, z2, z3⟩ := (Z.out.since T1.out).four; have zl := (Z.out.since T1.out).lt)
          | (go_at_call 115; (with_reducible refine (H3.out _ T1.out).mono ?_); rintro e u2 ⟨rfl, hb⟩; have T2 : Hid (Since v3 u2) := since_call T1.out hb; clear hb; obtain ⟨x0, x1, x2, x3, x4, x5, x6, x7, x8, x9⟩ := (X.out.kept T2.out.below rfl).cells; have xl := (X.out.kept T2.out.below rfl).lt; obtain ⟨y0, y1⟩ := (Y.out.since T2.out).cells; have yl := (Y.out.since T2.out).lt; obtain ⟨z0, z1, z2, z3⟩ := (Z.out.since T2.out).four; have zl := (Z.out.since T2.out).lt)
          | (go_at_call 115; (with_reducible refine (H4.out _ T2.out).mono ?_); rintro e u3 ⟨rfl, hb⟩; have T3 : Hid (Since v3 u3) := since_call T2.out hb; clear hb; obtain ⟨x0, x1, x2, x3, x4, x5, x6, x7, x8, x9⟩ := (X.out.kept T3.out.below rfl).cells; have xl := (X.out.kept T3.out.below rfl).lt; obtain ⟨y0, y1⟩ := (Y.out.since T3.out).cells; have yl := (Y.out.since T3.out).lt; obtain ⟨z0, z1, z2, z3⟩ := (Z.out.since T3.out).four; have zl := (Z.out.since T3.out).lt))
        go_wp2_with fail
        refine bodyPost_ret (v := vecV 0 none 0 0) (by simp [results, Try.results36, go_sem, vecV, z0, z1]) rfl ?_
        have hSS := since_call S3.out T3.out.below
        have hz := ZS.out
        exact ⟨_, _, rfl, (since_set (since_set hSS (by show w.heap.size ≤ v2.heap.size; exact hz)) (by show w.heap.size ≤ v2.heap.size; exact hz)).below, Or.inl rfl⟩
      | true =>
        cases t0 with
        | false =>
          go_enter Try.func36, Try.ntmps36
          go_wp2_with (first
            | (go_at_call 115; (with_reducible refine (H2.out _ T0.out).mono ?_); rintro e u1 ⟨rfl, hb⟩; have T1 : Hid (Since v3 u1) := since_call T0.out hb; clear hb; obtain ⟨x0, x1, x2, x3, x4, x5, x6, x7, x8, x9⟩ := (X.out.kept T1.out.below rfl).cells; have xl := (X.out.kept T1.out.below rfl).lt; obtain ⟨y0, y1⟩ := (Y.out.since T1.out).cells; have yl := (Y.out.since T1.out).lt; obtain ⟨z0, z1, z2, z3⟩ := (Z.out.since T1.out).four; have zl := (Z.out.since T1.out).lt)
            | (go_at_call 115; (with_reducible refine (H3.out _ T1.out).mono ?_); rintro e u2 ⟨rfl, hb⟩; have T2 : Hid (Since v3 u2) := since_call T1.out hb; clear hb; obtain ⟨x0, x1, x2, x3, x4, x5, x6, x7, x8, x9⟩ := (X.out.kept T2.out.below rfl).cells; have xl := (X.out.kept T2.out.below rfl).lt; obtain ⟨y0, y1⟩ := (Y.out.since T2.out).cells; have yl := (Y.out.since T2.out).lt; obtain ⟨z0, z1, z2, z3⟩ := (Z.out.since T2.out).four; have zl := (Z.out.since T2.out).lt)
            | (go_at_call 115; (with_reducible refine (H4.out _ T2.out).mono ?_); rintro e u3 ⟨rfl, hb⟩; have T3 : Hid (Since v3 u3) := since_call T2.out hb; clear hb; obtain ⟨x0, x1, x2, x3, x4, x5, x6, x7, x8, x9⟩ := (X.out.kept T3.out.below rfl).cells; have xl := (X.out.kept T3.out.below rfl).lt; obtain ⟨y0, y1⟩ := (Y.out.since T3.out).cells; have yl := (Y.out.since T3.out).lt; obtain ⟨z0, z1, z2, z3⟩ := (Z.out.since T3.out).four; have zl := (Z.out.since T3.out).lt)
            | (go_at_call 115; (with_reducible refine (H0.out _ T3.out).mono ?_); rintro e u4 ⟨rfl, hb⟩; have T4 : Hid (Since v3 u4) := since_call T3.out hb; clear hb; obtain ⟨x0, x1, x2, x3, x4, x5, x6, x7, x8, x9⟩ := (X.out.kept T4.out.below rfl).cells; have xl := (X.out.kept T4.out.below rfl).lt; obtain ⟨y0, y1⟩ := (Y.out.since T4.out).cells; have yl := (Y.out.since T4.out).lt; obtain ⟨z0, z1, z2, z3⟩ := (Z.out.since T4.out).four; have zl := (Z.out.since T4.out).lt))
          go_wp2_with fail
          refine bodyPost_ret (v := vecV 0 none 0 0) (by simp [results, Try.results36, go_sem, vecV, z0, z1]) rfl ?_
          have hSS := since_call S3.out T4.out.below
          have hz := ZS.out
          exact ⟨_, _, rfl, (since_set (since_set hSS (by show w.heap.size ≤ v2.heap.size; exact hz)) (by show w.heap.size ≤ v2.heap.size; exact hz)).below, Or.inl rfl⟩
        | true =>
          cases t1 with
          | false =>
            go_enter Try.func36, Try.ntmps36
            go_wp2_with (first
              | (go_at_call 115; (with_reducible refine (H2.out _ T0.out).mono ?_); rintro e u1 ⟨rfl, hb⟩; have T1 : Hid (Since v3 u1) := since_call T0.out hb; clear hb; obtain ⟨x0, x1, x2, x3, x4, x5, x6, x7, x8, x9⟩ := (X.out.kept T1.out.below rfl).cells; have xl := (X.out.kept T1.out.below rfl).lt; obtain ⟨y0, y1⟩ := (Y.out.since T1.out).cells; have yl := (Y.out.since T1.out).lt; obtain ⟨z0, z1, z2, z3⟩ := (Z.out.since T1.out).four; have zl := (Z.out.since T1.out).lt)
              | (go_at_call 115; (with_reducible refine (H3.out _ T1.out).mono ?_); rintro e u2 ⟨rfl, hb⟩; have T2 : Hid (Since v3 u2) := since_call T1.out hb; clear hb; obtain ⟨x0, x1, x2, x3, x4, x5, x6, x7, x8, x9⟩ := (X.out.kept T2.out.below rfl).cells; have xl := (X.out.kept T2.out.below rfl).lt; obtain ⟨y0, y1⟩ := (Y.out.since T2.out).cells; have yl := (Y.out.since T2.out).lt; obtain ⟨z0, z1, z2, z3⟩ := (Z.out.since T2.out).four; have zl := (Z.out.since T2.out).lt)
              | (go_at_call 115; (with_reducible refine (H4.out _ T2.out).mono ?_); rintro e u3 ⟨rfl, hb⟩; have T3 : Hid (Since v3 u3) := since_call T2.out hb; clear hb; obtain ⟨x0, x1, x2, x3, x4, x5, x6, x7, x8, x9⟩ := (X.out.kept T3.out.below rfl).cells; have xl := (X.out.kept T3.out.below rfl).lt; obtain ⟨y0, y1⟩ := (Y.out.since T3.out).cells; have yl := (Y.out.since T3.out).lt; obtain ⟨z0, z1, z2, z3⟩ := (Z.out.since T3.out).four; have zl := (Z.out.since T3.out).lt)
              | (go_at_call 115; (with_reducible refine (H0.out _ T3.out).mono ?_); rintro e u4 ⟨rfl, hb⟩; have T4 : Hid (Since v3 u4) := since_call T3.out hb; clear hb; obtain ⟨x0, x1, x2, x3, x4, x5, x6, x7, x8, x9⟩ := (X.out.kept T4.out.below rfl).cells; have xl := (X.out.kept T4.out.below rfl).lt; obtain ⟨y0, y1⟩ := (Y.out.since T4.out).cells; have yl := (Y.out.since T4.out).lt; obtain ⟨z0, z1, z2, z3⟩ := (Z.out.since T4.out).four; have zl := (Z.out.since T4.out).lt)
              | (go_at_call 115; (with_reducible refine (H1.out _ T4.out).mono ?_); rintro e u5 ⟨rfl, hb⟩; have T5 : Hid (Since v3 u5) := since_call T4.out hb; clear hb; obtain ⟨x0, x1, x2, x3, x4, x5, x6, x7, x8, x9⟩ := (X.out.kept T5.out.below rfl).cells; have xl := (X.out.kept T5.out.below rfl).lt; obtain ⟨y0, y1⟩ := (Y.out.since T5.out).cells; have yl := (Y.out.since T5.out).lt; obtain ⟨z0, z1, z2, z3⟩ := (Z.out.since T5.out).four; have zl := (Z.out.since T5.out).lt))
            go_wp2_with fail
            refine bodyPost_ret (v := vecV 0 none 0 0) (by simp [results, Try.results36, go_sem, vecV, z0, z1]) rfl ?_
            have hSS := since_call S3.out T5.out.below
            have hz := ZS.out
            exact ⟨_, _, rfl, (since_set (since_set hSS (by show w.heap.size ≤ v2.heap.size; exact hz)) (by show w.heap.size ≤ v2.heap.size; exact hz)).below, Or.inl rfl⟩
          | true =>
            simp at hex
end Go.Proofs.Ytlgnplnmcdjbiaa
