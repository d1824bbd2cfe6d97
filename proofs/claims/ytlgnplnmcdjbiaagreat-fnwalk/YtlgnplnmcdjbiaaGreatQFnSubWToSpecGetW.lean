/- What is proved here: the program's VecSub hands back the specification's words, in new memory, or nothing; nothing that was there turns.
   What is proved here: the program's CloseBy, where the masks and the places are right and of as many bits, closes them by one subtraction, in new memory; nothing that was there turns.
   What is proved here: the specification's VecGet says whether a bit of a right vector is on; nothing that was there turns. -/
import Derived.Test.YtlgnplnmcdjbiaaGreatQImplSubW
import Derived.Test.YtlgnplnmcdjbiaaGreatQWordNoWToFnOrW
import Derived.Test.YtlgnplnmcdjbiaaGreatQFnVecMToBytesRowW
import Derived.Test.YtlgnplnmcdjbiaaGreatQAsManyWToImplOrW
import Derived.Test.YtlgnplnmcdjbiaaGreatQImplAndWToFnAndW
import Derived.Test.YtlgnplnmcdjbiaaGreatQImplXorWToFnXorW
import Derived.Test.YtlgnplnmcdjbiaaGreatQImplNotWToFnNotW
import Derived.Deep.RegionHeld3
import Derived.Test.YtlgnplnmcdjbiaaGreatQVecAndWToGetS
import Derived.Test.YtlgnplnmcdjbiaaGreatQSpecKRightWToIsW
namespace Go.Proofs.YtlgnplnmcdjbiaaGreat
open Go.RowKit

set_option maxHeartbeats 2000000 in
theorem implVecSub_yes (b : Int) (sa sb : Option Addr) (n ka kb : Nat) (f g : Nat → Int) (w : World) (hn : n ≤ 1048576) (ha : Row w w.heap.size sa n f) (hb : Row w w.heap.size sb n g) (h1 : Right b n f) (h2 : Right b n g) :
    Calls Tryz.prog 64 #[.agg #[.int .i64 b, .slice sa n ka], .agg #[.int .i64 b, .slice sb n kb]] w fun e w' => NewVec w b n (cutF b n (sumF 1 f (cutF b n (notF g)))) e w' := by
  have HSAME : Hid (∀ i, i < n → cutF b n (difF f g) i = (cutF b n (sumF 1 f (cutF b n (notF g)))) i) := sub_same h1.2.2.2.1 h2.2.2.2.1
  have HA : Hid (Row w w.heap.size sa n f) := ha
  have HF : Hid (∀ i, i < n → 0 ≤ f i ∧ f i ≤ 4294967295) := h1.2.2.2.1
  have H1 : Hid (Right b n f) := h1
  have HB : Hid (Row w w.heap.size sb n g) := hb
  have HG : Hid (∀ i, i < n → 0 ≤ g i ∧ g i ≤ 4294967295) := h2.2.2.2.1
  have H2 : Hid (Right b n g) := h2
  clear hb h2
  clear ha h1
  have hmf : ∀ (fn : Fn) (first cap : Array Value) (w : World), (Instr.makeFunc fn first cap).run Tryz.prog w = .ok (.func fn first cap) w := fun _ _ _ _ => rfl
  go_enter Tryz.func64, Tryz.ntmps64
  go_wp2_with fail
  have q1 := boxing w 26 b sa n ka
  generalize w.alloc (.cells #[.int .i64 b, .slice sa n ka] 26) = v1 at *
  have q2 := boxing v1 26 b sb n kb
  generalize v1.alloc (.cells #[.int .i64 b, .slice sb n kb] 26) = v2 at *
  have q3 := boxing v2 26 0 none 0 0
  generalize v2.alloc (.cells #[.int .i64 0, .slice none 0 0] 26) = v3 at *
  have X3 : Hid (Boxed v3 (w.heap.size + 2) 26 0 none 0 0) := by rw [show w.heap.size + 2 = v2.heap.size by rw [q2.2.2, q1.2.2]]; exact q3.2.1
  have S3 : Hid (Since w v3) := since_call (since_call (since_call (since_refl _) q1.1) q2.1) q3.1
  have z3 : v3.heap.size = w.heap.size + 3 := by rw [q3.2.2, q2.2.2, q1.2.2]
  clear q1 q2 q3
  have hnew : (v3.alloc (.cells #[.int .u32 0] 103)).heap[v3.heap.size]? = some (.cells #[.int .u32 0] 103 (0, 0)) := heap_alloc_new v3 _
  have hb0 : Below v3.heap.size v3 (v3.alloc (.cells #[.int .u32 0] 103)) := (Below.refl _ _).alloc (Nat.le_refl _) _
  have hz0 : (v3.alloc (.cells #[.int .u32 0] 103)).heap.size = v3.heap.size + 1 := by simp
  generalize v3.alloc (.cells #[.int .u32 0] 103) = v4 at *
  have X4 : Hid (Boxed v4 (w.heap.size + 2) 26 0 none 0 0) := X3.out.kept hb0 rfl
  obtain ⟨cq, hcq⟩ : ∃ q, q = v3.heap.size := ⟨_, rfl⟩
  have S4 : Hid (Since w v4) := since_call S3.out hb0
  have RA : Hid (Row v4 v3.heap.size sa n f) := (row_since HA.out S3.out).kept hb0
  have RB : Hid (Row v4 v3.heap.size sb n g) := (row_since HB.out S3.out).kept hb0
  have CA : Hid (v4.cell? ⟨v3.heap.size, 0, none⟩ = some (.int .u32 0) ∧ v4.frozen? ⟨v3.heap.size, 0, none⟩ = false) := ⟨cell_of_one hnew, frozen_of_row _ _ _ _ _ hnew⟩
  have SV : Hid (Below v3.heap.size w v4 → Below w.heap.size w v4) := fun h => h.mono S3.out.size
  clear hnew hb0 X3
  try rw [← z3]
  refine (wordSub_yes b sa sb n ka kb v3.heap.size f g (difF f g) (borF f g) v4 hn RA.out RB.out H1.out H2.out (by omega) CA.out.1 CA.out.2 (fun k _ => bor_range f g k) (fun j _ => by unfold difF; omega) (fun _ _ => ⟨rfl, rfl⟩)).mono ?_
  rintro e w5 ⟨s5, c5, rfl, hb5, ho5⟩
  unfold vecV
  have SW : Hid (Since w w5) := ⟨S4.out.below.trans (hb5.mono (by omega))⟩
  have X5 : Hid (Boxed w5 (w.heap.size + 2) 26 0 none 0 0) := by
    show Boxed w5 (w.heap.size + 2) 26 0 none 0 0
    unfold Boxed
    rw [hb5.block _ (by omega)]
    exact X4.out
  obtain ⟨cc0, cc1, cc2, cc3⟩ := X5.out.four
  have HO : Hid (OwnS w5 v4.heap.size s5 n (cutF b n (sumF 1 f (cutF b n (notF g))))) := ho5.congr HSAME.out
  clear hb5 ho5 X4 X5 S3 S4 SV CA RA RB
  go_wp2
  refine bodyPost_ret (v := vecV b s5 n c5) (by simp [results, Tryz.results64, go_sem, vecV, cc0, cc1]) rfl ?_
  refine ⟨_, _, rfl, (since_set (since_set SW.out (by show w.heap.size ≤ w.heap.size + 2; omega)) (by show w.heap.size ≤ w.heap.size + 2; omega)).below, ?_⟩
  rcases HO.out with h | ⟨g5, h1, h2, h3⟩
  · exact Or.inl h
  · exact Or.inr ⟨g5, h1, by omega, (h3.setOther _ _ (by show w.heap.size + 2 ≠ g5; omega)).setOther _ _ (by show w.heap.size + 2 ≠ g5; omega)⟩

set_option maxHeartbeats 2000000 in
theorem implVecSub_no (b d : Int) (sa sb : Option Addr) (n m ka kb : Nat) (f g : Nat → Int) (w : World) (hn : n ≤ 1048576) (hm : m ≤ 1048576) (ha : Row w w.heap.size sa n f) (hb : Row w w.heap.size sb m g) (hno : ¬ (Right b n f ∧ Right d m g ∧ b = d)) :
    Calls Tryz.prog 64 #[.agg #[.int .i64 b, .slice sa n ka], .agg #[.int .i64 d, .slice sb m kb]] w fun e w' => NewVec w 0 0 (fun _ => 0) e w' := by
  have HA : Hid (Row w w.heap.size sa n f) := ha
  have HB : Hid (Row w w.heap.size sb m g) := hb
  have HN : Hid (¬ (Right b n f ∧ Right d m g ∧ b = d)) := hno
  clear ha hb hno
  have hmf : ∀ (fn : Fn) (first cap : Array Value) (w : World), (Instr.makeFunc fn first cap).run Tryz.prog w = .ok (.func fn first cap) w := fun _ _ _ _ => rfl
  go_enter Tryz.func64, Tryz.ntmps64
  go_wp2_with fail
  have q1 := boxing w 26 b sa n ka
  generalize w.alloc (.cells #[.int .i64 b, .slice sa n ka] 26) = v1 at *
  have q2 := boxing v1 26 d sb m kb
  generalize v1.alloc (.cells #[.int .i64 d, .slice sb m kb] 26) = v2 at *
  have q3 := boxing v2 26 0 none 0 0
  generalize v2.alloc (.cells #[.int .i64 0, .slice none 0 0] 26) = v3 at *
  have X3 : Hid (Boxed v3 (w.heap.size + 2) 26 0 none 0 0) := by rw [show w.heap.size + 2 = v2.heap.size by rw [q2.2.2, q1.2.2]]; exact q3.2.1
  have S3 : Hid (Since w v3) := since_call (since_call (since_call (since_refl _) q1.1) q2.1) q3.1
  clear q1 q2 q3
  have hb0 : Below v3.heap.size v3 (v3.alloc (.cells #[.int .u32 0] 103)) := (Below.refl _ _).alloc (Nat.le_refl _) _
  generalize v3.alloc (.cells #[.int .u32 0] 103) = v4 at *
  have X4 : Hid (Boxed v4 (w.heap.size + 2) 26 0 none 0 0) := X3.out.kept hb0 rfl
  have S4 : Hid (Since w v4) := since_call S3.out hb0
  clear hb0 X3 S3
  refine (word_no b d sa sb n m ka kb _ f g v4 hn hm (row_since HA.out S4.out) (row_since HB.out S4.out) HN.out).mono ?_
  rintro e w5 ⟨s5, c5, rfl, hb5, ho5⟩
  unfold vecV
  obtain ⟨cc0, cc1, cc2, cc3⟩ := (X4.out.kept hb5 rfl).four
  have S5 : Hid (Since w w5) := since_call S4.out hb5
  clear hb5 ho5 X4 S4
  go_wp2
  refine bodyPost_ret (v := vecV 0 s5 0 c5) (by simp [results, Tryz.results64, go_sem, vecV, cc0, cc1]) rfl ?_
  exact ⟨_, _, rfl, (since_set (since_set S5.out (by show w.heap.size ≤ w.heap.size + 2; omega)) (by show w.heap.size ≤ w.heap.size + 2; omega)).below, Or.inl rfl⟩
end Go.Proofs.YtlgnplnmcdjbiaaGreat
namespace Go.Proofs.YtlgnplnmcdjbiaaGreat
open Go.RowKit

open Classical in
set_option maxRecDepth 100000 in
set_option maxHeartbeats 8000000 in
theorem implCBy_yes (b : Int) (s : Nat → Option Addr) (n : Nat) (c : Nat → Nat) (F : Nat → Nat → Int) (sv : Option Addr) (cv : Nat) (g : Nat → Int) (w : World) (hn : n ≤ 1048576) (hr : ∀ i, i < 5 → Row w w.heap.size (s i) n (F i)) (hv : Row w w.heap.size sv n g) (h : ∀ i, i < 5 → Right b n (F i)) (hg : Right b n g) :
    Calls Tryz.prog 23 #[masksV b s n c, .agg #[.int .i64 b, .slice sv n cv]] w fun e w' => NewVec w b n (cyF b n (F 2) (F 3) (F 4) g) e w' := by
  have hn0 := right_pos hg
  have q1 := mboxing w b s n c
  obtain ⟨v1, hv1⟩ : ∃ v, w.alloc (.cells #[.int .i64 b, .slice (s 0) n (c 0), .int .i64 b, .slice (s 1) n (c 1), .int .i64 b, .slice (s 2) n (c 2), .int .i64 b, .slice (s 3) n (c 3), .int .i64 b, .slice (s 4) n (c 4)] 45) = v := ⟨_, rfl⟩
  rw [hv1] at q1
  have q2 := boxing v1 26 b sv n cv
  obtain ⟨v2, hv2⟩ : ∃ v, v1.alloc (.cells #[.int .i64 b, .slice sv n cv] 26) = v := ⟨_, rfl⟩
  rw [hv2] at q2
  have q3 := boxing v2 26 0 none 0 0
  obtain ⟨v3, hv3⟩ : ∃ v, v2.alloc (.cells #[.int .i64 0, .slice none 0 0] 26) = v := ⟨_, rfl⟩
  rw [hv3] at q3
  have S3 : Hid (Since w v3) := since_call (since_call (since_call (since_refl _) q1.1) q2.1) q3.1
  have X : Hid (MBox v3 w.heap.size b s n c) := (q1.2.1.kept q2.1 rfl).kept q3.1 rfl
  have z1 := q1.2.2
  have z2 := q2.2.2
  have Y : Hid (Boxed v3 v1.heap.size 26 b sv n cv) := q2.2.1.kept q3.1 rfl
  have Z : Hid (Boxed v3 v2.heap.size 26 0 none 0 0) := q3.2.1
  have ZS : Hid (v1.heap.size = w.heap.size + 1 ∧ v2.heap.size = w.heap.size + 2 ∧ v3.heap.size = w.heap.size + 3) := ⟨z1, by rw [z2, z1], by rw [q3.2.2, z2, z1]⟩
  have hb1 := hg.1
  have hb2 := hg.2.1
  have HGD : Hid (∀ i, i < n → 0 ≤ cyD (F 3) g i ∧ cyD (F 3) g i ≤ 4294967295) := (cyD_right (h 3 (by decide)) hg).2.2.2.1
  have HGF : Hid (∀ i, i < n → 0 ≤ F 2 i ∧ F 2 i ≤ 4294967295) := (h 2 (by decide)).2.2.2.1
  have HGX : Hid (∀ i, i < n → 0 ≤ cyX b n (F 2) (F 3) g i ∧ cyX b n (F 2) (F 3) g i ≤ 4294967295) := (cyX_right (h 3 (by decide)) hg).2.2.2.1
  have RV : Hid (Row v3 v3.heap.size sv n g) := row_since hv S3.out
  have RM : Hid (∀ i, i < 5 → Row v3 v3.heap.size (s i) n (F i)) := fun i hi => row_since (hr i hi) S3.out
  have HM : Hid (∀ i, i < 5 → Right b n (F i)) := h
  have HG : Hid (Right b n g) := hg
  have HVR : Hid (∀ W, Since v3 W → Calls Tryz.prog 58 #[.agg #[.int .i64 b, .slice sv n cv]] W fun e w' => e = .returned (.bool true) ∧ Below W.heap.size W w') := fun W hW => by
    have k := implRight_any b sv n cv g W hn (row_since RV.out hW)
    rw [decide_eq_true HG.out] at k
    exact k
  have HAM : Hid (∀ W, Since v3 W → Calls Tryz.prog 59 #[.agg #[.int .i64 b, .slice (s 0) n (c 0), .int .i64 b, .slice (s 1) n (c 1), .int .i64 b, .slice (s 2) n (c 2), .int .i64 b, .slice (s 3) n (c 3), .int .i64 b, .slice (s 4) n (c 4)], .int .i64 b] W fun e w' => e = .returned (.bool true) ∧ Below W.heap.size W w') := fun W hW => asMany_yes b s n c F W hn (fun i hi => row_since (RM.out i hi) hW) HM.out
  have H2 : Hid (Right b n (F 2)) := h 2 (by decide)
  have H3 : Hid (Right b n (F 3)) := h 3 (by decide)
  have H4 : Hid (Right b n (F 4)) := h 4 (by decide)
  have HD : Hid (Right b n (cyD (F 3) g)) := cyD_right H3.out hg
  have HS : Hid (Right b n (cyS b n (F 2) (F 3) g)) := cyS_right H3.out hg
  have HX : Hid (Right b n (cyX b n (F 2) (F 3) g)) := cyX_right H3.out hg
  have HN : Hid (Right b n (cyN b n (F 2) (F 3) g)) := cyN_right H3.out hg
  have HA : Hid (Right b n (cyA b n (F 2) (F 3) (F 4) g)) := cyA_right H3.out H4.out hg
  clear q1 q2 q3 z1 z2 hr hv h hg
  unfold masksV
  go_enter Tryz.func23, Tryz.ntmps23
  have T0 : Hid (Since v3 v3) := since_refl _
  obtain ⟨x0, x1, x2, x3, x4, x5, x6, x7, x8, x9⟩ := (X.out.kept T0.out.below rfl).cells
  have xl := (X.out.kept T0.out.below rfl).lt
  obtain ⟨y0, y1⟩ := (Y.out.since T0.out).cells
  have yl := (Y.out.since T0.out).lt
  go_upto_region 4 with (first
    | (go_at_call 58; (with_reducible refine (HVR.out _ T0.out).mono ?_); rintro e u1 ⟨rfl, hb⟩; have T1 : Hid (Since v3 u1) := since_call T0.out hb; clear hb; obtain ⟨x0, x1, x2, x3, x4, x5, x6, x7, x8, x9⟩ := (X.out.kept T1.out.below rfl).cells; have xl := (X.out.kept T1.out.below rfl).lt; obtain ⟨y0, y1⟩ := (Y.out.since T1.out).cells; have yl := (Y.out.since T1.out).lt)
    | (go_at_call 59; (with_reducible refine (HAM.out _ T1.out).mono ?_); rintro e u5 ⟨rfl, hb⟩; have T5 : Hid (Since v3 u5) := since_call T1.out hb; clear hb; obtain ⟨x0, x1, x2, x3, x4, x5, x6, x7, x8, x9⟩ := (X.out.kept T5.out.below rfl).cells; have xl := (X.out.kept T5.out.below rfl).lt; obtain ⟨y0, y1⟩ := (Y.out.since T5.out).cells; have yl := (Y.out.since T5.out).lt)
    | (go_at_call 60; (with_reducible refine (implVecOr_yes b sv (s 3) n cv (c 3) g (F 3) _ hn (row_since RV.out T5.out) (row_since (RM.out 3 (by decide)) T5.out) HG.out H3.out).mono ?_); rintro e u6 ⟨sd, cd, rfl, hb, ho⟩; unfold vecV; have T6 : Hid (Since v3 u6) := since_call T5.out hb; have RD : Hid (Row u6 u6.heap.size sd n (cyD (F 3) g)) := ho.row; clear hb ho; obtain ⟨x0, x1, x2, x3, x4, x5, x6, x7, x8, x9⟩ := (X.out.kept T6.out.below rfl).cells; have xl := (X.out.kept T6.out.below rfl).lt; obtain ⟨y0, y1⟩ := (Y.out.since T6.out).cells; have yl := (Y.out.since T6.out).lt))
  have qd := boxing u6 26 b sd n cd
  obtain ⟨V, hV⟩ : ∃ v, u6.alloc (.cells #[.int .i64 b, .slice sd n cd] 26) = v := ⟨_, rfl⟩
  rw [hV] at qd ⊢
  clear hV
  have S7 : Hid (Since u6 V) := ⟨qd.1⟩
  have DB : Hid (Boxed V u6.heap.size 26 b sd n cd) := qd.2.1
  have RD7 : Hid (Row V V.heap.size sd n (cyD (F 3) g)) := row_since RD.out S7.out
  have hdz : u6.heap.size ≠ v2.heap.size := by have := T6.out.size; have := ZS.out; omega
  have hdw : w.heap.size ≠ v2.heap.size := by have := ZS.out; omega
  have hdv : v1.heap.size ≠ v2.heap.size := by have := ZS.out; omega
  have hdz' := Ne.symm hdz
  have hdw' := Ne.symm hdw
  have hdv' := Ne.symm hdv
  have Y0 := Y
  have X0 := X
  have Z0 := Z
  have P6 := T6
  clear x0 x1 x2 x3 x4 x5 x6 x7 x8 x9 xl y0 y1 yl qd
  clear T1 T5 HVR HAM RD
  have X : Hid (MBox V w.heap.size b s n c) := (X0.out.kept P6.out.below rfl).kept S7.out.below rfl
  have Y : Hid (Boxed V v1.heap.size 26 b sv n cv) := (Y0.out.since P6.out).since S7.out
  have Z : Hid (Boxed V v2.heap.size 26 0 none 0 0) := (Z0.out.since P6.out).since S7.out
  have RV7 : Hid (Row V V.heap.size sv n g) := row_since (row_since RV.out P6.out) S7.out
  have RM7 : Hid (∀ i, i < 5 → Row V V.heap.size (s i) n (F i)) := fun i hi => row_since (row_since (RM.out i hi) P6.out) S7.out
  have SW : Hid (Since w V) := since_call (since_call S3.out P6.out.below) S7.out.below
  have Q0 : Hid (Since V V) := since_refl _
  clear X0 Y0 Z0
  obtain ⟨x0, x1, x2, x3, x4, x5, x6, x7, x8, x9⟩ := (X.out.kept Q0.out.below rfl).cells
  have xl := (X.out.kept Q0.out.below rfl).lt
  obtain ⟨y0, y1⟩ := (Y.out.since Q0.out).cells
  have yl := (Y.out.since Q0.out).lt
  obtain ⟨d0, d1⟩ := (DB.out.since Q0.out).cells
  have dl := (DB.out.since Q0.out).lt
  go_region_held3 (fun W => W.cell? ⟨w.heap.size, 4, none⟩ = some (.int .i64 b) ∧ W.cell? ⟨w.heap.size, 5, none⟩ = some (.slice (s 2) n (c 2)) ∧ W.cell? ⟨w.heap.size, 8, none⟩ = some (.int .i64 b) ∧ W.cell? ⟨w.heap.size, 9, none⟩ = some (.slice (s 4) n (c 4)) ∧ W.cell? ⟨v1.heap.size, 0, none⟩ = some (.int .i64 b) ∧ W.cell? ⟨v1.heap.size, 1, none⟩ = some (.slice sv n cv) ∧ W.cell? ⟨u6.heap.size, 0, none⟩ = some (.int .i64 b) ∧ W.cell? ⟨u6.heap.size, 1, none⟩ = some (.slice sd n cd)) (go_keep) (first
    | (go_at_call 64; (with_reducible refine (implVecSub_yes b sd (s 2) n cd (c 2) (cyD (F 3) g) (F 2) _ hn (row_since RD7.out (by first | exact since_drew (since_refl _) | exact since_refl _)) (row_since (RM7.out 2 (by decide)) (by first | exact since_drew (since_refl _) | exact since_refl _)) HD.out H2.out).mono ?_); rintro e p1 ⟨s1, c1, rfl, hb, ho⟩; unfold vecV; have Q1 : Hid (Since V p1) := (by refine since_call ?_ hb; first | exact since_drew (since_refl _) | exact since_refl _); have R1 : Hid (OwnS p1 V.heap.size s1 n (cyS b n (F 2) (F 3) g)) := (own_low ho (by first | exact Nat.le_refl _ | exact Nat.le_refl _)); clear hb ho; obtain ⟨x0, x1, x2, x3, x4, x5, x6, x7, x8, x9⟩ := (X.out.kept Q1.out.below rfl).cells; have xl := (X.out.kept Q1.out.below rfl).lt; obtain ⟨y0, y1⟩ := (Y.out.since Q1.out).cells; have yl := (Y.out.since Q1.out).lt; obtain ⟨d0, d1⟩ := (DB.out.since Q1.out).cells; have dl := (DB.out.since Q1.out).lt)
    | (go_at_call 63; (with_reducible refine (implVecXor_yes b s1 sd n c1 cd (cyS b n (F 2) (F 3) g) (cyD (F 3) g) _ hn R1.out.row (row_since RD7.out Q1.out) HS.out HD.out).mono ?_); rintro e p2 ⟨s2, c2, rfl, hb, ho⟩; unfold vecV; have Q2 : Hid (Since V p2) := (by refine since_call ?_ hb; first | exact Q1.out | exact since_refl _); have R2 : Hid (OwnS p2 V.heap.size s2 n (cyX b n (F 2) (F 3) g)) := (own_low ho (by first | exact Nat.le_refl _ | exact Q1.out.size)); clear hb ho; obtain ⟨x0, x1, x2, x3, x4, x5, x6, x7, x8, x9⟩ := (X.out.kept Q2.out.below rfl).cells; have xl := (X.out.kept Q2.out.below rfl).lt; obtain ⟨y0, y1⟩ := (Y.out.since Q2.out).cells; have yl := (Y.out.since Q2.out).lt; obtain ⟨d0, d1⟩ := (DB.out.since Q2.out).cells; have dl := (DB.out.since Q2.out).lt)
    | (go_at_call 62; (with_reducible refine (implVecNot_yes b s2 n c2 (cyX b n (F 2) (F 3) g) _ hn R2.out.row HX.out).mono ?_); rintro e p3 ⟨s3, c3, rfl, hb, ho⟩; unfold vecV; have Q3 : Hid (Since V p3) := (by refine since_call ?_ hb; first | exact Q2.out | exact since_refl _); have R3 : Hid (OwnS p3 V.heap.size s3 n (cyN b n (F 2) (F 3) g)) := (own_low ho (by first | exact Nat.le_refl _ | exact Q2.out.size)); clear hb ho; obtain ⟨x0, x1, x2, x3, x4, x5, x6, x7, x8, x9⟩ := (X.out.kept Q3.out.below rfl).cells; have xl := (X.out.kept Q3.out.below rfl).lt; obtain ⟨y0, y1⟩ := (Y.out.since Q3.out).cells; have yl := (Y.out.since Q3.out).lt; obtain ⟨d0, d1⟩ := (DB.out.since Q3.out).cells; have dl := (DB.out.since Q3.out).lt)
    | (go_at_call 61; (with_reducible refine (implVecAnd_yes b (s 4) s3 n (c 4) c3 (F 4) (cyN b n (F 2) (F 3) g) _ hn (row_since (RM7.out 4 (by decide)) Q3.out) R3.out.row H4.out HN.out).mono ?_); rintro e p4 ⟨s4, c4, rfl, hb, ho⟩; unfold vecV; have Q4 : Hid (Since V p4) := (by refine since_call ?_ hb; first | exact Q3.out | exact since_refl _); have R4 : Hid (OwnS p4 V.heap.size s4 n (cyA b n (F 2) (F 3) (F 4) g)) := (own_low ho (by first | exact Nat.le_refl _ | exact Q3.out.size)); clear hb ho; obtain ⟨x0, x1, x2, x3, x4, x5, x6, x7, x8, x9⟩ := (X.out.kept Q4.out.below rfl).cells; have xl := (X.out.kept Q4.out.below rfl).lt; obtain ⟨y0, y1⟩ := (Y.out.since Q4.out).cells; have yl := (Y.out.since Q4.out).lt; obtain ⟨d0, d1⟩ := (DB.out.since Q4.out).cells; have dl := (DB.out.since Q4.out).lt)
    | (go_at_call 60; (with_reducible refine (implVecOr_yes b sv s4 n cv c4 g (cyA b n (F 2) (F 3) (F 4) g) _ hn (row_since RV7.out Q4.out) R4.out.row HG.out HA.out).mono ?_); rintro e p5 ⟨s5, c5, rfl, hb, ho⟩; unfold vecV; have Q5 : Hid (Since V p5) := (by refine since_call ?_ hb; first | exact Q4.out | exact since_refl _); have R5 : Hid (OwnS p5 V.heap.size s5 n (cyF b n (F 2) (F 3) (F 4) g)) := (own_low ho (by first | exact Nat.le_refl _ | exact Q4.out.size)); clear hb ho; obtain ⟨x0, x1, x2, x3, x4, x5, x6, x7, x8, x9⟩ := (X.out.kept Q5.out.below rfl).cells; have xl := (X.out.kept Q5.out.below rfl).lt; obtain ⟨y0, y1⟩ := (Y.out.since Q5.out).cells; have yl := (Y.out.since Q5.out).lt; obtain ⟨d0, d1⟩ := (DB.out.since Q5.out).cells; have dl := (DB.out.since Q5.out).lt; obtain ⟨z0, z1, z2, z3⟩ := (Z.out.since Q5.out).four; have zl := (Z.out.since Q5.out).lt))
  all_goals
    go_wp2_with fail
    refine bodyPost_ret (v := vecV b s5 n c5) (by simp [results, Tryz.results23, go_sem, vecV, z0, z1]) rfl ?_
    have hV : v2.heap.size < V.heap.size := Z.out.lt
    have hz := ZS.out
    have hSS := since_call SW.out Q5.out.below
    refine ⟨_, _, rfl, (since_set (since_set hSS (by show w.heap.size ≤ v2.heap.size; omega)) (by show w.heap.size ≤ v2.heap.size; omega)).below, ?_⟩
    rcases R5.out with h | ⟨g5, h1, h2, h3⟩
    · exact Or.inl h
    · exact Or.inr ⟨g5, h1, by omega, (h3.setOther _ _ (by show v2.heap.size ≠ g5; omega)).setOther _ _ (by show v2.heap.size ≠ g5; omega)⟩
end Go.Proofs.YtlgnplnmcdjbiaaGreat
namespace Go.Proofs.YtlgnplnmcdjbiaaGreat
open Go.RowKit

/-- What VecGet says. -/
def GotB (b : Int) (n : Nat) (f : Nat → Int) (i : Int) (r : Bool) : Prop := (HasBit b n f i → r = getB (f (i / 32).toNat) (i % 32).toNat) ∧ (¬ HasBit b n f i → r = false)
theorem got_some (b : Int) (n : Nat) (f : Nat → Int) (i : Int) : ∃ r, GotB b n f i r := by
  by_cases h : HasBit b n f i
  · exact ⟨_, fun _ => rfl, fun h2 => absurd h h2⟩
  · exact ⟨false, fun h2 => absurd h2 h, fun _ => rfl⟩
open Classical in
set_option maxHeartbeats 1000000 in
theorem specGet_any (b : Int) (sa : Option Addr) (n ka : Nat) (f : Nat → Int) (i : Int) (r : Bool) (w : World) (hn : n ≤ 1048576) (hr : Row w w.heap.size sa n f) (hgot : GotB b n f i r) :
    Calls Tryz.prog 25 #[.agg #[.int .i64 b, .slice sa n ka], .int .i64 i] w fun e w' => e = .returned (.bool r) ∧ Below w.heap.size w w' := by
  have HR : Hid (Row w w.heap.size sa n f) := hr
  have C1 := fun W h => specRight_any b sa n ka f W hn h
  by_cases h : Right b n f
  · rw [decide_eq_true h] at C1
    have R1 : Hid (∀ W, Row W W.heap.size sa n f → Calls Tryz.prog 55 #[.agg #[.int .i64 b, .slice sa n ka]] W fun e w' => e = .returned (.bool true) ∧ Below W.heap.size W w') := C1
    have hb0 := h.1
    have hb1 := h.2.1
    by_cases hi : HasBit b n f i
    · obtain ⟨k, q, e1, e2, hk, hq, e3, e4⟩ := bit_place hi
      have e0 : r = getB (f k) q := by rw [hgot.1 hi, e3, e4]
      rw [e0]
      have HK : Hid (0 ≤ i ∧ i / 32 = (k : Int) ∧ i % 32 = (q : Int) ∧ i ≤ b - 1) := ⟨hi.2.1, e1, e2, by have := hi.2.2; omega⟩
      clear C1 e0 e1 e2 e3 e4 h hi hr hgot
      go_enter Tryz.func25, Tryz.ntmps25
      go_wp2_with fail
      have q1 := boxing w 26 b sa n ka
      generalize w.alloc (.cells #[.int .i64 b, .slice sa n ka] 26) = v1 at *
      refine (R1.out _ (row_since HR.out (since_call (since_refl _) q1.1))).mono ?_
      rintro e w4 ⟨rfl, hb4⟩
      obtain ⟨ca0, ca1⟩ := (q1.2.1.kept hb4 rfl).cells
      have S4 : Hid (Since w w4) := since_call (since_call (since_refl _) q1.1) hb4
      clear hb4 q1
      go_wp2_with fail
      refine (is_yes _ _ _ _ HK.out.1 HK.out.2.2.2).mono ?_
      rintro e w5 ⟨rfl, hw⟩
      subst hw
      go_wp2_with fail
      refine (l02Get_any b sa n ka k q f i _ hn (row_since HR.out S4.out) HK.out.1 HK.out.2.1 HK.out.2.2.1 hk).mono ?_
      rintro e w6 ⟨rfl, hb6⟩
      have S6 : Hid (Since w w6) := since_call S4.out hb6
      clear hb6 ca0 ca1
      go_wp2
      go_ret
      exact ⟨rfl, S6.out.below⟩
    · have e0 : r = false := hgot.2 hi
      rw [e0]
      have HK : Hid (¬ (0 ≤ i ∧ i ≤ b - 1)) := fun h2 => hi ⟨h, h2.1, by omega⟩
      clear C1 e0 h hi hr hgot
      go_enter Tryz.func25, Tryz.ntmps25
      go_wp2_with fail
      have q1 := boxing w 26 b sa n ka
      generalize w.alloc (.cells #[.int .i64 b, .slice sa n ka] 26) = v1 at *
      refine (R1.out _ (row_since HR.out (since_call (since_refl _) q1.1))).mono ?_
      rintro e w4 ⟨rfl, hb4⟩
      obtain ⟨ca0, ca1⟩ := (q1.2.1.kept hb4 rfl).cells
      have S4 : Hid (Since w w4) := since_call (since_call (since_refl _) q1.1) hb4
      clear hb4 q1
      go_wp2_with fail
      refine (is_no _ _ _ _ HK.out).mono ?_
      rintro e w5 ⟨rfl, hw⟩
      subst hw
      go_wp2
      go_ret
      exact ⟨rfl, S4.out.below⟩
  · rw [decide_eq_false h] at C1
    have R1 : Hid (∀ W, Row W W.heap.size sa n f → Calls Tryz.prog 55 #[.agg #[.int .i64 b, .slice sa n ka]] W fun e w' => e = .returned (.bool false) ∧ Below W.heap.size W w') := C1
    have e0 : r = false := hgot.2 (fun h2 => h h2.1)
    rw [e0]
    clear C1 e0 h hr hgot
    go_enter Tryz.func25, Tryz.ntmps25
    go_wp2_with fail
    have q1 := boxing w 26 b sa n ka
    generalize w.alloc (.cells #[.int .i64 b, .slice sa n ka] 26) = v1 at *
    refine (R1.out _ (row_since HR.out (since_call (since_refl _) q1.1))).mono ?_
    rintro e w4 ⟨rfl, hb4⟩
    have S4 : Hid (Since w w4) := since_call (since_call (since_refl _) q1.1) hb4
    clear hb4 q1
    go_wp2
    go_ret
    exact ⟨rfl, S4.out.below⟩
end Go.Proofs.YtlgnplnmcdjbiaaGreat
