/- What is proved here: the specification's VecSet hands back the words with one bit as it is asked for, in new memory, or nothing; nothing that was there turns. -/
import Derived.Test.YthnnenbpbkmbhaaDoorQVecCopyWToSpecAndW
import Derived.Test.YthnnenbpbkmbhaaDoorQL02SetW
import Derived.Test.YthnnenbpbkmbhaaDoorQGetSToGetEndW
import Derived.BigRegion
namespace Go.Proofs.YthnnenbpbkmbhaaDoor
open Go.RowKit



open Classical in
set_option maxHeartbeats 2000000 in
theorem specSet_yes (b : Int) (sa : Option Addr) (n ka k q : Nat) (f : Nat → Int) (i : Int) (on : Bool) (w : World) (hn : n ≤ 1048576) (ha : Row w w.heap.size sa n f) (h : HasBit b n f i) (h1 : i / 32 = (k : Int)) (h2 : i % 32 = (q : Int)) (hk : k < n) (hq : q < 32) :
    Calls Tryd.prog 19 #[.agg #[.int .i64 b, .slice sa n ka], .int .i64 i, .bool on] w fun e w' => NewVec w b n (setF f k q on) e w' := by
  have HA : Hid (Row w w.heap.size sa n f) := ha
  have hn0 : 0 < n := by omega
  have hb0 := h.1.1
  have hb1 := h.1.2.1
  have HK : Hid (0 ≤ i ∧ i / 32 = (k : Int) ∧ i % 32 = (q : Int) ∧ i ≤ b - 1) := ⟨h.2.1, h1, h2, by have := h.2.2; omega⟩
  have C1 := fun W h => specRight_any b sa n ka f W hn h
  rw [decide_eq_true h.1] at C1
  have HC1 : Hid (∀ W, Row W W.heap.size sa n f → Calls Tryd.prog 33 #[.agg #[.int .i64 b, .slice sa n ka]] W fun e w' => e = .returned (.bool true) ∧ Below W.heap.size W w') := C1
  clear C1 ha h h1 h2
  go_enter Tryd.func19, Tryd.ntmps19
  go_wp2_with fail
  have q1 := boxing w 25 b sa n ka
  generalize w.alloc (.cells #[.int .i64 b, .slice sa n ka] 25) = v1 at *
  have q3 := boxing v1 25 0 none 0 0
  generalize v1.alloc (.cells #[.int .i64 0, .slice none 0 0] 25) = v3 at *
  have X1 : Hid (Boxed v3 w.heap.size 25 b sa n ka) := q1.2.1.kept q3.1 rfl
  have X3 : Hid (Boxed v3 (w.heap.size + 1) 25 0 none 0 0) := by rw [← q1.2.2]; exact q3.2.1
  have S3 : Hid (Since w v3) := since_call (since_call (since_refl _) q1.1) q3.1
  have z3 : v3.heap.size = w.heap.size + 2 := by rw [q3.2.2, q1.2.2]
  clear q1 q3
  refine (HC1.out _ (row_since HA.out S3.out)).mono ?_
  rintro e w4 ⟨rfl, hb4⟩
  have z4 : w.heap.size + 2 ≤ w4.heap.size := by have := hb4.size; omega
  have Y1 : Hid (Boxed w4 w.heap.size 25 b sa n ka) := X1.out.kept hb4 rfl
  have Y3 : Hid (Boxed w4 (w.heap.size + 1) 25 0 none 0 0) := X3.out.kept hb4 rfl
  have S4 : Hid (Since w w4) := since_call S3.out hb4
  clear hb4 X1 X3 S3 z3
  obtain ⟨ca0, ca1⟩ := Y1.out.cells
  go_wp2_with fail
  refine (is_yes _ _ _ _ HK.out.1 HK.out.2.2.2).mono ?_
  rintro e w5 ⟨rfl, hw⟩
  subst hw
  go_wp2_with fail
  refine (copy_any b sa n ka f _ hn0 hn (row_since HA.out S4.out)).mono ?_
  clear ca0 ca1
  rintro e w6 ⟨s6, c6, rfl, hb6, ho6⟩
  obtain ⟨g6, rfl, hg1, ho⟩ : ∃ g, s6 = some ⟨g, 0, none⟩ ∧ w5.heap.size ≤ g ∧ Own w6 g n f := by
    rcases ho6 with h | h
    · omega
    · exact h
  have hg2 := ho.1
  have O6 : Hid (Own w6 g6 n f) := ho
  have Z3 : Hid (Boxed w6 (w.heap.size + 1) 25 0 none 0 0) := Y3.out.kept hb6 rfl
  have S6 : Hid (Since w w6) := since_call S4.out hb6
  unfold vecV
  clear hb6 ho6 ho Y1 Y3 S4
  go_wp2_with fail
  have q5 := boxing w6 25 b (some ⟨g6, 0, none⟩) n c6
  generalize w6.alloc (.cells #[.int .i64 b, .slice (some ⟨g6, 0, none⟩) n c6] 25) = v7 at *
  obtain ⟨p7, hp7⟩ : ∃ p, p = w6.heap.size := ⟨_, rfl⟩
  rw [← hp7]
  have Y7 : Hid (Boxed v7 p7 25 b (some ⟨g6, 0, none⟩) n c6) := by rw [hp7]; exact q5.2.1
  have V3 : Hid (Boxed v7 (w.heap.size + 1) 25 0 none 0 0) := Z3.out.kept q5.1 rfl
  have S7 : Hid (Since w v7) := since_call S6.out q5.1
  have O7 : Own v7 g6 n f := O6.out.kept q5.1 hg2
  have hgp : g6 < p7 := by omega
  have hgl : w.heap.size + 2 ≤ g6 := by omega
  clear q5 Z3 S6 O6 hg2 hp7 hg1
  refine (l02Set_any b g6 n c6 k q f i on v7 hn O7 HK.out.1 HK.out.2.1 HK.out.2.2.1 hk hq).mono ?_
  rintro e w8 ⟨rfl, hgr, ho8⟩
  have O8 : Hid (Own w8 g6 n (setF f k q on)) := ho8
  have hin : OnlyIn v7 w8 g6 (g6 + 1) := ⟨some g6, hgr, fun g' e => by injection e with e; omega⟩
  have S8 : Hid (Since w w8) := ⟨S7.out.below.trans (hin.below (by omega) S7.out.size)⟩
  have X8 : Hid (Boxed w8 p7 25 b (some ⟨g6, 0, none⟩) n c6) := Y7.out.only hin (Or.inr (by omega))
  have Z8 : Hid (Boxed w8 (w.heap.size + 1) 25 0 none 0 0) := V3.out.only hin (Or.inl (by omega))
  clear hgr ho8 hin O7 Y7 V3 S7
  obtain ⟨cd0, cd1⟩ := X8.out.cells
  obtain ⟨cc0, cc1, cc2, cc3⟩ := Z8.out.four
  go_wp2
  refine bodyPost_ret (v := vecV b (some ⟨g6, 0, none⟩) n c6) (by simp [results, Tryd.results19, go_sem, vecV, cc0, cc1]) rfl ?_
  exact ⟨_, _, rfl, (since_set (since_set S8.out (by show w.heap.size ≤ w.heap.size + 1; omega)) (by show w.heap.size ≤ w.heap.size + 1; omega)).below, Or.inr ⟨g6, rfl, by omega, (O8.out.setOther _ _ (by show w.heap.size + 1 ≠ g6; omega)).setOther _ _ (by show w.heap.size + 1 ≠ g6; omega)⟩⟩

open Classical in
set_option maxHeartbeats 2000000 in
theorem specSet_no (b : Int) (sa : Option Addr) (n ka : Nat) (f : Nat → Int) (i : Int) (on : Bool) (w : World) (hn : n ≤ 1048576) (ha : Row w w.heap.size sa n f) (hno : ¬ HasBit b n f i) :
    Calls Tryd.prog 19 #[.agg #[.int .i64 b, .slice sa n ka], .int .i64 i, .bool on] w fun e w' => NewVec w 0 0 (fun _ => 0) e w' := by
  have HA : Hid (Row w w.heap.size sa n f) := ha
  have C1 := fun W h => specRight_any b sa n ka f W hn h
  by_cases h : Right b n f
  · rw [decide_eq_true h] at C1
    have HC1 : Hid (∀ W, Row W W.heap.size sa n f → Calls Tryd.prog 33 #[.agg #[.int .i64 b, .slice sa n ka]] W fun e w' => e = .returned (.bool true) ∧ Below W.heap.size W w') := C1
    have hb0 := h.1
    have hb1 := h.2.1
    have HK : Hid (¬ (0 ≤ i ∧ i ≤ b - 1)) := fun h2 => hno ⟨h, h2.1, by omega⟩
    clear C1 ha h hno
    go_enter Tryd.func19, Tryd.ntmps19
    go_wp2_with fail
    have q1 := boxing w 25 b sa n ka
    generalize w.alloc (.cells #[.int .i64 b, .slice sa n ka] 25) = v1 at *
    have q3 := boxing v1 25 0 none 0 0
    generalize v1.alloc (.cells #[.int .i64 0, .slice none 0 0] 25) = v3 at *
    have X1 : Hid (Boxed v3 w.heap.size 25 b sa n ka) := q1.2.1.kept q3.1 rfl
    have X3 : Hid (Boxed v3 (w.heap.size + 1) 25 0 none 0 0) := by rw [← q1.2.2]; exact q3.2.1
    have S3 : Hid (Since w v3) := since_call (since_call (since_refl _) q1.1) q3.1
    clear q1 q3
    refine (HC1.out _ (row_since HA.out S3.out)).mono ?_
    rintro e w4 ⟨rfl, hb4⟩
    obtain ⟨ca0, ca1⟩ := (X1.out.kept hb4 rfl).cells
    obtain ⟨cc0, cc1, cc2, cc3⟩ := (X3.out.kept hb4 rfl).four
    have S4 : Hid (Since w w4) := since_call S3.out hb4
    clear hb4 X1 X3 S3
    go_wp2_with fail
    refine (is_no _ _ _ _ HK.out).mono ?_
    rintro e w5 ⟨rfl, hw⟩
    subst hw
    go_wp2
    refine bodyPost_ret (v := vecV 0 none 0 0) (by simp [results, Tryd.results19, go_sem, vecV, cc0, cc1]) rfl ?_
    exact ⟨_, _, rfl, (since_set (since_set S4.out (by show w.heap.size ≤ w.heap.size + 1; omega)) (by show w.heap.size ≤ w.heap.size + 1; omega)).below, Or.inl rfl⟩
  · rw [decide_eq_false h] at C1
    have HC1 : Hid (∀ W, Row W W.heap.size sa n f → Calls Tryd.prog 33 #[.agg #[.int .i64 b, .slice sa n ka]] W fun e w' => e = .returned (.bool false) ∧ Below W.heap.size W w') := C1
    clear C1 ha h hno
    go_enter Tryd.func19, Tryd.ntmps19
    go_wp2_with fail
    have q1 := boxing w 25 b sa n ka
    generalize w.alloc (.cells #[.int .i64 b, .slice sa n ka] 25) = v1 at *
    have q3 := boxing v1 25 0 none 0 0
    generalize v1.alloc (.cells #[.int .i64 0, .slice none 0 0] 25) = v3 at *
    have X3 : Hid (Boxed v3 (w.heap.size + 1) 25 0 none 0 0) := by rw [← q1.2.2]; exact q3.2.1
    have S3 : Hid (Since w v3) := since_call (since_call (since_refl _) q1.1) q3.1
    clear q1 q3
    refine (HC1.out _ (row_since HA.out S3.out)).mono ?_
    rintro e w4 ⟨rfl, hb4⟩
    obtain ⟨cc0, cc1, cc2, cc3⟩ := (X3.out.kept hb4 rfl).four
    have S4 : Hid (Since w w4) := since_call S3.out hb4
    clear hb4 X3 S3
    go_wp2
    refine bodyPost_ret (v := vecV 0 none 0 0) (by simp [results, Tryd.results19, go_sem, vecV, cc0, cc1]) rfl ?_
    exact ⟨_, _, rfl, (since_set (since_set S4.out (by show w.heap.size ≤ w.heap.size + 1; omega)) (by show w.heap.size ≤ w.heap.size + 1; omega)).below, Or.inl rfl⟩
end Go.Proofs.YthnnenbpbkmbhaaDoor
