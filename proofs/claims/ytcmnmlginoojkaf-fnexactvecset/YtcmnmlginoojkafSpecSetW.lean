/- What is proved here: the specification's VecSet hands back the words with one bit as it is asked for, in new memory, or nothing; nothing that was there turns. -/
import Derived.Test.YtcmnmlginoojkafVecCopyW
import Derived.Test.YtcmnmlginoojkafSetM
import Derived.BigRegion
namespace Go.Proofs.Ytcmnmlginoojkaf
open Go.RowKit

theorem grown_setNew2 {w W : World} {row : Option Nat} {p : Addr} {v : Value} (h : w.grownBy W row) (hp : w.heap.size ≤ p.block) : w.grownBy (W.setCell p v) row :=
  ⟨h.os, h.tape, h.output, by simpa [World.setCell] using h.size, fun k hk hr => by rw [Below.heap_setCell _ _ _ _ (fun e => by omega)]; exact h.block k hk hr⟩
theorem grown_below2 {w W W' : World} {row : Option Nat} (h : w.grownBy W row) (hb : Below W.heap.size W W') : w.grownBy W' row :=
  ⟨by rw [hb.os]; exact h.os, by rw [hb.tape]; exact h.tape, by rw [hb.output]; exact h.output, Nat.le_trans h.size hb.size, fun k hk hr => by rw [hb.block k (Nat.lt_of_lt_of_le hk h.size)]; exact h.block k hk hr⟩

set_option maxRecDepth 100000 in
set_option maxHeartbeats 4000000 in
theorem l02Set_any (b : Int) (g n cap k q : Nat) (f : Nat → Int) (i : Int) (on : Bool) (w : World) (hn : n ≤ 1048576) (ho : Own w g n f) (h0 : 0 ≤ i) (h1 : i / 32 = (k : Int)) (h2 : i % 32 = (q : Int)) (hk : k < n) (hq : q < 32) :
    Calls Try.prog 37 #[.agg #[.int .i64 b, .slice (some ⟨g, 0, none⟩) n cap], .int .i64 i, .bool on] w fun e w' => e = .returned (.tuple #[]) ∧ w.grownBy w' (some g) ∧ Own w' g n (setF f k q on) := by
  have hglt := ho.1
  have HO : Hid (Own w g n f) := ho
  have HK : Hid (i / 32 = (k : Int) ∧ i % 32 = (q : Int)) := ⟨h1, h2⟩
  clear ho h1 h2
  by_cases hg : getB (f k) q = on
  · have e1 : ∀ i, i < n → f i = setF f k q on i := by
      intro j _
      by_cases e : j = k
      · subst e; simp [setF, hg]
      · simp [setF, e]
    have HE : Hid (∀ i, i < n → f i = setF f k q on i) := e1
    clear e1
    have C1 := fun W h => l02Get_any b (some ⟨g, 0, none⟩) n cap k q f i W hn h h0 HK.out.1 HK.out.2 hk
    rw [hg] at C1
    have R1 : Hid (∀ W, Row W W.heap.size (some ⟨g, 0, none⟩) n f → Calls Try.prog 39 #[.agg #[.int .i64 b, .slice (some ⟨g, 0, none⟩) n cap], .int .i64 i] W fun e w' => e = .returned (.bool on) ∧ Below W.heap.size W w') := C1
    clear C1 hg
    go_enter Try.func37, Try.ntmps37
    go_wp2_with fail
    have q1 := boxing w 27 b (some ⟨g, 0, none⟩) n cap
    have G1 : w.grownBy (w.alloc (.cells #[.int .i64 b, .slice (some ⟨g, 0, none⟩) n cap] 27)) (some g) := World.grownBy_alloc w _ _
    generalize w.alloc (.cells #[.int .i64 b, .slice (some ⟨g, 0, none⟩) n cap] 27) = v1 at *
    have O1 := HO.out.kept q1.1 hglt
    refine (R1.out _ (O1.row (by rw [q1.2.2]; omega))).mono ?_
    rintro e w4 ⟨rfl, hb4⟩
    have G4 : Hid (w.grownBy w4 (some g)) := grown_below2 G1 hb4
    have O4 : Hid (Own w4 g n f) := O1.kept hb4 O1.1
    clear q1 G1 O1 hb4
    go_wp2
    go_end0
    exact ⟨rfl, G4.out, O4.out.congr HE.out⟩
  · have e1 : ∀ i, i < n → (if i = k then bits .xor .i64 (f k) (2 ^ q) else f i) = setF f k q on i := by
      intro j _
      by_cases e : j = k
      · subst e; simp [setF, hg]
      · simp [setF, e]
    have HE : Hid (∀ i, i < n → (if i = k then bits .xor .i64 (f k) (2 ^ q) else f i) = setF f k q on i) := e1
    have ht : getB (f k) q = !on := by cases h : getB (f k) q <;> cases on <;> simp_all
    have eb : (!((!on) == on)) = true := by cases on <;> rfl
    clear e1 hg
    have C1 := fun W h => l02Get_any b (some ⟨g, 0, none⟩) n cap k q f i W hn h h0 HK.out.1 HK.out.2 hk
    rw [ht] at C1
    have R1 : Hid (∀ W, Row W W.heap.size (some ⟨g, 0, none⟩) n f → Calls Try.prog 39 #[.agg #[.int .i64 b, .slice (some ⟨g, 0, none⟩) n cap], .int .i64 i] W fun e w' => e = .returned (.bool (!on)) ∧ Below W.heap.size W w') := C1
    clear C1 ht
    obtain ⟨P, hP, hP0, hP1⟩ := pow_bit q hq
    rw [hP] at HE
    have hw : wrap64 P = P := by unfold wrap64; omega
    have hwi : IntKind.i64.wrap P = P := by rw [IntKind.wrap_i64]; omega
    go_enter Try.func37, Try.ntmps37
    go_wp2_with fail
    have q1 := boxing w 27 b (some ⟨g, 0, none⟩) n cap
    have G1 : w.grownBy (w.alloc (.cells #[.int .i64 b, .slice (some ⟨g, 0, none⟩) n cap] 27)) (some g) := World.grownBy_alloc w _ _
    generalize w.alloc (.cells #[.int .i64 b, .slice (some ⟨g, 0, none⟩) n cap] 27) = v1 at *
    have O1 := HO.out.kept q1.1 hglt
    refine (R1.out _ (O1.row (by rw [q1.2.2]; omega))).mono ?_
    rintro e w4 ⟨rfl, hb4⟩
    have G4 : Hid (w.grownBy w4 (some g)) := grown_below2 G1 hb4
    have O4 : Hid (Own w4 g n f) := O1.kept hb4 O1.1
    have X4 := q1.2.1.kept hb4 rfl
    obtain ⟨ca0, ca1⟩ := X4.cells
    have l1 := X4.lt
    have cy := O4.out.2.1 k hk
    have cf := O4.out.2.2 k hk
    have lg := O4.out.1
    have hki : (k : Int) < (n : Int) := by omega
    have hk0 : (0 : Int) ≤ (k : Int) := by omega
    have hq0 : (0 : Int) ≤ (q : Int) := by omega
    have hq1 : (q : Int) < 32 := by omega
    obtain ⟨e1, e2⟩ := HK.out
    clear q1 G1 O1 hb4 X4
    go_wp2
    go_region
    all_goals
      go_wp2
      go_end0
      exact ⟨rfl, only_drawn (only_set G4.out), ((O4.out.set hk _).congr HE.out).drew⟩

open Classical in
set_option maxHeartbeats 2000000 in
theorem specSet_yes (b : Int) (sa : Option Addr) (n ka k q : Nat) (f : Nat → Int) (i : Int) (on : Bool) (w : World) (hn : n ≤ 1048576) (ha : Row w w.heap.size sa n f) (h : HasBit b n f i) (h1 : i / 32 = (k : Int)) (h2 : i % 32 = (q : Int)) (hk : k < n) (hq : q < 32) :
    Calls Try.prog 18 #[.agg #[.int .i64 b, .slice sa n ka], .int .i64 i, .bool on] w fun e w' => NewVec w b n (setF f k q on) e w' := by
  have HA : Hid (Row w w.heap.size sa n f) := ha
  have hn0 : 0 < n := by omega
  have hb0 := h.1.1
  have hb1 := h.1.2.1
  have HK : Hid (0 ≤ i ∧ i / 32 = (k : Int) ∧ i % 32 = (q : Int) ∧ i ≤ b - 1) := ⟨h.2.1, h1, h2, by have := h.2.2; omega⟩
  have C1 := fun W h => specRight_any b sa n ka f W hn h
  rw [decide_eq_true h.1] at C1
  have HC1 : Hid (∀ W, Row W W.heap.size sa n f → Calls Try.prog 10 #[.agg #[.int .i64 b, .slice sa n ka]] W fun e w' => e = .returned (.bool true) ∧ Below W.heap.size W w') := C1
  clear C1 ha h h1 h2
  go_enter Try.func18, Try.ntmps18
  go_wp2_with fail
  have q1 := boxing w 27 b sa n ka
  generalize w.alloc (.cells #[.int .i64 b, .slice sa n ka] 27) = v1 at *
  have q3 := boxing v1 27 0 none 0 0
  generalize v1.alloc (.cells #[.int .i64 0, .slice none 0 0] 27) = v3 at *
  have X1 : Hid (Boxed v3 w.heap.size 27 b sa n ka) := q1.2.1.kept q3.1 rfl
  have X3 : Hid (Boxed v3 (w.heap.size + 1) 27 0 none 0 0) := by rw [← q1.2.2]; exact q3.2.1
  have S3 : Hid (Since w v3) := since_call (since_call (since_refl _) q1.1) q3.1
  have z3 : v3.heap.size = w.heap.size + 2 := by rw [q3.2.2, q1.2.2]
  clear q1 q3
  refine (HC1.out _ (row_since HA.out S3.out)).mono ?_
  rintro e w4 ⟨rfl, hb4⟩
  have z4 : w.heap.size + 2 ≤ w4.heap.size := by have := hb4.size; omega
  have Y1 : Hid (Boxed w4 w.heap.size 27 b sa n ka) := X1.out.kept hb4 rfl
  have Y3 : Hid (Boxed w4 (w.heap.size + 1) 27 0 none 0 0) := X3.out.kept hb4 rfl
  have S4 : Hid (Since w w4) := since_call S3.out hb4
  clear hb4 X1 X3 S3 z3
  obtain ⟨ca0, ca1⟩ := Y1.out.cells
  go_wp2_with fail
  refine (is_yes _ _ _ _ HK.out.1 HK.out.2.2.2).mono ?_
  rintro e w5 ⟨rfl, hw⟩
  subst hw
  go_wp2_with fail
  refine (copy_any b sa n ka f _ hn0 hn (row_since HA.out S4.out)).mono ?_
  clear ca0 ca1
  rintro e w6 ⟨s6, c6, rfl, hb6, ho6⟩
  obtain ⟨g6, rfl, hg1, ho⟩ : ∃ g, s6 = some ⟨g, 0, none⟩ ∧ w5.heap.size ≤ g ∧ Own w6 g n f := by
    rcases ho6 with h | h
    · omega
    · exact h
  have hg2 := ho.1
  have O6 : Hid (Own w6 g6 n f) := ho
  have Z3 : Hid (Boxed w6 (w.heap.size + 1) 27 0 none 0 0) := Y3.out.kept hb6 rfl
  have S6 : Hid (Since w w6) := since_call S4.out hb6
  unfold vecV
  clear hb6 ho6 ho Y1 Y3 S4
  go_wp2_with fail
  have q5 := boxing w6 27 b (some ⟨g6, 0, none⟩) n c6
  generalize w6.alloc (.cells #[.int .i64 b, .slice (some ⟨g6, 0, none⟩) n c6] 27) = v7 at *
  obtain ⟨p7, hp7⟩ : ∃ p, p = w6.heap.size := ⟨_, rfl⟩
  rw [← hp7]
  have Y7 : Hid (Boxed v7 p7 27 b (some ⟨g6, 0, none⟩) n c6) := by rw [hp7]; exact q5.2.1
  have V3 : Hid (Boxed v7 (w.heap.size + 1) 27 0 none 0 0) := Z3.out.kept q5.1 rfl
  have S7 : Hid (Since w v7) := since_call S6.out q5.1
  have O7 : Own v7 g6 n f := O6.out.kept q5.1 hg2
  have hgp : g6 < p7 := by omega
  have hgl : w.heap.size + 2 ≤ g6 := by omega
  clear q5 Z3 S6 O6 hg2 hp7 hg1
  refine (l02Set_any b g6 n c6 k q f i on v7 hn O7 HK.out.1 HK.out.2.1 HK.out.2.2.1 hk hq).mono ?_
  rintro e w8 ⟨rfl, hgr, ho8⟩
  have O8 : Hid (Own w8 g6 n (setF f k q on)) := ho8
  have hin : OnlyIn v7 w8 g6 (g6 + 1) := ⟨some g6, hgr, fun g' e => by injection e with e; omega⟩
  have S8 : Hid (Since w w8) := ⟨S7.out.below.trans (hin.below (by omega) S7.out.size)⟩
  have X8 : Hid (Boxed w8 p7 27 b (some ⟨g6, 0, none⟩) n c6) := Y7.out.only hin (Or.inr (by omega))
  have Z8 : Hid (Boxed w8 (w.heap.size + 1) 27 0 none 0 0) := V3.out.only hin (Or.inl (by omega))
  clear hgr ho8 hin O7 Y7 V3 S7
  obtain ⟨cd0, cd1⟩ := X8.out.cells
  obtain ⟨cc0, cc1, cc2, cc3⟩ := Z8.out.four
  go_wp2
  refine bodyPost_ret (v := vecV b (some ⟨g6, 0, none⟩) n c6) (by simp [results, Try.results18, go_sem, vecV, cc0, cc1]) rfl ?_
  exact ⟨_, _, rfl, (since_set (since_set S8.out (by show w.heap.size ≤ w.heap.size + 1; omega)) (by show w.heap.size ≤ w.heap.size + 1; omega)).below, Or.inr ⟨g6, rfl, by omega, (O8.out.setOther _ _ (by show w.heap.size + 1 ≠ g6; omega)).setOther _ _ (by show w.heap.size + 1 ≠ g6; omega)⟩⟩

open Classical in
set_option maxHeartbeats 2000000 in
theorem specSet_no (b : Int) (sa : Option Addr) (n ka : Nat) (f : Nat → Int) (i : Int) (on : Bool) (w : World) (hn : n ≤ 1048576) (ha : Row w w.heap.size sa n f) (hno : ¬ HasBit b n f i) :
    Calls Try.prog 18 #[.agg #[.int .i64 b, .slice sa n ka], .int .i64 i, .bool on] w fun e w' => NewVec w 0 0 (fun _ => 0) e w' := by
  have HA : Hid (Row w w.heap.size sa n f) := ha
  have C1 := fun W h => specRight_any b sa n ka f W hn h
  by_cases h : Right b n f
  · rw [decide_eq_true h] at C1
    have HC1 : Hid (∀ W, Row W W.heap.size sa n f → Calls Try.prog 10 #[.agg #[.int .i64 b, .slice sa n ka]] W fun e w' => e = .returned (.bool true) ∧ Below W.heap.size W w') := C1
    have hb0 := h.1
    have hb1 := h.2.1
    have HK : Hid (¬ (0 ≤ i ∧ i ≤ b - 1)) := fun h2 => hno ⟨h, h2.1, by omega⟩
    clear C1 ha h hno
    go_enter Try.func18, Try.ntmps18
    go_wp2_with fail
    have q1 := boxing w 27 b sa n ka
    generalize w.alloc (.cells #[.int .i64 b, .slice sa n ka] 27) = v1 at *
    have q3 := boxing v1 27 0 none 0 0
    generalize v1.alloc (.cells #[.int .i64 0, .slice none 0 0] 27) = v3 at *
    have X1 : Hid (Boxed v3 w.heap.size 27 b sa n ka) := q1.2.1.kept q3.1 rfl
    have X3 : Hid (Boxed v3 (w.heap.size + 1) 27 0 none 0 0) := by rw [← q1.2.2]; exact q3.2.1
    have S3 : Hid (Since w v3) := since_call (since_call (since_refl _) q1.1) q3.1
    clear q1 q3
    refine (HC1.out _ (row_since HA.out S3.out)).mono ?_
    rintro e w4 ⟨rfl, hb4⟩
    obtain ⟨ca0, ca1⟩ := (X1.out.kept hb4 rfl).cells
    obtain ⟨cc0, cc1, cc2, cc3⟩ := (X3.out.kept hb4 rfl).four
    have S4 : Hid (Since w w4) := since_call S3.out hb4
    clear hb4 X1 X3 S3
    go_wp2_with fail
    refine (is_no _ _ _ _ HK.out).mono ?_
    rintro e w5 ⟨rfl, hw⟩
    subst hw
    go_wp2
    refine bodyPost_ret (v := vecV 0 none 0 0) (by simp [results, Try.results18, go_sem, vecV, cc0, cc1]) rfl ?_
    exact ⟨_, _, rfl, (since_set (since_set S4.out (by show w.heap.size ≤ w.heap.size + 1; omega)) (by show w.heap.size ≤ w.heap.size + 1; omega)).below, Or.inl rfl⟩
  · rw [decide_eq_false h] at C1
    have HC1 : Hid (∀ W, Row W W.heap.size sa n f → Calls Try.prog 10 #[.agg #[.int .i64 b, .slice sa n ka]] W fun e w' => e = .returned (.bool false) ∧ Below W.heap.size W w') := C1
    clear C1 ha h hno
    go_enter Try.func18, Try.ntmps18
    go_wp2_with fail
    have q1 := boxing w 27 b sa n ka
    generalize w.alloc (.cells #[.int .i64 b, .slice sa n ka] 27) = v1 at *
    have q3 := boxing v1 27 0 none 0 0
    generalize v1.alloc (.cells #[.int .i64 0, .slice none 0 0] 27) = v3 at *
    have X3 : Hid (Boxed v3 (w.heap.size + 1) 27 0 none 0 0) := by rw [← q1.2.2]; exact q3.2.1
    have S3 : Hid (Since w v3) := since_call (since_call (since_refl _) q1.1) q3.1
    clear q1 q3
    refine (HC1.out _ (row_since HA.out S3.out)).mono ?_
    rintro e w4 ⟨rfl, hb4⟩
    obtain ⟨cc0, cc1, cc2, cc3⟩ := (X3.out.kept hb4 rfl).four
    have S4 : Hid (Since w w4) := since_call S3.out hb4
    clear hb4 X3 S3
    go_wp2
    refine bodyPost_ret (v := vecV 0 none 0 0) (by simp [results, Try.results18, go_sem, vecV, cc0, cc1]) rfl ?_
    exact ⟨_, _, rfl, (since_set (since_set S4.out (by show w.heap.size ≤ w.heap.size + 1; omega)) (by show w.heap.size ≤ w.heap.size + 1; omega)).below, Or.inl rfl⟩
end Go.Proofs.Ytcmnmlginoojkaf
