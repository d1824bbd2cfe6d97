/- What is proved here: 'copy' from a slice of numbers into one that the call owns.
   What is proved here: the program's VecSet hands back the words with one bit as it is asked for, in new memory, or nothing; nothing that was there turns. -/
import Derived.Test.YthnnenbpbkmbhaaDoorQRowsDToVecS
import Derived.Lib.SlBuf
import Derived.Laws.IdiomCopy
import Derived.Test.YthnnenbpbkmbhaaDoorQLwWToNewW
import Derived.Test.YthnnenbpbkmbhaaDoorQGetBWToFnVecM
import Derived.Test.YthnnenbpbkmbhaaDoorQGetSToGetEndW
namespace Go.Proofs.YthnnenbpbkmbhaaDoor
open Go.RowKit

theorem only_setCells {a : World} (g : Nat) : ∀ (vs : List Value) (o : Nat) {w : World}, a.grownBy w (some g) → a.grownBy (w.setCells g o vs) (some g)
  | [], _, _, h => h
  | _ :: r, o, _, h => only_setCells g r (o + 1) (only_set h)
theorem copy_row (w : World) (g n cd cs : Nat) (sb : Option Addr) (f f0 : Nat → Int) (hn0 : 0 < n) (ho : Own w g n f0) (hr : Row w w.heap.size sb n f) :
    ∃ w', (Builtin.copy_ #[23, 23] 3 #[.slice (some ⟨g, 0, none⟩) n cd, .slice sb n cs]).run Tryd.prog w = .ok (.int .i64 (n : Int)) w' ∧ w.grownBy w' (some g) ∧ Own w' g n f := by
  obtain ⟨bb, off, rfl, hbb, hca⟩ : ∃ bb off : Nat, sb = some ⟨bb, off, none⟩ ∧ bb < w.heap.size ∧ ∀ i, i < n → w.cell? ⟨bb, off + i, none⟩ = some (.int .i64 (f i)) := by
    rcases hr with h | h
    · omega
    · exact h
  obtain ⟨i0, hi, hz0, hz1, hz2⟩ := info_parts Tryd.numInfo
  have hl : ((List.range n).map fun i => Value.int .i64 (f i)).length = n := by simp
  have h := run_copy_cells (P := Tryd.prog) w 23 23 3 2 g 0 n cd ⟨bb, off, none⟩ n cs ((List.range n).map fun i => Value.int .i64 (f i)) Tryd.underlying23 (by rw [hi]; simp [hz1]) (by rw [hl]; simp)
    (fun j v hv => by
      have hj : j < n := by
        rcases Nat.lt_or_ge j n with h | h
        · exact h
        · rw [List.getElem?_eq_none (by simp; omega)] at hv
          cases hv
      have hp : (⟨bb, off, none⟩ : Addr).add j = ⟨bb, off + j, none⟩ := by unfold Addr.add; split <;> simp_all
      rw [hp, hca j hj]
      simpa [List.getElem?_map, List.getElem?_range hj] using hv)
    (fun j hj => by rw [hl] at hj; rw [Nat.zero_add, ho.2.1 j hj]; rfl) (fun j hj => by rw [hl] at hj; rw [Nat.zero_add]; exact ho.2.2 j hj)
    (fun v hv => by
      obtain ⟨i, _, rfl⟩ := List.mem_map.1 hv
      rfl)
  rw [hl] at h
  refine ⟨_, h, only_setCells g _ 0 (World.grownBy.refl _ _), ?_, ?_, ?_⟩
  · exact Nat.lt_of_lt_of_le ho.1 (only_setCells g _ 0 (World.grownBy.refl _ _)).size
  · intro j hj
    have hin := World.cell?_setCells_in g ((List.range n).map fun i => Value.int .i64 (f i)) 0 w (fun i hi => by rw [hl] at hi; rw [Nat.zero_add, ho.2.1 i hi]; rfl) j (by rw [hl]; exact hj)
    rw [Nat.zero_add] at hin
    rw [hin]
    simp
  · intro j hj
    rw [World.frozen?_setCells]
    exact ho.2.2 j hj
end Go.Proofs.YthnnenbpbkmbhaaDoor
namespace Go.Proofs.YthnnenbpbkmbhaaDoor
open Go.RowKit

open Classical in
set_option maxRecDepth 100000 in
set_option maxHeartbeats 4000000 in
theorem implSet_yes (b : Int) (sa : Option Addr) (n ka k q : Nat) (f : Nat → Int) (i : Int) (on : Bool) (w : World) (hn : n ≤ 1048576) (ha : Row w w.heap.size sa n f) (h : HasBit b n f i) (h1 : i / 32 = (k : Int)) (h2 : i % 32 = (q : Int)) (hk : k < n) (hq : q < 32) :
    Calls Tryd.prog 13 #[.agg #[.int .i64 b, .slice sa n ka], .int .i64 i, .bool on] w fun e w' => NewVec w b n (setF f k q on) e w' := by
  have HA : Hid (Row w w.heap.size sa n f) := ha
  have hn0 : 0 < n := by omega
  have hb0 := h.1.1
  have hb1 := h.1.2.1
  have hi := h.2.1
  have HM : Hid ((n : Int) = (b + 31) / 32) := h.1.2.2.1
  have hx : Word 32 (f k) := by have := h.1.2.2.2.1 k hk; exact ⟨this.1, by omega⟩
  have C1 := fun W h => hasBit_any b sa n ka f i W hn h
  rw [decide_eq_true h] at C1
  have HC1 : Hid (∀ W, Row W W.heap.size sa n f → Calls Tryd.prog 53 #[.agg #[.int .i64 b, .slice sa n ka], .int .i64 i] W fun e w' => e = .returned (.bool true) ∧ Below W.heap.size W w') := C1
  clear C1 ha h
  obtain ⟨P, hP, hP0, hP1⟩ := pow_bit q hq
  have hw : wrap64 P = P := by unfold wrap64; omega
  have hki : (k : Int) < (n : Int) := by omega
  have hk0 : (0 : Int) ≤ (k : Int) := by omega
  have hq0 : (0 : Int) ≤ (q : Int) := by omega
  have hq1 : (q : Int) < 32 := by omega
  cases on
  · have HE : Hid (∀ i, (if i = k then bits .andNot .i64 (f k) P else f i) = setF f k q false i) := by rw [← hP]; exact set_off f k q hq hx
    clear hx
    go_enter Tryd.func13, Tryd.ntmps13
    go_wp2_with fail
    have q1 := boxing w 25 b sa n ka
    generalize w.alloc (.cells #[.int .i64 b, .slice sa n ka] 25) = v1 at *
    have q3 := boxing v1 25 0 none 0 0
    generalize v1.alloc (.cells #[.int .i64 0, .slice none 0 0] 25) = v3 at *
    have X1 : Hid (Boxed v3 w.heap.size 25 b sa n ka) := q1.2.1.kept q3.1 rfl
    have X3 : Hid (Boxed v3 (w.heap.size + 1) 25 0 none 0 0) := by rw [← q1.2.2]; exact q3.2.1
    have S3 : Hid (Since w v3) := since_call (since_call (since_refl _) q1.1) q3.1
    have z3 : v3.heap.size = w.heap.size + 2 := by rw [q3.2.2, q1.2.2]
    clear q1 q3
    refine (HC1.out _ (row_since HA.out S3.out)).mono ?_
    rintro e w4 ⟨rfl, hb4⟩
    have z4 : w.heap.size + 2 ≤ w4.heap.size := by have := hb4.size; omega
    have Y1 : Hid (Boxed w4 w.heap.size 25 b sa n ka) := X1.out.kept hb4 rfl
    have Y3 : Hid (Boxed w4 (w.heap.size + 1) 25 0 none 0 0) := X3.out.kept hb4 rfl
    have S4 : Hid (Since w w4) := since_call S3.out hb4
    clear hb4 X1 X3 S3 z3
    obtain ⟨ca0, ca1⟩ := Y1.out.cells
    go_wp2_with fail
    refine (implNew_yes b n w4 hb0 hb1 HM.out).mono ?_
    clear ca0 ca1
    rintro e w6 ⟨s6, c6, rfl, hb6, ho6⟩
    obtain ⟨g6, rfl, hg1, ho⟩ : ∃ g, s6 = some ⟨g, 0, none⟩ ∧ w4.heap.size ≤ g ∧ Own w6 g n (fun _ => 0) := by
      rcases ho6 with h | h
      · omega
      · exact h
    have hg2 := ho.1
    have O6 : Hid (Own w6 g6 n (fun _ => 0)) := ho
    have Z1 : Hid (Boxed w6 w.heap.size 25 b sa n ka) := Y1.out.kept hb6 rfl
    have Z3 : Hid (Boxed w6 (w.heap.size + 1) 25 0 none 0 0) := Y3.out.kept hb6 rfl
    have S6 : Hid (Since w w6) := since_call S4.out hb6
    unfold vecV
    clear hb6 ho6 ho Y1 Y3 S4
    have q5 := boxing w6 25 b (some ⟨g6, 0, none⟩) n c6
    have S7a : Since w (w6.alloc (.cells #[.int .i64 b, .slice (some ⟨g6, 0, none⟩) n c6] 25)) := since_call S6.out q5.1
    obtain ⟨wc, hrun, hgrow, hocp⟩ := copy_row (w6.alloc (.cells #[.int .i64 b, .slice (some ⟨g6, 0, none⟩) n c6] 25)) g6 n c6 ka sa f (fun _ => 0) hn0 (O6.out.kept q5.1 hg2) (row_since HA.out S7a)
    obtain ⟨p7, hp7⟩ : ∃ p, p = w6.heap.size := ⟨_, rfl⟩
    have hgp : g6 < p7 := by omega
    have hgl : w.heap.size + 2 ≤ g6 := by omega
    have hin : OnlyIn (w6.alloc (.cells #[.int .i64 b, .slice (some ⟨g6, 0, none⟩) n c6] 25)) wc g6 (g6 + 1) := ⟨some g6, hgrow, fun g' e => by injection e with e; omega⟩
    have K7 : Hid (Boxed wc p7 25 b (some ⟨g6, 0, none⟩) n c6) := (show Boxed _ p7 _ _ _ _ _ from by rw [hp7]; exact q5.2.1).only hin (Or.inr (by omega))
    have K3 : Hid (Boxed wc (w.heap.size + 1) 25 0 none 0 0) := (Z3.out.kept q5.1 rfl).only hin (Or.inl (by omega))
    have KS : Hid (Since w wc) := ⟨S7a.below.trans (hin.below (by omega) S7a.size)⟩
    have KO : Hid (Own wc g6 n f) := hocp
    obtain ⟨ca0, ca1⟩ := (Z1.out.kept q5.1 rfl).cells
    have cd := K7.out.cells
    have cc := K3.out.four
    have cy := KO.out.2.1 k hk
    have cf := KO.out.2.2 k hk
    have lg := KO.out.1
    have l7 := K7.out.lt
    have l3 := K3.out.lt
    obtain ⟨cd0, cd1⟩ := cd
    obtain ⟨cc0, cc1, cc2, cc3⟩ := cc
    have n1 : g6 ≠ p7 := by omega
    clear hgrow hocp hin q5 S7a Z1 Z3 O6 hg1
    rw [hp7] at K7 cd0 cd1 l7 n1 hgp
    go_wp2
    have KO2 : Hid (Own (wc.setCell ⟨g6, k, none⟩ (.int .i64 (bits .andNot .i64 (f k) P))) g6 n (setF f k q false)) := (KO.out.set hk _).congr (fun i _ => HE.out i)
    have KS2 : Hid (Since w (wc.setCell ⟨g6, k, none⟩ (.int .i64 (bits .andNot .i64 (f k) P)))) := since_set KS.out (by show w.heap.size ≤ g6; omega)
    refine bodyPost_ret (v := vecV b (some ⟨g6, 0, none⟩) n c6) (by simp [results, Tryd.results13, go_sem, vecV, cc0, cc1]) rfl ?_
    exact ⟨_, _, rfl, (since_set (since_set KS2.out (by show w.heap.size ≤ w.heap.size + 1; omega)) (by show w.heap.size ≤ w.heap.size + 1; omega)).below, Or.inr ⟨g6, rfl, by omega, (KO2.out.setOther _ _ (by show w.heap.size + 1 ≠ g6; omega)).setOther _ _ (by show w.heap.size + 1 ≠ g6; omega)⟩⟩
  · have HE : Hid (∀ i, (if i = k then bits .or .i64 (f k) P else f i) = setF f k q true i) := by rw [← hP]; exact set_on f k q hq hx
    clear hx
    go_enter Tryd.func13, Tryd.ntmps13
    go_wp2_with fail
    have q1 := boxing w 25 b sa n ka
    generalize w.alloc (.cells #[.int .i64 b, .slice sa n ka] 25) = v1 at *
    have q3 := boxing v1 25 0 none 0 0
    generalize v1.alloc (.cells #[.int .i64 0, .slice none 0 0] 25) = v3 at *
    have X1 : Hid (Boxed v3 w.heap.size 25 b sa n ka) := q1.2.1.kept q3.1 rfl
    have X3 : Hid (Boxed v3 (w.heap.size + 1) 25 0 none 0 0) := by rw [← q1.2.2]; exact q3.2.1
    have S3 : Hid (Since w v3) := since_call (since_call (since_refl _) q1.1) q3.1
    have z3 : v3.heap.size = w.heap.size + 2 := by rw [q3.2.2, q1.2.2]
    clear q1 q3
    refine (HC1.out _ (row_since HA.out S3.out)).mono ?_
    rintro e w4 ⟨rfl, hb4⟩
    have z4 : w.heap.size + 2 ≤ w4.heap.size := by have := hb4.size; omega
    have Y1 : Hid (Boxed w4 w.heap.size 25 b sa n ka) := X1.out.kept hb4 rfl
    have Y3 : Hid (Boxed w4 (w.heap.size + 1) 25 0 none 0 0) := X3.out.kept hb4 rfl
    have S4 : Hid (Since w w4) := since_call S3.out hb4
    clear hb4 X1 X3 S3 z3
    obtain ⟨ca0, ca1⟩ := Y1.out.cells
    go_wp2_with fail
    refine (implNew_yes b n w4 hb0 hb1 HM.out).mono ?_
    clear ca0 ca1
    rintro e w6 ⟨s6, c6, rfl, hb6, ho6⟩
    obtain ⟨g6, rfl, hg1, ho⟩ : ∃ g, s6 = some ⟨g, 0, none⟩ ∧ w4.heap.size ≤ g ∧ Own w6 g n (fun _ => 0) := by
      rcases ho6 with h | h
      · omega
      · exact h
    have hg2 := ho.1
    have O6 : Hid (Own w6 g6 n (fun _ => 0)) := ho
    have Z1 : Hid (Boxed w6 w.heap.size 25 b sa n ka) := Y1.out.kept hb6 rfl
    have Z3 : Hid (Boxed w6 (w.heap.size + 1) 25 0 none 0 0) := Y3.out.kept hb6 rfl
    have S6 : Hid (Since w w6) := since_call S4.out hb6
    unfold vecV
    clear hb6 ho6 ho Y1 Y3 S4
    have q5 := boxing w6 25 b (some ⟨g6, 0, none⟩) n c6
    have S7a : Since w (w6.alloc (.cells #[.int .i64 b, .slice (some ⟨g6, 0, none⟩) n c6] 25)) := since_call S6.out q5.1
    obtain ⟨wc, hrun, hgrow, hocp⟩ := copy_row (w6.alloc (.cells #[.int .i64 b, .slice (some ⟨g6, 0, none⟩) n c6] 25)) g6 n c6 ka sa f (fun _ => 0) hn0 (O6.out.kept q5.1 hg2) (row_since HA.out S7a)
    obtain ⟨p7, hp7⟩ : ∃ p, p = w6.heap.size := ⟨_, rfl⟩
    have hgp : g6 < p7 := by omega
    have hgl : w.heap.size + 2 ≤ g6 := by omega
    have hin : OnlyIn (w6.alloc (.cells #[.int .i64 b, .slice (some ⟨g6, 0, none⟩) n c6] 25)) wc g6 (g6 + 1) := ⟨some g6, hgrow, fun g' e => by injection e with e; omega⟩
    have K7 : Hid (Boxed wc p7 25 b (some ⟨g6, 0, none⟩) n c6) := (show Boxed _ p7 _ _ _ _ _ from by rw [hp7]; exact q5.2.1).only hin (Or.inr (by omega))
    have K3 : Hid (Boxed wc (w.heap.size + 1) 25 0 none 0 0) := (Z3.out.kept q5.1 rfl).only hin (Or.inl (by omega))
    have KS : Hid (Since w wc) := ⟨S7a.below.trans (hin.below (by omega) S7a.size)⟩
    have KO : Hid (Own wc g6 n f) := hocp
    obtain ⟨ca0, ca1⟩ := (Z1.out.kept q5.1 rfl).cells
    have cd := K7.out.cells
    have cc := K3.out.four
    have cy := KO.out.2.1 k hk
    have cf := KO.out.2.2 k hk
    have lg := KO.out.1
    have l7 := K7.out.lt
    have l3 := K3.out.lt
    obtain ⟨cd0, cd1⟩ := cd
    obtain ⟨cc0, cc1, cc2, cc3⟩ := cc
    have n1 : g6 ≠ p7 := by omega
    clear hgrow hocp hin q5 S7a Z1 Z3 O6 hg1
    rw [hp7] at K7 cd0 cd1 l7 n1 hgp
    go_wp2
    have KO2 : Hid (Own (wc.setCell ⟨g6, k, none⟩ (.int .i64 (bits .or .i64 (f k) P))) g6 n (setF f k q true)) := (KO.out.set hk _).congr (fun i _ => HE.out i)
    have KS2 : Hid (Since w (wc.setCell ⟨g6, k, none⟩ (.int .i64 (bits .or .i64 (f k) P)))) := since_set KS.out (by show w.heap.size ≤ g6; omega)
    refine bodyPost_ret (v := vecV b (some ⟨g6, 0, none⟩) n c6) (by simp [results, Tryd.results13, go_sem, vecV, cc0, cc1]) rfl ?_
    exact ⟨_, _, rfl, (since_set (since_set KS2.out (by show w.heap.size ≤ w.heap.size + 1; omega)) (by show w.heap.size ≤ w.heap.size + 1; omega)).below, Or.inr ⟨g6, rfl, by omega, (KO2.out.setOther _ _ (by show w.heap.size + 1 ≠ g6; omega)).setOther _ _ (by show w.heap.size + 1 ≠ g6; omega)⟩⟩

open Classical in
set_option maxHeartbeats 2000000 in
theorem implSet_no (b : Int) (sa : Option Addr) (n ka : Nat) (f : Nat → Int) (i : Int) (on : Bool) (w : World) (hn : n ≤ 1048576) (ha : Row w w.heap.size sa n f) (hno : ¬ HasBit b n f i) :
    Calls Tryd.prog 13 #[.agg #[.int .i64 b, .slice sa n ka], .int .i64 i, .bool on] w fun e w' => NewVec w 0 0 (fun _ => 0) e w' := by
  have HA : Hid (Row w w.heap.size sa n f) := ha
  have C1 := fun W h => hasBit_any b sa n ka f i W hn h
  rw [decide_eq_false hno] at C1
  have HC1 : Hid (∀ W, Row W W.heap.size sa n f → Calls Tryd.prog 53 #[.agg #[.int .i64 b, .slice sa n ka], .int .i64 i] W fun e w' => e = .returned (.bool false) ∧ Below W.heap.size W w') := C1
  clear C1 ha hno
  go_enter Tryd.func13, Tryd.ntmps13
  go_wp2_with fail
  have q1 := boxing w 25 b sa n ka
  generalize w.alloc (.cells #[.int .i64 b, .slice sa n ka] 25) = v1 at *
  have q3 := boxing v1 25 0 none 0 0
  generalize v1.alloc (.cells #[.int .i64 0, .slice none 0 0] 25) = v3 at *
  have X3 : Hid (Boxed v3 (w.heap.size + 1) 25 0 none 0 0) := by rw [← q1.2.2]; exact q3.2.1
  have S3 : Hid (Since w v3) := since_call (since_call (since_refl _) q1.1) q3.1
  clear q1 q3
  refine (HC1.out _ (row_since HA.out S3.out)).mono ?_
  rintro e w4 ⟨rfl, hb4⟩
  obtain ⟨cc0, cc1, cc2, cc3⟩ := (X3.out.kept hb4 rfl).four
  have S4 : Hid (Since w w4) := since_call S3.out hb4
  clear hb4 X3 S3
  go_wp2
  refine bodyPost_ret (v := vecV 0 none 0 0) (by simp [results, Tryd.results13, go_sem, vecV, cc0, cc1]) rfl ?_
  exact ⟨_, _, rfl, (since_set (since_set S4.out (by show w.heap.size ≤ w.heap.size + 1; omega)) (by show w.heap.size ≤ w.heap.size + 1; omega)).below, Or.inl rfl⟩
end Go.Proofs.YthnnenbpbkmbhaaDoor
