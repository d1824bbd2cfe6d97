/- What is proved here: the specification's copy of a vector lies in new memory; nothing that was there turns.
   What is proved here: the specification's l02Two says whether two vectors are right and of as many bits; nothing that was there turns.
   What is proved here: the specification's bit by bit functions over two right vectors hand back a new vector, word by word (l02And); nothing that was there turns.
   What is proved here: the specification's VecAnd hands back the words put together, in new memory, or nothing; nothing that was there turns. -/
import Derived.Test.YthnnenbpbkmbhaaDoorQVecSpecWToWordsForW
import Derived.Deep.AppendLies
import Derived.Deep.RegionLaw
import Derived.BigRegion
namespace Go.Proofs.YthnnenbpbkmbhaaDoor
open Go.RowKit

theorem news_row {W : World} {B bb off n : Nat} {f : Nat → Int} (h : Row W B (some ⟨bb, off, none⟩) n f) (hn : 0 < n) : ∀ (j : Nat) (u : Value), ((List.range n).map fun i => Value.int .i64 (f i))[j]? = some u → W.cell? ((⟨bb, off, none⟩ : Addr).add j) = some u := by
  intro j u hu
  rcases h with h | ⟨b', o', he, _, hc⟩
  · omega
  · injection he with he
    injection he with h1 h2
    subst h1 h2
    have hj : j < n := by
      rcases Nat.lt_or_ge j n with h | h
      · exact h
      · rw [List.getElem?_eq_none (by simp; omega)] at hu
        cases hu
    have hp : (⟨bb, off, none⟩ : Addr).add j = ⟨bb, off + j, none⟩ := by unfold Addr.add; split <;> simp_all
    rw [hp, hc j hj]
    simpa [List.getElem?_map, List.getElem?_range hj] using hu
theorem own_of {W : World} {base g n cap : Nat} {f : Nat → Int} (h : W.ownsRow base 2 1 (.slice (some ⟨g, 0, none⟩) n cap) n ((List.range n).map fun i => Value.int .i64 (f i))) (hn : 0 < n) : Own W g n f := by
  obtain ⟨_, ⟨_, h0⟩ | ⟨g', cap', cur, hv, hg, hh, hnc, hm, hs, ht⟩⟩ := h
  · omega
  · injection hv with h1 h2 h3
    injection h1 with h1
    injection h1 with h1
    subst h1
    refine ⟨lt_of_block hh, fun i hi => ?_, fun i hi => frozen_of_row _ _ _ _ _ hh⟩
    have h1 : (cur.toList.take (n * 1))[i]? = ((List.range n).map fun i => Value.int .i64 (f i))[i]? := by rw [ht]
    rw [List.getElem?_take_of_lt (by omega), List.getElem?_map, List.getElem?_range hi] at h1
    simpa [World.cell?, hh] using h1

theorem grown_below {V w1 : World} {o : Obj} (hg : (V.drew.alloc o).grownBy w1 (some V.heap.size)) : Below V.heap.size V w1 := by
  have h := (since_alloc (o := o) (since_drew (since_refl V))).below
  exact h.trans ⟨hg.os, hg.tape, hg.output, hg.size, fun k hk => hg.block k (Nat.lt_of_lt_of_le hk h.size) (fun e => by injection e with e; omega)⟩

theorem lies_ge {V : World} {o : Obj} {g : Nat} (hat : (Value.slice (some ⟨V.heap.size, 0, none⟩) 0 0).ownBlock = some g ∨ g = (V.drew.alloc o).heap.size) : V.heap.size ≤ g := by
  rcases hat with h | h
  · simp [Value.ownBlock] at h
    omega
  · rw [h]
    exact (since_alloc (o := o) (since_drew (since_refl V))).size

set_option maxHeartbeats 2000000 in
theorem copy_any (b : Int) (sa : Option Addr) (n cap : Nat) (f : Nat → Int) (w : World) (hn0 : 0 < n) (hn : n ≤ 1048576) (hr : Row w w.heap.size sa n f) :
    Calls Tryd.prog 61 #[.agg #[.int .i64 b, .slice sa n cap]] w fun e w' => NewVec w b n f e w' := by
  obtain ⟨bb, off, rfl⟩ : ∃ bb off : Nat, sa = some ⟨bb, off, none⟩ := by
    rcases hr with h | ⟨bb, off, h, _⟩
    · omega
    · exact ⟨bb, off, h⟩
  obtain ⟨i0, hi, hz0, hz1, hz2⟩ := info_parts Tryd.numInfo
  have HR : Hid (Row w w.heap.size (some ⟨bb, off, none⟩) n f) := hr
  clear hr
  have hlen : ((List.range n).map fun i => Value.int .i64 (f i)).length = n * 1 := by simp
  have hone : ∀ u ∈ (List.range n).map fun i => Value.int .i64 (f i), u.oneCell' = true := by
    intro u hu
    obtain ⟨i, _, rfl⟩ := List.mem_map.1 hu
    rfl
  go_enter Tryd.func61, Tryd.ntmps61
  go_wp2_with fail
  have q1 := boxing w 25 b (some ⟨bb, off, none⟩) n cap
  generalize w.alloc (.cells #[.int .i64 b, .slice (some ⟨bb, off, none⟩) n cap] 25) = v1 at *
  have q2 := boxing v1 25 0 none 0 0
  generalize v1.alloc (.cells #[.int .i64 0, .slice none 0 0] 25) = v2 at *
  have hx1 : Boxed v2 w.heap.size 25 b (some ⟨bb, off, none⟩) n cap := q1.2.1.kept q2.1 rfl
  have hx2 : Boxed v2 (w.heap.size + 1) 25 0 none 0 0 := by rw [← q1.2.2]; exact q2.2.1
  have hS : Since w v2 := since_call (since_call (since_refl _) q1.1) q2.1
  have hz : v2.heap.size = w.heap.size + 2 := by rw [q2.2.2, q1.2.2]
  have hnw : ∀ W : World, Since w W → ∀ (j : Nat) (u : Value), ((List.range n).map fun i => Value.int .i64 (f i))[j]? = some u → W.cell? ((⟨bb, off, none⟩ : Addr).add j) = some u := fun W h => news_row (row_since HR.out h) hn0
  have HNW : Hid (∀ W : World, Since w W → ∀ (j : Nat) (u : Value), ((List.range n).map fun i => Value.int .i64 (f i))[j]? = some u → W.cell? ((⟨bb, off, none⟩ : Addr).add j) = some u) := hnw
  have HX1 : Hid (Boxed v2 w.heap.size 25 b (some ⟨bb, off, none⟩) n cap) := hx1
  have HX2 : Hid (Boxed v2 (w.heap.size + 1) 25 0 none 0 0) := hx2
  have HS : Hid (Since w v2) := hS
  have HL : Hid (((List.range n).map fun i => Value.int .i64 (f i)).length = n * 1) := hlen
  have HO : Hid (∀ u ∈ (List.range n).map fun i => Value.int .i64 (f i), u.oneCell' = true) := hone
  clear q1 q2 hnw hlen hone hS
  obtain ⟨ca0, ca1⟩ := hx1.cells
  obtain ⟨cb0, cb1, cb2, cb3⟩ := hx2.four
  clear hx1 hx2
  have l1 : w.heap.size < v2.heap.size := by omega
  have l2 : w.heap.size + 1 < v2.heap.size := by omega
  go_region_law (refine step_append_lies _ rfl (.tmp 5) (.tmp 7) 23 rfl w.heap.size 2 i0 (.int .i64 0) 1 8 Tryd.underlying23 hi hz0 hz1 hz2 rfl (by decide) (.slice (some ⟨v2.heap.size, 0, none⟩) 0 0) 0 [] (by simp [Act.eval]) (World.ownsRow_made v2.drew #[] 0 (by show w.heap.size ≤ v2.heap.size; omega) (by decide) rfl) ⟨bb, off, none⟩ n cap _ (by simp [Act.eval]) HL.out (HNW.out _ (since_alloc (since_drew HS.out))) HO.out hn0 (by unfold maxLen; omega) (by omega) (since_alloc (since_drew HS.out)).size _ rfl ?_; intro g cp w1 hown hgrow hat hlt; have hb1 : Below v2.heap.size v2 w1 := grown_below hgrow; obtain ⟨ea0, ea1⟩ := (HX1.out.kept hb1 rfl).cells; obtain ⟨eb0, eb1, eb2, eb3⟩ := (HX2.out.kept hb1 rfl).four; have HB1 : Hid (Since w w1) := since_call HS.out hb1; have hgl : v2.heap.size ≤ g := lies_ge hat; have HOW : Hid (Own w1 g n f) := own_of (by simpa using hown) hn0; clear hown hgrow hat hb1)
  all_goals
    go_wp2
    refine bodyPost_ret (v := vecV b (some ⟨g, 0, none⟩) n cp) (by simp [results, Tryd.results61, go_sem, vecV, eb0, eb1]) rfl ?_
    exact ⟨_, _, rfl, (since_set (since_set HB1.out (by show w.heap.size ≤ w.heap.size + 1; omega)) (by show w.heap.size ≤ w.heap.size + 1; omega)).below, Or.inr ⟨g, rfl, by omega, (HOW.out.setOther _ _ (by show w.heap.size + 1 ≠ g; omega)).setOther _ _ (by show w.heap.size + 1 ≠ g; omega)⟩⟩
end Go.Proofs.YthnnenbpbkmbhaaDoor
namespace Go.Proofs.YthnnenbpbkmbhaaDoor
open Go.RowKit

open Classical in
set_option maxHeartbeats 2000000 in
theorem two_any (b c : Int) (sa sb : Option Addr) (n m ka kb : Nat) (f g : Nat → Int) (w : World) (hn : n ≤ 1048576) (hm : m ≤ 1048576) (ha : Row w w.heap.size sa n f) (hb : Row w w.heap.size sb m g) :
    Calls Tryd.prog 55 #[.agg #[.int .i64 b, .slice sa n ka], .agg #[.int .i64 c, .slice sb m kb]] w fun e w' => e = .returned (.bool (decide (Right b n f ∧ Right c m g ∧ b = c))) ∧ Below w.heap.size w w' := by
  have HA : Hid (Row w w.heap.size sa n f) := ha
  have HB : Hid (Row w w.heap.size sb m g) := hb
  clear ha hb
  have C1 := fun W h => specRight_any b sa n ka f W hn h
  have C2 := fun W h => specRight_any c sb m kb g W hm h
  have HC1 : Hid (∀ W, Row W W.heap.size sa n f → Calls Tryd.prog 33 #[.agg #[.int .i64 b, .slice sa n ka]] W fun e w' => e = .returned (.bool (decide (Right b n f))) ∧ Below W.heap.size W w') := C1
  have HC2 : Hid (∀ W, Row W W.heap.size sb m g → Calls Tryd.prog 33 #[.agg #[.int .i64 c, .slice sb m kb]] W fun e w' => e = .returned (.bool (decide (Right c m g))) ∧ Below W.heap.size W w') := C2
  clear C1 C2
  by_cases h1 : Right b n f
  · by_cases h2 : Right c m g
    · have e0 : decide (Right b n f ∧ Right c m g ∧ b = c) = decide (b = c) := by simp [h1, h2]
      rw [e0]
      have e1 : decide (Right b n f) = true := decide_eq_true h1
      have e2 : decide (Right c m g) = true := decide_eq_true h2
      rw [e1] at HC1
      rw [e2] at HC2
      clear h1 h2 e0 e1 e2
      go_enter Tryd.func55, Tryd.ntmps55
      go_wp2_with fail
      have q1 := boxing w 25 b sa n ka
      generalize w.alloc (.cells #[.int .i64 b, .slice sa n ka] 25) = v1 at *
      have q2 := boxing v1 25 c sb m kb
      generalize v1.alloc (.cells #[.int .i64 c, .slice sb m kb] 25) = v2 at *
      have X1 : Hid (Boxed v2 w.heap.size 25 b sa n ka) := q1.2.1.kept q2.1 rfl
      have X2 : Hid (Boxed v2 (w.heap.size + 1) 25 c sb m kb) := by rw [← q1.2.2]; exact q2.2.1
      have S2 : Hid (Since w v2) := since_call (since_call (since_refl _) q1.1) q2.1
      clear q1 q2
      refine (HC1.out _ (row_since HA.out S2.out)).mono ?_
      rintro e w3 ⟨rfl, hb3⟩
      have S3 : Hid (Since w w3) := since_call S2.out hb3
      have Y1 : Hid (Boxed w3 w.heap.size 25 b sa n ka) := X1.out.kept hb3 rfl
      have Y2 : Hid (Boxed w3 (w.heap.size + 1) 25 c sb m kb) := X2.out.kept hb3 rfl
      clear hb3 X1 X2 S2
      obtain ⟨ca0, ca1⟩ := Y1.out.cells
      obtain ⟨cb0, cb1⟩ := Y2.out.cells
      go_wp2_with fail
      refine (HC2.out _ (row_since HB.out S3.out)).mono ?_
      clear ca0 ca1 cb0 cb1
      rintro e w4 ⟨rfl, hb4⟩
      have S4 : Hid (Since w w4) := since_call S3.out hb4
      obtain ⟨ca0, ca1⟩ := (Y1.out.kept hb4 rfl).cells
      obtain ⟨cb0, cb1⟩ := (Y2.out.kept hb4 rfl).cells
      clear hb4
      go_wp2
      go_ret
      exact ⟨ret_bool (by simp), S4.out.below⟩
    · have e0 : decide (Right b n f ∧ Right c m g ∧ b = c) = false := by simp [h2]
      rw [e0]
      have e1 : decide (Right b n f) = true := decide_eq_true h1
      have e2 : decide (Right c m g) = false := decide_eq_false h2
      rw [e1] at HC1
      rw [e2] at HC2
      clear h1 h2 e0 e1 e2
      go_enter Tryd.func55, Tryd.ntmps55
      go_wp2_with fail
      have q1 := boxing w 25 b sa n ka
      generalize w.alloc (.cells #[.int .i64 b, .slice sa n ka] 25) = v1 at *
      have q2 := boxing v1 25 c sb m kb
      generalize v1.alloc (.cells #[.int .i64 c, .slice sb m kb] 25) = v2 at *
      have X1 : Hid (Boxed v2 w.heap.size 25 b sa n ka) := q1.2.1.kept q2.1 rfl
      have X2 : Hid (Boxed v2 (w.heap.size + 1) 25 c sb m kb) := by rw [← q1.2.2]; exact q2.2.1
      have S2 : Hid (Since w v2) := since_call (since_call (since_refl _) q1.1) q2.1
      clear q1 q2
      refine (HC1.out _ (row_since HA.out S2.out)).mono ?_
      rintro e w3 ⟨rfl, hb3⟩
      have S3 : Hid (Since w w3) := since_call S2.out hb3
      obtain ⟨ca0, ca1⟩ := (X1.out.kept hb3 rfl).cells
      obtain ⟨cb0, cb1⟩ := (X2.out.kept hb3 rfl).cells
      clear hb3 X1 X2 S2
      go_wp2_with fail
      refine (HC2.out _ (row_since HB.out S3.out)).mono ?_
      clear ca0 ca1 cb0 cb1
      rintro e w4 ⟨rfl, hb4⟩
      have S4 : Hid (Since w w4) := since_call S3.out hb4
      clear hb4
      go_wp2
      go_ret
      exact ⟨rfl, S4.out.below⟩
  · have e0 : decide (Right b n f ∧ Right c m g ∧ b = c) = false := by simp [h1]
    rw [e0]
    have e1 : decide (Right b n f) = false := decide_eq_false h1
    rw [e1] at HC1
    clear h1 e0 e1 HC2
    go_enter Tryd.func55, Tryd.ntmps55
    go_wp2_with fail
    have q1 := boxing w 25 b sa n ka
    generalize w.alloc (.cells #[.int .i64 b, .slice sa n ka] 25) = v1 at *
    have q2 := boxing v1 25 c sb m kb
    generalize v1.alloc (.cells #[.int .i64 c, .slice sb m kb] 25) = v2 at *
    have S2 : Hid (Since w v2) := since_call (since_call (since_refl _) q1.1) q2.1
    clear q1 q2
    refine (HC1.out _ (row_since HA.out S2.out)).mono ?_
    rintro e w3 ⟨rfl, hb3⟩
    have S3 : Hid (Since w w3) := since_call S2.out hb3
    clear hb3 S2
    go_wp2
    go_ret
    exact ⟨rfl, S3.out.below⟩

theorem words_same {b c : Int} {n m : Nat} {f g : Nat → Int} (h1 : Right b n f) (h2 : Right c m g) (h : b = c) : n = m ∧ 0 < n := by
  have e1 := h1.2.2.1
  have e2 := h2.2.2.1
  have := h1.1
  omega
end Go.Proofs.YthnnenbpbkmbhaaDoor
namespace Go.Proofs.YthnnenbpbkmbhaaDoor
open Go.RowKit

set_option maxRecDepth 100000 in
set_option maxHeartbeats 4000000 in
theorem l02And_any (b c : Int) (sa sb : Option Addr) (n ka kb : Nat) (f g : Nat → Int) (w : World) (hn0 : 0 < n) (hn : n ≤ 1048576) (ha : Row w w.heap.size sa n f) (hb : Row w w.heap.size sb n g) :
    Calls Tryd.prog 56 #[.agg #[.int .i64 b, .slice sa n ka], .agg #[.int .i64 c, .slice sb n kb]] w fun e w' => NewVec w b n (fun i => bits .and .i64 (f i) (g i)) e w' := by
  obtain ⟨b1, o1, rfl, hb1, hc1⟩ : ∃ bb off : Nat, sa = some ⟨bb, off, none⟩ ∧ bb < w.heap.size ∧ ∀ i, i < n → w.cell? ⟨bb, off + i, none⟩ = some (.int .i64 (f i)) := by
    rcases ha with h | h
    · omega
    · exact h
  obtain ⟨b2, o2, rfl, hb2, hc2⟩ : ∃ bb off : Nat, sb = some ⟨bb, off, none⟩ ∧ bb < w.heap.size ∧ ∀ i, i < n → w.cell? ⟨bb, off + i, none⟩ = some (.int .i64 (g i)) := by
    rcases hb with h | h
    · omega
    · exact h
  have HA : Hid (Row w w.heap.size (some ⟨b1, o1, none⟩) n f) := ha
  have HC1 : Hid (∀ i, i < n → w.cell? ⟨b1, o1 + i, none⟩ = some (.int .i64 (f i))) := hc1
  have HC2 : Hid (∀ i, i < n → w.cell? ⟨b2, o2 + i, none⟩ = some (.int .i64 (g i))) := hc2
  clear ha hb hc1 hc2
  go_enter Tryd.func56, Tryd.ntmps56
  go_wp2_with fail
  have q1 := boxing w 25 b (some ⟨b1, o1, none⟩) n ka
  generalize w.alloc (.cells #[.int .i64 b, .slice (some ⟨b1, o1, none⟩) n ka] 25) = v1 at *
  have q2 := boxing v1 25 c (some ⟨b2, o2, none⟩) n kb
  generalize v1.alloc (.cells #[.int .i64 c, .slice (some ⟨b2, o2, none⟩) n kb] 25) = v2 at *
  have q3 := boxing v2 25 0 none 0 0
  generalize v2.alloc (.cells #[.int .i64 0, .slice none 0 0] 25) = v3 at *
  have X1 : Hid (Boxed v3 w.heap.size 25 b (some ⟨b1, o1, none⟩) n ka) := (q1.2.1.kept q2.1 rfl).kept q3.1 rfl
  have X2 : Hid (Boxed v3 (w.heap.size + 1) 25 c (some ⟨b2, o2, none⟩) n kb) := by rw [← q1.2.2]; exact q2.2.1.kept q3.1 rfl
  have X3 : Hid (Boxed v3 (w.heap.size + 2) 25 0 none 0 0) := by rw [show w.heap.size + 2 = v2.heap.size by rw [q2.2.2, q1.2.2]]; exact q3.2.1
  have S3 : Hid (Since w v3) := since_call (since_call (since_call (since_refl _) q1.1) q2.1) q3.1
  have z3 : v3.heap.size = w.heap.size + 3 := by rw [q3.2.2, q2.2.2, q1.2.2]
  clear q1 q2 q3
  refine (copy_any b _ n ka f v3 hn0 hn (row_since HA.out S3.out)).mono ?_
  rintro e w4 ⟨s4, c4, rfl, hb4, ho4⟩
  obtain ⟨g4, rfl, hg1, ho⟩ : ∃ g, s4 = some ⟨g, 0, none⟩ ∧ v3.heap.size ≤ g ∧ Own w4 g n f := by
    rcases ho4 with h | h
    · omega
    · exact h
  have hg2 := ho.1
  have O4 : Hid (Own w4 g4 n f) := ho
  have Y1 : Hid (Boxed w4 w.heap.size 25 b (some ⟨b1, o1, none⟩) n ka) := X1.out.kept hb4 rfl
  have Y2 : Hid (Boxed w4 (w.heap.size + 1) 25 c (some ⟨b2, o2, none⟩) n kb) := X2.out.kept hb4 rfl
  have Y3 : Hid (Boxed w4 (w.heap.size + 2) 25 0 none 0 0) := X3.out.kept hb4 rfl
  have S4 : Hid (Since w w4) := since_call S3.out hb4
  unfold vecV
  clear hb4 ho4 ho X1 X2 X3 S3
  go_wp2
  have q5 := boxing w4 25 b (some ⟨g4, 0, none⟩) n c4
  generalize w4.alloc (.cells #[.int .i64 b, .slice (some ⟨g4, 0, none⟩) n c4] 25) = v5 at *
  obtain ⟨p5, hp5⟩ : ∃ p, p = w4.heap.size := ⟨_, rfl⟩
  rw [← hp5]
  have Y5 : Hid (Boxed v5 p5 25 b (some ⟨g4, 0, none⟩) n c4) := by rw [hp5]; exact q5.2.1
  have V1 : Hid (Boxed v5 w.heap.size 25 b (some ⟨b1, o1, none⟩) n ka) := Y1.out.kept q5.1 rfl
  have V2 : Hid (Boxed v5 (w.heap.size + 1) 25 c (some ⟨b2, o2, none⟩) n kb) := Y2.out.kept q5.1 rfl
  have V3 : Hid (Boxed v5 (w.heap.size + 2) 25 0 none 0 0) := Y3.out.kept q5.1 rfl
  have S5 : Hid (Since w v5) := since_call S4.out q5.1
  have O5 : Hid (Own v5 g4 n f) := O4.out.kept q5.1 hg2
  have hgp : g4 < p5 := by omega
  clear q5 Y1 Y2 Y3 S4 O4 hg2 hp5
  go_loopw [6] (fun i wr => ∃ k : Nat, k ≤ n ∧ i = .int .i64 (k : Int) ∧ Since w wr ∧ Boxed wr w.heap.size 25 b (some ⟨b1, o1, none⟩) n ka ∧ Boxed wr (w.heap.size + 1) 25 c (some ⟨b2, o2, none⟩) n kb ∧ Boxed wr (w.heap.size + 2) 25 0 none 0 0 ∧ Boxed wr p5 25 b (some ⟨g4, 0, none⟩) n c4 ∧ Own wr g4 n (fun i => if i < k then bits .and .i64 (f i) (g i) else f i)) (fun i _ => n - (intOf i).toNat)
  case atStart => exact ⟨0, Nat.zero_le _, rfl, S5.out, V1.out, V2.out, V3.out, Y5.out, O5.out.congr (fun i _ => by simp)⟩
  case round =>
    obtain ⟨k, hk, rfl, hS, hx1, hx2, hx3, hx5, hown⟩ := hrel
    have HS : Hid (Since w wr) := hS
    have H1 : Hid (Boxed wr w.heap.size 25 b (some ⟨b1, o1, none⟩) n ka) := hx1
    have H2 : Hid (Boxed wr (w.heap.size + 1) 25 c (some ⟨b2, o2, none⟩) n kb) := hx2
    have H3 : Hid (Boxed wr (w.heap.size + 2) 25 0 none 0 0) := hx3
    have H5 : Hid (Boxed wr p5 25 b (some ⟨g4, 0, none⟩) n c4) := hx5
    have HW : Hid (Own wr g4 n (fun i => if i < k then bits .and .i64 (f i) (g i) else f i)) := hown
    obtain ⟨ca0, ca1⟩ := hx1.cells
    obtain ⟨cb0, cb1⟩ := hx2.cells
    obtain ⟨cc0, cc1, cc2, cc3⟩ := hx3.four
    obtain ⟨cd0, cd1⟩ := hx5.cells
    by_cases hkl : k < n
    · have cz : wr.cell? ⟨b1, o1 + k, none⟩ = some (.int .i64 (f k)) := by rw [hS.below.cell (p := ⟨b1, o1 + k, none⟩) hb1]; exact HC1.out k hkl
      have cy : wr.cell? ⟨b2, o2 + k, none⟩ = some (.int .i64 (g k)) := by rw [hS.below.cell (p := ⟨b2, o2 + k, none⟩) hb2]; exact HC2.out k hkl
      have cw := hown.2.1 k hkl
      have cf := hown.2.2 k hkl
      have hsz := hown.1
      clear hS hx1 hx2 hx3 hx5 hown
      have hki : (k : Int) < (n : Int) := by omega
      have hk0 : (0 : Int) ≤ (k : Int) := by omega
      go_wp2
      go_region
      all_goals
        go_wp2
        go_roundw
        case rel => exact ⟨k + 1, by omega, by go_num, since_drew (since_set HS.out (by show w.heap.size ≤ g4; omega)), (H1.out.setOther _ _ (by show g4 ≠ w.heap.size; omega)).drew, (H2.out.setOther _ _ (by show g4 ≠ w.heap.size + 1; omega)).drew, (H3.out.setOther _ _ (by show g4 ≠ w.heap.size + 2; omega)).drew, (H5.out.setOther _ _ (by show g4 ≠ p5; omega)).drew, ((HW.out.set hkl (bits .and .i64 (f k) (g k))).congr (fun i hi => by
          by_cases e : i = k
          · subst e; simp
          · simp only [if_neg e]
            by_cases e2 : i < k
            · rw [if_pos e2, if_pos (by omega)]
            · rw [if_neg e2, if_neg (by omega)])).drew⟩
        case measure => simp [intOf]; omega
    · have hki : ¬ (k : Int) < (n : Int) := by omega
      have lb := hx3.lt
      clear hS hx1 hx2 hx3 hx5 hown
      go_wp2
      refine bodyPost_ret (v := vecV b (some ⟨g4, 0, none⟩) n c4) (by simp [results, Tryd.results56, go_sem, vecV, cc0, cc1]) rfl ?_
      exact ⟨_, _, rfl, (since_set (since_set HS.out (by show w.heap.size ≤ w.heap.size + 2; omega)) (by show w.heap.size ≤ w.heap.size + 2; omega)).below, Or.inr ⟨g4, rfl, by omega, ((HW.out.congr (fun i hi => if_pos (by omega))).setOther _ _ (by show w.heap.size + 2 ≠ g4; omega)).setOther _ _ (by show w.heap.size + 2 ≠ g4; omega)⟩⟩
end Go.Proofs.YthnnenbpbkmbhaaDoor
namespace Go.Proofs.YthnnenbpbkmbhaaDoor
open Go.RowKit

open Classical in
set_option maxHeartbeats 2000000 in
theorem specVecAnd_yes (b : Int) (sa sb : Option Addr) (n ka kb : Nat) (f g : Nat → Int) (w : World) (hn : n ≤ 1048576) (ha : Row w w.heap.size sa n f) (hb : Row w w.heap.size sb n g) (h1 : Right b n f) (h2 : Right b n g) :
    Calls Tryd.prog 15 #[.agg #[.int .i64 b, .slice sa n ka], .agg #[.int .i64 b, .slice sb n kb]] w fun e w' => NewVec w b n (fun i => bits .and .i64 (f i) (g i)) e w' := by
  have HA : Hid (Row w w.heap.size sa n f) := ha
  have HB : Hid (Row w w.heap.size sb n g) := hb
  have hn0 := (words_same h1 h2 rfl).2
  have C1 := fun W h h' => two_any b b sa sb n n ka kb f g W hn hn h h'
  have e1 : decide (Right b n f ∧ Right b n g ∧ b = b) = true := decide_eq_true ⟨h1, h2, rfl⟩
  rw [e1] at C1
  have HC1 : Hid (∀ W, Row W W.heap.size sa n f → Row W W.heap.size sb n g → Calls Tryd.prog 55 #[.agg #[.int .i64 b, .slice sa n ka], .agg #[.int .i64 b, .slice sb n kb]] W fun e w' => e = .returned (.bool true) ∧ Below W.heap.size W w') := C1
  clear C1 e1 ha hb h1 h2
  go_enter Tryd.func15, Tryd.ntmps15
  go_wp2_with fail
  have q1 := boxing w 25 b sa n ka
  generalize w.alloc (.cells #[.int .i64 b, .slice sa n ka] 25) = v1 at *
  have q2 := boxing v1 25 b sb n kb
  generalize v1.alloc (.cells #[.int .i64 b, .slice sb n kb] 25) = v2 at *
  have q3 := boxing v2 25 0 none 0 0
  generalize v2.alloc (.cells #[.int .i64 0, .slice none 0 0] 25) = v3 at *
  have X1 : Hid (Boxed v3 w.heap.size 25 b sa n ka) := (q1.2.1.kept q2.1 rfl).kept q3.1 rfl
  have X2 : Hid (Boxed v3 (w.heap.size + 1) 25 b sb n kb) := by rw [← q1.2.2]; exact q2.2.1.kept q3.1 rfl
  have X3 : Hid (Boxed v3 (w.heap.size + 2) 25 0 none 0 0) := by rw [show w.heap.size + 2 = v2.heap.size by rw [q2.2.2, q1.2.2]]; exact q3.2.1
  have S3 : Hid (Since w v3) := since_call (since_call (since_call (since_refl _) q1.1) q2.1) q3.1
  have z3 : v3.heap.size = w.heap.size + 3 := by rw [q3.2.2, q2.2.2, q1.2.2]
  clear q1 q2 q3
  refine (HC1.out _ (row_since HA.out S3.out) (row_since HB.out S3.out)).mono ?_
  rintro e w4 ⟨rfl, hb4⟩
  have z4 : w.heap.size + 3 ≤ w4.heap.size := by have := hb4.size; omega
  have Y1 : Hid (Boxed w4 w.heap.size 25 b sa n ka) := X1.out.kept hb4 rfl
  have Y2 : Hid (Boxed w4 (w.heap.size + 1) 25 b sb n kb) := X2.out.kept hb4 rfl
  have Y3 : Hid (Boxed w4 (w.heap.size + 2) 25 0 none 0 0) := X3.out.kept hb4 rfl
  have S4 : Hid (Since w w4) := since_call S3.out hb4
  clear hb4 X1 X2 X3 S3 z3
  obtain ⟨ca0, ca1⟩ := Y1.out.cells
  obtain ⟨cb0, cb1⟩ := Y2.out.cells
  go_wp2_with fail
  refine (l02And_any b b sa sb n ka kb f g w4 hn0 hn (row_since HA.out S4.out) (row_since HB.out S4.out)).mono ?_
  clear ca0 ca1 cb0 cb1
  rintro e w5 ⟨s5, c5, rfl, hb5, ho5⟩
  unfold vecV
  obtain ⟨cc0, cc1, cc2, cc3⟩ := (Y3.out.kept hb5 rfl).four
  have HO : Hid (OwnS w5 w4.heap.size s5 n (fun i => bits .and .i64 (f i) (g i))) := ho5
  have S5 : Hid (Since w w5) := since_call S4.out hb5
  clear hb5 ho5 Y1 Y2 Y3
  go_wp2
  refine bodyPost_ret (v := vecV b s5 n c5) (by simp [results, Tryd.results15, go_sem, vecV, cc0, cc1]) rfl ?_
  refine ⟨_, _, rfl, (since_set (since_set S5.out (by show w.heap.size ≤ w.heap.size + 2; omega)) (by show w.heap.size ≤ w.heap.size + 2; omega)).below, ?_⟩
  rcases HO.out with h | ⟨g5, h1, h2, h3⟩
  · exact Or.inl h
  · exact Or.inr ⟨g5, h1, by omega, (h3.setOther _ _ (by show w.heap.size + 2 ≠ g5; omega)).setOther _ _ (by show w.heap.size + 2 ≠ g5; omega)⟩

open Classical in
set_option maxHeartbeats 2000000 in
theorem specVecAnd_no (b c : Int) (sa sb : Option Addr) (n m ka kb : Nat) (f g : Nat → Int) (w : World) (hn : n ≤ 1048576) (hm : m ≤ 1048576) (ha : Row w w.heap.size sa n f) (hb : Row w w.heap.size sb m g) (hno : ¬ (Right b n f ∧ Right c m g ∧ b = c)) :
    Calls Tryd.prog 15 #[.agg #[.int .i64 b, .slice sa n ka], .agg #[.int .i64 c, .slice sb m kb]] w fun e w' => NewVec w 0 0 (fun _ => 0) e w' := by
  have HA : Hid (Row w w.heap.size sa n f) := ha
  have HB : Hid (Row w w.heap.size sb m g) := hb
  have C1 := fun W h h' => two_any b c sa sb n m ka kb f g W hn hm h h'
  have e1 : decide (Right b n f ∧ Right c m g ∧ b = c) = false := decide_eq_false hno
  rw [e1] at C1
  have HC1 : Hid (∀ W, Row W W.heap.size sa n f → Row W W.heap.size sb m g → Calls Tryd.prog 55 #[.agg #[.int .i64 b, .slice sa n ka], .agg #[.int .i64 c, .slice sb m kb]] W fun e w' => e = .returned (.bool false) ∧ Below W.heap.size W w') := C1
  clear C1 e1 ha hb hno
  go_enter Tryd.func15, Tryd.ntmps15
  go_wp2_with fail
  have q1 := boxing w 25 b sa n ka
  generalize w.alloc (.cells #[.int .i64 b, .slice sa n ka] 25) = v1 at *
  have q2 := boxing v1 25 c sb m kb
  generalize v1.alloc (.cells #[.int .i64 c, .slice sb m kb] 25) = v2 at *
  have q3 := boxing v2 25 0 none 0 0
  generalize v2.alloc (.cells #[.int .i64 0, .slice none 0 0] 25) = v3 at *
  have X3 : Hid (Boxed v3 (w.heap.size + 2) 25 0 none 0 0) := by rw [show w.heap.size + 2 = v2.heap.size by rw [q2.2.2, q1.2.2]]; exact q3.2.1
  have S3 : Hid (Since w v3) := since_call (since_call (since_call (since_refl _) q1.1) q2.1) q3.1
  clear q1 q2 q3
  refine (HC1.out _ (row_since HA.out S3.out) (row_since HB.out S3.out)).mono ?_
  rintro e w4 ⟨rfl, hb4⟩
  obtain ⟨cc0, cc1, cc2, cc3⟩ := (X3.out.kept hb4 rfl).four
  have S4 : Hid (Since w w4) := since_call S3.out hb4
  clear hb4 X3 S3
  go_wp2
  refine bodyPost_ret (v := vecV 0 none 0 0) (by simp [results, Tryd.results15, go_sem, vecV, cc0, cc1]) rfl ?_
  exact ⟨_, _, rfl, (since_set (since_set S4.out (by show w.heap.size ≤ w.heap.size + 2; omega)) (by show w.heap.size ≤ w.heap.size + 2; omega)).below, Or.inl rfl⟩
end Go.Proofs.YthnnenbpbkmbhaaDoor
