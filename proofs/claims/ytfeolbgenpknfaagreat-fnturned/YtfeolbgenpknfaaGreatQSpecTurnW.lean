/- What is proved here: the specification's turned bits of plain cells: all on, and those of a byte, in new memory; nothing that was there turns. -/
import Derived.Test.YtfeolbgenpknfaaGreatQSpecStepW
import Derived.Test.YtfeolbgenpknfaaGreatQTurnEqMToVecNotBM
import Derived.Test.YtfeolbgenpknfaaGreatQStartMToTurnSeqM
import Derived.Test.YtfeolbgenpknfaaGreatQSpecKVecWToWordsForW
namespace Go.Proofs.YtfeolbgenpknfaaGreat
open Go.RowKit

theorem vecIs_turnOff {f : Nat → Int} {P : Nat → Bool} {m k q : Nat} (h : VecIs f P m) (hk : k < m) (hq : q < 32) (hp : P (32 * k + q) = false) : VecIs (setF f k q false) P m := fun i hi => by
  obtain ⟨a, e1, h1, h2⟩ := h i hi
  refine ⟨a, ?_, h1, h2⟩
  unfold setF
  by_cases e : i = k
  · subst e
    rw [if_pos rfl, e1, if_pos]
    rw [getB_nat a q h1, h2 q hq, hp]
  · rw [if_neg e, e1]
theorem int_succ {n k : Nat} (h : n = k + 1) : (n : Int) = (k : Int) + 1 := by omega
set_option maxRecDepth 100000 in
set_option maxHeartbeats 4000000 in
theorem l08Start_any (sa : Option Addr) (n cap m : Nat) (w : World) (hn0 : 1 ≤ n) (hn : n ≤ 60) (hm : m = (n + 31) / 32) :
    Calls Tryz.prog 43 #[.slice sa n cap] w fun e w' => NewBits w (n : Int) m (allB n) e w' := by
  have q0 := boxing w 29 0 none 0 0
  have HN := fun W => l02New_any (n : Int) m W (by omega) (by omega) (by omega)
  have HC : Hid (∀ W, Calls Tryz.prog 70 #[.int .i64 (n : Int)] W fun e w' => NewVec W (n : Int) m (fun _ => 0) e w') := HN
  have HT : Hid (∀ (W : World) (s : Option Addr) (c : Nat), Row W W.heap.size s m (fun _ => 0) → Calls Tryz.prog 71 #[.agg #[.int .i64 (n : Int), .slice s m c]] W fun e w' => NewVec W (n : Int) m (cutF (n : Int) m (notF (fun _ => 0))) e w') := fun W s c h => not_any (n : Int) s m c (fun _ => 0) W (by omega) (by omega) (fun i _ => by omega) (by omega) (by omega) h
  have HV : Hid (VecIs (cutF (n : Int) m (notF (fun _ => 0))) (allB n) m) := by
    obtain ⟨k, hk⟩ : ∃ k, n = k + 1 := ⟨n - 1, by omega⟩
    have h9 := (vecIs_zero m).notC (n := k) (by omega)
    rw [← int_succ hk] at h9
    exact h9.congr (fun j => by
      unfold allB
      rw [Bool.not_false, Bool.and_true, decide_eq_decide]
      omega)
  clear HN hm
  go_enter Tryz.func43, Tryz.ntmps43
  go_wp2_with fail
  generalize w.alloc (.cells #[.int .i64 0, .slice none 0 0] 29) = v0 at *
  refine (HC.out v0).mono ?_
  rintro e w1 ⟨s1, c1, rfl, hb1, ho1⟩
  unfold vecV
  have X1 : Hid (Boxed w1 w.heap.size 29 0 none 0 0) := q0.2.1.kept hb1 rfl
  have S1 : Hid (Since w w1) := since_call (since_call (since_refl _) q0.1) hb1
  have O1 : Hid (Row w1 w1.heap.size s1 m (fun _ => 0)) := ho1.row
  clear hb1 ho1 q0
  go_wp2_with fail
  refine (HT.out w1 s1 c1 O1.out).mono ?_
  rintro e w3 ⟨s3, c3, rfl, hb3, ho3⟩
  unfold vecV
  obtain ⟨a0, a1, a2, a3⟩ := (X1.out.kept hb3 rfl).four
  have S3 : Hid (Since w w3) := since_call S1.out hb3
  have O3 : Hid (OwnS w3 w1.heap.size s3 m (cutF (n : Int) m (notF (fun _ => 0)))) := ho3
  have l1 : w.heap.size < w1.heap.size := X1.out.lt
  have l3 : w.heap.size < w3.heap.size := by have := hb3.size; omega
  clear hb3 ho3
  go_wp2_with fail
  refine bodyPost_ret (v := vecV (n : Int) s3 m c3) (by simp [results, Tryz.results43, go_sem, vecV, a0, a1]) rfl ?_
  refine ⟨_, ⟨_, _, rfl, (since_set (since_set S3.out (by show w.heap.size ≤ w.heap.size; omega)) (by show w.heap.size ≤ w.heap.size; omega)).below, ?_⟩, HV.out⟩
  rcases O3.out with h | ⟨g5, h1, h2, h3⟩
  · exact Or.inl h
  · exact Or.inr ⟨g5, h1, by omega, (h3.setOther _ _ (by show w.heap.size ≠ g5; omega)).setOther _ _ (by show w.heap.size ≠ g5; omega)⟩
/-- The bits of the first k cells that lack a byte. -/
def lackTo (f : Nat → Cel) (k c : Nat) : Nat → Bool := fun j => decide (j < k) && !hasByte (f j).c c
theorem lackTo_all (f : Nat → Cel) (n c : Nat) : ∀ j, lackTo f n c j = lackB f n c j := fun _ => rfl
theorem lackTo_yes {g : Nat → Int} {f : Nat → Cel} {k c i r m : Nat} (h : VecIs g (lackTo f k c) m) (hi : i < m) (hr : r < 32) (e : 32 * i + r = k) : VecIs (setF g i r (!hasByte (f k).c c)) (lackTo f (k + 1) c) m := by
  cases hb : hasByte (f k).c c with
  | false =>
    refine (h.set hi hr).congr (fun j => ?_)
    unfold lackTo
    rw [e]
    by_cases e1 : k = j
    · subst e1
      simp [hb]
    · rw [decide_eq_false e1, Bool.or_false]
      congr 1
      rw [decide_eq_decide]
      omega
  | true =>
    refine (vecIs_turnOff h hi hr (by unfold lackTo; rw [e, decide_eq_false (show ¬ k < k by omega)]; rfl)).congr (fun j => ?_)
    unfold lackTo
    by_cases e1 : k = j
    · subst e1
      simp [hb]
    · congr 1
      rw [decide_eq_decide]
      omega
set_option maxRecDepth 100000 in
set_option maxHeartbeats 4000000 in
theorem l08Byte_any (sa : Option Addr) (n cap c m : Nat) (f : Nat → Cel) (w : World) (hn0 : 1 ≤ n) (hn : n ≤ 60) (hr : CRow w w.heap.size sa n f) (hsz : ∀ i, i < n → (f i).c.size ≤ 256) (hc9 : c < 256) (hm : m = (n + 31) / 32) :
    Calls Tryz.prog 57 #[.slice sa n cap, .int .i64 (c : Int)] w fun e w' => NewBits w (n : Int) m (lackB f n c) e w' := by
  have HR : Hid (CRow w w.heap.size sa n f) := hr
  have HSZ : Hid (∀ i, i < n → (f i).c.size ≤ 256) := hsz
  have HM : Hid (m = (n + 31) / 32) := hm
  have hm1 : 1 ≤ m := by omega
  have hm2 : m ≤ 2 := by omega
  have hwc : IntKind.u8.wrap (c : Int) = (c : Int) := by rw [IntKind.wrap_u8]; omega
  have C := fun W => l02New_any (n : Int) m W (by omega) (by omega) (by omega)
  have HC : Hid (∀ W, Calls Tryz.prog 70 #[.int .i64 (n : Int)] W fun e w' => NewVec W (n : Int) m (fun _ => 0) e w') := C
  clear hr hsz hm C
  go_enter Tryz.func57, Tryz.ntmps57
  have q0 := boxing w 29 0 none 0 0
  go_wp2_with fail
  generalize w.alloc (.cells #[.int .i64 0, .slice none 0 0] 29) = v0 at *
  refine (HC.out v0).mono ?_
  rintro e w1 ⟨s1, c1, rfl, hb1, ho1⟩
  unfold vecV
  have X0 : Hid (Boxed w1 w.heap.size 29 0 none 0 0) := q0.2.1.kept hb1 rfl
  have S1 : Hid (Since w w1) := since_call (since_call (since_refl _) q0.1) hb1
  obtain ⟨g, rfl, hgl, ho⟩ : ∃ g, s1 = some ⟨g, 0, none⟩ ∧ v0.heap.size ≤ g ∧ Own w1 g m (fun _ => 0) := by
    rcases ho1 with h | h
    · omega
    · exact h
  have O1 : Hid (Own w1 g m (fun _ => 0)) := ho
  have hg0 : w.heap.size < g := by have := q0.2.2; omega
  have hg1 := ho.1
  have q2 := boxing w1 29 (n : Int) (some ⟨g, 0, none⟩) m c1
  clear q0 hb1 ho1 ho hgl
  go_wp2_with fail
  generalize w1.alloc (.cells #[.int .i64 (n : Int), .slice (some ⟨g, 0, none⟩) m c1] 29) = v2 at *
  have X2 : Hid (Boxed v2 w.heap.size 29 0 none 0 0) := X0.out.kept q2.1 rfl
  have Y2 : Hid (Boxed v2 w1.heap.size 29 (n : Int) (some ⟨g, 0, none⟩) m c1) := q2.2.1
  have S2 : Hid (Since w v2) := since_call S1.out q2.1
  have O2 : Hid (Own v2 g m (fun _ => 0)) := O1.out.kept q2.1 hg1
  clear q2 X0 S1 O1
  generalize w1.heap.size = p at *
  go_loopw [6] (fun iv wr => ∃ (k : Nat) (h : Nat → Int), k ≤ n ∧ iv = .int .i64 (k : Int) ∧ Boxed wr w.heap.size 29 0 none 0 0 ∧ Boxed wr p 29 (n : Int) (some ⟨g, 0, none⟩) m c1 ∧ Since w wr ∧ Own wr g m h ∧ VecIs h (lackTo f k c) m) (fun iv _ => n - (intOf iv).toNat)
  case atStart => exact ⟨0, _, Nat.zero_le _, rfl, X2.out, Y2.out, S2.out, O2.out, (vecIs_zero m).congr (fun j => by unfold lackTo; rw [decide_eq_false (by omega)]; rfl)⟩
  case round =>
    obtain ⟨k, h, hk, rfl, hX, hY, hS, hO, hV⟩ := hrel
    have HXB : Hid (Boxed wr w.heap.size 29 0 none 0 0) := hX
    have HY : Hid (Boxed wr p 29 (n : Int) (some ⟨g, 0, none⟩) m c1) := hY
    have HS : Hid (Since w wr) := hS
    have HO : Hid (Own wr g m h) := hO
    have HV : Hid (VecIs h (lackTo f k c) m) := hV
    obtain ⟨y0, y1⟩ := hY.cells
    have ylt := hY.lt
    by_cases hkl : k < n
    · obtain ⟨bb, off, rfl, hbb, hat⟩ := HR.out.keptV hS.below hkl
      obtain ⟨c0, d1, d2⟩ := hat
      have hki : (k : Int) < (n : Int) := by omega
      have hk0 : (0 : Int) ≤ (k : Int) := by omega
      have hsz9 := HSZ.out k hkl
      obtain ⟨⟨ac, al, am⟩, ha⟩ : ∃ a, f k = a := ⟨_, rfl⟩
      have HFK : Hid (f k = ⟨ac, al, am⟩) := ha
      rw [ha] at c0 d1 d2 hsz9
      simp only at c0 d1 d2 hsz9
      have HAS : Hid (∀ W, Calls Tryz.prog 76 #[.string ac, .int .u8 (c : Int)] W fun e w' => e = .returned (.bool (hasByte ac c)) ∧ w' = W) := fun W => l03Has_any ac c W (Nat.le_trans hsz9 (by unfold maxLen; omega))
      obtain ⟨i9, hi9⟩ : ∃ i9, k / 32 = i9 := ⟨_, rfl⟩
      obtain ⟨r9, hr9⟩ : ∃ r9, k % 32 = r9 := ⟨_, rfl⟩
      have him : i9 < m := by have := HM.out; omega
      have hrm : r9 < 32 := by omega
      have hmi : (m : Nat) ≤ 1048576 := by omega
      have YES : Hid (VecIs (setF h i9 r9 (!hasByte ac c)) (lackTo f (k + 1) c) m) := by
        have h9 := lackTo_yes hV him hrm (show 32 * i9 + r9 = k by omega)
        rw [ha] at h9
        exact h9
      generalize hasByte ac c = hb9 at *
      have CS : Hid (∀ W, Own W g m h → Calls Tryz.prog 83 #[.agg #[.int .i64 (n : Int), .slice (some ⟨g, 0, none⟩) m c1], .int .i64 (k : Int), .bool (!hb9)] W fun e w' => e = .returned (.tuple #[]) ∧ W.grownBy w' (some g) ∧ Own w' g m (setF h i9 r9 (!hb9))) := fun W hW => l02Set_any (n : Int) g m c1 i9 r9 h (k : Int) (!hb9) W hmi hW (by omega) (by omega) (by omega) him hrm
      have hgp : g ≠ p := by omega
      have hgb : g ≠ bb := by omega
      have clt : bb < wr.heap.size := World.block_lt_of_cell? wr _ c0
      have KEEP : Hid (∀ w9, wr.grownBy w9 (some g) → (Boxed w9 w.heap.size 29 0 none 0 0 ∧ Boxed w9 p 29 (n : Int) (some ⟨g, 0, none⟩) m c1 ∧ Since w w9) ∧ w9.cell? ⟨bb, off + k * 3, none⟩ = some (.string ac) ∧ bb < w9.heap.size) := fun w9 hg9 => ⟨⟨boxed_grownS HXB.out hg9 (by omega), boxed_grownS HY.out hg9 (by omega), ⟨HS.out.below.trans ⟨hg9.os, hg9.tape, hg9.output, hg9.size, fun j hj => hg9.block j (Nat.lt_of_lt_of_le hj HS.out.size) (fun e => by injection e with e; omega)⟩⟩⟩, hg9.cell c0 (fun e => by injection e with e; exact absurd e (by first | exact hgb | exact Ne.symm hgb)), Nat.lt_of_lt_of_le clt hg9.size⟩
      clear hX hY hS hO hV ha hi9 hr9
      go_wp2_with fail
      go_region_held3 (fun W => W.cell? ⟨p, 0, none⟩ = some (.int .i64 (n : Int)) ∧ W.cell? ⟨p, 1, none⟩ = some (.slice (some ⟨g, 0, none⟩) m c1) ∧ W.cell? ⟨bb, off + k * 3, none⟩ = some (.string ac)) (go_keep) (first
        | (go_at_call 76; (refine (HAS.out _).mono ?_); rintro e w9 ⟨rfl, hw9⟩; rw [hw9]; clear hw9 w9)
        | (go_at_call 83; (refine (CS.out _ (by first | exact HO.out | exact HO.out.drew)).mono ?_); rintro e w9 ⟨rfl, hg9, ho9⟩; have hg8 : wr.grownBy w9 (some g) := ⟨hg9.os, hg9.tape, hg9.output, hg9.size, hg9.block⟩; have K9 : Hid (Boxed w9 w.heap.size 29 0 none 0 0 ∧ Boxed w9 p 29 (n : Int) (some ⟨g, 0, none⟩) m c1 ∧ Since w w9) := (KEEP.out w9 hg8).1; have O9 : Hid (Own w9 g m (setF h i9 r9 (!hb9))) := ho9; obtain ⟨y0, y1⟩ := K9.out.2.1.cells; have ylt := K9.out.2.1.lt; obtain ⟨_, c9, clt9⟩ := KEEP.out w9 hg8; clear hg9 ho9 hg8))
      all_goals
        go_wp2_with fail
        go_roundw
        case rel => exact ⟨k + 1, _, by omega, by go_num, K9.out.1, K9.out.2.1, K9.out.2.2, O9.out, YES.out⟩
        case measure => simp [intOf]; omega
    · have hki : ¬ (k : Int) < (n : Int) := by omega
      obtain rfl : k = n := by omega
      obtain ⟨a0, a1, a2, a3⟩ := hX.four
      have xlt := hX.lt
      have hne1 : w.heap.size ≠ p := by omega
      clear hX hY hS hO hV
      go_wp2_with fail
      refine bodyPost_ret (v := vecV (k : Int) (some ⟨g, 0, none⟩) m c1) (by simp [results, Tryz.results57, go_sem, vecV, a0, a1]) rfl ?_
      exact ⟨_, ⟨_, _, rfl, (since_set (since_set HS.out (by show w.heap.size ≤ w.heap.size; omega)) (by show w.heap.size ≤ w.heap.size; omega)).below, Or.inr ⟨g, rfl, by omega, (HO.out.setOther _ _ (by show w.heap.size ≠ g; omega)).setOther _ _ (by show w.heap.size ≠ g; omega)⟩⟩, HV.out.congr (lackTo_all f k c)⟩
end Go.Proofs.YtfeolbgenpknfaaGreat
