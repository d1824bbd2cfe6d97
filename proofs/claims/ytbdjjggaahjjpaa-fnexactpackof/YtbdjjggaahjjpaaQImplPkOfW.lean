/- What is proved here: the program's PackOf tells the pack of right rows, or a code, in new memory; nothing that was there turns. -/
import Derived.Test.YtbdjjggaahjjpaaQNewPkW
import Derived.Test.YtbdjjggaahjjpaaQRowsRightW
import Derived.Test.YtbdjjggaahjjpaaQImplCRightWToImplKRightW
import Derived.Test.YtbdjjggaahjjpaaQPoM
import Derived.Test.YtbdjjggaahjjpaaQRowsHW
import Derived.Test.YtbdjjggaahjjpaaQClassAlg
import Derived.Test.YtbdjjggaahjjpaaQFitKM
namespace Go.Proofs.Ytbdjjggaahjjpaa
open Go.RowKit

/-- Rows that may lie in a pack. -/
def RowsOk (k : Nat) (n : Nat → Nat) (f : Nat → Nat → Cel) : Prop := 1 ≤ k ∧ k ≤ 6 ∧ ∀ i, i < k → CellsOk (n i) (f i)
/-- A pack alone. -/
def poPk (P : Pk) : Po := ⟨P, 0, 0, fun _ => 0, 0, fun _ => 0, 0⟩
theorem packBits_field (a b : Option Addr) (k m ca cb : Nat) (q : Int) (w : World) : Sem.run Try.prog (Instr.field 30 (.agg #[.slice a k ca, .slice b m cb, .int .i64 q]) 2) w = .ok (.int .i64 q) w := by kernel_rfl
open Classical in
/-- What is told of rows. -/
noncomputable def poOf (k : Nat) (n : Nat → Nat) (f : Nat → Nat → Cel) : Po :=
  if 400 < k then poCode 2 else if ¬ RowsOk k n f then poCode 1 else if 320 < atP n k then poCode 9 else poPk (pkOf k n f)
theorem okSizes {k : Nat} {n : Nat → Nat} {f : Nat → Nat → Cel} (h : RowsOk k n f) : ∀ i, i < k → ∀ j, j < n i → (f i j).c.size ≤ 256 := fun i hi j hj => okSize (fun _ _ hx => right_size hx) (h.2.2 i hi) j hj
/-- The cells of nothing told. -/
def zero7 : Array Value := #[.slice none 0 0, .slice none 0 0, .int .i64 0, .int .i64 0, .slice none 0 0, .slice none 0 0, .int .i64 0]
open Classical in
set_option maxRecDepth 100000 in
set_option maxHeartbeats 2000000 in
theorem implPackOf_any (sr : Option Addr) (k cr : Nat) (n : Nat → Nat) (f : Nat → Nat → Cel) (w : World) (hk : k ≤ maxLen) (hn : ∀ i, i < k → n i ≤ maxLen) (hc : ∀ i, i < k → ∀ j, j < n i → (f i j).c.size ≤ maxLen) (hr : RowsRead w sr k n f) :
    Calls Try.prog 15 #[.slice sr k cr] w fun e w' => NewPo w (poOf k n f) e w' := by
  obtain ⟨s, c, hr⟩ := hr
  have hb0 : Below w.heap.size w (w.alloc (.cells zero7 38)) := (Below.refl _ _).alloc (Nat.le_refl _) _
  have HB0 : Hid (Below w.heap.size w (w.alloc (.cells zero7 38))) := hb0
  have HX0 : Hid ((w.alloc (.cells zero7 38)).heap[w.heap.size]? = some (.cells zero7 38 (0, 0))) := heap_alloc_new w _
  have HZ0 : Hid ((w.alloc (.cells zero7 38)).heap.size = w.heap.size + 1) := by show _ = _; simp
  have CODE : ∀ (W : World) (c : Int), Below w.heap.size w W → NewPo w (poCode c) (.returned (.agg #[.slice none 0 0, .slice none 0 0, .int .i64 0, .int .i64 0, .slice none 0 0, .slice none 0 0, .int .i64 c])) W := fun W c hW => ⟨none, none, none, none, 0, 0, 0, 0, rfl, hW, poOwn_code hW.size⟩
  by_cases h4 : 400 < (k : Int)
  · have hq : poOf k n f = poCode 2 := by unfold poOf; rw [if_pos (by omega)]
    rw [hq]
    have HC : Hid (∀ (W : World) (c : Int), Below w.heap.size w W → NewPo w (poCode c) (.returned (.agg #[.slice none 0 0, .slice none 0 0, .int .i64 0, .int .i64 0, .slice none 0 0, .slice none 0 0, .int .i64 c])) W) := CODE
    clear hr hn hc hb0 HB0 HX0 HZ0 CODE hq
    go_enter Try.func15, Try.ntmps15
    go_wp2_with fail
    refine bodyPost_ret (v := .agg #[.slice none 0 0, .slice none 0 0, .int .i64 0, .int .i64 0, .slice none 0 0, .slice none 0 0, .int .i64 2]) (by simp [results, Try.results15, go_sem]) rfl ?_
    exact HC.out _ _ ((Below.refl _ _).alloc (Nat.le_refl _) _)
  have hk4 : ¬ 400 < k := by omega
  have HR : Hid (∀ W, Below w.heap.size w W → CCRows W W.heap.size sr k s n c f) := fun W hW => hr.late hW
  have C1 := rowsRight_any sr k cr s n c f _ hk (hr.late hb0) (fun i hi W hW => implKRight_any (s i) (n i) (c i) (f i) W (hn i hi) hW (hc i hi))
  have HC : Hid (∀ (W : World) (c : Int), Below w.heap.size w W → NewPo w (poCode c) (.returned (.agg #[.slice none 0 0, .slice none 0 0, .int .i64 0, .int .i64 0, .slice none 0 0, .slice none 0 0, .int .i64 c])) W) := CODE
  unfold zero7 at HB0 HX0 HZ0 C1
  by_cases hrow : 1 ≤ k ∧ k ≤ 6 ∧ ∀ i, i < k → CellsOk (n i) (f i)
  · rw [decide_eq_true hrow] at C1
    have hk6 := hrow.2.1
    have HNN : Hid (∀ i, i < k → 1 ≤ n i ∧ n i ≤ 60) := fun i hi => ⟨(hrow.2.2 i hi).1, (hrow.2.2 i hi).2.1⟩
    have C2 : Hid (∀ W, Below w.heap.size w W → Calls Try.prog 37 #[.slice sr k cr] W fun e w' => ∃ (sm : Option Addr) (cm : Nat), e = .returned (.agg #[.slice sr k cr, .slice sm k cm, .int .i64 (atP n k : Int)]) ∧ Below W.heap.size W w' ∧ OwnS w' W.heap.size sm k (fun i => (atP n i : Int))) := fun W hW => packOf_any sr k cr s n c f W hk6 (fun i hi => (HNN.out i hi).2) (HR.out W hW)
    have C3a := fun (W : World) (hW : Below w.heap.size w W) => newPk_any sr k cr s n c f W hrow.1 hk6 HNN.out (okSizes hrow) (HR.out W hW)
    obtain ⟨P, hP⟩ : ∃ P, pkOf k n f = P := ⟨_, rfl⟩
    rw [hP] at C3a
    have C3 : Hid (∀ W, Below w.heap.size w W → Calls Try.prog 44 #[.slice sr k cr] W fun e w' => NewPk W P e w') := C3a
    have HPO : Hid (poOf k n f = if 320 < atP n k then poCode 9 else poPk P) := by
      show _ = _
      unfold poOf
      rw [if_neg hk4, if_neg (fun h => h hrow), hP]
    have hat := atP_le (fun i hi => (HNN.out i hi).2) k (Nat.le_refl _)
    rw [HPO.out]
    obtain ⟨q, hq⟩ : ∃ q, atP n k = q := ⟨_, rfl⟩
    have HQ : Hid (atP n k = q) := hq
    rw [hq] at hat ⊢
    obtain ⟨R, hR⟩ : ∃ R, (if 320 < q then poCode 9 else poPk P) = R := ⟨_, rfl⟩
    have HRR : Hid ((if 320 < q then poCode 9 else poPk P) = R) := hR
    rw [hR]
    clear hr hn hc hb0 CODE hrow HPO hq hR hP C3a
    go_enter Try.func15, Try.ntmps15
    go_wp2_with fail
    generalize w.alloc (.cells #[.slice none 0 0, .slice none 0 0, .int .i64 0, .int .i64 0, .slice none 0 0, .slice none 0 0, .int .i64 0] 38) = w0 at *
    refine C1.mono ?_
    rintro e w1 ⟨rfl, hb⟩
    have B1 : Hid (Below w.heap.size w w1) := HB0.out.trans (hb.mono HB0.out.size)
    have X1 : Hid (w1.heap[w.heap.size]? = some (.cells #[.slice none 0 0, .slice none 0 0, .int .i64 0, .int .i64 0, .slice none 0 0, .slice none 0 0, .int .i64 0] 38 (0, 0))) := (hb.block w.heap.size (by have := HZ0.out; omega)).trans HX0.out
    clear hb C1
    have CP := C2.out w1 B1.out
    rw [HQ.out] at CP
    go_wp2_with fail
    refine CP.mono ?_
    rintro e w2 ⟨sm, cm, rfl, hb, _⟩
    have B2 : Hid (Below w.heap.size w w2) := B1.out.trans (hb.mono B1.out.size)
    have X2 : Hid (w2.heap[w.heap.size]? = some (.cells #[.slice none 0 0, .slice none 0 0, .int .i64 0, .int .i64 0, .slice none 0 0, .slice none 0 0, .int .i64 0] 38 (0, 0))) := (hb.block w.heap.size (lt_of_block X1.out)).trans X1.out
    clear hb CP
    have hx2 := X2.out
    have x0 : w2.cell? ⟨w.heap.size, 0, none⟩ = some (.slice none 0 0) := by simp [World.cell?, hx2]
    have x1 : w2.cell? ⟨w.heap.size, 1, none⟩ = some (.slice none 0 0) := by simp [World.cell?, hx2]
    have x2 : w2.cell? ⟨w.heap.size, 2, none⟩ = some (.int .i64 0) := by simp [World.cell?, hx2]
    have x3 : w2.cell? ⟨w.heap.size, 3, none⟩ = some (.int .i64 0) := by simp [World.cell?, hx2]
    have x4 : w2.cell? ⟨w.heap.size, 4, none⟩ = some (.slice none 0 0) := by simp [World.cell?, hx2]
    have x5 : w2.cell? ⟨w.heap.size, 5, none⟩ = some (.slice none 0 0) := by simp [World.cell?, hx2]
    have x6 : w2.cell? ⟨w.heap.size, 6, none⟩ = some (.int .i64 0) := by simp [World.cell?, hx2]
    have xf : ∀ i, w2.frozen? ⟨w.heap.size, i, none⟩ = false := fun i => frozen_of_row _ _ _ _ _ hx2
    have f0 := xf 0
    have f1 := xf 1
    have f2 := xf 2
    have f3 := xf 3
    have f4 := xf 4
    have f5 := xf 5
    have f6 := xf 6
    clear hx2
    have hfld := packBits_field sr sm k k cr cm (q : Int) w2
    by_cases h9 : 320 < (q : Int)
    · obtain rfl : R = poCode 9 := by rw [← HRR.out, if_pos (by omega)]
      go_wp2_with fail
      clear x0 x1 x2 x3 x4 x5 x6 xf f0 f1 f2 f3 f4 f5 f6
      obtain ⟨r0, r1, r2, r3, r4, r5, r6⟩ := seven_set w2 w.heap.size (.slice none 0 0) (.slice none 0 0) (.int .i64 0) (.int .i64 0) (.slice none 0 0) (.slice none 0 0) (.int .i64 9) (seven_there X2.out)
      have hm := seven_only w2 w.heap.size (.slice none 0 0) (.slice none 0 0) (.int .i64 0) (.int .i64 0) (.slice none 0 0) (.slice none 0 0) (.int .i64 9)
      have hbl := B2.out.trans (hm.below (Nat.le_refl _) B2.out.size)
      generalize ((((((w2.setCell ⟨w.heap.size, 0, none⟩ (.slice none 0 0)).setCell ⟨w.heap.size, 1, none⟩ (.slice none 0 0)).setCell ⟨w.heap.size, 2, none⟩ (.int .i64 0)).setCell ⟨w.heap.size, 3, none⟩ (.int .i64 0)).setCell ⟨w.heap.size, 4, none⟩ (.slice none 0 0)).setCell ⟨w.heap.size, 5, none⟩ (.slice none 0 0)).setCell ⟨w.heap.size, 6, none⟩ (.int .i64 9) = w9 at *
      refine bodyPost_ret (v := .agg #[.slice none 0 0, .slice none 0 0, .int .i64 0, .int .i64 0, .slice none 0 0, .slice none 0 0, .int .i64 9]) (by simp [results, Try.results15, go_sem, r0, r1, r2, r3, r4, r5, r6]) rfl ?_
      exact HC.out _ _ hbl
    · obtain rfl : R = poPk P := by rw [← HRR.out, if_neg (by omega)]
      go_wp2_with fail
      clear x0 x1 x2 x3 x4 x5 x6 xf f0 f1 f2 f3 f4 f5 f6
      refine (C3.out w2 B2.out).mono ?_
      rintro e w3 ⟨sx, sy, cx, cy, rfl, hb, ho⟩
      have B3 : Hid (Below w.heap.size w w3) := B2.out.trans (hb.mono B2.out.size)
      have X3 : Hid (w3.heap[w.heap.size]? = some (.cells #[.slice none 0 0, .slice none 0 0, .int .i64 0, .int .i64 0, .slice none 0 0, .slice none 0 0, .int .i64 0] 38 (0, 0))) := (hb.block w.heap.size (lt_of_block X2.out)).trans X2.out
      have O3 : Hid (PkOwn w3 w2.heap.size w3.heap.size sx sy P) := ho
      have Z3 : Hid (w.heap.size < w2.heap.size) := lt_of_block X2.out
      have Z4 : Hid (w2.heap.size ≤ w3.heap.size) := hb.size
      clear hb ho
      have hx2 := X3.out
      have x0 : w3.cell? ⟨w.heap.size, 0, none⟩ = some (.slice none 0 0) := by simp [World.cell?, hx2]
      have x1 : w3.cell? ⟨w.heap.size, 1, none⟩ = some (.slice none 0 0) := by simp [World.cell?, hx2]
      have x2 : w3.cell? ⟨w.heap.size, 2, none⟩ = some (.int .i64 0) := by simp [World.cell?, hx2]
      have x3 : w3.cell? ⟨w.heap.size, 3, none⟩ = some (.int .i64 0) := by simp [World.cell?, hx2]
      have x4 : w3.cell? ⟨w.heap.size, 4, none⟩ = some (.slice none 0 0) := by simp [World.cell?, hx2]
      have x5 : w3.cell? ⟨w.heap.size, 5, none⟩ = some (.slice none 0 0) := by simp [World.cell?, hx2]
      have x6 : w3.cell? ⟨w.heap.size, 6, none⟩ = some (.int .i64 0) := by simp [World.cell?, hx2]
      have xf : ∀ i, w3.frozen? ⟨w.heap.size, i, none⟩ = false := fun i => frozen_of_row _ _ _ _ _ hx2
      have f0 := xf 0
      have f1 := xf 1
      have f2 := xf 2
      have f3 := xf 3
      have f4 := xf 4
      have f5 := xf 5
      have f6 := xf 6
      clear hx2
      go_wp2_with fail
      clear x0 x1 x2 x3 x4 x5 x6 xf f0 f1 f2 f3 f4 f5 f6
      have TH := seven_there X3.out
      have hm0 := seven_only w3 w.heap.size (.slice sx P.k cx) (.slice sy P.m cy) (.int .i64 P.b) (.int .i64 0) (.slice none 0 0) (.slice none 0 0) (.int .i64 0)
      obtain ⟨r0, r1, r2, r3, r4, r5, r6⟩ := seven_set w3 w.heap.size (.slice sx P.k cx) (.slice sy P.m cy) (.int .i64 P.b) (.int .i64 0) (.slice none 0 0) (.slice none 0 0) (.int .i64 0) TH
      have hbl := B3.out.trans (hm0.below (Nat.le_refl _) B3.out.size)
      have hz3 := Z3.out
      have hz4 := Z4.out
      have O9 := O3.out.onlyM hm0 (Or.inr (by omega))
      have hsz := hm0.size
      generalize ((((((w3.setCell ⟨w.heap.size, 0, none⟩ (.slice sx P.k cx)).setCell ⟨w.heap.size, 1, none⟩ (.slice sy P.m cy)).setCell ⟨w.heap.size, 2, none⟩ (.int .i64 P.b)).setCell ⟨w.heap.size, 3, none⟩ (.int .i64 0)).setCell ⟨w.heap.size, 4, none⟩ (.slice none 0 0)).setCell ⟨w.heap.size, 5, none⟩ (.slice none 0 0)).setCell ⟨w.heap.size, 6, none⟩ (.int .i64 0) = w9 at *
      refine bodyPost_ret (v := .agg #[.slice sx P.k cx, .slice sy P.m cy, .int .i64 P.b, .int .i64 0, .slice none 0 0, .slice none 0 0, .int .i64 0]) (by simp [results, Try.results15, go_sem, r0, r1, r2, r3, r4, r5, r6]) rfl ?_
      refine ⟨sx, sy, none, none, cx, cy, 0, 0, rfl, hbl, w.heap.size, w2.heap.size, Nat.le_refl _, by omega, Nat.le_trans hz4 hsz, Nat.le_refl _, Or.inl rfl, Or.inl rfl, O9.wide (Nat.le_refl _) hsz (Nat.le_refl _)⟩
  · rw [decide_eq_false hrow] at C1
    have hq : poOf k n f = poCode 1 := by unfold poOf; rw [if_neg hk4, if_pos (fun h : RowsOk k n f => hrow h)]
    rw [hq]
    clear hr hn hc hb0 CODE hrow hq HR
    go_enter Try.func15, Try.ntmps15
    go_wp2_with fail
    generalize w.alloc (.cells #[.slice none 0 0, .slice none 0 0, .int .i64 0, .int .i64 0, .slice none 0 0, .slice none 0 0, .int .i64 0] 38) = w0 at *
    refine C1.mono ?_
    rintro e w1 ⟨rfl, hb⟩
    have B1 : Hid (Below w.heap.size w w1) := HB0.out.trans (hb.mono HB0.out.size)
    have X1 : Hid (w1.heap[w.heap.size]? = some (.cells #[.slice none 0 0, .slice none 0 0, .int .i64 0, .int .i64 0, .slice none 0 0, .slice none 0 0, .int .i64 0] 38 (0, 0))) := (hb.block w.heap.size (by have := HZ0.out; omega)).trans HX0.out
    clear hb C1
    have hx2 := X1.out
    have x0 : w1.cell? ⟨w.heap.size, 0, none⟩ = some (.slice none 0 0) := by simp [World.cell?, hx2]
    have x1 : w1.cell? ⟨w.heap.size, 1, none⟩ = some (.slice none 0 0) := by simp [World.cell?, hx2]
    have x2 : w1.cell? ⟨w.heap.size, 2, none⟩ = some (.int .i64 0) := by simp [World.cell?, hx2]
    have x3 : w1.cell? ⟨w.heap.size, 3, none⟩ = some (.int .i64 0) := by simp [World.cell?, hx2]
    have x4 : w1.cell? ⟨w.heap.size, 4, none⟩ = some (.slice none 0 0) := by simp [World.cell?, hx2]
    have x5 : w1.cell? ⟨w.heap.size, 5, none⟩ = some (.slice none 0 0) := by simp [World.cell?, hx2]
    have x6 : w1.cell? ⟨w.heap.size, 6, none⟩ = some (.int .i64 0) := by simp [World.cell?, hx2]
    have xf : ∀ i, w1.frozen? ⟨w.heap.size, i, none⟩ = false := fun i => frozen_of_row _ _ _ _ _ hx2
    have f0 := xf 0
    have f1 := xf 1
    have f2 := xf 2
    have f3 := xf 3
    have f4 := xf 4
    have f5 := xf 5
    have f6 := xf 6
    clear hx2
    go_wp2_with fail
    clear x0 x1 x2 x3 x4 x5 x6 xf f0 f1 f2 f3 f4 f5 f6
    obtain ⟨r0, r1, r2, r3, r4, r5, r6⟩ := seven_set w1 w.heap.size (.slice none 0 0) (.slice none 0 0) (.int .i64 0) (.int .i64 0) (.slice none 0 0) (.slice none 0 0) (.int .i64 1) (seven_there X1.out)
    have hm := seven_only w1 w.heap.size (.slice none 0 0) (.slice none 0 0) (.int .i64 0) (.int .i64 0) (.slice none 0 0) (.slice none 0 0) (.int .i64 1)
    have hbl := B1.out.trans (hm.below (Nat.le_refl _) B1.out.size)
    generalize ((((((w1.setCell ⟨w.heap.size, 0, none⟩ (.slice none 0 0)).setCell ⟨w.heap.size, 1, none⟩ (.slice none 0 0)).setCell ⟨w.heap.size, 2, none⟩ (.int .i64 0)).setCell ⟨w.heap.size, 3, none⟩ (.int .i64 0)).setCell ⟨w.heap.size, 4, none⟩ (.slice none 0 0)).setCell ⟨w.heap.size, 5, none⟩ (.slice none 0 0)).setCell ⟨w.heap.size, 6, none⟩ (.int .i64 1) = w9 at *
    refine bodyPost_ret (v := .agg #[.slice none 0 0, .slice none 0 0, .int .i64 0, .int .i64 0, .slice none 0 0, .slice none 0 0, .int .i64 1]) (by simp [results, Try.results15, go_sem, r0, r1, r2, r3, r4, r5, r6]) rfl ?_
    exact HC.out _ _ hbl
end Go.Proofs.Ytbdjjggaahjjpaa
