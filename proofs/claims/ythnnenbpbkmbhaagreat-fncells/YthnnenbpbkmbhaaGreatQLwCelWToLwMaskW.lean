/- What is proved here: the laws' comparison of two slices of the same cells says that they are the same; nothing that was there turns.
   What is proved here: the laws' comparison of two vectors of the same bits and words says that they are the same; nothing that was there turns.
   What is proved here: the laws' comparison of two times five vectors of the same bits and words says that they are the same; nothing that was there turns. -/
import Derived.Test.YthnnenbpbkmbhaaGreatQCellDToCopy3W
import Derived.Laws.StructEq
import Derived.Deep.RegionHeld3
import Derived.Deep.QuietTactic
import Derived.Test.YthnnenbpbkmbhaaGreatQWordMToVecIsM
import Derived.Test.YthnnenbpbkmbhaaGreatQWordsForWToMaskD
namespace Go.Proofs.YthnnenbpbkmbhaaGreat
open Go.RowKit

theorem below_drewL {a w : World} {B : Nat} (n : Nat) (h : Below B a w) : Below B a (w.drewN n) := ⟨h.os, h.tape, h.output, h.size, h.block⟩
set_option maxHeartbeats 2000000 in
theorem lwCells_same (sa sb : Option Addr) (n ca cb : Nat) (f : Nat → Cel) (w : World) (hn : n ≤ 1048576) (ha : CRow w w.heap.size sa n f) (hb : CRow w w.heap.size sb n f) :
    Calls Tryz.prog 12 #[.slice sa n ca, .slice sb n cb] w fun e w' => e = .returned (.bool true) ∧ Below w.heap.size w w' := by
  have HA : Hid (CRow w w.heap.size sa n f) := ha
  have HB : Hid (CRow w w.heap.size sb n f) := hb
  clear ha hb
  go_enter Tryz.func12, Tryz.ntmps12
  go_wp2
  go_loopw [5] (fun i wr => ∃ k : Nat, k ≤ n ∧ i = .int .i64 (k : Int) ∧ Below w.heap.size w wr) (fun i _ => n - (intOf i).toNat)
  case atStart => exact ⟨0, Nat.zero_le _, rfl, Below.refl _ _⟩
  case round =>
    obtain ⟨k, hk, rfl, hbel⟩ := hrel
    have HW : Hid (Below w.heap.size w wr) := hbel
    by_cases hkl : k < n
    · obtain ⟨ba, oa, rfl, hba, hca⟩ := HA.out.at hbel hkl
      obtain ⟨bb, ob, rfl, hbb, hcb⟩ := HB.out.at hbel hkl
      obtain ⟨a0, a1, a2⟩ := hca
      obtain ⟨b0, b1, b2⟩ := hcb
      obtain ⟨⟨ac, ak, ao⟩, ha⟩ : ∃ a, f k = a := ⟨_, rfl⟩
      rw [ha] at a0 a1 a2 b0 b1 b2
      simp only at a0 a1 a2 b0 b1 b2
      clear hbel ha
      have hki : (k : Int) < (n : Int) := by omega
      have hk0 : (0 : Int) ≤ (k : Int) := by omega
      go_wp2_with fail
      go_quiet (fail)
      go_wp2_with fail
      go_roundw
      case rel => exact ⟨k + 1, by omega, by go_num, below_drewL _ HW.out⟩
      case measure => simp [intOf]; omega
    · have hki : ¬ (k : Int) < (n : Int) := by omega
      clear hbel
      go_wp2
      go_ret
      exact ⟨rfl, HW.out⟩
end Go.Proofs.YthnnenbpbkmbhaaGreat
namespace Go.Proofs.YthnnenbpbkmbhaaGreat
open Go.RowKit

set_option maxHeartbeats 1000000 in
theorem lwRow_same (sa sb : Option Addr) (n ca cb : Nat) (f : Nat → Int) (w : World) (hn : n ≤ 1048576) (ha : Row w w.heap.size sa n f) (hb : Row w w.heap.size sb n f) :
    Calls Tryz.prog 37 #[.slice sa n ca, .slice sb n cb] w fun e w' => e = .returned (.bool true) ∧ Below w.heap.size w w' := by
  have HA : Hid (Row w w.heap.size sa n f) := ha
  have HB : Hid (Row w w.heap.size sb n f) := hb
  clear ha hb
  go_enter Tryz.func37, Tryz.ntmps37
  go_wp2
  go_loopw [5] (fun i wr => ∃ k : Nat, k ≤ n ∧ i = .int .i64 (k : Int) ∧ Below w.heap.size w wr) (fun i _ => n - (intOf i).toNat)
  case atStart => exact ⟨0, Nat.zero_le _, rfl, Below.refl _ _⟩
  case round =>
    obtain ⟨k, hk, rfl, hbel⟩ := hrel
    have HW : Hid (Below w.heap.size w wr) := hbel
    by_cases hkl : k < n
    · obtain ⟨ba, oa, rfl, hba, hca⟩ : ∃ bb off : Nat, sa = some ⟨bb, off, none⟩ ∧ bb < w.heap.size ∧ ∀ i, i < n → w.cell? ⟨bb, off + i, none⟩ = some (.int .i64 (f i)) := by
        rcases HA.out with h | h
        · omega
        · exact h
      obtain ⟨bb, ob, rfl, hbb, hcb⟩ : ∃ bb off : Nat, sb = some ⟨bb, off, none⟩ ∧ bb < w.heap.size ∧ ∀ i, i < n → w.cell? ⟨bb, off + i, none⟩ = some (.int .i64 (f i)) := by
        rcases HB.out with h | h
        · omega
        · exact h
      have cz : wr.cell? ⟨ba, oa + k, none⟩ = some (.int .i64 (f k)) := by rw [hbel.cell (p := ⟨ba, oa + k, none⟩) hba]; exact hca k hkl
      have cy : wr.cell? ⟨bb, ob + k, none⟩ = some (.int .i64 (f k)) := by rw [hbel.cell (p := ⟨bb, ob + k, none⟩) hbb]; exact hcb k hkl
      clear hca hcb hbel
      have hki : (k : Int) < (n : Int) := by omega
      have hk0 : (0 : Int) ≤ (k : Int) := by omega
      go_wp2
      go_region
      go_wp2
      go_roundw
      case rel => exact ⟨k + 1, by omega, by go_num, HW.out.drew⟩
      case measure => simp [intOf]; omega
    · have hki : ¬ (k : Int) < (n : Int) := by omega
      clear hbel
      go_wp2
      go_ret
      exact ⟨rfl, HW.out⟩

set_option maxHeartbeats 1000000 in
theorem lwVec_same (b : Int) (sa sb : Option Addr) (n ca cb : Nat) (f : Nat → Int) (w : World) (hn : n ≤ 1048576) (ha : Row w w.heap.size sa n f) (hb : Row w w.heap.size sb n f) :
    Calls Tryz.prog 19 #[.agg #[.int .i64 b, .slice sa n ca], .agg #[.int .i64 b, .slice sb n cb]] w fun e w' => e = .returned (.bool true) ∧ Below w.heap.size w w' := by
  have HA : Hid (Row w w.heap.size sa n f) := ha
  have HB : Hid (Row w w.heap.size sb n f) := hb
  clear ha hb
  have hb0 : Below w.heap.size w ((w.alloc (.cells #[.int .i64 b, .slice sa n ca] 35)).alloc (.cells #[.int .i64 b, .slice sb n cb] 35)) :=
    ((Below.refl _ _).alloc (Nat.le_refl _) _).alloc (by simp) _
  have HB0 : Hid (Below w.heap.size w ((w.alloc (.cells #[.int .i64 b, .slice sa n ca] 35)).alloc (.cells #[.int .i64 b, .slice sb n cb] 35))) := hb0
  clear hb0
  go_enter Tryz.func19, Tryz.ntmps19
  go_wp2_with fail
  refine (lwRow_same sa sb n ca cb f _ hn ((HA.out.kept HB0.out).up HB0.out.size) ((HB.out.kept HB0.out).up HB0.out.size)).mono ?_
  rintro e w1 ⟨rfl, hb1⟩
  have HB1 : Hid (Below w.heap.size w w1) := HB0.out.trans (hb1.mono HB0.out.size)
  clear hb1 HB0
  go_wp2
  go_ret
  exact ⟨rfl, HB1.out⟩

end Go.Proofs.YthnnenbpbkmbhaaGreat
namespace Go.Proofs.YthnnenbpbkmbhaaGreat
open Go.RowKit

set_option maxRecDepth 100000 in
set_option maxHeartbeats 8000000 in
theorem lwMasks_same (b : Int) (s t : Nat → Option Addr) (n : Nat) (c d : Nat → Nat) (F : Nat → Nat → Int) (w : World) (hn : n ≤ 1048576) (ha : ∀ i, i < 5 → Row w w.heap.size (s i) n (F i)) (hb : ∀ i, i < 5 → Row w w.heap.size (t i) n (F i)) :
    Calls Tryz.prog 16 #[masksV b s n c, masksV b t n d] w fun e w' => e = .returned (.bool true) ∧ Below w.heap.size w w' := by
  have q1 := mboxing w b s n c
  obtain ⟨v1, hv1⟩ : ∃ v, w.alloc (.cells #[.int .i64 b, .slice (s 0) n (c 0), .int .i64 b, .slice (s 1) n (c 1), .int .i64 b, .slice (s 2) n (c 2), .int .i64 b, .slice (s 3) n (c 3), .int .i64 b, .slice (s 4) n (c 4)] 41) = v := ⟨_, rfl⟩
  have q2 := mboxing v1 b t n d
  obtain ⟨v2, hv2⟩ : ∃ v, v1.alloc (.cells #[.int .i64 b, .slice (t 0) n (d 0), .int .i64 b, .slice (t 1) n (d 1), .int .i64 b, .slice (t 2) n (d 2), .int .i64 b, .slice (t 3) n (d 3), .int .i64 b, .slice (t 4) n (d 4)] 41) = v := ⟨_, rfl⟩
  rw [hv1] at q1
  rw [hv2] at q2
  have S2 : Hid (Since w v2) := since_call (since_call (since_refl _) q1.1) q2.1
  have HL : Hid (∀ (i : Nat) (W : World), i < 5 → Since w W → Calls Tryz.prog 19 #[.agg #[.int .i64 b, .slice (s i) n (c i)], .agg #[.int .i64 b, .slice (t i) n (d i)]] W fun e w' => e = .returned (.bool true) ∧ Below W.heap.size W w') := fun i W hi hW => lwVec_same b (s i) (t i) n (c i) (d i) (F i) W hn (row_since (ha i hi) hW) (row_since (hb i hi) hW)
  have X1 : Hid (MBox v2 w.heap.size b s n c) := q1.2.1.kept q2.1 rfl
  have hz1 := q1.2.2
  have X2 : Hid (MBox v2 v1.heap.size b t n d) := q2.2.1
  clear q1 q2 hz1 ha hb
  unfold masksV
  go_enter Tryz.func16, Tryz.ntmps16
  obtain ⟨a0, a1, a2, a3, a4, a5, a6, a7, a8, a9⟩ := X1.out.cells
  obtain ⟨e0, e1, e2, e3, e4, e5, e6, e7, e8, e9⟩ := X2.out.cells
  go_wp2_with (first
    | (go_at_call 19; (with_reducible refine (HL.out 0 _ (by decide) S2.out).mono ?_); rintro e w0 ⟨rfl, hb⟩; have T0 : Hid (Since w w0) := since_call S2.out hb; have U0 : Hid (MBox w0 w.heap.size b s n c) := X1.out.kept hb rfl; have V0 : Hid (MBox w0 v1.heap.size b t n d) := X2.out.kept hb rfl; obtain ⟨a0, a1, a2, a3, a4, a5, a6, a7, a8, a9⟩ := U0.out.cells; obtain ⟨e0, e1, e2, e3, e4, e5, e6, e7, e8, e9⟩ := V0.out.cells; clear hb)
    | (go_at_call 19; (with_reducible refine (HL.out 1 _ (by decide) T0.out).mono ?_); rintro e w1 ⟨rfl, hb⟩; have T1 : Hid (Since w w1) := since_call T0.out hb; have U1 : Hid (MBox w1 w.heap.size b s n c) := U0.out.kept hb rfl; have V1 : Hid (MBox w1 v1.heap.size b t n d) := V0.out.kept hb rfl; obtain ⟨a0, a1, a2, a3, a4, a5, a6, a7, a8, a9⟩ := U1.out.cells; obtain ⟨e0, e1, e2, e3, e4, e5, e6, e7, e8, e9⟩ := V1.out.cells; clear hb)
    | (go_at_call 19; (with_reducible refine (HL.out 2 _ (by decide) T1.out).mono ?_); rintro e w2 ⟨rfl, hb⟩; have T2 : Hid (Since w w2) := since_call T1.out hb; have U2 : Hid (MBox w2 w.heap.size b s n c) := U1.out.kept hb rfl; have V2 : Hid (MBox w2 v1.heap.size b t n d) := V1.out.kept hb rfl; obtain ⟨a0, a1, a2, a3, a4, a5, a6, a7, a8, a9⟩ := U2.out.cells; obtain ⟨e0, e1, e2, e3, e4, e5, e6, e7, e8, e9⟩ := V2.out.cells; clear hb)
    | (go_at_call 19; (with_reducible refine (HL.out 3 _ (by decide) T2.out).mono ?_); rintro e w3 ⟨rfl, hb⟩; have T3 : Hid (Since w w3) := since_call T2.out hb; have U3 : Hid (MBox w3 w.heap.size b s n c) := U2.out.kept hb rfl; have V3 : Hid (MBox w3 v1.heap.size b t n d) := V2.out.kept hb rfl; obtain ⟨a0, a1, a2, a3, a4, a5, a6, a7, a8, a9⟩ := U3.out.cells; obtain ⟨e0, e1, e2, e3, e4, e5, e6, e7, e8, e9⟩ := V3.out.cells; clear hb)
    | (go_at_call 19; (with_reducible refine (HL.out 4 _ (by decide) T3.out).mono ?_); rintro e w4 ⟨rfl, hb⟩; have T4 : Hid (Since w w4) := since_call T3.out hb; have U4 : Hid (MBox w4 w.heap.size b s n c) := U3.out.kept hb rfl; have V4 : Hid (MBox w4 v1.heap.size b t n d) := V3.out.kept hb rfl; obtain ⟨a0, a1, a2, a3, a4, a5, a6, a7, a8, a9⟩ := U4.out.cells; obtain ⟨e0, e1, e2, e3, e4, e5, e6, e7, e8, e9⟩ := V4.out.cells; clear hb))
  go_ret
  exact ⟨rfl, T4.out.below⟩
end Go.Proofs.YthnnenbpbkmbhaaGreat
