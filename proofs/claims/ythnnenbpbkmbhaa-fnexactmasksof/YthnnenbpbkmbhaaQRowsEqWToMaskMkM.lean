/- What is proved here: the laws' comparison of slices of int64: what it hands back and what it leaves as it was.
   What is proved here: the laws' comparison of vectors: what it hands back and what it leaves as it was.
   What is proved here: the laws' comparison of five vectors hands back true where they are the same.
   What is said here: the marks of five vectors. -/
import Derived.Test.YthnnenbpbkmbhaaQRowsDToMaskD
namespace Go.Proofs.Ythnnenbpbkmbhaa
open Go.RowKit

set_option maxHeartbeats 1000000 in
theorem eqRow_same (sa sb : Option Addr) (n ca cb : Nat) (f : Nat → Int) (w : World) (hn : n ≤ 1048576) (ha : Row w w.heap.size sa n f) (hb : Row w w.heap.size sb n f) :
    Calls Try.prog 50 #[.slice sa n ca, .slice sb n cb] w fun e w' => e = .returned (.bool true) ∧ Below w.heap.size w w' := by
  have HA : Hid (Row w w.heap.size sa n f) := ha
  have HB : Hid (Row w w.heap.size sb n f) := hb
  clear ha hb
  go_enter Try.func50, Try.ntmps50
  go_wp2
  go_loopw [5] (fun i wr => ∃ k : Nat, k ≤ n ∧ i = .int .i64 (k : Int) ∧ Below w.heap.size w wr) (fun i _ => n - (intOf i).toNat)
  case atStart => exact ⟨0, Nat.zero_le _, rfl, Below.refl _ _⟩
  case round =>
    obtain ⟨k, hk, rfl, hbel⟩ := hrel
    have HW : Hid (Below w.heap.size w wr) := hbel
    by_cases hkl : k < n
    · obtain ⟨ba, oa, rfl, hba, hca⟩ : ∃ bb off : Nat, sa = some ⟨bb, off, none⟩ ∧ bb < w.heap.size ∧ ∀ i, i < n → w.cell? ⟨bb, off + i, none⟩ = some (.int .i64 (f i)) := by
        rcases HA.out with h | h
        · omega
        · exact h
      obtain ⟨bb, ob, rfl, hbb, hcb⟩ : ∃ bb off : Nat, sb = some ⟨bb, off, none⟩ ∧ bb < w.heap.size ∧ ∀ i, i < n → w.cell? ⟨bb, off + i, none⟩ = some (.int .i64 (f i)) := by
        rcases HB.out with h | h
        · omega
        · exact h
      have cz : wr.cell? ⟨ba, oa + k, none⟩ = some (.int .i64 (f k)) := by rw [hbel.cell (p := ⟨ba, oa + k, none⟩) hba]; exact hca k hkl
      have cy : wr.cell? ⟨bb, ob + k, none⟩ = some (.int .i64 (f k)) := by rw [hbel.cell (p := ⟨bb, ob + k, none⟩) hbb]; exact hcb k hkl
      clear hca hcb hbel
      have hki : (k : Int) < (n : Int) := by omega
      have hk0 : (0 : Int) ≤ (k : Int) := by omega
      go_wp2
      go_region
      go_wp2
      go_roundw
      case rel => exact ⟨k + 1, by omega, by go_num, HW.out.drew⟩
      case measure => simp [intOf]; omega
    · have hki : ¬ (k : Int) < (n : Int) := by omega
      clear hbel
      go_wp2
      go_ret
      exact ⟨rfl, HW.out⟩
end Go.Proofs.Ythnnenbpbkmbhaa
namespace Go.Proofs.Ythnnenbpbkmbhaa
open Go.RowKit

set_option maxHeartbeats 1000000 in
theorem eqVec_same (b : Int) (sa sb : Option Addr) (n ca cb : Nat) (f : Nat → Int) (w : World) (hn : n ≤ 1048576) (ha : Row w w.heap.size sa n f) (hb : Row w w.heap.size sb n f) :
    Calls Try.prog 34 #[.agg #[.int .i64 b, .slice sa n ca], .agg #[.int .i64 b, .slice sb n cb]] w fun e w' => e = .returned (.bool true) ∧ Below w.heap.size w w' := by
  have HA : Hid (Row w w.heap.size sa n f) := ha
  have HB : Hid (Row w w.heap.size sb n f) := hb
  clear ha hb
  have hb0 : Below w.heap.size w ((w.alloc (.cells #[.int .i64 b, .slice sa n ca] 26)).alloc (.cells #[.int .i64 b, .slice sb n cb] 26)) :=
    ((Below.refl _ _).alloc (Nat.le_refl _) _).alloc (by simp) _
  have HB0 : Hid (Below w.heap.size w ((w.alloc (.cells #[.int .i64 b, .slice sa n ca] 26)).alloc (.cells #[.int .i64 b, .slice sb n cb] 26))) := hb0
  clear hb0
  go_enter Try.func34, Try.ntmps34
  go_wp2_with fail
  refine (eqRow_same sa sb n ca cb f _ hn ((HA.out.kept HB0.out).up HB0.out.size) ((HB.out.kept HB0.out).up HB0.out.size)).mono ?_
  rintro e w1 ⟨rfl, hb1⟩
  have HB1 : Hid (Below w.heap.size w w1) := HB0.out.trans (hb1.mono HB0.out.size)
  clear hb1 HB0
  go_wp2
  go_ret
  exact ⟨rfl, HB1.out⟩
end Go.Proofs.Ythnnenbpbkmbhaa
namespace Go.Proofs.Ythnnenbpbkmbhaa
open Go.RowKit

set_option maxRecDepth 100000 in
set_option maxHeartbeats 4000000 in
theorem eqMasks_same (b : Int) (s t : Nat → Option Addr) (n : Nat) (c d ha hx : Nat → Nat) (F : Nat → Nat → Int) (w : World) (hn : n ≤ 1048576) (hA : MSl w ha s n F) (hB : MSl w hx t n F) :
    Calls Try.prog 16 #[masksV b s n c, masksV b t n d] w fun e w' => e = .returned (.bool true) ∧ Below w.heap.size w w' := by
  have q0 := mboxing w b s n c
  have q1 := mboxing (w.alloc (.cells #[.int .i64 b, .slice (s 0) n (c 0), .int .i64 b, .slice (s 1) n (c 1), .int .i64 b, .slice (s 2) n (c 2), .int .i64 b, .slice (s 3) n (c 3), .int .i64 b, .slice (s 4) n (c 4)] 28)) b t n d
  have MA : Hid (MSl w ha s n F) := hA
  have MB : Hid (MSl w hx t n F) := hB
  clear hA hB
  unfold masksV
  go_enter Try.func16, Try.ntmps16
  go_wp2_with fail
  generalize hv : w.alloc (.cells #[.int .i64 b, .slice (s 0) n (c 0), .int .i64 b, .slice (s 1) n (c 1), .int .i64 b, .slice (s 2) n (c 2), .int .i64 b, .slice (s 3) n (c 3), .int .i64 b, .slice (s 4) n (c 4)] 28) = v at *
  generalize hv0 : v.alloc (.cells #[.int .i64 b, .slice (t 0) n (d 0), .int .i64 b, .slice (t 1) n (d 1), .int .i64 b, .slice (t 2) n (d 2), .int .i64 b, .slice (t 3) n (d 3), .int .i64 b, .slice (t 4) n (d 4)] 28) = v0 at *
  rw [q0.2.2] at q1
  have HB0 : Hid (Below w.heap.size w v0) := q0.1.trans (q1.1.mono (by omega))
  have MA0 : Hid (MSl v0 ha s n F) := MA.out.kept HB0.out
  have MB0 : Hid (MSl v0 hx t n F) := MB.out.kept HB0.out
  have XA0 : Hid (MBox v0 w.heap.size b s n c) := q0.2.1.kept q1.1 (by rw [q0.2.2])
  have XB0 : Hid (MBox v0 (w.heap.size + 1) b t n d) := q1.2.1
  clear q0 q1 hv hv0 MA MB
  refine (eqVec_same b (s 0) (t 0) n (c 0) (d 0) (F 0) v0 hn (MA0.out.r0.row) (MB0.out.r0.row)).mono ?_
  rintro e v1 ⟨rfl, hb⟩
  have MA1 : Hid (MSl v1 ha s n F) := MA0.out.kept hb
  have MB1 : Hid (MSl v1 hx t n F) := MB0.out.kept hb
  have XA1 : Hid (MBox v1 w.heap.size b s n c) := XA0.out.kept hb rfl
  have XB1 : Hid (MBox v1 (w.heap.size + 1) b t n d) := XB0.out.kept hb rfl
  have HB1 : Hid (Below w.heap.size w v1) := HB0.out.trans (hb.mono HB0.out.size)
  clear hb MA0 MB0 XA0 XB0 HB0
  obtain ⟨a0, a1, a2, a3, a4, a5, a6, a7, a8, a9⟩ := XA1.out.cells
  obtain ⟨b0, b1, b2, b3, b4, b5, b6, b7, b8, b9⟩ := XB1.out.cells
  have la := XA1.out.lt
  have lb := XB1.out.lt
  go_wp2_with fail
  clear a0 a1 a2 a3 a4 a5 a6 a7 a8 a9 b0 b1 b2 b3 b4 b5 b6 b7 b8 b9 la lb
  refine (eqVec_same b (s 1) (t 1) n (c 1) (d 1) (F 1) v1 hn (MA1.out.r1.row) (MB1.out.r1.row)).mono ?_
  rintro e v2 ⟨rfl, hb⟩
  have MA2 : Hid (MSl v2 ha s n F) := MA1.out.kept hb
  have MB2 : Hid (MSl v2 hx t n F) := MB1.out.kept hb
  have XA2 : Hid (MBox v2 w.heap.size b s n c) := XA1.out.kept hb rfl
  have XB2 : Hid (MBox v2 (w.heap.size + 1) b t n d) := XB1.out.kept hb rfl
  have HB2 : Hid (Below w.heap.size w v2) := HB1.out.trans (hb.mono HB1.out.size)
  clear hb MA1 MB1 XA1 XB1 HB1
  obtain ⟨a0, a1, a2, a3, a4, a5, a6, a7, a8, a9⟩ := XA2.out.cells
  obtain ⟨b0, b1, b2, b3, b4, b5, b6, b7, b8, b9⟩ := XB2.out.cells
  have la := XA2.out.lt
  have lb := XB2.out.lt
  go_wp2_with fail
  clear a0 a1 a2 a3 a4 a5 a6 a7 a8 a9 b0 b1 b2 b3 b4 b5 b6 b7 b8 b9 la lb
  refine (eqVec_same b (s 2) (t 2) n (c 2) (d 2) (F 2) v2 hn (MA2.out.r2.row) (MB2.out.r2.row)).mono ?_
  rintro e v3 ⟨rfl, hb⟩
  have MA3 : Hid (MSl v3 ha s n F) := MA2.out.kept hb
  have MB3 : Hid (MSl v3 hx t n F) := MB2.out.kept hb
  have XA3 : Hid (MBox v3 w.heap.size b s n c) := XA2.out.kept hb rfl
  have XB3 : Hid (MBox v3 (w.heap.size + 1) b t n d) := XB2.out.kept hb rfl
  have HB3 : Hid (Below w.heap.size w v3) := HB2.out.trans (hb.mono HB2.out.size)
  clear hb MA2 MB2 XA2 XB2 HB2
  obtain ⟨a0, a1, a2, a3, a4, a5, a6, a7, a8, a9⟩ := XA3.out.cells
  obtain ⟨b0, b1, b2, b3, b4, b5, b6, b7, b8, b9⟩ := XB3.out.cells
  have la := XA3.out.lt
  have lb := XB3.out.lt
  go_wp2_with fail
  clear a0 a1 a2 a3 a4 a5 a6 a7 a8 a9 b0 b1 b2 b3 b4 b5 b6 b7 b8 b9 la lb
  refine (eqVec_same b (s 3) (t 3) n (c 3) (d 3) (F 3) v3 hn (MA3.out.r3.row) (MB3.out.r3.row)).mono ?_
  rintro e v4 ⟨rfl, hb⟩
  have MA4 : Hid (MSl v4 ha s n F) := MA3.out.kept hb
  have MB4 : Hid (MSl v4 hx t n F) := MB3.out.kept hb
  have XA4 : Hid (MBox v4 w.heap.size b s n c) := XA3.out.kept hb rfl
  have XB4 : Hid (MBox v4 (w.heap.size + 1) b t n d) := XB3.out.kept hb rfl
  have HB4 : Hid (Below w.heap.size w v4) := HB3.out.trans (hb.mono HB3.out.size)
  clear hb MA3 MB3 XA3 XB3 HB3
  obtain ⟨a0, a1, a2, a3, a4, a5, a6, a7, a8, a9⟩ := XA4.out.cells
  obtain ⟨b0, b1, b2, b3, b4, b5, b6, b7, b8, b9⟩ := XB4.out.cells
  have la := XA4.out.lt
  have lb := XB4.out.lt
  go_wp2_with fail
  clear a0 a1 a2 a3 a4 a5 a6 a7 a8 a9 b0 b1 b2 b3 b4 b5 b6 b7 b8 b9 la lb
  refine (eqVec_same b (s 4) (t 4) n (c 4) (d 4) (F 4) v4 hn (MA4.out.r4.row) (MB4.out.r4.row)).mono ?_
  rintro e v5 ⟨rfl, hb⟩
  have MA5 : Hid (MSl v5 ha s n F) := MA4.out.kept hb
  have MB5 : Hid (MSl v5 hx t n F) := MB4.out.kept hb
  have XA5 : Hid (MBox v5 w.heap.size b s n c) := XA4.out.kept hb rfl
  have XB5 : Hid (MBox v5 (w.heap.size + 1) b t n d) := XB4.out.kept hb rfl
  have HB5 : Hid (Below w.heap.size w v5) := HB4.out.trans (hb.mono HB4.out.size)
  clear hb MA4 MB4 XA4 XB4 HB4
  obtain ⟨a0, a1, a2, a3, a4, a5, a6, a7, a8, a9⟩ := XA5.out.cells
  obtain ⟨b0, b1, b2, b3, b4, b5, b6, b7, b8, b9⟩ := XB5.out.cells
  have la := XA5.out.lt
  have lb := XB5.out.lt
  go_wp2_with fail
  go_ret
  exact ⟨rfl, HB5.out⟩
end Go.Proofs.Ythnnenbpbkmbhaa
namespace Go.Proofs.Ythnnenbpbkmbhaa
open Go.RowKit

/-- The marks of five vectors. -/
def markM (k : Int) (n : Nat) : Nat → Nat → Int := five (fun j : Nat => k + (j : Int)) (fun j : Nat => k + (n : Int) + (j : Int)) (fun j : Nat => k + (n : Int) + (n : Int) + (j : Int)) (fun j : Nat => k + (n : Int) + (n : Int) + (n : Int) + (j : Int)) (fun j : Nat => k + (n : Int) + (n : Int) + (n : Int) + (n : Int) + (j : Int))
end Go.Proofs.Ythnnenbpbkmbhaa
