/- What is proved here: the laws find the marks of five vectors again. -/
import Derived.Test.YthnnenbpbkmbhaaQRowsEqWToMaskMkM
import Derived.Test.YthnnenbpbkmbhaaQVecSMarkW
namespace Go.Proofs.Ythnnenbpbkmbhaa
open Go.RowKit

set_option maxRecDepth 100000 in
set_option maxHeartbeats 4000000 in
theorem heldMasks_any (b : Int) (s : Nat → Option Addr) (n : Nat) (c h : Nat → Nat) (k : Int) (w : World) (hn : n ≤ 1048576) (h0 : 0 ≤ k) (h1 : k ≤ 1048576) (hA : MSl w h s n (markM k n)) :
    Calls Try.prog 20 #[masksV b s n c, .int .i64 k] w fun e w' => e = .returned (.int .i64 (k + (n : Int) + (n : Int) + (n : Int) + (n : Int) + (n : Int))) ∧ Below w.heap.size w w' := by
  have q0 := mboxing w b s n c
  unfold markM at hA
  obtain ⟨k1, hk1⟩ : ∃ x : Int, k + (n : Int) = x := ⟨_, rfl⟩
  obtain ⟨k2, hk2⟩ : ∃ x : Int, k1 + (n : Int) = x := ⟨_, rfl⟩
  obtain ⟨k3, hk3⟩ : ∃ x : Int, k2 + (n : Int) = x := ⟨_, rfl⟩
  obtain ⟨k4, hk4⟩ : ∃ x : Int, k3 + (n : Int) = x := ⟨_, rfl⟩
  obtain ⟨k5, hk5⟩ : ∃ x : Int, k4 + (n : Int) = x := ⟨_, rfl⟩
  rw [hk1, hk2, hk3, hk4] at hA
  rw [hk1, hk2, hk3, hk4, hk5]
  have MA : Hid (MSl w h s n (five (fun j : Nat => k + (j : Int)) (fun j : Nat => k1 + (j : Int)) (fun j : Nat => k2 + (j : Int)) (fun j : Nat => k3 + (j : Int)) (fun j : Nat => k4 + (j : Int)))) := hA
  clear hA
  unfold masksV
  go_enter Try.func20, Try.ntmps20
  go_wp2_with fail
  generalize hv : w.alloc (.cells #[.int .i64 b, .slice (s 0) n (c 0), .int .i64 b, .slice (s 1) n (c 1), .int .i64 b, .slice (s 2) n (c 2), .int .i64 b, .slice (s 3) n (c 3), .int .i64 b, .slice (s 4) n (c 4)] 28) = v0 at *
  have HB0 : Hid (Below w.heap.size w v0) := q0.1
  have MA0 : Hid (MSl v0 h s n (five (fun j : Nat => k + (j : Int)) (fun j : Nat => k1 + (j : Int)) (fun j : Nat => k2 + (j : Int)) (fun j : Nat => k3 + (j : Int)) (fun j : Nat => k4 + (j : Int)))) := MA.out.kept q0.1
  have XA0 : Hid (MBox v0 w.heap.size b s n c) := q0.2.1
  clear q0 hv MA
  refine (heldVec_any b (s 0) n (c 0) k v0 hn (by omega) (by omega) MA0.out.r0.row).mono ?_
  rintro e v1 ⟨rfl, hb⟩
  have MA1 : Hid (MSl v1 h s n (five (fun j : Nat => k + (j : Int)) (fun j : Nat => k1 + (j : Int)) (fun j : Nat => k2 + (j : Int)) (fun j : Nat => k3 + (j : Int)) (fun j : Nat => k4 + (j : Int)))) := MA0.out.kept hb
  have XA1 : Hid (MBox v1 w.heap.size b s n c) := XA0.out.kept hb rfl
  have HB1 : Hid (Below w.heap.size w v1) := HB0.out.trans (hb.mono HB0.out.size)
  clear hb MA0 XA0 HB0
  rw [hk1]
  have hk9 : ¬ k1 < 0 := by omega
  obtain ⟨a0, a1, a2, a3, a4, a5, a6, a7, a8, a9⟩ := XA1.out.cells
  have la := XA1.out.lt
  go_wp2_with fail
  clear a0 a1 a2 a3 a4 a5 a6 a7 a8 a9 la hk9
  refine (heldVec_any b (s 1) n (c 1) k1 v1 hn (by omega) (by omega) MA1.out.r1.row).mono ?_
  rintro e v2 ⟨rfl, hb⟩
  have MA2 : Hid (MSl v2 h s n (five (fun j : Nat => k + (j : Int)) (fun j : Nat => k1 + (j : Int)) (fun j : Nat => k2 + (j : Int)) (fun j : Nat => k3 + (j : Int)) (fun j : Nat => k4 + (j : Int)))) := MA1.out.kept hb
  have XA2 : Hid (MBox v2 w.heap.size b s n c) := XA1.out.kept hb rfl
  have HB2 : Hid (Below w.heap.size w v2) := HB1.out.trans (hb.mono HB1.out.size)
  clear hb MA1 XA1 HB1
  rw [hk2]
  have hk9 : ¬ k2 < 0 := by omega
  obtain ⟨a0, a1, a2, a3, a4, a5, a6, a7, a8, a9⟩ := XA2.out.cells
  have la := XA2.out.lt
  go_wp2_with fail
  clear a0 a1 a2 a3 a4 a5 a6 a7 a8 a9 la hk9
  refine (heldVec_any b (s 2) n (c 2) k2 v2 hn (by omega) (by omega) MA2.out.r2.row).mono ?_
  rintro e v3 ⟨rfl, hb⟩
  have MA3 : Hid (MSl v3 h s n (five (fun j : Nat => k + (j : Int)) (fun j : Nat => k1 + (j : Int)) (fun j : Nat => k2 + (j : Int)) (fun j : Nat => k3 + (j : Int)) (fun j : Nat => k4 + (j : Int)))) := MA2.out.kept hb
  have XA3 : Hid (MBox v3 w.heap.size b s n c) := XA2.out.kept hb rfl
  have HB3 : Hid (Below w.heap.size w v3) := HB2.out.trans (hb.mono HB2.out.size)
  clear hb MA2 XA2 HB2
  rw [hk3]
  have hk9 : ¬ k3 < 0 := by omega
  obtain ⟨a0, a1, a2, a3, a4, a5, a6, a7, a8, a9⟩ := XA3.out.cells
  have la := XA3.out.lt
  go_wp2_with fail
  clear a0 a1 a2 a3 a4 a5 a6 a7 a8 a9 la hk9
  refine (heldVec_any b (s 3) n (c 3) k3 v3 hn (by omega) (by omega) MA3.out.r3.row).mono ?_
  rintro e v4 ⟨rfl, hb⟩
  have MA4 : Hid (MSl v4 h s n (five (fun j : Nat => k + (j : Int)) (fun j : Nat => k1 + (j : Int)) (fun j : Nat => k2 + (j : Int)) (fun j : Nat => k3 + (j : Int)) (fun j : Nat => k4 + (j : Int)))) := MA3.out.kept hb
  have XA4 : Hid (MBox v4 w.heap.size b s n c) := XA3.out.kept hb rfl
  have HB4 : Hid (Below w.heap.size w v4) := HB3.out.trans (hb.mono HB3.out.size)
  clear hb MA3 XA3 HB3
  rw [hk4]
  have hk9 : ¬ k4 < 0 := by omega
  obtain ⟨a0, a1, a2, a3, a4, a5, a6, a7, a8, a9⟩ := XA4.out.cells
  have la := XA4.out.lt
  go_wp2_with fail
  clear a0 a1 a2 a3 a4 a5 a6 a7 a8 a9 la hk9
  refine (heldVec_any b (s 4) n (c 4) k4 v4 hn (by omega) (by omega) MA4.out.r4.row).mono ?_
  rintro e v5 ⟨rfl, hb⟩
  have MA5 : Hid (MSl v5 h s n (five (fun j : Nat => k + (j : Int)) (fun j : Nat => k1 + (j : Int)) (fun j : Nat => k2 + (j : Int)) (fun j : Nat => k3 + (j : Int)) (fun j : Nat => k4 + (j : Int)))) := MA4.out.kept hb
  have XA5 : Hid (MBox v5 w.heap.size b s n c) := XA4.out.kept hb rfl
  have HB5 : Hid (Below w.heap.size w v5) := HB4.out.trans (hb.mono HB4.out.size)
  clear hb MA4 XA4 HB4
  rw [hk5]
  have hk9 : ¬ k5 < 0 := by omega
  obtain ⟨a0, a1, a2, a3, a4, a5, a6, a7, a8, a9⟩ := XA5.out.cells
  have la := XA5.out.lt
  go_wp2_with fail
  go_ret
  exact ⟨rfl, HB5.out⟩
end Go.Proofs.Ythnnenbpbkmbhaa
