/- What is proved here: the laws set the marks of five vectors. -/
import Derived.Test.YthnnenbpbkmbhaaQRowsEqWToMaskMkM
import Derived.Test.YthnnenbpbkmbhaaQVecSMarkW
namespace Go.Proofs.Ythnnenbpbkmbhaa
open Go.RowKit

set_option maxRecDepth 100000 in
set_option maxHeartbeats 4000000 in
theorem markMasks_in (b : Int) (s : Nat → Option Addr) (n : Nat) (c h : Nat → Nat) (F : Nat → Nat → Int) (k : Int) (w : World) (hn : n ≤ 1048576) (h0 : 0 ≤ k) (h1 : k ≤ 1048576) (hA : MSl w h s n F) (hh : h 5 ≤ w.heap.size) :
    Calls Try.prog 19 #[masksV b s n c, .int .i64 k] w fun e w' => e = .returned (.int .i64 (k + (n : Int) + (n : Int) + (n : Int) + (n : Int) + (n : Int))) ∧ OnlyM w w' (h 0) (h 5) ∧ MSl w' h s n (markM k n) := by
  have up := hA.up
  have q0 := mboxing w b s n c
  have MA : Hid (MSl w h s n F) := hA
  clear hA
  unfold masksV markM
  obtain ⟨k1, hk1⟩ : ∃ x : Int, k + (n : Int) = x := ⟨_, rfl⟩
  obtain ⟨k2, hk2⟩ : ∃ x : Int, k1 + (n : Int) = x := ⟨_, rfl⟩
  obtain ⟨k3, hk3⟩ : ∃ x : Int, k2 + (n : Int) = x := ⟨_, rfl⟩
  obtain ⟨k4, hk4⟩ : ∃ x : Int, k3 + (n : Int) = x := ⟨_, rfl⟩
  obtain ⟨k5, hk5⟩ : ∃ x : Int, k4 + (n : Int) = x := ⟨_, rfl⟩
  rw [hk1, hk2, hk3, hk4, hk5]
  go_enter Try.func19, Try.ntmps19
  go_wp2_with fail
  generalize hv : w.alloc (.cells #[.int .i64 b, .slice (s 0) n (c 0), .int .i64 b, .slice (s 1) n (c 1), .int .i64 b, .slice (s 2) n (c 2), .int .i64 b, .slice (s 3) n (c 3), .int .i64 b, .slice (s 4) n (c 4)] 28) = v0 at *
  have HO0 : Hid (OnlyM w v0 (h 0) (h 5)) := OnlyM.ofBelow q0.1
  have MA0 : Hid (MSl v0 h s n F) := MA.out.kept q0.1
  have XA0 : Hid (MBox v0 w.heap.size b s n c) := q0.2.1
  clear q0 hv MA
  refine (markVec_in b (s 0) n (c 0) (h 0) (h 1) (F 0) k v0 hn (by omega) (by omega) MA0.out.r0).mono ?_
  rintro e v1 ⟨rfl, hon, hsl⟩
  have MA1 : Hid (MSl v1 h s n (five (fun j : Nat => k + (j : Int)) (F 1) (F 2) (F 3) (F 4))) := ⟨hsl, MA0.out.r1.only hon (by omega), MA0.out.r2.only hon (by omega), MA0.out.r3.only hon (by omega), MA0.out.r4.only hon (by omega), up⟩
  have XA1 : Hid (MBox v1 w.heap.size b s n c) := XA0.out.only hon (by omega)
  have HO1 : Hid (OnlyM w v1 (h 0) (h 5)) := HO0.out.trans (OnlyM.of hon (by omega) (by omega))
  clear hon hsl MA0 XA0 HO0
  rw [hk1]
  obtain ⟨a0, a1, a2, a3, a4, a5, a6, a7, a8, a9⟩ := XA1.out.cells
  have la := XA1.out.lt
  go_wp2_with fail
  clear a0 a1 a2 a3 a4 a5 a6 a7 a8 a9 la
  refine (markVec_in b (s 1) n (c 1) (h 1) (h 2) (F 1) k1 v1 hn (by omega) (by omega) MA1.out.r1).mono ?_
  rintro e v2 ⟨rfl, hon, hsl⟩
  have MA2 : Hid (MSl v2 h s n (five (fun j : Nat => k + (j : Int)) (fun j : Nat => k1 + (j : Int)) (F 2) (F 3) (F 4))) := ⟨MA1.out.r0.only hon (by omega), hsl, MA1.out.r2.only hon (by omega), MA1.out.r3.only hon (by omega), MA1.out.r4.only hon (by omega), up⟩
  have XA2 : Hid (MBox v2 w.heap.size b s n c) := XA1.out.only hon (by omega)
  have HO2 : Hid (OnlyM w v2 (h 0) (h 5)) := HO1.out.trans (OnlyM.of hon (by omega) (by omega))
  clear hon hsl MA1 XA1 HO1
  rw [hk2]
  obtain ⟨a0, a1, a2, a3, a4, a5, a6, a7, a8, a9⟩ := XA2.out.cells
  have la := XA2.out.lt
  go_wp2_with fail
  clear a0 a1 a2 a3 a4 a5 a6 a7 a8 a9 la
  refine (markVec_in b (s 2) n (c 2) (h 2) (h 3) (F 2) k2 v2 hn (by omega) (by omega) MA2.out.r2).mono ?_
  rintro e v3 ⟨rfl, hon, hsl⟩
  have MA3 : Hid (MSl v3 h s n (five (fun j : Nat => k + (j : Int)) (fun j : Nat => k1 + (j : Int)) (fun j : Nat => k2 + (j : Int)) (F 3) (F 4))) := ⟨MA2.out.r0.only hon (by omega), MA2.out.r1.only hon (by omega), hsl, MA2.out.r3.only hon (by omega), MA2.out.r4.only hon (by omega), up⟩
  have XA3 : Hid (MBox v3 w.heap.size b s n c) := XA2.out.only hon (by omega)
  have HO3 : Hid (OnlyM w v3 (h 0) (h 5)) := HO2.out.trans (OnlyM.of hon (by omega) (by omega))
  clear hon hsl MA2 XA2 HO2
  rw [hk3]
  obtain ⟨a0, a1, a2, a3, a4, a5, a6, a7, a8, a9⟩ := XA3.out.cells
  have la := XA3.out.lt
  go_wp2_with fail
  clear a0 a1 a2 a3 a4 a5 a6 a7 a8 a9 la
  refine (markVec_in b (s 3) n (c 3) (h 3) (h 4) (F 3) k3 v3 hn (by omega) (by omega) MA3.out.r3).mono ?_
  rintro e v4 ⟨rfl, hon, hsl⟩
  have MA4 : Hid (MSl v4 h s n (five (fun j : Nat => k + (j : Int)) (fun j : Nat => k1 + (j : Int)) (fun j : Nat => k2 + (j : Int)) (fun j : Nat => k3 + (j : Int)) (F 4))) := ⟨MA3.out.r0.only hon (by omega), MA3.out.r1.only hon (by omega), MA3.out.r2.only hon (by omega), hsl, MA3.out.r4.only hon (by omega), up⟩
  have XA4 : Hid (MBox v4 w.heap.size b s n c) := XA3.out.only hon (by omega)
  have HO4 : Hid (OnlyM w v4 (h 0) (h 5)) := HO3.out.trans (OnlyM.of hon (by omega) (by omega))
  clear hon hsl MA3 XA3 HO3
  rw [hk4]
  obtain ⟨a0, a1, a2, a3, a4, a5, a6, a7, a8, a9⟩ := XA4.out.cells
  have la := XA4.out.lt
  go_wp2_with fail
  clear a0 a1 a2 a3 a4 a5 a6 a7 a8 a9 la
  refine (markVec_in b (s 4) n (c 4) (h 4) (h 5) (F 4) k4 v4 hn (by omega) (by omega) MA4.out.r4).mono ?_
  rintro e v5 ⟨rfl, hon, hsl⟩
  have MA5 : Hid (MSl v5 h s n (five (fun j : Nat => k + (j : Int)) (fun j : Nat => k1 + (j : Int)) (fun j : Nat => k2 + (j : Int)) (fun j : Nat => k3 + (j : Int)) (fun j : Nat => k4 + (j : Int)))) := ⟨MA4.out.r0.only hon (by omega), MA4.out.r1.only hon (by omega), MA4.out.r2.only hon (by omega), MA4.out.r3.only hon (by omega), hsl, up⟩
  have XA5 : Hid (MBox v5 w.heap.size b s n c) := XA4.out.only hon (by omega)
  have HO5 : Hid (OnlyM w v5 (h 0) (h 5)) := HO4.out.trans (OnlyM.of hon (by omega) (by omega))
  clear hon hsl MA4 XA4 HO4
  rw [hk5]
  obtain ⟨a0, a1, a2, a3, a4, a5, a6, a7, a8, a9⟩ := XA5.out.cells
  have la := XA5.out.lt
  go_wp2_with fail
  go_ret
  exact ⟨rfl, HO5.out, MA5.out⟩
end Go.Proofs.Ythnnenbpbkmbhaa
