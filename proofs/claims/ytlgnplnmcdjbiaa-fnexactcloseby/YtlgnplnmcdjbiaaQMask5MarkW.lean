/- What is proved here: the laws set the marks of five vectors, each of its own length. -/
import Derived.Test.YtlgnplnmcdjbiaaQMaskDToMask5S
import Derived.Test.YtlgnplnmcdjbiaaQRowsMarkWToVecSMarkW
namespace Go.Proofs.Ytlgnplnmcdjbiaa
open Go.RowKit

theorem M5Box.onlyM {W W' : World} {lo hi p : Nat} {b : Nat → Int} {s : Nat → Option Addr} {n c : Nat → Nat} (h : M5Box W p b s n c) (ho : OnlyM W W' lo hi) (hp : p < lo ∨ hi ≤ p) : M5Box W' p b s n c := by
  unfold M5Box
  rw [ho.block p h.lt hp]
  exact h
theorem M5Box.only {W W' : World} {lo hi p : Nat} {b : Nat → Int} {s : Nat → Option Addr} {n c : Nat → Nat} (h : M5Box W p b s n c) (ho : OnlyIn W W' lo hi) (hp : p < lo ∨ hi ≤ p) : M5Box W' p b s n c := h.onlyM (OnlyM.of ho (Nat.le_refl _) (Nat.le_refl _)) hp
set_option maxRecDepth 100000 in
set_option maxHeartbeats 4000000 in
theorem markMasks5_in (b : Nat → Int) (s : Nat → Option Addr) (n c h : Nat → Nat) (F : Nat → Nat → Int) (k : Int) (w : World) (hn : ∀ i, i < 5 → n i ≤ 1048576) (h0 : 0 ≤ k) (h1 : k ≤ 1048576) (hA : M5Sl w h s n F) (hh : h 5 ≤ w.heap.size) :
    Calls Try.prog 57 #[m5V b s n c, .int .i64 k] w fun e w' => e = .returned (.int .i64 (k + (n 0 : Int) + (n 1 : Int) + (n 2 : Int) + (n 3 : Int) + (n 4 : Int))) ∧ OnlyM w w' (h 0) (h 5) := by
  have up := hA.up
  have hn0 := hn 0 (by decide)
  have hn1 := hn 1 (by decide)
  have hn2 := hn 2 (by decide)
  have hn3 := hn 3 (by decide)
  have hn4 := hn 4 (by decide)
  have q0 := m5boxing w b s n c
  have MA : Hid (M5Sl w h s n F) := hA
  clear hA hn
  unfold m5V
  obtain ⟨k1, hk1⟩ : ∃ x : Int, k + (n 0 : Int) = x := ⟨_, rfl⟩
  obtain ⟨k2, hk2⟩ : ∃ x : Int, k1 + (n 1 : Int) = x := ⟨_, rfl⟩
  obtain ⟨k3, hk3⟩ : ∃ x : Int, k2 + (n 2 : Int) = x := ⟨_, rfl⟩
  obtain ⟨k4, hk4⟩ : ∃ x : Int, k3 + (n 3 : Int) = x := ⟨_, rfl⟩
  obtain ⟨k5, hk5⟩ : ∃ x : Int, k4 + (n 4 : Int) = x := ⟨_, rfl⟩
  rw [hk1, hk2, hk3, hk4, hk5]
  go_enter Try.func57, Try.ntmps57
  go_wp2_with fail
  generalize hv : w.alloc (.cells #[.int .i64 (b 0), .slice (s 0) (n 0) (c 0), .int .i64 (b 1), .slice (s 1) (n 1) (c 1), .int .i64 (b 2), .slice (s 2) (n 2) (c 2), .int .i64 (b 3), .slice (s 3) (n 3) (c 3), .int .i64 (b 4), .slice (s 4) (n 4) (c 4)] 50) = v0 at *
  have HO0 : Hid (OnlyM w v0 (h 0) (h 5)) := OnlyM.ofBelow q0.1
  have MA0 : Hid (M5Sl v0 h s n F) := MA.out.kept q0.1
  have XA0 : Hid (M5Box v0 w.heap.size b s n c) := q0.2.1
  clear q0 hv MA
  refine (markVec_in (b 0) (s 0) (n 0) (c 0) (h 0) (h 1) _ k v0 hn0 (by omega) (by omega) MA0.out.r0).mono ?_
  rintro e v1 ⟨rfl, hon, hsl⟩
  have MA1 : Hid (M5Sl v1 h s n (five (fun j : Nat => k + (j : Int)) (F 1) (F 2) (F 3) (F 4))) := ⟨hsl, MA0.out.r1.only hon (by omega), MA0.out.r2.only hon (by omega), MA0.out.r3.only hon (by omega), MA0.out.r4.only hon (by omega), up⟩
  have XA1 : Hid (M5Box v1 w.heap.size b s n c) := XA0.out.only hon (by omega)
  have HO1 : Hid (OnlyM w v1 (h 0) (h 5)) := HO0.out.trans (OnlyM.of hon (by omega) (by omega))
  clear hon hsl MA0 XA0 HO0
  rw [hk1]
  obtain ⟨a0, a1, a2, a3, a4, a5, a6, a7, a8, a9⟩ := XA1.out.cells
  have la := XA1.out.lt
  go_wp2_with fail
  clear a0 a1 a2 a3 a4 a5 a6 a7 a8 a9 la
  refine (markVec_in (b 1) (s 1) (n 1) (c 1) (h 1) (h 2) _ k1 v1 hn1 (by omega) (by omega) MA1.out.r1).mono ?_
  rintro e v2 ⟨rfl, hon, hsl⟩
  have MA2 : Hid (M5Sl v2 h s n (five (fun j : Nat => k + (j : Int)) (fun j : Nat => k1 + (j : Int)) (F 2) (F 3) (F 4))) := ⟨MA1.out.r0.only hon (by omega), hsl, MA1.out.r2.only hon (by omega), MA1.out.r3.only hon (by omega), MA1.out.r4.only hon (by omega), up⟩
  have XA2 : Hid (M5Box v2 w.heap.size b s n c) := XA1.out.only hon (by omega)
  have HO2 : Hid (OnlyM w v2 (h 0) (h 5)) := HO1.out.trans (OnlyM.of hon (by omega) (by omega))
  clear hon hsl MA1 XA1 HO1
  rw [hk2]
  obtain ⟨a0, a1, a2, a3, a4, a5, a6, a7, a8, a9⟩ := XA2.out.cells
  have la := XA2.out.lt
  go_wp2_with fail
  clear a0 a1 a2 a3 a4 a5 a6 a7 a8 a9 la
  refine (markVec_in (b 2) (s 2) (n 2) (c 2) (h 2) (h 3) _ k2 v2 hn2 (by omega) (by omega) MA2.out.r2).mono ?_
  rintro e v3 ⟨rfl, hon, hsl⟩
  have MA3 : Hid (M5Sl v3 h s n (five (fun j : Nat => k + (j : Int)) (fun j : Nat => k1 + (j : Int)) (fun j : Nat => k2 + (j : Int)) (F 3) (F 4))) := ⟨MA2.out.r0.only hon (by omega), MA2.out.r1.only hon (by omega), hsl, MA2.out.r3.only hon (by omega), MA2.out.r4.only hon (by omega), up⟩
  have XA3 : Hid (M5Box v3 w.heap.size b s n c) := XA2.out.only hon (by omega)
  have HO3 : Hid (OnlyM w v3 (h 0) (h 5)) := HO2.out.trans (OnlyM.of hon (by omega) (by omega))
  clear hon hsl MA2 XA2 HO2
  rw [hk3]
  obtain ⟨a0, a1, a2, a3, a4, a5, a6, a7, a8, a9⟩ := XA3.out.cells
  have la := XA3.out.lt
  go_wp2_with fail
  clear a0 a1 a2 a3 a4 a5 a6 a7 a8 a9 la
  refine (markVec_in (b 3) (s 3) (n 3) (c 3) (h 3) (h 4) _ k3 v3 hn3 (by omega) (by omega) MA3.out.r3).mono ?_
  rintro e v4 ⟨rfl, hon, hsl⟩
  have MA4 : Hid (M5Sl v4 h s n (five (fun j : Nat => k + (j : Int)) (fun j : Nat => k1 + (j : Int)) (fun j : Nat => k2 + (j : Int)) (fun j : Nat => k3 + (j : Int)) (F 4))) := ⟨MA3.out.r0.only hon (by omega), MA3.out.r1.only hon (by omega), MA3.out.r2.only hon (by omega), hsl, MA3.out.r4.only hon (by omega), up⟩
  have XA4 : Hid (M5Box v4 w.heap.size b s n c) := XA3.out.only hon (by omega)
  have HO4 : Hid (OnlyM w v4 (h 0) (h 5)) := HO3.out.trans (OnlyM.of hon (by omega) (by omega))
  clear hon hsl MA3 XA3 HO3
  rw [hk4]
  obtain ⟨a0, a1, a2, a3, a4, a5, a6, a7, a8, a9⟩ := XA4.out.cells
  have la := XA4.out.lt
  go_wp2_with fail
  clear a0 a1 a2 a3 a4 a5 a6 a7 a8 a9 la
  refine (markVec_in (b 4) (s 4) (n 4) (c 4) (h 4) (h 5) _ k4 v4 hn4 (by omega) (by omega) MA4.out.r4).mono ?_
  rintro e v5 ⟨rfl, hon, hsl⟩
  have MA5 : Hid (M5Sl v5 h s n (five (fun j : Nat => k + (j : Int)) (fun j : Nat => k1 + (j : Int)) (fun j : Nat => k2 + (j : Int)) (fun j : Nat => k3 + (j : Int)) (fun j : Nat => k4 + (j : Int)))) := ⟨MA4.out.r0.only hon (by omega), MA4.out.r1.only hon (by omega), MA4.out.r2.only hon (by omega), MA4.out.r3.only hon (by omega), hsl, up⟩
  have XA5 : Hid (M5Box v5 w.heap.size b s n c) := XA4.out.only hon (by omega)
  have HO5 : Hid (OnlyM w v5 (h 0) (h 5)) := HO4.out.trans (OnlyM.of hon (by omega) (by omega))
  clear hon hsl MA4 XA4 HO4
  rw [hk5]
  obtain ⟨a0, a1, a2, a3, a4, a5, a6, a7, a8, a9⟩ := XA5.out.cells
  have la := XA5.out.lt
  go_wp2_with fail
  go_ret
  exact ⟨rfl, HO5.out⟩
end Go.Proofs.Ytlgnplnmcdjbiaa
