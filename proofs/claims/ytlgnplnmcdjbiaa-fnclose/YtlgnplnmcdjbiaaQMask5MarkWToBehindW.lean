/- What is proved here: the laws set the marks of five vectors, each of its own length.
   What is said here: what stays of the boxes and rows of five vectors, when blocks of a stretch turn; what the law's measure leaves.
   What is proved here: the places behind the cells that may be passed by, or passed again, as the program reckons them; nothing that was there turns. -/
import Derived.Test.YtlgnplnmcdjbiaaQMask5DToVecH
import Derived.Test.YtlgnplnmcdjbiaaQMask5EqWToVecSMarkW
import Derived.Test.YtlgnplnmcdjbiaaQMask5ToW
import Derived.Test.YtlgnplnmcdjbiaaQCellMToStepVM
import Derived.Test.YtlgnplnmcdjbiaaQCellDToMaskD
import Derived.WalkKit
import Derived.Below
namespace Go.Proofs.Ytlgnplnmcdjbiaa
open Go.RowKit

theorem M5Box.onlyM {W W' : World} {lo hi p : Nat} {b : Nat → Int} {s : Nat → Option Addr} {n c : Nat → Nat} (h : M5Box W p b s n c) (ho : OnlyM W W' lo hi) (hp : p < lo ∨ hi ≤ p) : M5Box W' p b s n c := by
  unfold M5Box
  rw [ho.block p h.lt hp]
  exact h
theorem M5Box.only {W W' : World} {lo hi p : Nat} {b : Nat → Int} {s : Nat → Option Addr} {n c : Nat → Nat} (h : M5Box W p b s n c) (ho : OnlyIn W W' lo hi) (hp : p < lo ∨ hi ≤ p) : M5Box W' p b s n c := h.onlyM (OnlyM.of ho (Nat.le_refl _) (Nat.le_refl _)) hp
set_option maxRecDepth 100000 in
set_option maxHeartbeats 4000000 in
theorem markMasks5_in (b : Nat → Int) (s : Nat → Option Addr) (n c h : Nat → Nat) (F : Nat → Nat → Int) (k : Int) (w : World) (hn : ∀ i, i < 5 → n i ≤ 1048576) (h0 : 0 ≤ k) (h1 : k ≤ 1048576) (hA : M5Sl w h s n F) (hh : h 5 ≤ w.heap.size) :
    Calls Try.prog 57 #[m5V b s n c, .int .i64 k] w fun e w' => e = .returned (.int .i64 (k + (n 0 : Int) + (n 1 : Int) + (n 2 : Int) + (n 3 : Int) + (n 4 : Int))) ∧ OnlyM w w' (h 0) (h 5) := by
  have up := hA.up
  have hn0 := hn 0 (by decide)
  have hn1 := hn 1 (by decide)
  have hn2 := hn 2 (by decide)
  have hn3 := hn 3 (by decide)
  have hn4 := hn 4 (by decide)
  have q0 := m5boxing w b s n c
  have MA : Hid (M5Sl w h s n F) := hA
  clear hA hn
  unfold m5V
  obtain ⟨k1, hk1⟩ : ∃ x : Int, k + (n 0 : Int) = x := ⟨_, rfl⟩
  obtain ⟨k2, hk2⟩ : ∃ x : Int, k1 + (n 1 : Int) = x := ⟨_, rfl⟩
  obtain ⟨k3, hk3⟩ : ∃ x : Int, k2 + (n 2 : Int) = x := ⟨_, rfl⟩
  obtain ⟨k4, hk4⟩ : ∃ x : Int, k3 + (n 3 : Int) = x := ⟨_, rfl⟩
  obtain ⟨k5, hk5⟩ : ∃ x : Int, k4 + (n 4 : Int) = x := ⟨_, rfl⟩
  rw [hk1, hk2, hk3, hk4, hk5]
  go_enter Try.func57, Try.ntmps57
  go_wp2_with fail
  generalize hv : w.alloc (.cells #[.int .i64 (b 0), .slice (s 0) (n 0) (c 0), .int .i64 (b 1), .slice (s 1) (n 1) (c 1), .int .i64 (b 2), .slice (s 2) (n 2) (c 2), .int .i64 (b 3), .slice (s 3) (n 3) (c 3), .int .i64 (b 4), .slice (s 4) (n 4) (c 4)] 50) = v0 at *
  have HO0 : Hid (OnlyM w v0 (h 0) (h 5)) := OnlyM.ofBelow q0.1
  have MA0 : Hid (M5Sl v0 h s n F) := MA.out.kept q0.1
  have XA0 : Hid (M5Box v0 w.heap.size b s n c) := q0.2.1
  clear q0 hv MA
  refine (markVec_in (b 0) (s 0) (n 0) (c 0) (h 0) (h 1) _ k v0 hn0 (by omega) (by omega) MA0.out.r0).mono ?_
  rintro e v1 ⟨rfl, hon, hsl⟩
  have MA1 : Hid (M5Sl v1 h s n (five (fun j : Nat => k + (j : Int)) (F 1) (F 2) (F 3) (F 4))) := ⟨hsl, MA0.out.r1.only hon (by omega), MA0.out.r2.only hon (by omega), MA0.out.r3.only hon (by omega), MA0.out.r4.only hon (by omega), up⟩
  have XA1 : Hid (M5Box v1 w.heap.size b s n c) := XA0.out.only hon (by omega)
  have HO1 : Hid (OnlyM w v1 (h 0) (h 5)) := HO0.out.trans (OnlyM.of hon (by omega) (by omega))
  clear hon hsl MA0 XA0 HO0
  rw [hk1]
  obtain ⟨a0, a1, a2, a3, a4, a5, a6, a7, a8, a9⟩ := XA1.out.cells
  have la := XA1.out.lt
  go_wp2_with fail
  clear a0 a1 a2 a3 a4 a5 a6 a7 a8 a9 la
  refine (markVec_in (b 1) (s 1) (n 1) (c 1) (h 1) (h 2) _ k1 v1 hn1 (by omega) (by omega) MA1.out.r1).mono ?_
  rintro e v2 ⟨rfl, hon, hsl⟩
  have MA2 : Hid (M5Sl v2 h s n (five (fun j : Nat => k + (j : Int)) (fun j : Nat => k1 + (j : Int)) (F 2) (F 3) (F 4))) := ⟨MA1.out.r0.only hon (by omega), hsl, MA1.out.r2.only hon (by omega), MA1.out.r3.only hon (by omega), MA1.out.r4.only hon (by omega), up⟩
  have XA2 : Hid (M5Box v2 w.heap.size b s n c) := XA1.out.only hon (by omega)
  have HO2 : Hid (OnlyM w v2 (h 0) (h 5)) := HO1.out.trans (OnlyM.of hon (by omega) (by omega))
  clear hon hsl MA1 XA1 HO1
  rw [hk2]
  obtain ⟨a0, a1, a2, a3, a4, a5, a6, a7, a8, a9⟩ := XA2.out.cells
  have la := XA2.out.lt
  go_wp2_with fail
  clear a0 a1 a2 a3 a4 a5 a6 a7 a8 a9 la
  refine (markVec_in (b 2) (s 2) (n 2) (c 2) (h 2) (h 3) _ k2 v2 hn2 (by omega) (by omega) MA2.out.r2).mono ?_
  rintro e v3 ⟨rfl, hon, hsl⟩
  have MA3 : Hid (M5Sl v3 h s n (five (fun j : Nat => k + (j : Int)) (fun j : Nat => k1 + (j : Int)) (fun j : Nat => k2 + (j : Int)) (F 3) (F 4))) := ⟨MA2.out.r0.only hon (by omega), MA2.out.r1.only hon (by omega), hsl, MA2.out.r3.only hon (by omega), MA2.out.r4.only hon (by omega), up⟩
  have XA3 : Hid (M5Box v3 w.heap.size b s n c) := XA2.out.only hon (by omega)
  have HO3 : Hid (OnlyM w v3 (h 0) (h 5)) := HO2.out.trans (OnlyM.of hon (by omega) (by omega))
  clear hon hsl MA2 XA2 HO2
  rw [hk3]
  obtain ⟨a0, a1, a2, a3, a4, a5, a6, a7, a8, a9⟩ := XA3.out.cells
  have la := XA3.out.lt
  go_wp2_with fail
  clear a0 a1 a2 a3 a4 a5 a6 a7 a8 a9 la
  refine (markVec_in (b 3) (s 3) (n 3) (c 3) (h 3) (h 4) _ k3 v3 hn3 (by omega) (by omega) MA3.out.r3).mono ?_
  rintro e v4 ⟨rfl, hon, hsl⟩
  have MA4 : Hid (M5Sl v4 h s n (five (fun j : Nat => k + (j : Int)) (fun j : Nat => k1 + (j : Int)) (fun j : Nat => k2 + (j : Int)) (fun j : Nat => k3 + (j : Int)) (F 4))) := ⟨MA3.out.r0.only hon (by omega), MA3.out.r1.only hon (by omega), MA3.out.r2.only hon (by omega), hsl, MA3.out.r4.only hon (by omega), up⟩
  have XA4 : Hid (M5Box v4 w.heap.size b s n c) := XA3.out.only hon (by omega)
  have HO4 : Hid (OnlyM w v4 (h 0) (h 5)) := HO3.out.trans (OnlyM.of hon (by omega) (by omega))
  clear hon hsl MA3 XA3 HO3
  rw [hk4]
  obtain ⟨a0, a1, a2, a3, a4, a5, a6, a7, a8, a9⟩ := XA4.out.cells
  have la := XA4.out.lt
  go_wp2_with fail
  clear a0 a1 a2 a3 a4 a5 a6 a7 a8 a9 la
  refine (markVec_in (b 4) (s 4) (n 4) (c 4) (h 4) (h 5) _ k4 v4 hn4 (by omega) (by omega) MA4.out.r4).mono ?_
  rintro e v5 ⟨rfl, hon, hsl⟩
  have MA5 : Hid (M5Sl v5 h s n (five (fun j : Nat => k + (j : Int)) (fun j : Nat => k1 + (j : Int)) (fun j : Nat => k2 + (j : Int)) (fun j : Nat => k3 + (j : Int)) (fun j : Nat => k4 + (j : Int)))) := ⟨MA4.out.r0.only hon (by omega), MA4.out.r1.only hon (by omega), MA4.out.r2.only hon (by omega), MA4.out.r3.only hon (by omega), hsl, up⟩
  have XA5 : Hid (M5Box v5 w.heap.size b s n c) := XA4.out.only hon (by omega)
  have HO5 : Hid (OnlyM w v5 (h 0) (h 5)) := HO4.out.trans (OnlyM.of hon (by omega) (by omega))
  clear hon hsl MA4 XA4 HO4
  rw [hk5]
  obtain ⟨a0, a1, a2, a3, a4, a5, a6, a7, a8, a9⟩ := XA5.out.cells
  have la := XA5.out.lt
  go_wp2_with fail
  go_ret
  exact ⟨rfl, HO5.out⟩
end Go.Proofs.Ytlgnplnmcdjbiaa
namespace Go.Proofs.Ytlgnplnmcdjbiaa
open Go.RowKit

theorem Boxed.onlyM {W W' : World} {lo hi p : Nat} {t : TypeId} {b : Int} {sa : Option Addr} {n cap : Nat} (h : Boxed W p t b sa n cap) (ho : OnlyM W W' lo hi) (hp : p < lo ∨ hi ≤ p) : Boxed W' p t b sa n cap := by
  unfold Boxed
  rw [ho.block p h.lt hp]
  exact h
theorem L5Box.onlyM {W W' : World} {lo hi p : Nat} {b : Nat → Int} {s : Nat → Option Addr} {n c : Nat → Nat} (h : L5Box W p b s n c) (ho : OnlyM W W' lo hi) (hp : p < lo ∨ hi ≤ p) : L5Box W' p b s n c := h.other ho hp
theorem L5Box.only {W W' : World} {lo hi p : Nat} {b : Nat → Int} {s : Nat → Option Addr} {n c : Nat → Nat} (h : L5Box W p b s n c) (ho : OnlyIn W W' lo hi) (hp : p < lo ∨ hi ≤ p) : L5Box W' p b s n c := h.other (OnlyM.of ho (Nat.le_refl _) (Nat.le_refl _)) hp
theorem L5Box.since {w W : World} {p : Nat} {b : Nat → Int} {s : Nat → Option Addr} {n c : Nat → Nat} (h : L5Box w p b s n c) (hs : Since w W) : L5Box W p b s n c := h.kept hs.below rfl
theorem M5Box.since {w W : World} {p : Nat} {b : Nat → Int} {s : Nat → Option Addr} {n c : Nat → Nat} (h : M5Box w p b s n c) (hs : Since w W) : M5Box W p b s n c := h.kept hs.below rfl
theorem szK_ok {n : Nat → Nat} {left : Int} (hl : left ≤ 1048576) (h : 0 ≤ szK n left 5) : szK n left 5 ≤ 1048576 ∧ ∀ i, i < 5 → n i ≤ 1048576 := by
  have one : ∀ k, 0 ≤ szK n left (k + 1) → 0 ≤ szK n left k ∧ (n k : Int) ≤ szK n left k ∧ szK n left (k + 1) = szK n left k - (n k : Int) := fun k hk => by
    have e : szK n left (k + 1) = if szK n left k < 0 then -1 else szOf (n k) (szK n left k) := rfl
    rw [e] at hk ⊢
    by_cases h1 : szK n left k < 0
    · rw [if_pos h1] at hk; omega
    · rw [if_neg h1] at hk ⊢
      unfold szOf at hk ⊢
      by_cases h2 : szK n left k < (n k : Int)
      · rw [if_pos h2] at hk; omega
      · rw [if_neg h2] at hk ⊢
        omega
  obtain ⟨a4, b4, c4⟩ := one 4 h
  obtain ⟨a3, b3, c3⟩ := one 3 a4
  obtain ⟨a2, b2, c2⟩ := one 2 a3
  obtain ⟨a1, b1, c1⟩ := one 1 a2
  obtain ⟨a0, b0, c0⟩ := one 0 a1
  have e0 : szK n left 0 = left := rfl
  simp only [Nat.reduceAdd] at *
  refine ⟨by omega, fun i hi => ?_⟩
  have hc : i = 0 ∨ i = 1 ∨ i = 2 ∨ i = 3 ∨ i = 4 := by omega
  rcases hc with rfl | rfl | rfl | rfl | rfl <;> omega
theorem szK_neg {n : Nat → Nat} {left : Int} (h : szK n left 5 < 0) : szK n left 5 = -1 := by
  have e : szK n left 5 = if szK n left 4 < 0 then -1 else szOf (n 4) (szK n left 4) := rfl
  rw [e] at h ⊢
  by_cases h1 : szK n left 4 < 0
  · rw [if_pos h1]
  · rw [if_neg h1] at h ⊢
    unfold szOf at h ⊢
    by_cases h2 : szK n left 4 < (n 4 : Int)
    · rw [if_pos h2]
    · rw [if_neg h2] at h; omega
end Go.Proofs.Ytlgnplnmcdjbiaa
namespace Go.Proofs.Ytlgnplnmcdjbiaa
open Go.RowKit

theorem wrap_powP {r : Nat} (h : r < 64) : IntKind.u64.wrap (2 ^ r) = ((2 ^ r : Nat) : Int) := by
  have := pow_lt64 h
  rw [wraps_u64s _ (Int.pow_nonneg (by decide)) (by exact_mod_cast this)]
  simp
theorem isSkip_any (a : Cel) (w : World) :
    Calls Try.prog 169 #[.agg #[.string a.c, .bool a.k, .bool a.o]] w fun e w' => e = .returned (.bool a.k) ∧ Below w.heap.size w w' := by
  go_enter Try.func169, Try.ntmps169
  go_wp2
  go_ret
  exact ⟨rfl, (Below.refl _ _).alloc (Nat.le_refl _) _⟩
set_option maxRecDepth 100000 in
set_option maxHeartbeats 4000000 in
theorem behindSkip_any (sa : Option Addr) (n cap : Nat) (f : Nat → Cel) (w : World) (hn : n ≤ 60) (hr : CRow w w.heap.size sa n f) :
    Calls Try.prog 168 #[.slice sa n cap, .func (.func 169) #[] #[]] w fun e w' => ∃ b : Nat, e = .returned (.int .u64 (b : Int)) ∧ IsBits b (behind (fun i => (f i).k) n) ∧ Below w.heap.size w w' := by
  have HR : Hid (CRow w w.heap.size sa n f) := hr
  clear hr
  go_enter Try.func168, Try.ntmps168
  go_wp2_with fail
  go_loopw [5, 10] (fun ov i wr => ∃ k b : Nat, k ≤ n ∧ i = .int .i64 (k : Int) ∧ ov = .int .u64 (b : Int) ∧ IsBits b (behind (fun i => (f i).k) k) ∧ Below w.heap.size w wr) (fun _ i _ => n - (intOf i).toNat)
  case atStart => exact ⟨0, 0, Nat.zero_le _, rfl, rfl, behind_zero _, Below.refl _ _⟩
  case round =>
    obtain ⟨k, b, hk, rfl, rfl, hbits, hbel⟩ := hrel
    have HB : Hid (Below w.heap.size w wr) := hbel
    have HI : Hid (IsBits b (behind (fun i => (f i).k) k)) := hbits
    by_cases hkl : k < n
    · obtain ⟨bb, off, rfl, hbb, hat⟩ := HR.out.at hbel hkl
      obtain ⟨c0, c1, c2⟩ := hat
      have hki : (k : Int) < (n : Int) := by omega
      have hk0 : (0 : Int) ≤ (k : Int) := by omega
      obtain ⟨⟨ac, al, am⟩, ha⟩ : ∃ a, f k = a := ⟨_, rfl⟩
      have HF : Hid (f k = ⟨ac, al, am⟩) := ha
      rw [ha] at c0 c1 c2
      simp only at c0 c1 c2
      have C := fun W => isSkip_any ⟨ac, al, am⟩ W
      simp only at C
      have BX : Hid (Below w.heap.size w (wr.alloc (.cells #[.string ac, .bool al, .bool am] 166))) := HB.out.alloc HB.out.size _
      clear ha hbits hbel
      go_wp2_with fail
      generalize wr.alloc (.cells #[.string ac, .bool al, .bool am] 166) = v at *
      refine (C v).mono ?_
      rintro e w1 ⟨rfl, hb1⟩
      have B1 : Hid (Below w.heap.size w w1) := BX.out.trans (hb1.mono BX.out.size)
      clear hb1 C BX HB c0 c1 c2
      cases hq : al with
      | true =>
        have HI2 : Hid (IsBits (b ||| 2 ^ (k + 1)) (behind (fun i => (f i).k) (k + 1))) := behind_yes HI.out (by omega) (by show (f k).k = true; rw [HF.out]; exact hq)
        obtain ⟨r, hr⟩ : ∃ r, k + 1 = r := ⟨_, rfl⟩
        have hri : (k : Int) + 1 = (r : Int) := by omega
        have hr0 : (0 : Int) ≤ (r : Int) := by omega
        rw [hr] at HI2
        have hpw := wrap_powP (r := r) (by omega)
        have hor : bits .or .u64 (b : Int) ((2 ^ r : Nat) : Int) = ((b ||| 2 ^ r : Nat) : Int) := or64 HI.out.lt (pow_lt64 (by omega))
        generalize b ||| 2 ^ r = b2 at *
        generalize ((2 ^ r : Nat) : Int) = P at *
        clear hq
        go_wp2_with fail
        go_roundw
        case rel => exact ⟨k + 1, b2, by omega, by go_num, rfl, by rw [hr]; exact HI2.out, B1.out⟩
        case measure => simp [intOf]; omega
      | false =>
        have HI2 : Hid (IsBits b (behind (fun i => (f i).k) (k + 1))) := behind_no HI.out (by show (f k).k = false; rw [HF.out]; exact hq)
        clear hq
        go_wp2_with fail
        go_roundw
        case rel => exact ⟨k + 1, b, by omega, by go_num, rfl, HI2.out, B1.out⟩
        case measure => simp [intOf]; omega
    · have hki : ¬ (k : Int) < (n : Int) := by omega
      obtain rfl : k = n := by omega
      clear hbits hbel
      go_wp2_with fail
      go_ret
      exact ⟨b, rfl, HI.out, HB.out⟩
theorem isLoop_any (a : Cel) (w : World) :
    Calls Try.prog 170 #[.agg #[.string a.c, .bool a.k, .bool a.o]] w fun e w' => e = .returned (.bool a.o) ∧ Below w.heap.size w w' := by
  go_enter Try.func170, Try.ntmps170
  go_wp2
  go_ret
  exact ⟨rfl, (Below.refl _ _).alloc (Nat.le_refl _) _⟩
set_option maxRecDepth 100000 in
set_option maxHeartbeats 4000000 in
theorem behindLoop_any (sa : Option Addr) (n cap : Nat) (f : Nat → Cel) (w : World) (hn : n ≤ 60) (hr : CRow w w.heap.size sa n f) :
    Calls Try.prog 168 #[.slice sa n cap, .func (.func 170) #[] #[]] w fun e w' => ∃ b : Nat, e = .returned (.int .u64 (b : Int)) ∧ IsBits b (behind (fun i => (f i).o) n) ∧ Below w.heap.size w w' := by
  have HR : Hid (CRow w w.heap.size sa n f) := hr
  clear hr
  go_enter Try.func168, Try.ntmps168
  go_wp2_with fail
  go_loopw [5, 10] (fun ov i wr => ∃ k b : Nat, k ≤ n ∧ i = .int .i64 (k : Int) ∧ ov = .int .u64 (b : Int) ∧ IsBits b (behind (fun i => (f i).o) k) ∧ Below w.heap.size w wr) (fun _ i _ => n - (intOf i).toNat)
  case atStart => exact ⟨0, 0, Nat.zero_le _, rfl, rfl, behind_zero _, Below.refl _ _⟩
  case round =>
    obtain ⟨k, b, hk, rfl, rfl, hbits, hbel⟩ := hrel
    have HB : Hid (Below w.heap.size w wr) := hbel
    have HI : Hid (IsBits b (behind (fun i => (f i).o) k)) := hbits
    by_cases hkl : k < n
    · obtain ⟨bb, off, rfl, hbb, hat⟩ := HR.out.at hbel hkl
      obtain ⟨c0, c1, c2⟩ := hat
      have hki : (k : Int) < (n : Int) := by omega
      have hk0 : (0 : Int) ≤ (k : Int) := by omega
      obtain ⟨⟨ac, al, am⟩, ha⟩ : ∃ a, f k = a := ⟨_, rfl⟩
      have HF : Hid (f k = ⟨ac, al, am⟩) := ha
      rw [ha] at c0 c1 c2
      simp only at c0 c1 c2
      have C := fun W => isLoop_any ⟨ac, al, am⟩ W
      simp only at C
      have BX : Hid (Below w.heap.size w (wr.alloc (.cells #[.string ac, .bool al, .bool am] 166))) := HB.out.alloc HB.out.size _
      clear ha hbits hbel
      go_wp2_with fail
      generalize wr.alloc (.cells #[.string ac, .bool al, .bool am] 166) = v at *
      refine (C v).mono ?_
      rintro e w1 ⟨rfl, hb1⟩
      have B1 : Hid (Below w.heap.size w w1) := BX.out.trans (hb1.mono BX.out.size)
      clear hb1 C BX HB c0 c1 c2
      cases hq : am with
      | true =>
        have HI2 : Hid (IsBits (b ||| 2 ^ (k + 1)) (behind (fun i => (f i).o) (k + 1))) := behind_yes HI.out (by omega) (by show (f k).o = true; rw [HF.out]; exact hq)
        obtain ⟨r, hr⟩ : ∃ r, k + 1 = r := ⟨_, rfl⟩
        have hri : (k : Int) + 1 = (r : Int) := by omega
        have hr0 : (0 : Int) ≤ (r : Int) := by omega
        rw [hr] at HI2
        have hpw := wrap_powP (r := r) (by omega)
        have hor : bits .or .u64 (b : Int) ((2 ^ r : Nat) : Int) = ((b ||| 2 ^ r : Nat) : Int) := or64 HI.out.lt (pow_lt64 (by omega))
        generalize b ||| 2 ^ r = b2 at *
        generalize ((2 ^ r : Nat) : Int) = P at *
        clear hq
        go_wp2_with fail
        go_roundw
        case rel => exact ⟨k + 1, b2, by omega, by go_num, rfl, by rw [hr]; exact HI2.out, B1.out⟩
        case measure => simp [intOf]; omega
      | false =>
        have HI2 : Hid (IsBits b (behind (fun i => (f i).o) (k + 1))) := behind_no HI.out (by show (f k).o = false; rw [HF.out]; exact hq)
        clear hq
        go_wp2_with fail
        go_roundw
        case rel => exact ⟨k + 1, b, by omega, by go_num, rfl, HI2.out, B1.out⟩
        case measure => simp [intOf]; omega
    · have hki : ¬ (k : Int) < (n : Int) := by omega
      obtain rfl : k = n := by omega
      clear hbits hbel
      go_wp2_with fail
      go_ret
      exact ⟨b, rfl, HI.out, HB.out⟩
end Go.Proofs.Ytlgnplnmcdjbiaa
