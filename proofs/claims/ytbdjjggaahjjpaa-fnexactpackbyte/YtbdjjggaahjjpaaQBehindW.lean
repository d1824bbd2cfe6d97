/- What is proved here: the places behind the cells that may be passed by, or passed again, as the program reckons them; nothing that was there turns. -/
import Derived.Test.YtbdjjggaahjjpaaQCellMToCloM
import Derived.Test.YtbdjjggaahjjpaaQCellSToMarkTextW
import Derived.WalkKit
import Derived.Below
namespace Go.Proofs.Ytbdjjggaahjjpaa
open Go.RowKit

theorem wrap_powP {r : Nat} (h : r < 64) : IntKind.u64.wrap (2 ^ r) = ((2 ^ r : Nat) : Int) := by
  have := pow_lt64 h
  rw [wraps_u64s _ (Int.pow_nonneg (by decide)) (by exact_mod_cast this)]
  simp
theorem isSkip_any (a : Cel) (w : World) :
    Calls Try.prog 92 #[.agg #[.string a.c, .bool a.k, .bool a.o]] w fun e w' => e = .returned (.bool a.k) ∧ Below w.heap.size w w' := by
  go_enter Try.func92, Try.ntmps92
  go_wp2
  go_ret
  exact ⟨rfl, (Below.refl _ _).alloc (Nat.le_refl _) _⟩
set_option maxRecDepth 100000 in
set_option maxHeartbeats 4000000 in
theorem behindSkip_any (sa : Option Addr) (n cap : Nat) (f : Nat → Cel) (w : World) (hn : n ≤ 60) (hr : CRow w w.heap.size sa n f) :
    Calls Try.prog 91 #[.slice sa n cap, .func (.func 92) #[] #[]] w fun e w' => ∃ b : Nat, e = .returned (.int .u64 (b : Int)) ∧ IsBits b (behind (fun i => (f i).k) n) ∧ Below w.heap.size w w' := by
  have HR : Hid (CRow w w.heap.size sa n f) := hr
  clear hr
  go_enter Try.func91, Try.ntmps91
  go_wp2_with fail
  go_loopw [5, 10] (fun ov i wr => ∃ k b : Nat, k ≤ n ∧ i = .int .i64 (k : Int) ∧ ov = .int .u64 (b : Int) ∧ IsBits b (behind (fun i => (f i).k) k) ∧ Below w.heap.size w wr) (fun _ i _ => n - (intOf i).toNat)
  case atStart => exact ⟨0, 0, Nat.zero_le _, rfl, rfl, behind_zero _, Below.refl _ _⟩
  case round =>
    obtain ⟨k, b, hk, rfl, rfl, hbits, hbel⟩ := hrel
    have HB : Hid (Below w.heap.size w wr) := hbel
    have HI : Hid (IsBits b (behind (fun i => (f i).k) k)) := hbits
    by_cases hkl : k < n
    · obtain ⟨bb, off, rfl, hbb, hat⟩ := HR.out.at hbel hkl
      obtain ⟨c0, c1, c2⟩ := hat
      have hki : (k : Int) < (n : Int) := by omega
      have hk0 : (0 : Int) ≤ (k : Int) := by omega
      obtain ⟨⟨ac, al, am⟩, ha⟩ : ∃ a, f k = a := ⟨_, rfl⟩
      have HF : Hid (f k = ⟨ac, al, am⟩) := ha
      rw [ha] at c0 c1 c2
      simp only at c0 c1 c2
      have C := fun W => isSkip_any ⟨ac, al, am⟩ W
      simp only at C
      have BX : Hid (Below w.heap.size w (wr.alloc (.cells #[.string ac, .bool al, .bool am] 85))) := HB.out.alloc HB.out.size _
      clear ha hbits hbel
      go_wp2_with fail
      generalize wr.alloc (.cells #[.string ac, .bool al, .bool am] 85) = v at *
      refine (C v).mono ?_
      rintro e w1 ⟨rfl, hb1⟩
      have B1 : Hid (Below w.heap.size w w1) := BX.out.trans (hb1.mono BX.out.size)
      clear hb1 C BX HB c0 c1 c2
      cases hq : al with
      | true =>
        have HI2 : Hid (IsBits (b ||| 2 ^ (k + 1)) (behind (fun i => (f i).k) (k + 1))) := behind_yes HI.out (by omega) (by show (f k).k = true; rw [HF.out]; exact hq)
        obtain ⟨r, hr⟩ : ∃ r, k + 1 = r := ⟨_, rfl⟩
        have hri : (k : Int) + 1 = (r : Int) := by omega
        have hr0 : (0 : Int) ≤ (r : Int) := by omega
        rw [hr] at HI2
        have hpw := wrap_powP (r := r) (by omega)
        have hor : bits .or .u64 (b : Int) ((2 ^ r : Nat) : Int) = ((b ||| 2 ^ r : Nat) : Int) := or64 HI.out.lt (pow_lt64 (by omega))
        generalize b ||| 2 ^ r = b2 at *
        generalize ((2 ^ r : Nat) : Int) = P at *
        clear hq
        go_wp2_with fail
        go_roundw
        case rel => exact ⟨k + 1, b2, by omega, by go_num, rfl, by rw [hr]; exact HI2.out, B1.out⟩
        case measure => simp [intOf]; omega
      | false =>
        have HI2 : Hid (IsBits b (behind (fun i => (f i).k) (k + 1))) := behind_no HI.out (by show (f k).k = false; rw [HF.out]; exact hq)
        clear hq
        go_wp2_with fail
        go_roundw
        case rel => exact ⟨k + 1, b, by omega, by go_num, rfl, HI2.out, B1.out⟩
        case measure => simp [intOf]; omega
    · have hki : ¬ (k : Int) < (n : Int) := by omega
      obtain rfl : k = n := by omega
      clear hbits hbel
      go_wp2_with fail
      go_ret
      exact ⟨b, rfl, HI.out, HB.out⟩
theorem isLoop_any (a : Cel) (w : World) :
    Calls Try.prog 93 #[.agg #[.string a.c, .bool a.k, .bool a.o]] w fun e w' => e = .returned (.bool a.o) ∧ Below w.heap.size w w' := by
  go_enter Try.func93, Try.ntmps93
  go_wp2
  go_ret
  exact ⟨rfl, (Below.refl _ _).alloc (Nat.le_refl _) _⟩
set_option maxRecDepth 100000 in
set_option maxHeartbeats 4000000 in
theorem behindLoop_any (sa : Option Addr) (n cap : Nat) (f : Nat → Cel) (w : World) (hn : n ≤ 60) (hr : CRow w w.heap.size sa n f) :
    Calls Try.prog 91 #[.slice sa n cap, .func (.func 93) #[] #[]] w fun e w' => ∃ b : Nat, e = .returned (.int .u64 (b : Int)) ∧ IsBits b (behind (fun i => (f i).o) n) ∧ Below w.heap.size w w' := by
  have HR : Hid (CRow w w.heap.size sa n f) := hr
  clear hr
  go_enter Try.func91, Try.ntmps91
  go_wp2_with fail
  go_loopw [5, 10] (fun ov i wr => ∃ k b : Nat, k ≤ n ∧ i = .int .i64 (k : Int) ∧ ov = .int .u64 (b : Int) ∧ IsBits b (behind (fun i => (f i).o) k) ∧ Below w.heap.size w wr) (fun _ i _ => n - (intOf i).toNat)
  case atStart => exact ⟨0, 0, Nat.zero_le _, rfl, rfl, behind_zero _, Below.refl _ _⟩
  case round =>
    obtain ⟨k, b, hk, rfl, rfl, hbits, hbel⟩ := hrel
    have HB : Hid (Below w.heap.size w wr) := hbel
    have HI : Hid (IsBits b (behind (fun i => (f i).o) k)) := hbits
    by_cases hkl : k < n
    · obtain ⟨bb, off, rfl, hbb, hat⟩ := HR.out.at hbel hkl
      obtain ⟨c0, c1, c2⟩ := hat
      have hki : (k : Int) < (n : Int) := by omega
      have hk0 : (0 : Int) ≤ (k : Int) := by omega
      obtain ⟨⟨ac, al, am⟩, ha⟩ : ∃ a, f k = a := ⟨_, rfl⟩
      have HF : Hid (f k = ⟨ac, al, am⟩) := ha
      rw [ha] at c0 c1 c2
      simp only at c0 c1 c2
      have C := fun W => isLoop_any ⟨ac, al, am⟩ W
      simp only at C
      have BX : Hid (Below w.heap.size w (wr.alloc (.cells #[.string ac, .bool al, .bool am] 85))) := HB.out.alloc HB.out.size _
      clear ha hbits hbel
      go_wp2_with fail
      generalize wr.alloc (.cells #[.string ac, .bool al, .bool am] 85) = v at *
      refine (C v).mono ?_
      rintro e w1 ⟨rfl, hb1⟩
      have B1 : Hid (Below w.heap.size w w1) := BX.out.trans (hb1.mono BX.out.size)
      clear hb1 C BX HB c0 c1 c2
      cases hq : am with
      | true =>
        have HI2 : Hid (IsBits (b ||| 2 ^ (k + 1)) (behind (fun i => (f i).o) (k + 1))) := behind_yes HI.out (by omega) (by show (f k).o = true; rw [HF.out]; exact hq)
        obtain ⟨r, hr⟩ : ∃ r, k + 1 = r := ⟨_, rfl⟩
        have hri : (k : Int) + 1 = (r : Int) := by omega
        have hr0 : (0 : Int) ≤ (r : Int) := by omega
        rw [hr] at HI2
        have hpw := wrap_powP (r := r) (by omega)
        have hor : bits .or .u64 (b : Int) ((2 ^ r : Nat) : Int) = ((b ||| 2 ^ r : Nat) : Int) := or64 HI.out.lt (pow_lt64 (by omega))
        generalize b ||| 2 ^ r = b2 at *
        generalize ((2 ^ r : Nat) : Int) = P at *
        clear hq
        go_wp2_with fail
        go_roundw
        case rel => exact ⟨k + 1, b2, by omega, by go_num, rfl, by rw [hr]; exact HI2.out, B1.out⟩
        case measure => simp [intOf]; omega
      | false =>
        have HI2 : Hid (IsBits b (behind (fun i => (f i).o) (k + 1))) := behind_no HI.out (by show (f k).o = false; rw [HF.out]; exact hq)
        clear hq
        go_wp2_with fail
        go_roundw
        case rel => exact ⟨k + 1, b, by omega, by go_num, rfl, HI2.out, B1.out⟩
        case measure => simp [intOf]; omega
    · have hki : ¬ (k : Int) < (n : Int) := by omega
      obtain rfl : k = n := by omega
      clear hbits hbel
      go_wp2_with fail
      go_ret
      exact ⟨b, rfl, HI.out, HB.out⟩
end Go.Proofs.Ytbdjjggaahjjpaa
