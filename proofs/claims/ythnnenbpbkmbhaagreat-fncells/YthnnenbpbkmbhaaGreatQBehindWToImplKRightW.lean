/- What is proved here: the places behind the cells that may be passed by, or passed again, as the program reckons them; nothing that was there turns.
   What is proved here: the program's CellsRight says whether a row of cells is right; nothing that was there turns. -/
import Derived.Test.YthnnenbpbkmbhaaGreatQCellMToFitKM
import Derived.Test.YthnnenbpbkmbhaaGreatQCellDToCopy3W
import Derived.WalkKit
import Derived.Below
import Derived.Test.YthnnenbpbkmbhaaGreatQImplCRightWToImplPYesW
import Derived.Deep.RegionWith
namespace Go.Proofs.YthnnenbpbkmbhaaGreat
open Go.RowKit

theorem wrap_powP {r : Nat} (h : r < 64) : IntKind.u64.wrap (2 ^ r) = ((2 ^ r : Nat) : Int) := by
  have := pow_lt64 h
  rw [wraps_u64s _ (Int.pow_nonneg (by decide)) (by exact_mod_cast this)]
  simp
theorem isSkip_any (a : Cel) (w : World) :
    Calls Tryz.prog 100 #[.agg #[.string a.c, .bool a.k, .bool a.o]] w fun e w' => e = .returned (.bool a.k) ∧ Below w.heap.size w w' := by
  go_enter Tryz.func100, Tryz.ntmps100
  go_wp2
  go_ret
  exact ⟨rfl, (Below.refl _ _).alloc (Nat.le_refl _) _⟩
set_option maxRecDepth 100000 in
set_option maxHeartbeats 4000000 in
theorem behindSkip_any (sa : Option Addr) (n cap : Nat) (f : Nat → Cel) (w : World) (hn : n ≤ 60) (hr : CRow w w.heap.size sa n f) :
    Calls Tryz.prog 99 #[.slice sa n cap, .func (.func 100) #[] #[]] w fun e w' => ∃ b : Nat, e = .returned (.int .u64 (b : Int)) ∧ IsBits b (behind (fun i => (f i).k) n) ∧ Below w.heap.size w w' := by
  have HR : Hid (CRow w w.heap.size sa n f) := hr
  clear hr
  go_enter Tryz.func99, Tryz.ntmps99
  go_wp2_with fail
  go_loopw [5, 10] (fun ov i wr => ∃ k b : Nat, k ≤ n ∧ i = .int .i64 (k : Int) ∧ ov = .int .u64 (b : Int) ∧ IsBits b (behind (fun i => (f i).k) k) ∧ Below w.heap.size w wr) (fun _ i _ => n - (intOf i).toNat)
  case atStart => exact ⟨0, 0, Nat.zero_le _, rfl, rfl, behind_zero _, Below.refl _ _⟩
  case round =>
    obtain ⟨k, b, hk, rfl, rfl, hbits, hbel⟩ := hrel
    have HB : Hid (Below w.heap.size w wr) := hbel
    have HI : Hid (IsBits b (behind (fun i => (f i).k) k)) := hbits
    by_cases hkl : k < n
    · obtain ⟨bb, off, rfl, hbb, hat⟩ := HR.out.at hbel hkl
      obtain ⟨c0, c1, c2⟩ := hat
      have hki : (k : Int) < (n : Int) := by omega
      have hk0 : (0 : Int) ≤ (k : Int) := by omega
      obtain ⟨⟨ac, al, am⟩, ha⟩ : ∃ a, f k = a := ⟨_, rfl⟩
      have HF : Hid (f k = ⟨ac, al, am⟩) := ha
      rw [ha] at c0 c1 c2
      simp only at c0 c1 c2
      have C := fun W => isSkip_any ⟨ac, al, am⟩ W
      simp only at C
      have BX : Hid (Below w.heap.size w (wr.alloc (.cells #[.string ac, .bool al, .bool am] 95))) := HB.out.alloc HB.out.size _
      clear ha hbits hbel
      go_wp2_with fail
      generalize wr.alloc (.cells #[.string ac, .bool al, .bool am] 95) = v at *
      refine (C v).mono ?_
      rintro e w1 ⟨rfl, hb1⟩
      have B1 : Hid (Below w.heap.size w w1) := BX.out.trans (hb1.mono BX.out.size)
      clear hb1 C BX HB c0 c1 c2
      cases hq : al with
      | true =>
        have HI2 : Hid (IsBits (b ||| 2 ^ (k + 1)) (behind (fun i => (f i).k) (k + 1))) := behind_yes HI.out (by omega) (by show (f k).k = true; rw [HF.out]; exact hq)
        obtain ⟨r, hr⟩ : ∃ r, k + 1 = r := ⟨_, rfl⟩
        have hri : (k : Int) + 1 = (r : Int) := by omega
        have hr0 : (0 : Int) ≤ (r : Int) := by omega
        rw [hr] at HI2
        have hpw := wrap_powP (r := r) (by omega)
        have hor : bits .or .u64 (b : Int) ((2 ^ r : Nat) : Int) = ((b ||| 2 ^ r : Nat) : Int) := or64 HI.out.lt (pow_lt64 (by omega))
        generalize b ||| 2 ^ r = b2 at *
        generalize ((2 ^ r : Nat) : Int) = P at *
        clear hq
        go_wp2_with fail
        go_roundw
        case rel => exact ⟨k + 1, b2, by omega, by go_num, rfl, by rw [hr]; exact HI2.out, B1.out⟩
        case measure => simp [intOf]; omega
      | false =>
        have HI2 : Hid (IsBits b (behind (fun i => (f i).k) (k + 1))) := behind_no HI.out (by show (f k).k = false; rw [HF.out]; exact hq)
        clear hq
        go_wp2_with fail
        go_roundw
        case rel => exact ⟨k + 1, b, by omega, by go_num, rfl, HI2.out, B1.out⟩
        case measure => simp [intOf]; omega
    · have hki : ¬ (k : Int) < (n : Int) := by omega
      obtain rfl : k = n := by omega
      clear hbits hbel
      go_wp2_with fail
      go_ret
      exact ⟨b, rfl, HI.out, HB.out⟩
theorem isLoop_any (a : Cel) (w : World) :
    Calls Tryz.prog 101 #[.agg #[.string a.c, .bool a.k, .bool a.o]] w fun e w' => e = .returned (.bool a.o) ∧ Below w.heap.size w w' := by
  go_enter Tryz.func101, Tryz.ntmps101
  go_wp2
  go_ret
  exact ⟨rfl, (Below.refl _ _).alloc (Nat.le_refl _) _⟩
set_option maxRecDepth 100000 in
set_option maxHeartbeats 4000000 in
theorem behindLoop_any (sa : Option Addr) (n cap : Nat) (f : Nat → Cel) (w : World) (hn : n ≤ 60) (hr : CRow w w.heap.size sa n f) :
    Calls Tryz.prog 99 #[.slice sa n cap, .func (.func 101) #[] #[]] w fun e w' => ∃ b : Nat, e = .returned (.int .u64 (b : Int)) ∧ IsBits b (behind (fun i => (f i).o) n) ∧ Below w.heap.size w w' := by
  have HR : Hid (CRow w w.heap.size sa n f) := hr
  clear hr
  go_enter Tryz.func99, Tryz.ntmps99
  go_wp2_with fail
  go_loopw [5, 10] (fun ov i wr => ∃ k b : Nat, k ≤ n ∧ i = .int .i64 (k : Int) ∧ ov = .int .u64 (b : Int) ∧ IsBits b (behind (fun i => (f i).o) k) ∧ Below w.heap.size w wr) (fun _ i _ => n - (intOf i).toNat)
  case atStart => exact ⟨0, 0, Nat.zero_le _, rfl, rfl, behind_zero _, Below.refl _ _⟩
  case round =>
    obtain ⟨k, b, hk, rfl, rfl, hbits, hbel⟩ := hrel
    have HB : Hid (Below w.heap.size w wr) := hbel
    have HI : Hid (IsBits b (behind (fun i => (f i).o) k)) := hbits
    by_cases hkl : k < n
    · obtain ⟨bb, off, rfl, hbb, hat⟩ := HR.out.at hbel hkl
      obtain ⟨c0, c1, c2⟩ := hat
      have hki : (k : Int) < (n : Int) := by omega
      have hk0 : (0 : Int) ≤ (k : Int) := by omega
      obtain ⟨⟨ac, al, am⟩, ha⟩ : ∃ a, f k = a := ⟨_, rfl⟩
      have HF : Hid (f k = ⟨ac, al, am⟩) := ha
      rw [ha] at c0 c1 c2
      simp only at c0 c1 c2
      have C := fun W => isLoop_any ⟨ac, al, am⟩ W
      simp only at C
      have BX : Hid (Below w.heap.size w (wr.alloc (.cells #[.string ac, .bool al, .bool am] 95))) := HB.out.alloc HB.out.size _
      clear ha hbits hbel
      go_wp2_with fail
      generalize wr.alloc (.cells #[.string ac, .bool al, .bool am] 95) = v at *
      refine (C v).mono ?_
      rintro e w1 ⟨rfl, hb1⟩
      have B1 : Hid (Below w.heap.size w w1) := BX.out.trans (hb1.mono BX.out.size)
      clear hb1 C BX HB c0 c1 c2
      cases hq : am with
      | true =>
        have HI2 : Hid (IsBits (b ||| 2 ^ (k + 1)) (behind (fun i => (f i).o) (k + 1))) := behind_yes HI.out (by omega) (by show (f k).o = true; rw [HF.out]; exact hq)
        obtain ⟨r, hr⟩ : ∃ r, k + 1 = r := ⟨_, rfl⟩
        have hri : (k : Int) + 1 = (r : Int) := by omega
        have hr0 : (0 : Int) ≤ (r : Int) := by omega
        rw [hr] at HI2
        have hpw := wrap_powP (r := r) (by omega)
        have hor : bits .or .u64 (b : Int) ((2 ^ r : Nat) : Int) = ((b ||| 2 ^ r : Nat) : Int) := or64 HI.out.lt (pow_lt64 (by omega))
        generalize b ||| 2 ^ r = b2 at *
        generalize ((2 ^ r : Nat) : Int) = P at *
        clear hq
        go_wp2_with fail
        go_roundw
        case rel => exact ⟨k + 1, b2, by omega, by go_num, rfl, by rw [hr]; exact HI2.out, B1.out⟩
        case measure => simp [intOf]; omega
      | false =>
        have HI2 : Hid (IsBits b (behind (fun i => (f i).o) (k + 1))) := behind_no HI.out (by show (f k).o = false; rw [HF.out]; exact hq)
        clear hq
        go_wp2_with fail
        go_roundw
        case rel => exact ⟨k + 1, b, by omega, by go_num, rfl, HI2.out, B1.out⟩
        case measure => simp [intOf]; omega
    · have hki : ¬ (k : Int) < (n : Int) := by omega
      obtain rfl : k = n := by omega
      clear hbits hbel
      go_wp2_with fail
      go_ret
      exact ⟨b, rfl, HI.out, HB.out⟩
end Go.Proofs.YthnnenbpbkmbhaaGreat
namespace Go.Proofs.YthnnenbpbkmbhaaGreat
open Go.RowKit

open Classical in
theorem implRightK_yes (t : ByteArray) (w : World) (hs : t.size ≤ maxLen) (h : RightC t) :
    Calls Tryz.prog 65 #[.string t] w fun e w' => e = .returned (.bool true) ∧ Below w.heap.size w w' := by
  refine (implRightC_any t w hs).mono ?_
  rintro e w' ⟨rfl, hb⟩
  exact ⟨by rw [decide_eq_true h], hb⟩
open Classical in
theorem implRightK_no (t : ByteArray) (w : World) (hs : t.size ≤ maxLen) (h : ¬ RightC t) :
    Calls Tryz.prog 65 #[.string t] w fun e w' => e = .returned (.bool false) ∧ Below w.heap.size w w' := by
  refine (implRightC_any t w hs).mono ?_
  rintro e w' ⟨rfl, hb⟩
  exact ⟨by rw [decide_eq_false h], hb⟩

open Classical in
set_option maxRecDepth 100000 in
set_option maxHeartbeats 4000000 in
theorem implKRight_any (sa : Option Addr) (n cap : Nat) (f : Nat → Cel) (w : World) (hn : n ≤ maxLen) (hr : CRow w w.heap.size sa n f) (hc : ∀ i, i < n → (f i).c.size ≤ maxLen) :
    Calls Tryz.prog 24 #[.slice sa n cap] w fun e w' => e = .returned (.bool (decide (CellsOk n f))) ∧ Below w.heap.size w w' := by
  unfold maxLen at hn
  have HC : Hid (∀ i, i < n → (f i).c.size ≤ maxLen) := hc
  have HR : Hid (CRow w w.heap.size sa n f) := hr
  clear hc hr
  by_cases h1 : (n : Int) < 1
  · rw [decide_eq_false (fun h : CellsOk n f => by have := h.1; omega)]
    go_enter Tryz.func24, Tryz.ntmps24
    go_wp2
    go_ret
    exact ⟨rfl, Below.refl _ _⟩
  by_cases h2 : 60 < (n : Int)
  · rw [decide_eq_false (fun h : CellsOk n f => by have := h.2.1; omega)]
    go_enter Tryz.func24, Tryz.ntmps24
    go_wp2
    go_ret
    exact ⟨rfl, Below.refl _ _⟩
  go_enter Tryz.func24, Tryz.ntmps24
  go_wp2
  go_loopw [15] (fun i wr => ∃ k : Nat, k ≤ n ∧ i = .int .i64 (k : Int) ∧ Below w.heap.size w wr ∧ ∀ i, i < k → CellOk (f i)) (fun i _ => n - (intOf i).toNat)
  case atStart => exact ⟨0, Nat.zero_le _, rfl, Below.refl _ _, fun i hi => by omega⟩
  case round =>
    obtain ⟨k, hk, rfl, hbel, hall⟩ := hrel
    have HB : Hid (Below w.heap.size w wr) := hbel
    have HA : Hid (∀ i, i < k → CellOk (f i)) := hall
    clear hall
    by_cases hkl : k < n
    · obtain ⟨bb, off, rfl, hbb, hat⟩ := HR.out.at hbel hkl
      obtain ⟨c0, c1, c2⟩ := hat
      have HK : Hid ((f k).c.size ≤ maxLen) := HC.out k hkl
      clear hbel
      have hki : (k : Int) < (n : Int) := by omega
      have hk0 : (0 : Int) ≤ (k : Int) := by omega
      obtain ⟨⟨ac, al, am⟩, ha⟩ : ∃ a, f k = a := ⟨_, rfl⟩
      have HF : Hid (f k = ⟨ac, al, am⟩) := ha
      rw [ha] at c0 c1 c2 HK
      simp only at c0 c1 c2 HK
      clear ha
      have bx := CBox.new wr ⟨ac, al, am⟩ 95
      simp only at bx
      have BX : Hid (Below w.heap.size w (wr.alloc (.cells #[.string ac, .bool al, .bool am] 95))) := HB.out.alloc HB.out.size _
      have BAD : Hid (¬ CellOk ⟨ac, al, am⟩ → ¬ CellsOk n f) := fun h hp => h (by rw [← HF.out]; exact hp.2.2 k hkl)
      by_cases hce : 0 < ac.size
      · obtain ⟨hq1, hq2⟩ := someC hce
        go_wp2_with fail
        generalize wr.alloc (.cells #[.string ac, .bool al, .bool am] 95) = v at *
        generalize wr.heap.size = p at *
        clear HB c0 c1 c2
        by_cases hcr : RightC ac
        · have HAR : Hid (CellOk ⟨ac, al, am⟩) := ⟨hcr, hce⟩
          refine (implRightK_yes ac _ HK.out hcr).mono ?_
          rintro e w1 ⟨rfl, hb1⟩
          have B1 : Hid (Below w.heap.size w w1) := BX.out.trans (hb1.mono BX.out.size)
          clear hb1 bx BX hcr
          go_wp2_with fail
          go_roundw
          case rel => exact ⟨k + 1, by omega, by go_num, B1.out, stepCell HA.out (by rw [HF.out]; exact HAR.out)⟩
          case measure => simp [intOf]; omega
        · have HBAD : Hid (¬ CellsOk n f) := BAD.out (fun h => hcr h.1)
          refine (implRightK_no ac _ HK.out hcr).mono ?_
          rintro e w1 ⟨rfl, hb1⟩
          have B1 : Hid (Below w.heap.size w w1) := BX.out.trans (hb1.mono BX.out.size)
          clear hcr hb1 bx BX
          go_wp2_with fail
          go_ret
          exact ⟨by rw [decide_eq_false HBAD.out]; rfl, B1.out⟩
      · obtain ⟨hq1, hq2⟩ := noneC hce
        have HBAD : Hid (¬ CellsOk n f) := BAD.out (fun h => hce h.2)
        go_wp2_with fail
        go_ret
        exact ⟨by rw [decide_eq_false HBAD.out]; rfl, BX.out⟩
    · have hki : ¬ (k : Int) < (n : Int) := by omega
      obtain rfl : k = n := by omega
      clear hbel
      have HE : Hid (CellsOk k f) := ⟨by omega, by omega, HA.out⟩
      go_wp2
      go_ret
      exact ⟨by rw [decide_eq_true HE.out]; rfl, HB.out⟩
end Go.Proofs.YthnnenbpbkmbhaaGreat
