/- What is proved here: the specification's VecHigh hands back the last of the bits that come; nothing that was there turns. -/
import Derived.Test.YthnnenbpbkmbhaaDoorQGetBWToFnVecM
namespace Go.Proofs.YthnnenbpbkmbhaaDoor
open Go.RowKit

open Classical in
set_option maxHeartbeats 2000000 in
theorem specHigh_any (b : Int) (sa : Option Addr) (n ka : Nat) (f : Nat → Int) (L : List Int) (hL : Come b n f L) (w : World) (hn : n ≤ 1048576) (hr : Row w w.heap.size sa n f) :
    Calls Tryd.prog 29 #[.agg #[.int .i64 b, .slice sa n ka]] w fun e w' => e = .returned (.int .i64 (L.getLast?.getD (-1))) ∧ Below w.heap.size w w' := by
  have HR : Hid (Row w w.heap.size sa n f) := hr
  have C1 := fun W h => specRight_any b sa n ka f W hn h
  by_cases h : Right b n f
  · rw [decide_eq_true h] at C1
    have R1 : Hid (∀ W, Row W W.heap.size sa n f → Calls Tryd.prog 33 #[.agg #[.int .i64 b, .slice sa n ka]] W fun e w' => e = .returned (.bool true) ∧ Below W.heap.size W w') := C1
    have HH : Hid (Right b n f) := h
    have HL : Hid (Come b n f L) := hL
    have hb0 := h.1
    have hb1 := h.2.1
    have GET : Hid (∀ (W : World) (k : Nat), Row W W.heap.size sa n f → (k : Int) < b → Calls Tryd.prog 71 #[.agg #[.int .i64 b, .slice sa n ka], .int .i64 (k : Int)] W fun e w' => e = .returned (.bool (bitOn f k)) ∧ Below W.heap.size W w') := fun W k hrow hk => by
      rw [← getB_on h k hk]
      exact l02Get_any b sa n ka (k / 32) (k % 32) f (k : Int) W hn hrow (by omega) (by omega) (by omega) (by have := h.2.2.1; omega)
    clear C1 h hL hr
    go_enter Tryd.func29, Tryd.ntmps29
    go_wp2_with fail
    have q1 := boxing w 25 b sa n ka
    generalize w.alloc (.cells #[.int .i64 b, .slice sa n ka] 25) = v1 at *
    refine (R1.out _ (row_since HR.out (since_call (since_refl _) q1.1))).mono ?_
    rintro e w4 ⟨rfl, hb4⟩
    have S0 : Hid (Since w w4) := since_call (since_call (since_refl _) q1.1) hb4
    have X0 : Hid (Boxed w4 w.heap.size 25 b sa n ka) := q1.2.1.kept hb4 rfl
    obtain ⟨ca0, ca1⟩ := X0.out.cells
    clear hb4 q1
    go_wp2
    clear ca0 ca1
    go_loopw [3] (fun i wr => ∃ k : Nat, (k : Int) ≤ b ∧ i = .int .i64 ((k : Int) - 1) ∧ Since w wr ∧ Boxed wr w.heap.size 25 b sa n ka ∧ bitsL f b.toNat = bitsL f k) (fun i _ => (intOf i + 1).toNat)
    case atStart => exact ⟨b.toNat, by omega, by congr 1; omega, S0.out, X0.out, rfl⟩
    case round =>
      obtain ⟨k, hk, rfl, hS, hx, hbits⟩ := hrel
      have HBI : Hid (bitsL f b.toNat = bitsL f k) := hbits
      have HS : Hid (Since w wr) := hS
      have HX : Hid (Boxed wr w.heap.size 25 b sa n ka) := hx
      obtain ⟨ca0, ca1⟩ := hx.cells
      clear hS hx hbits
      cases k with
      | zero =>
        go_wp2
        go_ret
        exact ⟨by rw [high_none HH.out HL.out HBI.out]; rfl, HS.out.below⟩
      | succ j =>
        have e1 : (((j + 1 : Nat) : Int) - 1) = (j : Int) := by omega
        rw [e1]
        have hj0 : (0 : Int) ≤ (j : Int) := by omega
        have hjb : (j : Int) < b := by omega
        clear e1 hk
        go_wp2_with fail
        refine (GET.out _ j (row_since HR.out HS.out) hjb).mono ?_
        clear ca0 ca1
        rintro e w2 ⟨rfl, hb2⟩
        have S2 : Hid (Since w w2) := since_call HS.out hb2
        have X2 : Hid (Boxed w2 w.heap.size 25 b sa n ka) := HX.out.kept hb2 rfl
        obtain ⟨ca0, ca1⟩ := X2.out.cells
        clear hb2
        cases hbit : bitOn f j
        · have HO : Hid (bitOn f j = false) := hbit
          clear hbit
          go_wp2
          go_roundw
          case rel => exact ⟨j, by omega, rfl, S2.out, X2.out, by rw [HBI.out, bitsL_off HO.out]⟩
          case measure => simp [intOf]
        · have HO : Hid (bitOn f j = true) := hbit
          clear hbit
          go_wp2
          go_ret
          exact ⟨by rw [high_found HH.out HL.out HO.out HBI.out]; rfl, S2.out.below⟩
  · rw [decide_eq_false h] at C1
    have R1 : Hid (∀ W, Row W W.heap.size sa n f → Calls Tryd.prog 33 #[.agg #[.int .i64 b, .slice sa n ka]] W fun e w' => e = .returned (.bool false) ∧ Below W.heap.size W w') := C1
    obtain rfl := hL.2 h
    clear C1 hL hr h
    go_enter Tryd.func29, Tryd.ntmps29
    go_wp2_with fail
    have q1 := boxing w 25 b sa n ka
    generalize w.alloc (.cells #[.int .i64 b, .slice sa n ka] 25) = v1 at *
    refine (R1.out _ (row_since HR.out (since_call (since_refl _) q1.1))).mono ?_
    rintro e w4 ⟨rfl, hb4⟩
    have S0 : Hid (Since w w4) := since_call (since_call (since_refl _) q1.1) hb4
    clear hb4 q1
    go_wp2
    go_ret
    exact ⟨rfl, S0.out.below⟩
end Go.Proofs.YthnnenbpbkmbhaaDoor
