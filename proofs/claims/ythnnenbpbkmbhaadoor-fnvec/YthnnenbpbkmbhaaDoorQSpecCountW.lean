/- What is proved here: the specification's VecCount hands back the number of the bits that come; nothing that was there turns. -/
import Derived.Test.YthnnenbpbkmbhaaDoorQGetBWToFnVecM
namespace Go.Proofs.YthnnenbpbkmbhaaDoor
open Go.RowKit

open Classical in
set_option maxHeartbeats 2000000 in
theorem specCount_any (b : Int) (sa : Option Addr) (n ka : Nat) (f : Nat → Int) (L : List Int) (hL : Come b n f L) (w : World) (hn : n ≤ 1048576) (hr : Row w w.heap.size sa n f) :
    Calls Tryd.prog 31 #[.agg #[.int .i64 b, .slice sa n ka]] w fun e w' => e = .returned (.int .i64 ((L.length : Int))) ∧ Below w.heap.size w w' := by
  have HR : Hid (Row w w.heap.size sa n f) := hr
  have C1 := fun W h => specRight_any b sa n ka f W hn h
  by_cases h : Right b n f
  · rw [decide_eq_true h] at C1
    have R1 : Hid (∀ W, Row W W.heap.size sa n f → Calls Tryd.prog 33 #[.agg #[.int .i64 b, .slice sa n ka]] W fun e w' => e = .returned (.bool true) ∧ Below W.heap.size W w') := C1
    have HH : Hid (Right b n f) := h
    have HL : Hid (Come b n f L) := hL
    have hb0 := h.1
    have hb1 := h.2.1
    have GET : Hid (∀ (W : World) (k : Nat), Row W W.heap.size sa n f → (k : Int) < b → Calls Tryd.prog 71 #[.agg #[.int .i64 b, .slice sa n ka], .int .i64 (k : Int)] W fun e w' => e = .returned (.bool (bitOn f k)) ∧ Below W.heap.size W w') := fun W k hrow hk => by
      rw [← getB_on h k hk]
      exact l02Get_any b sa n ka (k / 32) (k % 32) f (k : Int) W hn hrow (by omega) (by omega) (by omega) (by have := h.2.2.1; omega)
    clear C1 h hL hr
    have q1 := boxing w 25 b sa n ka
    have S0 : Hid (Since w (w.alloc (.cells #[.int .i64 b, .slice sa n ka] 25))) := since_call (since_refl _) q1.1
    have X0 : Hid (Boxed (w.alloc (.cells #[.int .i64 b, .slice sa n ka] 25)) w.heap.size 25 b sa n ka) := q1.2.1
    clear q1
    go_enter Tryd.func31, Tryd.ntmps31
    go_wp2
    go_loopw [3, 4] (fun nv i wr => ∃ k : Nat, (k : Int) ≤ b ∧ i = .int .i64 (k : Int) ∧ Since w wr ∧ Boxed wr w.heap.size 25 b sa n ka ∧ nv = .int .i64 ((bitsL f k).length : Int)) (fun nv i _ => b.toNat - (intOf i).toNat)
    case atStart => exact ⟨0, by omega, rfl, S0.out, X0.out, by simp [bitsL_zero]⟩
    case round =>
      obtain ⟨k, hk, rfl, hS, hx, hbits⟩ := hrel
      subst hbits
      obtain ⟨c, hc⟩ : ∃ c, ((bitsL f k).length : Int) = c := ⟨_, rfl⟩
      have hc0 : 0 ≤ c := by omega
      have hc1 : c ≤ 320 := by have := bitsL_len f k; omega
      rw [hc]
      have HC : Hid (((bitsL f k).length : Int) = c) := hc
      clear hc
      have HS : Hid (Since w wr) := hS
      have HX : Hid (Boxed wr w.heap.size 25 b sa n ka) := hx
      obtain ⟨ca0, ca1⟩ := hx.cells
      have hk0 : (0 : Int) ≤ (k : Int) := by omega
      clear hS hx
      by_cases hkb : (k : Int) < b
      · go_wp2_with fail
        refine (R1.out _ (row_since HR.out HS.out)).mono ?_
        clear ca0 ca1
        rintro e w1 ⟨rfl, hb1'⟩
        have S1 : Hid (Since w w1) := since_call HS.out hb1'
        have X1 : Hid (Boxed w1 w.heap.size 25 b sa n ka) := HX.out.kept hb1' rfl
        obtain ⟨ca0, ca1⟩ := X1.out.cells
        clear hb1'
        go_wp2_with fail
        refine (GET.out _ k (row_since HR.out S1.out) hkb).mono ?_
        clear ca0 ca1
        rintro e w2 ⟨rfl, hb2⟩
        have S2 : Hid (Since w w2) := since_call S1.out hb2
        have X2 : Hid (Boxed w2 w.heap.size 25 b sa n ka) := X1.out.kept hb2 rfl
        obtain ⟨ca0, ca1⟩ := X2.out.cells
        clear hb2
        cases hbit : bitOn f k
        · have HO : Hid (bitOn f k = false) := hbit
          clear hbit
          go_wp2
          go_roundw
          case rel => exact ⟨k + 1, by omega, by go_num, S2.out, X2.out, by rw [bitsL_off HO.out]; rw [HC.out]⟩
          case measure => simp [intOf]; omega
        · have HO : Hid (bitOn f k = true) := hbit
          clear hbit
          go_wp2
          go_roundw
          case rel => exact ⟨k + 1, by omega, by go_num, S2.out, X2.out, by rw [bitsL_on HO.out, List.length_append, List.length_singleton, Int.natCast_add, HC.out]; rfl⟩
          case measure => simp [intOf]; omega
      · obtain rfl : (k : Int) = b := by omega
        go_wp2
        go_ret
        exact ⟨by rw [count_all HH.out HL.out, Int.toNat_natCast, HC.out]; rfl, HS.out.below⟩
  · rw [decide_eq_false h] at C1
    have R1 : Hid (∀ W, Row W W.heap.size sa n f → Calls Tryd.prog 33 #[.agg #[.int .i64 b, .slice sa n ka]] W fun e w' => e = .returned (.bool false) ∧ Below W.heap.size W w') := C1
    obtain rfl := hL.2 h
    clear C1 hL hr h
    have q1 := boxing w 25 b sa n ka
    have S0 : Hid (Since w (w.alloc (.cells #[.int .i64 b, .slice sa n ka] 25))) := since_call (since_refl _) q1.1
    have X0 : Hid (Boxed (w.alloc (.cells #[.int .i64 b, .slice sa n ka] 25)) w.heap.size 25 b sa n ka) := q1.2.1
    clear q1
    go_enter Tryd.func31, Tryd.ntmps31
    go_wp2
    go_loopw [3, 4] (fun nv i wr => i = .int .i64 0 ∧ Since w wr ∧ Boxed wr w.heap.size 25 b sa n ka ∧ nv = .int .i64 0) (fun _ _ _ => 0)
    case atStart => exact ⟨rfl, S0.out, X0.out, rfl⟩
    case round =>
      obtain ⟨rfl, hS, hx, rfl⟩ := hrel
      have HS : Hid (Since w wr) := hS
      obtain ⟨ca0, ca1⟩ := hx.cells
      clear hS hx
      by_cases hkb : 0 < b
      · go_wp2_with fail
        refine (R1.out _ (row_since HR.out HS.out)).mono ?_
        clear ca0 ca1
        rintro e w1 ⟨rfl, hb1'⟩
        have S1 : Hid (Since w w1) := since_call HS.out hb1'
        clear hb1'
        go_wp2
        go_ret
        exact ⟨rfl, S1.out.below⟩
      · go_wp2
        go_ret
        exact ⟨rfl, HS.out.below⟩
end Go.Proofs.YthnnenbpbkmbhaaDoor
