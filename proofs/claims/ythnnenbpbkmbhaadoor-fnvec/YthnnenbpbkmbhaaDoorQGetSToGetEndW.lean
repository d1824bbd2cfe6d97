/- What is proved here: the specification's l02Get says whether a bit of a word is on; nothing that was there turns.
   What is proved here: the program's hasBit says whether a right vector has a bit; nothing that was there turns.
   What is proved here: VecGet, the program's and the specification's, says whether a bit of a right vector is on; nothing that was there turns. -/
import Derived.Test.YthnnenbpbkmbhaaDoorQVecSpecWToWordsForW
import Derived.Test.YthnnenbpbkmbhaaDoorQGetBWToFnVecM
import Derived.Test.YthnnenbpbkmbhaaDoorQImplRightWToVecM
namespace Go.Proofs.YthnnenbpbkmbhaaDoor
open Go.RowKit

/-- A bit that a right vector has. -/
def HasBit (b : Int) (n : Nat) (f : Nat → Int) (i : Int) : Prop := Right b n f ∧ 0 ≤ i ∧ i < b
theorem bit_place {b : Int} {n : Nat} {f : Nat → Int} {i : Int} (h : HasBit b n f i) : ∃ k q : Nat, i / 32 = (k : Int) ∧ i % 32 = (q : Int) ∧ k < n ∧ q < 32 ∧ (i / 32).toNat = k ∧ (i % 32).toNat = q := by
  obtain ⟨h1, h2, h3⟩ := h
  have h4 := h1.2.2.1
  exact ⟨(i / 32).toNat, (i % 32).toNat, by omega, by omega, by omega, by omega, rfl, rfl⟩

end Go.Proofs.YthnnenbpbkmbhaaDoor
namespace Go.Proofs.YthnnenbpbkmbhaaDoor
open Go.RowKit

open Classical in
set_option maxHeartbeats 1000000 in
theorem hasBit_any (b : Int) (sa : Option Addr) (n ka : Nat) (f : Nat → Int) (i : Int) (w : World) (hn : n ≤ 1048576) (hr : Row w w.heap.size sa n f) :
    Calls Tryd.prog 53 #[.agg #[.int .i64 b, .slice sa n ka], .int .i64 i] w fun e w' => e = .returned (.bool (decide (HasBit b n f i))) ∧ Below w.heap.size w w' := by
  have HR : Hid (Row w w.heap.size sa n f) := hr
  have C1 := fun W h => implRight_any b sa n ka f W hn h
  by_cases h : Right b n f
  · rw [decide_eq_true h] at C1
    have R1 : Hid (∀ W, Row W W.heap.size sa n f → Calls Tryd.prog 32 #[.agg #[.int .i64 b, .slice sa n ka]] W fun e w' => e = .returned (.bool true) ∧ Below W.heap.size W w') := C1
    clear C1 hr
    have e0 : decide (HasBit b n f i) = (decide (0 ≤ i) && decide (i < b)) := by unfold HasBit; simp [h]
    rw [e0]
    clear e0
    have HH : Hid (Right b n f) := h
    clear h
    by_cases hi : 0 ≤ i
    · go_enter Tryd.func53, Tryd.ntmps53
      go_wp2_with fail
      have q1 := boxing w 25 b sa n ka
      generalize w.alloc (.cells #[.int .i64 b, .slice sa n ka] 25) = v1 at *
      refine (R1.out _ (row_since HR.out (since_call (since_refl _) q1.1))).mono ?_
      rintro e w4 ⟨rfl, hb4⟩
      obtain ⟨ca0, ca1⟩ := (q1.2.1.kept hb4 rfl).cells
      have S4 : Hid (Since w w4) := since_call (since_call (since_refl _) q1.1) hb4
      clear hb4 q1
      go_wp2
      go_ret
      exact ⟨by simp [hi], S4.out.below⟩
    · go_enter Tryd.func53, Tryd.ntmps53
      go_wp2_with fail
      have q1 := boxing w 25 b sa n ka
      generalize w.alloc (.cells #[.int .i64 b, .slice sa n ka] 25) = v1 at *
      refine (R1.out _ (row_since HR.out (since_call (since_refl _) q1.1))).mono ?_
      rintro e w4 ⟨rfl, hb4⟩
      obtain ⟨ca0, ca1⟩ := (q1.2.1.kept hb4 rfl).cells
      have S4 : Hid (Since w w4) := since_call (since_call (since_refl _) q1.1) hb4
      clear hb4 q1
      go_wp2
      go_ret
      exact ⟨by simp; omega, S4.out.below⟩
  · rw [decide_eq_false h] at C1
    have R1 : Hid (∀ W, Row W W.heap.size sa n f → Calls Tryd.prog 32 #[.agg #[.int .i64 b, .slice sa n ka]] W fun e w' => e = .returned (.bool false) ∧ Below W.heap.size W w') := C1
    clear C1 hr
    have e0 : decide (HasBit b n f i) = false := by unfold HasBit; simp [h]
    rw [e0]
    clear e0 h
    go_enter Tryd.func53, Tryd.ntmps53
    go_wp2_with fail
    have q1 := boxing w 25 b sa n ka
    generalize w.alloc (.cells #[.int .i64 b, .slice sa n ka] 25) = v1 at *
    refine (R1.out _ (row_since HR.out (since_call (since_refl _) q1.1))).mono ?_
    rintro e w4 ⟨rfl, hb4⟩
    have S4 : Hid (Since w w4) := since_call (since_call (since_refl _) q1.1) hb4
    clear hb4 q1
    go_wp2
    go_ret
    exact ⟨rfl, S4.out.below⟩
end Go.Proofs.YthnnenbpbkmbhaaDoor
namespace Go.Proofs.YthnnenbpbkmbhaaDoor
open Go.RowKit

/-- What VecGet says. -/
def GotB (b : Int) (n : Nat) (f : Nat → Int) (i : Int) (r : Bool) : Prop := (HasBit b n f i → r = getB (f (i / 32).toNat) (i % 32).toNat) ∧ (¬ HasBit b n f i → r = false)
theorem got_some (b : Int) (n : Nat) (f : Nat → Int) (i : Int) : ∃ r, GotB b n f i r := by
  by_cases h : HasBit b n f i
  · exact ⟨_, fun _ => rfl, fun h2 => absurd h h2⟩
  · exact ⟨false, fun h2 => absurd h2 h, fun _ => rfl⟩

open Classical in
set_option maxHeartbeats 1000000 in
theorem implGet_any (b : Int) (sa : Option Addr) (n ka : Nat) (f : Nat → Int) (i : Int) (r : Bool) (w : World) (hn : n ≤ 1048576) (hr : Row w w.heap.size sa n f) (hgot : GotB b n f i r) :
    Calls Tryd.prog 34 #[.agg #[.int .i64 b, .slice sa n ka], .int .i64 i] w fun e w' => e = .returned (.bool r) ∧ Below w.heap.size w w' := by
  have HR : Hid (Row w w.heap.size sa n f) := hr
  have C1 := fun W h => hasBit_any b sa n ka f i W hn h
  by_cases h : HasBit b n f i
  · rw [decide_eq_true h] at C1
    have R1 : Hid (∀ W, Row W W.heap.size sa n f → Calls Tryd.prog 53 #[.agg #[.int .i64 b, .slice sa n ka], .int .i64 i] W fun e w' => e = .returned (.bool true) ∧ Below W.heap.size W w') := C1
    obtain ⟨k, q, e1, e2, hk, hq, e3, e4⟩ := bit_place h
    have e0 : r = getB (f k) q := by rw [hgot.1 h, e3, e4]
    rw [e0]
    have hi := h.2.1
    clear C1 e0 e3 e4 h hgot
    obtain ⟨bb, off, rfl, hbb, hca⟩ : ∃ bb off : Nat, sa = some ⟨bb, off, none⟩ ∧ bb < w.heap.size ∧ ∀ i, i < n → w.cell? ⟨bb, off + i, none⟩ = some (.int .i64 (f i)) := by
      rcases hr with h | h
      · omega
      · exact h
    have CZ : Hid (w.cell? ⟨bb, off + k, none⟩ = some (.int .i64 (f k))) := hca k hk
    clear hca hr
    have hki : (k : Int) < (n : Int) := by omega
    have hk0 : (0 : Int) ≤ (k : Int) := by omega
    have hq0 : (0 : Int) ≤ (q : Int) := by omega
    have hq1 : (q : Int) < 32 := by omega
    go_enter Tryd.func34, Tryd.ntmps34
    go_wp2_with fail
    have q1 := boxing w 25 b (some ⟨bb, off, none⟩) n ka
    generalize w.alloc (.cells #[.int .i64 b, .slice (some ⟨bb, off, none⟩) n ka] 25) = v1 at *
    refine (R1.out _ (row_since HR.out (since_call (since_refl _) q1.1))).mono ?_
    rintro e w4 ⟨rfl, hb4⟩
    obtain ⟨ca0, ca1⟩ := (q1.2.1.kept hb4 rfl).cells
    have S4 : Hid (Since w w4) := since_call (since_call (since_refl _) q1.1) hb4
    have cz : w4.cell? ⟨bb, off + k, none⟩ = some (.int .i64 (f k)) := by rw [S4.out.below.cell (p := ⟨bb, off + k, none⟩) hbb]; exact CZ.out
    clear hb4 q1
    go_wp2
    go_ret
    exact ⟨rfl, S4.out.below⟩
  · rw [decide_eq_false h] at C1
    have R1 : Hid (∀ W, Row W W.heap.size sa n f → Calls Tryd.prog 53 #[.agg #[.int .i64 b, .slice sa n ka], .int .i64 i] W fun e w' => e = .returned (.bool false) ∧ Below W.heap.size W w') := C1
    have e0 : r = false := hgot.2 h
    rw [e0]
    clear C1 e0 h hr hgot
    go_enter Tryd.func34, Tryd.ntmps34
    go_wp2_with fail
    have q1 := boxing w 25 b sa n ka
    generalize w.alloc (.cells #[.int .i64 b, .slice sa n ka] 25) = v1 at *
    refine (R1.out _ (row_since HR.out (since_call (since_refl _) q1.1))).mono ?_
    rintro e w4 ⟨rfl, hb4⟩
    have S4 : Hid (Since w w4) := since_call (since_call (since_refl _) q1.1) hb4
    clear hb4 q1
    go_wp2
    go_ret
    exact ⟨rfl, S4.out.below⟩

open Classical in
set_option maxHeartbeats 1000000 in
theorem specGet_any (b : Int) (sa : Option Addr) (n ka : Nat) (f : Nat → Int) (i : Int) (r : Bool) (w : World) (hn : n ≤ 1048576) (hr : Row w w.heap.size sa n f) (hgot : GotB b n f i r) :
    Calls Tryd.prog 35 #[.agg #[.int .i64 b, .slice sa n ka], .int .i64 i] w fun e w' => e = .returned (.bool r) ∧ Below w.heap.size w w' := by
  have HR : Hid (Row w w.heap.size sa n f) := hr
  have C1 := fun W h => specRight_any b sa n ka f W hn h
  by_cases h : Right b n f
  · rw [decide_eq_true h] at C1
    have R1 : Hid (∀ W, Row W W.heap.size sa n f → Calls Tryd.prog 33 #[.agg #[.int .i64 b, .slice sa n ka]] W fun e w' => e = .returned (.bool true) ∧ Below W.heap.size W w') := C1
    have hb0 := h.1
    have hb1 := h.2.1
    by_cases hi : HasBit b n f i
    · obtain ⟨k, q, e1, e2, hk, hq, e3, e4⟩ := bit_place hi
      have e0 : r = getB (f k) q := by rw [hgot.1 hi, e3, e4]
      rw [e0]
      have HK : Hid (0 ≤ i ∧ i / 32 = (k : Int) ∧ i % 32 = (q : Int) ∧ i ≤ b - 1) := ⟨hi.2.1, e1, e2, by have := hi.2.2; omega⟩
      clear C1 e0 e1 e2 e3 e4 h hi hr hgot
      go_enter Tryd.func35, Tryd.ntmps35
      go_wp2_with fail
      have q1 := boxing w 25 b sa n ka
      generalize w.alloc (.cells #[.int .i64 b, .slice sa n ka] 25) = v1 at *
      refine (R1.out _ (row_since HR.out (since_call (since_refl _) q1.1))).mono ?_
      rintro e w4 ⟨rfl, hb4⟩
      obtain ⟨ca0, ca1⟩ := (q1.2.1.kept hb4 rfl).cells
      have S4 : Hid (Since w w4) := since_call (since_call (since_refl _) q1.1) hb4
      clear hb4 q1
      go_wp2_with fail
      refine (is_yes _ _ _ _ HK.out.1 HK.out.2.2.2).mono ?_
      rintro e w5 ⟨rfl, hw⟩
      subst hw
      go_wp2_with fail
      refine (l02Get_any b sa n ka k q f i _ hn (row_since HR.out S4.out) HK.out.1 HK.out.2.1 HK.out.2.2.1 hk).mono ?_
      rintro e w6 ⟨rfl, hb6⟩
      have S6 : Hid (Since w w6) := since_call S4.out hb6
      clear hb6 ca0 ca1
      go_wp2
      go_ret
      exact ⟨rfl, S6.out.below⟩
    · have e0 : r = false := hgot.2 hi
      rw [e0]
      have HK : Hid (¬ (0 ≤ i ∧ i ≤ b - 1)) := fun h2 => hi ⟨h, h2.1, by omega⟩
      clear C1 e0 h hi hr hgot
      go_enter Tryd.func35, Tryd.ntmps35
      go_wp2_with fail
      have q1 := boxing w 25 b sa n ka
      generalize w.alloc (.cells #[.int .i64 b, .slice sa n ka] 25) = v1 at *
      refine (R1.out _ (row_since HR.out (since_call (since_refl _) q1.1))).mono ?_
      rintro e w4 ⟨rfl, hb4⟩
      obtain ⟨ca0, ca1⟩ := (q1.2.1.kept hb4 rfl).cells
      have S4 : Hid (Since w w4) := since_call (since_call (since_refl _) q1.1) hb4
      clear hb4 q1
      go_wp2_with fail
      refine (is_no _ _ _ _ HK.out).mono ?_
      rintro e w5 ⟨rfl, hw⟩
      subst hw
      go_wp2
      go_ret
      exact ⟨rfl, S4.out.below⟩
  · rw [decide_eq_false h] at C1
    have R1 : Hid (∀ W, Row W W.heap.size sa n f → Calls Tryd.prog 33 #[.agg #[.int .i64 b, .slice sa n ka]] W fun e w' => e = .returned (.bool false) ∧ Below W.heap.size W w') := C1
    have e0 : r = false := hgot.2 (fun h2 => h h2.1)
    rw [e0]
    clear C1 e0 h hr hgot
    go_enter Tryd.func35, Tryd.ntmps35
    go_wp2_with fail
    have q1 := boxing w 25 b sa n ka
    generalize w.alloc (.cells #[.int .i64 b, .slice sa n ka] 25) = v1 at *
    refine (R1.out _ (row_since HR.out (since_call (since_refl _) q1.1))).mono ?_
    rintro e w4 ⟨rfl, hb4⟩
    have S4 : Hid (Since w w4) := since_call (since_call (since_refl _) q1.1) hb4
    clear hb4 q1
    go_wp2
    go_ret
    exact ⟨rfl, S4.out.below⟩
end Go.Proofs.YthnnenbpbkmbhaaDoor
