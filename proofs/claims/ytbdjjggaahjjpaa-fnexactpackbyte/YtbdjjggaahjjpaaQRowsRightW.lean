/- What is proved here: the program's ContainsFunc says whether one of some rows is not right; nothing that was there turns. -/
import Derived.Test.YtbdjjggaahjjpaaQCCRowMToRowsD
import Derived.Test.YtbdjjggaahjjpaaQCellMToCloM
namespace Go.Proofs.Ytbdjjggaahjjpaa
open Go.RowKit

set_option maxHeartbeats 1000000 in
theorem notRightC_any (s : Option Addr) (n c : Nat) (r : Bool) (w : World) (hC : Calls Try.prog 70 #[.slice s n c] w fun e w' => e = .returned (.bool r) ∧ Below w.heap.size w w') :
    Calls Try.prog 69 #[.slice s n c] w fun e w' => e = .returned (.bool (!r)) ∧ Below w.heap.size w w' := by
  go_enter Try.func69, Try.ntmps69
  go_wp2_with fail
  refine hC.mono ?_
  rintro e w1 ⟨rfl, hb⟩
  have HB : Hid (Below w.heap.size w w1) := hb
  clear hb hC
  go_wp2_with fail
  go_ret
  exact ⟨by simp, HB.out⟩
open Classical in
set_option maxHeartbeats 2000000 in
theorem indexC_any (sa : Option Addr) (k cap : Nat) (s : Nat → Option Addr) (n c : Nat → Nat) (f : Nat → Nat → Cel) (w : World) (hk : k ≤ 1048576) (hr : CCRows w w.heap.size sa k s n c f)
    (hP : ∀ i, i < k → ∀ W, CRow W W.heap.size (s i) (n i) (f i) → Calls Try.prog 70 #[.slice (s i) (n i) (c i)] W fun e w' => e = .returned (.bool (decide (CellsOk (n i) (f i)))) ∧ Below W.heap.size W w') :
    Calls Try.prog 87 #[.slice sa k cap, .func (.func 69) #[] #[]] w fun e w' => ∃ x : Int, e = .returned (.int .i64 x) ∧ Below w.heap.size w w' ∧ (0 ≤ x ↔ ∃ i, i < k ∧ ¬ CellsOk (n i) (f i)) := by
  have HR : Hid (CCRows w w.heap.size sa k s n c f) := hr
  have HP : Hid (∀ i, i < k → ∀ W, CRow W W.heap.size (s i) (n i) (f i) → Calls Try.prog 70 #[.slice (s i) (n i) (c i)] W fun e w' => e = .returned (.bool (decide (CellsOk (n i) (f i)))) ∧ Below W.heap.size W w') := hP
  clear hr hP
  go_enter Try.func87, Try.ntmps87
  go_wp2_with fail
  go_loopw [8] (fun iv wr => ∃ i : Nat, i ≤ k ∧ iv = .int .i64 (i : Int) ∧ (∀ j, j < i → CellsOk (n j) (f j)) ∧ Below w.heap.size w wr) (fun iv _ => k - (intOf iv).toNat)
  case atStart => exact ⟨0, Nat.zero_le _, rfl, fun j hj => absurd hj (Nat.not_lt_zero _), Below.refl _ _⟩
  case round =>
    obtain ⟨i, hi, rfl, hall, hbel⟩ := hrel
    have HB : Hid (Below w.heap.size w wr) := hbel
    have HA : Hid (∀ j, j < i → CellsOk (n j) (f j)) := hall
    by_cases hil : i < k
    · have hii : (i : Int) < (k : Int) := by omega
      have hi0 : (0 : Int) ≤ (i : Int) := by omega
      obtain ⟨bb, off, rfl, hbb, ci, hrow⟩ := (HR.out.late HB.out).at hil
      have C := notRightC_any (s i) (n i) (c i) _ wr (HP.out i hil wr hrow)
      clear hall hbel hrow
      obtain ⟨si, hsi⟩ : ∃ x, s i = x := ⟨_, rfl⟩
      obtain ⟨ni, hni⟩ : ∃ x, n i = x := ⟨_, rfl⟩
      obtain ⟨c9, hc9⟩ : ∃ x, c i = x := ⟨_, rfl⟩
      obtain ⟨fi, hfi⟩ : ∃ x, f i = x := ⟨_, rfl⟩
      have HE : Hid (n i = ni ∧ f i = fi) := ⟨hni, hfi⟩
      rw [hsi, hni, hc9] at ci
      rw [hsi, hni, hc9, hfi] at C
      clear hsi hni hc9 hfi
      go_wp2_with fail
      refine C.mono ?_
      rintro e w1 ⟨rfl, hb⟩
      have B1 : Hid (Below w.heap.size w w1) := HB.out.trans (hb.mono HB.out.size)
      clear C hb ci
      by_cases hp : CellsOk ni fi
      · rw [decide_eq_true hp]
        have HN : Hid (∀ j, j < i + 1 → CellsOk (n j) (f j)) := fun j hj => by
          by_cases e : j = i
          · rw [e, HE.out.1, HE.out.2]; exact hp
          · exact HA.out j (by omega)
        clear hp
        go_wp2_with fail
        go_roundw
        case rel => exact ⟨i + 1, by omega, by go_num, HN.out, B1.out⟩
        case measure => simp [intOf]; omega
      · rw [decide_eq_false hp]
        have HN : Hid (∃ i, i < k ∧ ¬ CellsOk (n i) (f i)) := ⟨i, hil, by rw [HE.out.1, HE.out.2]; exact hp⟩
        clear hp
        go_wp2_with fail
        go_ret
        exact ⟨_, rfl, B1.out, ⟨fun _ => HN.out, fun _ => by omega⟩⟩
    · have hii : ¬ (i : Int) < (k : Int) := by omega
      clear hall hbel
      go_wp2_with fail
      go_ret
      exact ⟨_, rfl, HB.out, ⟨fun h => by omega, fun ⟨j, h1, h2⟩ => absurd (HA.out j (by omega)) h2⟩⟩
open Classical in
set_option maxHeartbeats 1000000 in
theorem containsC_any (sa : Option Addr) (k cap : Nat) (s : Nat → Option Addr) (n c : Nat → Nat) (f : Nat → Nat → Cel) (w : World) (hk : k ≤ 1048576) (hr : CCRows w w.heap.size sa k s n c f)
    (hP : ∀ i, i < k → ∀ W, CRow W W.heap.size (s i) (n i) (f i) → Calls Try.prog 70 #[.slice (s i) (n i) (c i)] W fun e w' => e = .returned (.bool (decide (CellsOk (n i) (f i)))) ∧ Below W.heap.size W w') :
    Calls Try.prog 68 #[.slice sa k cap, .func (.func 69) #[] #[]] w fun e w' => e = .returned (.bool (decide (∃ i, i < k ∧ ¬ CellsOk (n i) (f i)))) ∧ Below w.heap.size w w' := by
  have C := indexC_any sa k cap s n c f w hk hr hP
  obtain ⟨D, hD⟩ : ∃ D, decide (∃ i, i < k ∧ ¬ CellsOk (n i) (f i)) = D := ⟨_, rfl⟩
  rw [hD]
  have HD : Hid (decide (∃ i, i < k ∧ ¬ CellsOk (n i) (f i)) = D) := hD
  clear hr hP hD
  go_enter Try.func68, Try.ntmps68
  go_wp2_with fail
  refine C.mono ?_
  rintro e w1 ⟨x, rfl, hb, hx⟩
  have HB : Hid (Below w.heap.size w w1) := hb
  clear C hb
  by_cases h0 : 0 ≤ x
  · obtain rfl : D = true := by rw [← HD.out]; exact decide_eq_true (hx.1 h0)
    go_wp2_with fail
    go_ret
    exact ⟨by simp; exact hx.1 h0, HB.out⟩
  · obtain rfl : D = false := by rw [← HD.out]; exact decide_eq_false (fun h => h0 (hx.2 h))
    go_wp2_with fail
    go_ret
    exact ⟨by (simp; intro i hi; exact Classical.byContradiction (fun h => absurd (hx.2 ⟨i, hi, h⟩) (by omega))), HB.out⟩
open Classical in
set_option maxHeartbeats 1000000 in
theorem rowsRight_any (sa : Option Addr) (k cap : Nat) (s : Nat → Option Addr) (n c : Nat → Nat) (f : Nat → Nat → Cel) (w : World) (hk : k ≤ maxLen) (hr : CCRows w w.heap.size sa k s n c f)
    (hP : ∀ i, i < k → ∀ W, CRow W W.heap.size (s i) (n i) (f i) → Calls Try.prog 70 #[.slice (s i) (n i) (c i)] W fun e w' => e = .returned (.bool (decide (CellsOk (n i) (f i)))) ∧ Below W.heap.size W w') :
    Calls Try.prog 36 #[.slice sa k cap] w fun e w' => e = .returned (.bool (decide (1 ≤ k ∧ k ≤ 6 ∧ ∀ i, i < k → CellsOk (n i) (f i)))) ∧ Below w.heap.size w w' := by
  unfold maxLen at hk
  by_cases h1 : (k : Int) < 1
  · rw [decide_eq_false (fun h => by have := h.1; omega)]
    clear hP hr
    go_enter Try.func36, Try.ntmps36
    go_wp2_with fail
    go_ret
    exact ⟨rfl, Below.refl _ _⟩
  by_cases h2 : (6 : Int) < (k : Int)
  · rw [decide_eq_false (fun h => by have := h.2.1; omega)]
    clear hP hr
    go_enter Try.func36, Try.ntmps36
    go_wp2_with fail
    go_ret
    exact ⟨rfl, Below.refl _ _⟩
  have C := containsC_any sa k cap s n c f w (by omega) hr hP
  have HD : Hid (decide (1 ≤ k ∧ k ≤ 6 ∧ ∀ i, i < k → CellsOk (n i) (f i)) = !decide (∃ i, i < k ∧ ¬ CellsOk (n i) (f i))) := by
    show _ = _
    by_cases h : ∃ i, i < k ∧ ¬ CellsOk (n i) (f i)
    · rw [decide_eq_true h, decide_eq_false (fun h9 => by obtain ⟨i, hi, hn⟩ := h; exact hn (h9.2.2 i hi))]; rfl
    · rw [decide_eq_false h, decide_eq_true (⟨by omega, by omega, fun i hi => Classical.byContradiction (fun h9 => h ⟨i, hi, h9⟩)⟩ : 1 ≤ k ∧ k ≤ 6 ∧ ∀ i, i < k → CellsOk (n i) (f i))]; rfl
  rw [HD.out]
  generalize decide (∃ i, i < k ∧ ¬ CellsOk (n i) (f i)) = D at *
  clear hP hr HD
  go_enter Try.func36, Try.ntmps36
  go_wp2_with fail
  refine C.mono ?_
  rintro e w1 ⟨rfl, hb⟩
  have HB : Hid (Below w.heap.size w w1) := hb
  clear C hb
  go_wp2_with fail
  go_ret
  exact ⟨rfl, HB.out⟩
end Go.Proofs.Ytbdjjggaahjjpaa
