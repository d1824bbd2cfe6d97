/- What is proved here: the program's PatternRight says yes of a right pattern, no of another.
   What is proved here: the program's ContainsFunc says whether one of some patterns is not right; nothing that was there turns. -/
import Derived.Test.YtfeolbgenpknfaaQImplPRightW
import Derived.Test.YtfeolbgenpknfaaQAARowMToOnlyBM
namespace Go.Proofs.Ytfeolbgenpknfaa
open Go.RowKit

open Classical in
theorem implPRight_yes (sa : Option Addr) (n cap : Nat) (f : Nat → Atm) (w : World) (hn : n ≤ maxLen) (hr : ARow w w.heap.size sa n f) (hc : ∀ i, i < n → (f i).c.size ≤ maxLen) (h : PatRight n f) :
    Calls Try.prog 57 #[.slice sa n cap] w fun e w' => e = .returned (.bool true) ∧ Below w.heap.size w w' :=
  (implPRight_any sa n cap f w hn hr hc).mono fun _ _ h2 => ⟨by rw [h2.1, decide_eq_true h], h2.2⟩
open Classical in
theorem implPRight_no (sa : Option Addr) (n cap : Nat) (f : Nat → Atm) (w : World) (hn : n ≤ maxLen) (hr : ARow w w.heap.size sa n f) (hc : ∀ i, i < n → (f i).c.size ≤ maxLen) (h : ¬ PatRight n f) :
    Calls Try.prog 57 #[.slice sa n cap] w fun e w' => e = .returned (.bool false) ∧ Below w.heap.size w w' :=
  (implPRight_any sa n cap f w hn hr hc).mono fun _ _ h2 => ⟨by rw [h2.1, decide_eq_false h], h2.2⟩
end Go.Proofs.Ytfeolbgenpknfaa
namespace Go.Proofs.Ytfeolbgenpknfaa
open Go.RowKit

set_option maxHeartbeats 1000000 in
theorem notRight_any (s : Option Addr) (n c : Nat) (r : Bool) (w : World) (hC : Calls Try.prog 57 #[.slice s n c] w fun e w' => e = .returned (.bool r) ∧ Below w.heap.size w w') :
    Calls Try.prog 101 #[.slice s n c] w fun e w' => e = .returned (.bool (!r)) ∧ Below w.heap.size w w' := by
  go_enter Try.func101, Try.ntmps101
  go_wp2_with fail
  refine hC.mono ?_
  rintro e w1 ⟨rfl, hb⟩
  have HB : Hid (Below w.heap.size w w1) := hb
  clear hb hC
  go_wp2_with fail
  go_ret
  exact ⟨by simp, HB.out⟩
open Classical in
set_option maxHeartbeats 2000000 in
theorem indexP_any (sa : Option Addr) (k cap : Nat) (s : Nat → Option Addr) (n c : Nat → Nat) (f : Nat → Nat → Atm) (w : World) (hk : k ≤ 1048576) (hr : AARows w w.heap.size sa k s n c f)
    (hP : ∀ i, i < k → ∀ W, ARow W W.heap.size (s i) (n i) (f i) → Calls Try.prog 57 #[.slice (s i) (n i) (c i)] W fun e w' => e = .returned (.bool (decide (PatRight (n i) (f i)))) ∧ Below W.heap.size W w') :
    Calls Try.prog 115 #[.slice sa k cap, .func (.func 101) #[] #[]] w fun e w' => ∃ x : Int, e = .returned (.int .i64 x) ∧ Below w.heap.size w w' ∧ (0 ≤ x ↔ ∃ i, i < k ∧ ¬ PatRight (n i) (f i)) := by
  have HR : Hid (AARows w w.heap.size sa k s n c f) := hr
  have HP : Hid (∀ i, i < k → ∀ W, ARow W W.heap.size (s i) (n i) (f i) → Calls Try.prog 57 #[.slice (s i) (n i) (c i)] W fun e w' => e = .returned (.bool (decide (PatRight (n i) (f i)))) ∧ Below W.heap.size W w') := hP
  clear hr hP
  go_enter Try.func115, Try.ntmps115
  go_wp2_with fail
  go_loopw [8] (fun iv wr => ∃ i : Nat, i ≤ k ∧ iv = .int .i64 (i : Int) ∧ (∀ j, j < i → PatRight (n j) (f j)) ∧ Below w.heap.size w wr) (fun iv _ => k - (intOf iv).toNat)
  case atStart => exact ⟨0, Nat.zero_le _, rfl, fun j hj => absurd hj (Nat.not_lt_zero _), Below.refl _ _⟩
  case round =>
    obtain ⟨i, hi, rfl, hall, hbel⟩ := hrel
    have HB : Hid (Below w.heap.size w wr) := hbel
    have HA : Hid (∀ j, j < i → PatRight (n j) (f j)) := hall
    by_cases hil : i < k
    · have hii : (i : Int) < (k : Int) := by omega
      have hi0 : (0 : Int) ≤ (i : Int) := by omega
      obtain ⟨bb, off, rfl, hbb, ci, hrow⟩ := (HR.out.late HB.out).at hil
      have C := notRight_any (s i) (n i) (c i) _ wr (HP.out i hil wr hrow)
      clear hall hbel hrow
      obtain ⟨si, hsi⟩ : ∃ x, s i = x := ⟨_, rfl⟩
      obtain ⟨ni, hni⟩ : ∃ x, n i = x := ⟨_, rfl⟩
      obtain ⟨c9, hc9⟩ : ∃ x, c i = x := ⟨_, rfl⟩
      obtain ⟨fi, hfi⟩ : ∃ x, f i = x := ⟨_, rfl⟩
      have HE : Hid (n i = ni ∧ f i = fi) := ⟨hni, hfi⟩
      rw [hsi, hni, hc9] at ci
      rw [hsi, hni, hc9, hfi] at C
      clear hsi hni hc9 hfi
      go_wp2_with fail
      refine C.mono ?_
      rintro e w1 ⟨rfl, hb⟩
      have B1 : Hid (Below w.heap.size w w1) := HB.out.trans (hb.mono HB.out.size)
      clear C hb ci
      by_cases hp : PatRight ni fi
      · rw [decide_eq_true hp]
        have HN : Hid (∀ j, j < i + 1 → PatRight (n j) (f j)) := fun j hj => by
          by_cases e : j = i
          · rw [e, HE.out.1, HE.out.2]; exact hp
          · exact HA.out j (by omega)
        clear hp
        go_wp2_with fail
        go_roundw
        case rel => exact ⟨i + 1, by omega, by go_num, HN.out, B1.out⟩
        case measure => simp [intOf]; omega
      · rw [decide_eq_false hp]
        have HN : Hid (∃ i, i < k ∧ ¬ PatRight (n i) (f i)) := ⟨i, hil, by rw [HE.out.1, HE.out.2]; exact hp⟩
        clear hp
        go_wp2_with fail
        go_ret
        exact ⟨_, rfl, B1.out, ⟨fun _ => HN.out, fun _ => by omega⟩⟩
    · have hii : ¬ (i : Int) < (k : Int) := by omega
      clear hall hbel
      go_wp2_with fail
      go_ret
      exact ⟨_, rfl, HB.out, ⟨fun h => by omega, fun ⟨j, h1, h2⟩ => absurd (HA.out j (by omega)) h2⟩⟩
open Classical in
set_option maxHeartbeats 1000000 in
theorem containsP_any (sa : Option Addr) (k cap : Nat) (s : Nat → Option Addr) (n c : Nat → Nat) (f : Nat → Nat → Atm) (w : World) (hk : k ≤ 1048576) (hr : AARows w w.heap.size sa k s n c f)
    (hP : ∀ i, i < k → ∀ W, ARow W W.heap.size (s i) (n i) (f i) → Calls Try.prog 57 #[.slice (s i) (n i) (c i)] W fun e w' => e = .returned (.bool (decide (PatRight (n i) (f i)))) ∧ Below W.heap.size W w') :
    Calls Try.prog 100 #[.slice sa k cap, .func (.func 101) #[] #[]] w fun e w' => e = .returned (.bool (decide (∃ i, i < k ∧ ¬ PatRight (n i) (f i)))) ∧ Below w.heap.size w w' := by
  have C := indexP_any sa k cap s n c f w hk hr hP
  obtain ⟨D, hD⟩ : ∃ D, decide (∃ i, i < k ∧ ¬ PatRight (n i) (f i)) = D := ⟨_, rfl⟩
  rw [hD]
  have HD : Hid (decide (∃ i, i < k ∧ ¬ PatRight (n i) (f i)) = D) := hD
  clear hr hP hD
  go_enter Try.func100, Try.ntmps100
  go_wp2_with fail
  refine C.mono ?_
  rintro e w1 ⟨x, rfl, hb, hx⟩
  have HB : Hid (Below w.heap.size w w1) := hb
  clear C hb
  by_cases h0 : 0 ≤ x
  · obtain rfl : D = true := by rw [← HD.out]; exact decide_eq_true (hx.1 h0)
    go_wp2_with fail
    go_ret
    exact ⟨by simp; exact hx.1 h0, HB.out⟩
  · obtain rfl : D = false := by rw [← HD.out]; exact decide_eq_false (fun h => h0 (hx.2 h))
    go_wp2_with fail
    go_ret
    exact ⟨by (simp; intro i hi; exact Classical.byContradiction (fun h => absurd (hx.2 ⟨i, hi, h⟩) (by omega))), HB.out⟩
end Go.Proofs.Ytfeolbgenpknfaa
