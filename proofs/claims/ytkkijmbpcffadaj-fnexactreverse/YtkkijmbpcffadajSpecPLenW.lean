/- What is proved here: the specification's LeastLen and MostLen hand back how long a text of a right pattern is at least, and at most; nothing that was there turns. -/
import Derived.Test.YtkkijmbpcffadajSpecPRightW
import Derived.Test.YtkkijmbpcffadajPLenM
namespace Go.Proofs.Ytkkijmbpcffadaj
open Go.RowKit

open Classical in
theorem specPRight_yes (sa : Option Addr) (n cap : Nat) (f : Nat → Atm) (w : World) (hn : n ≤ maxLen) (hr : ARow w w.heap.size sa n f) (hc : ∀ i, i < n → (f i).c.size ≤ maxLen) (h : PatRight n f) :
    Calls Try.prog 18 #[.slice sa n cap] w fun e w' => e = .returned (.bool true) ∧ Below w.heap.size w w' :=
  (specPRight_any sa n cap f w hn hr hc).mono fun _ _ h2 => ⟨by rw [h2.1, decide_eq_true h], h2.2⟩
open Classical in
theorem specPRight_no (sa : Option Addr) (n cap : Nat) (f : Nat → Atm) (w : World) (hn : n ≤ maxLen) (hr : ARow w w.heap.size sa n f) (hc : ∀ i, i < n → (f i).c.size ≤ maxLen) (h : ¬ PatRight n f) :
    Calls Try.prog 18 #[.slice sa n cap] w fun e w' => e = .returned (.bool false) ∧ Below w.heap.size w w' :=
  (specPRight_any sa n cap f w hn hr hc).mono fun _ _ h2 => ⟨by rw [h2.1, decide_eq_false h], h2.2⟩
theorem specLeast_no (sa : Option Addr) (n cap : Nat) (f : Nat → Atm) (w : World) (hn : n ≤ maxLen) (hr : ARow w w.heap.size sa n f) (hc : ∀ i, i < n → (f i).c.size ≤ maxLen) (h : ¬ PatRight n f) :
    Calls Try.prog 7 #[.slice sa n cap] w fun e w' => e = .returned (.int .i64 (-1)) ∧ Below w.heap.size w w' := by
  have HP := specPRight_no sa n cap f w hn hr hc h
  have HQ : Hid (Calls Try.prog 18 #[.slice sa n cap] w fun e w' => e = .returned (.bool false) ∧ Below w.heap.size w w') := HP
  clear HP hn hr hc h
  go_enter Try.func7, Try.ntmps7
  go_wp2_with fail
  refine HQ.out.mono ?_
  rintro e w1 ⟨rfl, hb⟩
  have B1 : Hid (Below w.heap.size w w1) := hb
  clear hb
  go_wp2_with fail
  go_ret
  exact ⟨rfl, B1.out⟩
set_option maxRecDepth 100000 in
set_option maxHeartbeats 2000000 in
theorem specLeast_yes (sa : Option Addr) (n cap : Nat) (f : Nat → Atm) (w : World) (hn : n ≤ maxLen) (hr : ARow w w.heap.size sa n f) (hc : ∀ i, i < n → (f i).c.size ≤ maxLen) (h : PatRight n f) :
    Calls Try.prog 7 #[.slice sa n cap] w fun e w' => e = .returned (.int .i64 (leastOf n f)) ∧ Below w.heap.size w w' := by
  have HP := specPRight_yes sa n cap f w hn hr hc h
  have HQ : Hid (Calls Try.prog 18 #[.slice sa n cap] w fun e w' => e = .returned (.bool true) ∧ Below w.heap.size w w') := HP
  have HR : Hid (ARow w w.heap.size sa n f) := hr
  have HH : Hid (PatRight n f) := h
  have hn20 := h.2.1
  clear HP hn hr hc h
  go_enter Try.func7, Try.ntmps7
  go_wp2_with fail
  refine HQ.out.mono ?_
  rintro e w1 ⟨rfl, hb⟩
  have B1 : Hid (Below w.heap.size w w1) := hb
  clear hb HQ
  go_wp2_with fail
  go_loopw [3, 4] (fun s i wr => ∃ k : Nat, k ≤ n ∧ i = .int .i64 (k : Int) ∧ s = .int .i64 (sumTo (fun i => (f i).l) k) ∧ Below w.heap.size w wr) (fun _ i _ => n - (intOf i).toNat)
  case atStart => exact ⟨0, Nat.zero_le _, rfl, rfl, B1.out⟩
  case round =>
    obtain ⟨k, hk, rfl, rfl, hbel⟩ := hrel
    have HB : Hid (Below w.heap.size w wr) := hbel
    have hS := sumTo_bd (g := fun i => (f i).l) (b := 20) (by omega) k (fun i hi => by have := HH.out.2.2.1 i (by omega); exact ⟨this.2.2.1, this.2.2.2.1⟩)
    have HSS : Hid (sumTo (fun i => (f i).l) (k + 1) = sumTo (fun i => (f i).l) k + (f k).l) := rfl
    generalize hS0 : sumTo (fun i => (f i).l) k = S at *
    have HS0 : Hid (sumTo (fun i => (f i).l) k = S) := hS0
    clear hS0
    by_cases hkl : k < n
    · obtain ⟨bb, off, rfl, hbb, hat⟩ := HR.out.at hbel hkl
      obtain ⟨c0, c1, c2⟩ := hat
      have hA := HH.out.2.2.1 k hkl
      clear hbel
      have hki : (k : Int) < (n : Int) := by omega
      have hk0 : (0 : Int) ≤ (k : Int) := by omega
      obtain ⟨⟨ac, al, am⟩, ha⟩ : ∃ a, f k = a := ⟨_, rfl⟩
      have HF : Hid (f k = ⟨ac, al, am⟩) := ha
      rw [ha] at c0 c1 c2 HSS hA
      simp only at c0 c1 c2 HSS
      clear ha
      obtain ⟨_, _, ha3, ha4, ha5⟩ := hA
      simp only at ha3 ha4 ha5
      go_wp2_with fail
      go_roundw
      case rel => exact ⟨k + 1, by omega, by go_num, by rw [HSS.out], HB.out⟩
      case measure => simp [intOf]; omega
    · have hki : ¬ (k : Int) < (n : Int) := by omega
      obtain rfl : k = n := by omega
      clear hbel
      go_wp2_with fail
      go_ret
      exact ⟨by unfold leastOf; rw [HS0.out]; rfl, HB.out⟩
theorem specMost_no (sa : Option Addr) (n cap : Nat) (f : Nat → Atm) (w : World) (hn : n ≤ maxLen) (hr : ARow w w.heap.size sa n f) (hc : ∀ i, i < n → (f i).c.size ≤ maxLen) (h : ¬ PatRight n f) :
    Calls Try.prog 11 #[.slice sa n cap] w fun e w' => e = .returned (.int .i64 (-1)) ∧ Below w.heap.size w w' := by
  have HP := specPRight_no sa n cap f w hn hr hc h
  have HQ : Hid (Calls Try.prog 18 #[.slice sa n cap] w fun e w' => e = .returned (.bool false) ∧ Below w.heap.size w w') := HP
  clear HP hn hr hc h
  go_enter Try.func11, Try.ntmps11
  go_wp2_with fail
  refine HQ.out.mono ?_
  rintro e w1 ⟨rfl, hb⟩
  have B1 : Hid (Below w.heap.size w w1) := hb
  clear hb
  go_wp2_with fail
  go_ret
  exact ⟨rfl, B1.out⟩
set_option maxRecDepth 100000 in
set_option maxHeartbeats 2000000 in
theorem specMost_yes (sa : Option Addr) (n cap : Nat) (f : Nat → Atm) (w : World) (hn : n ≤ maxLen) (hr : ARow w w.heap.size sa n f) (hc : ∀ i, i < n → (f i).c.size ≤ maxLen) (h : PatRight n f) :
    Calls Try.prog 11 #[.slice sa n cap] w fun e w' => e = .returned (.int .i64 (mostOf n f)) ∧ Below w.heap.size w w' := by
  have HP := specPRight_yes sa n cap f w hn hr hc h
  have HQ : Hid (Calls Try.prog 18 #[.slice sa n cap] w fun e w' => e = .returned (.bool true) ∧ Below w.heap.size w w') := HP
  have HR : Hid (ARow w w.heap.size sa n f) := hr
  have HH : Hid (PatRight n f) := h
  have hn20 := h.2.1
  clear HP hn hr hc h
  go_enter Try.func11, Try.ntmps11
  go_wp2_with fail
  refine HQ.out.mono ?_
  rintro e w1 ⟨rfl, hb⟩
  have B1 : Hid (Below w.heap.size w w1) := hb
  clear hb HQ
  go_wp2_with fail
  go_loopw [3, 4] (fun s i wr => ∃ k : Nat, k ≤ n ∧ i = .int .i64 (k : Int) ∧ s = .int .i64 (sumTo (fun i => (f i).m) k) ∧ Below w.heap.size w wr ∧ ∀ i, i < k → (f i).m ≠ -1) (fun _ i _ => n - (intOf i).toNat)
  case atStart => exact ⟨0, Nat.zero_le _, rfl, rfl, B1.out, fun i hi => by omega⟩
  case round =>
    obtain ⟨k, hk, rfl, rfl, hbel, hnm⟩ := hrel
    have HB : Hid (Below w.heap.size w wr) := hbel
    have HN : Hid (∀ i, i < k → (f i).m ≠ -1) := hnm
    have hS := sumTo_bd (g := fun i => (f i).m) (b := 20) (by omega) k (fun i hi => by have := HH.out.2.2.1 i (by omega); have h5 := this.2.2.2.2; have := hnm i hi; omega)
    clear hnm
    have HSS : Hid (sumTo (fun i => (f i).m) (k + 1) = sumTo (fun i => (f i).m) k + (f k).m) := rfl
    generalize hS0 : sumTo (fun i => (f i).m) k = S at *
    have HS0 : Hid (sumTo (fun i => (f i).m) k = S) := hS0
    clear hS0
    by_cases hkl : k < n
    · obtain ⟨bb, off, rfl, hbb, hat⟩ := HR.out.at hbel hkl
      obtain ⟨c0, c1, c2⟩ := hat
      have hA := HH.out.2.2.1 k hkl
      clear hbel
      have hki : (k : Int) < (n : Int) := by omega
      have hk0 : (0 : Int) ≤ (k : Int) := by omega
      obtain ⟨⟨ac, al, am⟩, ha⟩ : ∃ a, f k = a := ⟨_, rfl⟩
      have HF : Hid (f k = ⟨ac, al, am⟩) := ha
      rw [ha] at c0 c1 c2 HSS hA
      simp only at c0 c1 c2 HSS
      clear ha
      obtain ⟨_, _, ha3, ha4, ha5⟩ := hA
      simp only at ha3 ha4 ha5
      by_cases hm : am = -1
      · subst hm
        have HM : Hid (∃ i, i < n ∧ (f i).m = -1) := ⟨k, hkl, by rw [HF.out]⟩
        go_wp2_with fail
        go_ret
        exact ⟨by rw [most_none HM.out]; rfl, HB.out⟩
      · have hm1 : ¬ am < 0 := by omega
        have hm2 : (am == -1) = false := by simpa using hm
        go_wp2_with fail
        go_roundw
        case rel => exact ⟨k + 1, by omega, by go_num, by rw [HSS.out], HB.out, fun i hi => by
          by_cases e : i = k
          · rw [e, HF.out]; exact hm
          · exact HN.out i (by omega)⟩
        case measure => simp [intOf]; omega
    · have hki : ¬ (k : Int) < (n : Int) := by omega
      obtain rfl : k = n := by omega
      clear hbel
      go_wp2_with fail
      go_ret
      exact ⟨by rw [most_some HN.out, HS0.out]; rfl, HB.out⟩
end Go.Proofs.Ytkkijmbpcffadaj
