/- What is proved here: the laws' comparison and marks over slices of slices of atoms: what they hand back and what they leave as it was. -/
import Derived.Test.YtfeolbgenpknfaaQAAHW
namespace Go.Proofs.Ytfeolbgenpknfaa
open Go.RowKit

set_option maxHeartbeats 1000000 in
theorem eqSS_same (sa sb : Option Addr) (k ca cb : Nat) (s1 s2 : Nat → Option Addr) (n c1 c2 : Nat → Nat) (f : Nat → Nat → Atm) (w : World) (hk : k ≤ 1048576) (hn : ∀ i, i < k → n i ≤ 1048576) (ha : AARows w w.heap.size sa k s1 n c1 f) (hb : AARows w w.heap.size sb k s2 n c2 f) :
    Calls Try.prog 30 #[.slice sa k ca, .slice sb k cb] w fun e w' => e = .returned (.bool true) ∧ Below w.heap.size w w' := by
  have HA : Hid (AARows w w.heap.size sa k s1 n c1 f) := ha
  have HB : Hid (AARows w w.heap.size sb k s2 n c2 f) := hb
  have HEQ : Hid (∀ i, i < k → ∀ W, ARow W W.heap.size (s1 i) (n i) (f i) → ARow W W.heap.size (s2 i) (n i) (f i) → Calls Try.prog 74 #[.slice (s1 i) (n i) (c1 i), .slice (s2 i) (n i) (c2 i)] W fun e w' => e = .returned (.bool true) ∧ Below W.heap.size W w') := fun i hi W h1 h2 => eqAtoms_same (s1 i) (s2 i) (n i) (c1 i) (c2 i) (f i) W (hn i hi) h1 h2
  clear ha hb hn
  go_enter Try.func30, Try.ntmps30
  go_wp2_with fail
  go_loopw [5] (fun iv wr => ∃ i : Nat, i ≤ k ∧ iv = .int .i64 (i : Int) ∧ Below w.heap.size w wr) (fun iv _ => k - (intOf iv).toNat)
  case atStart => exact ⟨0, Nat.zero_le _, rfl, Below.refl _ _⟩
  case round =>
    obtain ⟨i, hi, rfl, hbel⟩ := hrel
    have HW : Hid (Below w.heap.size w wr) := hbel
    by_cases hil : i < k
    · obtain ⟨ba, oa, rfl, hba, ca1, hra⟩ := (HA.out.late hbel).at hil
      obtain ⟨bb, ob, rfl, hbb, cb1, hrb⟩ := (HB.out.late hbel).at hil
      have hd : Below wr.heap.size wr wr.drew := (Below.refl _ _).drew
      have C := HEQ.out i hil wr.drew ((hra.kept hd).up hd.size) ((hrb.kept hd).up hd.size)
      have hii : (i : Int) < (k : Int) := by omega
      have hi0 : (0 : Int) ≤ (i : Int) := by omega
      clear hbel hra hrb hd
      generalize s1 i = x1 at *
      generalize s2 i = x2 at *
      generalize n i = ni at *
      generalize c1 i = y1 at *
      generalize c2 i = y2 at *
      go_wp2_with fail
      go_region_with (go_at_call 74; refine C.mono ?_; rintro e w1 ⟨rfl, hb1⟩; have HB1 : Hid (Below w.heap.size w w1) := HW.out.drew.trans (hb1.mono HW.out.size); clear hb1)
      all_goals
        go_wp2_with fail
        go_roundw
        case rel => exact ⟨i + 1, by omega, by go_num, HB1.out⟩
        case measure => simp [intOf]; omega
    · have hii : ¬ (i : Int) < (k : Int) := by omega
      clear hbel
      go_wp2_with fail
      go_ret
      exact ⟨rfl, HW.out⟩
theorem ASl.onlyA {W W' : World} {lo hi lo' hi' n : Nat} {sa : Option Addr} {f : Nat → Atm} (h : ASl W lo hi sa n f) (ho : OnlyA W W' lo' hi') (hd : hi ≤ lo' ∨ hi' ≤ lo) : ASl W' lo hi sa n f := h.only ho hd
set_option maxHeartbeats 2000000 in
theorem markSS_any (g k cap : Nat) (h : Nat → Nat) (s : Nat → Option Addr) (n c : Nat → Nat) (f : Nat → Nat → Atm) (w : World) (hk : k ≤ 1048576) (ht : totN n k ≤ 1048576) (ho : AAOwn w g k h s n c f) :
    Calls Try.prog 31 #[.slice (some ⟨g, 0, none⟩) k cap, .int .i64 1] w fun e w' => e = .returned (.int .i64 ((1 + totN n k * 3 : Nat) : Int)) ∧ OnlyB w w' (h 0) (h k) := by
  have HO : Hid (AAOwn w g k h s n c f) := ho
  have HM : Hid (∀ i, i < k → ∀ (q : Nat) W, 0 < q → q ≤ 4000000 → ASl W (h i) (h (i + 1)) (s i) (n i) (f i) → Calls Try.prog 75 #[.slice (s i) (n i) (c i), .int .i64 (q : Int)] W fun e w' => e = .returned (.int .i64 ((q + n i * 3 : Nat) : Int)) ∧ OnlyA W w' (h i) (h (i + 1)) ∧ ASl w' (h i) (h (i + 1)) (s i) (n i) (markQ q)) := fun i hi q W h0 h9 hW => markAt_any (s i) (n i) (c i) (h i) (h (i + 1)) q (f i) W (Nat.le_trans (totN_le hi) ht) h0 h9 hW
  have HT : Hid (∀ i, i ≤ k → totN n i ≤ 1048576) := fun i hi => Nat.le_trans (totN_mono hi) ht
  clear ho ht
  go_enter Try.func31, Try.ntmps31
  go_wp2_with fail
  go_loopw [1, 5] (fun qv iv wr => ∃ i : Nat, i ≤ k ∧ qv = .int .i64 ((1 + totN n i * 3 : Nat) : Int) ∧ iv = .int .i64 (i : Int) ∧ OnlyB w wr (h 0) (h k) ∧ ∀ j, i ≤ j → j < k → ASl wr (h j) (h (j + 1)) (s j) (n j) (f j)) (fun _ iv _ => k - (intOf iv).toNat)
  case atStart => exact ⟨0, Nat.zero_le _, rfl, rfl, OnlyB.refl _ _ _, fun j _ hj => HO.out.rows j hj⟩
  case round =>
    obtain ⟨i, hik, rfl, rfl, hon, hrows⟩ := hrel
    have HON : Hid (OnlyB w wr (h 0) (h k)) := hon
    have HRW : Hid (∀ j, i ≤ j → j < k → ASl wr (h j) (h (j + 1)) (s j) (n j) (f j)) := hrows
    clear hon hrows
    have htot := HT.out i hik
    obtain ⟨q, hq⟩ : ∃ q, 1 + totN n i * 3 = q := ⟨_, rfl⟩
    have HQ : Hid (1 + totN n i * 3 = q) := hq
    rw [hq]
    have hq0 : 0 < q := by omega
    have hq9 : q ≤ 4000000 := by omega
    clear hq htot
    by_cases hil : i < k
    · have hii : (i : Int) < (k : Int) := by omega
      have hi0 : (0 : Int) ≤ (i : Int) := by omega
      have hgl : g < h 0 := HO.out.lt
      have ci : wr.cell? ⟨g, i, none⟩ = some (.slice (s i) (n i) (c i)) := by
        have h9 := HO.out.cells i hil
        have h8 := HON.out.block g (Nat.lt_of_lt_of_le hgl (Nat.le_trans (HO.out.le (Nat.zero_le _) (Nat.le_refl _)) HO.out.sz)) (Or.inl hgl)
        simpa [World.cell?, h8] using h9
      have C := HM.out i hil q wr hq0 hq9 (HRW.out i (Nat.le_refl _) hil)
      have HTN : Hid (totN n (i + 1) = totN n i + n i) := rfl
      obtain ⟨si, hsi⟩ : ∃ x, s i = x := ⟨_, rfl⟩
      obtain ⟨c9, hc9⟩ : ∃ x, c i = x := ⟨_, rfl⟩
      obtain ⟨ni, hni⟩ : ∃ x, n i = x := ⟨_, rfl⟩
      have HNI : Hid (n i = ni) := hni
      rw [hsi, hni, hc9] at ci C
      clear hsi hni hc9
      go_wp2_with fail
      refine C.mono ?_
      rintro e w1 ⟨rfl, hon, _⟩
      have HN1 : Hid (OnlyB w w1 (h 0) (h k)) := HON.out.trans (hon.wideB (HO.out.le (Nat.zero_le _) (by omega)) (HO.out.le (by omega) (Nat.le_refl _)))
      have HR1 : Hid (∀ j, i + 1 ≤ j → j < k → ASl w1 (h j) (h (j + 1)) (s j) (n j) (f j)) := fun j h1 h2 => (HRW.out j (by omega) h2).only hon (Or.inr (HO.out.le h1 (by omega)))
      clear hon C ci
      go_wp2_with fail
      go_roundw
      case rel => exact ⟨i + 1, by omega, by have h1 := HQ.out; have h2 := HTN.out; have h3 := HNI.out; (congr 1; omega), by go_num, HN1.out, HR1.out⟩
      case measure => simp [intOf]; omega
    · have hii : ¬ (i : Int) < (k : Int) := by omega
      obtain rfl : i = k := by omega
      go_wp2_with fail
      go_ret
      exact ⟨by have h9 := HQ.out; (show Ending.returned (Value.int .i64 (q : Int)) = _); (congr 2; omega), HON.out⟩
end Go.Proofs.Ytfeolbgenpknfaa
