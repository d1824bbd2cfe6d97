/- What is proved here: the laws' helpers over a slice of atoms, begun at any number: what is left of a size, the marks. -/
import Derived.Test.YtfeolbgenpknfaaQAtomH
import Derived.Test.YtfeolbgenpknfaaQAtomMkW
namespace Go.Proofs.Ytfeolbgenpknfaa
open Go.RowKit

/-- A marked atom, the marks begun at a number. -/
def markQ (q i : Nat) : Atm := ⟨mtext (q + i * 3), ((q + i * 3 + 1 : Nat) : Int), ((q + i * 3 + 2 : Nat) : Int)⟩
set_option maxHeartbeats 1000000 in
theorem szAtomsAt_any (sa : Option Addr) (n cap : Nat) (f : Nat → Atm) (lf : Int) (w : World) (hl0 : 0 ≤ lf) (hl9 : lf ≤ 1048576) (hn : n ≤ maxLen) (hr : ARow w w.heap.size sa n f) (hc : ∀ i, i < n → (f i).c.size ≤ maxLen) :
    Calls Try.prog 71 #[.slice sa n cap, .int .i64 lf] w fun e w' => (∃ z : Int, e = .returned (.int .i64 z) ∧ (z < 0 ∨ (0 ≤ z ∧ z + (n : Int) ≤ lf ∧ ∀ i, i < n → (f i).c.size ≤ 1048576))) ∧ Below w.heap.size w w' := by
  unfold maxLen at hn
  have HC : Hid (∀ i, i < n → (f i).c.size ≤ maxLen) := hc
  have HR : Hid (ARow w w.heap.size sa n f) := hr
  clear hc hr
  by_cases hb : lf < (n : Int)
  · have h' : lf - (n : Int) < 0 := by omega
    go_enter Try.func71, Try.ntmps71
    go_wp2
    go_ret
    exact ⟨⟨-1, rfl, Or.inl (by omega)⟩, Below.refl _ _⟩
  · have h' : ¬ lf - (n : Int) < 0 := by omega
    go_enter Try.func71, Try.ntmps71
    go_wp2
    go_loopw [1, 5] (fun lv i wr => ∃ (k : Nat) (left : Int), k ≤ n ∧ i = .int .i64 (k : Int) ∧ lv = .int .i64 left ∧ 0 ≤ left ∧ left + (n : Int) ≤ lf ∧ Below w.heap.size w wr ∧ ∀ i, i < k → (f i).c.size ≤ 1048576) (fun _ i _ => n - (intOf i).toNat)
    case atStart => exact ⟨0, _, Nat.zero_le _, rfl, rfl, by omega, by omega, Below.refl _ _, fun i hi => by omega⟩
    case round =>
      obtain ⟨k, left, hk, rfl, rfl, hl0, hl1, hbel, hall⟩ := hrel
      have HB : Hid (Below w.heap.size w wr) := hbel
      have HA : Hid (∀ i, i < k → (f i).c.size ≤ 1048576) := hall
      clear hall
      by_cases hkl : k < n
      · obtain ⟨bb, off, rfl, hbb, hat⟩ := HR.out.at hbel hkl
        obtain ⟨c0, c1, c2⟩ := hat
        have hck := HC.out k hkl
        have HK : Hid ((f k).c.size ≤ maxLen) := hck
        clear hbel hck
        have hki : (k : Int) < (n : Int) := by omega
        have hk0 : (0 : Int) ≤ (k : Int) := by omega
        obtain ⟨a, ha⟩ : ∃ a, f k = a := ⟨_, rfl⟩
        have HF : Hid (f k = a) := ha
        rw [ha] at c0 c1 c2 HK
        clear ha
        by_cases hs : left < (a.c.size : Int)
        · go_wp2_with (go_at_call 102; refine (szAtom_any a left _ HK.out hl0 (by omega)).mono ?_; rintro e w1 ⟨rfl, hb1⟩; rw [if_pos hs]; have HB1 : Hid (Below w.heap.size w w1) := HB.out.trans (hb1.mono HB.out.size); clear hb1)
          go_ret
          exact ⟨⟨-1, rfl, Or.inl (by omega)⟩, HB1.out⟩
        · have hs' : ¬ left - (a.c.size : Int) < 0 := by omega
          go_wp2_with (go_at_call 102; refine (szAtom_any a left _ HK.out hl0 (by omega)).mono ?_; rintro e w1 ⟨rfl, hb1⟩; rw [if_neg hs]; have HB1 : Hid (Below w.heap.size w w1) := HB.out.trans (hb1.mono HB.out.size); clear hb1)
          go_roundw
          case rel => exact ⟨k + 1, _, by omega, by go_num, rfl, by omega, by omega, HB1.out, fun i hi => by
            by_cases e : i = k
            · subst e; rw [HF.out]; omega
            · exact HA.out i (by omega)⟩
          case measure => simp [intOf]; omega
      · have hki : ¬ (k : Int) < (n : Int) := by omega
        clear hbel
        go_wp2
        go_ret
        exact ⟨⟨left, rfl, Or.inr ⟨hl0, hl1, fun i hi => HA.out i (by omega)⟩⟩, HB.out⟩

set_option maxRecDepth 100000 in
set_option maxHeartbeats 2000000 in
theorem markAt_own (g n cap q0 : Nat) (f : Nat → Atm) (w : World) (hn : n ≤ 1048576) (hq0 : 0 < q0) (hq9 : q0 ≤ 4000000) (ho : AOwn w g n f) :
    Calls Try.prog 75 #[.slice (some ⟨g, 0, none⟩) n cap, .int .i64 (q0 : Int)] w fun e w' => e = .returned (.int .i64 ((q0 + n * 3 : Nat) : Int)) ∧ w.grownBy w' (some g) ∧ AOwn w' g n (markQ q0) := by
  have HO : Hid (AOwn w g n f) := ho
  clear ho
  go_enter Try.func75, Try.ntmps75
  go_wp2
  go_loopw [1, 5] (fun kv i wr => ∃ j : Nat, j ≤ n ∧ kv = .int .i64 ((q0 + j * 3 : Nat) : Int) ∧ i = .int .i64 (j : Int) ∧ w.grownBy wr (some g) ∧ AOwn wr g n (fun i => if i < j then markQ q0 i else f i)) (fun _ i _ => n - (intOf i).toNat)
  case atStart => exact ⟨0, Nat.zero_le _, rfl, rfl, World.grownBy.refl _ _, HO.out.congr (fun i _ => by simp)⟩
  case round =>
    obtain ⟨j, hj, rfl, rfl, hgr, hown⟩ := hrel
    have HG : Hid (w.grownBy wr (some g)) := hgr
    have HW : Hid (AOwn wr g n (fun i => if i < j then markQ q0 i else f i)) := hown
    have hsz := hown.lt
    clear hgr hown
    by_cases hjl : j < n
    · have hji : (j : Int) < (n : Int) := by omega
      have hj0 : (0 : Int) ≤ (j : Int) := by omega
      obtain ⟨q, hq⟩ : ∃ q, q0 + j * 3 = q := ⟨_, rfl⟩
      have HQ : Hid (q0 + j * 3 = q) := hq
      have hq1 : 0 < q := by omega
      have hq2 : q ≤ 8000000 := by omega
      rw [hq]
      clear hq
      go_wp2_with fail
      refine (markText_any q _ hq1 (by omega)).mono ?_
      rintro e w1 ⟨rfl, hb1⟩
      have HW1 : Hid (AOwn w1 g n (fun i => if i < j then markQ q0 i else f i)) := HW.out.kept hb1 hsz
      have HG1 : Hid (w.grownBy w1 (some g)) := HG.out.trans (grown_of_below hb1)
      have hsz1 := HW1.out.lt
      obtain ⟨⟨d0, d1, d2⟩, e0, e1, e2⟩ := HW1.out.parts hjl
      clear hb1
      have HM : Hid (markQ q0 j = ⟨mtext q, ((q + 1 : Nat) : Int), ((q + 2 : Nat) : Int)⟩) := by show markQ q0 j = _; unfold markQ; rw [HQ.out]
      generalize mtext q = tq at *
      go_wp2
      go_roundw
      case rel =>
        refine ⟨j + 1, by omega, ?_, by go_num, only_setA (only_setA (only_setA HG1.out)), ?_⟩
        · congr 1
          have := HQ.out
          omega
        · have h1 := HW1.out.set hjl (markQ q0 j)
          rw [HM.out] at h1
          simp only at h1
          rw [show ((q + 1 : Nat) : Int) = (q : Int) + 1 by omega, show ((q + 2 : Nat) : Int) = (q : Int) + 1 + 1 by omega] at h1
          refine h1.congr (fun i hi => ?_)
          by_cases e : i = j
          · subst e
            rw [if_pos rfl, if_pos (by omega), HM.out, show ((q + 1 : Nat) : Int) = (q : Int) + 1 by omega, show ((q + 2 : Nat) : Int) = (q : Int) + 1 + 1 by omega]
          · rw [if_neg e]
            by_cases e2 : i < j
            · rw [if_pos e2, if_pos (by omega)]
            · rw [if_neg e2, if_neg (by omega)]
      case measure => simp [intOf]; omega
    · have hji : ¬ (j : Int) < (n : Int) := by omega
      obtain rfl : j = n := by omega
      go_wp2
      go_ret
      exact ⟨rfl, HG.out, HW.out.congr (fun i hi => if_pos (by omega))⟩
theorem markAt_none (sa : Option Addr) (cap q0 : Nat) (w : World) :
    Calls Try.prog 75 #[.slice sa 0 cap, .int .i64 (q0 : Int)] w fun e w' => e = .returned (.int .i64 (q0 : Int)) ∧ w' = w := by
  go_enter Try.func75, Try.ntmps75
  go_wp2
  go_loopw [1, 5] (fun kv i wr => kv = .int .i64 (q0 : Int) ∧ i = .int .i64 0 ∧ wr = w) (fun _ _ _ => 0)
  case atStart => exact ⟨rfl, rfl, rfl⟩
  case round =>
    obtain ⟨rfl, rfl, rfl⟩ := hrel
    go_wp2
    go_ret
    exact ⟨rfl, rfl⟩
theorem markAt_any (sa : Option Addr) (n cap lo hi q0 : Nat) (f : Nat → Atm) (w : World) (hn : n ≤ 1048576) (hq0 : 0 < q0) (hq9 : q0 ≤ 4000000) (ho : ASl w lo hi sa n f) :
    Calls Try.prog 75 #[.slice sa n cap, .int .i64 (q0 : Int)] w fun e w' => e = .returned (.int .i64 ((q0 + n * 3 : Nat) : Int)) ∧ OnlyA w w' lo hi ∧ ASl w' lo hi sa n (markQ q0) := by
  rcases Nat.eq_zero_or_pos n with rfl | hp
  · refine (markAt_none sa cap q0 w).mono ?_
    rintro e w' ⟨rfl, rfl⟩
    exact ⟨rfl, ⟨none, World.grownBy.refl _ _, fun _ h => by cases h⟩, Or.inl rfl⟩
  · rcases ho with rfl | ⟨g, rfl, hlo, hhi, ho⟩
    · omega
    · refine (markAt_own g n cap q0 f w hn hq0 hq9 ho).mono ?_
      rintro e w' ⟨rfl, hg, ho'⟩
      exact ⟨rfl, ⟨some g, hg, fun g' h => by cases h; exact ⟨hlo, hhi⟩⟩, Or.inr ⟨g, rfl, hlo, hhi, ho'⟩⟩

end Go.Proofs.Ytfeolbgenpknfaa
