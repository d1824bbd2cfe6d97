/- What is proved here: the laws' helpers over a slice of cells, begun at any number: what is left of a size, the marks. -/
import Derived.Test.YtbdjjggaahjjpaaQCellH
import Derived.Test.YtbdjjggaahjjpaaQCellMkW
namespace Go.Proofs.Ytbdjjggaahjjpaa
open Go.RowKit

/-- A marked cell, the marks begun at a number. -/
def markD (q i : Nat) : Cel := ⟨mtext (q + i * 3), (q + i * 3 + 1) % 3 == 0, (q + i * 3 + 2) % 3 == 0⟩
theorem mod3_int (m : Nat) : ((m : Int) % 3 == 0) = (m % 3 == 0) := by
  rw [Bool.eq_iff_iff]
  simp
  omega
set_option maxHeartbeats 1000000 in
theorem szCellsAt_any (sa : Option Addr) (n cap : Nat) (f : Nat → Cel) (lf : Int) (w : World) (hl0 : 0 ≤ lf) (hl9 : lf ≤ 1048576) (hn : n ≤ maxLen) (hr : CRow w w.heap.size sa n f) (hc : ∀ i, i < n → (f i).c.size ≤ maxLen) :
    Calls Try.prog 40 #[.slice sa n cap, .int .i64 lf] w fun e w' => (∃ z : Int, e = .returned (.int .i64 z) ∧ (z < 0 ∨ (0 ≤ z ∧ z + (n : Int) ≤ lf ∧ ∀ i, i < n → (f i).c.size ≤ 1048576))) ∧ Below w.heap.size w w' := by
  unfold maxLen at hn
  have HC : Hid (∀ i, i < n → (f i).c.size ≤ maxLen) := hc
  have HR : Hid (CRow w w.heap.size sa n f) := hr
  clear hc hr
  by_cases hb : lf < (n : Int)
  · have h' : lf - (n : Int) < 0 := by omega
    go_enter Try.func40, Try.ntmps40
    go_wp2
    go_ret
    exact ⟨⟨-1, rfl, Or.inl (by omega)⟩, Below.refl _ _⟩
  · have h' : ¬ lf - (n : Int) < 0 := by omega
    go_enter Try.func40, Try.ntmps40
    go_wp2
    go_loopw [1, 5] (fun lv i wr => ∃ (k : Nat) (left : Int), k ≤ n ∧ i = .int .i64 (k : Int) ∧ lv = .int .i64 left ∧ 0 ≤ left ∧ left + (n : Int) ≤ lf ∧ Below w.heap.size w wr ∧ ∀ i, i < k → (f i).c.size ≤ 1048576) (fun _ i _ => n - (intOf i).toNat)
    case atStart => exact ⟨0, _, Nat.zero_le _, rfl, rfl, by omega, by omega, Below.refl _ _, fun i hi => by omega⟩
    case round =>
      obtain ⟨k, left, hk, rfl, rfl, hl0, hl1, hbel, hall⟩ := hrel
      have HB : Hid (Below w.heap.size w wr) := hbel
      have HA : Hid (∀ i, i < k → (f i).c.size ≤ 1048576) := hall
      clear hall
      by_cases hkl : k < n
      · obtain ⟨bb, off, rfl, hbb, hat⟩ := HR.out.at hbel hkl
        obtain ⟨c0, c1, c2⟩ := hat
        have hck := HC.out k hkl
        have HK : Hid ((f k).c.size ≤ maxLen) := hck
        clear hbel hck
        have hki : (k : Int) < (n : Int) := by omega
        have hk0 : (0 : Int) ≤ (k : Int) := by omega
        obtain ⟨a, ha⟩ : ∃ a, f k = a := ⟨_, rfl⟩
        have HF : Hid (f k = a) := ha
        rw [ha] at c0 c1 c2 HK
        clear ha
        by_cases hs : left < (a.c.size : Int)
        · go_wp2_with (go_at_call 71; refine (szCell_any a left _ HK.out hl0 (by omega)).mono ?_; rintro e w1 ⟨rfl, hb1⟩; rw [if_pos hs]; have HB1 : Hid (Below w.heap.size w w1) := HB.out.trans (hb1.mono HB.out.size); clear hb1)
          go_ret
          exact ⟨⟨-1, rfl, Or.inl (by omega)⟩, HB1.out⟩
        · have hs' : ¬ left - (a.c.size : Int) < 0 := by omega
          go_wp2_with (go_at_call 71; refine (szCell_any a left _ HK.out hl0 (by omega)).mono ?_; rintro e w1 ⟨rfl, hb1⟩; rw [if_neg hs]; have HB1 : Hid (Below w.heap.size w w1) := HB.out.trans (hb1.mono HB.out.size); clear hb1)
          go_roundw
          case rel => exact ⟨k + 1, _, by omega, by go_num, rfl, by omega, by omega, HB1.out, fun i hi => by
            by_cases e : i = k
            · subst e; rw [HF.out]; omega
            · exact HA.out i (by omega)⟩
          case measure => simp [intOf]; omega
      · have hki : ¬ (k : Int) < (n : Int) := by omega
        clear hbel
        go_wp2
        go_ret
        exact ⟨⟨left, rfl, Or.inr ⟨hl0, hl1, fun i hi => HA.out i (by omega)⟩⟩, HB.out⟩

set_option maxRecDepth 100000 in
set_option maxHeartbeats 2000000 in
theorem markCAt_own (g n cap q0 : Nat) (f : Nat → Cel) (w : World) (hn : n ≤ 1048576) (hq0 : 0 < q0) (hq9 : q0 ≤ 8000000) (ho : COwn w g n f) :
    Calls Try.prog 46 #[.slice (some ⟨g, 0, none⟩) n cap, .int .i64 (q0 : Int)] w fun e w' => e = .returned (.int .i64 ((q0 + n * 3 : Nat) : Int)) ∧ w.grownBy w' (some g) ∧ COwn w' g n (markD q0) := by
  have HO : Hid (COwn w g n f) := ho
  clear ho
  go_enter Try.func46, Try.ntmps46
  go_wp2
  go_loopw [1, 5] (fun kv i wr => ∃ j : Nat, j ≤ n ∧ kv = .int .i64 ((q0 + j * 3 : Nat) : Int) ∧ i = .int .i64 (j : Int) ∧ w.grownBy wr (some g) ∧ COwn wr g n (fun i => if i < j then markD q0 i else f i)) (fun _ i _ => n - (intOf i).toNat)
  case atStart => exact ⟨0, Nat.zero_le _, rfl, rfl, World.grownBy.refl _ _, HO.out.congr (fun i _ => by simp)⟩
  case round =>
    obtain ⟨j, hj, rfl, rfl, hgr, hown⟩ := hrel
    have HG : Hid (w.grownBy wr (some g)) := hgr
    have HW : Hid (COwn wr g n (fun i => if i < j then markD q0 i else f i)) := hown
    have hsz := hown.lt
    clear hgr hown
    by_cases hjl : j < n
    · have hji : (j : Int) < (n : Int) := by omega
      have hj0 : (0 : Int) ≤ (j : Int) := by omega
      obtain ⟨q, hq⟩ : ∃ q, q0 + j * 3 = q := ⟨_, rfl⟩
      have HQ : Hid (q0 + j * 3 = q) := hq
      have hq1 : 0 < q := by omega
      have hq2 : q ≤ 16000000 := by omega
      rw [hq]
      clear hq
      go_wp2_with fail
      refine (markText_any q _ hq1 (by omega)).mono ?_
      rintro e w1 ⟨rfl, hb1⟩
      have HW1 : Hid (COwn w1 g n (fun i => if i < j then markD q0 i else f i)) := HW.out.kept hb1 hsz
      have HG1 : Hid (w.grownBy w1 (some g)) := HG.out.trans (grown_of_belowC hb1)
      have hsz1 := HW1.out.lt
      obtain ⟨⟨d0, d1, d2⟩, e0, e1, e2⟩ := HW1.out.parts hjl
      clear hb1
      obtain ⟨bk, hbk⟩ : ∃ x, ((q + 1) % 3 == 0) = x := ⟨_, rfl⟩
      obtain ⟨bo, hbo⟩ : ∃ x, ((q + 2) % 3 == 0) = x := ⟨_, rfl⟩
      have HM : Hid (markD q0 j = ⟨mtext q, bk, bo⟩) := by show markD q0 j = _; unfold markD; rw [HQ.out, hbk, hbo]
      have hr1 : (((q : Int) + 1) % 3 == 0) = bk := by rw [← hbk]; exact mod3_int (q + 1)
      have hr2 : (((q : Int) + 1 + 1) % 3 == 0) = bo := by rw [← hbo]; exact mod3_int (q + 2)
      have hr3 : (Int.tmod ((q : Int) + 1) 3 == 0) = bk := by rw [Int.tmod_eq_emod_of_nonneg (by omega)]; exact hr1
      have hr4 : (Int.tmod ((q : Int) + 1 + 1) 3 == 0) = bo := by rw [Int.tmod_eq_emod_of_nonneg (by omega)]; exact hr2
      clear hbk hbo
      generalize mtext q = tq at *
      go_wp2
      go_roundw
      case rel =>
        refine ⟨j + 1, by omega, ?_, by go_num, only_setMC (only_setMC (only_setMC HG1.out)), ?_⟩
        · congr 1
          have := HQ.out
          omega
        · have h1 := HW1.out.set hjl (markD q0 j)
          rw [HM.out] at h1
          simp only at h1
          refine h1.congr (fun i hi => ?_)
          by_cases e : i = j
          · subst e
            rw [if_pos rfl, if_pos (by omega), HM.out]
          · rw [if_neg e]
            by_cases e2 : i < j
            · rw [if_pos e2, if_pos (by omega)]
            · rw [if_neg e2, if_neg (by omega)]
      case measure => simp [intOf]; omega
    · have hji : ¬ (j : Int) < (n : Int) := by omega
      obtain rfl : j = n := by omega
      go_wp2
      go_ret
      exact ⟨rfl, HG.out, HW.out.congr (fun i hi => if_pos (by omega))⟩
theorem markCAt_none (sa : Option Addr) (cap q0 : Nat) (w : World) :
    Calls Try.prog 46 #[.slice sa 0 cap, .int .i64 (q0 : Int)] w fun e w' => e = .returned (.int .i64 (q0 : Int)) ∧ w' = w := by
  go_enter Try.func46, Try.ntmps46
  go_wp2
  go_loopw [1, 5] (fun kv i wr => kv = .int .i64 (q0 : Int) ∧ i = .int .i64 0 ∧ wr = w) (fun _ _ _ => 0)
  case atStart => exact ⟨rfl, rfl, rfl⟩
  case round =>
    obtain ⟨rfl, rfl, rfl⟩ := hrel
    go_wp2
    go_ret
    exact ⟨rfl, rfl⟩
theorem markCAt_any (sa : Option Addr) (n cap lo hi q0 : Nat) (f : Nat → Cel) (w : World) (hn : n ≤ 1048576) (hq0 : 0 < q0) (hq9 : q0 ≤ 8000000) (ho : CSl w lo hi sa n f) :
    Calls Try.prog 46 #[.slice sa n cap, .int .i64 (q0 : Int)] w fun e w' => e = .returned (.int .i64 ((q0 + n * 3 : Nat) : Int)) ∧ OnlyC w w' lo hi ∧ CSl w' lo hi sa n (markD q0) := by
  rcases Nat.eq_zero_or_pos n with rfl | hp
  · refine (markCAt_none sa cap q0 w).mono ?_
    rintro e w' ⟨rfl, rfl⟩
    exact ⟨rfl, ⟨none, World.grownBy.refl _ _, fun _ h => by cases h⟩, Or.inl rfl⟩
  · rcases ho with rfl | ⟨g, rfl, hlo, hhi, ho⟩
    · omega
    · refine (markCAt_own g n cap q0 f w hn hq0 hq9 ho).mono ?_
      rintro e w' ⟨rfl, hg, ho'⟩
      exact ⟨rfl, ⟨some g, hg, fun g' h => by cases h; exact ⟨hlo, hhi⟩⟩, Or.inr ⟨g, rfl, hlo, hhi, ho'⟩⟩

set_option maxRecDepth 100000 in
set_option maxHeartbeats 2000000 in
theorem heldCAt_any (sa : Option Addr) (n cap q0 : Nat) (w : World) (hn : n ≤ 1048576) (hq0 : 0 < q0) (hq9 : q0 ≤ 8000000) (hr : CRow w w.heap.size sa n (markD q0)) :
    Calls Try.prog 90 #[.slice sa n cap, .int .i64 (q0 : Int)] w fun e w' => e = .returned (.int .i64 ((q0 + n * 3 : Nat) : Int)) ∧ Below w.heap.size w w' := by
  have HR : Hid (CRow w w.heap.size sa n (markD q0)) := hr
  clear hr
  go_enter Try.func90, Try.ntmps90
  go_wp2
  go_loopw [1, 5] (fun kv i wr => ∃ j : Nat, j ≤ n ∧ kv = .int .i64 ((q0 + j * 3 : Nat) : Int) ∧ i = .int .i64 (j : Int) ∧ Below w.heap.size w wr) (fun _ i _ => n - (intOf i).toNat)
  case atStart => exact ⟨0, Nat.zero_le _, rfl, rfl, Below.refl _ _⟩
  case round =>
    obtain ⟨j, hj, rfl, rfl, hbel⟩ := hrel
    have HB : Hid (Below w.heap.size w wr) := hbel
    by_cases hjl : j < n
    · obtain ⟨bb, off, rfl, hbb, hat⟩ := HR.out.at hbel hjl
      have hji : (j : Int) < (n : Int) := by omega
      have hj0 : (0 : Int) ≤ (j : Int) := by omega
      obtain ⟨q, hq⟩ : ∃ q, q0 + j * 3 = q := ⟨_, rfl⟩
      have HQ : Hid (q0 + j * 3 = q) := hq
      have hq1 : 0 < q := by omega
      have hq2 : q ≤ 16000000 := by omega
      obtain ⟨bk, hbk⟩ : ∃ x, ((q + 1) % 3 == 0) = x := ⟨_, rfl⟩
      obtain ⟨bo, hbo⟩ : ∃ x, ((q + 2) % 3 == 0) = x := ⟨_, rfl⟩
      have hM : markD q0 j = ⟨mtext q, bk, bo⟩ := by unfold markD; rw [hq, hbk, hbo]
      have hr1 : (((q : Int) + 1) % 3 == 0) = bk := by rw [← hbk]; exact mod3_int (q + 1)
      have hr2 : (((q : Int) + 1 + 1) % 3 == 0) = bo := by rw [← hbo]; exact mod3_int (q + 2)
      have hr3 : (Int.tmod ((q : Int) + 1) 3 == 0) = bk := by rw [Int.tmod_eq_emod_of_nonneg (by omega)]; exact hr1
      have hr4 : (Int.tmod ((q : Int) + 1 + 1) 3 == 0) = bo := by rw [Int.tmod_eq_emod_of_nonneg (by omega)]; exact hr2
      clear hbk hbo
      rw [hM] at hat
      obtain ⟨c0, c1, c2⟩ := hat
      simp only at c0 c1 c2
      have MT : Hid (∀ W, Calls Try.prog 77 #[.int .i64 (q : Int)] W fun e w' => e = .returned (.string (mtext q)) ∧ Below W.heap.size W w') := fun W => markText_any q W hq1 (by omega)
      generalize mtext q = tq at *
      rw [hq]
      have hlt : bb < wr.heap.size := Nat.lt_of_lt_of_le hbb hbel.size
      clear hq hM hbel
      go_wp2
      go_region_with (go_at_call 77; refine (MT.out _).mono ?_; rintro e w1 ⟨rfl, hb1⟩; have c3 := hb1.cell (p := ⟨bb, off + j * 3, none⟩) hlt; have c4 := hb1.cell (p := ⟨bb, off + j * 3 + 1, none⟩) hlt; have c5 := hb1.cell (p := ⟨bb, off + j * 3 + 2, none⟩) hlt; have HB1 : Hid (Below w.heap.size w w1) := HB.out.drew.trans (hb1.mono HB.out.size); simp [c0, c1, c2] at c3 c4 c5; clear hb1)
      all_goals
        go_wp2
        go_roundw
        case rel =>
          refine ⟨j + 1, by omega, ?_, by go_num, HB1.out⟩
          congr 1
          have := HQ.out
          omega
        case measure => simp [intOf]; omega
    · have hji : ¬ (j : Int) < (n : Int) := by omega
      obtain rfl : j = n := by omega
      clear hbel
      go_wp2
      go_ret
      exact ⟨rfl, HB.out⟩
end Go.Proofs.Ytbdjjggaahjjpaa
