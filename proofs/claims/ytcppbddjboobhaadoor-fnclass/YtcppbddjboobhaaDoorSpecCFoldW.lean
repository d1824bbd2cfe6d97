/- What is proved here: the specification's ClassFold hands back the class with the other case of each letter in it, or nothing; nothing that was there turns. -/
import Derived.Test.YtcppbddjboobhaaDoorClassRightW
import Derived.Test.YtcppbddjboobhaaDoorClassRowW
namespace Go.Proofs.YtcppbddjboobhaaDoor
open Go.RowKit

theorem fold_step (f : Nat → Bool) (k : Nat) (hk : k < 26) (i : Nat) : (if i = 65 + k + 32 then (foldB f k (65 + k) || foldB f k (65 + k + 32)) else if i = 65 + k then (foldB f k (65 + k) || foldB f k (65 + k + 32)) else foldB f k i) = foldB f (k + 1) i := by
  have e1 : foldB f k (65 + k) = f (65 + k) := by unfold foldB; rw [if_neg (by omega), if_neg (by omega)]
  have e2 : foldB f k (65 + k + 32) = f (65 + k + 32) := by unfold foldB; rw [if_neg (by omega), if_neg (by omega)]
  rw [e1, e2]
  by_cases h1 : i = 65 + k + 32
  · subst h1
    rw [if_pos rfl]
    unfold foldB
    rw [if_neg (by omega), if_pos (by omega), show 65 + k + 32 - 32 = 65 + k from by omega]
  · rw [if_neg h1]
    by_cases h2 : i = 65 + k
    · subst h2
      rw [if_pos rfl]
      unfold foldB
      rw [if_pos (by omega)]
    · rw [if_neg h2]
      unfold foldB
      by_cases h3 : 65 ≤ i ∧ i < 65 + k
      · rw [if_pos h3, if_pos (by omega)]
      · by_cases h4 : 97 ≤ i ∧ i < 97 + k
        · rw [if_neg h3, if_pos h4, if_neg (by omega), if_pos (by omega)]
        · rw [if_neg h3, if_neg h4, if_neg (by omega), if_neg (by omega)]
set_option maxRecDepth 100000 in
set_option maxHeartbeats 2000000 in
theorem l03Fold_any (c : ByteArray) (w : World) (hc : c.size ≤ maxLen) :
    Calls Tryd.prog 121 #[.string c] w fun e w' => e = .returned (.string (classT (foldB (hasByte c) 26))) ∧ Below w.heap.size w w' := by
  have HC : Hid (c.size ≤ maxLen) := hc
  clear hc
  go_enter Tryd.func121, Tryd.ntmps121
  go_wp2_with fail
  refine (l03Row_any c w HC.out).mono ?_
  rintro e w3 ⟨g, rfl, hg, hb3, ho3⟩
  have B3 : Hid (Below w.heap.size w w3) := hb3
  have O3 : Hid (OwnB w3 g 256 (hasByte c)) := ho3
  clear hb3 ho3
  go_wp2
  go_loopw [4, 5] (fun i _ wr => ∃ j : Nat, 65 ≤ j ∧ j ≤ 91 ∧ i = .int .i32 (j : Int) ∧ Below w.heap.size w wr ∧ OwnB wr g 256 (foldB (hasByte c) (j - 65))) (fun i _ _ => 91 - (intOf i).toNat)
  case atStart => exact ⟨65, by omega, by omega, rfl, B3.out, O3.out.congr (fun i _ => (foldB_zero _ i).symm)⟩
  case round =>
    obtain ⟨j, hj0, hj1, rfl, hbel, hown⟩ := hrel
    have HW : Hid (Below w.heap.size w wr) := hbel
    have HX : Hid (OwnB wr g 256 (foldB (hasByte c) (j - 65))) := hown
    by_cases hlt : j ≤ 90
    · obtain ⟨x, hx⟩ : ∃ x, foldB (hasByte c) (j - 65) j = x := ⟨_, rfl⟩
      obtain ⟨y, hy⟩ : ∃ y, foldB (hasByte c) (j - 65) (j + 32) = y := ⟨_, rfl⟩
      have cx := hown.2.1 j (by omega)
      have cy := hown.2.1 (j + 32) (by omega)
      have fx := hown.2.2 j (by omega)
      have fy := hown.2.2 (j + 32) (by omega)
      have lg := hown.1
      rw [hx] at cx
      rw [hy] at cy
      have HXY : Hid (foldB (hasByte c) (j - 65) j = x ∧ foldB (hasByte c) (j - 65) (j + 32) = y) := ⟨hx, hy⟩
      have hjz : (0 : Int) ≤ (j : Int) := by omega
      have hjl : (j : Int) ≤ 90 := by omega
      obtain ⟨q, hq⟩ : ∃ q : Nat, (j : Int) + 32 = (q : Int) ∧ q = j + 32 := ⟨j + 32, by omega, rfl⟩
      rw [← hq.2] at cy fy
      have HQ : Hid (q = j + 32) := hq.2
      have hq1 := hq.1
      have hql : (q : Int) < 256 := by omega
      have hqz : (0 : Int) ≤ (q : Int) := by omega
      clear hbel hown hx hy hq
      have fin : Hid (OwnB ((wr.setCell ⟨g, j, none⟩ (.bool (x || y))).setCell ⟨g, q, none⟩ (.bool (x || y))) g 256 (foldB (hasByte c) (j + 1 - 65))) := by
        have hfs := fold_step (hasByte c) (j - 65) (by omega)
        rw [show 65 + (j - 65) = j from by omega, HXY.out.1, HXY.out.2, show j - 65 + 1 = j + 1 - 65 from by omega] at hfs
        have hq2 : q = j + 32 := HQ.out
        have h1 := (HX.out.set (p := j) (by omega) (x || y)).set (p := q) (by omega) (x || y)
        exact h1.congr (fun i _ => by rw [← hfs i, hq2])
      cases x
      · go_wp2
        go_roundw
        case rel => exact ⟨j + 1, by omega, by omega, by go_num, (HW.out.setCell (by show w.heap.size ≤ g; omega) _).setCell (by show w.heap.size ≤ g; omega) _, by simpa using fin.out⟩
        case measure => simp [intOf]; omega
      · go_wp2
        go_roundw
        case rel => exact ⟨j + 1, by omega, by omega, by go_num, (HW.out.setCell (by show w.heap.size ≤ g; omega) _).setCell (by show w.heap.size ≤ g; omega) _, by simpa using fin.out⟩
        case measure => simp [intOf]; omega
    · have hge : ¬ (j : Int) ≤ 90 := by omega
      obtain rfl : j = 91 := by omega
      clear hbel hown
      go_wp2_with fail
      refine (l03From_any g _ wr HX.out).mono ?_
      rintro e w5 ⟨rfl, hb5⟩
      have B5 : Hid (Below w.heap.size w w5) := HW.out.trans (hb5.mono HW.out.size)
      clear hb5
      go_wp2
      go_ret
      exact ⟨rfl, B5.out⟩
open Classical in
set_option maxHeartbeats 1000000 in
theorem specCFold_yes (c : ByteArray) (w : World) (hc : c.size ≤ maxLen) (h1 : RightC c) :
    Calls Tryd.prog 61 #[.string c] w fun e w' => e = .returned (.string (classT (foldB (hasByte c) 26))) ∧ Below w.heap.size w w' := by
  have C1 := fun W => specRightC_any c W hc
  rw [decide_eq_true h1] at C1
  have R1 : Hid (∀ W, Calls Tryd.prog 63 #[.string c] W fun e w' => e = .returned (.bool true) ∧ Below W.heap.size W w') := C1
  have HC : Hid (c.size ≤ maxLen) := hc
  clear C1 h1 hc
  go_enter Tryd.func61, Tryd.ntmps61
  go_wp2_with fail
  refine (R1.out _).mono ?_
  rintro e w1 ⟨rfl, hb1⟩
  have B1 : Hid (Below w.heap.size w w1) := hb1
  clear hb1
  go_wp2_with fail
  refine (l03Fold_any c w1 HC.out).mono ?_
  rintro e w2 ⟨rfl, hb2⟩
  have B2 : Hid (Below w.heap.size w w2) := B1.out.trans (hb2.mono B1.out.size)
  clear hb2
  go_wp2
  go_ret
  exact ⟨rfl, B2.out⟩
open Classical in
set_option maxHeartbeats 1000000 in
theorem specCFold_no (c : ByteArray) (w : World) (hc : c.size ≤ maxLen) (h1 : ¬ RightC c) :
    Calls Tryd.prog 61 #[.string c] w fun e w' => e = .returned (.string ⟨#[]⟩) ∧ Below w.heap.size w w' := by
  have C1 := fun W => specRightC_any c W hc
  rw [decide_eq_false h1] at C1
  have R1 : Hid (∀ W, Calls Tryd.prog 63 #[.string c] W fun e w' => e = .returned (.bool false) ∧ Below W.heap.size W w') := C1
  clear C1 h1 hc
  go_enter Tryd.func61, Tryd.ntmps61
  go_wp2_with fail
  refine (R1.out _).mono ?_
  rintro e w1 ⟨rfl, hb1⟩
  have B1 : Hid (Below w.heap.size w w1) := hb1
  clear hb1
  go_wp2
  go_ret
  exact ⟨rfl, B1.out⟩
end Go.Proofs.YtcppbddjboobhaaDoor
