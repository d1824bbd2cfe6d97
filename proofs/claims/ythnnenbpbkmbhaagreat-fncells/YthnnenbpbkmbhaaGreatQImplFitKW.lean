/- What is proved here: the program's CellsFit says whether a text passes right cells; nothing that was there turns. -/
import Derived.Test.YthnnenbpbkmbhaaGreatQCellMToFitKM
import Derived.Test.YthnnenbpbkmbhaaGreatQPassMToPassedW
import Derived.Test.YthnnenbpbkmbhaaGreatQClassRightWToPickW
namespace Go.Proofs.YthnnenbpbkmbhaaGreat
open Go.RowKit

open Classical in
set_option maxRecDepth 100000 in
set_option maxHeartbeats 4000000 in
theorem implFitK_any (sa : Option Addr) (n cap : Nat) (f : Nat → Cel) (t : ByteArray) (w : World) (hn : n ≤ maxLen) (hr : CRow w w.heap.size sa n f) (hc : ∀ i, i < n → (f i).c.size ≤ maxLen) (hts : t.size ≤ maxLen) :
    Calls Tryz.prog 14 #[.slice sa n cap, .string t] w fun e w' => e = .returned (.bool (decide (FitK n f t))) ∧ Below w.heap.size w w' := by
  unfold maxLen at hts
  by_cases h8 : 8000 < (t.size : Int)
  · have hno : ¬ FitK n f t := fun h => by have := h.1; omega
    rw [decide_eq_false hno]
    go_enter Tryz.func14, Tryz.ntmps14
    go_wp2_with fail
    go_ret
    exact ⟨rfl, Below.refl _ _⟩
  by_cases h : CellsOk n f
  · have C := rowOf_yes sa n cap f w hn hr hc h
    have HC : Hid (CellsOk n f) := h
    have HR : Hid (CRow w w.heap.size sa n f) := hr
    have HSZ : Hid (∀ i, i < n → (f i).c.size ≤ 256) := okSize (fun i _ hi => right_size hi) h
    have hn60 := h.2.1
    clear hn hr hc h
    go_enter Tryz.func14, Tryz.ntmps14
    go_wp2_with fail
    refine C.mono ?_
    rintro e w1 ⟨b, sk, lo, rfl, hbl, hb1, hsk, hlo, hrow⟩
    have B1 : Hid (Below w.heap.size w w1) := hb1
    have R1 : Hid (CRow w1 b sa n f) := (HR.out.kept hb1).up hbl
    have HSK : Hid (IsBits sk (behind (fun i => (f i).k) n)) := hsk
    have HLO : Hid (IsBits lo (behind (fun i => (f i).o) n)) := hlo
    have K1 : Hid (Ready w1 b sa n cap sk lo f) := Or.inl hrow
    have hblt := hrow.lt
    have CL := closed_any b 1 sk n (behind (fun i => (f i).k) n) (fun j => decide (0 = j)) w1 hn60 hrow.c1 hrow.lt hsk (behind_le _ n) (bits_pow (k := 0) (by omega)) (fun j hj => decide_eq_false (by omega))
    rw [show ((1 : Nat) : Int) = (1 : Int) from rfl] at CL
    clear C hb1 hsk hlo hrow
    go_wp2_with fail
    refine CL.mono ?_
    rintro e w2 ⟨x0, rfl, hx0, hw2⟩
    rw [hw2]
    have HX0 : Hid (IsBits x0 (runB f n t 0)) := hx0
    clear CL hx0 hw2 w2
    have FIN : Hid (∀ (k x : Nat), k ≤ t.size → IsBits x (runB f n t k) → (k = t.size ∨ x = 0) → x / 2 ^ n % 2 = if decide (FitK n f t) = true then 1 else 0) := fun k x hk hx hor => by
      rw [bit_of hx]
      have h9 : runB f n t k n = true ↔ FitK n f t := by
        rcases hor with rfl | rfl
        · exact ⟨fun h => ⟨by omega, HC.out, h⟩, fun h => h.2.2⟩
        · have h7 := hx.none.1 rfl
          have h6 := runB_none h7 (t.size - k) n
          rw [show k + (t.size - k) = t.size by omega] at h6
          exact ⟨fun h => (by rw [h7 n] at h; cases h), fun h => (by rw [h.2.2] at h6; cases h6)⟩
      by_cases h10 : FitK n f t
      · rw [if_pos (h9.2 h10), decide_eq_true h10, if_pos rfl]
      · rw [if_neg (fun h => h10 (h9.1 h)), decide_eq_false h10, if_neg (by simp)]
    obtain ⟨D, hD⟩ : ∃ D, decide (FitK n f t) = D := ⟨_, rfl⟩
    have HD : Hid (decide (FitK n f t) = D) := hD
    rw [hD] at FIN
    clear hD
    go_wp2_with fail
    go_loopw [6, 7] (fun av iv wr => ∃ k x : Nat, k ≤ t.size ∧ iv = .int .i64 (k : Int) ∧ av = .int .u64 (x : Int) ∧ IsBits x (runB f n t k) ∧ Ready wr b sa n cap sk lo f ∧ w1.grownBy wr (some b)) (fun _ iv _ => t.size - (intOf iv).toNat)
    case atStart => exact ⟨0, x0, Nat.zero_le _, rfl, rfl, HX0.out, K1.out, World.grownBy.refl _ _⟩
    case round =>
      obtain ⟨k, x, hk, rfl, rfl, hx, hrd, hgr⟩ := hrel
      have HX : Hid (IsBits x (runB f n t k)) := hx
      have HK : Hid (Ready wr b sa n cap sk lo f) := hrd
      have HG : Hid (w1.grownBy wr (some b)) := hgr
      have BF : Hid (∀ W : World, w1.grownBy W (some b) → Below w.heap.size w W) := fun W hg => B1.out.trans ⟨hg.os, hg.tape, hg.output, hg.size, fun j hj => hg.block j (Nat.lt_of_lt_of_le hj B1.out.size) (fun e => by injection e with e; omega)⟩
      by_cases hgo : k < t.size ∧ x ≠ 0
      · obtain ⟨hkl, hxn⟩ := hgo
        have hki : (k : Int) < (t.size : Int) := by omega
        have hk0 : (0 : Int) ≤ (k : Int) := by omega
        have hxb : ((x : Int) != 0) = true := by simpa using hxn
        have hdk : decide ((k : Int) < (t.size : Int)) = true := decide_eq_true hki
        obtain ⟨y, hy⟩ : ∃ y, t[k].toNat = y := ⟨_, rfl⟩
        have hy256 : y < 256 := by rw [← hy]; exact t[k].toNat_lt
        have HRN : Hid (∀ z, IsBits z (cloB (behind (fun i => (f i).k) n) (passB f n (runB f n t k) y)) → IsBits z (runB f n t (k + 1))) := fun z hz => by
          show IsBits z (cloB (behind (fun i => (f i).k) n) (passB f n (runB f n t k) (if h : k < t.size then t[k].toNat else 0)))
          rw [dif_pos hkl, hy]
          exact hz
        have CP := passed_any b sa n cap sk lo x y f (runB f n t k) wr hn60 hy256 HSZ.out (cells_grown R1.out hgr hblt) hrd HSK.out HLO.out hx (runB_le f n t k)
        clear hx hrd hgr hxn FIN
        go_wp2_with fail
        refine CP.mono ?_
        rintro e w3 ⟨z, rfl, hz, hrd3, hg3⟩
        have HZ : Hid (IsBits z (runB f n t (k + 1))) := HRN.out z hz
        have HK3 : Hid (Ready w3 b sa n cap sk lo f) := hrd3
        have HG3 : Hid (w1.grownBy w3 (some b)) := HG.out.trans hg3
        clear CP hz hrd3 hg3
        go_wp2_with fail
        go_roundw
        case rel => exact ⟨k + 1, z, by omega, by go_num, rfl, HZ.out, HK3.out, HG3.out⟩
        case measure => simp [intOf]; omega
      · have hor : k = t.size ∨ x = 0 := by omega
        have hfin := FIN.out k x hk hx hor
        have hsh : (x : Int) / 2 ^ n = ((x / 2 ^ n : Nat) : Int) := by simp
        have hxl : x / 2 ^ n < 18446744073709551616 := Nat.lt_of_le_of_lt (Nat.div_le_self _ _) hx.lt
        have hand := and_one64 hxl
        rw [hfin] at hand
        have hni : (0 : Int) ≤ (n : Int) := by omega
        generalize x / 2 ^ n = y at *
        clear hx hrd hgr hfin hgo
        have hgd : (decide ((k : Int) < (t.size : Int)) = true ∧ ((x : Int) != 0) = false) ∨ (decide ((k : Int) < (t.size : Int)) = false ∧ ¬ (k : Int) < (t.size : Int)) := by
          by_cases h7 : (k : Int) < (t.size : Int)
          · exact Or.inl ⟨decide_eq_true h7, by rcases hor with h6 | h6 <;> first | omega | simp [h6]⟩
          · exact Or.inr ⟨decide_eq_false h7, h7⟩
        rcases hgd with ⟨g1, g2⟩ | ⟨g1, g2⟩
        · have g3 : (k : Int) < (t.size : Int) := of_decide_eq_true g1
          cases D with
          | true =>
            simp only [if_true] at hand
            go_wp2_with fail
            go_ret
            exact ⟨by rw [HD.out]; rfl, BF.out _ HG.out⟩
          | false =>
            simp only [Bool.false_eq_true, if_false] at hand
            go_wp2_with fail
            go_ret
            exact ⟨by rw [HD.out]; rfl, BF.out _ HG.out⟩
        · cases D with
          | true =>
            simp only [if_true] at hand
            go_wp2_with fail
            go_ret
            exact ⟨by rw [HD.out]; rfl, BF.out _ HG.out⟩
          | false =>
            simp only [Bool.false_eq_true, if_false] at hand
            go_wp2_with fail
            go_ret
            exact ⟨by rw [HD.out]; rfl, BF.out _ HG.out⟩
  · have C := rowOf_no sa n cap f w hn hr hc h
    have hno : ¬ FitK n f t := fun hp => h hp.2.1
    rw [decide_eq_false hno]
    clear hn hr hc h hno
    go_enter Tryz.func14, Tryz.ntmps14
    go_wp2_with fail
    refine C.mono ?_
    rintro e w1 ⟨rfl, hb1⟩
    have B1 : Hid (Below w.heap.size w w1) := hb1
    clear hb1 C
    go_wp2_with fail
    go_ret
    exact ⟨rfl, B1.out⟩
end Go.Proofs.YthnnenbpbkmbhaaGreat
