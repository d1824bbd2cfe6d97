/- What is proved here: the program's layUp puts words into others, moved up; nothing else turns. -/
import Derived.Test.YtbdjjggaahjjpaaQVecIsMToLayM
import Derived.Test.YtbdjjggaahjjpaaQLaidMToEqualW
import Derived.Test.YtbdjjggaahjjpaaQRowsEqWToRowsW
namespace Go.Proofs.Ytbdjjggaahjjpaa
open Go.RowKit

set_option maxRecDepth 100000 in
set_option maxHeartbeats 2000000 in
theorem layUp_any (g o L cap N m cw u : Nat) (sw : Option Addr) (F h : Nat → Int) (P R : Nat → Bool) (w : World) (hu : u < 32) (hN : N ≤ 10) (hm : m ≤ L) (hL : o + L ≤ N) (hF : Own w g N F) (hr : Row w w.heap.size sw m h) (hg : ∀ bb off : Nat, sw = some ⟨bb, off, none⟩ → bb ≠ g) (hP : VecIs F P N) (hR : VecIs h R m) (hend : ∀ q, R q = true → q + u < 32 * L) :
    Calls Try.prog 96 #[.slice (some ⟨g, o, none⟩) L cap, .slice sw m cw, .int .i64 (u : Int)] w fun e w' => e = .returned (.tuple #[]) ∧ w.grownBy w' (some g) ∧ ∃ F', Own w' g N F' ∧ VecIs F' (layW P R (32 * o + u) m) N := by
  have HR : Hid (Row w w.heap.size sw m h) := hr
  have HF : Hid (Own w g N F) := hF
  have HP : Hid (VecIs F P N) := hP
  have HRV : Hid (VecIs h R m) := hR
  have HG : Hid (∀ bb off : Nat, sw = some ⟨bb, off, none⟩ → bb ≠ g) := hg
  have HEND : Hid (∀ q, R q = true → q + u < 32 * L) := hend
  clear hr hF hP hR hg hend
  go_enter Try.func96, Try.ntmps96
  go_wp2_with fail
  go_loopw [12] (fun iv wr => ∃ (i : Nat) (G : Nat → Int), i ≤ m ∧ iv = .int .i64 (i : Int) ∧ Own wr g N G ∧ VecIs G (layW P R (32 * o + u) i) N ∧ w.grownBy wr (some g)) (fun iv _ => m - (intOf iv).toNat)
  case atStart => exact ⟨0, F, Nat.zero_le _, rfl, HF.out, HP.out.congr (fun j => (layW_zero P R _ j).symm), World.grownBy.refl _ _⟩
  case round =>
    obtain ⟨i, G, him, rfl, hG, hV, hgr⟩ := hrel
    have HV : Hid (VecIs G (layW P R (32 * o + u) i) N) := hV
    have HGR : Hid (w.grownBy wr (some g)) := hgr
    have HGO : Hid (Own wr g N G) := hG
    by_cases hil : i < m
    · have hii : (i : Int) < (m : Int) := by omega
      have hi0 : (0 : Int) ≤ (i : Int) := by omega
      obtain ⟨bb, off, hsw, hbb, ci0⟩ := HR.out.get hil
      have hbg := HG.out bb off hsw
      have ci : wr.cell? ⟨bb, off + i, none⟩ = some (.int .i64 (h i)) := by
        have h9 := hgr.block bb hbb (fun e => hbg (by injection e with e))
        simpa [World.cell?, h9] using ci0
      subst hsw
      have hiL : (i : Int) < (L : Int) := by omega
      have co := hG.2.1 (o + i) (by omega)
      have fo := hG.2.2 (o + i) (by omega)
      obtain ⟨a, ha, ha9, hab⟩ := HRV.out i hil
      obtain ⟨c, hc, hc9, hcb⟩ := hV (o + i) (by omega)
      have hw := up_wrap ha9 hu
      have hy := up_lt ha9 hu
      have HST : Hid (∀ j, layW P R (32 * o + u) (i + 1) j = ((layW P R (32 * o + u) i j || (decide (j / 32 = o + i) && (a * 2 ^ u % 4294967296).testBit (j % 32))) || (decide (j / 32 = o + i + 1) && (a * 2 ^ u / 4294967296).testBit (j % 32)))) := layW_step hu ha9 hab
      have HHZ : Hid (L ≤ i + 1 → a * 2 ^ u / 4294967296 = 0) := high_zero hu hab ha9 HEND.out
      have hand := and_full hy
      obtain ⟨y, hy9⟩ : ∃ y, a * 2 ^ u = y := ⟨_, rfl⟩
      rw [hy9] at hw hand HST HHZ hy
      have hlt := lo_lt y
      have hlh := hi_lt hy
      obtain ⟨yl, hyl⟩ : ∃ z, y % 4294967296 = z := ⟨_, rfl⟩
      rw [hyl] at hand HST hlt
      clear hyl
      have hor := or_words hc9 hlt
      rw [ha] at ci
      rw [hc] at co
      have hu0 : (0 : Int) ≤ (u : Int) := by omega
      have hu9 : (u : Int) < 32 := by omega
      have H1 : Hid (VecIs (fun j => if j = o + i then bits .or .i64 (G (o + i)) (yl : Int) else G j) (fun j => layW P R (32 * o + u) i j || (decide (j / 32 = o + i) && yl.testBit (j % 32))) N) := hV.orW hlt
      have hdiv : (y : Int) / 4294967296 = ((y / 4294967296 : Nat) : Int) := rfl
      have hO1 := hG.set (show o + i < N by omega) ((c ||| yl : Nat) : Int)
      have HO1 : Hid (Own (wr.setCell ⟨g, o + i, none⟩ (.int .i64 ((c ||| yl : Nat) : Int))) g N (fun j => if j = o + i then bits .or .i64 (G (o + i)) (yl : Int) else G j)) := hO1.congr (fun j hj => by
        by_cases e : j = o + i
        · rw [if_pos e, if_pos e, hc, hor]
        · rw [if_neg e, if_neg e])
      have HC9 : Hid (G (o + i) = (c : Int)) := hc
      obtain ⟨hi9, hhi⟩ : ∃ z, y / 4294967296 = z := ⟨_, rfl⟩
      rw [hhi] at hdiv HST HHZ hlh
      obtain ⟨lo9, hlo⟩ : ∃ z, c ||| yl = z := ⟨_, rfl⟩
      rw [hlo] at hor HO1 hO1
      clear hV hG hab hcb ci0 hy9 ha hc hgr hhi
      by_cases hz : hi9 = 0
      · have HST2 : Hid (VecIs (fun j => if j = o + i then bits .or .i64 (G (o + i)) (yl : Int) else G j) (layW P R (32 * o + u) (i + 1)) N) := H1.out.congr (fun j => by
          rw [HST.out j, hz]
          simp)
        subst hz
        clear hO1 hlo
        go_wp2_with fail
        go_roundw
        case rel => exact ⟨i + 1, _, by omega, by go_num, HO1.out, HST2.out, only_set HGR.out⟩
        case measure => simp [intOf]; omega
      · have hiL2 : i + 1 < L := by
          rcases Nat.lt_or_ge (i + 1) L with h | h
          · exact h
          · exact absurd (HHZ.out h) hz
        have hiL3 : (i : Int) + 1 < (L : Int) := by omega
        have hi1 : (0 : Int) ≤ (i : Int) + 1 := by omega
        obtain ⟨d, hd, hd9, _⟩ := H1.out (o + i + 1) (by omega)
        have hz1 : ¬ (hi9 : Int) = 0 := by omega
        have hor2 := or_words hd9 hlh
        have co2 := HO1.out.2.1 (o + i + 1) (by omega)
        have fo2 := HO1.out.2.2 (o + i + 1) (by omega)
        simp only at co2
        have hd0 : (if o + i + 1 = o + i then bits .or .i64 (G (o + i)) (yl : Int) else G (o + i + 1)) = (d : Int) := hd
        rw [hd0] at co2
        have H2 := H1.out.orW (k := o + i + 1) hlh
        have hO2 := HO1.out.set (show o + i + 1 < N by omega) ((d ||| hi9 : Nat) : Int)
        have HO2 : Hid (Own ((wr.setCell ⟨g, o + i, none⟩ (.int .i64 (lo9 : Int))).setCell ⟨g, o + i + 1, none⟩ (.int .i64 ((d ||| hi9 : Nat) : Int))) g N _) := hO2.congr (f' := fun j => if j = o + i + 1 then bits .or .i64 ((fun j => if j = o + i then bits .or .i64 (G (o + i)) (yl : Int) else G j) (o + i + 1)) (hi9 : Int) else (fun j => if j = o + i then bits .or .i64 (G (o + i)) (yl : Int) else G j) j) (fun j hj => by
          by_cases e : j = o + i + 1
          · rw [if_pos e, if_pos e, hd, hor2]
          · rw [if_neg e, if_neg e])
        have HST2 := H2.congr (Q := layW P R (32 * o + u) (i + 1)) (fun j => (HST.out j).symm)
        have H3 : Hid (VecIs (fun j => if j = o + i + 1 then bits .or .i64 ((fun j => if j = o + i then bits .or .i64 (G (o + i)) (yl : Int) else G j) (o + i + 1)) (hi9 : Int) else (fun j => if j = o + i then bits .or .i64 (G (o + i)) (yl : Int) else G j) j) (layW P R (32 * o + u) (i + 1)) N) := HST2
        obtain ⟨up9, hup⟩ : ∃ z, d ||| hi9 = z := ⟨_, rfl⟩
        rw [hup] at hor2 HO2
        clear hO1 hO2 hlo hd hd0 H2 HST2 hup
        have hoi : o + (i + 1) = o + i + 1 := by omega
        go_wp2_with fail
        go_roundw
        case rel => exact ⟨i + 1, _, by omega, by go_num, HO2.out, H3.out, only_set (only_set HGR.out)⟩
        case measure => simp [intOf]; omega
    · have hii : ¬ (i : Int) < (m : Int) := by omega
      obtain rfl : i = m := by omega
      go_wp2_with fail
      go_end0
      exact ⟨rfl, HGR.out, G, HGO.out, HV.out⟩
end Go.Proofs.Ytbdjjggaahjjpaa
