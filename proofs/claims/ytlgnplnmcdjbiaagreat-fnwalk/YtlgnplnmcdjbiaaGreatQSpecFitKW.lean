/- What is proved here: the specification's CellsFit says whether a text passes right cells; nothing that was there turns. -/
import Derived.Test.YtlgnplnmcdjbiaaGreatQSpecKRightWToIsW
import Derived.Test.YtlgnplnmcdjbiaaGreatQSpecRunWToBoolMakeW
namespace Go.Proofs.YtlgnplnmcdjbiaaGreat
open Go.RowKit

theorem only_setB {a w : World} {b i : Nat} {v : Value} (h : a.grownBy w (some b)) : a.grownBy (w.setCell ⟨b, i, none⟩ v) (some b) :=
  h.trans ⟨rfl, rfl, rfl, by simp [World.setCell], fun k _ hk => Below.heap_setCell _ _ _ _ (fun e => hk (by simp [e]))⟩
theorem CRow.grownB {w W : World} {b n : Nat} {sa : Option Addr} {f : Nat → Cel} (h : CRow w b sa n f) (hg : w.grownBy W (some b)) (hb : b < w.heap.size) : CRow W b sa n f :=
  h.kept ⟨hg.os, hg.tape, hg.output, hg.size, fun j hj => hg.block j (by omega) (fun e => by injection e with e; omega)⟩
theorem CRow.atB {w : World} {B n k : Nat} {sa : Option Addr} {f : Nat → Cel} (h : CRow w B sa n f) (hk : k < n) : ∃ bb off : Nat, sa = some ⟨bb, off, none⟩ ∧ bb < B ∧ CellAt w bb (off + k * 3) (f k) := by
  rcases h with h | ⟨bb, off, h1, h2, h3⟩
  · omega
  · exact ⟨bb, off, h1, h2, h3 k hk⟩
set_option maxRecDepth 100000 in
set_option maxHeartbeats 4000000 in
theorem skip_spec (g : Nat) (sa : Option Addr) (n cap m : Nat) (f : Nat → Cel) (r : Nat → Bool) (w : World) (hn : n ≤ 60) (hr : CRow w g sa n f) (ho : OwnB w g (n + 1) r) :
    Calls Tryz.prog 49 #[.slice sa n cap, .slice (some ⟨g, 0, none⟩) (n + 1) m] w fun e w' => e = .returned (.slice (some ⟨g, 0, none⟩) (n + 1) m) ∧ w.grownBy w' (some g) ∧ OwnB w' g (n + 1) (cloB (behind (fun i => (f i).k) n) r) := by
  have HR : Hid (CRow w g sa n f) := hr
  have HO : Hid (OwnB w g (n + 1) r) := ho
  have hglt := ho.1
  clear hr ho
  go_enter Tryz.func49, Tryz.ntmps49
  go_wp2_with fail
  go_loopw [5] (fun iv wr => ∃ k : Nat, k ≤ n ∧ iv = .int .i64 (k : Int) ∧ w.grownBy wr (some g) ∧ OwnB wr g (n + 1) (fun j => if j ≤ k then cloB (behind (fun i => (f i).k) n) r j else r j)) (fun iv _ => n - (intOf iv).toNat)
  case atStart => exact ⟨0, Nat.zero_le _, rfl, World.grownBy.refl _ _, HO.out.congr (fun j _ => by
    by_cases e : j ≤ 0
    · rw [if_pos e]; obtain rfl : j = 0 := by omega
      rfl
    · rw [if_neg e])⟩
  case round =>
    obtain ⟨k, hk, rfl, hgr, hown⟩ := hrel
    have HG : Hid (w.grownBy wr (some g)) := hgr
    have HW : Hid (OwnB wr g (n + 1) (fun j => if j ≤ k then cloB (behind (fun i => (f i).k) n) r j else r j)) := hown
    by_cases hkl : k < n
    · obtain ⟨bb, off, rfl, hbb, hat⟩ := (HR.out.grownB hgr hglt).atB hkl
      obtain ⟨c0, c1, c2⟩ := hat
      have hki : (k : Int) < (n : Int) := by omega
      have hk0 : (0 : Int) ≤ (k : Int) := by omega
      have hk1 : (k : Int) < ((n + 1 : Nat) : Int) := by omega
      have hk2 : (k : Int) < (n : Int) + 1 := by omega
      obtain ⟨p, hp⟩ : ∃ p, k + 1 = p := ⟨_, rfl⟩
      have hpi : (k : Int) + 1 = (p : Int) := by omega
      have hp0 : (0 : Int) ≤ (p : Int) := by omega
      have hp1 : (p : Int) < ((n + 1 : Nat) : Int) := by omega
      have hp2 : (p : Int) < (n : Int) + 1 := by omega
      have ck := hown.2.1 k (by omega)
      have cp := hown.2.1 p (by omega)
      have fp := hown.2.2 p (by omega)
      simp only [Nat.le_refl, if_true] at ck
      simp only at cp
      rw [if_neg (show ¬ p ≤ k by omega)] at cp
      obtain ⟨⟨ac, al, am⟩, ha⟩ : ∃ a, f k = a := ⟨_, rfl⟩
      rw [ha] at c0 c1 c2
      simp only at c0 c1 c2
      have hcl : cloB (behind (fun i => (f i).k) n) r p = (r p || (al && cloB (behind (fun i => (f i).k) n) r k)) := by
        subst hp
        show (r (k + 1) || (behind (fun i => (f i).k) n (k + 1) && cloB (behind (fun i => (f i).k) n) r k)) = _
        rw [behind_at _ hkl, ha]
      have HS : Hid (∀ x : Bool, x = (r p || (al && cloB (behind (fun i => (f i).k) n) r k)) → OwnB (wr.setCell ⟨g, p, none⟩ (.bool x)) g (n + 1) (fun j => if j ≤ p then cloB (behind (fun i => (f i).k) n) r j else r j)) := fun x hx => (HW.out.set (by omega) x).congr (fun j _ => by
        by_cases e : j = p
        · subst e; rw [if_pos rfl, if_pos (Nat.le_refl _), hcl, hx]
        · rw [if_neg e]
          by_cases e2 : j ≤ k
          · rw [if_pos e2, if_pos (by omega)]
          · rw [if_neg e2, if_neg (by omega)])
      have hlt9 := hown.1
      clear hgr hown ha hcl
      generalize cloB (behind (fun i => (f i).k) n) r k = ck9 at *
      generalize r p = rp at *
      cases rp with
      | true =>
        have HS2 := HS.out true rfl
        clear HS
        go_wp2_with fail
        go_roundw
        case rel => exact ⟨k + 1, by omega, by go_num, only_setB HG.out, by rw [hp]; exact HS2⟩
        case measure => simp [intOf]; omega
      | false =>
        cases ck9 with
        | true =>
          have HS2 := HS.out al (by simp)
          clear HS
          go_wp2_with fail
          go_roundw
          case rel => exact ⟨k + 1, by omega, by go_num, only_setB HG.out, by rw [hp]; exact HS2⟩
          case measure => simp [intOf]; omega
        | false =>
          have HS2 := HS.out false (by simp)
          clear HS
          go_wp2_with fail
          go_roundw
          case rel => exact ⟨k + 1, by omega, by go_num, only_setB HG.out, by rw [hp]; exact HS2⟩
          case measure => simp [intOf]; omega
    · have hki : ¬ (k : Int) < (n : Int) := by omega
      obtain rfl : k = n := by omega
      clear hgr hown
      go_wp2_with fail
      go_ret
      exact ⟨rfl, HG.out, HW.out.congr (fun j hj => if_pos (by omega))⟩
set_option maxRecDepth 100000 in
set_option maxHeartbeats 4000000 in
theorem pass_spec (h : Nat) (sa : Option Addr) (n cap m c : Nat) (f : Nat → Cel) (A : Nat → Bool) (w : World) (hn : n ≤ 60) (_hc : c < 256) (hsz : ∀ i, i < n → (f i).c.size ≤ 256) (hr : CRow w h sa n f) (ho : OwnB w h (n + 1) A) :
    Calls Tryz.prog 50 #[.slice sa n cap, .slice (some ⟨h, 0, none⟩) (n + 1) m, .int .u8 (c : Int)] w fun e w' => ∃ g m' : Nat, e = .returned (.slice (some ⟨g, 0, none⟩) (n + 1) m') ∧ w.heap.size ≤ g ∧ Below w.heap.size w w' ∧ OwnB w' g (n + 1) (cloB (behind (fun i => (f i).k) n) (passB f n A c)) := by
  have HR : Hid (CRow w h sa n f) := hr
  have HA : Hid (OwnB w h (n + 1) A) := ho
  have HSZ : Hid (∀ i, i < n → (f i).c.size ≤ 256) := hsz
  have hhlt := ho.1
  obtain ⟨v, g, hmk, hg1, hg2, hbv, hown⟩ := make_boolN w (n + 1) (by omega)
  have O0 : Hid (OwnB v g (n + 1) (fun _ => false)) := hown
  have B0 : Hid (Below w.heap.size w v) := hbv
  rw [show ((n + 1 : Nat) : Int) = (n : Int) + 1 from rfl] at hmk
  have hng : h ≠ g := by omega
  have HC : Hid (∀ W : World, v.grownBy W (some g) → CRow W h sa n f ∧ OwnB W h (n + 1) A ∧ Below w.heap.size w W) := fun W hg => by
    have hb9 : Below w.heap.size v W := ⟨hg.os, hg.tape, hg.output, hg.size, fun j hj => hg.block j (Nat.lt_of_lt_of_le hj B0.out.size) (fun e => by injection e with e; omega)⟩
    exact ⟨(HR.out.kept (B0.out.mono (Nat.le_of_lt hhlt))).kept (hb9.mono (Nat.le_of_lt hhlt)), (HA.out.kept B0.out hhlt).kept hb9 hhlt, B0.out.trans hb9⟩
  clear hr ho hsz hown hbv
  go_enter Tryz.func50, Tryz.ntmps50
  go_wp2_with fail
  clear hmk
  go_loopw [8] (fun iv wr => ∃ (k : Nat) (q : Nat → Bool), k ≤ n ∧ iv = .int .i64 (k : Int) ∧ v.grownBy wr (some g) ∧ OwnB wr g (n + 1) q ∧ ∀ j, j ≤ n → q j = (decide (j ≤ k) && passB f n A c j)) (fun iv _ => n - (intOf iv).toNat)
  case atStart => exact ⟨0, _, Nat.zero_le _, rfl, World.grownBy.refl _ _, O0.out, fun j _ => by
    by_cases e : j ≤ 0
    · obtain rfl : j = 0 := by omega
      unfold passB behind
      simp
    · rw [decide_eq_false e]; rfl⟩
  case round =>
    obtain ⟨k, q, hk, rfl, hgr, hown, hq⟩ := hrel
    have HG : Hid (v.grownBy wr (some g)) := hgr
    have HW : Hid (OwnB wr g (n + 1) q) := hown
    have HQ : Hid (∀ j, j ≤ n → q j = (decide (j ≤ k) && passB f n A c j)) := hq
    obtain ⟨rr, ra, rb⟩ := HC.out wr hgr
    by_cases hkl : k < n
    · obtain ⟨bb, off, rfl, hbb, hat⟩ := rr.atB hkl
      obtain ⟨c0, c1, c2⟩ := hat
      have hki : (k : Int) < (n : Int) := by omega
      have hk0 : (0 : Int) ≤ (k : Int) := by omega
      have hk1 : (k : Int) < ((n + 1 : Nat) : Int) := by omega
      have hk2 : (k : Int) < (n : Int) + 1 := by omega
      obtain ⟨p, hp⟩ : ∃ p, k + 1 = p := ⟨_, rfl⟩
      have hpi : (k : Int) + 1 = (p : Int) := by omega
      have hp0 : (0 : Int) ≤ (p : Int) := by omega
      have hp1 : (p : Int) < ((n + 1 : Nat) : Int) := by omega
      have hp2 : (p : Int) < (n : Int) + 1 := by omega
      have ck := ra.2.1 k (by omega)
      have cp := ra.2.1 p (by omega)
      have gp := hown.2.1 p (by omega)
      have fp := hown.2.2 p (by omega)
      have hlt9 := hown.1
      have hsz9 := HSZ.out k hkl
      obtain ⟨⟨ac, al, am⟩, ha⟩ : ∃ a, f k = a := ⟨_, rfl⟩
      rw [ha] at c0 c1 c2 hsz9
      simp only at c0 c1 c2 hsz9
      have hpb : passB f n A c p = (hasByte ac c && (A k || (A p && am))) := by
        subst hp
        unfold passB
        rw [behind_at _ hkl, behind_at _ hkl, ha]
        simp
      have HAS := fun W => l03Has_any ac c W (Nat.le_trans hsz9 (by unfold maxLen; omega))
      have HY : Hid (passB f n A c p = true → ∀ j, j ≤ n → (if j = p then true else q j) = (decide (j ≤ p) && passB f n A c j)) := fun hy j hj => by
        by_cases e : j = p
        · subst e; rw [if_pos rfl, hy]; simp
        · rw [if_neg e, HQ.out j hj]
          by_cases e2 : j ≤ k
          · rw [decide_eq_true e2, decide_eq_true (show j ≤ p by omega)]
          · rw [decide_eq_false e2, decide_eq_false (show ¬ j ≤ p by omega)]
      have HN : Hid (passB f n A c p = false → ∀ j, j ≤ n → q j = (decide (j ≤ p) && passB f n A c j)) := fun hy j hj => by
        rw [HQ.out j hj]
        by_cases e : j = p
        · subst e; rw [hy]; simp
        · by_cases e2 : j ≤ k
          · rw [decide_eq_true e2, decide_eq_true (show j ≤ p by omega)]
          · rw [decide_eq_false e2, decide_eq_false (show ¬ j ≤ p by omega)]
      rw [hpb] at HY HN
      have hplt : p ≤ n := by omega
      clear hgr hown hq rr ra rb ha hpb
      generalize A k = A1 at *
      generalize A p = A2 at *
      generalize q p = qp at *
      cases hb : hasByte ac c with
      | false =>
        rw [hb] at HY HN HAS
        have HN2 := HN.out rfl
        clear hb HY HN
        go_wp2_with (first | (go_at_call 80; refine (HAS _).mono ?_; rintro e w9 ⟨rfl, hw9⟩; rw [hw9]; clear hw9 w9))
        go_roundw
        case rel => exact ⟨k + 1, q, by omega, by go_num, HG.out, HW.out, by rw [hp]; exact HN2⟩
        case measure => simp [intOf]; omega
      | true =>
        rw [hb] at HY HN HAS
        clear hb
        cases A1 with
        | true =>
          have HY2 := HY.out rfl
          clear HY HN
          go_wp2_with (first | (go_at_call 80; refine (HAS _).mono ?_; rintro e w9 ⟨rfl, hw9⟩; rw [hw9]; clear hw9 w9))
          go_roundw
          case rel => exact ⟨k + 1, _, by omega, by go_num, only_setB HG.out, HW.out.set (by omega) true, by rw [hp]; exact HY2⟩
          case measure => simp [intOf]; omega
        | false =>
          cases A2 with
          | false =>
            have HN2 := HN.out (by simp)
            clear HY HN
            go_wp2_with (first | (go_at_call 80; refine (HAS _).mono ?_; rintro e w9 ⟨rfl, hw9⟩; rw [hw9]; clear hw9 w9))
            go_roundw
            case rel => exact ⟨k + 1, q, by omega, by go_num, HG.out, HW.out, by rw [hp]; exact HN2⟩
            case measure => simp [intOf]; omega
          | true =>
            cases am with
            | false =>
              have HN2 := HN.out (by simp)
              clear HY HN
              go_wp2_with (first | (go_at_call 80; refine (HAS _).mono ?_; rintro e w9 ⟨rfl, hw9⟩; rw [hw9]; clear hw9 w9))
              go_roundw
              case rel => exact ⟨k + 1, q, by omega, by go_num, HG.out, HW.out, by rw [hp]; exact HN2⟩
              case measure => simp [intOf]; omega
            | true =>
              have HY2 := HY.out rfl
              clear HY HN
              go_wp2_with (first | (go_at_call 80; refine (HAS _).mono ?_; rintro e w9 ⟨rfl, hw9⟩; rw [hw9]; clear hw9 w9))
              go_roundw
              case rel => exact ⟨k + 1, _, by omega, by go_num, only_setB HG.out, HW.out.set (by omega) true, by rw [hp]; exact HY2⟩
              case measure => simp [intOf]; omega
    · have hki : ¬ (k : Int) < (n : Int) := by omega
      obtain rfl : k = n := by omega
      have OW : OwnB wr g (k + 1) (passB f k A c) := HW.out.congr (fun j hj => by rw [HQ.out j (by omega), decide_eq_true (show j ≤ k by omega)]; rfl)
      have CS := skip_spec g sa k cap (k + 1) f (passB f k A c) wr hn (rr.up (by omega)) OW
      have HB9 : Hid (Below w.heap.size w wr) := rb
      clear hgr hown hq rr ra rb OW
      go_wp2_with fail
      refine CS.mono ?_
      rintro e w9 ⟨rfl, hg9, ho9⟩
      have HO9 : Hid (OwnB w9 g (k + 1) (cloB (behind (fun i => (f i).k) k) (passB f k A c))) := ho9
      have HBF : Hid (Below w.heap.size w w9) := HB9.out.trans ⟨hg9.os, hg9.tape, hg9.output, hg9.size, fun j hj => hg9.block j (Nat.lt_of_lt_of_le hj HB9.out.size) (fun e => by injection e with e; omega)⟩
      clear CS hg9 ho9
      go_wp2_with fail
      go_ret
      exact ⟨g, k + 1, rfl, hg1, HBF.out, HO9.out⟩
open Classical in
set_option maxRecDepth 100000 in
set_option maxHeartbeats 4000000 in
theorem specFitK_any (sa : Option Addr) (n cap : Nat) (f : Nat → Cel) (t : ByteArray) (w : World) (hn : n ≤ maxLen) (hr : CRow w w.heap.size sa n f) (hc : ∀ i, i < n → (f i).c.size ≤ maxLen) (hts : t.size ≤ maxLen) :
    Calls Tryz.prog 16 #[.slice sa n cap, .string t] w fun e w' => e = .returned (.bool (decide (FitK n f t))) ∧ Below w.heap.size w w' := by
  unfold maxLen at hts
  have CK := specKRight_any sa n cap f w hn hr hc
  by_cases h8 : 8000 < (t.size : Int)
  · have hno : ¬ FitK n f t := fun h => by have := h.1; omega
    rw [decide_eq_false hno]
    clear CK
    go_enter Tryz.func16, Tryz.ntmps16
    go_wp2_with fail
    go_ret
    exact ⟨rfl, Below.refl _ _⟩
  by_cases h : CellsOk n f
  · rw [decide_eq_true h] at CK
    have HC : Hid (CellsOk n f) := h
    have HR : Hid (CRow w w.heap.size sa n f) := hr
    have HSZ : Hid (∀ i, i < n → (f i).c.size ≤ 256) := okSize (fun i _ hi => right_size hi) h
    have hn60 := h.2.1
    clear hn hr hc h
    go_enter Tryz.func16, Tryz.ntmps16
    go_wp2_with fail
    refine CK.mono ?_
    rintro e w1 ⟨rfl, hb1⟩
    have B1 : Hid (Below w.heap.size w w1) := hb1
    clear CK hb1
    obtain ⟨v, g, hmk, hg1, hg2, hbv, hown⟩ := make_boolN w1 (n + 1) (by omega)
    rw [show ((n + 1 : Nat) : Int) = (n : Int) + 1 from rfl] at hmk
    have cz := hown.2.1 0 (by omega)
    have fz := hown.2.2 0 (by omega)
    have hz1 : (0 : Int) < ((n + 1 : Nat) : Int) := by omega
    have hz2 : (0 : Int) < (n : Int) + 1 := by omega
    have BV : Hid (Below w.heap.size w v) := B1.out.trans (hbv.mono B1.out.size)
    have OV : OwnB (v.setCell ⟨g, 0, none⟩ (.bool true)) g (n + 1) (fun j => decide (0 = j)) := (hown.set (by omega) true).congr (fun j _ => by
      by_cases e : j = 0
      · subst e; rfl
      · rw [if_neg e, decide_eq_false (by omega)])
    have hgw : w.heap.size ≤ g := by have := B1.out.size; omega
    have BS : Hid (Below w.heap.size w (v.setCell ⟨g, 0, none⟩ (.bool true))) := BV.out.setCell hgw _
    have CS := skip_spec g sa n cap (n + 1) f (fun j => decide (0 = j)) (v.setCell ⟨g, 0, none⟩ (.bool true)) hn60 ((HR.out.kept BS.out).up hgw) OV
    clear hown hbv OV
    go_wp2_with fail
    refine CS.mono ?_
    rintro e w2 ⟨rfl, hg9, ho9⟩
    have O2 : Hid (OwnB w2 g (n + 1) (runB f n t 0)) := ho9
    have B2 : Hid (Below w.heap.size w w2) := BS.out.trans ⟨hg9.os, hg9.tape, hg9.output, hg9.size, fun j hj => hg9.block j (Nat.lt_of_lt_of_le hj BS.out.size) (fun e => by injection e with e; omega)⟩
    clear CS hg9 ho9 hmk cz fz BS BV
    go_wp2_with fail
    go_loopw [5, 6] (fun av iv wr => ∃ k g m : Nat, k ≤ t.size ∧ iv = .int .i64 (k : Int) ∧ av = .slice (some ⟨g, 0, none⟩) (n + 1) m ∧ w.heap.size ≤ g ∧ OwnB wr g (n + 1) (runB f n t k) ∧ Below w.heap.size w wr) (fun _ iv _ => t.size - (intOf iv).toNat)
    case atStart => exact ⟨0, g, n + 1, Nat.zero_le _, rfl, rfl, hgw, O2.out, B2.out⟩
    case round =>
      obtain ⟨k, g, m, hk, rfl, rfl, hgl, hown, hbel⟩ := hrel
      have HO : Hid (OwnB wr g (n + 1) (runB f n t k)) := hown
      have HB : Hid (Below w.heap.size w wr) := hbel
      by_cases hkl : k < t.size
      · have hki : (k : Int) < (t.size : Int) := by omega
        have hk0 : (0 : Int) ≤ (k : Int) := by omega
        obtain ⟨y, hy⟩ : ∃ y, t[k].toNat = y := ⟨_, rfl⟩
        have hy256 : y < 256 := by rw [← hy]; exact t[k].toNat_lt
        have HRN : Hid (cloB (behind (fun i => (f i).k) n) (passB f n (runB f n t k) y) = runB f n t (k + 1)) := by
          show _ = cloB (behind (fun i => (f i).k) n) (passB f n (runB f n t k) (if h : k < t.size then t[k].toNat else 0))
          rw [dif_pos hkl, hy]
        have CP := pass_spec g sa n cap m y f (runB f n t k) wr hn60 hy256 HSZ.out ((HR.out.kept hbel).up hgl) hown
        clear hown hbel
        go_wp2_with fail
        refine CP.mono ?_
        rintro e w3 ⟨g3, m3, rfl, hg3, hb3, ho3⟩
        rw [HRN.out] at ho3
        have O3 : Hid (OwnB w3 g3 (n + 1) (runB f n t (k + 1))) := ho3
        have B3 : Hid (Below w.heap.size w w3) := HB.out.trans (hb3.mono HB.out.size)
        have hg4 : w.heap.size ≤ g3 := Nat.le_trans HB.out.size hg3
        clear CP ho3 hb3 hg3
        go_wp2_with fail
        go_roundw
        case rel => exact ⟨k + 1, g3, m3, by omega, by go_num, rfl, hg4, O3.out, B3.out⟩
        case measure => simp [intOf]; omega
      · have hki : ¬ (k : Int) < (t.size : Int) := by omega
        obtain rfl : k = t.size := by omega
        have cn := hown.2.1 n (by omega)
        have hn1 : (n : Int) < ((n + 1 : Nat) : Int) := by omega
        have hn2 : (n : Int) < (n : Int) + 1 := by omega
        have hn0 : (0 : Int) ≤ (n : Int) := by omega
        have HE : Hid (decide (FitK n f t) = runB f n t t.size n) := by
          show decide (FitK n f t) = runB f n t t.size n
          cases h9 : runB f n t t.size n with
          | true => exact decide_eq_true ⟨by omega, HC.out, h9⟩
          | false => exact decide_eq_false (fun h => by have h7 := h.2.2; rw [h9] at h7; cases h7)
        clear hown hbel
        generalize runB f n t t.size n = D at *
        go_wp2_with fail
        go_ret
        exact ⟨by rw [HE.out]; rfl, HB.out⟩
  · rw [decide_eq_false h] at CK
    have hno : ¬ FitK n f t := fun hp => h hp.2.1
    rw [decide_eq_false hno]
    clear hn hr hc h hno
    go_enter Tryz.func16, Tryz.ntmps16
    go_wp2_with fail
    refine CK.mono ?_
    rintro e w1 ⟨rfl, hb1⟩
    have B1 : Hid (Below w.heap.size w w1) := hb1
    clear hb1 CK
    go_wp2_with fail
    go_ret
    exact ⟨rfl, B1.out⟩
end Go.Proofs.YtlgnplnmcdjbiaaGreat
