/- What is proved here: the specification's EndsOf hands back the ends of a right pattern in a text, rising, in new memory, or none; nothing that was there turns. -/
import Derived.Test.YtfeolbgenpknfaaQBackMToBytesRowW
import Derived.Test.YtfeolbgenpknfaaQSpecFromW
import Derived.Test.YtfeolbgenpknfaaQSpecPYesWToIntRowW
namespace Go.Proofs.Ytfeolbgenpknfaa
open Go.RowKit

/-- A row says where pieces end that begin at one of the first places. -/
def IsEnds (t : ByteArray) (L : List Atm) (k : Nat) (r : Nat → Bool) : Prop := ∀ e, e ≤ t.size → (r e = true ↔ ∃ s, s < k ∧ s < e ∧ Cuts t L s e)
theorem ends_zero (t : ByteArray) (L : List Atm) : IsEnds t L 0 (fun _ => false) := fun e _ => ⟨fun h => (by cases h), fun ⟨s, h, _⟩ => (by omega)⟩
theorem ends_succ {t : ByteArray} {L : List Atm} {k : Nat} {r q : Nat → Bool} (h : IsEnds t L k r) (hq : IsFrom t L k q) : IsEnds t L (k + 1) (fun i => r i || (decide (k < i) && decide (i < t.size + 1) && q i)) := fun e he => by
  show (r e || (decide (k < e) && decide (e < t.size + 1) && q e)) = true ↔ _
  simp only [Bool.or_eq_true, Bool.and_eq_true, decide_eq_true_eq]
  rw [h e he, hq e he]
  constructor
  · rintro (⟨s, h1, h2, h3⟩ | ⟨⟨h1, h2⟩, h3⟩)
    · exact ⟨s, by omega, h2, h3⟩
    · exact ⟨k, by omega, h1, h3⟩
  · rintro ⟨s, h1, h2, h3⟩
    by_cases e1 : s = k
    · subst e1; exact Or.inr ⟨⟨h2, by omega⟩, h3⟩
    · exact Or.inl ⟨s, by omega, h2, h3⟩
set_option maxRecDepth 100000 in
set_option maxHeartbeats 4000000 in
theorem l05Ends_any (sa : Option Addr) (n cap : Nat) (f : Nat → Atm) (t : ByteArray) (p : Nat → Bool) (w : World) (hn : n ≤ 20) (hr : ARow w w.heap.size sa n f) (ht : t.size ≤ 8000) (hR : ∀ i, i < n → AtomRight (f i)) (hp : ∀ e, e ≤ t.size → (p e = true ↔ ∃ s, s < e ∧ Cuts t (atomsL f n) s e)) :
    Calls Try.prog 65 #[.slice sa n cap, .string t] w fun r w' => NewInts w (classL p (t.size + 1)).length (fun i => (classL p (t.size + 1)).getD i 0) r w' := by
  obtain ⟨i0, hi, hz0, hz1, hz2⟩ := info_parts Try.numInfo
  have HR : Hid (ARow w w.heap.size sa n f) := hr
  have HA : Hid (∀ i, i < n → AtomRight (f i)) := hR
  have HQ : Hid (∀ e, e ≤ t.size → (p e = true ↔ ∃ s, s < e ∧ Cuts t (atomsL f n) s e)) := hp
  have hp0 : p 0 = false := by cases h : p 0 with | false => rfl | true => (obtain ⟨s, hs, _⟩ := (hp 0 (Nat.zero_le _)).1 h; omega)
  have HL0 : Hid (classL p 1 = []) := classL_no hp0
  obtain ⟨v, g0, hmk, hg1, hg2, hbv, hown⟩ := make_boolN w (t.size + 1) (by omega)
  rw [show ((t.size + 1 : Nat) : Int) = (t.size : Int) + 1 from rfl] at hmk
  have O1 : Hid (OwnB v g0 (t.size + 1) (fun _ => false)) := hown
  have B1 : Hid (Below w.heap.size w v) := hbv
  clear hr hR hp hp0 hbv hown
  go_enter Try.func65, Try.ntmps65
  go_wp2_with fail
  clear hmk
  go_loopw [6] (fun sv wr => ∃ (k : Nat) (r : Nat → Bool), k ≤ t.size ∧ sv = .int .i64 (k : Int) ∧ Below w.heap.size w wr ∧ OwnB wr g0 (t.size + 1) r ∧ IsEnds t (atomsL f n) k r) (fun sv _ => t.size + 1 - (intOf sv).toNat)
  case atStart => exact ⟨0, _, Nat.zero_le _, rfl, B1.out, O1.out, ends_zero _ _⟩
  case round =>
    obtain ⟨k, r, hk, rfl, hbel, hown, hends⟩ := hrel
    have HB : Hid (Below w.heap.size w wr) := hbel
    have HO : Hid (OwnB wr g0 (t.size + 1) r) := hown
    have HE : Hid (IsEnds t (atomsL f n) k r) := hends
    clear hbel hown hends
    by_cases hkl : k < t.size
    · have hki : (k : Int) < (t.size : Int) := by omega
      have C := from_spec sa n cap f t k wr hn ht (by omega) (HR.out.late HB.out) HA.out
      go_wp2_with fail
      refine C.mono ?_
      rintro x w4 ⟨g, q, rfl, hb4, hg4, hob, hfrom⟩
      have HE2 : Hid (IsEnds t (atomsL f n) (k + 1) (fun i => r i || (decide (k < i) && decide (i < t.size + 1) && q i))) := ends_succ HE.out hfrom
      have B4 : Hid (Below w.heap.size w w4) := HB.out.trans (hb4.mono HB.out.size)
      have G4 : Hid (OwnB w4 g0 (t.size + 1) r) := HO.out.kept hb4 HO.out.1
      have Q4 : Hid (OwnB w4 g (t.size + 1) q) := hob
      have hne : g ≠ g0 := by have := HO.out.1; omega
      clear C hb4 hg4 hob hfrom HO HB HE
      go_wp2_with fail
      go_loopw [8] (fun ev wr => ∃ e : Nat, k + 1 ≤ e ∧ e ≤ t.size + 1 ∧ ev = .int .i64 (e : Int) ∧ w4.grownBy wr (some g0) ∧ OwnB wr g0 (t.size + 1) (fun i => r i || (decide (k < i) && decide (i < e) && q i))) (fun ev _ => t.size + 1 - (intOf ev).toNat)
      case atStart => exact ⟨k + 1, Nat.le_refl _, by omega, by go_num, World.grownBy.refl _ _, G4.out.congr (fun i _ => by
        by_cases e : k < i
        · simp [show ¬ i < k + 1 by omega]
        · simp [e])⟩
      case round =>
        obtain ⟨e, he1, he2, rfl, hgr, hown⟩ := hrel
        have HG : Hid (w4.grownBy wr (some g0)) := hgr
        have HO : Hid (OwnB wr g0 (t.size + 1) (fun i => r i || (decide (k < i) && decide (i < e) && q i))) := hown
        have B5 : Hid (Below w.heap.size w wr) := B4.out.trans ⟨hgr.os, hgr.tape, hgr.output, hgr.size, fun j hj => hgr.block j (Nat.lt_of_lt_of_le hj B4.out.size) (fun x => by injection x with x; omega)⟩
        by_cases hel : e ≤ t.size
        · have hei : (e : Int) ≤ (t.size : Int) := by omega
          have he0 : (0 : Int) ≤ (e : Int) := by omega
          have he3 : (e : Int) < ((t.size + 1 : Nat) : Int) := by omega
          have he4 : (e : Int) < (t.size : Int) + 1 := by omega
          have ce := hown.2.1 e (by omega)
          have fe := hown.2.2 e (by omega)
          have hlt0 := hown.1
          have hrr : (r e || (decide (k < e) && decide (e < e) && q e)) = r e := by simp
          have cq : wr.cell? ⟨g, e, none⟩ = some (.bool (q e)) := by
            have h9 := hgr.block g Q4.out.1 (fun x => hne (by injection x))
            have h8 := Q4.out.2.1 e (by omega)
            simpa [World.cell?, h9] using h8
          simp only [hrr] at ce
          clear hgr hown hrr
          have HS : Hid (∀ b : Bool, b = (r e || q e) → OwnB (wr.setCell ⟨g0, e, none⟩ (.bool b)) g0 (t.size + 1) (fun i => r i || (decide (k < i) && decide (i < e + 1) && q i))) := fun b hb => (HO.out.set (by omega) b).congr (fun i _ => by
            by_cases e1 : i = e
            · subst e1
              rw [if_pos rfl, hb]
              simp [show k < i by omega]
            · rw [if_neg e1]
              by_cases e2 : i < e
              · simp [e2, show i < e + 1 by omega]
              · simp [e2, show ¬ i < e + 1 by omega])
          cases hre : r e with
          | true =>
            rw [hre] at ce
            have HS2 := HS.out true (by rw [hre]; rfl)
            clear HS
            go_wp2_with fail
            go_roundw
            case rel => exact ⟨e + 1, by omega, by omega, by go_num, only_setF HG.out, HS2⟩
            case measure => simp [intOf]; omega
          | false =>
            rw [hre] at ce
            have HS2 := HS.out (q e) (by rw [hre]; simp)
            clear HS
            generalize q e = qe at *
            go_wp2_with fail
            go_roundw
            case rel => exact ⟨e + 1, by omega, by omega, by go_num, only_setF HG.out, HS2⟩
            case measure => simp [intOf]; omega
        · have hei : ¬ (e : Int) ≤ (t.size : Int) := by omega
          obtain rfl : e = t.size + 1 := by omega
          clear hgr hown
          go_wp2_with fail
          go_roundw
          case rel => exact ⟨k + 1, _, by omega, by go_num, B5.out, HO.out, HE2.out⟩
          case measure => simp [intOf]; omega
    · have hki : ¬ (k : Int) < (t.size : Int) := by omega
      obtain rfl : k = t.size := by omega
      have HPR : Hid (∀ e, e ≤ t.size → r e = p e) := fun e he => by
        have h1 := HE.out e he
        have h2 := HQ.out e he
        have h3 : r e = true ↔ p e = true := by
          rw [h1, h2]
          exact ⟨fun ⟨s, a, b, c⟩ => ⟨s, b, c⟩, fun ⟨s, b, c⟩ => ⟨s, by omega, b, c⟩⟩
        cases ha : r e <;> cases hb : p e <;> simp_all
      have O0 : Hid ((wr.alloc (.cells #[] 2)).ownsRow wr.heap.size 2 1 (.slice (some ⟨wr.heap.size, 0, none⟩) 0 0) (classL p 1).length (icells (classL p 1))) := by
        show (wr.alloc (.cells #[] 2)).ownsRow wr.heap.size 2 1 (.slice (some ⟨wr.heap.size, 0, none⟩) 0 0) (classL p 1).length (icells (classL p 1))
        rw [HL0.out]
        exact ints_start wr wr.heap.size (Nat.le_refl _) #[] rfl
      have hbase : wr.heap.size ≤ (wr.alloc (.cells #[] 2)).heap.size := by simp
      have BA : Hid (Below wr.heap.size wr (wr.alloc (.cells #[] 2))) := (Below.refl _ _).alloc (Nat.le_refl _) _
      go_wp2_with fail
      generalize hwx : wr.alloc (.cells #[] 2) = wx at *
      generalize hbs : wr.heap.size = base at *
      clear hwx
      have hgb : g0 < base := by rw [← hbs]; exact HO.out.1
      have HB0 : Hid (Below base wr wx) := BA.out
      have hwb : w.heap.size ≤ base := by rw [← hbs]; exact HB.out.size
      go_loopw [9, 10] (fun v ev wy => ∃ j : Nat, j ≤ t.size ∧ ev = .int .i64 ((j + 1 : Nat) : Int) ∧ wy.ownsRow base 2 1 v (classL p (j + 1)).length (icells (classL p (j + 1))) ∧ Below base wx wy) (fun _ ev _ => t.size + 1 - (intOf ev).toNat)
      case atStart => exact ⟨0, Nat.zero_le _, rfl, O0.out, Below.refl _ _⟩
      case round =>
        obtain ⟨j1, hj1, rfl, hown, hbel⟩ := hrel
        obtain ⟨j, hj⟩ : ∃ j, j1 + 1 = j := ⟨_, rfl⟩
        rw [hj] at hown ⊢
        rename World => wy
        have HOW : Hid (wy.ownsRow base 2 1 u9 (classL p j).length (icells (classL p j))) := hown
        have HBY : Hid (Below base wx wy) := hbel
        have HGY : Hid (OwnB wy g0 (t.size + 1) r) := (HO.out.kept HB0.out hgb).kept hbel hgb
        have hyb : base ≤ wy.heap.size := Nat.le_trans hbase hbel.size
        clear hown hbel
        by_cases hjl : j ≤ t.size
        · have hji : (j : Int) ≤ (t.size : Int) := by omega
          have hj0 : (0 : Int) ≤ (j : Int) := by omega
          have hj3 : (j : Int) < ((t.size + 1 : Nat) : Int) := by omega
          have hj4 : (j : Int) < (t.size : Int) + 1 := by omega
          have ce := HGY.out.2.1 j (by omega)
          rw [HPR.out j hjl] at ce
          have hlen := classL_len p j
          cases hpj : p j with
          | true =>
            rw [hpj] at ce
            have HL : Hid (classL p (j + 1) = classL p j ++ [(j : Int)]) := classL_yes hpj
            have hown := HOW.out
            clear hpj
            go_wp2_with (at_builtin; refine wpList_append_own_at _ rfl (.tmp 57) (.tmp 59) 27 rfl base 2 i0 (.int .i64 0) 1 8 Try.underlying27 hi hz0 hz1 hz2 rfl (by decide) _ _ _ rfl (hown.alloc _) ⟨wy.heap.size, 0, none⟩ 1 1 [.int .i64 (j : Int)] rfl rfl ?c1 ?c2 ?c3 ?c4 ?c5 ?_)
            case c1 => exact cell1_new wy _ _
            case c2 => intro u hu; simp at hu; subst hu; rfl
            case c3 => unfold maxLen; omega
            case c4 => omega
            case c5 => first | omega | (simp <;> omega)
            intro v5 w5 hown5 hgrow5 _ _
            have O5 : Hid (w5.ownsRow base 2 1 v5 (classL p (j + 1)).length (icells (classL p (j + 1)))) := by
              show w5.ownsRow base 2 1 v5 (classL p (j + 1)).length (icells (classL p (j + 1)))
              rw [HL.out, icells_append, List.length_append]
              exact hown5
            have B5 : Hid (Below base wx w5) := HBY.out.trans (grown_lo ((World.grownBy_alloc _ _ _).trans hgrow5) (fun j e => (HOW.out.lt j e).1) (Nat.le_refl _) hyb)
            clear hown5 hgrow5 hown
            go_wp2_with fail
            go_roundw
            case rel => exact ⟨j, hjl, by go_num, O5.out, B5.out⟩
            case measure => simp [intOf]; omega
          | false =>
            rw [hpj] at ce
            have HL : Hid (classL p (j + 1) = classL p j) := classL_no hpj
            clear hpj
            go_wp2_with fail
            go_roundw
            case rel => exact ⟨j, hjl, by go_num, by rw [HL.out]; exact HOW.out, HBY.out⟩
            case measure => simp [intOf]; omega
        · have hji : ¬ (j : Int) ≤ (t.size : Int) := by omega
          obtain rfl : j = t.size + 1 := by omega
          have BF : Hid (Below w.heap.size w wy) := HB.out.trans ((HB0.out.mono hwb).trans (HBY.out.mono hwb))
          go_wp2_with fail
          go_ret
          exact new_of_ints (ints_low HOW.out hwb) BF.out
end Go.Proofs.Ytfeolbgenpknfaa
