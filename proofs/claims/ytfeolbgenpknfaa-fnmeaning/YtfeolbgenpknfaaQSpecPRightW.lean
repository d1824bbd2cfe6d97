/- What is proved here: the specification's PatternRight says whether a pattern is right; nothing that was there turns. -/
import Derived.Test.YtfeolbgenpknfaaQAtomDToPatM
import Derived.Test.YtfeolbgenpknfaaQClassRightWToClassAlg
import Derived.Test.YtfeolbgenpknfaaQClassRowWToSpecCSpanW
import Derived.Deep.RegionWith
namespace Go.Proofs.Ytfeolbgenpknfaa
open Go.RowKit

set_option maxHeartbeats 1000000 in
theorem big_any (a : Atm) (w : World) (h : AtomRight a) :
    Calls Try.prog 70 #[.agg #[.string a.c, .int .i64 a.l, .int .i64 a.m]] w fun e w' => e = .returned (.int .i64 (counted a)) ∧ Below w.heap.size w w' := by
  obtain ⟨_, _, h3, h4, h5⟩ := h
  unfold counted
  rcases h5 with h5 | ⟨h5, h6, h7⟩
  · rw [if_pos h5]
    have h6 : ¬ 0 ≤ a.m := by omega
    by_cases h7 : a.l < 1
    · rw [if_pos h7]
      go_enter Try.func70, Try.ntmps70
      go_wp2
      go_ret
      exact ⟨rfl, (Below.refl _ _).alloc (Nat.le_refl _) _⟩
    · rw [if_neg h7]
      go_enter Try.func70, Try.ntmps70
      go_wp2
      go_ret
      exact ⟨rfl, (Below.refl _ _).alloc (Nat.le_refl _) _⟩
  · rw [if_neg (by omega)]
    have h8 : 0 ≤ a.m := by omega
    go_enter Try.func70, Try.ntmps70
    go_wp2
    go_ret
    exact ⟨rfl, (Below.refl _ _).alloc (Nat.le_refl _) _⟩
theorem step_all {f : Nat → Atm} {k : Nat} (h : ∀ i, i < k → AtomRight (f i)) (hk : AtomRight (f k)) : ∀ i, i < k + 1 → AtomRight (f i) := fun i hi => by
  by_cases e : i = k
  · rw [e]; exact hk
  · exact h i (by omega)
open Classical in
theorem specRightC_yes (t : ByteArray) (w : World) (hs : t.size ≤ maxLen) (h : RightC t) :
    Calls Try.prog 69 #[.string t] w fun e w' => e = .returned (.bool true) ∧ Below w.heap.size w w' := by
  refine (specRightC_any t w hs).mono ?_
  rintro e w' ⟨rfl, hb⟩
  exact ⟨by rw [decide_eq_true h], hb⟩
open Classical in
theorem specRightC_no (t : ByteArray) (w : World) (hs : t.size ≤ maxLen) (h : ¬ RightC t) :
    Calls Try.prog 69 #[.string t] w fun e w' => e = .returned (.bool false) ∧ Below w.heap.size w w' := by
  refine (specRightC_any t w hs).mono ?_
  rintro e w' ⟨rfl, hb⟩
  exact ⟨by rw [decide_eq_false h], hb⟩

open Classical in
set_option maxRecDepth 100000 in
set_option maxHeartbeats 4000000 in
theorem specPRight_any (sa : Option Addr) (n cap : Nat) (f : Nat → Atm) (w : World) (hn : n ≤ maxLen) (hr : ARow w w.heap.size sa n f) (hc : ∀ i, i < n → (f i).c.size ≤ maxLen) :
    Calls Try.prog 23 #[.slice sa n cap] w fun e w' => e = .returned (.bool (decide (PatRight n f))) ∧ Below w.heap.size w w' := by
  unfold maxLen at hn
  have HC : Hid (∀ i, i < n → (f i).c.size ≤ maxLen) := hc
  have HR : Hid (ARow w w.heap.size sa n f) := hr
  clear hc hr
  by_cases h1 : (n : Int) < 1
  · rw [decide_eq_false (fun h : PatRight n f => by have := h.1; omega)]
    go_enter Try.func23, Try.ntmps23
    go_wp2
    go_ret
    exact ⟨rfl, Below.refl _ _⟩
  by_cases h2 : 20 < (n : Int)
  · rw [decide_eq_false (fun h : PatRight n f => by have := h.2.1; omega)]
    go_enter Try.func23, Try.ntmps23
    go_wp2
    go_ret
    exact ⟨rfl, Below.refl _ _⟩
  go_enter Try.func23, Try.ntmps23
  go_wp2
  go_loopw [3, 4] (fun s i wr => ∃ k : Nat, k ≤ n ∧ i = .int .i64 (k : Int) ∧ s = .int .i64 (sumTo (fun i => counted (f i)) k) ∧ Below w.heap.size w wr ∧ ∀ i, i < k → AtomRight (f i)) (fun _ i _ => n - (intOf i).toNat)
  case atStart => exact ⟨0, Nat.zero_le _, rfl, rfl, Below.refl _ _, fun i hi => by omega⟩
  case round =>
    obtain ⟨k, hk, rfl, rfl, hbel, hall⟩ := hrel
    have HB : Hid (Below w.heap.size w wr) := hbel
    have HA : Hid (∀ i, i < k → AtomRight (f i)) := hall
    have hS := sumTo_bd (g := fun i => counted (f i)) (b := 20) (by omega) k (fun i hi => by have := counted_bd (hall i hi); omega)
    clear hall
    have HSS : Hid (sumTo (fun i => counted (f i)) (k + 1) = sumTo (fun i => counted (f i)) k + counted (f k)) := rfl
    generalize hS0 : sumTo (fun i => counted (f i)) k = S at *
    have HS0 : Hid (sumTo (fun i => counted (f i)) k = S) := hS0
    clear hS0
    by_cases hkl : k < n
    · obtain ⟨bb, off, rfl, hbb, hat⟩ := HR.out.at hbel hkl
      obtain ⟨c0, c1, c2⟩ := hat
      have HK : Hid ((f k).c.size ≤ maxLen) := HC.out k hkl
      clear hbel
      have hki : (k : Int) < (n : Int) := by omega
      have hk0 : (0 : Int) ≤ (k : Int) := by omega
      obtain ⟨⟨ac, al, am⟩, ha⟩ : ∃ a, f k = a := ⟨_, rfl⟩
      have HF : Hid (f k = ⟨ac, al, am⟩) := ha
      rw [ha] at c0 c1 c2 HK HSS
      simp only at c0 c1 c2 HK
      clear ha
      have BAD : Hid (¬ AtomRight ⟨ac, al, am⟩ → ¬ PatRight n f) := fun h hp => h (by rw [← HF.out]; exact hp.2.2.1 k hkl)
      have bx := ABox.new wr ⟨ac, al, am⟩ 89
      simp only at bx
      have BX : Hid (Below w.heap.size w (wr.alloc (.cells #[.string ac, .int .i64 al, .int .i64 am] 89))) := HB.out.alloc HB.out.size _
      go_wp2_with fail
      generalize wr.alloc (.cells #[.string ac, .int .i64 al, .int .i64 am] 89) = v at *
      generalize wr.heap.size = p at *
      clear HB c0 c1 c2
      by_cases hcr : RightC ac
      · refine (specRightC_yes ac _ HK.out hcr).mono ?_
        rintro e w1 ⟨rfl, hb1⟩
        have B1 : Hid (Below w.heap.size w w1) := BX.out.trans (hb1.mono BX.out.size)
        have HX : Hid (ABox w1 p ⟨ac, al, am⟩) := bx.kept hb1 bx.lt
        obtain ⟨x0, x1, x2, xl⟩ := HX.out.all
        simp only at x0 x1 x2
        have HCR : Hid (RightC ac) := hcr
        clear hcr hb1 bx BX
        by_cases hce : 0 < ac.size
        · obtain ⟨hq1, hq2⟩ := some_of hce
          by_cases hl : 0 ≤ al ∧ al ≤ 20
          · have HL : Hid (0 ≤ al ∧ al ≤ 20) := hl
            clear hl
            by_cases hm : am = -1
            · subst hm
              have HAR : Hid (AtomRight ⟨ac, al, -1⟩) := ⟨HCR.out, hce, HL.out.1, HL.out.2, Or.inl rfl⟩
              have hcb := counted_bd HAR.out
              generalize hct : counted ⟨ac, al, -1⟩ = ct at *
              have HCT : Hid (counted ⟨ac, al, -1⟩ = ct) := hct
              clear BAD hct
              go_wp2_with (first | (go_at_call 66; refine (is_yes _ _ _ _ HL.out.1 HL.out.2).mono ?_; rintro e w2 ⟨rfl, hw2⟩; rw [hw2]; clear hw2 w2) | (go_at_call 70; refine (big_any ⟨ac, al, -1⟩ _ HAR.out).mono ?_; rintro e w2 ⟨rfl, hb2⟩; rw [HCT.out]; have HB2 : Hid (Below w.heap.size w w2) := B1.out.trans (hb2.mono B1.out.size); clear hb2))
              go_roundw
              case rel => exact ⟨k + 1, by omega, by go_num, by rw [HSS.out], HB2.out, step_all HA.out (by rw [HF.out]; exact HAR.out)⟩
              case measure => simp [intOf]; omega
            · have hmn : (am != -1) = true := by simpa using hm
              by_cases hm2 : am < al
              · have hm3 : ¬ al ≤ am := by omega
                have HBAD : Hid (¬ PatRight n f) := BAD.out (fun h => by rcases h.2.2.2.2 with h | h <;> simp only at h <;> omega)
                go_wp2_with (first | (go_at_call 66; refine (is_yes _ _ _ _ HL.out.1 HL.out.2).mono ?_; rintro e w2 ⟨rfl, hw2⟩; rw [hw2]; clear hw2 w2))
                go_ret
                exact ⟨by rw [decide_eq_false HBAD.out]; rfl, B1.out⟩
              · by_cases hm3 : 1 ≤ am ∧ am ≤ 20
                · have HM : Hid (1 ≤ am ∧ am ≤ 20) := hm3
                  have HAR : Hid (AtomRight ⟨ac, al, am⟩) := ⟨HCR.out, hce, HL.out.1, HL.out.2, Or.inr ⟨by show al ≤ am; omega, hm3.1, hm3.2⟩⟩
                  have hcb := counted_bd HAR.out
                  generalize hct : counted ⟨ac, al, am⟩ = ct at *
                  have HCT : Hid (counted ⟨ac, al, am⟩ = ct) := hct
                  clear BAD hct hm3
                  go_wp2_with (first | (go_at_call 66; refine (is_yes _ _ _ _ (by first | exact HL.out.1 | exact HM.out.1) (by first | exact HL.out.2 | exact HM.out.2)).mono ?_; rintro e w2 ⟨rfl, hw2⟩; rw [hw2]; clear hw2 w2) | (go_at_call 70; refine (big_any ⟨ac, al, am⟩ _ HAR.out).mono ?_; rintro e w2 ⟨rfl, hb2⟩; rw [HCT.out]; have HB2 : Hid (Below w.heap.size w w2) := B1.out.trans (hb2.mono B1.out.size); clear hb2))
                  go_roundw
                  case rel => exact ⟨k + 1, by omega, by go_num, by rw [HSS.out], HB2.out, step_all HA.out (by rw [HF.out]; exact HAR.out)⟩
                  case measure => simp [intOf]; omega
                · have HM : Hid (¬ (1 ≤ am ∧ am ≤ 20)) := hm3
                  have HBAD : Hid (¬ PatRight n f) := BAD.out (fun h => by rcases h.2.2.2.2 with h | h <;> simp only at h <;> omega)
                  clear hm3
                  go_wp2_with (first | (go_at_call 66; first | (refine (is_yes _ _ _ _ (by exact HL.out.1) (by exact HL.out.2)).mono ?_; rintro e w2 ⟨rfl, hw2⟩; rw [hw2]; clear hw2 w2) | (refine (is_no _ _ _ _ (by exact HM.out)).mono ?_; rintro e w2 ⟨rfl, hw2⟩; rw [hw2]; clear hw2 w2)))
                  go_ret
                  exact ⟨by rw [decide_eq_false HBAD.out]; rfl, B1.out⟩
          · have HL : Hid (¬ (0 ≤ al ∧ al ≤ 20)) := hl
            have HBAD : Hid (¬ PatRight n f) := BAD.out (fun h => hl ⟨h.2.2.1, h.2.2.2.1⟩)
            clear hl
            go_wp2_with (first | (go_at_call 66; refine (is_no _ _ _ _ HL.out).mono ?_; rintro e w2 ⟨rfl, hw2⟩; rw [hw2]; clear hw2 w2))
            go_ret
            exact ⟨by rw [decide_eq_false HBAD.out]; rfl, B1.out⟩
        · obtain ⟨hq1, hq2⟩ := none_of hce
          have HBAD : Hid (¬ PatRight n f) := BAD.out (fun h => hce h.2.1)
          go_wp2_with fail
          go_ret
          exact ⟨by rw [decide_eq_false HBAD.out]; rfl, B1.out⟩
      · refine (specRightC_no ac _ HK.out hcr).mono ?_
        rintro e w1 ⟨rfl, hb1⟩
        have B1 : Hid (Below w.heap.size w w1) := BX.out.trans (hb1.mono BX.out.size)
        have HBAD : Hid (¬ PatRight n f) := BAD.out (fun h => hcr h.1)
        clear hcr hb1 bx BX
        go_wp2_with fail
        go_ret
        exact ⟨by rw [decide_eq_false HBAD.out]; rfl, B1.out⟩
    · have hki : ¬ (k : Int) < (n : Int) := by omega
      obtain rfl : k = n := by omega
      clear hbel
      have HE : Hid (decide (PatRight k f) = decide (S ≤ 40)) := by
        show decide (PatRight k f) = decide (S ≤ 40)
        rw [decide_eq_decide]
        exact ⟨fun h => by have := h.2.2.2; rw [HS0.out] at this; exact this, fun h => ⟨by omega, by omega, HA.out, by rw [HS0.out]; exact h⟩⟩
      go_wp2
      go_ret
      exact ⟨by rw [HE.out]; rfl, HB.out⟩
end Go.Proofs.Ytfeolbgenpknfaa
