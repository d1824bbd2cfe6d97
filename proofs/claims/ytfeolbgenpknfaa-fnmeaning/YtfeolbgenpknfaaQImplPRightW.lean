/- What is proved here: the program's PatternRight says whether a pattern is right; nothing that was there turns. -/
import Derived.Test.YtfeolbgenpknfaaQAtomDToPatM
import Derived.Test.YtfeolbgenpknfaaQSetOfWToImplCRightW
import Derived.Deep.RegionWith
namespace Go.Proofs.Ytfeolbgenpknfaa
open Go.RowKit

theorem stepAll {f : Nat → Atm} {k : Nat} (h : ∀ i, i < k → AtomRight (f i)) (hk : AtomRight (f k)) : ∀ i, i < k + 1 → AtomRight (f i) := fun i hi => by
  by_cases e : i = k
  · rw [e]; exact hk
  · exact h i (by omega)
open Classical in
theorem implRightC_yes (t : ByteArray) (w : World) (hs : t.size ≤ maxLen) (h : RightC t) :
    Calls Try.prog 111 #[.string t] w fun e w' => e = .returned (.bool true) ∧ Below w.heap.size w w' := by
  refine (implRightC_any t w hs).mono ?_
  rintro e w' ⟨rfl, hb⟩
  exact ⟨by rw [decide_eq_true h], hb⟩
open Classical in
theorem implRightC_no (t : ByteArray) (w : World) (hs : t.size ≤ maxLen) (h : ¬ RightC t) :
    Calls Try.prog 111 #[.string t] w fun e w' => e = .returned (.bool false) ∧ Below w.heap.size w w' := by
  refine (implRightC_any t w hs).mono ?_
  rintro e w' ⟨rfl, hb⟩
  exact ⟨by rw [decide_eq_false h], hb⟩

set_option maxHeartbeats 1000000 in
theorem timesCounted_any (ac : ByteArray) (al am : Int) (w : World) :
    Calls Try.prog 93 #[.agg #[.string ac, .int .i64 al, .int .i64 am]] w fun e w' => e = .returned (.int .i64 (counted ⟨ac, al, am⟩)) ∧ Below w.heap.size w w' := by
  unfold counted
  by_cases h5 : am = -1
  · subst h5
    rw [if_pos rfl]
    by_cases h7 : al < 1
    · rw [if_pos h7]
      have h8 : max al 1 = 1 := by omega
      go_enter Try.func93, Try.ntmps93
      go_wp2
      go_ret
      exact ⟨rfl, (Below.refl _ _).alloc (Nat.le_refl _) _⟩
    · rw [if_neg h7]
      have h8 : max al 1 = al := by omega
      go_enter Try.func93, Try.ntmps93
      go_wp2
      go_ret
      exact ⟨rfl, (Below.refl _ _).alloc (Nat.le_refl _) _⟩
  · rw [if_neg h5]
    have h6 : (am == -1) = false := by simpa using h5
    go_enter Try.func93, Try.ntmps93
    go_wp2
    go_ret
    exact ⟨rfl, (Below.refl _ _).alloc (Nat.le_refl _) _⟩

set_option maxRecDepth 100000 in
set_option maxHeartbeats 4000000 in
theorem atomRight_yes (ac : ByteArray) (al am : Int) (w : World) (hc : ac.size ≤ maxLen) (h : AtomRight ⟨ac, al, am⟩) :
    Calls Try.prog 92 #[.agg #[.string ac, .int .i64 al, .int .i64 am]] w fun e w' => e = .returned (.bool true) ∧ Below w.heap.size w w' := by
  have HC : Hid (ac.size ≤ maxLen) := hc
  obtain ⟨h1, h2, h3, h4, h5⟩ := h
  simp only at h1 h2 h3 h4 h5
  have H1 : Hid (RightC ac) := h1
  obtain ⟨hq1, hq2⟩ := some_of h2
  have bx := ABox.new w ⟨ac, al, am⟩ 89
  simp only at bx
  have BX : Hid (Below w.heap.size w (w.alloc (.cells #[.string ac, .int .i64 al, .int .i64 am] 89))) := (Below.refl _ _).alloc (Nat.le_refl _) _
  clear hc h1
  go_enter Try.func92, Try.ntmps92
  go_wp2_with fail
  generalize w.alloc (.cells #[.string ac, .int .i64 al, .int .i64 am] 89) = v at *
  refine (implRightC_yes ac _ HC.out H1.out).mono ?_
  rintro e w1 ⟨rfl, hb1⟩
  have B1 : Hid (Below w.heap.size w w1) := BX.out.trans (hb1.mono BX.out.size)
  have HX : Hid (ABox w1 w.heap.size ⟨ac, al, am⟩) := bx.kept hb1 bx.lt
  obtain ⟨x0, x1, x2, xl⟩ := HX.out.all
  simp only at x0 x1 x2
  clear hb1 bx BX
  rcases h5 with rfl | ⟨h5, h6, h7⟩
  · go_wp2
    go_ret
    exact ⟨rfl, B1.out⟩
  · have h9 : (am == -1) = false := by simp; omega
    have h10 : ¬ al < 0 := by omega
    have h11 : ¬ 20 < al := by omega
    by_cases h8 : 1 ≤ al
    · go_wp2
      go_ret
      exact ⟨rfl, B1.out⟩
    · go_wp2
      go_ret
      exact ⟨rfl, B1.out⟩

set_option maxRecDepth 100000 in
set_option maxHeartbeats 4000000 in
theorem atomRight_no (ac : ByteArray) (al am : Int) (w : World) (hc : ac.size ≤ maxLen) (h : ¬ AtomRight ⟨ac, al, am⟩) :
    Calls Try.prog 92 #[.agg #[.string ac, .int .i64 al, .int .i64 am]] w fun e w' => e = .returned (.bool false) ∧ Below w.heap.size w w' := by
  have HC : Hid (ac.size ≤ maxLen) := hc
  have HH : Hid (¬ AtomRight ⟨ac, al, am⟩) := h
  have bx := ABox.new w ⟨ac, al, am⟩ 89
  simp only at bx
  have BX : Hid (Below w.heap.size w (w.alloc (.cells #[.string ac, .int .i64 al, .int .i64 am] 89))) := (Below.refl _ _).alloc (Nat.le_refl _) _
  clear hc h
  by_cases h2 : 0 < ac.size
  · obtain ⟨hq1, hq2⟩ := some_of h2
    go_enter Try.func92, Try.ntmps92
    go_wp2_with fail
    generalize w.alloc (.cells #[.string ac, .int .i64 al, .int .i64 am] 89) = v at *
    by_cases h1 : RightC ac
    · have H1 : Hid (RightC ac) := h1
      clear h1
      refine (implRightC_yes ac _ HC.out H1.out).mono ?_
      rintro e w1 ⟨rfl, hb1⟩
      have B1 : Hid (Below w.heap.size w w1) := BX.out.trans (hb1.mono BX.out.size)
      have HX : Hid (ABox w1 w.heap.size ⟨ac, al, am⟩) := bx.kept hb1 bx.lt
      obtain ⟨x0, x1, x2, xl⟩ := HX.out.all
      simp only at x0 x1 x2
      clear hb1 bx BX
      by_cases h3 : al < 0
      · go_wp2
        go_ret
        exact ⟨rfl, B1.out⟩
      by_cases h4 : 20 < al
      · go_wp2
        go_ret
        exact ⟨rfl, B1.out⟩
      have h5 : ¬ (am = -1 ∨ (al ≤ am ∧ 1 ≤ am ∧ am ≤ 20)) := fun h => HH.out ⟨H1.out, h2, by show 0 ≤ al; omega, by show al ≤ 20; omega, h⟩
      have h9 : (am == -1) = false := by simp; omega
      by_cases h8 : 1 ≤ al
      · by_cases h6 : al ≤ am
        · have h7 : ¬ am ≤ 20 := by omega
          clear h5
          go_wp2
          go_ret
          exact ⟨by show Ending.returned (.bool (decide (am ≤ 20))) = _; rw [decide_eq_false (show ¬ am ≤ 20 by omega)], B1.out⟩
        · clear h5
          go_wp2
          go_ret
          exact ⟨rfl, B1.out⟩
      · by_cases h6 : 1 ≤ am
        · have h7 : ¬ am ≤ 20 := by omega
          clear h5
          go_wp2
          go_ret
          exact ⟨by show Ending.returned (.bool (decide (am ≤ 20))) = _; rw [decide_eq_false (show ¬ am ≤ 20 by omega)], B1.out⟩
        · clear h5
          go_wp2
          go_ret
          exact ⟨rfl, B1.out⟩
    · have H1 : Hid (¬ RightC ac) := h1
      clear h1
      refine (implRightC_no ac _ HC.out H1.out).mono ?_
      rintro e w1 ⟨rfl, hb1⟩
      have B1 : Hid (Below w.heap.size w w1) := BX.out.trans (hb1.mono BX.out.size)
      clear hb1 bx BX
      go_wp2
      go_ret
      exact ⟨rfl, B1.out⟩
  · obtain ⟨hq1, hq2⟩ := none_of h2
    go_enter Try.func92, Try.ntmps92
    go_wp2
    go_ret
    exact ⟨rfl, BX.out⟩

open Classical in
set_option maxRecDepth 100000 in
set_option maxHeartbeats 4000000 in
theorem implPRight_any (sa : Option Addr) (n cap : Nat) (f : Nat → Atm) (w : World) (hn : n ≤ maxLen) (hr : ARow w w.heap.size sa n f) (hc : ∀ i, i < n → (f i).c.size ≤ maxLen) :
    Calls Try.prog 57 #[.slice sa n cap] w fun e w' => e = .returned (.bool (decide (PatRight n f))) ∧ Below w.heap.size w w' := by
  unfold maxLen at hn
  have HC : Hid (∀ i, i < n → (f i).c.size ≤ maxLen) := hc
  have HR : Hid (ARow w w.heap.size sa n f) := hr
  clear hc hr
  by_cases h1 : (n : Int) < 1
  · rw [decide_eq_false (fun h : PatRight n f => by have := h.1; omega)]
    go_enter Try.func57, Try.ntmps57
    go_wp2
    go_ret
    exact ⟨rfl, Below.refl _ _⟩
  by_cases h2 : 20 < (n : Int)
  · rw [decide_eq_false (fun h : PatRight n f => by have := h.2.1; omega)]
    go_enter Try.func57, Try.ntmps57
    go_wp2
    go_ret
    exact ⟨rfl, Below.refl _ _⟩
  go_enter Try.func57, Try.ntmps57
  go_wp2
  go_loopw [3, 16] (fun s i wr => ∃ k : Nat, k ≤ n ∧ i = .int .i64 (k : Int) ∧ s = .int .i64 (sumTo (fun i => counted (f i)) k) ∧ Below w.heap.size w wr ∧ ∀ i, i < k → AtomRight (f i)) (fun _ i _ => n - (intOf i).toNat)
  case atStart => exact ⟨0, Nat.zero_le _, rfl, rfl, Below.refl _ _, fun i hi => by omega⟩
  case round =>
    obtain ⟨k, hk, rfl, rfl, hbel, hall⟩ := hrel
    have HB : Hid (Below w.heap.size w wr) := hbel
    have HA : Hid (∀ i, i < k → AtomRight (f i)) := hall
    have hS := sumTo_bd (g := fun i => counted (f i)) (b := 20) (by omega) k (fun i hi => by have := counted_bd (hall i hi); omega)
    clear hall
    have HSS : Hid (sumTo (fun i => counted (f i)) (k + 1) = sumTo (fun i => counted (f i)) k + counted (f k)) := rfl
    generalize hS0 : sumTo (fun i => counted (f i)) k = S at *
    have HS0 : Hid (sumTo (fun i => counted (f i)) k = S) := hS0
    clear hS0
    by_cases hkl : k < n
    · obtain ⟨bb, off, rfl, hbb, hat⟩ := HR.out.at hbel hkl
      obtain ⟨c0, c1, c2⟩ := hat
      have HK : Hid ((f k).c.size ≤ maxLen) := HC.out k hkl
      clear hbel
      have hki : (k : Int) < (n : Int) := by omega
      have hk0 : (0 : Int) ≤ (k : Int) := by omega
      obtain ⟨⟨ac, al, am⟩, ha⟩ : ∃ a, f k = a := ⟨_, rfl⟩
      have HF : Hid (f k = ⟨ac, al, am⟩) := ha
      rw [ha] at c0 c1 c2 HK HSS
      simp only at c0 c1 c2 HK
      clear ha
      have bx := ABox.new wr ⟨ac, al, am⟩ 89
      simp only at bx
      have BX : Hid (Below w.heap.size w (wr.alloc (.cells #[.string ac, .int .i64 al, .int .i64 am] 89))) := HB.out.alloc HB.out.size _
      go_wp2_with fail
      generalize wr.alloc (.cells #[.string ac, .int .i64 al, .int .i64 am] 89) = v at *
      generalize wr.heap.size = p at *
      clear HB c0 c1 c2
      by_cases hcr : AtomRight ⟨ac, al, am⟩
      · have HAR : Hid (AtomRight ⟨ac, al, am⟩) := hcr
        have hcb := counted_bd hcr
        clear hcr
        refine (atomRight_yes ac al am _ HK.out HAR.out).mono ?_
        rintro e w1 ⟨rfl, hb1⟩
        have B1 : Hid (Below w.heap.size w w1) := BX.out.trans (hb1.mono BX.out.size)
        have HX : Hid (ABox w1 p ⟨ac, al, am⟩) := bx.kept hb1 bx.lt
        obtain ⟨x0, x1, x2, xl⟩ := HX.out.all
        simp only at x0 x1 x2
        clear hb1 bx BX
        generalize hct : counted ⟨ac, al, am⟩ = ct at *
        have HCT : Hid (counted ⟨ac, al, am⟩ = ct) := hct
        clear hct
        go_wp2_with (go_at_call 93; refine (timesCounted_any ac al am _).mono ?_; rintro e w2 ⟨rfl, hb2⟩; rw [HCT.out]; have HB2 : Hid (Below w.heap.size w w2) := B1.out.trans (hb2.mono B1.out.size); clear hb2)
        go_roundw
        case rel => exact ⟨k + 1, by omega, by go_num, by rw [HSS.out], HB2.out, stepAll HA.out (by rw [HF.out]; exact HAR.out)⟩
        case measure => simp [intOf]; omega
      · have HBAD : Hid (¬ PatRight n f) := fun hp => hcr (by rw [← HF.out]; exact hp.2.2.1 k hkl)
        refine (atomRight_no ac al am _ HK.out hcr).mono ?_
        rintro e w1 ⟨rfl, hb1⟩
        have B1 : Hid (Below w.heap.size w w1) := BX.out.trans (hb1.mono BX.out.size)
        clear hcr hb1 bx BX
        go_wp2_with fail
        go_ret
        exact ⟨by rw [decide_eq_false HBAD.out]; rfl, B1.out⟩
    · have hki : ¬ (k : Int) < (n : Int) := by omega
      obtain rfl : k = n := by omega
      clear hbel
      have HE : Hid (decide (PatRight k f) = decide (S ≤ 40)) := by
        show decide (PatRight k f) = decide (S ≤ 40)
        rw [decide_eq_decide]
        exact ⟨fun h => by have := h.2.2.2; rw [HS0.out] at this; exact this, fun h => ⟨by omega, by omega, HA.out, by rw [HS0.out]; exact h⟩⟩
      go_wp2
      go_ret
      exact ⟨by rw [HE.out]; rfl, HB.out⟩
end Go.Proofs.Ytfeolbgenpknfaa
