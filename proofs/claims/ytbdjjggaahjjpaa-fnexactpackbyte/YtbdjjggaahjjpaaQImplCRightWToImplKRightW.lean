/- What is proved here: the program's ClassRight says whether a text is a right class, isByte whether a number is a byte's; nothing that was there turns.
   What is proved here: the program's CellsRight says whether a row of cells is right; nothing that was there turns. -/
import Derived.Test.YtbdjjggaahjjpaaQSetOfW
import Derived.Test.YtbdjjggaahjjpaaQCellMToCloM
import Derived.Deep.RegionWith
namespace Go.Proofs.Ytbdjjggaahjjpaa
open Go.RowKit

open Classical in
set_option maxHeartbeats 1000000 in
theorem implRightC_any (t : ByteArray) (w : World) (hs : t.size ≤ maxLen) :
    Calls Try.prog 88 #[.string t] w fun e w' => e = .returned (.bool (decide (RightC t))) ∧ Below w.heap.size w w' := by
  go_enter Try.func88, Try.ntmps88
  go_wp2_with fail
  refine (setOfClass_any t _ hs).mono ?_
  rintro e w1 ⟨hb1, h⟩
  have HB : Hid (Below w.heap.size w w1) := hb1
  clear hb1
  rcases h with ⟨h, rfl⟩ | ⟨h, rfl⟩
  · have H : Hid (RightC t) := h
    clear h
    unfold setV
    go_wp2
    go_ret
    exact ⟨by rw [decide_eq_true H.out]; rfl, HB.out.alloc HB.out.size _⟩
  · have H : Hid (¬ RightC t) := h
    clear h
    unfold setV
    go_wp2
    go_ret
    exact ⟨by rw [decide_eq_false H.out]; rfl, HB.out.alloc HB.out.size _⟩
end Go.Proofs.Ytbdjjggaahjjpaa
namespace Go.Proofs.Ytbdjjggaahjjpaa
open Go.RowKit

open Classical in
theorem implRightK_yes (t : ByteArray) (w : World) (hs : t.size ≤ maxLen) (h : RightC t) :
    Calls Try.prog 88 #[.string t] w fun e w' => e = .returned (.bool true) ∧ Below w.heap.size w w' := by
  refine (implRightC_any t w hs).mono ?_
  rintro e w' ⟨rfl, hb⟩
  exact ⟨by rw [decide_eq_true h], hb⟩
open Classical in
theorem implRightK_no (t : ByteArray) (w : World) (hs : t.size ≤ maxLen) (h : ¬ RightC t) :
    Calls Try.prog 88 #[.string t] w fun e w' => e = .returned (.bool false) ∧ Below w.heap.size w w' := by
  refine (implRightC_any t w hs).mono ?_
  rintro e w' ⟨rfl, hb⟩
  exact ⟨by rw [decide_eq_false h], hb⟩

open Classical in
set_option maxRecDepth 100000 in
set_option maxHeartbeats 4000000 in
theorem implKRight_any (sa : Option Addr) (n cap : Nat) (f : Nat → Cel) (w : World) (hn : n ≤ maxLen) (hr : CRow w w.heap.size sa n f) (hc : ∀ i, i < n → (f i).c.size ≤ maxLen) :
    Calls Try.prog 70 #[.slice sa n cap] w fun e w' => e = .returned (.bool (decide (CellsOk n f))) ∧ Below w.heap.size w w' := by
  unfold maxLen at hn
  have HC : Hid (∀ i, i < n → (f i).c.size ≤ maxLen) := hc
  have HR : Hid (CRow w w.heap.size sa n f) := hr
  clear hc hr
  by_cases h1 : (n : Int) < 1
  · rw [decide_eq_false (fun h : CellsOk n f => by have := h.1; omega)]
    go_enter Try.func70, Try.ntmps70
    go_wp2
    go_ret
    exact ⟨rfl, Below.refl _ _⟩
  by_cases h2 : 60 < (n : Int)
  · rw [decide_eq_false (fun h : CellsOk n f => by have := h.2.1; omega)]
    go_enter Try.func70, Try.ntmps70
    go_wp2
    go_ret
    exact ⟨rfl, Below.refl _ _⟩
  go_enter Try.func70, Try.ntmps70
  go_wp2
  go_loopw [15] (fun i wr => ∃ k : Nat, k ≤ n ∧ i = .int .i64 (k : Int) ∧ Below w.heap.size w wr ∧ ∀ i, i < k → CellOk (f i)) (fun i _ => n - (intOf i).toNat)
  case atStart => exact ⟨0, Nat.zero_le _, rfl, Below.refl _ _, fun i hi => by omega⟩
  case round =>
    obtain ⟨k, hk, rfl, hbel, hall⟩ := hrel
    have HB : Hid (Below w.heap.size w wr) := hbel
    have HA : Hid (∀ i, i < k → CellOk (f i)) := hall
    clear hall
    by_cases hkl : k < n
    · obtain ⟨bb, off, rfl, hbb, hat⟩ := HR.out.at hbel hkl
      obtain ⟨c0, c1, c2⟩ := hat
      have HK : Hid ((f k).c.size ≤ maxLen) := HC.out k hkl
      clear hbel
      have hki : (k : Int) < (n : Int) := by omega
      have hk0 : (0 : Int) ≤ (k : Int) := by omega
      obtain ⟨⟨ac, al, am⟩, ha⟩ : ∃ a, f k = a := ⟨_, rfl⟩
      have HF : Hid (f k = ⟨ac, al, am⟩) := ha
      rw [ha] at c0 c1 c2 HK
      simp only at c0 c1 c2 HK
      clear ha
      have bx := CBox.new wr ⟨ac, al, am⟩ 85
      simp only at bx
      have BX : Hid (Below w.heap.size w (wr.alloc (.cells #[.string ac, .bool al, .bool am] 85))) := HB.out.alloc HB.out.size _
      have BAD : Hid (¬ CellOk ⟨ac, al, am⟩ → ¬ CellsOk n f) := fun h hp => h (by rw [← HF.out]; exact hp.2.2 k hkl)
      by_cases hce : 0 < ac.size
      · obtain ⟨hq1, hq2⟩ := someC hce
        go_wp2_with fail
        generalize wr.alloc (.cells #[.string ac, .bool al, .bool am] 85) = v at *
        generalize wr.heap.size = p at *
        clear HB c0 c1 c2
        by_cases hcr : RightC ac
        · have HAR : Hid (CellOk ⟨ac, al, am⟩) := ⟨hcr, hce⟩
          refine (implRightK_yes ac _ HK.out hcr).mono ?_
          rintro e w1 ⟨rfl, hb1⟩
          have B1 : Hid (Below w.heap.size w w1) := BX.out.trans (hb1.mono BX.out.size)
          clear hb1 bx BX hcr
          go_wp2_with fail
          go_roundw
          case rel => exact ⟨k + 1, by omega, by go_num, B1.out, stepCell HA.out (by rw [HF.out]; exact HAR.out)⟩
          case measure => simp [intOf]; omega
        · have HBAD : Hid (¬ CellsOk n f) := BAD.out (fun h => hcr h.1)
          refine (implRightK_no ac _ HK.out hcr).mono ?_
          rintro e w1 ⟨rfl, hb1⟩
          have B1 : Hid (Below w.heap.size w w1) := BX.out.trans (hb1.mono BX.out.size)
          clear hcr hb1 bx BX
          go_wp2_with fail
          go_ret
          exact ⟨by rw [decide_eq_false HBAD.out]; rfl, B1.out⟩
      · obtain ⟨hq1, hq2⟩ := noneC hce
        have HBAD : Hid (¬ CellsOk n f) := BAD.out (fun h => hce h.2)
        go_wp2_with fail
        go_ret
        exact ⟨by rw [decide_eq_false HBAD.out]; rfl, BX.out⟩
    · have hki : ¬ (k : Int) < (n : Int) := by omega
      obtain rfl : k = n := by omega
      clear hbel
      have HE : Hid (CellsOk k f) := ⟨by omega, by omega, HA.out⟩
      go_wp2
      go_ret
      exact ⟨by rw [decide_eq_true HE.out]; rfl, HB.out⟩
end Go.Proofs.Ytbdjjggaahjjpaa
