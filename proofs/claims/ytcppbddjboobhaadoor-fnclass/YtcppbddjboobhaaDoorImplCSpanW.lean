/- What is proved here: the program's ClassSpan hands back the class of all bytes from low to high, or nothing; nothing that was there turns. -/
import Derived.Test.YtcppbddjboobhaaDoorSetBoxM
import Derived.Test.YtcppbddjboobhaaDoorClassW
import Derived.Test.YtcppbddjboobhaaDoorIsByteW
import Derived.Test.YtcppbddjboobhaaDoorSpecCSpanW
namespace Go.Proofs.YtcppbddjboobhaaDoor
open Go.RowKit

/-- The set of the bytes from a on, n of them. -/
def setSpan (a : Nat) : Nat → (Nat → Nat)
  | 0 => fun _ => 0
  | n + 1 => withB (setSpan a n) (a + n)
theorem setSpan_set (a : Nat) : ∀ n, Set4 (setSpan a n)
  | 0 => fun _ => by show 0 < 18446744073709551616; decide
  | n + 1 => withB_set (setSpan_set a n) _
theorem inSet_span (a i : Nat) : ∀ n, inSet (setSpan a n) i = decide (a ≤ i ∧ i < a + n)
  | 0 => by
    rw [show setSpan a 0 = fun _ => 0 from rfl, inSet_zero]
    exact (decide_eq_false (by omega)).symm
  | n + 1 => by
    rw [show setSpan a (n + 1) = withB (setSpan a n) (a + n) from rfl, inSet_with, inSet_span a i n]
    by_cases h : a + n = i
    · subst h
      simp
    · have h1 : (a + n == i) = false := by simpa using h
      rw [h1, Bool.or_false]
      by_cases h2 : a ≤ i ∧ i < a + n
      · rw [decide_eq_true h2, decide_eq_true (by omega)]
      · rw [decide_eq_false h2, decide_eq_false (by omega)]
set_option maxRecDepth 100000 in
set_option maxHeartbeats 2000000 in
theorem implCSpan_yes (low high : Int) (w : World) (h0 : 0 ≤ low) (h1 : low ≤ 255) (h2 : 0 ≤ high) (h3 : high ≤ 255) (hT : Tab64 w) (hp0 : 2 < w.heap.size) :
    Calls Tryd.prog 54 #[.int .i64 low, .int .i64 high] w fun e w' => e = .returned (.string (classT (spanB low high))) ∧ Below w.heap.size w w' := by
  obtain ⟨a, rfl⟩ := Int.eq_ofNat_of_zero_le h0
  have HT : Hid (Tab64 w) := hT
  clear hT
  go_enter Tryd.func54, Tryd.ntmps54
  go_wp2_with (first | (go_at_call 115; refine (isByte_yes _ _ (by assumption) (by assumption)).mono ?_; rintro e w' ⟨rfl, hw'⟩; rw [hw']; clear hw' w'))
  go_loopw [6] (fun i wr => ∃ n : Nat, i = .int .i64 ((a + n : Nat) : Int) ∧ ((a + n : Nat) : Int) ≤ 256 ∧ (n = 0 ∨ ((a + n : Nat) : Int) ≤ high + 1) ∧ Below w.heap.size w wr ∧ Box4 wr w.heap.size (setSpan a n)) (fun i _ => 256 - (intOf i).toNat)
  case atStart => exact ⟨0, rfl, by omega, Or.inl rfl, (Below.refl _ _).alloc (Nat.le_refl _) _, Box4.new w (fun _ => 0)⟩
  case round =>
    obtain ⟨n, rfl, hn1, hn2, hbel, hB⟩ := hrel
    have HW : Hid (Below w.heap.size w wr) := hbel
    have HB : Hid (Box4 wr w.heap.size (setSpan a n)) := hB
    have HS : Hid (Set4 (setSpan a n)) := setSpan_set a n
    obtain ⟨b0, b1, b2, b3⟩ := hB.cells
    obtain ⟨fb0, fb1, fb2, fb3⟩ := hB.frozen
    have lb := hB.lt
    have HN : Hid (n = 0 ∨ ((a + n : Nat) : Int) ≤ high + 1) := hn2
    clear hbel hB hn2
    obtain ⟨m, hm⟩ : ∃ m, a + n = m := ⟨_, rfl⟩
    have HM : Hid (a + n = m) := hm
    rw [hm] at hn1 ⊢
    clear hm
    by_cases hlt : (m : Int) ≤ high
    · have hm256 : m < 256 := by omega
      have hm0 : (0 : Int) ≤ (m : Int) := by omega
      have hm1 : (m : Int) ≤ 255 := by omega
      have hmw : IntKind.u8.wrap (m : Int) = m := by rw [IntKind.wrap_u8]; omega
      go_wp2_with (first | (go_at_call 113; refine (with_any (setSpan a n) _ _ HS.out hm256).mono ?_; rintro e w' ⟨rfl, hb'⟩; have q := Box4.kept HB.out hb' lb; obtain ⟨q0, q1, q2, q3⟩ := q.frozen; obtain ⟨r0, r1, r2, r3⟩ := q.cells; have HQ : Hid (Box4 w' w.heap.size (setSpan a n)) := q; have HQW : Hid (Below w.heap.size w w') := HW.out.trans (hb'.mono HW.out.size); clear q hb' b0 b1 b2 b3 fb0 fb1 fb2 fb3))
      go_roundw
      case rel =>
        refine ⟨n + 1, by rw [← Nat.add_assoc, HM.out]; go_num, by rw [← Nat.add_assoc, HM.out]; omega, Or.inr (by rw [← Nat.add_assoc, HM.out]; omega), below_four HQW.out (Nat.le_refl _), ?_⟩
        have h1 := HQ.out.store (withB (setSpan a n) (a + n))
        rw [HM.out] at h1
        show Box4 _ _ (withB (setSpan a n) (a + n))
        rw [HM.out]
        exact h1
      case measure => simp [intOf]; omega
    · go_wp2_with fail
      refine (class_any (setSpan a n) wr HS.out (HT.out.kept HW.out hp0) (by omega)).mono ?_
      rintro e w2 ⟨rfl, hb2⟩
      have HB2 : Hid (Below w.heap.size w w2) := HW.out.trans (hb2.mono HW.out.size)
      clear hb2
      go_wp2
      go_ret
      refine ⟨?_, HB2.out⟩
      show Ending.returned (.string (classT (inSet (setSpan a n)))) = _
      rw [classT_congr (g := spanB (a : Int) high) (fun i _ => ?_)]
      rw [inSet_span]
      have e1 := HM.out
      unfold spanB
      rcases HN.out with h | h
      · subst h
        by_cases h5 : (a : Int) ≤ (i : Int) ∧ (i : Int) ≤ high
        · omega
        · rw [decide_eq_false (by omega)]
          simp
          omega
      · by_cases h5 : (a : Int) ≤ (i : Int) ∧ (i : Int) ≤ high
        · rw [decide_eq_true (by omega)]
          simp
          omega
        · rw [decide_eq_false (by omega)]
          simp
          omega
theorem implCSpan_no (low high : Int) (w : World) (h : ¬ (0 ≤ low ∧ low ≤ 255 ∧ 0 ≤ high ∧ high ≤ 255)) :
    Calls Tryd.prog 54 #[.int .i64 low, .int .i64 high] w fun e w' => e = .returned (.string ⟨#[]⟩) ∧ w' = w := by
  by_cases h1 : 0 ≤ low ∧ low ≤ 255
  · have h2 : ¬ (0 ≤ high ∧ high ≤ 255) := fun h2 => h ⟨h1.1, h1.2, h2.1, h2.2⟩
    have H1 : Hid (0 ≤ low ∧ low ≤ 255) := h1
    have H2 : Hid (¬ (0 ≤ high ∧ high ≤ 255)) := h2
    clear h h1 h2
    go_enter Tryd.func54, Tryd.ntmps54
    go_wp2_with fail
    refine (isByte_yes _ _ H1.out.1 H1.out.2).mono ?_
    rintro e w' ⟨rfl, hw'⟩
    rw [hw']
    clear hw' w'
    go_wp2_with fail
    refine (isByte_no _ _ H2.out).mono ?_
    rintro e w' ⟨rfl, hw'⟩
    rw [hw']
    clear hw' w'
    go_wp2
    go_ret
    exact ⟨rfl, rfl⟩
  · have H1 : Hid (¬ (0 ≤ low ∧ low ≤ 255)) := h1
    clear h h1
    go_enter Tryd.func54, Tryd.ntmps54
    go_wp2_with fail
    refine (isByte_no _ _ H1.out).mono ?_
    rintro e w' ⟨rfl, hw'⟩
    rw [hw']
    clear hw' w'
    go_wp2
    go_ret
    exact ⟨rfl, rfl⟩
end Go.Proofs.YtcppbddjboobhaaDoor
