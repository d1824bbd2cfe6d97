/- What is proved here: the specification's ClassHas says whether a byte is in a right class; nothing that was there turns. -/
import Derived.Test.YtcppbddjboobhaaDoorClassRightW
import Derived.Test.YtcppbddjboobhaaDoorL03HasW
import Derived.Test.YtcppbddjboobhaaDoorIsW
namespace Go.Proofs.YtcppbddjboobhaaDoor
open Go.RowKit

/-- What ClassHas says. -/
def HasC (c : ByteArray) (b : Int) : Prop := RightC c ∧ 0 ≤ b ∧ b ≤ 255 ∧ hasByte c b.toNat = true
open Classical in
set_option maxHeartbeats 1000000 in
theorem specCHas_any (c : ByteArray) (b : Int) (w : World) (hc : c.size ≤ maxLen) :
    Calls Tryd.prog 65 #[.string c, .int .i64 b] w fun e w' => e = .returned (.bool (decide (HasC c b))) ∧ Below w.heap.size w w' := by
  have C1 := fun W => specRightC_any c W hc
  by_cases h : RightC c
  · rw [decide_eq_true h] at C1
    have R1 : Hid (∀ W, Calls Tryd.prog 63 #[.string c] W fun e w' => e = .returned (.bool true) ∧ Below W.heap.size W w') := C1
    clear C1
    by_cases hb : 0 ≤ b ∧ b ≤ 255
    · obtain ⟨k, rfl⟩ := Int.eq_ofNat_of_zero_le hb.1
      have e0 : decide (HasC c (k : Int)) = hasByte c k := by
        unfold HasC
        rw [Int.toNat_natCast]
        cases hh : hasByte c k
        · simp
        · simp [h, hb.1, hb.2]
      rw [e0]
      have HC : Hid (c.size ≤ maxLen) := hc
      have HK : Hid (0 ≤ (k : Int) ∧ (k : Int) ≤ 255) := hb
      have hk0 : (0 : Int) ≤ (k : Int) := hb.1
      have hk1 : (k : Int) ≤ 255 := hb.2
      clear e0 hc hb h
      go_enter Tryd.func65, Tryd.ntmps65
      go_wp2_with fail
      refine (R1.out _).mono ?_
      rintro e w1 ⟨rfl, hb1⟩
      have B1 : Hid (Below w.heap.size w w1) := hb1
      clear hb1
      go_wp2_with fail
      refine (is_yes _ 0 255 _ HK.out.1 HK.out.2).mono ?_
      rintro e w2 ⟨rfl, hw⟩
      subst hw
      go_wp2_with fail
      refine (l03Has_any c k _ HC.out).mono ?_
      rintro e w3 ⟨rfl, hw⟩
      subst hw
      go_wp2
      go_ret
      exact ⟨rfl, B1.out⟩
    · have e0 : decide (HasC c b) = false := decide_eq_false (fun h2 => hb ⟨h2.2.1, h2.2.2.1⟩)
      rw [e0]
      have HK : Hid (¬ (0 ≤ b ∧ b ≤ 255)) := hb
      clear e0 hc hb h
      go_enter Tryd.func65, Tryd.ntmps65
      go_wp2_with fail
      refine (R1.out _).mono ?_
      rintro e w1 ⟨rfl, hb1⟩
      have B1 : Hid (Below w.heap.size w w1) := hb1
      clear hb1
      go_wp2_with fail
      refine (is_no _ 0 255 _ HK.out).mono ?_
      rintro e w2 ⟨rfl, hw⟩
      subst hw
      go_wp2
      go_ret
      exact ⟨rfl, B1.out⟩
  · rw [decide_eq_false h] at C1
    have R1 : Hid (∀ W, Calls Tryd.prog 63 #[.string c] W fun e w' => e = .returned (.bool false) ∧ Below W.heap.size W w') := C1
    have e0 : decide (HasC c b) = false := decide_eq_false (fun h2 => h h2.1)
    rw [e0]
    clear C1 e0 hc h
    go_enter Tryd.func65, Tryd.ntmps65
    go_wp2_with fail
    refine (R1.out _).mono ?_
    rintro e w1 ⟨rfl, hb1⟩
    have B1 : Hid (Below w.heap.size w w1) := hb1
    clear hb1
    go_wp2
    go_ret
    exact ⟨rfl, B1.out⟩
end Go.Proofs.YtcppbddjboobhaaDoor
