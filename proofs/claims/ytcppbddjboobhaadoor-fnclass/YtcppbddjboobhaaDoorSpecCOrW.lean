/- What is proved here: the specification's ClassOr hands back the class of what is in one of two right ones, or nothing; nothing that was there turns. -/
import Derived.Test.YtcppbddjboobhaaDoorClassRightW
import Derived.Test.YtcppbddjboobhaaDoorClassRowW
namespace Go.Proofs.YtcppbddjboobhaaDoor
open Go.RowKit

theorem has_append (a b : ByteArray) (x : Nat) : hasByte (a ++ b) x = (hasByte a x || hasByte b x) := by
  unfold hasByte
  rw [← List.any_append]
  congr 1
open Classical in
set_option maxHeartbeats 2000000 in
theorem specCOr_yes (a b : ByteArray) (w : World) (ha : a.size ≤ 1048576) (hb : b.size ≤ 1048576) (h1 : RightC a) (h2 : RightC b) :
    Calls Tryd.prog 56 #[.string a, .string b] w fun e w' => e = .returned (.string (classT (fun x => hasByte a x || hasByte b x))) ∧ Below w.heap.size w w' := by
  have hab : (a ++ b).size ≤ maxLen := by unfold maxLen; rw [ByteArray.size_append]; omega
  have HAB : Hid ((a ++ b).size ≤ maxLen) := hab
  have ha' : a.size ≤ maxLen := by unfold maxLen; omega
  have hb' : b.size ≤ maxLen := by unfold maxLen; omega
  clear hab
  have C1 := fun W => specRightC_any a W ha'
  have C2 := fun W => specRightC_any b W hb'
  rw [decide_eq_true h1] at C1
  rw [decide_eq_true h2] at C2
  have R1 : Hid (∀ W, Calls Tryd.prog 63 #[.string a] W fun e w' => e = .returned (.bool true) ∧ Below W.heap.size W w') := C1
  have R2 : Hid (∀ W, Calls Tryd.prog 63 #[.string b] W fun e w' => e = .returned (.bool true) ∧ Below W.heap.size W w') := C2
  clear C1 C2 h1 h2 ha' hb'
  go_enter Tryd.func56, Tryd.ntmps56
  go_wp2_with fail
  refine (R1.out _).mono ?_
  rintro e w1 ⟨rfl, hb1⟩
  have B1 : Hid (Below w.heap.size w w1) := hb1
  clear hb1
  go_wp2_with fail
  refine (R2.out _).mono ?_
  rintro e w2 ⟨rfl, hb2⟩
  have B2 : Hid (Below w.heap.size w w2) := B1.out.trans (hb2.mono B1.out.size)
  clear hb2
  go_wp2_with fail
  refine (l03Row_any (a ++ b) w2 HAB.out).mono ?_
  rintro e w3 ⟨g, rfl, hg, hb3, ho3⟩
  have B3 : Hid (Below w.heap.size w w3) := B2.out.trans (hb3.mono B2.out.size)
  have O3 : Hid (OwnB w3 g 256 (fun x => hasByte a x || hasByte b x)) := ho3.congr (fun i _ => has_append a b i)
  clear hb3 ho3
  go_wp2_with fail
  refine (l03From_any g _ w3 O3.out).mono ?_
  rintro e w4 ⟨rfl, hb4⟩
  have B4 : Hid (Below w.heap.size w w4) := B3.out.trans (hb4.mono B3.out.size)
  clear hb4
  go_wp2
  go_ret
  exact ⟨rfl, B4.out⟩
open Classical in
set_option maxHeartbeats 1000000 in
theorem specCOr_no (a b : ByteArray) (w : World) (ha : a.size ≤ maxLen) (hb : b.size ≤ maxLen) (h : ¬ (RightC a ∧ RightC b)) :
    Calls Tryd.prog 56 #[.string a, .string b] w fun e w' => e = .returned (.string ⟨#[]⟩) ∧ Below w.heap.size w w' := by
  have C1 := fun W => specRightC_any a W ha
  have C2 := fun W => specRightC_any b W hb
  by_cases h1 : RightC a
  · have h2 : ¬ RightC b := fun h2 => h ⟨h1, h2⟩
    rw [decide_eq_true h1] at C1
    rw [decide_eq_false h2] at C2
    have R1 : Hid (∀ W, Calls Tryd.prog 63 #[.string a] W fun e w' => e = .returned (.bool true) ∧ Below W.heap.size W w') := C1
    have R2 : Hid (∀ W, Calls Tryd.prog 63 #[.string b] W fun e w' => e = .returned (.bool false) ∧ Below W.heap.size W w') := C2
    clear C1 C2 h h1 h2
    go_enter Tryd.func56, Tryd.ntmps56
    go_wp2_with fail
    refine (R1.out _).mono ?_
    rintro e w1 ⟨rfl, hb1⟩
    have B1 : Hid (Below w.heap.size w w1) := hb1
    clear hb1
    go_wp2_with fail
    refine (R2.out _).mono ?_
    rintro e w2 ⟨rfl, hb2⟩
    have B2 : Hid (Below w.heap.size w w2) := B1.out.trans (hb2.mono B1.out.size)
    clear hb2
    go_wp2
    go_ret
    exact ⟨rfl, B2.out⟩
  · rw [decide_eq_false h1] at C1
    have R1 : Hid (∀ W, Calls Tryd.prog 63 #[.string a] W fun e w' => e = .returned (.bool false) ∧ Below W.heap.size W w') := C1
    clear C1 C2 h h1
    go_enter Tryd.func56, Tryd.ntmps56
    go_wp2_with fail
    refine (R1.out _).mono ?_
    rintro e w1 ⟨rfl, hb1⟩
    have B1 : Hid (Below w.heap.size w w1) := hb1
    clear hb1
    go_wp2
    go_ret
    exact ⟨rfl, B1.out⟩
end Go.Proofs.YtcppbddjboobhaaDoor
