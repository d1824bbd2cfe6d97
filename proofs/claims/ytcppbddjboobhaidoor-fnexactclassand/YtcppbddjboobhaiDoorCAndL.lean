/- What is proved here: the law of ClassAnd walks to true, where the table of the library lies as its initialiser lays it; nothing that was there turns. -/
import Derived.Test.YtcppbddjboobhaiDoorSpecCAndW
import Derived.Test.YtcppbddjboobhaiDoorSetAndW
namespace Go.Proofs.YtcppbddjboobhaiDoor
open Go.RowKit

set_option maxHeartbeats 1000000 in
theorem law_classAnd (a b : ByteArray) (w : World) (ha : a.size ≤ maxLen) (hb : b.size ≤ maxLen) (hT : Tab64 w) (hp0 : 0 < w.heap.size) :
    Calls Tryd.prog 3 #[.string a, .string b] w fun e w' => e = .returned (.bool true) ∧ Below w.heap.size w w' := by
  have hs1 := ha
  have hs2 := hb
  unfold maxLen at hs1 hs2
  have HT : Hid (Tab64 w) := hT
  clear hT
  by_cases hbig : 1048576 < (a.size : Int)
  · go_enter Tryd.func3, Tryd.ntmps3
    go_wp2
    go_ret
    exact ⟨rfl, Below.refl _ _⟩
  · by_cases hbig2 : 1048576 < (b.size : Int)
    · go_enter Tryd.func3, Tryd.ntmps3
      go_wp2
      go_ret
      exact ⟨rfl, Below.refl _ _⟩
    · by_cases h : RightC a ∧ RightC b
      · have R1 : Hid (∀ W, Calls Tryd.prog 6 #[.string a, .string b] W fun e w' => e = .returned (.string (classT (fun i => hasByte a i && hasByte b i))) ∧ Below W.heap.size W w') := fun W => specCAnd_yes a b W ha hb h.1 h.2
        have R2 : Hid (∀ W, Tab64 W → 0 < W.heap.size → Calls Tryd.prog 7 #[.string a, .string b] W fun e w' => e = .returned (.string (classT (fun i => hasByte a i && hasByte b i))) ∧ Below W.heap.size W w') := fun W h1 h2 => implCAnd_yes a b W ha hb h.1 h.2 h1 h2
        clear h ha hb
        go_enter Tryd.func3, Tryd.ntmps3
        go_wp2_with fail
        refine (R1.out _).mono ?_
        rintro e w1 ⟨rfl, hb1⟩
        have HB : Hid (Below w.heap.size w w1) := hb1
        clear hb1
        go_wp2_with fail
        refine (R2.out _ (HT.out.kept HB.out hp0) (Nat.lt_of_lt_of_le hp0 HB.out.size)).mono ?_
        rintro e w2 ⟨rfl, hb2⟩
        have HB2 : Hid (Below w.heap.size w w2) := HB.out.trans (hb2.mono HB.out.size)
        clear hb2
        go_wp2
        go_ret
        exact ⟨rfl, HB2.out⟩
      · have R1 : Hid (∀ W, Calls Tryd.prog 6 #[.string a, .string b] W fun e w' => e = .returned (.string (⟨#[]⟩)) ∧ Below W.heap.size W w') := fun W => specCAnd_no a b W ha hb h
        have R2 : Hid (∀ W, Tab64 W → 0 < W.heap.size → Calls Tryd.prog 7 #[.string a, .string b] W fun e w' => e = .returned (.string (⟨#[]⟩)) ∧ Below W.heap.size W w') := fun W _ _ => implCAnd_no a b W ha hb h
        clear h ha hb
        go_enter Tryd.func3, Tryd.ntmps3
        go_wp2_with fail
        refine (R1.out _).mono ?_
        rintro e w1 ⟨rfl, hb1⟩
        have HB : Hid (Below w.heap.size w w1) := hb1
        clear hb1
        go_wp2_with fail
        refine (R2.out _ (HT.out.kept HB.out hp0) (Nat.lt_of_lt_of_le hp0 HB.out.size)).mono ?_
        rintro e w2 ⟨rfl, hb2⟩
        have HB2 : Hid (Below w.heap.size w w2) := HB.out.trans (hb2.mono HB.out.size)
        clear hb2
        go_wp2
        go_ret
        exact ⟨rfl, HB2.out⟩
end Go.Proofs.YtcppbddjboobhaiDoor
