/- What is proved here: the specification's IsFactor and BorderOf say what a factor and what the border is; nothing that was there turns. -/
import Derived.Test.YtfeolbgenpknfaaQSpecGoesW
import Derived.Test.YtfeolbgenpknfaaQPlainW
import Derived.Test.YtfeolbgenpknfaaQClassAlg
namespace Go.Proofs.Ytfeolbgenpknfaa
open Go.RowKit

/-- The cells are plain and the text is a factor. -/
def FactorP (n : Nat) (f : Nat → Cel) (t : ByteArray) : Prop := t.size ≤ 8000 ∧ PlainP n f ∧ SomeS n f t t.size
theorem cels_max {n : Nat} {f : Nat → Cel} (h : CellsOk n f) : ∀ i, i < n → (f i).c.size ≤ 256 := fun i hi => right_size (h.2.2 i hi).1
open Classical in
set_option maxHeartbeats 2000000 in
theorem specFactor_any (sa : Option Addr) (n cap : Nat) (f : Nat → Cel) (t : ByteArray) (w : World) (hn : n ≤ maxLen) (hr : CRow w w.heap.size sa n f) (hc : ∀ i, i < n → (f i).c.size ≤ maxLen) (ht : t.size ≤ maxLen) :
    Calls Try.prog 35 #[.slice sa n cap, .string t] w fun e w' => e = .returned (.bool (decide (FactorP n f t))) ∧ Below w.heap.size w w' := by
  unfold maxLen at ht
  by_cases h8 : t.size ≤ 8000
  case neg =>
    have hti : ¬ (t.size : Int) ≤ 8000 := by omega
    have hF : Hid (decide (FactorP n f t) = false) := decide_eq_false (fun h => h8 h.1)
    clear hr hc
    go_enter Try.func35, Try.ntmps35
    go_wp2_with fail
    go_ret
    exact ⟨by rw [hF.out]; rfl, Below.refl _ _⟩
  have hti : (t.size : Int) ≤ 8000 := by omega
  have CP := specPlain_any sa n cap f w hn hr hc
  by_cases hP : PlainP n f
  case neg =>
    rw [decide_eq_false hP] at CP
    have hF : Hid (decide (FactorP n f t) = false) := decide_eq_false (fun h => hP h.2.1)
    clear hr hc
    go_enter Try.func35, Try.ntmps35
    go_wp2_with fail
    refine CP.mono ?_
    rintro e w1 ⟨rfl, hb⟩
    have HB : Hid (Below w.heap.size w w1) := hb
    clear hb CP
    go_wp2_with fail
    go_ret
    exact ⟨by rw [hF.out]; rfl, HB.out⟩
  rw [decide_eq_true hP] at CP
  have HFA : Hid (∀ W, Below w.heap.size w W → Calls Try.prog 78 #[.slice sa n cap, .string t] W fun e w' => e = .returned (.bool (decide (SomeS n f t t.size))) ∧ Below W.heap.size W w') := fun W hW => l09Factor_any sa n cap f t W hP.1.2.1 h8 ((hr.kept hW).up hW.size) (cels_max hP.1)
  have hD : Hid (decide (FactorP n f t) = decide (SomeS n f t t.size)) := decide_eq_decide.2 ⟨fun h => h.2.2, fun h => ⟨h8, hP, h⟩⟩
  obtain ⟨y, hy⟩ : ∃ y, decide (SomeS n f t t.size) = y := ⟨_, rfl⟩
  rw [hy] at HFA hD
  clear hr hc hy
  go_enter Try.func35, Try.ntmps35
  go_wp2_with fail
  refine CP.mono ?_
  rintro e w1 ⟨rfl, hb⟩
  have HB : Hid (Below w.heap.size w w1) := hb
  clear hb CP
  go_wp2_with fail
  refine (HFA.out w1 HB.out).mono ?_
  rintro e w2 ⟨rfl, hb⟩
  have HB2 : Hid (Below w.heap.size w w2) := HB.out.trans (hb.mono HB.out.size)
  clear hb
  go_wp2_with fail
  go_ret
  exact ⟨by rw [hD.out]; rfl, HB2.out⟩
/-- What BorderOf tells: a number. -/
def BorderN (n : Nat) (f : Nat → Cel) (t : ByteArray) (b : Nat) : Prop := ((t.size ≤ 8000 ∧ PlainP n f) → IsBorder n f t b) ∧ (¬ (t.size ≤ 8000 ∧ PlainP n f) → b = 0)
theorem borderN_one {n : Nat} {f : Nat → Cel} {t : ByteArray} {b c : Nat} (h : BorderN n f t b) (h' : BorderN n f t c) : b = c := by
  by_cases hh : t.size ≤ 8000 ∧ PlainP n f
  · exact border_one (h.1 hh) (h'.1 hh)
  · rw [h.2 hh, h'.2 hh]
open Classical in
set_option maxHeartbeats 2000000 in
theorem specBorder_any (sa : Option Addr) (n cap : Nat) (f : Nat → Cel) (t : ByteArray) (w : World) (hn : n ≤ maxLen) (hr : CRow w w.heap.size sa n f) (hc : ∀ i, i < n → (f i).c.size ≤ maxLen) (ht : t.size ≤ maxLen) :
    Calls Try.prog 39 #[.slice sa n cap, .string t] w fun e w' => (∃ b : Nat, e = .returned (.int .i64 (b : Int)) ∧ BorderN n f t b) ∧ Below w.heap.size w w' := by
  unfold maxLen at ht
  by_cases h8 : t.size ≤ 8000
  case neg =>
    have hti : (8000 : Int) < (t.size : Int) := by omega
    have hF : Hid (BorderN n f t 0) := ⟨fun h => absurd h.1 h8, fun _ => rfl⟩
    clear hr hc
    go_enter Try.func39, Try.ntmps39
    go_wp2_with fail
    go_ret
    exact ⟨⟨0, rfl, hF.out⟩, Below.refl _ _⟩
  have hti : ¬ (8000 : Int) < (t.size : Int) := by omega
  have CP := specPlain_any sa n cap f w hn hr hc
  by_cases hP : PlainP n f
  case neg =>
    rw [decide_eq_false hP] at CP
    have hF : Hid (BorderN n f t 0) := ⟨fun h => absurd h.2 hP, fun _ => rfl⟩
    clear hr hc
    go_enter Try.func39, Try.ntmps39
    go_wp2_with fail
    refine CP.mono ?_
    rintro e w1 ⟨rfl, hb⟩
    have HB : Hid (Below w.heap.size w w1) := hb
    clear hb CP
    go_wp2_with fail
    go_ret
    exact ⟨⟨0, rfl, hF.out⟩, HB.out⟩
  rw [decide_eq_true hP] at CP
  have HFA : Hid (∀ W, Below w.heap.size w W → Calls Try.prog 83 #[.slice sa n cap, .string t] W fun e w' => (∃ b : Nat, e = .returned (.int .i64 (b : Int)) ∧ b < n ∧ IsBorder n f t b) ∧ Below W.heap.size W w') := fun W hW => l09Border_any sa n cap f t W hP.1.1 hP.1.2.1 h8 ((hr.kept hW).up hW.size) (cels_max hP.1)
  clear hr hc
  go_enter Try.func39, Try.ntmps39
  go_wp2_with fail
  refine CP.mono ?_
  rintro e w1 ⟨rfl, hb⟩
  have HB : Hid (Below w.heap.size w w1) := hb
  clear hb CP
  go_wp2_with fail
  refine (HFA.out w1 HB.out).mono ?_
  rintro e w2 ⟨⟨b, rfl, _, hbd⟩, hb⟩
  have HB2 : Hid (Below w.heap.size w w2) := HB.out.trans (hb.mono HB.out.size)
  have HD : Hid (BorderN n f t b) := ⟨fun _ => hbd, fun h => absurd ⟨h8, hP⟩ h⟩
  clear hb hbd
  go_wp2_with fail
  go_ret
  exact ⟨⟨b, rfl, HD.out⟩, HB2.out⟩
end Go.Proofs.Ytfeolbgenpknfaa
