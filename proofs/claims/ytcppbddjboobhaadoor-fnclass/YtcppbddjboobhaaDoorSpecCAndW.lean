/- What is proved here: the specification's ClassAnd hands back the class of what is in two right ones, or nothing; nothing that was there turns. -/
import Derived.Test.YtcppbddjboobhaaDoorClassRightW
import Derived.Test.YtcppbddjboobhaaDoorClassRowW
namespace Go.Proofs.YtcppbddjboobhaaDoor
open Go.RowKit

open Classical in
set_option maxRecDepth 100000 in
set_option maxHeartbeats 2000000 in
theorem specCAnd_yes (a b : ByteArray) (w : World) (ha : a.size ≤ maxLen) (hb : b.size ≤ maxLen) (h1 : RightC a) (h2 : RightC b) :
    Calls Tryd.prog 57 #[.string a, .string b] w fun e w' => e = .returned (.string (classT (fun x => hasByte a x && hasByte b x))) ∧ Below w.heap.size w w' := by
  have C1 := fun W => specRightC_any a W ha
  have C2 := fun W => specRightC_any b W hb
  rw [decide_eq_true h1] at C1
  rw [decide_eq_true h2] at C2
  have R1 : Hid (∀ W, Calls Tryd.prog 63 #[.string a] W fun e w' => e = .returned (.bool true) ∧ Below W.heap.size W w') := C1
  have R2 : Hid (∀ W, Calls Tryd.prog 63 #[.string b] W fun e w' => e = .returned (.bool true) ∧ Below W.heap.size W w') := C2
  have HA : Hid (a.size ≤ maxLen) := ha
  have HBB : Hid (b.size ≤ maxLen) := hb
  clear C1 C2 h1 h2 ha hb
  go_enter Tryd.func57, Tryd.ntmps57
  go_wp2_with fail
  refine (R1.out _).mono ?_
  rintro e w1 ⟨rfl, hb1⟩
  have B1 : Hid (Below w.heap.size w w1) := hb1
  clear hb1
  go_wp2_with fail
  refine (R2.out _).mono ?_
  rintro e w2 ⟨rfl, hb2⟩
  have B2 : Hid (Below w.heap.size w w2) := B1.out.trans (hb2.mono B1.out.size)
  clear hb2
  go_wp2_with fail
  refine (l03Row_any a w2 HA.out).mono ?_
  rintro e w3 ⟨g, rfl, hg, hb3, ho3⟩
  have B3 : Hid (Below w.heap.size w w3) := B2.out.trans (hb3.mono B2.out.size)
  have O3 : Hid (OwnB w3 g 256 (hasByte a)) := ho3
  have lg3 := ho3.1
  have hgw : w.heap.size ≤ g := Nat.le_trans B2.out.size hg
  clear hb3 ho3
  go_wp2_with fail
  refine (l03Row_any b w3 HBB.out).mono ?_
  rintro e w4 ⟨g', rfl, hg', hb4, ho4⟩
  have B4 : Hid (Below w.heap.size w w4) := B3.out.trans (hb4.mono B3.out.size)
  have O4 : Hid (OwnB w4 g 256 (hasByte a)) := O3.out.kept hb4 lg3
  have P4 : Hid (OwnB w4 g' 256 (hasByte b)) := ho4
  have hne : g ≠ g' := by omega
  clear hb4 ho4 lg3
  go_wp2
  go_loopw [7] (fun i wr => ∃ k : Nat, k ≤ 256 ∧ i = .int .i64 (k : Int) ∧ Below w.heap.size w wr ∧ OwnB wr g 256 (fun x => if x < k then hasByte a x && hasByte b x else hasByte a x) ∧ OwnB wr g' 256 (hasByte b)) (fun i _ => 256 - (intOf i).toNat)
  case atStart => exact ⟨0, Nat.zero_le _, rfl, B4.out, O4.out.congr (fun i _ => by simp), P4.out⟩
  case round =>
    obtain ⟨k, hk, rfl, hbel, hown, hown2⟩ := hrel
    have HW : Hid (Below w.heap.size w wr) := hbel
    have HX : Hid (OwnB wr g 256 (fun x => if x < k then hasByte a x && hasByte b x else hasByte a x)) := hown
    have HY : Hid (OwnB wr g' 256 (hasByte b)) := hown2
    by_cases hlt : k < 256
    · have cy : wr.cell? ⟨g, k, none⟩ = some (.bool (hasByte a k)) := by have := hown.2.1 k hlt; rw [this]; simp
      have cf := hown.2.2 k hlt
      have cx := hown2.2.1 k hlt
      have lg := hown.1
      have hk0 : (0 : Int) ≤ (k : Int) := by omega
      have hk1 : (k : Int) < 256 := by omega
      clear hbel hown hown2
      cases hav : hasByte a k
      · rw [hav] at cy
        have HV : Hid (hasByte a k = false) := hav
        clear hav
        go_wp2
        go_roundw
        case rel => exact ⟨k + 1, by omega, by go_num, HW.out.setCell (by show w.heap.size ≤ g; omega) _, (HX.out.set hlt false).congr (fun i _ => by
          by_cases e : i = k
          · subst e; simp [HV.out]
          · simp only [if_neg e]
            by_cases e2 : i < k
            · rw [if_pos e2, if_pos (by omega)]
            · rw [if_neg e2, if_neg (by omega)]), HY.out.setOther _ _ (by show g ≠ g'; omega)⟩
        case measure => simp [intOf]; omega
      · rw [hav] at cy
        have HV : Hid (hasByte a k = true) := hav
        clear hav
        go_wp2
        go_roundw
        case rel => exact ⟨k + 1, by omega, by go_num, HW.out.setCell (by show w.heap.size ≤ g; omega) _, (HX.out.set hlt (hasByte b k)).congr (fun i _ => by
          by_cases e : i = k
          · subst e; simp [HV.out]
          · simp only [if_neg e]
            by_cases e2 : i < k
            · rw [if_pos e2, if_pos (by omega)]
            · rw [if_neg e2, if_neg (by omega)]), HY.out.setOther _ _ (by show g ≠ g'; omega)⟩
        case measure => simp [intOf]; omega
    · have hge : ¬ (k : Int) < 256 := by omega
      clear hbel hown hown2
      go_wp2_with fail
      refine (l03From_any g _ wr (HX.out.congr (fun i hi => if_pos (by omega)))).mono ?_
      rintro e w5 ⟨rfl, hb5⟩
      have B5 : Hid (Below w.heap.size w w5) := HW.out.trans (hb5.mono HW.out.size)
      clear hb5
      go_wp2
      go_ret
      exact ⟨rfl, B5.out⟩
open Classical in
set_option maxHeartbeats 1000000 in
theorem specCAnd_no (a b : ByteArray) (w : World) (ha : a.size ≤ maxLen) (hb : b.size ≤ maxLen) (h : ¬ (RightC a ∧ RightC b)) :
    Calls Tryd.prog 57 #[.string a, .string b] w fun e w' => e = .returned (.string ⟨#[]⟩) ∧ Below w.heap.size w w' := by
  have C1 := fun W => specRightC_any a W ha
  have C2 := fun W => specRightC_any b W hb
  by_cases h1 : RightC a
  · have h2 : ¬ RightC b := fun h2 => h ⟨h1, h2⟩
    rw [decide_eq_true h1] at C1
    rw [decide_eq_false h2] at C2
    have R1 : Hid (∀ W, Calls Tryd.prog 63 #[.string a] W fun e w' => e = .returned (.bool true) ∧ Below W.heap.size W w') := C1
    have R2 : Hid (∀ W, Calls Tryd.prog 63 #[.string b] W fun e w' => e = .returned (.bool false) ∧ Below W.heap.size W w') := C2
    clear C1 C2 h h1 h2
    go_enter Tryd.func57, Tryd.ntmps57
    go_wp2_with fail
    refine (R1.out _).mono ?_
    rintro e w1 ⟨rfl, hb1⟩
    have B1 : Hid (Below w.heap.size w w1) := hb1
    clear hb1
    go_wp2_with fail
    refine (R2.out _).mono ?_
    rintro e w2 ⟨rfl, hb2⟩
    have B2 : Hid (Below w.heap.size w w2) := B1.out.trans (hb2.mono B1.out.size)
    clear hb2
    go_wp2
    go_ret
    exact ⟨rfl, B2.out⟩
  · rw [decide_eq_false h1] at C1
    have R1 : Hid (∀ W, Calls Tryd.prog 63 #[.string a] W fun e w' => e = .returned (.bool false) ∧ Below W.heap.size W w') := C1
    clear C1 C2 h h1
    go_enter Tryd.func57, Tryd.ntmps57
    go_wp2_with fail
    refine (R1.out _).mono ?_
    rintro e w1 ⟨rfl, hb1⟩
    have B1 : Hid (Below w.heap.size w w1) := hb1
    clear hb1
    go_wp2
    go_ret
    exact ⟨rfl, B1.out⟩
end Go.Proofs.YtcppbddjboobhaaDoor
