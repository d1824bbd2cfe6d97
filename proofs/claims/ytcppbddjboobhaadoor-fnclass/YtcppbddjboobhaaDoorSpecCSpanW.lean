/- What is proved here: the specification's ClassSpan hands back the class of a span of bytes, or nothing; nothing that was there turns. -/
import Derived.Test.YtcppbddjboobhaaDoorClassRowW
import Derived.Test.YtcppbddjboobhaaDoorIsW
namespace Go.Proofs.YtcppbddjboobhaaDoor
open Go.RowKit

/-- The bytes of a span. -/
def spanB (lo hi : Int) (i : Nat) : Bool := decide (lo ≤ (i : Int)) && decide ((i : Int) ≤ hi)
def spanTo (lo : Int) (k : Int) (i : Nat) : Bool := decide (lo ≤ (i : Int)) && decide ((i : Int) < k)
set_option maxRecDepth 100000 in
set_option maxHeartbeats 2000000 in
theorem specCSpan_yes (lo hi : Int) (w : World) (h0 : 0 ≤ lo) (h1 : lo ≤ 255) (h2 : 0 ≤ hi) (h3 : hi ≤ 255) :
    Calls Tryd.prog 60 #[.int .i64 lo, .int .i64 hi] w fun e w' => e = .returned (.string (classT (spanB lo hi))) ∧ Below w.heap.size w w' := by
  obtain ⟨u, g, hmk, hg1, hg2, hbu, hown⟩ := make_bools w
  have HO : Hid (OwnB u g 256 (fun _ => false)) := hown
  have HB : Hid (Below w.heap.size w u) := hbu
  clear hown hbu hg2
  go_enter Tryd.func60, Tryd.ntmps60
  go_wp2_with fail
  refine (is_yes lo 0 255 _ h0 h1).mono ?_
  rintro e w1 ⟨rfl, hw⟩
  subst hw
  go_wp2_with fail
  refine (is_yes hi 0 255 _ h2 h3).mono ?_
  rintro e w2 ⟨rfl, hw⟩
  subst hw
  go_wp2
  go_loopw [6] (fun i wr => ∃ k : Nat, lo ≤ (k : Int) ∧ (k : Int) ≤ 256 ∧ ((k : Int) ≤ hi + 1 ∨ (k : Int) = lo) ∧ i = .int .i64 (k : Int) ∧ Below w.heap.size w wr ∧ OwnB wr g 256 (spanTo lo (k : Int))) (fun i _ => 256 - (intOf i).toNat)
  case atStart => exact ⟨lo.toNat, by omega, by omega, Or.inr (by omega), by congr 1; omega, HB.out, HO.out.congr (fun i _ => by unfold spanTo; simp; omega)⟩
  case round =>
    obtain ⟨k, hk0, hk1, hk2, rfl, hbel, hown⟩ := hrel
    have HW : Hid (Below w.heap.size w wr) := hbel
    have HX : Hid (OwnB wr g 256 (spanTo lo (k : Int))) := hown
    by_cases hlt : (k : Int) ≤ hi
    · have hk : k < 256 := by omega
      have cy := hown.2.1 k hk
      have cf := hown.2.2 k hk
      have lg := hown.1
      have hkz : (0 : Int) ≤ (k : Int) := by omega
      have hkl : (k : Int) < 256 := by omega
      clear hbel hown
      go_wp2
      go_roundw
      case rel => exact ⟨k + 1, by omega, by omega, Or.inl (by omega), by go_num, HW.out.setCell (by show w.heap.size ≤ g; omega) _, (HX.out.set hk true).congr (fun i _ => by
        unfold spanTo
        by_cases e : i = k
        · subst e; simp; omega
        · rw [if_neg e]
          congr 1
          simp only [decide_eq_decide]
          omega)⟩
      case measure => simp [intOf]; omega
    · clear hbel
      have OX : Hid (OwnB wr g 256 (spanB lo hi)) := hown.congr (fun i _ => by
        unfold spanTo spanB
        by_cases e : lo ≤ (i : Int)
        · congr 1
          simp only [decide_eq_decide]
          omega
        · simp [e])
      clear hown
      go_wp2_with fail
      refine (l03From_any g _ wr OX.out).mono ?_
      rintro e w3 ⟨rfl, hb3⟩
      have HB3 : Hid (Below w.heap.size w w3) := HW.out.trans (hb3.mono HW.out.size)
      clear hb3
      go_wp2
      go_ret
      exact ⟨rfl, HB3.out⟩
set_option maxHeartbeats 1000000 in
theorem specCSpan_no (lo hi : Int) (w : World) (h : ¬ (0 ≤ lo ∧ lo ≤ 255 ∧ 0 ≤ hi ∧ hi ≤ 255)) :
    Calls Tryd.prog 60 #[.int .i64 lo, .int .i64 hi] w fun e w' => e = .returned (.string ⟨#[]⟩) ∧ Below w.heap.size w w' := by
  obtain ⟨u, g, hmk, hg1, hg2, hbu, hown⟩ := make_bools w
  have HB : Hid (Below w.heap.size w u) := hbu
  clear hown hbu hg2
  by_cases h1 : 0 ≤ lo ∧ lo ≤ 255
  · have H2 : Hid (¬ (0 ≤ hi ∧ hi ≤ 255)) := fun h2 => h ⟨h1.1, h1.2, h2.1, h2.2⟩
    have H1 : Hid (0 ≤ lo ∧ lo ≤ 255) := h1
    clear h h1
    go_enter Tryd.func60, Tryd.ntmps60
    go_wp2_with fail
    refine (is_yes lo 0 255 _ H1.out.1 H1.out.2).mono ?_
    rintro e w1 ⟨rfl, hw⟩
    subst hw
    go_wp2_with fail
    refine (is_no hi 0 255 _ H2.out).mono ?_
    rintro e w2 ⟨rfl, hw⟩
    subst hw
    go_wp2
    go_ret
    exact ⟨rfl, HB.out⟩
  · have H1 : Hid (¬ (0 ≤ lo ∧ lo ≤ 255)) := h1
    clear h h1
    go_enter Tryd.func60, Tryd.ntmps60
    go_wp2_with fail
    refine (is_no lo 0 255 _ H1.out).mono ?_
    rintro e w1 ⟨rfl, hw⟩
    subst hw
    go_wp2
    go_ret
    exact ⟨rfl, HB.out⟩
end Go.Proofs.YtcppbddjboobhaaDoor
