/- What is proved here: the specification's ClassOf hands back the class of a text's bytes, or nothing; nothing that was there turns.
   What is proved here: the specification's l02Is says whether a number is in a span; the world stays.
   What is proved here: the specification's ClassSpan hands back the class of a span of bytes, or nothing; nothing that was there turns. -/
import Derived.Test.YthnnenbpbkmbhaaGreatQClassMToClassRowW
import Derived.Test.YthnnenbpbkmbhaaGreatProg
import Derived.WalkKit
namespace Go.Proofs.YthnnenbpbkmbhaaGreat
open Go.RowKit

set_option maxHeartbeats 1000000 in
theorem specCOf_yes (t : ByteArray) (w : World) (hs : t.size ≤ 8000) :
    Calls Tryz.prog 134 #[.string t] w fun e w' => e = .returned (.string (classT (hasByte t))) ∧ Below w.heap.size w w' := by
  have hs' : t.size ≤ maxLen := by unfold maxLen; omega
  have hs2 : ¬ 8000 < (t.size : Int) := by omega
  go_enter Tryz.func134, Tryz.ntmps134
  go_wp2_with fail
  refine (l03Row_any t w hs').mono ?_
  rintro e w1 ⟨g, rfl, hg, hb1, ho1⟩
  have HB : Hid (Below w.heap.size w w1) := hb1
  clear hb1
  go_wp2_with fail
  refine (l03From_any g _ w1 ho1).mono ?_
  rintro e w2 ⟨rfl, hb2⟩
  have HB2 : Hid (Below w.heap.size w w2) := HB.out.trans (hb2.mono HB.out.size)
  clear hb2 ho1
  go_wp2
  go_ret
  exact ⟨rfl, HB2.out⟩
theorem specCOf_no (t : ByteArray) (w : World) (hm : t.size ≤ maxLen) (hs : 8000 < t.size) :
    Calls Tryz.prog 134 #[.string t] w fun e w' => e = .returned (.string ⟨#[]⟩) ∧ w' = w := by
  unfold maxLen at hm
  have hs2 : 8000 < (t.size : Int) := by omega
  go_enter Tryz.func134, Tryz.ntmps134
  go_wp2
  go_ret
  exact ⟨rfl, rfl⟩
end Go.Proofs.YthnnenbpbkmbhaaGreat
namespace Go.Proofs.YthnnenbpbkmbhaaGreat
open Go.RowKit

theorem is_any (x lo hi : Int) (w : World) :
    Calls Tryz.prog 63 #[.int .i64 x, .int .i64 lo, .int .i64 hi] w fun e w' => e = .returned (.bool (decide (lo ≤ x) && decide (x ≤ hi))) ∧ w' = w := by
  by_cases h : lo ≤ x
  · go_enter Tryz.func63, Tryz.ntmps63
    go_wp2
    go_ret
    exact ⟨by simp [h], rfl⟩
  · go_enter Tryz.func63, Tryz.ntmps63
    go_wp2
    go_ret
    exact ⟨by simp; omega, rfl⟩
theorem is_yes (x lo hi : Int) (w : World) (h0 : lo ≤ x) (h1 : x ≤ hi) :
    Calls Tryz.prog 63 #[.int .i64 x, .int .i64 lo, .int .i64 hi] w fun e w' => e = .returned (.bool true) ∧ w' = w :=
  (is_any x lo hi w).mono fun _ _ h => ⟨by rw [h.1]; simp [h0, h1], h.2⟩
theorem is_no (x lo hi : Int) (w : World) (h : ¬ (lo ≤ x ∧ x ≤ hi)) :
    Calls Tryz.prog 63 #[.int .i64 x, .int .i64 lo, .int .i64 hi] w fun e w' => e = .returned (.bool false) ∧ w' = w :=
  (is_any x lo hi w).mono fun _ _ k => ⟨by
    rw [k.1]
    have e : (decide (lo ≤ x) && decide (x ≤ hi)) = false := by simp; omega
    rw [e], k.2⟩
end Go.Proofs.YthnnenbpbkmbhaaGreat
namespace Go.Proofs.YthnnenbpbkmbhaaGreat
open Go.RowKit

/-- The bytes of a span. -/
def spanB (lo hi : Int) (i : Nat) : Bool := decide (lo ≤ (i : Int)) && decide ((i : Int) ≤ hi)
def spanTo (lo : Int) (k : Int) (i : Nat) : Bool := decide (lo ≤ (i : Int)) && decide ((i : Int) < k)
set_option maxRecDepth 100000 in
set_option maxHeartbeats 2000000 in
theorem specCSpan_yes (lo hi : Int) (w : World) (h0 : 0 ≤ lo) (h1 : lo ≤ 255) (h2 : 0 ≤ hi) (h3 : hi ≤ 255) :
    Calls Tryz.prog 132 #[.int .i64 lo, .int .i64 hi] w fun e w' => e = .returned (.string (classT (spanB lo hi))) ∧ Below w.heap.size w w' := by
  obtain ⟨u, g, hmk, hg1, hg2, hbu, hown⟩ := make_bools w
  have HO : Hid (OwnB u g 256 (fun _ => false)) := hown
  have HB : Hid (Below w.heap.size w u) := hbu
  clear hown hbu hg2
  go_enter Tryz.func132, Tryz.ntmps132
  go_wp2_with fail
  refine (is_yes lo 0 255 _ h0 h1).mono ?_
  rintro e w1 ⟨rfl, hw⟩
  subst hw
  go_wp2_with fail
  refine (is_yes hi 0 255 _ h2 h3).mono ?_
  rintro e w2 ⟨rfl, hw⟩
  subst hw
  go_wp2
  go_loopw [6] (fun i wr => ∃ k : Nat, lo ≤ (k : Int) ∧ (k : Int) ≤ 256 ∧ ((k : Int) ≤ hi + 1 ∨ (k : Int) = lo) ∧ i = .int .i64 (k : Int) ∧ Below w.heap.size w wr ∧ OwnB wr g 256 (spanTo lo (k : Int))) (fun i _ => 256 - (intOf i).toNat)
  case atStart => exact ⟨lo.toNat, by omega, by omega, Or.inr (by omega), by congr 1; omega, HB.out, HO.out.congr (fun i _ => by unfold spanTo; simp; omega)⟩
  case round =>
    obtain ⟨k, hk0, hk1, hk2, rfl, hbel, hown⟩ := hrel
    have HW : Hid (Below w.heap.size w wr) := hbel
    have HX : Hid (OwnB wr g 256 (spanTo lo (k : Int))) := hown
    by_cases hlt : (k : Int) ≤ hi
    · have hk : k < 256 := by omega
      have cy := hown.2.1 k hk
      have cf := hown.2.2 k hk
      have lg := hown.1
      have hkz : (0 : Int) ≤ (k : Int) := by omega
      have hkl : (k : Int) < 256 := by omega
      clear hbel hown
      go_wp2
      go_roundw
      case rel => exact ⟨k + 1, by omega, by omega, Or.inl (by omega), by go_num, HW.out.setCell (by show w.heap.size ≤ g; omega) _, (HX.out.set hk true).congr (fun i _ => by
        unfold spanTo
        by_cases e : i = k
        · subst e; simp; omega
        · rw [if_neg e]
          congr 1
          simp only [decide_eq_decide]
          omega)⟩
      case measure => simp [intOf]; omega
    · clear hbel
      have OX : Hid (OwnB wr g 256 (spanB lo hi)) := hown.congr (fun i _ => by
        unfold spanTo spanB
        by_cases e : lo ≤ (i : Int)
        · congr 1
          simp only [decide_eq_decide]
          omega
        · simp [e])
      clear hown
      go_wp2_with fail
      refine (l03From_any g _ wr OX.out).mono ?_
      rintro e w3 ⟨rfl, hb3⟩
      have HB3 : Hid (Below w.heap.size w w3) := HW.out.trans (hb3.mono HW.out.size)
      clear hb3
      go_wp2
      go_ret
      exact ⟨rfl, HB3.out⟩
set_option maxHeartbeats 1000000 in
theorem specCSpan_no (lo hi : Int) (w : World) (h : ¬ (0 ≤ lo ∧ lo ≤ 255 ∧ 0 ≤ hi ∧ hi ≤ 255)) :
    Calls Tryz.prog 132 #[.int .i64 lo, .int .i64 hi] w fun e w' => e = .returned (.string ⟨#[]⟩) ∧ Below w.heap.size w w' := by
  obtain ⟨u, g, hmk, hg1, hg2, hbu, hown⟩ := make_bools w
  have HB : Hid (Below w.heap.size w u) := hbu
  clear hown hbu hg2
  by_cases h1 : 0 ≤ lo ∧ lo ≤ 255
  · have H2 : Hid (¬ (0 ≤ hi ∧ hi ≤ 255)) := fun h2 => h ⟨h1.1, h1.2, h2.1, h2.2⟩
    have H1 : Hid (0 ≤ lo ∧ lo ≤ 255) := h1
    clear h h1
    go_enter Tryz.func132, Tryz.ntmps132
    go_wp2_with fail
    refine (is_yes lo 0 255 _ H1.out.1 H1.out.2).mono ?_
    rintro e w1 ⟨rfl, hw⟩
    subst hw
    go_wp2_with fail
    refine (is_no hi 0 255 _ H2.out).mono ?_
    rintro e w2 ⟨rfl, hw⟩
    subst hw
    go_wp2
    go_ret
    exact ⟨rfl, HB.out⟩
  · have H1 : Hid (¬ (0 ≤ lo ∧ lo ≤ 255)) := h1
    clear h h1
    go_enter Tryz.func132, Tryz.ntmps132
    go_wp2_with fail
    refine (is_no lo 0 255 _ H1.out).mono ?_
    rintro e w1 ⟨rfl, hw⟩
    subst hw
    go_wp2
    go_ret
    exact ⟨rfl, HB.out⟩
end Go.Proofs.YthnnenbpbkmbhaaGreat
