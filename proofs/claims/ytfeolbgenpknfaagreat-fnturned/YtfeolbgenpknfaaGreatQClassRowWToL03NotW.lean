/- What is proved here: the specification's l03Row says of each byte whether it is in a text, l03From hands back the class of the bytes of which a row says so; nothing that was there turns.
   What is proved here: the specification's ClassOf hands back the class of a text's bytes, or nothing; nothing that was there turns.
   What is proved here: the specification's ClassSpan hands back the class of a span of bytes, or nothing; nothing that was there turns.
   What is proved here: the specification's ClassNot hands back the class of what is not in a right one, or nothing; nothing that was there turns. -/
import Derived.Test.YtfeolbgenpknfaaGreatQBytesRowWToBoolRowsW
import Derived.Test.YtfeolbgenpknfaaGreatQSpecKRightWToIsW
import Derived.Test.YtfeolbgenpknfaaGreatQGetBWToClassRightW
namespace Go.Proofs.YtfeolbgenpknfaaGreat
open Go.RowKit

/-- A row of 256 bools in a new block. -/
def NewBools (w : World) (f : Nat → Bool) (e : Ending) (w' : World) : Prop := ∃ g, e = .returned (.slice (some ⟨g, 0, none⟩) 256 256) ∧ w.heap.size ≤ g ∧ Below w.heap.size w w' ∧ OwnB w' g 256 f
set_option maxRecDepth 100000 in
set_option maxHeartbeats 2000000 in
theorem l03Row_any (t : ByteArray) (w : World) (hs : t.size ≤ maxLen) :
    Calls Tryz.prog 131 #[.string t] w fun e w' => NewBools w (hasByte t) e w' := by
  unfold maxLen at hs
  obtain ⟨u, g, hmk, hg1, hg2, hbu, hown⟩ := make_bools w
  have HO : Hid (OwnB u g 256 (fun _ => false)) := hown
  have HB : Hid (Below w.heap.size w u) := hbu
  clear hown hbu hg2
  go_enter Tryz.func131, Tryz.ntmps131
  go_wp2
  go_loopw [4] (fun i wr => ∃ k : Nat, k ≤ t.size ∧ i = .int .i64 (k : Int) ∧ Below w.heap.size w wr ∧ OwnB wr g 256 (hasUpTo t k)) (fun i _ => t.size - (intOf i).toNat)
  case atStart => exact ⟨0, Nat.zero_le _, rfl, HB.out, HO.out.congr (fun i _ => (hasUpTo_zero t i).symm)⟩
  case round =>
    obtain ⟨k, hk, rfl, hbel, hown⟩ := hrel
    have HW : Hid (Below w.heap.size w wr) := hbel
    have HX : Hid (OwnB wr g 256 (hasUpTo t k)) := hown
    by_cases hlt : k < t.size
    · have hlt' : (k : Int) < (t.size : Int) := by omega
      have HS : Hid (∀ b, hasUpTo t (k + 1) b = (hasUpTo t k b || (t[k].toNat == b))) := fun b => hasUpTo_succ t k b hlt
      have hb : t[k].toNat < 256 := t[k].toNat_lt
      obtain ⟨x, hx⟩ : ∃ x, t[k].toNat = x := ⟨_, rfl⟩
      rw [hx] at hb
      have HXX : Hid (t[k].toNat = x) := hx
      have cy := hown.2.1 x hb
      have cf := hown.2.2 x hb
      have lg := hown.1
      have hx0 : (0 : Int) ≤ (x : Int) := by omega
      have hx1 : (x : Int) < 256 := by omega
      clear hbel hown
      go_wp2
      go_roundw
      case rel => exact ⟨k + 1, by omega, by go_num, HW.out.setCell (by show w.heap.size ≤ g; omega) _, (HX.out.set hb true).congr (fun i _ => by
        rw [HS.out i, HXX.out]
        by_cases e : i = x
        · subst e; simp
        · simp [e, Ne.symm e])⟩
      case measure => simp [intOf]; omega
    · have hge : ¬ (k : Int) < (t.size : Int) := by omega
      obtain rfl : k = t.size := by omega
      clear hbel hown
      go_wp2
      go_ret
      exact ⟨g, rfl, hg1, HW.out, HX.out.congr (fun i _ => hasUpTo_all t i)⟩

set_option maxRecDepth 100000 in
set_option maxHeartbeats 4000000 in
theorem l03From_any (g : Nat) (f : Nat → Bool) (w : World) (ho : OwnB w g 256 f) :
    Calls Tryz.prog 130 #[.slice (some ⟨g, 0, none⟩) 256 256] w fun e w' => e = .returned (.string (classT f)) ∧ Below w.heap.size w w' := by
  obtain ⟨i0, hi, hz0, hz1, hz2⟩ := info_parts Tryz.drawInfo
  have HO : Hid (OwnB w g 256 f) := ho
  have hgl := ho.1
  clear ho
  go_enter Tryz.func130, Tryz.ntmps130
  go_wp2
  go_loopw [3, 4] (fun v i wr => ∃ k : Nat, k ≤ 256 ∧ i = .int .i64 (k : Int) ∧ wr.ownsRow w.heap.size 5 1 v (classL f k).length ((classL f k).map (Value.int .u8)) ∧ Below w.heap.size w wr) (fun _ i _ => 256 - (intOf i).toNat)
  case atStart => exact ⟨0, Nat.zero_le _, rfl, World.ownsRow_made w #[] 0 (Nat.le_refl _) (by decide) rfl, (Below.refl _ _).alloc (Nat.le_refl _) _⟩
  case round =>
    obtain ⟨k, hk, rfl, hown, hbel⟩ := hrel
    have HW : Hid (Below w.heap.size w wr) := hbel
    have HR : Hid (wr.ownsRow w.heap.size 5 1 u3 (classL f k).length ((classL f k).map (Value.int .u8))) := hown
    by_cases hlt : k < 256
    · have hlt' : (k : Int) < 256 := by omega
      have hk0 : (0 : Int) ≤ (k : Int) := by omega
      have cz : wr.cell? ⟨g, k, none⟩ = some (.bool (f k)) := by rw [hbel.cell (p := ⟨g, k, none⟩) hgl]; exact HO.out.2.1 k hlt
      have hlen : (classL f k).length ≤ 256 := by have := classL_len f k; omega
      have hsz := hbel.size
      clear hbel
      cases hf : f k
      · rw [hf] at cz
        have HF : Hid (f k = false) := hf
        clear hf hown
        go_wp2
        go_roundw
        case rel => exact ⟨k + 1, by omega, by go_num, by rw [classL_no HF.out]; exact HR.out, HW.out⟩
        case measure => simp [intOf]; omega
      · rw [hf] at cz
        have HF : Hid (f k = true) := hf
        clear hf
        go_wp2_with (at_builtin; refine wpList_append_own _ rfl (.tmp 14) (.tmp 17) 22 rfl w.heap.size 5 i0 (.int .u8 0) 1 1 Tryz.underlying22 hi hz0 hz1 hz2 rfl (by decide) _ _ _ rfl (hown.alloc _) ⟨wr.heap.size, 0, none⟩ 1 1 [.int .u8 (k : Int)] rfl rfl ?c1 ?c2 ?c3 ?c4 ?c5 ?_)
        case c1 => exact cell_one_new _ _ _
        case c2 => intro u hu; simp at hu; subst hu; rfl
        case c3 => unfold maxLen; omega
        case c4 => omega
        case c5 => simp; omega
        intro v' w2 hown2 hgrow _
        have hg3 : wr.grownBy w2 u3.ownBlock := (World.grownBy_alloc wr _ u3.ownBlock).trans hgrow
        have HW2 : Hid (Below w.heap.size w w2) := HW.out.trans ⟨hg3.os, hg3.tape, hg3.output, hg3.size, fun j hj => hg3.block j (by omega) (fun e => by have := (HR.out.lt j e.symm).1; omega)⟩
        have hown3 : w2.ownsRow w.heap.size 5 1 v' (classL f (k + 1)).length ((classL f (k + 1)).map (Value.int .u8)) := by rw [classL_yes HF.out]; simpa using hown2
        have HO2 : Hid (w2.ownsRow w.heap.size 5 1 v' (classL f (k + 1)).length ((classL f (k + 1)).map (Value.int .u8))) := hown3
        clear hown3 hg3 hown2 hgrow hown
        go_wp2
        go_roundw
        case rel => exact ⟨k + 1, by omega, by go_num, HO2.out, HW2.out⟩
        case measure => simp [intOf]; omega
    · have hge : ¬ (k : Int) < 256 := by omega
      obtain rfl : k = 256 := by omega
      have hcv := convRow hown
      clear hown hbel
      go_wp2
      go_ret
      exact ⟨rfl, HW.out⟩
end Go.Proofs.YtfeolbgenpknfaaGreat
namespace Go.Proofs.YtfeolbgenpknfaaGreat
open Go.RowKit

set_option maxHeartbeats 1000000 in
theorem specCOf_yes (t : ByteArray) (w : World) (hs : t.size ≤ 8000) :
    Calls Tryz.prog 120 #[.string t] w fun e w' => e = .returned (.string (classT (hasByte t))) ∧ Below w.heap.size w w' := by
  have hs' : t.size ≤ maxLen := by unfold maxLen; omega
  have hs2 : ¬ 8000 < (t.size : Int) := by omega
  go_enter Tryz.func120, Tryz.ntmps120
  go_wp2_with fail
  refine (l03Row_any t w hs').mono ?_
  rintro e w1 ⟨g, rfl, hg, hb1, ho1⟩
  have HB : Hid (Below w.heap.size w w1) := hb1
  clear hb1
  go_wp2_with fail
  refine (l03From_any g _ w1 ho1).mono ?_
  rintro e w2 ⟨rfl, hb2⟩
  have HB2 : Hid (Below w.heap.size w w2) := HB.out.trans (hb2.mono HB.out.size)
  clear hb2 ho1
  go_wp2
  go_ret
  exact ⟨rfl, HB2.out⟩
theorem specCOf_no (t : ByteArray) (w : World) (hm : t.size ≤ maxLen) (hs : 8000 < t.size) :
    Calls Tryz.prog 120 #[.string t] w fun e w' => e = .returned (.string ⟨#[]⟩) ∧ w' = w := by
  unfold maxLen at hm
  have hs2 : 8000 < (t.size : Int) := by omega
  go_enter Tryz.func120, Tryz.ntmps120
  go_wp2
  go_ret
  exact ⟨rfl, rfl⟩
end Go.Proofs.YtfeolbgenpknfaaGreat
namespace Go.Proofs.YtfeolbgenpknfaaGreat
open Go.RowKit

/-- The bytes of a span. -/
def spanB (lo hi : Int) (i : Nat) : Bool := decide (lo ≤ (i : Int)) && decide ((i : Int) ≤ hi)
def spanTo (lo : Int) (k : Int) (i : Nat) : Bool := decide (lo ≤ (i : Int)) && decide ((i : Int) < k)
set_option maxRecDepth 100000 in
set_option maxHeartbeats 2000000 in
theorem specCSpan_yes (lo hi : Int) (w : World) (h0 : 0 ≤ lo) (h1 : lo ≤ 255) (h2 : 0 ≤ hi) (h3 : hi ≤ 255) :
    Calls Tryz.prog 118 #[.int .i64 lo, .int .i64 hi] w fun e w' => e = .returned (.string (classT (spanB lo hi))) ∧ Below w.heap.size w w' := by
  obtain ⟨u, g, hmk, hg1, hg2, hbu, hown⟩ := make_bools w
  have HO : Hid (OwnB u g 256 (fun _ => false)) := hown
  have HB : Hid (Below w.heap.size w u) := hbu
  clear hown hbu hg2
  go_enter Tryz.func118, Tryz.ntmps118
  go_wp2_with fail
  refine (is_yes lo 0 255 _ h0 h1).mono ?_
  rintro e w1 ⟨rfl, hw⟩
  subst hw
  go_wp2_with fail
  refine (is_yes hi 0 255 _ h2 h3).mono ?_
  rintro e w2 ⟨rfl, hw⟩
  subst hw
  go_wp2
  go_loopw [6] (fun i wr => ∃ k : Nat, lo ≤ (k : Int) ∧ (k : Int) ≤ 256 ∧ ((k : Int) ≤ hi + 1 ∨ (k : Int) = lo) ∧ i = .int .i64 (k : Int) ∧ Below w.heap.size w wr ∧ OwnB wr g 256 (spanTo lo (k : Int))) (fun i _ => 256 - (intOf i).toNat)
  case atStart => exact ⟨lo.toNat, by omega, by omega, Or.inr (by omega), by congr 1; omega, HB.out, HO.out.congr (fun i _ => by unfold spanTo; simp; omega)⟩
  case round =>
    obtain ⟨k, hk0, hk1, hk2, rfl, hbel, hown⟩ := hrel
    have HW : Hid (Below w.heap.size w wr) := hbel
    have HX : Hid (OwnB wr g 256 (spanTo lo (k : Int))) := hown
    by_cases hlt : (k : Int) ≤ hi
    · have hk : k < 256 := by omega
      have cy := hown.2.1 k hk
      have cf := hown.2.2 k hk
      have lg := hown.1
      have hkz : (0 : Int) ≤ (k : Int) := by omega
      have hkl : (k : Int) < 256 := by omega
      clear hbel hown
      go_wp2
      go_roundw
      case rel => exact ⟨k + 1, by omega, by omega, Or.inl (by omega), by go_num, HW.out.setCell (by show w.heap.size ≤ g; omega) _, (HX.out.set hk true).congr (fun i _ => by
        unfold spanTo
        by_cases e : i = k
        · subst e; simp; omega
        · rw [if_neg e]
          congr 1
          simp only [decide_eq_decide]
          omega)⟩
      case measure => simp [intOf]; omega
    · clear hbel
      have OX : Hid (OwnB wr g 256 (spanB lo hi)) := hown.congr (fun i _ => by
        unfold spanTo spanB
        by_cases e : lo ≤ (i : Int)
        · congr 1
          simp only [decide_eq_decide]
          omega
        · simp [e])
      clear hown
      go_wp2_with fail
      refine (l03From_any g _ wr OX.out).mono ?_
      rintro e w3 ⟨rfl, hb3⟩
      have HB3 : Hid (Below w.heap.size w w3) := HW.out.trans (hb3.mono HW.out.size)
      clear hb3
      go_wp2
      go_ret
      exact ⟨rfl, HB3.out⟩
set_option maxHeartbeats 1000000 in
theorem specCSpan_no (lo hi : Int) (w : World) (h : ¬ (0 ≤ lo ∧ lo ≤ 255 ∧ 0 ≤ hi ∧ hi ≤ 255)) :
    Calls Tryz.prog 118 #[.int .i64 lo, .int .i64 hi] w fun e w' => e = .returned (.string ⟨#[]⟩) ∧ Below w.heap.size w w' := by
  obtain ⟨u, g, hmk, hg1, hg2, hbu, hown⟩ := make_bools w
  have HB : Hid (Below w.heap.size w u) := hbu
  clear hown hbu hg2
  by_cases h1 : 0 ≤ lo ∧ lo ≤ 255
  · have H2 : Hid (¬ (0 ≤ hi ∧ hi ≤ 255)) := fun h2 => h ⟨h1.1, h1.2, h2.1, h2.2⟩
    have H1 : Hid (0 ≤ lo ∧ lo ≤ 255) := h1
    clear h h1
    go_enter Tryz.func118, Tryz.ntmps118
    go_wp2_with fail
    refine (is_yes lo 0 255 _ H1.out.1 H1.out.2).mono ?_
    rintro e w1 ⟨rfl, hw⟩
    subst hw
    go_wp2_with fail
    refine (is_no hi 0 255 _ H2.out).mono ?_
    rintro e w2 ⟨rfl, hw⟩
    subst hw
    go_wp2
    go_ret
    exact ⟨rfl, HB.out⟩
  · have H1 : Hid (¬ (0 ≤ lo ∧ lo ≤ 255)) := h1
    clear h h1
    go_enter Tryz.func118, Tryz.ntmps118
    go_wp2_with fail
    refine (is_no lo 0 255 _ H1.out).mono ?_
    rintro e w1 ⟨rfl, hw⟩
    subst hw
    go_wp2
    go_ret
    exact ⟨rfl, HB.out⟩
end Go.Proofs.YtfeolbgenpknfaaGreat
namespace Go.Proofs.YtfeolbgenpknfaaGreat
open Go.RowKit

set_option maxRecDepth 100000 in
set_option maxHeartbeats 2000000 in
theorem l03Not_any (c : ByteArray) (w : World) (hc : c.size ≤ maxLen) :
    Calls Tryz.prog 119 #[.string c] w fun e w' => e = .returned (.string (classT (fun x => !hasByte c x))) ∧ Below w.heap.size w w' := by
  have HC : Hid (c.size ≤ maxLen) := hc
  clear hc
  go_enter Tryz.func119, Tryz.ntmps119
  go_wp2_with fail
  refine (l03Row_any c w HC.out).mono ?_
  rintro e w3 ⟨g, rfl, hg, hb3, ho3⟩
  have B3 : Hid (Below w.heap.size w w3) := hb3
  have O3 : Hid (OwnB w3 g 256 (hasByte c)) := ho3
  clear hb3 ho3
  go_wp2
  go_loopw [4] (fun i wr => ∃ k : Nat, k ≤ 256 ∧ i = .int .i64 (k : Int) ∧ Below w.heap.size w wr ∧ OwnB wr g 256 (fun x => if x < k then !hasByte c x else hasByte c x)) (fun i _ => 256 - (intOf i).toNat)
  case atStart => exact ⟨0, Nat.zero_le _, rfl, B3.out, O3.out.congr (fun i _ => by simp)⟩
  case round =>
    obtain ⟨k, hk, rfl, hbel, hown⟩ := hrel
    have HW : Hid (Below w.heap.size w wr) := hbel
    have HX : Hid (OwnB wr g 256 (fun x => if x < k then !hasByte c x else hasByte c x)) := hown
    by_cases hlt : k < 256
    · have cy : wr.cell? ⟨g, k, none⟩ = some (.bool (hasByte c k)) := by have := hown.2.1 k hlt; rw [this]; simp
      have cf := hown.2.2 k hlt
      have lg := hown.1
      have hk0 : (0 : Int) ≤ (k : Int) := by omega
      have hk1 : (k : Int) < 256 := by omega
      clear hbel hown
      go_wp2
      go_roundw
      case rel => exact ⟨k + 1, by omega, by go_num, HW.out.setCell (by show w.heap.size ≤ g; omega) _, (HX.out.set hlt (!hasByte c k)).congr (fun i _ => by
        by_cases e : i = k
        · subst e; simp
        · simp only [if_neg e]
          by_cases e2 : i < k
          · rw [if_pos e2, if_pos (by omega)]
          · rw [if_neg e2, if_neg (by omega)])⟩
      case measure => simp [intOf]; omega
    · have hge : ¬ (k : Int) < 256 := by omega
      clear hbel hown
      go_wp2_with fail
      refine (l03From_any g _ wr (HX.out.congr (fun i hi => if_pos (by omega)))).mono ?_
      rintro e w5 ⟨rfl, hb5⟩
      have B5 : Hid (Below w.heap.size w w5) := HW.out.trans (hb5.mono HW.out.size)
      clear hb5
      go_wp2
      go_ret
      exact ⟨rfl, B5.out⟩
end Go.Proofs.YtfeolbgenpknfaaGreat
