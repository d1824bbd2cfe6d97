/- What is proved here: the specification's l03Row says of each byte whether it is in a text, l03From hands back the class of the bytes of which a row says so; nothing that was there turns. -/
import Derived.Test.YtkkijmbpcffadajDoorBoolRowsW
import Derived.Test.YtkkijmbpcffadajDoorBytesRowW
namespace Go.Proofs.YtkkijmbpcffadajDoor
open Go.RowKit

/-- A row of 256 bools in a new block. -/
def NewBools (w : World) (f : Nat → Bool) (e : Ending) (w' : World) : Prop := ∃ g, e = .returned (.slice (some ⟨g, 0, none⟩) 256 256) ∧ w.heap.size ≤ g ∧ Below w.heap.size w w' ∧ OwnB w' g 256 f
set_option maxRecDepth 100000 in
set_option maxHeartbeats 2000000 in
theorem l03Row_any (t : ByteArray) (w : World) (hs : t.size ≤ maxLen) :
    Calls Tryd.prog 51 #[.string t] w fun e w' => NewBools w (hasByte t) e w' := by
  unfold maxLen at hs
  obtain ⟨u, g, hmk, hg1, hg2, hbu, hown⟩ := make_bools w
  have HO : Hid (OwnB u g 256 (fun _ => false)) := hown
  have HB : Hid (Below w.heap.size w u) := hbu
  clear hown hbu hg2
  go_enter Tryd.func51, Tryd.ntmps51
  go_wp2
  go_loopw [4] (fun i wr => ∃ k : Nat, k ≤ t.size ∧ i = .int .i64 (k : Int) ∧ Below w.heap.size w wr ∧ OwnB wr g 256 (hasUpTo t k)) (fun i _ => t.size - (intOf i).toNat)
  case atStart => exact ⟨0, Nat.zero_le _, rfl, HB.out, HO.out.congr (fun i _ => (hasUpTo_zero t i).symm)⟩
  case round =>
    obtain ⟨k, hk, rfl, hbel, hown⟩ := hrel
    have HW : Hid (Below w.heap.size w wr) := hbel
    have HX : Hid (OwnB wr g 256 (hasUpTo t k)) := hown
    by_cases hlt : k < t.size
    · have hlt' : (k : Int) < (t.size : Int) := by omega
      have HS : Hid (∀ b, hasUpTo t (k + 1) b = (hasUpTo t k b || (t[k].toNat == b))) := fun b => hasUpTo_succ t k b hlt
      have hb : t[k].toNat < 256 := t[k].toNat_lt
      obtain ⟨x, hx⟩ : ∃ x, t[k].toNat = x := ⟨_, rfl⟩
      rw [hx] at hb
      have HXX : Hid (t[k].toNat = x) := hx
      have cy := hown.2.1 x hb
      have cf := hown.2.2 x hb
      have lg := hown.1
      have hx0 : (0 : Int) ≤ (x : Int) := by omega
      have hx1 : (x : Int) < 256 := by omega
      clear hbel hown
      go_wp2
      go_roundw
      case rel => exact ⟨k + 1, by omega, by go_num, HW.out.setCell (by show w.heap.size ≤ g; omega) _, (HX.out.set hb true).congr (fun i _ => by
        rw [HS.out i, HXX.out]
        by_cases e : i = x
        · subst e; simp
        · simp [e, Ne.symm e])⟩
      case measure => simp [intOf]; omega
    · have hge : ¬ (k : Int) < (t.size : Int) := by omega
      obtain rfl : k = t.size := by omega
      clear hbel hown
      go_wp2
      go_ret
      exact ⟨g, rfl, hg1, HW.out, HX.out.congr (fun i _ => hasUpTo_all t i)⟩

set_option maxRecDepth 100000 in
set_option maxHeartbeats 4000000 in
theorem l03From_any (g : Nat) (f : Nat → Bool) (w : World) (ho : OwnB w g 256 f) :
    Calls Tryd.prog 49 #[.slice (some ⟨g, 0, none⟩) 256 256] w fun e w' => e = .returned (.string (classT f)) ∧ Below w.heap.size w w' := by
  obtain ⟨i0, hi, hz0, hz1, hz2⟩ := info_parts Tryd.drawInfo
  have HO : Hid (OwnB w g 256 f) := ho
  have hgl := ho.1
  clear ho
  go_enter Tryd.func49, Tryd.ntmps49
  go_wp2
  go_loopw [3, 4] (fun v i wr => ∃ k : Nat, k ≤ 256 ∧ i = .int .i64 (k : Int) ∧ wr.ownsRow w.heap.size 5 1 v (classL f k).length ((classL f k).map (Value.int .u8)) ∧ Below w.heap.size w wr) (fun _ i _ => 256 - (intOf i).toNat)
  case atStart => exact ⟨0, Nat.zero_le _, rfl, World.ownsRow_made w #[] 0 (Nat.le_refl _) (by decide) rfl, (Below.refl _ _).alloc (Nat.le_refl _) _⟩
  case round =>
    obtain ⟨k, hk, rfl, hown, hbel⟩ := hrel
    have HW : Hid (Below w.heap.size w wr) := hbel
    have HR : Hid (wr.ownsRow w.heap.size 5 1 u3 (classL f k).length ((classL f k).map (Value.int .u8))) := hown
    by_cases hlt : k < 256
    · have hlt' : (k : Int) < 256 := by omega
      have hk0 : (0 : Int) ≤ (k : Int) := by omega
      have cz : wr.cell? ⟨g, k, none⟩ = some (.bool (f k)) := by rw [hbel.cell (p := ⟨g, k, none⟩) hgl]; exact HO.out.2.1 k hlt
      have hlen : (classL f k).length ≤ 256 := by have := classL_len f k; omega
      have hsz := hbel.size
      clear hbel
      cases hf : f k
      · rw [hf] at cz
        have HF : Hid (f k = false) := hf
        clear hf hown
        go_wp2
        go_roundw
        case rel => exact ⟨k + 1, by omega, by go_num, by rw [classL_no HF.out]; exact HR.out, HW.out⟩
        case measure => simp [intOf]; omega
      · rw [hf] at cz
        have HF : Hid (f k = true) := hf
        clear hf
        go_wp2_with (at_builtin; refine wpList_append_own _ rfl (.tmp 14) (.tmp 17) 43 rfl w.heap.size 5 i0 (.int .u8 0) 1 1 Tryd.underlying43 hi hz0 hz1 hz2 rfl (by decide) _ _ _ rfl (hown.alloc _) ⟨wr.heap.size, 0, none⟩ 1 1 [.int .u8 (k : Int)] rfl rfl ?c1 ?c2 ?c3 ?c4 ?c5 ?_)
        case c1 => exact cell_one_new _ _ _
        case c2 => intro u hu; simp at hu; subst hu; rfl
        case c3 => unfold maxLen; omega
        case c4 => omega
        case c5 => simp; omega
        intro v' w2 hown2 hgrow _
        have hg3 : wr.grownBy w2 u3.ownBlock := (World.grownBy_alloc wr _ u3.ownBlock).trans hgrow
        have HW2 : Hid (Below w.heap.size w w2) := HW.out.trans ⟨hg3.os, hg3.tape, hg3.output, hg3.size, fun j hj => hg3.block j (by omega) (fun e => by have := (HR.out.lt j e.symm).1; omega)⟩
        have hown3 : w2.ownsRow w.heap.size 5 1 v' (classL f (k + 1)).length ((classL f (k + 1)).map (Value.int .u8)) := by rw [classL_yes HF.out]; simpa using hown2
        have HO2 : Hid (w2.ownsRow w.heap.size 5 1 v' (classL f (k + 1)).length ((classL f (k + 1)).map (Value.int .u8))) := hown3
        clear hown3 hg3 hown2 hgrow hown
        go_wp2
        go_roundw
        case rel => exact ⟨k + 1, by omega, by go_num, HO2.out, HW2.out⟩
        case measure => simp [intOf]; omega
    · have hge : ¬ (k : Int) < 256 := by omega
      obtain rfl : k = 256 := by omega
      have hcv := convRow hown
      clear hown hbel
      go_wp2
      go_ret
      exact ⟨rfl, HW.out⟩
end Go.Proofs.YtkkijmbpcffadajDoor
