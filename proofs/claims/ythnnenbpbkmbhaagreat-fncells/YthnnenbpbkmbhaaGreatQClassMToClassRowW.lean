/- What is said here: classes of bytes as plain functions: which bytes a text has, the class of those of which a row says so.
   What is said here: a slice of 256 bools that the call owns: what is read, what is stored.
   What is proved here: the specification's l03Row says of each byte whether it is in a text, l03From hands back the class of the bytes of which a row says so; nothing that was there turns. -/
import Derived.Test.YthnnenbpbkmbhaaGreatProg
import Derived.WalkKit
import Derived.Laws.BytesArg
import Derived.Maps.AppendAt
import Derived.WalkSpells
import Derived.RegionTactic
import Derived.BigRegion
import Derived.Deep.DeepCutAuto
import Derived.Test.YthnnenbpbkmbhaaGreatQBytesRowWToDrawD
namespace Go.Proofs.YthnnenbpbkmbhaaGreat
open Go.RowKit

/-- Byte b is among the first k of the text. -/
def hasUpTo (t : ByteArray) (k b : Nat) : Bool := (t.data.toList.take k).any (fun c => c.toNat == b)
/-- Byte b is in the text. -/
def hasByte (t : ByteArray) (b : Nat) : Bool := t.data.toList.any (fun c => c.toNat == b)
theorem hasUpTo_zero (t : ByteArray) (b : Nat) : hasUpTo t 0 b = false := by simp [hasUpTo]
theorem hasUpTo_succ (t : ByteArray) (k b : Nat) (h : k < t.size) : hasUpTo t (k + 1) b = (hasUpTo t k b || (t[k].toNat == b)) := by
  unfold hasUpTo
  rw [List.take_succ_eq_append_getElem (by simpa using h), List.any_append]
  simp
  rfl
theorem hasUpTo_all (t : ByteArray) (b : Nat) : hasUpTo t t.size b = hasByte t b := by
  unfold hasUpTo hasByte
  rw [List.take_of_length_le (by simp)]
/-- The first k bytes of which a row says so. -/
def classL (f : Nat → Bool) (k : Nat) : List Int := ((List.range k).filter f).map fun i : Nat => (i : Int)
theorem classL_zero (f : Nat → Bool) : classL f 0 = [] := rfl
theorem classL_yes {f : Nat → Bool} {k : Nat} (h : f k = true) : classL f (k + 1) = classL f k ++ [(k : Int)] := by
  simp [classL, List.range_succ, List.filter_append, h]
theorem classL_no {f : Nat → Bool} {k : Nat} (h : f k = false) : classL f (k + 1) = classL f k := by
  simp [classL, List.range_succ, List.filter_append, h]
theorem classL_len (f : Nat → Bool) : ∀ k, (classL f k).length ≤ k
  | 0 => by simp [classL]
  | k + 1 => by
    have := classL_len f k
    by_cases hb : f k = true
    · rw [classL_yes hb]; simp; omega
    · rw [classL_no (by simpa using hb)]; omega
theorem classL_congr {f g : Nat → Bool} {k : Nat} (h : ∀ i, i < k → f i = g i) : classL f k = classL g k := by
  unfold classL
  congr 1
  apply List.filter_congr
  intro i hi
  exact h i (List.mem_range.1 hi)
/-- The class of the bytes of which a row says so. -/
def classT (f : Nat → Bool) : ByteArray := strOfNums (classL f 256)
theorem classT_congr {f g : Nat → Bool} (h : ∀ i, i < 256 → f i = g i) : classT f = classT g := by unfold classT; rw [classL_congr h]
/-- A right class. -/
def RightC (t : ByteArray) : Prop := ∀ (i : Nat) (h : i + 1 < t.size), t[i].toNat < t[i + 1].toNat
def RightTo (t : ByteArray) (k : Nat) : Prop := ∀ (i : Nat) (h : i + 1 < t.size), i + 1 < k → t[i].toNat < t[i + 1].toNat
/-- What a fold adds. -/
def foldB (f : Nat → Bool) (k : Nat) : Nat → Bool := fun i => if 65 ≤ i ∧ i < 65 + k then f i || f (i + 32) else if 97 ≤ i ∧ i < 97 + k then f (i - 32) || f i else f i
theorem foldB_zero (f : Nat → Bool) (i : Nat) : foldB f 0 i = f i := by unfold foldB; rw [if_neg (by omega), if_neg (by omega)]
end Go.Proofs.YthnnenbpbkmbhaaGreat
namespace Go.Proofs.YthnnenbpbkmbhaaGreat
open Go.RowKit

/-- A row of bools that may be written. -/
def OwnB (w : World) (g n : Nat) (f : Nat → Bool) : Prop :=
  g < w.heap.size ∧ (∀ i, i < n → w.cell? ⟨g, i, none⟩ = some (.bool (f i))) ∧ ∀ i, i < n → w.frozen? ⟨g, i, none⟩ = false
theorem OwnB.congr {w : World} {g n : Nat} {f f' : Nat → Bool} (h : OwnB w g n f) (he : ∀ i, i < n → f i = f' i) : OwnB w g n f' :=
  ⟨h.1, fun i hi => by rw [← he i hi]; exact h.2.1 i hi, h.2.2⟩
theorem OwnB.kept {w w' : World} {B g n : Nat} {f : Nat → Bool} (h : OwnB w g n f) (hb : Below B w w') (hg : g < B) : OwnB w' g n f :=
  ⟨Nat.lt_of_lt_of_le h.1 hb.size, fun i hi => by rw [hb.cell (p := ⟨g, i, none⟩) hg]; exact h.2.1 i hi, fun i hi => by rw [hb.frozen (p := ⟨g, i, none⟩) hg]; exact h.2.2 i hi⟩
theorem OwnB.set {w : World} {g n p : Nat} {f : Nat → Bool} (h : OwnB w g n f) (hp : p < n) (v : Bool) : OwnB (w.setCell ⟨g, p, none⟩ (.bool v)) g n (fun i => if i = p then v else f i) := by
  refine ⟨by simpa [World.setCell] using h.1, fun i hi => ?_, fun i hi => ?_⟩
  · by_cases e : i = p
    · subst e
      rw [World.cell?_setCell_same _ _ _ (h.2.1 i hi)]
      simp
    · rw [World.cell?_setCell_other _ _ _ _ (fun hh => e (by injection hh with _ h2 _; exact h2.symm)), h.2.1 i hi]
      simp [e]
  · rw [World.frozen?_setCell]
    exact h.2.2 i hi
theorem OwnB.setOther {w : World} {g n : Nat} {f : Nat → Bool} (h : OwnB w g n f) (p : Addr) (v : Value) (hne : p.block ≠ g) : OwnB (w.setCell p v) g n f := by
  refine ⟨by simpa [World.setCell] using h.1, fun i hi => ?_, fun i hi => ?_⟩
  · rw [World.cell?_setCell_other _ _ _ _ (fun hh => hne (by rw [hh]))]
    exact h.2.1 i hi
  · rw [World.frozen?_setCell]
    exact h.2.2 i hi
theorem Tryz.boolInfo : (Tryz.prog.info? 4).map (fun i => (i.zero, i.size, i.bytes)) = some (some (.bool false), 1, 1) := by kernel_rfl
/-- A new slice of 256 bools, none of them true. -/
theorem make_bools (w : World) : ∃ (w' : World) (g : Nat), (Instr.makeSlice 98 (.int .i64 256) (.int .i64 256)).run Tryz.prog w = .ok (.slice (some ⟨g, 0, none⟩) 256 256) w' ∧ w.heap.size ≤ g ∧ g < w'.heap.size ∧ Below w.heap.size w w' ∧ OwnB w' g 256 (fun _ => false) := by
  obtain ⟨i0, hi, hz0, hz1, hz2⟩ := info_parts Tryz.boolInfo
  have h := run_make (P := Tryz.prog) w 98 4 i0 (.bool false) Tryz.underlying98 hi hz0 .i64 .i64 256 256 (by omega) (Int.le_refl _) (by rw [hz2]; omega) (by omega)
  rw [hz1] at h
  refine ⟨_, _, h, Nat.le_refl _, by simp, (Below.refl _ _).alloc (Nat.le_refl _) _, by simp, fun i hi => ?_, fun i hi => ?_⟩
  · rw [World.cell?_alloc_mark]
    simp [madeCells, Value.cells, Nat.mod_one, hi]
  · exact frozen_of_row _ _ _ _ _ (heap_alloc_new w _)
end Go.Proofs.YthnnenbpbkmbhaaGreat
namespace Go.Proofs.YthnnenbpbkmbhaaGreat
open Go.RowKit

/-- A row of 256 bools in a new block. -/
def NewBools (w : World) (f : Nat → Bool) (e : Ending) (w' : World) : Prop := ∃ g, e = .returned (.slice (some ⟨g, 0, none⟩) 256 256) ∧ w.heap.size ≤ g ∧ Below w.heap.size w w' ∧ OwnB w' g 256 f
set_option maxRecDepth 100000 in
set_option maxHeartbeats 2000000 in
theorem l03Row_any (t : ByteArray) (w : World) (hs : t.size ≤ maxLen) :
    Calls Tryz.prog 140 #[.string t] w fun e w' => NewBools w (hasByte t) e w' := by
  unfold maxLen at hs
  obtain ⟨u, g, hmk, hg1, hg2, hbu, hown⟩ := make_bools w
  have HO : Hid (OwnB u g 256 (fun _ => false)) := hown
  have HB : Hid (Below w.heap.size w u) := hbu
  clear hown hbu hg2
  go_enter Tryz.func140, Tryz.ntmps140
  go_wp2
  go_loopw [4] (fun i wr => ∃ k : Nat, k ≤ t.size ∧ i = .int .i64 (k : Int) ∧ Below w.heap.size w wr ∧ OwnB wr g 256 (hasUpTo t k)) (fun i _ => t.size - (intOf i).toNat)
  case atStart => exact ⟨0, Nat.zero_le _, rfl, HB.out, HO.out.congr (fun i _ => (hasUpTo_zero t i).symm)⟩
  case round =>
    obtain ⟨k, hk, rfl, hbel, hown⟩ := hrel
    have HW : Hid (Below w.heap.size w wr) := hbel
    have HX : Hid (OwnB wr g 256 (hasUpTo t k)) := hown
    by_cases hlt : k < t.size
    · have hlt' : (k : Int) < (t.size : Int) := by omega
      have HS : Hid (∀ b, hasUpTo t (k + 1) b = (hasUpTo t k b || (t[k].toNat == b))) := fun b => hasUpTo_succ t k b hlt
      have hb : t[k].toNat < 256 := t[k].toNat_lt
      obtain ⟨x, hx⟩ : ∃ x, t[k].toNat = x := ⟨_, rfl⟩
      rw [hx] at hb
      have HXX : Hid (t[k].toNat = x) := hx
      have cy := hown.2.1 x hb
      have cf := hown.2.2 x hb
      have lg := hown.1
      have hx0 : (0 : Int) ≤ (x : Int) := by omega
      have hx1 : (x : Int) < 256 := by omega
      clear hbel hown
      go_wp2
      go_roundw
      case rel => exact ⟨k + 1, by omega, by go_num, HW.out.setCell (by show w.heap.size ≤ g; omega) _, (HX.out.set hb true).congr (fun i _ => by
        rw [HS.out i, HXX.out]
        by_cases e : i = x
        · subst e; simp
        · simp [e, Ne.symm e])⟩
      case measure => simp [intOf]; omega
    · have hge : ¬ (k : Int) < (t.size : Int) := by omega
      obtain rfl : k = t.size := by omega
      clear hbel hown
      go_wp2
      go_ret
      exact ⟨g, rfl, hg1, HW.out, HX.out.congr (fun i _ => hasUpTo_all t i)⟩

set_option maxRecDepth 100000 in
set_option maxHeartbeats 4000000 in
theorem l03From_any (g : Nat) (f : Nat → Bool) (w : World) (ho : OwnB w g 256 f) :
    Calls Tryz.prog 139 #[.slice (some ⟨g, 0, none⟩) 256 256] w fun e w' => e = .returned (.string (classT f)) ∧ Below w.heap.size w w' := by
  obtain ⟨i0, hi, hz0, hz1, hz2⟩ := info_parts Tryz.drawInfo
  have HO : Hid (OwnB w g 256 f) := ho
  have hgl := ho.1
  clear ho
  go_enter Tryz.func139, Tryz.ntmps139
  go_wp2
  go_loopw [3, 4] (fun v i wr => ∃ k : Nat, k ≤ 256 ∧ i = .int .i64 (k : Int) ∧ wr.ownsRow w.heap.size 5 1 v (classL f k).length ((classL f k).map (Value.int .u8)) ∧ Below w.heap.size w wr) (fun _ i _ => 256 - (intOf i).toNat)
  case atStart => exact ⟨0, Nat.zero_le _, rfl, World.ownsRow_made w #[] 0 (Nat.le_refl _) (by decide) rfl, (Below.refl _ _).alloc (Nat.le_refl _) _⟩
  case round =>
    obtain ⟨k, hk, rfl, hown, hbel⟩ := hrel
    have HW : Hid (Below w.heap.size w wr) := hbel
    have HR : Hid (wr.ownsRow w.heap.size 5 1 u3 (classL f k).length ((classL f k).map (Value.int .u8))) := hown
    by_cases hlt : k < 256
    · have hlt' : (k : Int) < 256 := by omega
      have hk0 : (0 : Int) ≤ (k : Int) := by omega
      have cz : wr.cell? ⟨g, k, none⟩ = some (.bool (f k)) := by rw [hbel.cell (p := ⟨g, k, none⟩) hgl]; exact HO.out.2.1 k hlt
      have hlen : (classL f k).length ≤ 256 := by have := classL_len f k; omega
      have hsz := hbel.size
      clear hbel
      cases hf : f k
      · rw [hf] at cz
        have HF : Hid (f k = false) := hf
        clear hf hown
        go_wp2
        go_roundw
        case rel => exact ⟨k + 1, by omega, by go_num, by rw [classL_no HF.out]; exact HR.out, HW.out⟩
        case measure => simp [intOf]; omega
      · rw [hf] at cz
        have HF : Hid (f k = true) := hf
        clear hf
        go_wp2_with (at_builtin; refine wpList_append_own _ rfl (.tmp 14) (.tmp 17) 22 rfl w.heap.size 5 i0 (.int .u8 0) 1 1 Tryz.underlying22 hi hz0 hz1 hz2 rfl (by decide) _ _ _ rfl (hown.alloc _) ⟨wr.heap.size, 0, none⟩ 1 1 [.int .u8 (k : Int)] rfl rfl ?c1 ?c2 ?c3 ?c4 ?c5 ?_)
        case c1 => exact cell_one_new _ _ _
        case c2 => intro u hu; simp at hu; subst hu; rfl
        case c3 => unfold maxLen; omega
        case c4 => omega
        case c5 => simp; omega
        intro v' w2 hown2 hgrow _
        have hg3 : wr.grownBy w2 u3.ownBlock := (World.grownBy_alloc wr _ u3.ownBlock).trans hgrow
        have HW2 : Hid (Below w.heap.size w w2) := HW.out.trans ⟨hg3.os, hg3.tape, hg3.output, hg3.size, fun j hj => hg3.block j (by omega) (fun e => by have := (HR.out.lt j e.symm).1; omega)⟩
        have hown3 : w2.ownsRow w.heap.size 5 1 v' (classL f (k + 1)).length ((classL f (k + 1)).map (Value.int .u8)) := by rw [classL_yes HF.out]; simpa using hown2
        have HO2 : Hid (w2.ownsRow w.heap.size 5 1 v' (classL f (k + 1)).length ((classL f (k + 1)).map (Value.int .u8))) := hown3
        clear hown3 hg3 hown2 hgrow hown
        go_wp2
        go_roundw
        case rel => exact ⟨k + 1, by omega, by go_num, HO2.out, HW2.out⟩
        case measure => simp [intOf]; omega
    · have hge : ¬ (k : Int) < 256 := by omega
      obtain rfl : k = 256 := by omega
      have hcv := convRow hown
      clear hown hbel
      go_wp2
      go_ret
      exact ⟨rfl, HW.out⟩
end Go.Proofs.YthnnenbpbkmbhaaGreat
