/- What is proved here: the specification's ClassRight says whether a text is a right class; nothing that was there turns.
   What is proved here: the specification's ClassNot hands back the class of what is not in a right one, or nothing; nothing that was there turns.
   What is proved here: classes as lists of numbers: a right class is told by its bytes; turned twice it is itself; what is put together, folded and made is so for each byte. -/
import Derived.Test.YtfeolbgenpknfaaQAtomDToPatM
import Derived.WalkSpells
import Derived.RegionTactic
import Derived.BigRegion
import Derived.Deep.QuietTactic
import Derived.BigQuiet
import Derived.Test.YtfeolbgenpknfaaQClassRowWToSpecCSpanW
namespace Go.Proofs.Ytfeolbgenpknfaa
open Go.RowKit

theorem right_bad {t : ByteArray} {j k : Nat} (e : k = j + 1) (h : k < t.size) (hc : ¬ t[j].toNat < t[k].toNat) : ¬ RightC t := fun hr => by
  subst e
  exact hc (hr j h)
theorem right_step {t : ByteArray} {j k : Nat} (e : k = j + 1) (h : k < t.size) (hr : RightTo t k) (hc : t[j].toNat < t[k].toNat) : RightTo t (k + 1) := by
  subst e
  intro i hi hlt
  by_cases e : i = j
  · subst e; exact hc
  · exact hr i hi (by omega)
theorem below_drewC {a w : World} {B : Nat} (n : Nat) (h : Below B a w) : Below B a (w.drewN n) := ⟨h.os, h.tape, h.output, h.size, h.block⟩
theorem retB {p : Prop} [Decidable p] {x : Bool} (h : x = true ↔ p) : Ending.returned (.bool x) = .returned (.bool (decide p)) := by
  congr 2
  by_cases hp : p
  · rw [h.2 hp, decide_eq_true hp]
  · rw [decide_eq_false hp]
    cases x
    · rfl
    · exact absurd (h.1 rfl) hp

open Classical in
set_option maxRecDepth 100000 in
set_option maxHeartbeats 2000000 in
theorem specRightC_any (t : ByteArray) (w : World) (hs : t.size ≤ maxLen) :
    Calls Try.prog 69 #[.string t] w fun e w' => e = .returned (.bool (decide (RightC t))) ∧ Below w.heap.size w w' := by
  unfold maxLen at hs
  go_enter Try.func69, Try.ntmps69
  go_wp2
  go_loopw [3] (fun i wr => ∃ k : Nat, 1 ≤ k ∧ (k ≤ t.size ∨ k = 1) ∧ i = .int .i64 (k : Int) ∧ Below w.heap.size w wr ∧ RightTo t k) (fun i _ => t.size + 1 - (intOf i).toNat)
  case atStart => exact ⟨1, by omega, Or.inr rfl, rfl, Below.refl _ _, fun i hi h => by omega⟩
  case round =>
    obtain ⟨k, hk1, hk2, rfl, hbel, hR⟩ := hrel
    have HB : Hid (Below w.heap.size w wr) := hbel
    have HR : Hid (RightTo t k) := hR
    clear hbel hR
    by_cases hlt : k < t.size
    · obtain ⟨j, hj⟩ : ∃ j, k = j + 1 := ⟨k - 1, by omega⟩
      have HJ : Hid (k = j + 1) := hj
      have hlt' : (k : Int) < (t.size : Int) := by omega
      have hlt2 : (j : Int) < (t.size : Int) := by omega
      have hlt3 : j < t.size := by omega
      have hj0 : (0 : Int) ≤ (j : Int) := by omega
      have hk0 : (0 : Int) ≤ (k : Int) := by omega
      have wj : IntKind.i64.wrap ((k : Int) - 1) = j := by rw [IntKind.wrap_i64]; omega
      have wj2 : IntKind.i64.wrap (j : Int) = j := by rw [IntKind.wrap_i64]; omega
      have wj3 : (k : Int) - 1 = (j : Int) := by omega
      clear hj hk2
      by_cases hc : t[j].toNat < t[k].toNat
      · have HC : Hid (t[j].toNat < t[k].toNat) := hc
        have hc' : ¬ ((t[k].toNat : Int) ≤ (t[j].toNat : Int)) := by omega
        clear hc
        go_wp2
        go_quiet (fail)
        go_wp2
        go_roundw
        case rel => exact ⟨k + 1, by omega, Or.inl hlt, by go_num, below_drewC _ HB.out, right_step HJ.out hlt HR.out HC.out⟩
        case measure => simp [intOf]; omega
      · have HC : Hid (¬ RightC t) := right_bad HJ.out hlt hc
        have hc' : (t[k].toNat : Int) ≤ (t[j].toNat : Int) := by omega
        clear hc
        go_wp2
        go_quiet (fail)
        go_wp2
        go_ret
        exact ⟨by rw [decide_eq_false HC.out]; rfl, below_drewC _ HB.out⟩
    · have hge : ¬ (k : Int) < (t.size : Int) := by omega
      have HC : Hid (RightC t) := fun i hi => HR.out i hi (by omega)
      go_wp2
      go_ret
      exact ⟨by rw [decide_eq_true HC.out]; rfl, HB.out⟩
end Go.Proofs.Ytfeolbgenpknfaa
namespace Go.Proofs.Ytfeolbgenpknfaa
open Go.RowKit

set_option maxRecDepth 100000 in
set_option maxHeartbeats 2000000 in
theorem l03Not_any (c : ByteArray) (w : World) (hc : c.size ≤ maxLen) :
    Calls Try.prog 123 #[.string c] w fun e w' => e = .returned (.string (classT (fun x => !hasByte c x))) ∧ Below w.heap.size w w' := by
  have HC : Hid (c.size ≤ maxLen) := hc
  clear hc
  go_enter Try.func123, Try.ntmps123
  go_wp2_with fail
  refine (l03Row_any c w HC.out).mono ?_
  rintro e w3 ⟨g, rfl, hg, hb3, ho3⟩
  have B3 : Hid (Below w.heap.size w w3) := hb3
  have O3 : Hid (OwnB w3 g 256 (hasByte c)) := ho3
  clear hb3 ho3
  go_wp2
  go_loopw [4] (fun i wr => ∃ k : Nat, k ≤ 256 ∧ i = .int .i64 (k : Int) ∧ Below w.heap.size w wr ∧ OwnB wr g 256 (fun x => if x < k then !hasByte c x else hasByte c x)) (fun i _ => 256 - (intOf i).toNat)
  case atStart => exact ⟨0, Nat.zero_le _, rfl, B3.out, O3.out.congr (fun i _ => by simp)⟩
  case round =>
    obtain ⟨k, hk, rfl, hbel, hown⟩ := hrel
    have HW : Hid (Below w.heap.size w wr) := hbel
    have HX : Hid (OwnB wr g 256 (fun x => if x < k then !hasByte c x else hasByte c x)) := hown
    by_cases hlt : k < 256
    · have cy : wr.cell? ⟨g, k, none⟩ = some (.bool (hasByte c k)) := by have := hown.2.1 k hlt; rw [this]; simp
      have cf := hown.2.2 k hlt
      have lg := hown.1
      have hk0 : (0 : Int) ≤ (k : Int) := by omega
      have hk1 : (k : Int) < 256 := by omega
      clear hbel hown
      go_wp2
      go_roundw
      case rel => exact ⟨k + 1, by omega, by go_num, HW.out.setCell (by show w.heap.size ≤ g; omega) _, (HX.out.set hlt (!hasByte c k)).congr (fun i _ => by
        by_cases e : i = k
        · subst e; simp
        · simp only [if_neg e]
          by_cases e2 : i < k
          · rw [if_pos e2, if_pos (by omega)]
          · rw [if_neg e2, if_neg (by omega)])⟩
      case measure => simp [intOf]; omega
    · have hge : ¬ (k : Int) < 256 := by omega
      clear hbel hown
      go_wp2_with fail
      refine (l03From_any g _ wr (HX.out.congr (fun i hi => if_pos (by omega)))).mono ?_
      rintro e w5 ⟨rfl, hb5⟩
      have B5 : Hid (Below w.heap.size w w5) := HW.out.trans (hb5.mono HW.out.size)
      clear hb5
      go_wp2
      go_ret
      exact ⟨rfl, B5.out⟩
end Go.Proofs.Ytfeolbgenpknfaa
namespace Go.Proofs.Ytfeolbgenpknfaa
open Go.RowKit

/-- The numbers of a text's bytes. -/
def nums (t : ByteArray) : List Nat := t.data.toList.map UInt8.toNat
theorem nums_inj {s t : ByteArray} (h : nums s = nums t) : s = t := by
  unfold nums at h
  have h1 : s.data.toList = t.data.toList := List.map_inj_right (fun _ _ e => UInt8.toNat_inj.1 e) |>.1 h
  have h2 : s.data = t.data := Array.toList_inj.1 h1
  cases s
  cases t
  simp at h2
  rw [h2]
theorem nums_len (t : ByteArray) : (nums t).length = t.size := by simp [nums]
theorem nums_get (t : ByteArray) (i : Nat) (h : i < t.size) : (nums t)[i]'(by rw [nums_len]; exact h) = t[i].toNat := by
  simp [nums]
  rfl
theorem mem_nums (t : ByteArray) (b : Nat) : b ∈ nums t ↔ hasByte t b = true := by
  unfold nums hasByte
  rw [List.mem_map, List.any_eq_true]
  constructor
  · rintro ⟨c, h1, h2⟩
    exact ⟨c, h1, by rw [beq_iff_eq]; exact h2⟩
  · rintro ⟨c, h1, h2⟩
    exact ⟨c, h1, by rw [beq_iff_eq] at h2; exact h2⟩
theorem nums_lt {t : ByteArray} {b : Nat} (h : b ∈ nums t) : b < 256 := by
  unfold nums at h
  obtain ⟨c, _, rfl⟩ := List.mem_map.1 h
  exact c.toNat_lt
theorem right_sorted (t : ByteArray) : RightC t ↔ (nums t).Pairwise (· < ·) := by
  constructor
  · intro h
    rw [List.pairwise_iff_getElem]
    have key : ∀ (d i : Nat) (h1 : i + (d + 1) < t.size), t[i].toNat < t[i + (d + 1)].toNat := by
      intro d
      induction d with
      | zero => intro i h1; exact h i h1
      | succ d ih =>
        intro i h1
        have h2 := ih i (by omega)
        have h3 := h (i + (d + 1)) (by omega)
        exact Nat.lt_trans h2 h3
    intro i j hi hj hij
    rw [nums_len] at hi hj
    rw [nums_get t i hi, nums_get t j hj]
    obtain ⟨d, rfl⟩ : ∃ d, j = i + (d + 1) := ⟨j - i - 1, by omega⟩
    exact key d i hj
  · intro h i hi
    rw [List.pairwise_iff_getElem] at h
    have := h i (i + 1) (by rw [nums_len]; omega) (by rw [nums_len]; exact hi) (by omega)
    rw [nums_get t i (by omega), nums_get t (i + 1) hi] at this
    exact this
theorem sorted_ext : ∀ (l m : List Nat), l.Pairwise (· < ·) → m.Pairwise (· < ·) → (∀ x, x ∈ l ↔ x ∈ m) → l = m
  | [], [], _, _, _ => rfl
  | [], b :: m, _, _, h => by have := (h b).2 (by simp); cases this
  | a :: l, [], _, _, h => by have := (h a).1 (by simp); cases this
  | a :: l, b :: m, h1, h2, h => by
    rw [List.pairwise_cons] at h1 h2
    have hab : a = b := by
      have ha := (h a).1 (by simp)
      have hb := (h b).2 (by simp)
      rw [List.mem_cons] at ha hb
      rcases ha with ha | ha
      · exact ha
      · rcases hb with hb | hb
        · exact hb.symm
        · have := h1.1 b hb
          have := h2.1 a ha
          omega
    subst hab
    congr 1
    refine sorted_ext l m h1.2 h2.2 (fun x => ?_)
    have hx := h x
    rw [List.mem_cons, List.mem_cons] at hx
    constructor
    · intro hl
      rcases hx.1 (Or.inr hl) with e | e
      · subst e
        exact absurd (h1.1 x hl) (Nat.lt_irrefl _)
      · exact e
    · intro hm
      rcases hx.2 (Or.inr hm) with e | e
      · subst e
        exact absurd (h2.1 x hm) (Nat.lt_irrefl _)
      · exact e
theorem nums_classT (f : Nat → Bool) : nums (classT f) = (List.range 256).filter f := by
  unfold nums classT classL strOfNums
  simp only [List.map_map]
  rw [show ((List.range 256).filter f) = ((List.range 256).filter f).map id from (List.map_id _).symm, List.map_map]
  apply List.map_congr_left
  intro i hi
  have h1 := (List.mem_filter.1 hi).1
  rw [List.mem_range] at h1
  simp
  omega
theorem classT_right (f : Nat → Bool) : RightC (classT f) := by
  rw [right_sorted, nums_classT]
  exact List.Pairwise.filter f List.pairwise_lt_range
theorem classT_size (f : Nat → Bool) : (classT f).size ≤ 256 := by
  rw [← nums_len, nums_classT]
  exact Nat.le_trans (List.length_filter_le _ _) (by simp)
theorem bool_of_iff {a b : Bool} (h : a = true ↔ b = true) : a = b := by cases a <;> cases b <;> simp_all
theorem classT_has (f : Nat → Bool) (b : Nat) : hasByte (classT f) b = (decide (b < 256) && f b) := by
  apply bool_of_iff
  rw [← mem_nums, nums_classT, List.mem_filter, List.mem_range]
  simp
theorem classT_self {t : ByteArray} (h : RightC t) : classT (hasByte t) = t := by
  apply nums_inj
  rw [nums_classT]
  refine sorted_ext _ _ (List.Pairwise.filter _ List.pairwise_lt_range) ((right_sorted t).1 h) (fun x => ?_)
  rw [List.mem_filter, List.mem_range, mem_nums]
  constructor
  · exact fun h => h.2
  · exact fun h => ⟨nums_lt ((mem_nums t x).2 h), h⟩
theorem right_size {t : ByteArray} (h : RightC t) : t.size ≤ 256 := by rw [← classT_self h]; exact classT_size _
theorem right_empty : RightC ⟨#[]⟩ := fun i hi => by simp [ByteArray.size] at hi
theorem has_empty (b : Nat) : hasByte ⟨#[]⟩ b = false := rfl
theorem fold_idem (f : Nat → Bool) (i : Nat) (hi : i < 256) : foldB (hasByte (classT (foldB f 26))) 26 i = foldB f 26 i := by
  have e : ∀ j, j < 256 → hasByte (classT (foldB f 26)) j = foldB f 26 j := fun j hj => by rw [classT_has, decide_eq_true hj, Bool.true_and]
  by_cases h1 : 65 ≤ i ∧ i < 65 + 26
  · unfold foldB at e ⊢
    rw [if_pos h1, e i hi, e (i + 32) (by omega), if_pos h1, if_neg (by omega), if_pos (by omega), Nat.add_sub_cancel, Bool.or_self]
  · by_cases h2 : 97 ≤ i ∧ i < 97 + 26
    · unfold foldB at e ⊢
      rw [if_neg h1, if_pos h2, e i hi, e (i - 32) (by omega), if_neg h1, if_pos h2, if_pos (by omega), Nat.sub_add_cancel (by omega), Bool.or_self]
    · unfold foldB at e ⊢
      rw [if_neg h1, if_neg h2, e i hi]
end Go.Proofs.Ytfeolbgenpknfaa
