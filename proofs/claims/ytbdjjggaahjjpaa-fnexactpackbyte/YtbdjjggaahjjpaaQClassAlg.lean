/- What is proved here: classes as lists of numbers: a right class is told by its bytes; turned twice it is itself; what is put together, folded and made is so for each byte. -/
import Derived.Test.YtbdjjggaahjjpaaQClassM
namespace Go.Proofs.Ytbdjjggaahjjpaa
open Go.RowKit

/-- The numbers of a text's bytes. -/
def nums (t : ByteArray) : List Nat := t.data.toList.map UInt8.toNat
theorem nums_inj {s t : ByteArray} (h : nums s = nums t) : s = t := by
  unfold nums at h
  have h1 : s.data.toList = t.data.toList := List.map_inj_right (fun _ _ e => UInt8.toNat_inj.1 e) |>.1 h
  have h2 : s.data = t.data := Array.toList_inj.1 h1
  cases s
  cases t
  simp at h2
  rw [h2]
theorem nums_len (t : ByteArray) : (nums t).length = t.size := by simp [nums]
theorem nums_get (t : ByteArray) (i : Nat) (h : i < t.size) : (nums t)[i]'(by rw [nums_len]; exact h) = t[i].toNat := by
  simp [nums]
  rfl
theorem mem_nums (t : ByteArray) (b : Nat) : b ∈ nums t ↔ hasByte t b = true := by
  unfold nums hasByte
  rw [List.mem_map, List.any_eq_true]
  constructor
  · rintro ⟨c, h1, h2⟩
    exact ⟨c, h1, by rw [beq_iff_eq]; exact h2⟩
  · rintro ⟨c, h1, h2⟩
    exact ⟨c, h1, by rw [beq_iff_eq] at h2; exact h2⟩
theorem nums_lt {t : ByteArray} {b : Nat} (h : b ∈ nums t) : b < 256 := by
  unfold nums at h
  obtain ⟨c, _, rfl⟩ := List.mem_map.1 h
  exact c.toNat_lt
theorem right_sorted (t : ByteArray) : RightC t ↔ (nums t).Pairwise (· < ·) := by
  constructor
  · intro h
    rw [List.pairwise_iff_getElem]
    have key : ∀ (d i : Nat) (h1 : i + (d + 1) < t.size), t[i].toNat < t[i + (d + 1)].toNat := by
      intro d
      induction d with
      | zero => intro i h1; exact h i h1
      | succ d ih =>
        intro i h1
        have h2 := ih i (by omega)
        have h3 := h (i + (d + 1)) (by omega)
        exact Nat.lt_trans h2 h3
    intro i j hi hj hij
    rw [nums_len] at hi hj
    rw [nums_get t i hi, nums_get t j hj]
    obtain ⟨d, rfl⟩ : ∃ d, j = i + (d + 1) := ⟨j - i - 1, by omega⟩
    exact key d i hj
  · intro h i hi
    rw [List.pairwise_iff_getElem] at h
    have := h i (i + 1) (by rw [nums_len]; omega) (by rw [nums_len]; exact hi) (by omega)
    rw [nums_get t i (by omega), nums_get t (i + 1) hi] at this
    exact this
theorem sorted_ext : ∀ (l m : List Nat), l.Pairwise (· < ·) → m.Pairwise (· < ·) → (∀ x, x ∈ l ↔ x ∈ m) → l = m
  | [], [], _, _, _ => rfl
  | [], b :: m, _, _, h => by have := (h b).2 (by simp); cases this
  | a :: l, [], _, _, h => by have := (h a).1 (by simp); cases this
  | a :: l, b :: m, h1, h2, h => by
    rw [List.pairwise_cons] at h1 h2
    have hab : a = b := by
      have ha := (h a).1 (by simp)
      have hb := (h b).2 (by simp)
      rw [List.mem_cons] at ha hb
      rcases ha with ha | ha
      · exact ha
      · rcases hb with hb | hb
        · exact hb.symm
        · have := h1.1 b hb
          have := h2.1 a ha
          omega
    subst hab
    congr 1
    refine sorted_ext l m h1.2 h2.2 (fun x => ?_)
    have hx := h x
    rw [List.mem_cons, List.mem_cons] at hx
    constructor
    · intro hl
      rcases hx.1 (Or.inr hl) with e | e
      · subst e
        exact absurd (h1.1 x hl) (Nat.lt_irrefl _)
      · exact e
    · intro hm
      rcases hx.2 (Or.inr hm) with e | e
      · subst e
        exact absurd (h2.1 x hm) (Nat.lt_irrefl _)
      · exact e
theorem nums_classT (f : Nat → Bool) : nums (classT f) = (List.range 256).filter f := by
  unfold nums classT classL strOfNums
  simp only [List.map_map]
  rw [show ((List.range 256).filter f) = ((List.range 256).filter f).map id from (List.map_id _).symm, List.map_map]
  apply List.map_congr_left
  intro i hi
  have h1 := (List.mem_filter.1 hi).1
  rw [List.mem_range] at h1
  simp
  omega
theorem classT_right (f : Nat → Bool) : RightC (classT f) := by
  rw [right_sorted, nums_classT]
  exact List.Pairwise.filter f List.pairwise_lt_range
theorem classT_size (f : Nat → Bool) : (classT f).size ≤ 256 := by
  rw [← nums_len, nums_classT]
  exact Nat.le_trans (List.length_filter_le _ _) (by simp)
theorem bool_of_iff {a b : Bool} (h : a = true ↔ b = true) : a = b := by cases a <;> cases b <;> simp_all
theorem classT_has (f : Nat → Bool) (b : Nat) : hasByte (classT f) b = (decide (b < 256) && f b) := by
  apply bool_of_iff
  rw [← mem_nums, nums_classT, List.mem_filter, List.mem_range]
  simp
theorem classT_self {t : ByteArray} (h : RightC t) : classT (hasByte t) = t := by
  apply nums_inj
  rw [nums_classT]
  refine sorted_ext _ _ (List.Pairwise.filter _ List.pairwise_lt_range) ((right_sorted t).1 h) (fun x => ?_)
  rw [List.mem_filter, List.mem_range, mem_nums]
  constructor
  · exact fun h => h.2
  · exact fun h => ⟨nums_lt ((mem_nums t x).2 h), h⟩
theorem right_size {t : ByteArray} (h : RightC t) : t.size ≤ 256 := by rw [← classT_self h]; exact classT_size _
theorem right_empty : RightC ⟨#[]⟩ := fun i hi => by simp [ByteArray.size] at hi
theorem has_empty (b : Nat) : hasByte ⟨#[]⟩ b = false := rfl
theorem fold_idem (f : Nat → Bool) (i : Nat) (hi : i < 256) : foldB (hasByte (classT (foldB f 26))) 26 i = foldB f 26 i := by
  have e : ∀ j, j < 256 → hasByte (classT (foldB f 26)) j = foldB f 26 j := fun j hj => by rw [classT_has, decide_eq_true hj, Bool.true_and]
  by_cases h1 : 65 ≤ i ∧ i < 65 + 26
  · unfold foldB at e ⊢
    rw [if_pos h1, e i hi, e (i + 32) (by omega), if_pos h1, if_neg (by omega), if_pos (by omega), Nat.add_sub_cancel, Bool.or_self]
  · by_cases h2 : 97 ≤ i ∧ i < 97 + 26
    · unfold foldB at e ⊢
      rw [if_neg h1, if_pos h2, e i hi, e (i - 32) (by omega), if_neg h1, if_pos h2, if_pos (by omega), Nat.sub_add_cancel (by omega), Bool.or_self]
    · unfold foldB at e ⊢
      rw [if_neg h1, if_neg h2, e i hi]
end Go.Proofs.Ytbdjjggaahjjpaa
