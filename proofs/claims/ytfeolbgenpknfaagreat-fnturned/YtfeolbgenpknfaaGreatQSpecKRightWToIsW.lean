/- What is proved here: the specification's CellsRight says whether a row of cells is right; nothing that was there turns.
   What is proved here: the specification's l03Has says whether a byte is in a text; the world stays.
   What is said here: what fits a row of cells, as plain mathematics.
   What is proved here: classes as lists of numbers: a right class is told by its bytes; turned twice it is itself; what is put together, folded and made is so for each byte.
   What is proved here: the specification's l02Is says whether a number is in a span; the world stays. -/
import Derived.Test.YtfeolbgenpknfaaGreatQCellMToWordM
import Derived.Test.YtfeolbgenpknfaaGreatQGetBWToClassRightW
import Derived.Deep.RegionWith
import Derived.Test.YtfeolbgenpknfaaGreatQClassMToCellD
import Derived.WalkSpells
import Derived.RegionTactic
import Derived.BigRegion
import Derived.Test.YtfeolbgenpknfaaGreatProg
import Derived.WalkKit
namespace Go.Proofs.YtfeolbgenpknfaaGreat
open Go.RowKit

open Classical in
theorem specRightK_yes (t : ByteArray) (w : World) (hs : t.size ≤ maxLen) (h : RightC t) :
    Calls Tryz.prog 69 #[.string t] w fun e w' => e = .returned (.bool true) ∧ Below w.heap.size w w' := by
  refine (specRightC_any t w hs).mono ?_
  rintro e w' ⟨rfl, hb⟩
  exact ⟨by rw [decide_eq_true h], hb⟩
open Classical in
theorem specRightK_no (t : ByteArray) (w : World) (hs : t.size ≤ maxLen) (h : ¬ RightC t) :
    Calls Tryz.prog 69 #[.string t] w fun e w' => e = .returned (.bool false) ∧ Below w.heap.size w w' := by
  refine (specRightC_any t w hs).mono ?_
  rintro e w' ⟨rfl, hb⟩
  exact ⟨by rw [decide_eq_false h], hb⟩

open Classical in
set_option maxRecDepth 100000 in
set_option maxHeartbeats 4000000 in
theorem specKRight_any (sa : Option Addr) (n cap : Nat) (f : Nat → Cel) (w : World) (hn : n ≤ maxLen) (hr : CRow w w.heap.size sa n f) (hc : ∀ i, i < n → (f i).c.size ≤ maxLen) :
    Calls Tryz.prog 39 #[.slice sa n cap] w fun e w' => e = .returned (.bool (decide (CellsOk n f))) ∧ Below w.heap.size w w' := by
  unfold maxLen at hn
  have HC : Hid (∀ i, i < n → (f i).c.size ≤ maxLen) := hc
  have HR : Hid (CRow w w.heap.size sa n f) := hr
  clear hc hr
  by_cases h1 : (n : Int) < 1
  · rw [decide_eq_false (fun h : CellsOk n f => by have := h.1; omega)]
    go_enter Tryz.func39, Tryz.ntmps39
    go_wp2
    go_ret
    exact ⟨rfl, Below.refl _ _⟩
  by_cases h2 : 60 < (n : Int)
  · rw [decide_eq_false (fun h : CellsOk n f => by have := h.2.1; omega)]
    go_enter Tryz.func39, Tryz.ntmps39
    go_wp2
    go_ret
    exact ⟨rfl, Below.refl _ _⟩
  go_enter Tryz.func39, Tryz.ntmps39
  go_wp2
  go_loopw [3] (fun i wr => ∃ k : Nat, k ≤ n ∧ i = .int .i64 (k : Int) ∧ Below w.heap.size w wr ∧ ∀ i, i < k → CellOk (f i)) (fun i _ => n - (intOf i).toNat)
  case atStart => exact ⟨0, Nat.zero_le _, rfl, Below.refl _ _, fun i hi => by omega⟩
  case round =>
    obtain ⟨k, hk, rfl, hbel, hall⟩ := hrel
    have HB : Hid (Below w.heap.size w wr) := hbel
    have HA : Hid (∀ i, i < k → CellOk (f i)) := hall
    clear hall
    by_cases hkl : k < n
    · obtain ⟨bb, off, rfl, hbb, hat⟩ := HR.out.at hbel hkl
      obtain ⟨c0, c1, c2⟩ := hat
      have HK : Hid ((f k).c.size ≤ maxLen) := HC.out k hkl
      have hlt : bb < wr.heap.size := Nat.lt_of_lt_of_le hbb hbel.size
      clear hbel
      have hki : (k : Int) < (n : Int) := by omega
      have hk0 : (0 : Int) ≤ (k : Int) := by omega
      obtain ⟨⟨ac, al, am⟩, ha⟩ : ∃ a, f k = a := ⟨_, rfl⟩
      have HF : Hid (f k = ⟨ac, al, am⟩) := ha
      rw [ha] at c0 c1 c2 HK
      simp only at c0 c1 c2 HK
      clear ha
      have BAD : Hid (¬ CellOk ⟨ac, al, am⟩ → ¬ CellsOk n f) := fun h hp => h (by rw [← HF.out]; exact hp.2.2 k hkl)
      by_cases hcr : RightC ac
      · have HCR : Hid (RightC ac) := hcr
        clear hcr
        go_wp2_with fail
        refine (specRightK_yes ac _ HK.out HCR.out).mono ?_
        rintro e w1 ⟨rfl, hb1⟩
        have d0 : w1.cell? ⟨bb, off + k * 3, none⟩ = some (.string ac) := (hb1.cell (p := ⟨bb, off + k * 3, none⟩) hlt).trans c0
        have B1 : Hid (Below w.heap.size w w1) := HB.out.trans (hb1.mono HB.out.size)
        clear hb1 HB c0 c1 c2
        by_cases hce : 0 < ac.size
        · obtain ⟨hq1, hq2⟩ := someC hce
          have HAR : Hid (CellOk ⟨ac, al, am⟩) := ⟨HCR.out, hce⟩
          go_wp2_with fail
          go_roundw
          case rel => exact ⟨k + 1, by omega, by go_num, B1.out, stepCell HA.out (by rw [HF.out]; exact HAR.out)⟩
          case measure => simp [intOf]; omega
        · obtain ⟨hq1, hq2⟩ := noneC hce
          have HBAD : Hid (¬ CellsOk n f) := BAD.out (fun h => hce h.2)
          go_wp2_with fail
          go_ret
          exact ⟨by rw [decide_eq_false HBAD.out]; rfl, B1.out⟩
      · have HBAD : Hid (¬ CellsOk n f) := BAD.out (fun h => hcr h.1)
        have HCR : Hid (¬ RightC ac) := hcr
        clear hcr
        go_wp2_with fail
        refine (specRightK_no ac _ HK.out HCR.out).mono ?_
        rintro e w1 ⟨rfl, hb1⟩
        have B1 : Hid (Below w.heap.size w w1) := HB.out.trans (hb1.mono HB.out.size)
        clear hb1 HB c0 c1 c2
        go_wp2_with fail
        go_ret
        exact ⟨by rw [decide_eq_false HBAD.out]; rfl, B1.out⟩
    · have hki : ¬ (k : Int) < (n : Int) := by omega
      obtain rfl : k = n := by omega
      clear hbel
      have HE : Hid (CellsOk k f) := ⟨by omega, by omega, HA.out⟩
      go_wp2
      go_ret
      exact ⟨by rw [decide_eq_true HE.out]; rfl, HB.out⟩
end Go.Proofs.YtfeolbgenpknfaaGreat
namespace Go.Proofs.YtfeolbgenpknfaaGreat
open Go.RowKit

theorem has_found {t : ByteArray} {k b : Nat} (h : k < t.size) (hc : t[k].toNat = b) : hasByte t b = true := by
  unfold hasByte
  rw [List.any_eq_true]
  exact ⟨t.data.toList[k]'(by simpa using h), List.getElem_mem _, by rw [beq_iff_eq]; exact hc⟩
set_option maxRecDepth 100000 in
set_option maxHeartbeats 2000000 in
theorem l03Has_any (t : ByteArray) (b : Nat) (w : World) (hs : t.size ≤ maxLen) :
    Calls Tryz.prog 76 #[.string t, .int .u8 (b : Int)] w fun e w' => e = .returned (.bool (hasByte t b)) ∧ w' = w := by
  unfold maxLen at hs
  go_enter Tryz.func76, Tryz.ntmps76
  go_wp2
  go_loop [5] (fun i => ∃ k : Nat, k ≤ t.size ∧ i = .int .i64 (k : Int) ∧ hasUpTo t k b = false) (fun i => t.size - (intOf i).toNat)
  case atStart => exact ⟨0, Nat.zero_le _, rfl, hasUpTo_zero t b⟩
  case round =>
    obtain ⟨k, hk, rfl, hno⟩ := hrel
    have HN : Hid (hasUpTo t k b = false) := hno
    clear hno
    by_cases hlt : k < t.size
    · have hlt' : (k : Int) < (t.size : Int) := by omega
      have HS : Hid (hasUpTo t (k + 1) b = (hasUpTo t k b || (t[k].toNat == b))) := hasUpTo_succ t k b hlt
      by_cases hc : t[k].toNat = b
      · have HC : Hid (hasByte t b = true) := has_found hlt hc
        have hc' : ((t[k].toNat : Int) == (b : Int)) = true := by rw [hc]; simp
        clear hc
        go_wp2
        go_ret
        exact ⟨by rw [HC.out]; rfl, rfl⟩
      · have HC : Hid (hasUpTo t (k + 1) b = false) := by
          show hasUpTo t (k + 1) b = false
          rw [HS.out, HN.out]
          simp [hc]
        have hc' : ((t[k].toNat : Int) == (b : Int)) = false := by simp; omega
        clear hc
        go_wp2
        go_round
        case rel => exact ⟨k + 1, by omega, by go_num, HC.out⟩
        case measure => simp [intOf]; omega
    · have hge : ¬ (k : Int) < (t.size : Int) := by omega
      obtain rfl : k = t.size := by omega
      go_wp2
      go_ret
      exact ⟨by rw [← hasUpTo_all, HN.out]; rfl, rfl⟩
end Go.Proofs.YtfeolbgenpknfaaGreat
namespace Go.Proofs.YtfeolbgenpknfaaGreat
/-- A text that is not too long passes right cells. -/
def FitK (n : Nat) (f : Nat → Cel) (t : ByteArray) : Prop := t.size ≤ 8000 ∧ CellsOk n f ∧ runB f n t t.size n = true
theorem okSize {n : Nat} {f : Nat → Cel} (hs : ∀ i, i < n → RightC (f i).c → (f i).c.size ≤ 256) (h : CellsOk n f) : ∀ i, i < n → (f i).c.size ≤ 256 := fun i hi => hs i hi (h.2.2 i hi).1
theorem bit_of {x n : Nat} {P : Nat → Bool} (h : IsBits x P) : x / 2 ^ n % 2 = if P n = true then 1 else 0 := by
  have h2 := h.bit n
  rw [Nat.testBit_eq_decide_div_mod_eq] at h2
  by_cases h3 : x / 2 ^ n % 2 = 1
  · rw [decide_eq_true h3] at h2
    rw [if_pos h2.symm, h3]
  · rw [decide_eq_false h3] at h2
    rw [if_neg (by rw [← h2]; simp)]
    omega
theorem and_one64 {y : Nat} (h : y < 18446744073709551616) : bits .and .u64 (y : Int) 1 = ((y % 2 : Nat) : Int) := by
  have := and64 (a := y) (b := 1) h (by omega)
  rw [Nat.and_one_is_mod] at this
  exact this
end Go.Proofs.YtfeolbgenpknfaaGreat
namespace Go.Proofs.YtfeolbgenpknfaaGreat
open Go.RowKit

/-- The numbers of a text's bytes. -/
def nums (t : ByteArray) : List Nat := t.data.toList.map UInt8.toNat
theorem nums_inj {s t : ByteArray} (h : nums s = nums t) : s = t := by
  unfold nums at h
  have h1 : s.data.toList = t.data.toList := List.map_inj_right (fun _ _ e => UInt8.toNat_inj.1 e) |>.1 h
  have h2 : s.data = t.data := Array.toList_inj.1 h1
  cases s
  cases t
  simp at h2
  rw [h2]
theorem nums_len (t : ByteArray) : (nums t).length = t.size := by simp [nums]
theorem nums_get (t : ByteArray) (i : Nat) (h : i < t.size) : (nums t)[i]'(by rw [nums_len]; exact h) = t[i].toNat := by
  simp [nums]
  rfl
theorem mem_nums (t : ByteArray) (b : Nat) : b ∈ nums t ↔ hasByte t b = true := by
  unfold nums hasByte
  rw [List.mem_map, List.any_eq_true]
  constructor
  · rintro ⟨c, h1, h2⟩
    exact ⟨c, h1, by rw [beq_iff_eq]; exact h2⟩
  · rintro ⟨c, h1, h2⟩
    exact ⟨c, h1, by rw [beq_iff_eq] at h2; exact h2⟩
theorem nums_lt {t : ByteArray} {b : Nat} (h : b ∈ nums t) : b < 256 := by
  unfold nums at h
  obtain ⟨c, _, rfl⟩ := List.mem_map.1 h
  exact c.toNat_lt
theorem right_sorted (t : ByteArray) : RightC t ↔ (nums t).Pairwise (· < ·) := by
  constructor
  · intro h
    rw [List.pairwise_iff_getElem]
    have key : ∀ (d i : Nat) (h1 : i + (d + 1) < t.size), t[i].toNat < t[i + (d + 1)].toNat := by
      intro d
      induction d with
      | zero => intro i h1; exact h i h1
      | succ d ih =>
        intro i h1
        have h2 := ih i (by omega)
        have h3 := h (i + (d + 1)) (by omega)
        exact Nat.lt_trans h2 h3
    intro i j hi hj hij
    rw [nums_len] at hi hj
    rw [nums_get t i hi, nums_get t j hj]
    obtain ⟨d, rfl⟩ : ∃ d, j = i + (d + 1) := ⟨j - i - 1, by omega⟩
    exact key d i hj
  · intro h i hi
    rw [List.pairwise_iff_getElem] at h
    have := h i (i + 1) (by rw [nums_len]; omega) (by rw [nums_len]; exact hi) (by omega)
    rw [nums_get t i (by omega), nums_get t (i + 1) hi] at this
    exact this
theorem sorted_ext : ∀ (l m : List Nat), l.Pairwise (· < ·) → m.Pairwise (· < ·) → (∀ x, x ∈ l ↔ x ∈ m) → l = m
  | [], [], _, _, _ => rfl
  | [], b :: m, _, _, h => by have := (h b).2 (by simp); cases this
  | a :: l, [], _, _, h => by have := (h a).1 (by simp); cases this
  | a :: l, b :: m, h1, h2, h => by
    rw [List.pairwise_cons] at h1 h2
    have hab : a = b := by
      have ha := (h a).1 (by simp)
      have hb := (h b).2 (by simp)
      rw [List.mem_cons] at ha hb
      rcases ha with ha | ha
      · exact ha
      · rcases hb with hb | hb
        · exact hb.symm
        · have := h1.1 b hb
          have := h2.1 a ha
          omega
    subst hab
    congr 1
    refine sorted_ext l m h1.2 h2.2 (fun x => ?_)
    have hx := h x
    rw [List.mem_cons, List.mem_cons] at hx
    constructor
    · intro hl
      rcases hx.1 (Or.inr hl) with e | e
      · subst e
        exact absurd (h1.1 x hl) (Nat.lt_irrefl _)
      · exact e
    · intro hm
      rcases hx.2 (Or.inr hm) with e | e
      · subst e
        exact absurd (h2.1 x hm) (Nat.lt_irrefl _)
      · exact e
theorem nums_classT (f : Nat → Bool) : nums (classT f) = (List.range 256).filter f := by
  unfold nums classT classL strOfNums
  simp only [List.map_map]
  rw [show ((List.range 256).filter f) = ((List.range 256).filter f).map id from (List.map_id _).symm, List.map_map]
  apply List.map_congr_left
  intro i hi
  have h1 := (List.mem_filter.1 hi).1
  rw [List.mem_range] at h1
  simp
  omega
theorem classT_right (f : Nat → Bool) : RightC (classT f) := by
  rw [right_sorted, nums_classT]
  exact List.Pairwise.filter f List.pairwise_lt_range
theorem classT_size (f : Nat → Bool) : (classT f).size ≤ 256 := by
  rw [← nums_len, nums_classT]
  exact Nat.le_trans (List.length_filter_le _ _) (by simp)
theorem bool_of_iff {a b : Bool} (h : a = true ↔ b = true) : a = b := by cases a <;> cases b <;> simp_all
theorem classT_has (f : Nat → Bool) (b : Nat) : hasByte (classT f) b = (decide (b < 256) && f b) := by
  apply bool_of_iff
  rw [← mem_nums, nums_classT, List.mem_filter, List.mem_range]
  simp
theorem classT_self {t : ByteArray} (h : RightC t) : classT (hasByte t) = t := by
  apply nums_inj
  rw [nums_classT]
  refine sorted_ext _ _ (List.Pairwise.filter _ List.pairwise_lt_range) ((right_sorted t).1 h) (fun x => ?_)
  rw [List.mem_filter, List.mem_range, mem_nums]
  constructor
  · exact fun h => h.2
  · exact fun h => ⟨nums_lt ((mem_nums t x).2 h), h⟩
theorem right_size {t : ByteArray} (h : RightC t) : t.size ≤ 256 := by rw [← classT_self h]; exact classT_size _
theorem right_empty : RightC ⟨#[]⟩ := fun i hi => by simp [ByteArray.size] at hi
theorem has_empty (b : Nat) : hasByte ⟨#[]⟩ b = false := rfl
theorem fold_idem (f : Nat → Bool) (i : Nat) (hi : i < 256) : foldB (hasByte (classT (foldB f 26))) 26 i = foldB f 26 i := by
  have e : ∀ j, j < 256 → hasByte (classT (foldB f 26)) j = foldB f 26 j := fun j hj => by rw [classT_has, decide_eq_true hj, Bool.true_and]
  by_cases h1 : 65 ≤ i ∧ i < 65 + 26
  · unfold foldB at e ⊢
    rw [if_pos h1, e i hi, e (i + 32) (by omega), if_pos h1, if_neg (by omega), if_pos (by omega), Nat.add_sub_cancel, Bool.or_self]
  · by_cases h2 : 97 ≤ i ∧ i < 97 + 26
    · unfold foldB at e ⊢
      rw [if_neg h1, if_pos h2, e i hi, e (i - 32) (by omega), if_neg h1, if_pos h2, if_pos (by omega), Nat.sub_add_cancel (by omega), Bool.or_self]
    · unfold foldB at e ⊢
      rw [if_neg h1, if_neg h2, e i hi]
end Go.Proofs.YtfeolbgenpknfaaGreat
namespace Go.Proofs.YtfeolbgenpknfaaGreat
open Go.RowKit

theorem is_any (x lo hi : Int) (w : World) :
    Calls Tryz.prog 53 #[.int .i64 x, .int .i64 lo, .int .i64 hi] w fun e w' => e = .returned (.bool (decide (lo ≤ x) && decide (x ≤ hi))) ∧ w' = w := by
  by_cases h : lo ≤ x
  · go_enter Tryz.func53, Tryz.ntmps53
    go_wp2
    go_ret
    exact ⟨by simp [h], rfl⟩
  · go_enter Tryz.func53, Tryz.ntmps53
    go_wp2
    go_ret
    exact ⟨by simp; omega, rfl⟩
theorem is_yes (x lo hi : Int) (w : World) (h0 : lo ≤ x) (h1 : x ≤ hi) :
    Calls Tryz.prog 53 #[.int .i64 x, .int .i64 lo, .int .i64 hi] w fun e w' => e = .returned (.bool true) ∧ w' = w :=
  (is_any x lo hi w).mono fun _ _ h => ⟨by rw [h.1]; simp [h0, h1], h.2⟩
theorem is_no (x lo hi : Int) (w : World) (h : ¬ (lo ≤ x ∧ x ≤ hi)) :
    Calls Tryz.prog 53 #[.int .i64 x, .int .i64 lo, .int .i64 hi] w fun e w' => e = .returned (.bool false) ∧ w' = w :=
  (is_any x lo hi w).mono fun _ _ k => ⟨by
    rw [k.1]
    have e : (decide (lo ≤ x) && decide (x ≤ hi)) = false := by simp; omega
    rw [e], k.2⟩
end Go.Proofs.YtfeolbgenpknfaaGreat
