/- What is proved here: the program's ClassFold hands back, of a right class, that with the other case of each letter, else nothing; nothing that was there turns. -/
import Derived.Test.YtcppbddjboobhaaDoorSetOfW
import Derived.Test.YtcppbddjboobhaaDoorClassW
import Derived.Test.YtcppbddjboobhaaDoorSpecCFoldW
import Derived.Deep.RegionWith
namespace Go.Proofs.YtcppbddjboobhaaDoor
open Go.RowKit

/-- The other case of a letter. -/
def other (b : Nat) : Nat := if 65 ≤ b ∧ b ≤ 90 then b + 32 else if 97 ≤ b ∧ b ≤ 122 then b - 32 else b
theorem other_lt {b : Nat} (h : b < 256) : other b < 256 := by unfold other; split <;> (try split) <;> omega
/-- The set, and the other cases of the first k bytes. -/
def foldTo (t : ByteArray) (k : Nat) : Nat → Nat := (t.data.toList.take k).foldl (fun f c => withB f (other c.toNat)) (setOf t)
theorem foldTo_zero (t : ByteArray) : foldTo t 0 = setOf t := by simp [foldTo]
theorem foldTo_succ (t : ByteArray) (k : Nat) (h : k < t.size) : foldTo t (k + 1) = withB (foldTo t k) (other t[k].toNat) := by
  unfold foldTo
  rw [List.take_succ_eq_append_getElem (by simpa using h), List.foldl_append]
  simp
  rfl
theorem foldTo_set (t : ByteArray) : ∀ k, k ≤ t.size → Set4 (foldTo t k)
  | 0, _ => by rw [foldTo_zero]; exact setOf_set t
  | k + 1, h => by rw [foldTo_succ t k (by omega)]; exact withB_set (foldTo_set t k (by omega)) _
theorem inSet_foldTo (t : ByteArray) (i : Nat) : ∀ k, k ≤ t.size → inSet (foldTo t k) i = (hasByte t i || (t.data.toList.take k).any (fun c => other c.toNat == i))
  | 0, _ => by rw [foldTo_zero, inSet_of]; simp
  | k + 1, h => by
    rw [foldTo_succ t k (by omega), inSet_with, inSet_foldTo t i k (by omega), List.take_succ_eq_append_getElem (by simp; omega), List.any_append, Bool.or_assoc]
    simp
    rfl
theorem other_other (b : Nat) : other (other b) = b := by unfold other; split <;> (try split) <;> (try split) <;> (try split) <;> omega
theorem any_other (t : ByteArray) (i : Nat) : t.data.toList.any (fun c => other c.toNat == i) = hasByte t (other i) := by
  unfold hasByte
  congr 1
  funext c
  by_cases h : other c.toNat = i
  · subst h
    rw [other_other, beq_self_eq_true, beq_self_eq_true]
  · have h2 : ¬ c.toNat = other i := fun e => h (by rw [e, other_other])
    rw [beq_eq_false_iff_ne.2 h, beq_eq_false_iff_ne.2 h2]
theorem fold_all (t : ByteArray) (i : Nat) : inSet (foldTo t t.size) i = foldB (hasByte t) 26 i := by
  rw [inSet_foldTo t i _ (Nat.le_refl _), List.take_of_length_le (by simp), any_other]
  by_cases h1 : 65 ≤ i ∧ i ≤ 90
  · have e : other i = i + 32 := by unfold other; rw [if_pos h1]
    rw [e]
    unfold foldB
    rw [if_pos (by omega)]
  · by_cases h2 : 97 ≤ i ∧ i ≤ 122
    · have e : other i = i - 32 := by unfold other; rw [if_neg h1, if_pos h2]
      rw [e]
      unfold foldB
      rw [if_neg (by omega), if_pos (by omega), Bool.or_comm]
    · have e : other i = i := by unfold other; rw [if_neg h1, if_neg h2]
      rw [e]
      unfold foldB
      rw [if_neg (by omega), if_neg (by omega), Bool.or_self]
theorem otherCase_any (b : Nat) (w : World) (hb : b < 256) :
    Calls Tryd.prog 117 #[.int .i32 (b : Int)] w fun e w' => e = .returned (.int .i32 (other b : Nat)) ∧ w' = w := by
  by_cases h1 : 65 ≤ b ∧ b ≤ 90
  · have e : other b = b + 32 := by unfold other; rw [if_pos h1]
    have h2 : (65 : Int) ≤ (b : Int) := by omega
    have h3 : (b : Int) ≤ 90 := by omega
    rw [e]
    clear h1 hb e
    go_enter Tryd.func117, Tryd.ntmps117
    go_wp2
    go_ret
    refine ⟨?_, rfl⟩
    show Ending.returned (.int .i32 ((b : Int) - 65 + 97)) = _
    rw [show (b : Int) - 65 + 97 = ((b + 32 : Nat) : Int) by omega]
  · by_cases h2 : 97 ≤ b ∧ b ≤ 122
    · have e : other b = b - 32 := by unfold other; rw [if_neg h1, if_pos h2]
      have h3 : (97 : Int) ≤ (b : Int) := by omega
      have h4 : (b : Int) ≤ 122 := by omega
      have h5 : (65 : Int) ≤ (b : Int) := by omega
      have h6 : ¬ (b : Int) ≤ 90 := by omega
      rw [e]
      clear h1 h2 hb e
      go_enter Tryd.func117, Tryd.ntmps117
      go_wp2
      go_ret
      refine ⟨?_, rfl⟩
      show Ending.returned (.int .i32 ((b : Int) - 97 + 65)) = _
      rw [show (b : Int) - 97 + 65 = ((b - 32 : Nat) : Int) by omega]
    · have e : other b = b := by unfold other; rw [if_neg h1, if_neg h2]
      rw [e]
      clear e
      by_cases h3 : 65 ≤ b
      · have h4 : ¬ (b : Int) ≤ 90 := by omega
        have h5 : (65 : Int) ≤ (b : Int) := by omega
        by_cases h6 : 97 ≤ b
        · have h7 : ¬ (b : Int) ≤ 122 := by omega
          have h8 : (97 : Int) ≤ (b : Int) := by omega
          clear h1 h2 hb
          go_enter Tryd.func117, Tryd.ntmps117
          go_wp2
          go_ret
          exact ⟨rfl, rfl⟩
        · have h8 : ¬ (97 : Int) ≤ (b : Int) := by omega
          clear h1 h2 hb
          go_enter Tryd.func117, Tryd.ntmps117
          go_wp2
          go_ret
          exact ⟨rfl, rfl⟩
      · have h4 : ¬ (65 : Int) ≤ (b : Int) := by omega
        have h5 : ¬ (97 : Int) ≤ (b : Int) := by omega
        clear h1 h2 hb
        go_enter Tryd.func117, Tryd.ntmps117
        go_wp2
        go_ret
        exact ⟨rfl, rfl⟩

set_option maxRecDepth 100000 in
set_option maxHeartbeats 4000000 in
theorem implCFold_yes (t : ByteArray) (w : World) (hs : t.size ≤ maxLen) (hr : RightC t) (hT : Tab64 w) (hp0 : 2 < w.heap.size) :
    Calls Tryd.prog 55 #[.string t] w fun e w' => e = .returned (.string (classT (foldB (hasByte t) 26))) ∧ Below w.heap.size w w' := by
  have HT : Hid (Tab64 w) := hT
  have R1 : Hid (RightC t) := hr
  clear hT hr
  go_enter Tryd.func55, Tryd.ntmps55
  go_wp2_with fail
  refine (setOfClass_any t _ hs).mono ?_
  rintro e w1 ⟨hb1, h⟩
  unfold maxLen at hs
  obtain ⟨_, rfl⟩ : RightC t ∧ e = .returned (.tuple #[setV (setOf t), .bool true]) := by
    rcases h with h | h
    · exact h
    · exact absurd R1.out h.1
  have B1 : Hid (Below w.heap.size w w1) := hb1
  have hsz := hb1.size
  clear hb1 h
  unfold setV
  go_wp2
  generalize hv : w1.alloc (.cells #[.int .u64 (setOf t 0 : Nat), .int .u64 (setOf t 1 : Nat), .int .u64 (setOf t 2 : Nat), .int .u64 (setOf t 3 : Nat)] 90) = v1
  have Y1 : Hid (Box4 v1 w1.heap.size (setOf t)) := by rw [← hv]; exact Box4.new w1 (setOf t)
  have V1 : Hid (Below w.heap.size w v1) := by rw [← hv]; exact B1.out.alloc B1.out.size _
  clear hv
  generalize w1.heap.size = p at *
  clear B1 w1
  go_loopw [5] (fun i wr => ∃ k : Nat, k ≤ t.size ∧ i = .int .i64 (k : Int) ∧ Below w.heap.size w wr ∧ Box4 wr p (foldTo t k)) (fun i _ => t.size - (intOf i).toNat)
  case atStart => exact ⟨0, Nat.zero_le _, rfl, V1.out, by rw [foldTo_zero]; exact Y1.out⟩
  case round =>
    obtain ⟨k, hk, rfl, hbel, hB⟩ := hrel
    have HW : Hid (Below w.heap.size w wr) := hbel
    have HB : Hid (Box4 wr p (foldTo t k)) := hB
    have HS : Hid (Set4 (foldTo t k)) := foldTo_set t k hk
    obtain ⟨b0, b1, b2, b3⟩ := hB.cells
    obtain ⟨fb0, fb1, fb2, fb3⟩ := hB.frozen
    have lb := hB.lt
    clear hbel hB
    by_cases hlt : k < t.size
    · have hlt' : (k : Int) < (t.size : Int) := by omega
      have hT : Hid (foldTo t (k + 1) = withB (foldTo t k) (other t[k].toNat)) := foldTo_succ t k hlt
      have hx : t[k].toNat < 256 := t[k].toNat_lt
      obtain ⟨x, hxx⟩ : ∃ x, t[k].toNat = x := ⟨_, rfl⟩
      have HX : Hid (t[k].toNat = x) := hxx
      rw [hxx] at hx
      have hx2 : Hid (other x < 256) := other_lt hx
      have hx3 : Hid (x < 256) := hx
      have hw1 : IntKind.i32.wrap (x : Int) = x := by rw [IntKind.wrap_i32]; omega
      have hw2 : IntKind.u8.wrap (other x : Nat) = (other x : Nat) := by rw [IntKind.wrap_u8]; have := other_lt hx; omega
      clear hx
      go_wp2
      go_region_with (first | (go_at_call 117; refine (otherCase_any x _ hx3.out).mono ?_; rintro e w' ⟨rfl, rfl⟩) | (go_at_call 113; refine (with_any (foldTo t k) _ _ HS.out hx2.out).mono ?_; rintro e w' ⟨rfl, hb'⟩; have q := Box4.kept (W := wr.drew) HB.out hb' lb; obtain ⟨q0, q1, q2, q3⟩ := q.frozen; obtain ⟨r0, r1, r2, r3⟩ := q.cells))
      all_goals
        have HQ : Hid (Box4 w' p (foldTo t k)) := q
        have HQW : Hid (Below w.heap.size w w') := HW.out.drew.trans (hb'.mono HW.out.size)
        clear q hb' b0 b1 b2 b3 fb0 fb1 fb2 fb3
        go_wp2
        go_roundw
        case rel =>
          refine ⟨k + 1, by omega, by go_num, below_four HQW.out (by omega), ?_⟩
          have h1 := HQ.out.store (withB (foldTo t k) (other x))
          rw [hT.out, HX.out]
          exact h1
        case measure => simp [intOf]; omega
    · have hge : ¬ (k : Int) < (t.size : Int) := by omega
      obtain rfl : k = t.size := by omega
      go_wp2_with fail
      refine (class_any (foldTo t t.size) wr HS.out (HT.out.kept HW.out hp0) (by omega)).mono ?_
      rintro e w2 ⟨rfl, hb2⟩
      have HB2 : Hid (Below w.heap.size w w2) := HW.out.trans (hb2.mono HW.out.size)
      clear hb2
      go_wp2
      go_ret
      refine ⟨?_, HB2.out⟩
      show Ending.returned (.string (classT (inSet (foldTo t t.size)))) = _
      rw [classT_congr (fun i _ => fold_all t i)]
theorem implCFold_no (t : ByteArray) (w : World) (hs : t.size ≤ maxLen) (hr : ¬ RightC t) :
    Calls Tryd.prog 55 #[.string t] w fun e w' => e = .returned (.string ⟨#[]⟩) ∧ Below w.heap.size w w' := by
  have R1 : Hid (¬ RightC t) := hr
  clear hr
  go_enter Tryd.func55, Tryd.ntmps55
  go_wp2_with fail
  refine (setOfClass_any t _ hs).mono ?_
  rintro e w1 ⟨hb1, h⟩
  obtain ⟨_, rfl⟩ : ¬ RightC t ∧ e = .returned (.tuple #[setV (fun _ => 0), .bool false]) := by
    rcases h with h | h
    · exact absurd h.1 R1.out
    · exact h
  have B1 : Hid (Below w.heap.size w w1) := hb1
  clear hb1 h
  unfold setV
  go_wp2
  go_ret
  exact ⟨rfl, B1.out.alloc B1.out.size _⟩
end Go.Proofs.YtcppbddjboobhaaDoor
