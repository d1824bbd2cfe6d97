/- What is proved here: the program's ClassOf hands back the class of a text's bytes, or nothing; nothing that was there turns. -/
import Derived.Test.YtcppbddjboobhaaDoorSetBoxM
import Derived.Test.YtcppbddjboobhaaDoorClassW
import Derived.Deep.RegionWith
namespace Go.Proofs.YtcppbddjboobhaaDoor
open Go.RowKit

set_option maxRecDepth 100000 in
set_option maxHeartbeats 2000000 in
theorem implCOf_yes (t : ByteArray) (w : World) (hs : t.size ≤ 8000) (hT : Tab64 w) (hp0 : 2 < w.heap.size) :
    Calls Tryd.prog 53 #[.string t] w fun e w' => e = .returned (.string (classT (hasByte t))) ∧ Below w.heap.size w w' := by
  have hs2 : ¬ 8000 < (t.size : Int) := by omega
  have HT : Hid (Tab64 w) := hT
  clear hT
  go_enter Tryd.func53, Tryd.ntmps53
  go_wp2
  go_loopw [4] (fun i wr => ∃ k : Nat, k ≤ t.size ∧ i = .int .i64 (k : Int) ∧ Below w.heap.size w wr ∧ Box4 wr w.heap.size (setTo t k)) (fun i _ => t.size - (intOf i).toNat)
  case atStart =>
    refine ⟨0, Nat.zero_le _, rfl, (Below.refl _ _).alloc (Nat.le_refl _) _, ?_⟩
    rw [setTo_zero]
    exact Box4.new w (fun _ => 0)
  case round =>
    obtain ⟨k, hk, rfl, hbel, hB⟩ := hrel
    have HW : Hid (Below w.heap.size w wr) := hbel
    have HB : Hid (Box4 wr w.heap.size (setTo t k)) := hB
    have HS : Hid (Set4 (setTo t k)) := setTo_set t k hk
    obtain ⟨b0, b1, b2, b3⟩ := hB.cells
    obtain ⟨fb0, fb1, fb2, fb3⟩ := hB.frozen
    have lb := hB.lt
    clear hbel hB
    by_cases hlt : k < t.size
    · have hlt' : (k : Int) < (t.size : Int) := by omega
      have hT : Hid (setTo t (k + 1) = withB (setTo t k) t[k].toNat) := setTo_succ t k hlt
      have hx : Hid (t[k].toNat < 256) := t[k].toNat_lt
      go_wp2
      go_region_with (first | (go_at_call 113; refine (with_any (setTo t k) _ _ HS.out hx.out).mono ?_; rintro e w' ⟨rfl, hb'⟩; have q := Box4.kept (W := wr.drew) HB.out hb' lb; obtain ⟨q0, q1, q2, q3⟩ := q.frozen; obtain ⟨r0, r1, r2, r3⟩ := q.cells))
      all_goals
        have HQ : Hid (Box4 w' w.heap.size (setTo t k)) := q
        have HQW : Hid (Below w.heap.size w w') := HW.out.drew.trans (hb'.mono HW.out.size)
        clear q hb' b0 b1 b2 b3 fb0 fb1 fb2 fb3
        go_wp2
        go_roundw
        case rel =>
          refine ⟨k + 1, by omega, by go_num, below_four HQW.out (Nat.le_refl _), ?_⟩
          have h1 := HQ.out.store (withB (setTo t k) t[k].toNat)
          rw [hT.out]
          exact h1
        case measure => simp [intOf]; omega
    · have hge : ¬ (k : Int) < (t.size : Int) := by omega
      obtain rfl : k = t.size := by omega
      go_wp2_with fail
      refine (class_any (setTo t t.size) wr HS.out (HT.out.kept HW.out hp0) (by omega)).mono ?_
      rintro e w2 ⟨rfl, hb2⟩
      have HB2 : Hid (Below w.heap.size w w2) := HW.out.trans (hb2.mono HW.out.size)
      clear hb2
      go_wp2
      go_ret
      refine ⟨?_, HB2.out⟩
      show Ending.returned (.string (classT (inSet (setOf t)))) = _
      rw [classT_congr (fun i _ => inSet_of t i)]
theorem implCOf_no (t : ByteArray) (w : World) (hm : t.size ≤ maxLen) (hs : 8000 < t.size) :
    Calls Tryd.prog 53 #[.string t] w fun e w' => e = .returned (.string ⟨#[]⟩) ∧ w' = w := by
  unfold maxLen at hm
  have hs2 : 8000 < (t.size : Int) := by omega
  go_enter Tryd.func53, Tryd.ntmps53
  go_wp2
  go_ret
  exact ⟨rfl, rfl⟩
end Go.Proofs.YtcppbddjboobhaaDoor
