/- What is proved here: the program's setOfClass hands back the set of a right class, or tells that it is not right; nothing that was there turns. -/
import Derived.Test.YtbdjjggaahjjpaaQSetBoxM
import Derived.Deep.RegionWith
namespace Go.Proofs.Ytbdjjggaahjjpaa
open Go.RowKit

/-- What setOfClass hands back. -/
def SetGot (w : World) (t : ByteArray) (e : Ending) (w' : World) : Prop := Below w.heap.size w w' ∧ ((RightC t ∧ e = .returned (.tuple #[setV (setOf t), .bool true])) ∨ (¬ RightC t ∧ e = .returned (.tuple #[setV (fun _ => 0), .bool false])))
theorem box4_zero {W : World} {p : Nat} (h : Box4 W p (fun _ => 0)) : W.cell? ⟨p, 0, none⟩ = some (.int .u64 0) ∧ W.cell? ⟨p, 1, none⟩ = some (.int .u64 0) ∧ W.cell? ⟨p, 2, none⟩ = some (.int .u64 0) ∧ W.cell? ⟨p, 3, none⟩ = some (.int .u64 0) := h.cells
set_option maxRecDepth 100000 in
set_option maxHeartbeats 2000000 in
theorem setOfClass_any (t : ByteArray) (w : World) (hs : t.size ≤ maxLen) :
    Calls Try.prog 99 #[.string t] w fun e w' => SetGot w t e w' := by
  unfold maxLen at hs
  go_enter Try.func99, Try.ntmps99
  go_wp2
  go_loopw [5] (fun i wr => ∃ k : Nat, k ≤ t.size ∧ i = .int .i64 (k : Int) ∧ Below w.heap.size w wr ∧ Box4 wr w.heap.size (fun _ => 0) ∧ Box4 wr (w.heap.size + 1) (setTo t k) ∧ RightTo t k) (fun i _ => t.size - (intOf i).toNat)
  case atStart => 
    refine ⟨0, Nat.zero_le _, rfl, ((Below.refl _ _).alloc (Nat.le_refl _) _).alloc (by simp) _, (Box4.new w (fun _ => 0)).alloc _, ?_, fun i hi h => by omega⟩
    rw [setTo_zero]
    have := Box4.new (w.alloc (.cells #[.int .u64 ((0 : Nat) : Int), .int .u64 ((0 : Nat) : Int), .int .u64 ((0 : Nat) : Int), .int .u64 ((0 : Nat) : Int)] 129)) (fun _ => 0)
    simpa using this
  case round =>
    obtain ⟨k, hk, rfl, hbel, hA, hB, hR⟩ := hrel
    have HW : Hid (Below w.heap.size w wr) := hbel
    have HA : Hid (Box4 wr w.heap.size (fun _ => 0)) := hA
    have HB : Hid (Box4 wr (w.heap.size + 1) (setTo t k)) := hB
    have HR : Hid (RightTo t k) := hR
    have HS : Hid (Set4 (setTo t k)) := setTo_set t k hk
    obtain ⟨a0, a1, a2, a3⟩ := box4_zero hA
    obtain ⟨fa0, fa1, fa2, fa3⟩ := hA.frozen
    obtain ⟨b0, b1, b2, b3⟩ := hB.cells
    obtain ⟨fb0, fb1, fb2, fb3⟩ := hB.frozen
    have lb := hB.lt
    clear hbel hA hB hR
    by_cases hlt : k < t.size
    · have hlt' : (k : Int) < (t.size : Int) := by omega
      have hT : Hid (setTo t (k + 1) = withB (setTo t k) t[k].toNat) := setTo_succ t k hlt
      have hx : Hid (t[k].toNat < 256) := t[k].toNat_lt
      by_cases hk0 : k = 0
      · subst hk0
        have HR1 : Hid (RightTo t (0 + 1)) := fun i hi h => by omega
        clear hlt'
        have hlt' : (0 : Int) < (t.size : Int) := by omega
        go_wp2
        go_quiet (fail)
        go_wp2
        go_region_with (first | (go_at_call 102; refine (with_any (setTo t 0) _ _ HS.out hx.out).mono ?_; rintro e w' ⟨rfl, hb'⟩; have q := HB.out.call hb' rfl; obtain ⟨q0, q1, q2, q3⟩ := q.frozen; obtain ⟨r0, r1, r2, r3⟩ := q.cells))
        all_goals
          have HQ : Hid (Box4 w' (w.heap.size + 1) (setTo t 0)) := q
          have HQA : Hid (Box4 w' w.heap.size (fun _ => 0)) := HA.out.call hb' rfl
          have HQW : Hid (Below w.heap.size w w') := below_call HW.out hb' rfl
          clear q hb' a0 a1 a2 a3 b0 b1 b2 b3 fa0 fa1 fa2 fa3 fb0 fb1 fb2 fb3
          go_wp2
          go_roundw
          case rel =>
            refine ⟨1, by omega, by go_num, below_four HQW.out (by omega), HQA.out.others _ _ _ _ (by omega), ?_, HR1.out⟩
            have h1 := HQ.out.store (withB (setTo t 0) t[0].toNat)
            rw [← hT.out] at h1
            rw [hT.out] at h1 ⊢
            exact h1
          case measure => simp [intOf]; omega
      · obtain ⟨j, hj⟩ : ∃ j, k = j + 1 := ⟨k - 1, by omega⟩
        have HJ : Hid (k = j + 1) := hj
        have hlt2 : (j : Int) < (t.size : Int) := by omega
        have hlt3 : j < t.size := by omega
        have hj0 : (0 : Int) ≤ (j : Int) := by omega
        have hkn : 0 < k := by omega
        have hk00 : (0 : Int) ≤ (k : Int) := by omega
        have wj : IntKind.i64.wrap ((k : Int) - 1) = j := by rw [IntKind.wrap_i64]; omega
        have wj2 : IntKind.i64.wrap (j : Int) = j := by rw [IntKind.wrap_i64]; omega
        have wj3 : (k : Int) - 1 = (j : Int) := by omega
        clear hj hk0
        by_cases hc : t[j].toNat < t[k].toNat
        · have HC : Hid (RightTo t (k + 1)) := right_step HJ.out hlt HR.out hc
          have hc' : ¬ ((t[k].toNat : Int) ≤ (t[j].toNat : Int)) := by omega
          clear hc
          go_wp2
          go_quiet (fail)
          go_wp2
          go_region_with (first | (go_at_call 102; refine (with_any (setTo t k) _ _ HS.out hx.out).mono ?_; rintro e w' ⟨rfl, hb'⟩; have q := HB.out.call hb' rfl; obtain ⟨q0, q1, q2, q3⟩ := q.frozen; obtain ⟨r0, r1, r2, r3⟩ := q.cells))
          all_goals
            have HQ : Hid (Box4 w' (w.heap.size + 1) (setTo t k)) := q
            have HQA : Hid (Box4 w' w.heap.size (fun _ => 0)) := HA.out.call hb' rfl
            have HQW : Hid (Below w.heap.size w w') := below_call HW.out hb' rfl
            clear q hb' a0 a1 a2 a3 b0 b1 b2 b3 fa0 fa1 fa2 fa3 fb0 fb1 fb2 fb3
            go_wp2
            go_roundw
            case rel =>
              refine ⟨k + 1, by omega, by go_num, below_four HQW.out (by omega), HQA.out.others _ _ _ _ (by omega), ?_, HC.out⟩
              have h1 := HQ.out.store (withB (setTo t k) t[k].toNat)
              rw [hT.out]
              exact h1
            case measure => simp [intOf]; omega
        · have HC : Hid (¬ RightC t) := right_bad HJ.out hlt hc
          have hc' : (t[k].toNat : Int) ≤ (t[j].toNat : Int) := by omega
          clear hc
          go_wp2
          go_quiet (fail)
          go_wp2
          refine bodyPost_ret (v := .tuple #[.agg #[.int .u64 0, .int .u64 0, .int .u64 0, .int .u64 0], .bool false]) (by simp [results, Try.results99, go_sem, a0, a1, a2, a3]) rfl ?_
          exact ⟨below_four (below_drewC _ HW.out) (Nat.le_refl _), Or.inr ⟨HC.out, rfl⟩⟩
    · have hge : ¬ (k : Int) < (t.size : Int) := by omega
      have HC : Hid (RightC t) := fun i hi => HR.out i hi (by omega)
      obtain rfl : k = t.size := by omega
      go_wp2
      refine bodyPost_ret (v := .tuple #[.agg #[.int .u64 ((setTo t t.size) 0 : Nat), .int .u64 ((setTo t t.size) 1 : Nat), .int .u64 ((setTo t t.size) 2 : Nat), .int .u64 ((setTo t t.size) 3 : Nat)], .bool true]) (by simp [results, Try.results99, go_sem, a0, a1, a2, a3]) rfl ?_
      exact ⟨below_four HW.out (Nat.le_refl _), Or.inl ⟨HC.out, rfl⟩⟩
end Go.Proofs.Ytbdjjggaahjjpaa
