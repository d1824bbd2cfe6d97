/- What is proved here: the program's ClassHas says whether a byte is in a right class; nothing that was there turns. -/
import Derived.Test.YtcppbddjboobhaaDoorSetOfW
import Derived.Test.YtcppbddjboobhaaDoorIsByteW
import Derived.Test.YtcppbddjboobhaaDoorSpecCHasW
import Derived.Deep.RegionWith
import Derived.Laws.StructEq
namespace Go.Proofs.YtcppbddjboobhaaDoor
open Go.RowKit

theorem eq4 (a0 a1 a2 a3 b0 b1 b2 b3 : Int) (w : World) : (Op.equalIn 10000 90 (.agg #[.int .u64 a0, .int .u64 a1, .int .u64 a2, .int .u64 a3]) (.agg #[.int .u64 b0, .int .u64 b1, .int .u64 b2, .int .u64 b3])).run Tryd.prog w = .ok (a0 == b0 && a1 == b1 && a2 == b2 && a3 == b3) w := by
  have u3 := Tryd.underlying60
  have a3' := Tryd.isAgg60
  have z3 := Tryd.sizeOf60
  rw [show (10000 : Nat) = 9999 + 1 from rfl, Op.equalIn]
  simp only [Sem.run_bind, run_underlying Tryd.underlying90, Result.andThen_ok]
  simp only [Std.Legacy.Range.forIn_eq_forIn_range', Std.Legacy.Range.size, Nat.sub_zero, Nat.add_sub_cancel, Nat.div_one, List.range'_succ, List.range'_zero, List.forIn_cons, List.forIn_nil]
  go_simp
  by_cases h1 : a0 = b0 <;> by_cases h2 : a1 = b1 <;> by_cases h3 : a2 = b2 <;> by_cases h4 : a3 = b3 <;> simp [h1, h2, h3, h4]
/-- A set and the set with a byte are the same just if the byte is in it. -/
theorem eqWith (f : Nat → Nat) (k : Nat) (hk : k < 256) (w : World) : (Op.equalIn 10000 90 (.agg #[.int .u64 (f 0 : Nat), .int .u64 (f 1 : Nat), .int .u64 (f 2 : Nat), .int .u64 (f 3 : Nat)]) (.agg #[.int .u64 ((withB f k) 0 : Nat), .int .u64 ((withB f k) 1 : Nat), .int .u64 ((withB f k) 2 : Nat), .int .u64 ((withB f k) 3 : Nat)])).run Tryd.prog w = .ok (inSet f k) w := by
  rw [eq4]
  congr 1
  have h4 : k / 64 = 0 ∨ k / 64 = 1 ∨ k / 64 = 2 ∨ k / 64 = 3 := by omega
  have key := withB_same f k
  have cast : ∀ a b : Nat, ((a : Int) == (b : Int)) = decide (a = b) := fun a b => by
    by_cases h : a = b
    · subst h; simp
    · rw [decide_eq_false h]; simp; omega
  rw [cast, cast, cast, cast]
  have off : ∀ j, j ≠ k / 64 → decide (f j = withB f k j) = true := fun j hj => by rw [withB_off hj]; simp
  have at' : decide (f (k / 64) = withB f k (k / 64)) = inSet f k := by
    rw [withB_at]
    cases h : inSet f k
    · apply decide_eq_false
      intro e
      have := key.1 e.symm
      rw [h] at this
      cases this
    · exact decide_eq_true (key.2 h).symm
  rcases h4 with h | h | h | h
  · rw [h] at at' off
    rw [at', off 1 (by decide), off 2 (by decide), off 3 (by decide)]
    simp
  · rw [h] at at' off
    rw [at', off 0 (by decide), off 2 (by decide), off 3 (by decide)]
    simp
  · rw [h] at at' off
    rw [at', off 0 (by decide), off 1 (by decide), off 3 (by decide)]
    simp
  · rw [h] at at' off
    rw [at', off 0 (by decide), off 1 (by decide), off 2 (by decide)]
    simp

open Classical in
set_option maxRecDepth 100000 in
set_option maxHeartbeats 4000000 in
theorem implCHas_any (c : ByteArray) (b : Int) (w : World) (hc : c.size ≤ maxLen) :
    Calls Tryd.prog 64 #[.string c, .int .i64 b] w fun e w' => e = .returned (.bool (decide (HasC c b))) ∧ Below w.heap.size w w' := by
  go_enter Tryd.func64, Tryd.ntmps64
  go_wp2_with fail
  refine (setOfClass_any c _ hc).mono ?_
  rintro e w1 ⟨hb1, h⟩
  have B1 : Hid (Below w.heap.size w w1) := hb1
  clear hb1
  rcases h with ⟨h, rfl⟩ | ⟨h, rfl⟩
  · have R1 : Hid (RightC c) := h
    have F4 : Hid (Set4 (setOf c)) := setOf_set c
    clear h
    unfold setV
    by_cases hb : 0 ≤ b ∧ b ≤ 255
    · obtain ⟨k, rfl⟩ := Int.eq_ofNat_of_zero_le hb.1
      have HK : Hid (0 ≤ (k : Int) ∧ (k : Int) ≤ 255) := hb
      have hk : k < 256 := by omega
      have hkw : IntKind.u8.wrap (k : Int) = k := by rw [IntKind.wrap_u8]; omega
      clear hb
      have hq : ∀ W, (Op.equalIn 10000 90 (.agg #[.int .u64 ((setOf c) 0 : Nat), .int .u64 ((setOf c) 1 : Nat), .int .u64 ((setOf c) 2 : Nat), .int .u64 ((setOf c) 3 : Nat)]) (.agg #[.int .u64 ((withB (setOf c) k) 0 : Nat), .int .u64 ((withB (setOf c) k) 1 : Nat), .int .u64 ((withB (setOf c) k) 2 : Nat), .int .u64 ((withB (setOf c) k) 3 : Nat)])).run Tryd.prog W = .ok (hasByte c k) W := fun W => by rw [eqWith _ _ hk, inSet_of]
      go_wp2_with fail
      generalize hv : w1.alloc (.cells #[.int .u64 (setOf c 0 : Nat), .int .u64 (setOf c 1 : Nat), .int .u64 (setOf c 2 : Nat), .int .u64 (setOf c 3 : Nat)] 90) = v1
      have Y1 : Hid (Box4 v1 w1.heap.size (setOf c)) := by rw [← hv]; exact Box4.new w1 (setOf c)
      have V1 : Hid (Below w.heap.size w v1) := by rw [← hv]; exact B1.out.alloc B1.out.size _
      obtain ⟨b0, b1, b2, b3⟩ := Y1.out.cells
      have lb := Y1.out.lt
      clear hv
      generalize w1.heap.size = p at *
      clear B1 w1
      go_region_with (first | (go_at_call 115; refine (isByte_yes _ _ HK.out.1 HK.out.2).mono ?_; rintro e w' ⟨rfl, rfl⟩) | (go_at_call 113; refine (with_any (setOf c) _ _ F4.out hk).mono ?_; rintro e w' ⟨rfl, hb'⟩; have q := Box4.kept (W := v1.drew) Y1.out hb' lb; obtain ⟨r0, r1, r2, r3⟩ := q.cells))
      all_goals
        have HQW : Hid (Below w.heap.size w w') := V1.out.drew.trans (hb'.mono V1.out.size)
        clear q hb'
        go_wp2
        go_ret
        refine ⟨?_, HQW.out⟩
        show Ending.returned (.bool (hasByte c k)) = _
        congr 2
        unfold HasC
        rw [Int.toNat_natCast]
        cases hh : hasByte c k
        · simp
        · simp [R1.out, HK.out.1, HK.out.2]
    · have HK : Hid (¬ (0 ≤ b ∧ b ≤ 255)) := hb
      clear hb
      go_wp2_with fail
      have V1 : Hid (Below w.heap.size w (w1.alloc (.cells #[.int .u64 (setOf c 0 : Nat), .int .u64 (setOf c 1 : Nat), .int .u64 (setOf c 2 : Nat), .int .u64 (setOf c 3 : Nat)] 90))) := B1.out.alloc B1.out.size _
      go_quiet (first | (go_at_call 115; exact Calls.quiet_of_same (isByte_no _ _ HK.out)))
      go_wp2
      go_ret
      refine ⟨?_, below_drewC _ V1.out⟩
      rw [decide_eq_false (fun h2 => HK.out ⟨h2.2.1, h2.2.2.1⟩)]
      rfl
  · have R1 : Hid (¬ RightC c) := h
    clear h
    unfold setV
    go_wp2_with fail
    have V1 : Hid (Below w.heap.size w (w1.alloc (.cells #[.int .u64 0, .int .u64 0, .int .u64 0, .int .u64 0] 90))) := B1.out.alloc B1.out.size _
    go_quiet (fail)
    go_wp2
    go_ret
    refine ⟨?_, below_drewC _ V1.out⟩
    rw [decide_eq_false (fun h2 => R1.out h2.1)]
    rfl
end Go.Proofs.YtcppbddjboobhaaDoor
