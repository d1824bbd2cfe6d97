/- What is proved here: impl.codeOf hands back 0 of a nil error and the code of a fault, in new memory alone; impl.withSign turns a number's fold back. The condition of the second: the variable errors.errorType holds what the program's text lays there. -/
import Derived.Test.YtpdedggnjcnpgaaDoorAsW
import Derived.Laws.BitsAllLaws
namespace Go.Proofs.YtpdedggnjcnpgaaDoor
open Go.RowKit

theorem codeOf_nil (w : World) :
    Calls Tryd.prog 17 #[.nilIface] w fun e w' => e = .returned (.int .i64 0) ∧ Below w.heap.size w w' := by
  go_enter Tryd.func17, Tryd.ntmps17
  go_wp2_with (go_at_call 26; refine (as_nil _ _).mono ?_; rintro e w' ⟨rfl, rfl⟩)
  go_ret
  exact ⟨rfl, (Below.refl _ _).alloc (Nat.le_refl _) _⟩

set_option maxHeartbeats 1000000 in
theorem codeOf_hit (c : Int) (w : World) (hg : w.cell? ⟨0, 0, none⟩ = some (.iface 74 (.agg #[.pointer (some ⟨1, 41, none⟩)]))) :
    Calls Tryd.prog 17 #[.iface 53 (.agg #[.int .i64 c])] w fun e w' => e = .returned (.int .i64 c) ∧ Below w.heap.size w w' := by
  have hlt : 0 < w.heap.size := by
    rcases Nat.eq_zero_or_pos w.heap.size with h0 | h
    · simp [World.cell?, h0] at hg
    · exact h
  have hgA : (w.alloc (.cells #[.int .i64 0] 53)).cell? ⟨0, 0, none⟩ = some (.iface 74 (.agg #[.pointer (some ⟨1, 41, none⟩)])) := by
    rw [World.cell?_alloc_lt _ _ ⟨0, 0, none⟩ hlt]; exact hg
  have htA : (w.alloc (.cells #[.int .i64 0] 53)).cell? ⟨w.heap.size, 0, none⟩ = some (.int .i64 0) := by simp
  have hfA : (w.alloc (.cells #[.int .i64 0] 53)).frozen? ⟨w.heap.size, 0, none⟩ = false := by simp
  go_enter Tryd.func17, Tryd.ntmps17
  go_wp2_with fail
  refine (as_hit _ _ (.int .i64 0) _ hgA htA hfA).mono ?_
  rintro e w1 ⟨rfl, hw⟩
  have hbel : Below w.heap.size w w1 := by
    rw [hw]
    refine Below.setCell (B := w.heap.size) (p := ⟨w.heap.size, 0, none⟩) ?_ (Nat.le_refl _) _
    refine Below.alloc (Below.alloc (Below.alloc (Below.alloc ((Below.refl _ _).alloc (Nat.le_refl _) _) ?_ _) ?_ _) ?_ _) ?_ _ <;> simp <;> omega
  have hc : w1.cell? ⟨w.heap.size, 0, none⟩ = some (.int .i64 c) := by
    rw [hw]
    refine World.cell?_setCell_same _ _ _ (u := Value.int .i64 0) ?_
    rw [World.cell?_alloc_lt _ _ ⟨w.heap.size, 0, none⟩ (by simp; omega), World.cell?_alloc_lt _ _ ⟨w.heap.size, 0, none⟩ (by simp; omega), World.cell?_alloc_lt _ _ ⟨w.heap.size, 0, none⟩ (by simp; omega), World.cell?_alloc_lt _ _ ⟨w.heap.size, 0, none⟩ (by simp)]
    exact htA
  clear hw
  have HB : Hid (Below w.heap.size w w1) := hbel
  clear hbel hgA htA hfA hg
  go_wp2
  go_ret
  exact ⟨rfl, HB.out⟩

/-- The sign back. -/
def unfoldOf (u : Int) : Int := if u % 2 = 1 then -(u / 2) - 1 else u / 2

theorem not64u (x : Int) (h0 : 0 ≤ x) (h1 : x ≤ 18446744073709551615) : bits .xor .u64 IntKind.u64.max x = 18446744073709551615 - x := by
  obtain ⟨a, rfl⟩ := Int.eq_ofNat_of_zero_le h0
  show IntKind.u64.wrap ((BitVec.ofInt 64 18446744073709551615 ^^^ BitVec.ofInt 64 (a : Int)).toNat : Int) = _
  have h2 : BitVec.ofInt 64 18446744073709551615 = BitVec.allOnes 64 := by decide
  rw [h2, BitVec.allOnes_xor, BitVec.toNat_not, ofInt_u64 a (by omega), IntKind.wrap_u64]
  omega
theorem and_one (u : Int) (h0 : 0 ≤ u) (h1 : u ≤ 18446744073709551615) : bits .and .u64 u 1 = u % 2 := by
  rw [u64_and u 1 h0 (by omega) (by decide) (by decide)]
  show ((u.toNat &&& 1 : Nat) : Int) = _
  rw [nat_mask1]
  omega
theorem sign_yes (u : Int) (h0 : 0 ≤ u) (h1 : u ≤ 18446744073709551615) (h : u % 2 = 1) : wrap64 (bits .xor .u64 IntKind.u64.max (u / 2)) = unfoldOf u := by
  rw [not64u _ (by omega) (by omega)]
  unfold wrap64 unfoldOf
  rw [if_pos h]
  omega
theorem sign_no (u : Int) (h : ¬ u % 2 = 1) : u / 2 = unfoldOf u := by
  unfold unfoldOf
  rw [if_neg h]
theorem ret_i {k : IntKind} {a b : Int} (h : a = b) : Ending.returned (.int k a) = .returned (.int k b) := by rw [h]

set_option maxHeartbeats 1000000 in
theorem withSign_any (u : Int) (w : World) (h0 : 0 ≤ u) (h1 : u ≤ 18446744073709551615) :
    Calls Tryd.prog 25 #[.int .u64 u] w fun e w' => e = .returned (.int .i64 (unfoldOf u)) ∧ w' = w := by
  have hb := and_one u h0 h1
  by_cases hu : u % 2 = 1
  · have h : (bits .and .u64 u 1 == 1) = true := by rw [hb, hu]; rfl
    have HU : Hid (u % 2 = 1) := hu
    clear hb hu
    go_enter Tryd.func25, Tryd.ntmps25
    go_wp2
    go_ret
    exact ⟨ret_i (sign_yes u h0 h1 HU.out), rfl⟩
  · have hf : (bits .and .u64 u 1 == 1) = false := by rw [hb]; simpa using hu
    have HU : Hid (¬ u % 2 = 1) := hu
    clear hb hu
    go_enter Tryd.func25, Tryd.ntmps25
    go_wp2
    go_ret
    exact ⟨ret_i (sign_no u HU.out), rfl⟩
end Go.Proofs.YtpdedggnjcnpgaaDoor
