/- What is proved here: the specification's l03Has says whether a byte is in a text; the world stays.
   What is proved here: the specification's l02Is says whether a number is in a span; the world stays. -/
import Derived.Test.YtbdjjggaahjjpaaQClassMToAtPM
import Derived.WalkSpells
import Derived.RegionTactic
import Derived.BigRegion
import Derived.Test.YtbdjjggaahjjpaaProg
import Derived.WalkKit
namespace Go.Proofs.Ytbdjjggaahjjpaa
open Go.RowKit

theorem has_found {t : ByteArray} {k b : Nat} (h : k < t.size) (hc : t[k].toNat = b) : hasByte t b = true := by
  unfold hasByte
  rw [List.any_eq_true]
  exact ⟨t.data.toList[k]'(by simpa using h), List.getElem_mem _, by rw [beq_iff_eq]; exact hc⟩
set_option maxRecDepth 100000 in
set_option maxHeartbeats 2000000 in
theorem l03Has_any (t : ByteArray) (b : Nat) (w : World) (hs : t.size ≤ maxLen) :
    Calls Try.prog 85 #[.string t, .int .u8 (b : Int)] w fun e w' => e = .returned (.bool (hasByte t b)) ∧ w' = w := by
  unfold maxLen at hs
  go_enter Try.func85, Try.ntmps85
  go_wp2
  go_loop [5] (fun i => ∃ k : Nat, k ≤ t.size ∧ i = .int .i64 (k : Int) ∧ hasUpTo t k b = false) (fun i => t.size - (intOf i).toNat)
  case atStart => exact ⟨0, Nat.zero_le _, rfl, hasUpTo_zero t b⟩
  case round =>
    obtain ⟨k, hk, rfl, hno⟩ := hrel
    have HN : Hid (hasUpTo t k b = false) := hno
    clear hno
    by_cases hlt : k < t.size
    · have hlt' : (k : Int) < (t.size : Int) := by omega
      have HS : Hid (hasUpTo t (k + 1) b = (hasUpTo t k b || (t[k].toNat == b))) := hasUpTo_succ t k b hlt
      by_cases hc : t[k].toNat = b
      · have HC : Hid (hasByte t b = true) := has_found hlt hc
        have hc' : ((t[k].toNat : Int) == (b : Int)) = true := by rw [hc]; simp
        clear hc
        go_wp2
        go_ret
        exact ⟨by rw [HC.out]; rfl, rfl⟩
      · have HC : Hid (hasUpTo t (k + 1) b = false) := by
          show hasUpTo t (k + 1) b = false
          rw [HS.out, HN.out]
          simp [hc]
        have hc' : ((t[k].toNat : Int) == (b : Int)) = false := by simp; omega
        clear hc
        go_wp2
        go_round
        case rel => exact ⟨k + 1, by omega, by go_num, HC.out⟩
        case measure => simp [intOf]; omega
    · have hge : ¬ (k : Int) < (t.size : Int) := by omega
      obtain rfl : k = t.size := by omega
      go_wp2
      go_ret
      exact ⟨by rw [← hasUpTo_all, HN.out]; rfl, rfl⟩
end Go.Proofs.Ytbdjjggaahjjpaa
namespace Go.Proofs.Ytbdjjggaahjjpaa
open Go.RowKit

theorem is_any (x lo hi : Int) (w : World) :
    Calls Try.prog 60 #[.int .i64 x, .int .i64 lo, .int .i64 hi] w fun e w' => e = .returned (.bool (decide (lo ≤ x) && decide (x ≤ hi))) ∧ w' = w := by
  by_cases h : lo ≤ x
  · go_enter Try.func60, Try.ntmps60
    go_wp2
    go_ret
    exact ⟨by simp [h], rfl⟩
  · go_enter Try.func60, Try.ntmps60
    go_wp2
    go_ret
    exact ⟨by simp; omega, rfl⟩
theorem is_yes (x lo hi : Int) (w : World) (h0 : lo ≤ x) (h1 : x ≤ hi) :
    Calls Try.prog 60 #[.int .i64 x, .int .i64 lo, .int .i64 hi] w fun e w' => e = .returned (.bool true) ∧ w' = w :=
  (is_any x lo hi w).mono fun _ _ h => ⟨by rw [h.1]; simp [h0, h1], h.2⟩
theorem is_no (x lo hi : Int) (w : World) (h : ¬ (lo ≤ x ∧ x ≤ hi)) :
    Calls Try.prog 60 #[.int .i64 x, .int .i64 lo, .int .i64 hi] w fun e w' => e = .returned (.bool false) ∧ w' = w :=
  (is_any x lo hi w).mono fun _ _ k => ⟨by
    rw [k.1]
    have e : (decide (lo ≤ x) && decide (x ≤ hi)) = false := by simp; omega
    rw [e], k.2⟩
end Go.Proofs.Ytbdjjggaahjjpaa
