/- What is proved here: the laws' marks over slices of int64: what they hand back and what they leave as it was. -/
import Derived.Test.YtbdjjggaahjjpaaQCCRowMToRowsD
namespace Go.Proofs.Ytbdjjggaahjjpaa
open Go.RowKit

set_option maxHeartbeats 1000000 in
theorem mark_own (g n cap : Nat) (f : Nat → Int) (k : Int) (w : World) (hn : n ≤ 1048576) (h0 : 0 ≤ k) (h1 : k ≤ 1099511627776) (ho : Own w g n f) :
    Calls Try.prog 47 #[.slice (some ⟨g, 0, none⟩) n cap, .int .i64 k] w fun e w' => e = .returned (.int .i64 (k + n)) ∧ w.grownBy w' (some g) ∧ Own w' g n (fun i => k + i) := by
  have HO : Hid (Own w g n f) := ho
  clear ho
  go_enter Try.func47, Try.ntmps47
  go_wp2
  go_loopw [1, 5] (fun kv i wr => ∃ j : Nat, j ≤ n ∧ kv = .int .i64 (k + j) ∧ i = .int .i64 (j : Int) ∧ w.grownBy wr (some g) ∧ Own wr g n (fun i => if i < j then k + i else f i)) (fun _ i _ => n - (intOf i).toNat)
  case atStart => exact ⟨0, Nat.zero_le _, by simp, rfl, World.grownBy.refl _ _, HO.out.congr (fun i _ => by simp)⟩
  case round =>
    obtain ⟨j, hj, rfl, rfl, hgr, hown⟩ := hrel
    have HG : Hid (w.grownBy wr (some g)) := hgr
    have HW : Hid (Own wr g n (fun i => if i < j then k + i else f i)) := hown
    by_cases hjl : j < n
    · have cy := hown.2.1 j hjl
      have cf := hown.2.2 j hjl
      have hsz := hown.1
      clear hgr hown
      have hji : (j : Int) < (n : Int) := by omega
      have hj0 : (0 : Int) ≤ (j : Int) := by omega
      go_wp2
      go_roundw
      case rel => exact ⟨j + 1, by omega, by go_num, by go_num, only_set HG.out, ((HW.out.set hjl (k + j)).congr (fun i hi => by
        by_cases e : i = j
        · subst e; simp
        · simp only [if_neg e]
          by_cases e2 : i < j
          · rw [if_pos e2, if_pos (by omega)]
          · rw [if_neg e2, if_neg (by omega)]))⟩
      case measure => simp [intOf]; omega
    · have hji : ¬ (j : Int) < (n : Int) := by omega
      obtain rfl : j = n := by omega
      clear hgr hown
      go_wp2
      go_ret
      exact ⟨rfl, HG.out, HW.out.congr (fun i hi => if_pos (by omega))⟩
theorem mark_none (sa : Option Addr) (cap : Nat) (k : Int) (w : World) :
    Calls Try.prog 47 #[.slice sa 0 cap, .int .i64 k] w fun e w' => e = .returned (.int .i64 k) ∧ w' = w := by
  go_enter Try.func47, Try.ntmps47
  go_wp2
  go_loopw [1, 5] (fun kv i wr => kv = .int .i64 k ∧ i = .int .i64 0 ∧ wr = w) (fun _ _ _ => 0)
  case atStart => exact ⟨rfl, rfl, rfl⟩
  case round =>
    obtain ⟨rfl, rfl, rfl⟩ := hrel
    go_wp2
    go_ret
    exact ⟨rfl, rfl⟩
theorem markRow_any (sa : Option Addr) (n cap lo : Nat) (f : Nat → Int) (k : Int) (w : World) (hn : n ≤ 1048576) (h0 : 0 ≤ k) (h1 : k ≤ 1099511627776) (ho : OwnS w lo sa n f) :
    Calls Try.prog 47 #[.slice sa n cap, .int .i64 k] w fun e w' => e = .returned (.int .i64 (k + n)) ∧ OnlyS w w' sa n ∧ OwnS w' lo sa n (fun i => k + i) := by
  rcases ho with rfl | ⟨g, rfl, hlo, ho⟩
  · refine (mark_none sa cap k w).mono ?_
    rintro e w' ⟨rfl, rfl⟩
    exact ⟨by simp, ⟨none, World.grownBy.refl _ _, fun _ h => by cases h⟩, Or.inl rfl⟩
  · rcases Nat.eq_zero_or_pos n with rfl | hp
    · refine (mark_none _ cap k w).mono ?_
      rintro e w' ⟨rfl, rfl⟩
      exact ⟨by simp, ⟨none, World.grownBy.refl _ _, fun _ h => by cases h⟩, Or.inl rfl⟩
    · refine (mark_own g n cap f k w hn h0 h1 ho).mono ?_
      rintro e w' ⟨rfl, hg, ho'⟩
      exact ⟨rfl, ⟨some g, hg, fun g' h => by cases h; exact ⟨hp, rfl⟩⟩, Or.inr ⟨g, rfl, hlo, ho'⟩⟩

set_option maxHeartbeats 1000000 in
theorem heldRow_any (sa : Option Addr) (n cap : Nat) (k : Int) (w : World) (hn : n ≤ 1048576) (h0 : 0 ≤ k) (h1 : k ≤ 1099511627776) (hr : Row w w.heap.size sa n (fun i => k + i)) :
    Calls Try.prog 49 #[.slice sa n cap, .int .i64 k] w fun e w' => e = .returned (.int .i64 (k + n)) ∧ Below w.heap.size w w' := by
  have HR : Hid (Row w w.heap.size sa n (fun i => k + i)) := hr
  clear hr
  go_enter Try.func49, Try.ntmps49
  go_wp2
  go_loopw [1, 5] (fun kv i wr => ∃ j : Nat, j ≤ n ∧ kv = .int .i64 (k + j) ∧ i = .int .i64 (j : Int) ∧ Below w.heap.size w wr) (fun _ i _ => n - (intOf i).toNat)
  case atStart => exact ⟨0, Nat.zero_le _, by simp, rfl, Below.refl _ _⟩
  case round =>
    obtain ⟨j, hj, rfl, rfl, hbel⟩ := hrel
    have HW : Hid (Below w.heap.size w wr) := hbel
    by_cases hjl : j < n
    · obtain ⟨ba, oa, rfl, hba, hca⟩ : ∃ bb off : Nat, sa = some ⟨bb, off, none⟩ ∧ bb < w.heap.size ∧ ∀ i, i < n → w.cell? ⟨bb, off + i, none⟩ = some (.int .i64 (k + i)) := by
        rcases HR.out with h | h
        · omega
        · exact h
      have cz : wr.cell? ⟨ba, oa + j, none⟩ = some (.int .i64 (k + j)) := by rw [hbel.cell (p := ⟨ba, oa + j, none⟩) hba]; exact hca j hjl
      clear hca hbel
      have hji : (j : Int) < (n : Int) := by omega
      have hj0 : (0 : Int) ≤ (j : Int) := by omega
      go_wp2
      go_roundw
      case rel => exact ⟨j + 1, by omega, by go_num, by go_num, HW.out⟩
      case measure => simp [intOf]; omega
    · have hji : ¬ (j : Int) < (n : Int) := by omega
      obtain rfl : j = n := by omega
      clear hbel
      go_wp2
      go_ret
      exact ⟨rfl, HW.out⟩
end Go.Proofs.Ytbdjjggaahjjpaa
