/- What is proved here: the laws' marks over slices of cells are laid: what is handed back and what they leave as it was. -/
import Derived.Test.YtbdjjggaahjjpaaQCellSToMarkTextW
import Derived.Deep.RegionWith
namespace Go.Proofs.Ytbdjjggaahjjpaa
open Go.RowKit

/-- A marked cell. -/
def markC (i : Nat) : Cel := ⟨mtext (1 + i * 3), false, true⟩
theorem only_setMC {a w : World} {b i : Nat} {v : Value} (h : a.grownBy w (some b)) : a.grownBy (w.setCell ⟨b, i, none⟩ v) (some b) :=
  h.trans ⟨rfl, rfl, rfl, by simp [World.setCell], fun k _ hk => Below.heap_setCell _ _ _ _ (fun e => hk (by simp [e]))⟩

set_option maxRecDepth 100000 in
set_option maxHeartbeats 2000000 in
theorem markCells_own (g n cap : Nat) (f : Nat → Cel) (w : World) (hn : n ≤ 1048576) (ho : COwn w g n f) :
    Calls Try.prog 46 #[.slice (some ⟨g, 0, none⟩) n cap, .int .i64 1] w fun e w' => e = .returned (.int .i64 ((1 + n * 3 : Nat) : Int)) ∧ w.grownBy w' (some g) ∧ COwn w' g n markC := by
  have HO : Hid (COwn w g n f) := ho
  clear ho
  go_enter Try.func46, Try.ntmps46
  go_wp2
  go_loopw [1, 5] (fun kv i wr => ∃ j : Nat, j ≤ n ∧ kv = .int .i64 ((1 + j * 3 : Nat) : Int) ∧ i = .int .i64 (j : Int) ∧ w.grownBy wr (some g) ∧ COwn wr g n (fun i => if i < j then markC i else f i)) (fun _ i _ => n - (intOf i).toNat)
  case atStart => exact ⟨0, Nat.zero_le _, rfl, rfl, World.grownBy.refl _ _, HO.out.congr (fun i _ => by simp)⟩
  case round =>
    obtain ⟨j, hj, rfl, rfl, hgr, hown⟩ := hrel
    have HG : Hid (w.grownBy wr (some g)) := hgr
    have HW : Hid (COwn wr g n (fun i => if i < j then markC i else f i)) := hown
    have hsz := hown.lt
    clear hgr hown
    by_cases hjl : j < n
    · have hji : (j : Int) < (n : Int) := by omega
      have hj0 : (0 : Int) ≤ (j : Int) := by omega
      obtain ⟨q, hq⟩ : ∃ q, 1 + j * 3 = q := ⟨_, rfl⟩
      have HQ : Hid (1 + j * 3 = q) := hq
      have hq1 : 0 < q := by omega
      have hq2 : q ≤ 4000000 := by omega
      rw [hq]
      clear hq
      go_wp2_with fail
      refine (markText_any q _ hq1 (by omega)).mono ?_
      rintro e w1 ⟨rfl, hb1⟩
      have HW1 : Hid (COwn w1 g n (fun i => if i < j then markC i else f i)) := HW.out.kept hb1 hsz
      have HG1 : Hid (w.grownBy w1 (some g)) := HG.out.trans (grown_of_belowC hb1)
      have hsz1 := HW1.out.lt
      obtain ⟨⟨d0, d1, d2⟩, e0, e1, e2⟩ := HW1.out.parts hjl
      clear hb1
      have HM : Hid (markC j = ⟨mtext q, false, true⟩) := by show markC j = _; unfold markC; rw [HQ.out]
      have hr1 : (((q : Int) + 1) % 3 == 0) = false := by have := HQ.out; simp; omega
      have hr2 : (((q : Int) + 1 + 1) % 3 == 0) = true := by have := HQ.out; simp; omega
      have hr3 : (Int.tmod ((q : Int) + 1) 3 == 0) = false := by rw [Int.tmod_eq_emod_of_nonneg (by omega)]; exact hr1
      have hr4 : (Int.tmod ((q : Int) + 1 + 1) 3 == 0) = true := by rw [Int.tmod_eq_emod_of_nonneg (by omega)]; exact hr2
      generalize mtext q = tq at *
      go_wp2
      go_roundw
      case rel =>
        refine ⟨j + 1, by omega, ?_, by go_num, only_setMC (only_setMC (only_setMC HG1.out)), ?_⟩
        · congr 1
          have := HQ.out
          omega
        · have h1 := HW1.out.set hjl (markC j)
          rw [HM.out] at h1
          simp only at h1
          refine h1.congr (fun i hi => ?_)
          by_cases e : i = j
          · subst e
            rw [if_pos rfl, if_pos (by omega), HM.out]
          · rw [if_neg e]
            by_cases e2 : i < j
            · rw [if_pos e2, if_pos (by omega)]
            · rw [if_neg e2, if_neg (by omega)]
      case measure => simp [intOf]; omega
    · have hji : ¬ (j : Int) < (n : Int) := by omega
      obtain rfl : j = n := by omega
      go_wp2
      go_ret
      exact ⟨rfl, HG.out, HW.out.congr (fun i hi => if_pos (by omega))⟩
theorem markCells_none (sa : Option Addr) (cap : Nat) (w : World) :
    Calls Try.prog 46 #[.slice sa 0 cap, .int .i64 1] w fun e w' => e = .returned (.int .i64 1) ∧ w' = w := by
  go_enter Try.func46, Try.ntmps46
  go_wp2
  go_loopw [1, 5] (fun kv i wr => kv = .int .i64 1 ∧ i = .int .i64 0 ∧ wr = w) (fun _ _ _ => 0)
  case atStart => exact ⟨rfl, rfl, rfl⟩
  case round =>
    obtain ⟨rfl, rfl, rfl⟩ := hrel
    go_wp2
    go_ret
    exact ⟨rfl, rfl⟩
theorem markCells_any (sa : Option Addr) (n cap lo hi : Nat) (f : Nat → Cel) (w : World) (hn : n ≤ 1048576) (ho : CSl w lo hi sa n f) :
    Calls Try.prog 46 #[.slice sa n cap, .int .i64 1] w fun e w' => e = .returned (.int .i64 ((1 + n * 3 : Nat) : Int)) ∧ OnlyC w w' lo hi ∧ CSl w' lo hi sa n markC := by
  rcases Nat.eq_zero_or_pos n with rfl | hp
  · refine (markCells_none sa cap w).mono ?_
    rintro e w' ⟨rfl, rfl⟩
    exact ⟨rfl, ⟨none, World.grownBy.refl _ _, fun _ h => by cases h⟩, Or.inl rfl⟩
  · rcases ho with rfl | ⟨g, rfl, hlo, hhi, ho⟩
    · omega
    · refine (markCells_own g n cap f w hn ho).mono ?_
      rintro e w' ⟨rfl, hg, ho'⟩
      exact ⟨rfl, ⟨some g, hg, fun g' h => by cases h; exact ⟨hlo, hhi⟩⟩, Or.inr ⟨g, rfl, hlo, hhi, ho'⟩⟩

end Go.Proofs.Ytbdjjggaahjjpaa
