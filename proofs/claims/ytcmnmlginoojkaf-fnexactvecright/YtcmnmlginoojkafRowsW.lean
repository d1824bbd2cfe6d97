/- What is proved here: the laws' helpers over slices of int64 (their size, a copy, the comparison, the marks): what they hand back and what they leave as it was. -/
import Derived.Test.YtcmnmlginoojkafProg
import Derived.WalkKit
import Derived.WalkSpells
import Derived.RegionTactic
import Derived.BigRegion
import Derived.Deep.DeepCutAuto
import Derived.Laws.BytesArg
import Derived.Maps.AppendAt
namespace Go.Proofs.Ytcmnmlginoojkaf
open Go.RowKit

/-- The numbers of a slice lie in cells of a block below B. -/
def Row (w : World) (B : Nat) (sa : Option Addr) (n : Nat) (f : Nat → Int) : Prop :=
  n = 0 ∨ ∃ bb off : Nat, sa = some ⟨bb, off, none⟩ ∧ bb < B ∧ ∀ i, i < n → w.cell? ⟨bb, off + i, none⟩ = some (.int .i64 (f i))
/-- A row that may be written: its block, its numbers. -/
def Own (w : World) (g n : Nat) (f : Nat → Int) : Prop :=
  g < w.heap.size ∧ (∀ i, i < n → w.cell? ⟨g, i, none⟩ = some (.int .i64 (f i))) ∧ ∀ i, i < n → w.frozen? ⟨g, i, none⟩ = false
theorem Own.row {w : World} {g n B : Nat} {f : Nat → Int} (h : Own w g n f) (hB : g < B) : Row w B (some ⟨g, 0, none⟩) n f :=
  Or.inr ⟨g, 0, rfl, hB, fun i hi => by rw [Nat.zero_add]; exact h.2.1 i hi⟩
theorem Own.congr {w : World} {g n : Nat} {f f' : Nat → Int} (h : Own w g n f) (he : ∀ i, i < n → f i = f' i) : Own w g n f' :=
  ⟨h.1, fun i hi => by rw [← he i hi]; exact h.2.1 i hi, h.2.2⟩
theorem Row.congr {w : World} {B n : Nat} {sa : Option Addr} {f f' : Nat → Int} (h : Row w B sa n f) (he : ∀ i, i < n → f i = f' i) : Row w B sa n f' := by
  rcases h with h | ⟨bb, off, h1, h2, h3⟩
  · exact Or.inl h
  · exact Or.inr ⟨bb, off, h1, h2, fun i hi => by rw [← he i hi]; exact h3 i hi⟩
theorem Row.up {w : World} {B B' n : Nat} {sa : Option Addr} {f : Nat → Int} (h : Row w B sa n f) (hB : B ≤ B') : Row w B' sa n f := by
  rcases h with h | ⟨bb, off, h1, h2, h3⟩
  · exact Or.inl h
  · exact Or.inr ⟨bb, off, h1, by omega, h3⟩
theorem Row.kept {w w' : World} {B n : Nat} {sa : Option Addr} {f : Nat → Int} (h : Row w B sa n f) (hb : Below B w w') : Row w' B sa n f := by
  rcases h with h | ⟨bb, off, h1, h2, h3⟩
  · exact Or.inl h
  · exact Or.inr ⟨bb, off, h1, h2, fun i hi => by rw [hb.cell (p := ⟨bb, off + i, none⟩) h2]; exact h3 i hi⟩
theorem Own.kept {w w' : World} {B g n : Nat} {f : Nat → Int} (h : Own w g n f) (hb : Below B w w') (hg : g < B) : Own w' g n f :=
  ⟨Nat.lt_of_lt_of_le h.1 hb.size, fun i hi => by rw [hb.cell (p := ⟨g, i, none⟩) hg]; exact h.2.1 i hi, fun i hi => by rw [hb.frozen (p := ⟨g, i, none⟩) hg]; exact h.2.2 i hi⟩
theorem Own.set {w : World} {g n p : Nat} {f : Nat → Int} (h : Own w g n f) (hp : p < n) (v : Int) : Own (w.setCell ⟨g, p, none⟩ (.int .i64 v)) g n (fun i => if i = p then v else f i) := by
  refine ⟨by simpa [World.setCell] using h.1, fun i hi => ?_, fun i hi => ?_⟩
  · by_cases e : i = p
    · subst e
      rw [World.cell?_setCell_same _ _ _ (h.2.1 i hi)]
      simp
    · rw [World.cell?_setCell_other _ _ _ _ (fun hh => e (by injection hh with _ h2 _; exact h2.symm)), h.2.1 i hi]
      simp [e]
  · rw [World.frozen?_setCell]
    exact h.2.2 i hi
theorem Own.drew {w : World} {g n : Nat} {f : Nat → Int} (h : Own w g n f) : Own w.drew g n f := h
theorem Own.only {w w' : World} {g b n : Nat} {f : Nat → Int} (h : Own w g n f) (hg : w.grownBy w' (some b)) (hne : g ≠ b) : Own w' g n f := by
  have hb := hg.block g h.1 (fun e => hne (by injection e))
  refine ⟨Nat.lt_of_lt_of_le h.1 hg.size, fun i hi => ?_, fun i hi => ?_⟩
  · have := h.2.1 i hi
    simpa [World.cell?, hb] using this
  · have := h.2.2 i hi
    simpa [World.frozen?, hb] using this

/-- What is left of the size. -/
def szOf (n : Nat) (left : Int) : Int := if left < n then -1 else left - n
theorem szRow_any (sa : Option Addr) (n cap : Nat) (left : Int) (w : World) (hn : n ≤ maxLen) (h0 : 0 ≤ left) (h1 : left ≤ 1048576) :
    Calls Try.prog 26 #[.slice sa n cap, .int .i64 left] w fun e w' => e = .returned (.int .i64 (szOf n left)) ∧ w' = w := by
  unfold maxLen at hn
  by_cases h : left < (n : Int)
  · have hs : szOf n left = -1 := by unfold szOf; rw [if_pos h]
    rw [hs]
    have h' : left - (n : Int) < 0 := by omega
    go_enter Try.func26, Try.ntmps26
    go_wp2
    go_ret
    exact ⟨rfl, rfl⟩
  · have hs : szOf n left = left - n := by unfold szOf; rw [if_neg h]
    rw [hs]
    have h' : ¬ left - (n : Int) < 0 := by omega
    go_enter Try.func26, Try.ntmps26
    go_wp2
    go_ret
    exact ⟨rfl, rfl⟩

theorem Try.numInfo : (Try.prog.info? 2).map (fun i => (i.zero, i.size, i.bytes)) = some (some (.int .i64 0), 1, 8) := by kernel_rfl
/-- A new slice of so many zeros. -/
theorem make_row (w : World) (N : Nat) (hN : N ≤ 10000000) : ∃ C : Array Value, (Instr.makeSlice 22 (.int .i64 (N : Int)) (.int .i64 (N : Int))).run Try.prog w = .ok (.slice (some ⟨w.heap.size, 0, none⟩) N N) (w.alloc (.cells C 2)) ∧ Own (w.alloc (.cells C 2)) w.heap.size N (fun _ => 0) := by
  obtain ⟨i0, hi, hz0, hz1, hz2⟩ := info_parts Try.numInfo
  refine ⟨madeCells (Value.int .i64 0).cells (N * 1), ?_, by simp, fun i hi => ?_, fun i hi => ?_⟩
  · have h := run_make (P := Try.prog) w 22 2 i0 (.int .i64 0) Try.underlying22 hi hz0 .i64 .i64 (N : Int) (N : Int) (by omega) (Int.le_refl _) (by rw [hz2]; omega) (by omega)
    rw [h, hz1]
    simp
  · rw [World.cell?_alloc_mark]
    simp [madeCells, Value.cells, Nat.mod_one, hi]
  · have h := heap_alloc_new w (.cells (madeCells (Value.int .i64 0).cells (N * 1)) 2)
    exact frozen_of_row _ _ _ _ _ h

set_option maxHeartbeats 1000000 in
theorem toRow_any (sa : Option Addr) (n cap : Nat) (f : Nat → Int) (w : World) (hn : n ≤ 1048576) (hr : Row w w.heap.size sa n f) :
    Calls Try.prog 29 #[.slice sa n cap] w fun e w' => e = .returned (.slice (some ⟨w.heap.size, 0, none⟩) n n) ∧ Below w.heap.size w w' ∧ Own w' w.heap.size n f := by
  obtain ⟨C, hmk, hown⟩ := make_row w n (by omega)
  have HO : Hid (Own (w.alloc (.cells C 2)) w.heap.size n (fun _ => 0)) := hown
  have HR : Hid (Row w w.heap.size sa n f) := hr
  clear hown hr
  go_enter Try.func29, Try.ntmps29
  go_wp2
  go_loopw [4] (fun i wr => ∃ k : Nat, k ≤ n ∧ i = .int .i64 (k : Int) ∧ Below w.heap.size w wr ∧ Own wr w.heap.size n (fun i => if i < k then f i else 0)) (fun i _ => n - (intOf i).toNat)
  case atStart => exact ⟨0, Nat.zero_le _, rfl, (Below.refl _ _).alloc (Nat.le_refl _) _, HO.out.congr (fun i _ => by simp)⟩
  case round =>
    obtain ⟨k, hk, rfl, hbel, hown⟩ := hrel
    have HB : Hid (Below w.heap.size w wr) := hbel
    have HW : Hid (Own wr w.heap.size n (fun i => if i < k then f i else 0)) := hown
    by_cases hkl : k < n
    · obtain ⟨bb, off, rfl, hbb, hcell⟩ : ∃ bb off : Nat, sa = some ⟨bb, off, none⟩ ∧ bb < w.heap.size ∧ ∀ i, i < n → w.cell? ⟨bb, off + i, none⟩ = some (.int .i64 (f i)) := by
        rcases HR.out with h | h
        · omega
        · exact h
      have cz : wr.cell? ⟨bb, off + k, none⟩ = some (.int .i64 (f k)) := by rw [hbel.cell (p := ⟨bb, off + k, none⟩) hbb]; exact hcell k hkl
      have cy := hown.2.1 k hkl
      have cf := hown.2.2 k hkl
      have hsz := hown.1
      clear hcell hbel hown
      have hki : (k : Int) < (n : Int) := by omega
      have hk0 : (0 : Int) ≤ (k : Int) := by omega
      go_wp2
      go_roundw
      case rel => exact ⟨k + 1, by omega, by go_num, HB.out.setCell (Nat.le_refl _) _, (HW.out.set hkl (f k)).congr (fun i hi => by
        by_cases e : i = k
        · subst e; simp
        · simp only [if_neg e]
          by_cases e2 : i < k
          · rw [if_pos e2, if_pos (by omega)]
          · rw [if_neg e2, if_neg (by omega)])⟩
      case measure => simp [intOf]; omega
    · have hki : ¬ (k : Int) < (n : Int) := by omega
      clear hbel hown
      go_wp2
      go_ret
      exact ⟨rfl, HB.out, HW.out.congr (fun i hi => if_pos (by omega))⟩

set_option maxHeartbeats 1000000 in
theorem eqRow_same (sa sb : Option Addr) (n ca cb : Nat) (f : Nat → Int) (w : World) (hn : n ≤ 1048576) (ha : Row w w.heap.size sa n f) (hb : Row w w.heap.size sb n f) :
    Calls Try.prog 32 #[.slice sa n ca, .slice sb n cb] w fun e w' => e = .returned (.bool true) ∧ Below w.heap.size w w' := by
  have HA : Hid (Row w w.heap.size sa n f) := ha
  have HB : Hid (Row w w.heap.size sb n f) := hb
  clear ha hb
  go_enter Try.func32, Try.ntmps32
  go_wp2
  go_loopw [5] (fun i wr => ∃ k : Nat, k ≤ n ∧ i = .int .i64 (k : Int) ∧ Below w.heap.size w wr) (fun i _ => n - (intOf i).toNat)
  case atStart => exact ⟨0, Nat.zero_le _, rfl, Below.refl _ _⟩
  case round =>
    obtain ⟨k, hk, rfl, hbel⟩ := hrel
    have HW : Hid (Below w.heap.size w wr) := hbel
    by_cases hkl : k < n
    · obtain ⟨ba, oa, rfl, hba, hca⟩ : ∃ bb off : Nat, sa = some ⟨bb, off, none⟩ ∧ bb < w.heap.size ∧ ∀ i, i < n → w.cell? ⟨bb, off + i, none⟩ = some (.int .i64 (f i)) := by
        rcases HA.out with h | h
        · omega
        · exact h
      obtain ⟨bb, ob, rfl, hbb, hcb⟩ : ∃ bb off : Nat, sb = some ⟨bb, off, none⟩ ∧ bb < w.heap.size ∧ ∀ i, i < n → w.cell? ⟨bb, off + i, none⟩ = some (.int .i64 (f i)) := by
        rcases HB.out with h | h
        · omega
        · exact h
      have cz : wr.cell? ⟨ba, oa + k, none⟩ = some (.int .i64 (f k)) := by rw [hbel.cell (p := ⟨ba, oa + k, none⟩) hba]; exact hca k hkl
      have cy : wr.cell? ⟨bb, ob + k, none⟩ = some (.int .i64 (f k)) := by rw [hbel.cell (p := ⟨bb, ob + k, none⟩) hbb]; exact hcb k hkl
      clear hca hcb hbel
      have hki : (k : Int) < (n : Int) := by omega
      have hk0 : (0 : Int) ≤ (k : Int) := by omega
      go_wp2
      go_region
      go_wp2
      go_roundw
      case rel => exact ⟨k + 1, by omega, by go_num, HW.out.drew⟩
      case measure => simp [intOf]; omega
    · have hki : ¬ (k : Int) < (n : Int) := by omega
      clear hbel
      go_wp2
      go_ret
      exact ⟨rfl, HW.out⟩

/-- A slice that the call owns: empty, or a row of a block from lo on. -/
def OwnS (w : World) (lo : Nat) (sa : Option Addr) (n : Nat) (f : Nat → Int) : Prop := n = 0 ∨ ∃ g, sa = some ⟨g, 0, none⟩ ∧ lo ≤ g ∧ Own w g n f
/-- That slice's block alone turned. -/
def OnlyS (w w' : World) (sa : Option Addr) (n : Nat) : Prop := ∃ row : Option Nat, w.grownBy w' row ∧ ∀ g, row = some g → 0 < n ∧ sa = some ⟨g, 0, none⟩
theorem only_set {a w : World} {b i : Nat} {v : Value} (h : a.grownBy w (some b)) : a.grownBy (w.setCell ⟨b, i, none⟩ v) (some b) :=
  h.trans ⟨rfl, rfl, rfl, by simp [World.setCell], fun k _ hk => Below.heap_setCell _ _ _ _ (fun e => hk (by simp [e]))⟩
theorem only_drawn {a w : World} {b : Nat} (h : a.grownBy w (some b)) : a.grownBy w.drew (some b) := ⟨h.os, h.tape, h.output, h.size, h.block⟩

set_option maxHeartbeats 1000000 in
theorem mark_own (g n cap : Nat) (f : Nat → Int) (k : Int) (w : World) (hn : n ≤ 1048576) (h0 : 0 ≤ k) (h1 : k ≤ 1099511627776) (ho : Own w g n f) :
    Calls Try.prog 34 #[.slice (some ⟨g, 0, none⟩) n cap, .int .i64 k] w fun e w' => e = .returned (.int .i64 (k + n)) ∧ w.grownBy w' (some g) ∧ Own w' g n (fun i => k + i) := by
  have HO : Hid (Own w g n f) := ho
  clear ho
  go_enter Try.func34, Try.ntmps34
  go_wp2
  go_loopw [1, 5] (fun kv i wr => ∃ j : Nat, j ≤ n ∧ kv = .int .i64 (k + j) ∧ i = .int .i64 (j : Int) ∧ w.grownBy wr (some g) ∧ Own wr g n (fun i => if i < j then k + i else f i)) (fun _ i _ => n - (intOf i).toNat)
  case atStart => exact ⟨0, Nat.zero_le _, by simp, rfl, World.grownBy.refl _ _, HO.out.congr (fun i _ => by simp)⟩
  case round =>
    obtain ⟨j, hj, rfl, rfl, hgr, hown⟩ := hrel
    have HG : Hid (w.grownBy wr (some g)) := hgr
    have HW : Hid (Own wr g n (fun i => if i < j then k + i else f i)) := hown
    by_cases hjl : j < n
    · have cy := hown.2.1 j hjl
      have cf := hown.2.2 j hjl
      have hsz := hown.1
      clear hgr hown
      have hji : (j : Int) < (n : Int) := by omega
      have hj0 : (0 : Int) ≤ (j : Int) := by omega
      go_wp2
      go_roundw
      case rel => exact ⟨j + 1, by omega, by go_num, by go_num, only_set HG.out, ((HW.out.set hjl (k + j)).congr (fun i hi => by
        by_cases e : i = j
        · subst e; simp
        · simp only [if_neg e]
          by_cases e2 : i < j
          · rw [if_pos e2, if_pos (by omega)]
          · rw [if_neg e2, if_neg (by omega)]))⟩
      case measure => simp [intOf]; omega
    · have hji : ¬ (j : Int) < (n : Int) := by omega
      obtain rfl : j = n := by omega
      clear hgr hown
      go_wp2
      go_ret
      exact ⟨rfl, HG.out, HW.out.congr (fun i hi => if_pos (by omega))⟩
theorem mark_none (sa : Option Addr) (cap : Nat) (k : Int) (w : World) :
    Calls Try.prog 34 #[.slice sa 0 cap, .int .i64 k] w fun e w' => e = .returned (.int .i64 k) ∧ w' = w := by
  go_enter Try.func34, Try.ntmps34
  go_wp2
  go_loopw [1, 5] (fun kv i wr => kv = .int .i64 k ∧ i = .int .i64 0 ∧ wr = w) (fun _ _ _ => 0)
  case atStart => exact ⟨rfl, rfl, rfl⟩
  case round =>
    obtain ⟨rfl, rfl, rfl⟩ := hrel
    go_wp2
    go_ret
    exact ⟨rfl, rfl⟩
theorem markRow_any (sa : Option Addr) (n cap lo : Nat) (f : Nat → Int) (k : Int) (w : World) (hn : n ≤ 1048576) (h0 : 0 ≤ k) (h1 : k ≤ 1099511627776) (ho : OwnS w lo sa n f) :
    Calls Try.prog 34 #[.slice sa n cap, .int .i64 k] w fun e w' => e = .returned (.int .i64 (k + n)) ∧ OnlyS w w' sa n ∧ OwnS w' lo sa n (fun i => k + i) := by
  rcases ho with rfl | ⟨g, rfl, hlo, ho⟩
  · refine (mark_none sa cap k w).mono ?_
    rintro e w' ⟨rfl, rfl⟩
    exact ⟨by simp, ⟨none, World.grownBy.refl _ _, fun _ h => by cases h⟩, Or.inl rfl⟩
  · rcases Nat.eq_zero_or_pos n with rfl | hp
    · refine (mark_none _ cap k w).mono ?_
      rintro e w' ⟨rfl, rfl⟩
      exact ⟨by simp, ⟨none, World.grownBy.refl _ _, fun _ h => by cases h⟩, Or.inl rfl⟩
    · refine (mark_own g n cap f k w hn h0 h1 ho).mono ?_
      rintro e w' ⟨rfl, hg, ho'⟩
      exact ⟨rfl, ⟨some g, hg, fun g' h => by cases h; exact ⟨hp, rfl⟩⟩, Or.inr ⟨g, rfl, hlo, ho'⟩⟩

set_option maxHeartbeats 1000000 in
theorem heldRow_any (sa : Option Addr) (n cap : Nat) (k : Int) (w : World) (hn : n ≤ 1048576) (h0 : 0 ≤ k) (h1 : k ≤ 1099511627776) (hr : Row w w.heap.size sa n (fun i => k + i)) :
    Calls Try.prog 35 #[.slice sa n cap, .int .i64 k] w fun e w' => e = .returned (.int .i64 (k + n)) ∧ Below w.heap.size w w' := by
  have HR : Hid (Row w w.heap.size sa n (fun i => k + i)) := hr
  clear hr
  go_enter Try.func35, Try.ntmps35
  go_wp2
  go_loopw [1, 5] (fun kv i wr => ∃ j : Nat, j ≤ n ∧ kv = .int .i64 (k + j) ∧ i = .int .i64 (j : Int) ∧ Below w.heap.size w wr) (fun _ i _ => n - (intOf i).toNat)
  case atStart => exact ⟨0, Nat.zero_le _, by simp, rfl, Below.refl _ _⟩
  case round =>
    obtain ⟨j, hj, rfl, rfl, hbel⟩ := hrel
    have HW : Hid (Below w.heap.size w wr) := hbel
    by_cases hjl : j < n
    · obtain ⟨ba, oa, rfl, hba, hca⟩ : ∃ bb off : Nat, sa = some ⟨bb, off, none⟩ ∧ bb < w.heap.size ∧ ∀ i, i < n → w.cell? ⟨bb, off + i, none⟩ = some (.int .i64 (k + i)) := by
        rcases HR.out with h | h
        · omega
        · exact h
      have cz : wr.cell? ⟨ba, oa + j, none⟩ = some (.int .i64 (k + j)) := by rw [hbel.cell (p := ⟨ba, oa + j, none⟩) hba]; exact hca j hjl
      clear hca hbel
      have hji : (j : Int) < (n : Int) := by omega
      have hj0 : (0 : Int) ≤ (j : Int) := by omega
      go_wp2
      go_roundw
      case rel => exact ⟨j + 1, by omega, by go_num, by go_num, HW.out⟩
      case measure => simp [intOf]; omega
    · have hji : ¬ (j : Int) < (n : Int) := by omega
      obtain rfl : j = n := by omega
      clear hbel
      go_wp2
      go_ret
      exact ⟨rfl, HW.out⟩
end Go.Proofs.Ytcmnmlginoojkaf
