/- What is said here: a slice of 256 bools that the call owns: what is read, what is stored.
   What is proved here: a new slice of so many bools, none of them true.
   What is proved here: the specification's l03Has says whether a byte is in a text; the world stays. -/
import Derived.Test.YtfeolbgenpknfaaQIntRowWToClassM
import Derived.WalkSpells
import Derived.RegionTactic
import Derived.BigRegion
import Derived.Deep.DeepCutAuto
namespace Go.Proofs.Ytfeolbgenpknfaa
open Go.RowKit

/-- A row of bools that may be written. -/
def OwnB (w : World) (g n : Nat) (f : Nat → Bool) : Prop :=
  g < w.heap.size ∧ (∀ i, i < n → w.cell? ⟨g, i, none⟩ = some (.bool (f i))) ∧ ∀ i, i < n → w.frozen? ⟨g, i, none⟩ = false
theorem OwnB.congr {w : World} {g n : Nat} {f f' : Nat → Bool} (h : OwnB w g n f) (he : ∀ i, i < n → f i = f' i) : OwnB w g n f' :=
  ⟨h.1, fun i hi => by rw [← he i hi]; exact h.2.1 i hi, h.2.2⟩
theorem OwnB.kept {w w' : World} {B g n : Nat} {f : Nat → Bool} (h : OwnB w g n f) (hb : Below B w w') (hg : g < B) : OwnB w' g n f :=
  ⟨Nat.lt_of_lt_of_le h.1 hb.size, fun i hi => by rw [hb.cell (p := ⟨g, i, none⟩) hg]; exact h.2.1 i hi, fun i hi => by rw [hb.frozen (p := ⟨g, i, none⟩) hg]; exact h.2.2 i hi⟩
theorem OwnB.set {w : World} {g n p : Nat} {f : Nat → Bool} (h : OwnB w g n f) (hp : p < n) (v : Bool) : OwnB (w.setCell ⟨g, p, none⟩ (.bool v)) g n (fun i => if i = p then v else f i) := by
  refine ⟨by simpa [World.setCell] using h.1, fun i hi => ?_, fun i hi => ?_⟩
  · by_cases e : i = p
    · subst e
      rw [World.cell?_setCell_same _ _ _ (h.2.1 i hi)]
      simp
    · rw [World.cell?_setCell_other _ _ _ _ (fun hh => e (by injection hh with _ h2 _; exact h2.symm)), h.2.1 i hi]
      simp [e]
  · rw [World.frozen?_setCell]
    exact h.2.2 i hi
theorem OwnB.setOther {w : World} {g n : Nat} {f : Nat → Bool} (h : OwnB w g n f) (p : Addr) (v : Value) (hne : p.block ≠ g) : OwnB (w.setCell p v) g n f := by
  refine ⟨by simpa [World.setCell] using h.1, fun i hi => ?_, fun i hi => ?_⟩
  · rw [World.cell?_setCell_other _ _ _ _ (fun hh => hne (by rw [hh]))]
    exact h.2.1 i hi
  · rw [World.frozen?_setCell]
    exact h.2.2 i hi
theorem Try.boolInfo : (Try.prog.info? 4).map (fun i => (i.zero, i.size, i.bytes)) = some (some (.bool false), 1, 1) := by kernel_rfl
/-- A new slice of 256 bools, none of them true. -/
theorem make_bools (w : World) : ∃ (w' : World) (g : Nat), (Instr.makeSlice 79 (.int .i64 256) (.int .i64 256)).run Try.prog w = .ok (.slice (some ⟨g, 0, none⟩) 256 256) w' ∧ w.heap.size ≤ g ∧ g < w'.heap.size ∧ Below w.heap.size w w' ∧ OwnB w' g 256 (fun _ => false) := by
  obtain ⟨i0, hi, hz0, hz1, hz2⟩ := info_parts Try.boolInfo
  have h := run_make (P := Try.prog) w 79 4 i0 (.bool false) Try.underlying79 hi hz0 .i64 .i64 256 256 (by omega) (Int.le_refl _) (by rw [hz2]; omega) (by omega)
  rw [hz1] at h
  refine ⟨_, _, h, Nat.le_refl _, by simp, (Below.refl _ _).alloc (Nat.le_refl _) _, by simp, fun i hi => ?_, fun i hi => ?_⟩
  · rw [World.cell?_alloc_mark]
    simp [madeCells, Value.cells, Nat.mod_one, hi]
  · exact frozen_of_row _ _ _ _ _ (heap_alloc_new w _)
end Go.Proofs.Ytfeolbgenpknfaa
namespace Go.Proofs.Ytfeolbgenpknfaa
open Go.RowKit

theorem make_boolN (w : World) (N : Nat) (hN : N ≤ 10000000) : ∃ (w' : World) (g : Nat), (Instr.makeSlice 79 (.int .i64 (N : Int)) (.int .i64 (N : Int))).run Try.prog w = .ok (.slice (some ⟨g, 0, none⟩) N N) w' ∧ w.heap.size ≤ g ∧ g < w'.heap.size ∧ Below w.heap.size w w' ∧ OwnB w' g N (fun _ => false) := by
  obtain ⟨i0, hi, hz0, hz1, hz2⟩ := info_parts Try.boolInfo
  have h := run_make (P := Try.prog) w 79 4 i0 (.bool false) Try.underlying79 hi hz0 .i64 .i64 (N : Int) (N : Int) (by omega) (Int.le_refl _) (by rw [hz2]; omega) (by omega)
  rw [hz1] at h
  refine ⟨w.alloc (.cells (madeCells (Value.bool false).cells (N * 1)) 4), w.heap.size, ?_, Nat.le_refl _, by simp, (Below.refl _ _).alloc (Nat.le_refl _) _, by simp, fun i hi => ?_, fun i hi => ?_⟩
  · rw [h]
    simp
  · rw [World.cell?_alloc_mark]
    simp [madeCells, Value.cells, Nat.mod_one, hi]
  · exact frozen_of_row _ _ _ _ _ (heap_alloc_new w _)
end Go.Proofs.Ytfeolbgenpknfaa
namespace Go.Proofs.Ytfeolbgenpknfaa
open Go.RowKit

theorem has_found {t : ByteArray} {k b : Nat} (h : k < t.size) (hc : t[k].toNat = b) : hasByte t b = true := by
  unfold hasByte
  rw [List.any_eq_true]
  exact ⟨t.data.toList[k]'(by simpa using h), List.getElem_mem _, by rw [beq_iff_eq]; exact hc⟩
set_option maxRecDepth 100000 in
set_option maxHeartbeats 2000000 in
theorem l03Has_any (t : ByteArray) (b : Nat) (w : World) (hs : t.size ≤ maxLen) :
    Calls Try.prog 99 #[.string t, .int .u8 (b : Int)] w fun e w' => e = .returned (.bool (hasByte t b)) ∧ w' = w := by
  unfold maxLen at hs
  go_enter Try.func99, Try.ntmps99
  go_wp2
  go_loop [5] (fun i => ∃ k : Nat, k ≤ t.size ∧ i = .int .i64 (k : Int) ∧ hasUpTo t k b = false) (fun i => t.size - (intOf i).toNat)
  case atStart => exact ⟨0, Nat.zero_le _, rfl, hasUpTo_zero t b⟩
  case round =>
    obtain ⟨k, hk, rfl, hno⟩ := hrel
    have HN : Hid (hasUpTo t k b = false) := hno
    clear hno
    by_cases hlt : k < t.size
    · have hlt' : (k : Int) < (t.size : Int) := by omega
      have HS : Hid (hasUpTo t (k + 1) b = (hasUpTo t k b || (t[k].toNat == b))) := hasUpTo_succ t k b hlt
      by_cases hc : t[k].toNat = b
      · have HC : Hid (hasByte t b = true) := has_found hlt hc
        have hc' : ((t[k].toNat : Int) == (b : Int)) = true := by rw [hc]; simp
        clear hc
        go_wp2
        go_ret
        exact ⟨by rw [HC.out]; rfl, rfl⟩
      · have HC : Hid (hasUpTo t (k + 1) b = false) := by
          show hasUpTo t (k + 1) b = false
          rw [HS.out, HN.out]
          simp [hc]
        have hc' : ((t[k].toNat : Int) == (b : Int)) = false := by simp; omega
        clear hc
        go_wp2
        go_round
        case rel => exact ⟨k + 1, by omega, by go_num, HC.out⟩
        case measure => simp [intOf]; omega
    · have hge : ¬ (k : Int) < (t.size : Int) := by omega
      obtain rfl : k = t.size := by omega
      go_wp2
      go_ret
      exact ⟨by rw [← hasUpTo_all, HN.out]; rfl, rfl⟩
end Go.Proofs.Ytfeolbgenpknfaa
