/- What is said here: windows in memory.
   What is proved here: the specification's l03Has says whether a byte is in a text; the world stays. -/
import Derived.Test.YtfeolbgenpknfaaQRowsSMarkWToIntRowW
import Derived.Test.YtfeolbgenpknfaaQVecD
import Derived.Laws.AppendOwn
import Derived.Test.YtfeolbgenpknfaaQClassM
import Derived.WalkSpells
import Derived.RegionTactic
import Derived.BigRegion
namespace Go.Proofs.Ytfeolbgenpknfaa
open Go.RowKit

theorem Try.winInfo : (Try.prog.info? 111).map (fun i => (i.zero, i.size, i.bytes)) = some (some (.agg #[.int .i64 0, .int .i64 0, .int .i64 0]), 3, 24) := by kernel_rfl
/-- The cells of windows. -/
def wcells : List (Nat × Nat × Nat) → List Value
  | [] => []
  | x :: l => .int .i64 (x.1 : Int) :: .int .i64 (x.2.1 : Int) :: .int .i64 (x.2.2 : Int) :: wcells l
theorem wcells_append : ∀ l m, wcells (l ++ m) = wcells l ++ wcells m
  | [], _ => rfl
  | x :: l, m => by
    show _ :: _ :: _ :: wcells (l ++ m) = _ :: _ :: _ :: (wcells l ++ wcells m)
    rw [wcells_append l m]
/-- A slice of windows that lies in new memory. -/
def OwnsW (W : World) (base : Nat) (v : Value) (L : List (Nat × Nat × Nat)) : Prop := W.ownsRow base 111 3 v L.length (wcells L)
theorem wins_start (w : World) (base : Nat) (hb : base ≤ w.heap.size) (C : Array Value) (hC : C.size = 0) : OwnsW (w.alloc (.cells C 111)) base (.slice (some ⟨w.heap.size, 0, none⟩) 0 0) [] :=
  ⟨rfl, Or.inr ⟨w.heap.size, 0, C, rfl, hb, heap_alloc_new w _, Nat.le_refl _, Nat.zero_le _, by omega, by simp [wcells]⟩⟩
/-- Windows in new memory, handed back. -/
def NewWins (w : World) (L : List (Nat × Nat × Nat)) (e : Ending) (w' : World) : Prop := ∃ v, e = .returned v ∧ Below w.heap.size w w' ∧ OwnsW w' w.heap.size v L
end Go.Proofs.Ytfeolbgenpknfaa
namespace Go.Proofs.Ytfeolbgenpknfaa
open Go.RowKit

theorem has_found {t : ByteArray} {k b : Nat} (h : k < t.size) (hc : t[k].toNat = b) : hasByte t b = true := by
  unfold hasByte
  rw [List.any_eq_true]
  exact ⟨t.data.toList[k]'(by simpa using h), List.getElem_mem _, by rw [beq_iff_eq]; exact hc⟩
set_option maxRecDepth 100000 in
set_option maxHeartbeats 2000000 in
theorem l03Has_any (t : ByteArray) (b : Nat) (w : World) (hs : t.size ≤ maxLen) :
    Calls Try.prog 99 #[.string t, .int .u8 (b : Int)] w fun e w' => e = .returned (.bool (hasByte t b)) ∧ w' = w := by
  unfold maxLen at hs
  go_enter Try.func99, Try.ntmps99
  go_wp2
  go_loop [5] (fun i => ∃ k : Nat, k ≤ t.size ∧ i = .int .i64 (k : Int) ∧ hasUpTo t k b = false) (fun i => t.size - (intOf i).toNat)
  case atStart => exact ⟨0, Nat.zero_le _, rfl, hasUpTo_zero t b⟩
  case round =>
    obtain ⟨k, hk, rfl, hno⟩ := hrel
    have HN : Hid (hasUpTo t k b = false) := hno
    clear hno
    by_cases hlt : k < t.size
    · have hlt' : (k : Int) < (t.size : Int) := by omega
      have HS : Hid (hasUpTo t (k + 1) b = (hasUpTo t k b || (t[k].toNat == b))) := hasUpTo_succ t k b hlt
      by_cases hc : t[k].toNat = b
      · have HC : Hid (hasByte t b = true) := has_found hlt hc
        have hc' : ((t[k].toNat : Int) == (b : Int)) = true := by rw [hc]; simp
        clear hc
        go_wp2
        go_ret
        exact ⟨by rw [HC.out]; rfl, rfl⟩
      · have HC : Hid (hasUpTo t (k + 1) b = false) := by
          show hasUpTo t (k + 1) b = false
          rw [HS.out, HN.out]
          simp [hc]
        have hc' : ((t[k].toNat : Int) == (b : Int)) = false := by simp; omega
        clear hc
        go_wp2
        go_round
        case rel => exact ⟨k + 1, by omega, by go_num, HC.out⟩
        case measure => simp [intOf]; omega
    · have hge : ¬ (k : Int) < (t.size : Int) := by omega
      obtain rfl : k = t.size := by omega
      go_wp2
      go_ret
      exact ⟨by rw [← hasUpTo_all, HN.out]; rfl, rfl⟩
end Go.Proofs.Ytfeolbgenpknfaa
