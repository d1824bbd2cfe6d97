/- What is proved here: 'copy' from a slice of numbers into one that the call owns. -/
import Derived.Test.YtcmnmlginoojkafVecS
import Derived.Lib.SlBuf
import Derived.Laws.IdiomCopy
namespace Go.Proofs.Ytcmnmlginoojkaf
open Go.RowKit

theorem only_setCells {a : World} (g : Nat) : ∀ (vs : List Value) (o : Nat) {w : World}, a.grownBy w (some g) → a.grownBy (w.setCells g o vs) (some g)
  | [], _, _, h => h
  | _ :: r, o, _, h => only_setCells g r (o + 1) (only_set h)
theorem copy_row (w : World) (g n cd cs : Nat) (sb : Option Addr) (f f0 : Nat → Int) (hn0 : 0 < n) (ho : Own w g n f0) (hr : Row w w.heap.size sb n f) :
    ∃ w', (Builtin.copy_ #[22, 22] 3 #[.slice (some ⟨g, 0, none⟩) n cd, .slice sb n cs]).run Try.prog w = .ok (.int .i64 (n : Int)) w' ∧ w.grownBy w' (some g) ∧ Own w' g n f := by
  obtain ⟨bb, off, rfl, hbb, hca⟩ : ∃ bb off : Nat, sb = some ⟨bb, off, none⟩ ∧ bb < w.heap.size ∧ ∀ i, i < n → w.cell? ⟨bb, off + i, none⟩ = some (.int .i64 (f i)) := by
    rcases hr with h | h
    · omega
    · exact h
  obtain ⟨i0, hi, hz0, hz1, hz2⟩ := info_parts Try.numInfo
  have hl : ((List.range n).map fun i => Value.int .i64 (f i)).length = n := by simp
  have h := run_copy_cells (P := Try.prog) w 22 22 3 2 g 0 n cd ⟨bb, off, none⟩ n cs ((List.range n).map fun i => Value.int .i64 (f i)) Try.underlying22 (by rw [hi]; simp [hz1]) (by rw [hl]; simp)
    (fun j v hv => by
      have hj : j < n := by
        rcases Nat.lt_or_ge j n with h | h
        · exact h
        · rw [List.getElem?_eq_none (by simp; omega)] at hv
          cases hv
      have hp : (⟨bb, off, none⟩ : Addr).add j = ⟨bb, off + j, none⟩ := by unfold Addr.add; split <;> simp_all
      rw [hp, hca j hj]
      simpa [List.getElem?_map, List.getElem?_range hj] using hv)
    (fun j hj => by rw [hl] at hj; rw [Nat.zero_add, ho.2.1 j hj]; rfl) (fun j hj => by rw [hl] at hj; rw [Nat.zero_add]; exact ho.2.2 j hj)
    (fun v hv => by
      obtain ⟨i, _, rfl⟩ := List.mem_map.1 hv
      rfl)
  rw [hl] at h
  refine ⟨_, h, only_setCells g _ 0 (World.grownBy.refl _ _), ?_, ?_, ?_⟩
  · exact Nat.lt_of_lt_of_le ho.1 (only_setCells g _ 0 (World.grownBy.refl _ _)).size
  · intro j hj
    have hin := World.cell?_setCells_in g ((List.range n).map fun i => Value.int .i64 (f i)) 0 w (fun i hi => by rw [hl] at hi; rw [Nat.zero_add, ho.2.1 i hi]; rfl) j (by rw [hl]; exact hj)
    rw [Nat.zero_add] at hin
    rw [hin]
    simp
  · intro j hj
    rw [World.frozen?_setCells]
    exact ho.2.2 j hj
end Go.Proofs.Ytcmnmlginoojkaf
