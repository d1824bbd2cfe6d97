/- What is said here: windows in memory. -/
import Derived.Test.YtfeolbgenpknfaaQIntRowW
import Derived.Test.YtfeolbgenpknfaaQVecD
import Derived.Laws.AppendOwn
namespace Go.Proofs.Ytfeolbgenpknfaa
open Go.RowKit

theorem Try.winInfo : (Try.prog.info? 111).map (fun i => (i.zero, i.size, i.bytes)) = some (some (.agg #[.int .i64 0, .int .i64 0, .int .i64 0]), 3, 24) := by kernel_rfl
/-- The cells of windows. -/
def wcells : List (Nat × Nat × Nat) → List Value
  | [] => []
  | x :: l => .int .i64 (x.1 : Int) :: .int .i64 (x.2.1 : Int) :: .int .i64 (x.2.2 : Int) :: wcells l
theorem wcells_append : ∀ l m, wcells (l ++ m) = wcells l ++ wcells m
  | [], _ => rfl
  | x :: l, m => by
    show _ :: _ :: _ :: wcells (l ++ m) = _ :: _ :: _ :: (wcells l ++ wcells m)
    rw [wcells_append l m]
/-- A slice of windows that lies in new memory. -/
def OwnsW (W : World) (base : Nat) (v : Value) (L : List (Nat × Nat × Nat)) : Prop := W.ownsRow base 111 3 v L.length (wcells L)
theorem wins_start (w : World) (base : Nat) (hb : base ≤ w.heap.size) (C : Array Value) (hC : C.size = 0) : OwnsW (w.alloc (.cells C 111)) base (.slice (some ⟨w.heap.size, 0, none⟩) 0 0) [] :=
  ⟨rfl, Or.inr ⟨w.heap.size, 0, C, rfl, hb, heap_alloc_new w _, Nat.le_refl _, Nat.zero_le _, by omega, by simp [wcells]⟩⟩
/-- Windows in new memory, handed back. -/
def NewWins (w : World) (L : List (Nat × Nat × Nat)) (e : Ending) (w' : World) : Prop := ∃ v, e = .returned v ∧ Below w.heap.size w w' ∧ OwnsW w' w.heap.size v L
end Go.Proofs.Ytfeolbgenpknfaa
