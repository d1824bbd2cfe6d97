/- What is said here: hits in memory, slices of slices of numbers. -/
import Derived.Test.YtfeolbgenpknfaaQIntRowWToClassM
import Derived.Test.YtfeolbgenpknfaaQHitsM
import Derived.Laws.AppendOwn
namespace Go.Proofs.Ytfeolbgenpknfaa
open Go.RowKit

theorem Try.hitInfo : (Try.prog.info? 83).map (fun i => (i.zero, i.size, i.bytes)) = some (some (.agg #[.int .i64 0, .int .i64 0]), 2, 16) := by kernel_rfl
/-- The cells of hits. -/
def hcells : List (Nat × Nat) → List Value
  | [] => []
  | x :: l => .int .i64 (x.1 : Int) :: .int .i64 (x.2 : Int) :: hcells l
theorem hcells_append : ∀ l m, hcells (l ++ m) = hcells l ++ hcells m
  | [], _ => rfl
  | x :: l, m => by
    show _ :: _ :: hcells (l ++ m) = _ :: _ :: (hcells l ++ hcells m)
    rw [hcells_append l m]
/-- A slice of hits that lies in new memory. -/
def OwnsH (W : World) (base : Nat) (v : Value) (L : List (Nat × Nat)) : Prop := W.ownsRow base 83 2 v L.length (hcells L)
theorem hits_start (w : World) (base : Nat) (hb : base ≤ w.heap.size) (C : Array Value) (hC : C.size = 0) : OwnsH (w.alloc (.cells C 83)) base (.slice (some ⟨w.heap.size, 0, none⟩) 0 0) [] :=
  ⟨rfl, Or.inr ⟨w.heap.size, 0, C, rfl, hb, heap_alloc_new w _, Nat.le_refl _, Nat.zero_le _, by omega, by simp [hcells]⟩⟩
/-- Hits in new memory, handed back. -/
def NewHits (w : World) (L : List (Nat × Nat)) (e : Ending) (w' : World) : Prop := ∃ v, e = .returned v ∧ Below w.heap.size w w' ∧ OwnsH w' w.heap.size v L
/-- A slice of slices of numbers. -/
def ERows (w : World) (B : Nat) (sa : Option Addr) (k : Nat) (s : Nat → Option Addr) (n c : Nat → Nat) (F : Nat → Nat → Int) : Prop := k = 0 ∨ ∃ bb off : Nat, sa = some ⟨bb, off, none⟩ ∧ bb < B ∧ ∀ i, i < k → w.cell? ⟨bb, off + i, none⟩ = some (.slice (s i) (n i) (c i)) ∧ Row w B (s i) (n i) (F i)
theorem ERows.late {w W : World} {sa : Option Addr} {k : Nat} {s : Nat → Option Addr} {n c : Nat → Nat} {F : Nat → Nat → Int} (h : ERows w w.heap.size sa k s n c F) (hb : Below w.heap.size w W) : ERows W w.heap.size sa k s n c F := by
  rcases h with h | ⟨bb, off, h1, h2, h3⟩
  · exact Or.inl h
  · exact Or.inr ⟨bb, off, h1, h2, fun i hi => ⟨by rw [hb.cell (p := ⟨bb, off + i, none⟩) h2]; exact (h3 i hi).1, (h3 i hi).2.kept hb⟩⟩
end Go.Proofs.Ytfeolbgenpknfaa
