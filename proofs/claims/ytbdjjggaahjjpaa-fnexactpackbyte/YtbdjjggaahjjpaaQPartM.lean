/- What is said here: a row of vectors that is filled one by one. -/
import Derived.Test.YtbdjjggaahjjpaaQLaidMToEqualW
import Derived.Test.YtbdjjggaahjjpaaQVecS
namespace Go.Proofs.Ytbdjjggaahjjpaa
open Go.RowKit

/-- Vectors that are filled in so far, each in new memory. -/
structure PartTo (W : World) (lo gp k i : Nat) (B : Nat → Nat) (s : Nat → Option Addr) (m c : Nat → Nat) (F : Nat → Nat → Int) : Prop where
  lt : gp < W.heap.size
  lo_le : lo ≤ gp
  cells : ∀ j, j < i → W.cell? ⟨gp, j * 2, none⟩ = some (.int .i64 (B j : Int)) ∧ W.cell? ⟨gp, j * 2 + 1, none⟩ = some (.slice (s j) (m j) (c j))
  there : ∀ j, j < k * 2 → ∃ v, W.cell? ⟨gp, j, none⟩ = some v
  free : ∀ j, W.frozen? ⟨gp, j, none⟩ = false
  rows : ∀ j, j < i → m j = 0 ∨ ∃ b, s j = some ⟨b, 0, none⟩ ∧ gp < b ∧ Own W b (m j) (F j)
theorem PartTo.kept {W W' : World} {lo gp k i : Nat} {B : Nat → Nat} {s : Nat → Option Addr} {m c : Nat → Nat} {F : Nat → Nat → Int} (h : PartTo W lo gp k i B s m c F) (hb : Below W.heap.size W W') : PartTo W' lo gp k i B s m c F :=
  ⟨Nat.lt_of_lt_of_le h.lt hb.size, h.lo_le, fun j hj => ⟨by rw [hb.cell (p := ⟨gp, j * 2, none⟩) h.lt]; exact (h.cells j hj).1, by rw [hb.cell (p := ⟨gp, j * 2 + 1, none⟩) h.lt]; exact (h.cells j hj).2⟩, fun j hj => by rw [hb.cell (p := ⟨gp, j, none⟩) h.lt]; exact h.there j hj, fun j => by rw [hb.frozen (p := ⟨gp, j, none⟩) h.lt]; exact h.free j, fun j hj => (h.rows j hj).imp id (fun ⟨b, h1, h2, h3⟩ => ⟨b, h1, h2, h3.kept hb h3.1⟩)⟩
/-- One more vector. -/
theorem PartTo.next {W : World} {lo gp k i : Nat} {B : Nat → Nat} {s : Nat → Option Addr} {m c : Nat → Nat} {F : Nat → Nat → Int} (h : PartTo W lo gp k i B s m c F) (hi : i < k) (x : Option Addr) (cx : Nat) (f : Nat → Int) (hr : m i = 0 ∨ ∃ b, x = some ⟨b, 0, none⟩ ∧ gp < b ∧ Own W b (m i) f) :
    PartTo ((W.setCell ⟨gp, i * 2, none⟩ (.int .i64 (B i : Int))).setCell ⟨gp, i * 2 + 1, none⟩ (.slice x (m i) cx)) lo gp k (i + 1) B (fun j => if j = i then x else s j) m (fun j => if j = i then cx else c j) (fun j => if j = i then f else F j) := by
  have hne : ∀ {a b : Nat}, a ≠ b → (⟨gp, a, none⟩ : Addr) ≠ ⟨gp, b, none⟩ := fun hab hh => hab (by injection hh)
  obtain ⟨v0, hv0⟩ := h.there (i * 2) (by omega)
  obtain ⟨v1, hv1⟩ := h.there (i * 2 + 1) (by omega)
  refine ⟨by simpa [World.setCell] using h.lt, h.lo_le, fun j hj => ?_, fun j hj => ?_, fun j => by rw [World.frozen?_setCell, World.frozen?_setCell]; exact h.free j, fun j hj => ?_⟩
  · by_cases e : j = i
    · subst e
      simp only [if_pos]
      refine ⟨?_, World.cell?_setCell_same _ _ _ (by rw [World.cell?_setCell_other _ _ _ _ (hne (by omega))]; exact hv1)⟩
      rw [World.cell?_setCell_other _ _ _ _ (hne (by omega))]
      exact World.cell?_setCell_same _ _ _ hv0
    · simp only [if_neg e]
      have hj' := h.cells j (by omega)
      refine ⟨?_, ?_⟩
      · rw [World.cell?_setCell_other _ _ _ _ (hne (by omega)), World.cell?_setCell_other _ _ _ _ (hne (by omega))]; exact hj'.1
      · rw [World.cell?_setCell_other _ _ _ _ (hne (by omega)), World.cell?_setCell_other _ _ _ _ (hne (by omega))]; exact hj'.2
  · by_cases e1 : j = i * 2 + 1
    · subst e1
      exact ⟨_, World.cell?_setCell_same _ _ _ (by rw [World.cell?_setCell_other _ _ _ _ (hne (by omega))]; exact hv1)⟩
    · rw [World.cell?_setCell_other _ _ _ _ (hne (fun e => e1 e.symm))]
      by_cases e0 : j = i * 2
      · subst e0
        exact ⟨_, World.cell?_setCell_same _ _ _ hv0⟩
      · rw [World.cell?_setCell_other _ _ _ _ (hne (fun e => e0 e.symm))]
        exact h.there j hj
  · have hset : ∀ (b n : Nat) (g : Nat → Int), gp < b → Own W b n g → Own ((W.setCell ⟨gp, i * 2, none⟩ (.int .i64 (B i : Int))).setCell ⟨gp, i * 2 + 1, none⟩ (.slice x (m i) cx)) b n g := fun b n g hb ho => (ho.setOther _ _ (by show gp ≠ b; omega)).setOther _ _ (by show gp ≠ b; omega)
    by_cases e : j = i
    · subst e
      simp only [if_pos]
      exact hr.imp id (fun ⟨b, h1, h2, h3⟩ => ⟨b, h1, h2, hset _ _ _ h2 h3⟩)
    · simp only [if_neg e]
      exact (h.rows j (by omega)).imp id (fun ⟨b, h1, h2, h3⟩ => ⟨b, h1, h2, hset _ _ _ h2 h3⟩)
theorem PartTo.read {W : World} {lo gp k : Nat} {B : Nat → Nat} {s : Nat → Option Addr} {m c : Nat → Nat} {F : Nat → Nat → Int} (h : PartTo W lo gp k k B s m c F) : VecRows W W.heap.size (some ⟨gp, 0, none⟩) k B s m c F :=
  ⟨gp, 0, rfl, h.lt, fun i hi => ⟨by rw [Nat.zero_add]; exact (h.cells i hi).1, by rw [Nat.zero_add]; exact (h.cells i hi).2, by
    rcases h.rows i hi with h1 | ⟨b, h1, _, h3⟩
    · exact Or.inl h1
    · rw [h1]; exact h3.row h3.1⟩⟩
theorem Try.vecInfo9 : (Try.prog.info? 36).map (fun i => (i.zero, i.size, i.bytes)) = some (some (.agg #[.int .i64 0, .slice none 0 0]), 2, 32) := by kernel_rfl
/-- A new row of no vectors. -/
theorem make_vecs (w : World) (k : Nat) (hk : k ≤ 1000) : ∃ C : Array Value, (Instr.makeSlice 118 (.int .i64 (k : Int)) (.int .i64 (k : Int))).run Try.prog w = .ok (.slice (some ⟨w.heap.size, 0, none⟩) k k) (w.alloc (.cells C 36)) ∧ ∀ B s m c F, PartTo (w.alloc (.cells C 36)) w.heap.size w.heap.size k 0 B s m c F := by
  obtain ⟨i0, hi, hz0, hz1, hz2⟩ := info_parts Try.vecInfo9
  refine ⟨madeCells (Value.agg #[.int .i64 0, .slice none 0 0]).cells (k * 2), ?_, fun B s m c F => ⟨by simp, Nat.le_refl _, fun j hj => absurd hj (Nat.not_lt_zero _), fun j hj => ?_, fun j => frozen_of_row _ _ _ _ _ (heap_alloc_new w _), fun j hj => absurd hj (Nat.not_lt_zero _)⟩⟩
  · have h := run_make (P := Try.prog) w 118 36 i0 (.agg #[.int .i64 0, .slice none 0 0]) Try.underlying118 hi hz0 .i64 .i64 (k : Int) (k : Int) (by omega) (Int.le_refl _) (by rw [hz2]; omega) (by omega)
    rw [h, hz1]
    simp
  · rw [World.cell?_alloc_mark]
    have e : (Value.agg #[.int .i64 0, .slice none 0 0]).cells = #[.int .i64 0, .slice none 0 0] := rfl
    rw [e]
    simp [madeCells, hj]
end Go.Proofs.Ytbdjjggaahjjpaa
