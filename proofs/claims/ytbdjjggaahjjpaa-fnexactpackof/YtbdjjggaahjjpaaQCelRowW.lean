/- What is proved here: slices of cells that are appended to. -/
import Derived.Test.YtbdjjggaahjjpaaQCellS
import Derived.Laws.AppendOwn
namespace Go.Proofs.Ytbdjjggaahjjpaa
open Go.RowKit

/-- The cells of the first k cells. -/
def ccellsV (f : Nat → Cel) : Nat → List Value
  | 0 => []
  | k + 1 => ccellsV f k ++ [.string (f k).c, .bool (f k).k, .bool (f k).o]
theorem ccellsV_len (f : Nat → Cel) : ∀ k, (ccellsV f k).length = k * 3
  | 0 => rfl
  | k + 1 => by simp [ccellsV, ccellsV_len f k]; omega
theorem ccellsV_get (f : Nat → Cel) (i : Nat) : ∀ k, i < k → (ccellsV f k)[i * 3]? = some (.string (f i).c) ∧ (ccellsV f k)[i * 3 + 1]? = some (.bool (f i).k) ∧ (ccellsV f k)[i * 3 + 2]? = some (.bool (f i).o)
  | 0, h => by omega
  | k + 1, h => by
    have hl := ccellsV_len f k
    by_cases e : i = k
    · subst e
      unfold ccellsV
      rw [List.getElem?_append_right (by omega), List.getElem?_append_right (by omega), List.getElem?_append_right (by omega), hl]
      simp [show i * 3 + 1 - i * 3 = 1 by omega, show i * 3 + 2 - i * 3 = 2 by omega]
    · have h1 := ccellsV_get f i k (by omega)
      unfold ccellsV
      rw [List.getElem?_append_left (by omega), List.getElem?_append_left (by omega), List.getElem?_append_left (by omega)]
      exact h1
theorem ccellsV_congr {f g : Nat → Cel} : ∀ k, (∀ i, i < k → f i = g i) → ccellsV f k = ccellsV g k
  | 0, _ => rfl
  | k + 1, h => by unfold ccellsV; rw [ccellsV_congr k (fun i hi => h i (by omega)), h k (by omega)]
theorem ownsC_below {w w' : World} {base n size B : Nat} {e : TypeId} {v : Value} {xs : List Value} (h : w.ownsRow base e size v n xs) (hb : Below B w w') (hB : B = w.heap.size) : w'.ownsRow base e size v n xs := by
  obtain ⟨hl, h⟩ := h
  refine ⟨hl, ?_⟩
  rcases h with h | ⟨g, cap, cur, h1, h2, h3, h4⟩
  · exact Or.inl h
  · refine Or.inr ⟨g, cap, cur, h1, h2, ?_, h4⟩
    rw [hb.block g (by rw [hB]; exact lt_of_block h3)]
    exact h3
theorem cells_of_owns {W : World} {base n : Nat} {v : Value} {f : Nat → Cel} (h : W.ownsRow base 85 3 v n (ccellsV f n)) : ∃ sa cap, v = .slice sa n cap ∧ CSl W base W.heap.size sa n f := by
  obtain ⟨_, ⟨rfl, rfl⟩ | ⟨g, cap, cur, rfl, hg, hh, hnc, hm, hs, ht⟩⟩ := h
  · exact ⟨none, 0, rfl, Or.inl rfl⟩
  · refine ⟨_, _, rfl, Or.inr ⟨g, rfl, hg, lt_of_block hh, ⟨lt_of_block hh, fun i hi => ?_, fun j hj => frozen_of_row _ _ _ _ _ hh⟩⟩⟩
    have hc : ∀ j, j < n * 3 → W.cell? ⟨g, j, none⟩ = (ccellsV f n)[j]? := fun j hj => by
      rw [← ht, List.getElem?_take_of_lt hj]
      simp [World.cell?, hh]
    obtain ⟨h0, h1, h2⟩ := ccellsV_get f i n hi
    exact ⟨by rw [hc _ (by omega)]; exact h0, by rw [hc _ (by omega)]; exact h1, by rw [hc _ (by omega)]; exact h2⟩
theorem newC_of_owns {w W : World} {n : Nat} {v : Value} {f : Nat → Cel} (h : W.ownsRow w.heap.size 85 3 v n (ccellsV f n)) (hb : Below w.heap.size w W) : NewCells w n f (.returned v) W := by
  obtain ⟨sa, cap, rfl, hs⟩ := cells_of_owns h
  exact ⟨sa, cap, rfl, hb, hs⟩
/-- An empty slice of cells that the call makes. -/
theorem ownsC_start (w : World) (base : Nat) (hb : base ≤ w.heap.size) (C : Array Value) (hC : C.size = 0) : (w.alloc (.cells C 85)).ownsRow base 85 3 (.slice (some ⟨w.heap.size, 0, none⟩) 0 0) 0 [] :=
  ⟨rfl, Or.inr ⟨w.heap.size, 0, C, rfl, hb, heap_alloc_new w _, Nat.le_refl _, Nat.zero_le _, by omega, by simp⟩⟩
end Go.Proofs.Ytbdjjggaahjjpaa
