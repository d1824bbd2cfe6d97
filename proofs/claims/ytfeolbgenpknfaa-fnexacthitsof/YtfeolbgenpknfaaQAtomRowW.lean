/- What is proved here: slices of atoms that are appended to. -/
import Derived.Test.YtfeolbgenpknfaaQAtomSToMarkTextW
import Derived.Laws.AppendOwn
namespace Go.Proofs.Ytfeolbgenpknfaa
open Go.RowKit

/-- The cells of the first k atoms. -/
def acells (f : Nat → Atm) : Nat → List Value
  | 0 => []
  | k + 1 => acells f k ++ [.string (f k).c, .int .i64 (f k).l, .int .i64 (f k).m]
theorem acells_len (f : Nat → Atm) : ∀ k, (acells f k).length = k * 3
  | 0 => rfl
  | k + 1 => by simp [acells, acells_len f k]; omega
theorem acells_get (f : Nat → Atm) (i : Nat) : ∀ k, i < k → (acells f k)[i * 3]? = some (.string (f i).c) ∧ (acells f k)[i * 3 + 1]? = some (.int .i64 (f i).l) ∧ (acells f k)[i * 3 + 2]? = some (.int .i64 (f i).m)
  | 0, h => by omega
  | k + 1, h => by
    have hl := acells_len f k
    by_cases e : i = k
    · subst e
      unfold acells
      rw [List.getElem?_append_right (by omega), List.getElem?_append_right (by omega), List.getElem?_append_right (by omega), hl]
      simp [show i * 3 + 1 - i * 3 = 1 by omega, show i * 3 + 2 - i * 3 = 2 by omega]
    · have h1 := acells_get f i k (by omega)
      unfold acells
      rw [List.getElem?_append_left (by omega), List.getElem?_append_left (by omega), List.getElem?_append_left (by omega)]
      exact h1
theorem acells_congr {f g : Nat → Atm} : ∀ k, (∀ i, i < k → f i = g i) → acells f k = acells g k
  | 0, _ => rfl
  | k + 1, h => by unfold acells; rw [acells_congr k (fun i hi => h i (by omega)), h k (by omega)]
theorem owns_below {w w' : World} {base n size B : Nat} {e : TypeId} {v : Value} {xs : List Value} (h : w.ownsRow base e size v n xs) (hb : Below B w w') (hB : B = w.heap.size) : w'.ownsRow base e size v n xs := by
  obtain ⟨hl, h⟩ := h
  refine ⟨hl, ?_⟩
  rcases h with h | ⟨g, cap, cur, h1, h2, h3, h4⟩
  · exact Or.inl h
  · refine Or.inr ⟨g, cap, cur, h1, h2, ?_, h4⟩
    rw [hb.block g (by rw [hB]; exact lt_of_block h3)]
    exact h3
theorem atoms_of_owns {W : World} {base n : Nat} {v : Value} {f : Nat → Atm} (h : W.ownsRow base 89 3 v n (acells f n)) : ∃ sa cap, v = .slice sa n cap ∧ ASl W base W.heap.size sa n f := by
  obtain ⟨_, ⟨rfl, rfl⟩ | ⟨g, cap, cur, rfl, hg, hh, hnc, hm, hs, ht⟩⟩ := h
  · exact ⟨none, 0, rfl, Or.inl rfl⟩
  · refine ⟨_, _, rfl, Or.inr ⟨g, rfl, hg, lt_of_block hh, ⟨lt_of_block hh, fun i hi => ?_, fun j hj => frozen_of_row _ _ _ _ _ hh⟩⟩⟩
    have hc : ∀ j, j < n * 3 → W.cell? ⟨g, j, none⟩ = (acells f n)[j]? := fun j hj => by
      rw [← ht, List.getElem?_take_of_lt hj]
      simp [World.cell?, hh]
    obtain ⟨h0, h1, h2⟩ := acells_get f i n hi
    exact ⟨by rw [hc _ (by omega)]; exact h0, by rw [hc _ (by omega)]; exact h1, by rw [hc _ (by omega)]; exact h2⟩
theorem new_of_owns {w W : World} {n : Nat} {v : Value} {f : Nat → Atm} (h : W.ownsRow w.heap.size 89 3 v n (acells f n)) (hb : Below w.heap.size w W) : NewAtoms w n f (.returned v) W := by
  obtain ⟨sa, cap, rfl, hs⟩ := atoms_of_owns h
  exact ⟨sa, cap, rfl, hb, hs⟩
/-- An empty slice of atoms that the call makes. -/
theorem owns_start (w : World) (base : Nat) (hb : base ≤ w.heap.size) (C : Array Value) (hC : C.size = 0) : (w.alloc (.cells C 89)).ownsRow base 89 3 (.slice (some ⟨w.heap.size, 0, none⟩) 0 0) 0 [] :=
  ⟨rfl, Or.inr ⟨w.heap.size, 0, C, rfl, hb, heap_alloc_new w _, Nat.le_refl _, Nat.zero_le _, by omega, by simp⟩⟩
end Go.Proofs.Ytfeolbgenpknfaa
