/- What is said here: a slice of slices of numbers that is appended to: the rows in it lie in new memory, none in the slice's own block.
   What is said here: a slice of slices of atoms that is read. -/
import Derived.Test.YtfeolbgenpknfaaQHitsMToHitD
import Derived.Test.YtfeolbgenpknfaaQVecDToMemoW
import Derived.Test.YtfeolbgenpknfaaQAtomDToPatM
namespace Go.Proofs.Ytfeolbgenpknfaa
open Go.RowKit

theorem Try.rowInfo : (Try.prog.info? 27).map (fun i => (i.zero, i.size, i.bytes)) = some (some (.slice none 0 0), 1, 24) := by kernel_rfl
/-- The cells of the first slices. -/
def scells (s : Nat → Option Addr) (n c : Nat → Nat) : Nat → List Value
  | 0 => []
  | k + 1 => scells s n c k ++ [.slice (s k) (n k) (c k)]
theorem scells_len (s : Nat → Option Addr) (n c : Nat → Nat) : ∀ k, (scells s n c k).length = k
  | 0 => rfl
  | k + 1 => by simp [scells, scells_len s n c k]
theorem scells_get (s : Nat → Option Addr) (n c : Nat → Nat) (i : Nat) : ∀ k, i < k → (scells s n c k)[i]? = some (.slice (s i) (n i) (c i))
  | 0, h => by omega
  | k + 1, h => by
    have hl := scells_len s n c k
    unfold scells
    by_cases e : i = k
    · subst e
      rw [List.getElem?_append_right (by omega), hl]
      simp
    · rw [List.getElem?_append_left (by omega)]
      exact scells_get s n c i k (by omega)
theorem scells_congr {s s' : Nat → Option Addr} {n n' c c' : Nat → Nat} : ∀ k, (∀ i, i < k → s i = s' i ∧ n i = n' i ∧ c i = c' i) → scells s n c k = scells s' n' c' k
  | 0, _ => rfl
  | k + 1, h => by
    obtain ⟨h1, h2, h3⟩ := h k (by omega)
    unfold scells
    rw [scells_congr k (fun i hi => h i (by omega)), h1, h2, h3]
/-- The rows so far. -/
structure EndsAt (W : World) (base : Nat) (v : Value) (k : Nat) (s : Nat → Option Addr) (n c : Nat → Nat) (F : Nat → Nat → Int) : Prop where
  own : W.ownsRow base 27 1 v k (scells s n c k)
  rows : ∀ i, i < k → OwnS W base (s i) (n i) (F i)
  apart : ∀ i, i < k → 0 < n i → ∀ g, s i = some ⟨g, 0, none⟩ → v.ownBlock ≠ some g
theorem rows_start (w : World) (base : Nat) (hb : base ≤ w.heap.size) (s : Nat → Option Addr) (n c : Nat → Nat) (F : Nat → Nat → Int) : EndsAt (w.alloc (.cells #[] 27)) base (.slice (some ⟨w.heap.size, 0, none⟩) 0 0) 0 s n c F :=
  ⟨⟨rfl, Or.inr ⟨w.heap.size, 0, #[], rfl, hb, heap_alloc_new w _, Nat.le_refl _, Nat.zero_le _, rfl, by simp [scells]⟩⟩, fun i hi => absurd hi (Nat.not_lt_zero _), fun i hi => absurd hi (Nat.not_lt_zero _)⟩
theorem EndsAt.call {W W' : World} {base : Nat} {v : Value} {k : Nat} {s : Nat → Option Addr} {n c : Nat → Nat} {F : Nat → Nat → Int} (h : EndsAt W base v k s n c F) (hb : Below W.heap.size W W') : EndsAt W' base v k s n c F :=
  ⟨ints_below h.own hb rfl, fun i hi => (h.rows i hi).kept hb rfl, h.apart⟩
theorem EndsAt.rest {W : World} {base : Nat} {v : Value} {k : Nat} {s s' : Nat → Option Addr} {n n' c c' : Nat → Nat} {F F' : Nat → Nat → Int} (h : EndsAt W base v k s n c F) (he : ∀ i, i < k → s i = s' i ∧ n i = n' i ∧ c i = c' i ∧ F i = F' i) : EndsAt W base v k s' n' c' F' :=
  ⟨by rw [← scells_congr k (fun i hi => ⟨(he i hi).1, (he i hi).2.1, (he i hi).2.2.1⟩)]; exact h.own, fun i hi => by obtain ⟨h1, h2, h3, h4⟩ := he i hi; rw [← h1, ← h2, ← h4]; exact h.rows i hi, fun i hi h0 g hg => h.apart i hi (by rw [(he i hi).2.1]; exact h0) g (by rw [(he i hi).1]; exact hg)⟩
/-- One row more is appended. -/
theorem EndsAt.push {W W1 W2 : World} {base : Nat} {v v' : Value} {k : Nat} {s : Nat → Option Addr} {n c : Nat → Nat} {F : Nat → Nat → Int} (h : EndsAt W base v k s n c F) (hbase : base ≤ W.heap.size) (hb : Below W.heap.size W W1) (hr : OwnS W1 W.heap.size (s k) (n k) (F k))
    (ho : W2.ownsRow base 27 1 v' (k + 1) (scells s n c k ++ [.slice (s k) (n k) (c k)])) (hg : W1.grownBy W2 v.ownBlock) (hv : v'.ownBlock = v.ownBlock ∨ ∃ z, v'.ownBlock = some z ∧ W1.heap.size ≤ z) : EndsAt W2 base v' (k + 1) s n c F := by
  have hlt := h.own.lt
  have keep : ∀ (lo : Nat) (i : Nat), OwnS W1 lo (s i) (n i) (F i) → (0 < n i → ∀ g, s i = some ⟨g, 0, none⟩ → v.ownBlock ≠ some g) → OwnS W2 lo (s i) (n i) (F i) := fun lo i hi ha => by
    rcases hi with h9 | ⟨g, h1, h2, h3⟩
    · exact Or.inl h9
    · by_cases h0 : 0 < n i
      · have hblk := hg.block g h3.1 (fun e => ha h0 g h1 e.symm)
        refine Or.inr ⟨g, h1, h2, Nat.lt_of_lt_of_le h3.1 hg.size, fun j hj => ?_, fun j hj => ?_⟩
        · have h4 := h3.2.1 j hj
          simpa [World.cell?, hblk] using h4
        · have h4 := h3.2.2 j hj
          simpa [World.frozen?, hblk] using h4
      · exact Or.inl (by omega)
  have napart : 0 < n k → ∀ g, s k = some ⟨g, 0, none⟩ → v.ownBlock ≠ some g := fun h0 g hg2 => by
    rcases hr with h9 | ⟨g', h1, h2, _⟩
    · omega
    · rw [hg2] at h1
      injection h1 with h1
      injection h1 with h1
      exact fun e => by have := (hlt g e).2; omega
  have inW1 : ∀ i, i < k + 1 → 0 < n i → ∀ g, s i = some ⟨g, 0, none⟩ → g < W1.heap.size := fun i hi h0 g hg2 => by
    have h8 : OwnS W1 0 (s i) (n i) (F i) := by
      by_cases e : i = k
      · rw [e]; exact hr.low (Nat.zero_le _)
      · exact ((h.rows i (by omega)).kept hb rfl).low (Nat.zero_le _)
    rcases h8 with h9 | ⟨g', h1, _, h3⟩
    · omega
    · rw [hg2] at h1
      injection h1 with h1
      injection h1 with h1
      have := h3.1
      omega
  have ap : ∀ i, i < k + 1 → 0 < n i → ∀ g, s i = some ⟨g, 0, none⟩ → v.ownBlock ≠ some g := fun i hi => by
    by_cases e : i = k
    · rw [e]; exact napart
    · exact h.apart i (by omega)
  refine ⟨ho, fun i hi => ?_, fun i hi h0 g hg2 => ?_⟩
  · by_cases e : i = k
    · rw [e]; exact keep base k (hr.low hbase) napart
    · exact keep base i ((h.rows i (by omega)).kept hb rfl) (h.apart i (by omega))
  · rcases hv with hv | ⟨z, hv, hz⟩
    · rw [hv]
      exact ap i hi h0 g hg2
    · rw [hv]
      intro e
      injection e with e
      have := inW1 i hi h0 g hg2
      omega
/-- It is read as a slice of slices. -/
theorem EndsAt.out {W : World} {base : Nat} {v : Value} {k : Nat} {s : Nat → Option Addr} {n c : Nat → Nat} {F : Nat → Nat → Int} (h : EndsAt W base v k s n c F) : ∃ (sx : Option Addr) (cx : Nat), v = .slice sx k cx ∧ ERows W W.heap.size sx k s n c F := by
  have hrow := h.rows
  obtain ⟨_, ⟨rfl, hx⟩ | ⟨g, cap, cur, rfl, hg, hh, hnc, hm, hs, ht⟩⟩ := h.own
  · have h1 : k = 0 := hx
    subst h1
    exact ⟨none, 0, rfl, Or.inl rfl⟩
  · refine ⟨_, _, rfl, Or.inr ⟨g, 0, rfl, lt_of_block hh, fun i hi => ⟨?_, (hrow i hi).row⟩⟩⟩
    have hc : W.cell? ⟨g, i, none⟩ = (scells s n c k)[i]? := by
      rw [← ht, List.getElem?_take_of_lt (by omega)]
      simp [World.cell?, hh]
    rw [Nat.zero_add, hc]
    exact scells_get s n c i k hi
end Go.Proofs.Ytfeolbgenpknfaa
namespace Go.Proofs.Ytfeolbgenpknfaa
open Go.RowKit

/-- A slice of slices of atoms. -/
def AARows (w : World) (B : Nat) (sa : Option Addr) (k : Nat) (s : Nat → Option Addr) (n c : Nat → Nat) (f : Nat → Nat → Atm) : Prop := k = 0 ∨ ∃ bb off : Nat, sa = some ⟨bb, off, none⟩ ∧ bb < B ∧ ∀ i, i < k → w.cell? ⟨bb, off + i, none⟩ = some (.slice (s i) (n i) (c i)) ∧ ARow w B (s i) (n i) (f i)
theorem AARows.late {w W : World} {sa : Option Addr} {k : Nat} {s : Nat → Option Addr} {n c : Nat → Nat} {f : Nat → Nat → Atm} (h : AARows w w.heap.size sa k s n c f) (hb : Below w.heap.size w W) : AARows W W.heap.size sa k s n c f := by
  rcases h with h | ⟨bb, off, h1, h2, h3⟩
  · exact Or.inl h
  · exact Or.inr ⟨bb, off, h1, Nat.lt_of_lt_of_le h2 hb.size, fun i hi => ⟨by rw [hb.cell (p := ⟨bb, off + i, none⟩) h2]; exact (h3 i hi).1, ((h3 i hi).2.kept hb).up hb.size⟩⟩
/-- One of its slices. -/
theorem AARows.at {w : World} {B : Nat} {sa : Option Addr} {k i : Nat} {s : Nat → Option Addr} {n c : Nat → Nat} {f : Nat → Nat → Atm} (h : AARows w B sa k s n c f) (hi : i < k) : ∃ bb off : Nat, sa = some ⟨bb, off, none⟩ ∧ bb < B ∧ w.cell? ⟨bb, off + i, none⟩ = some (.slice (s i) (n i) (c i)) ∧ ARow w B (s i) (n i) (f i) := by
  rcases h with h | ⟨bb, off, h1, h2, h3⟩
  · omega
  · exact ⟨bb, off, h1, h2, h3 i hi⟩
end Go.Proofs.Ytfeolbgenpknfaa
