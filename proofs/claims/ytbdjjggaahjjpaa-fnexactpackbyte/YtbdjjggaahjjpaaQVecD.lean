/- What is said here: vectors in memory: a vector in new memory, how what is owned stays. -/
import Derived.Test.YtbdjjggaahjjpaaQCCRowMToRowsD
namespace Go.Proofs.Ytbdjjggaahjjpaa
open Go.RowKit

/-- A vector's value. -/
def vecV (b : Int) (sa : Option Addr) (n cap : Nat) : Value := .agg #[.int .i64 b, .slice sa n cap]
/-- A vector in new memory. -/
def NewVec (w : World) (b : Int) (n : Nat) (f : Nat → Int) (e : Ending) (w' : World) : Prop :=
  ∃ (sa : Option Addr) (cap : Nat), e = .returned (vecV b sa n cap) ∧ Below w.heap.size w w' ∧ OwnS w' w.heap.size sa n f

theorem bcells {W w1 : World} (hb : Below W.heap.size W w1) : (∀ b o, b < W.heap.size → w1.cell? ⟨b, o, none⟩ = W.cell? ⟨b, o, none⟩) ∧ (∀ b o, b < W.heap.size → w1.frozen? ⟨b, o, none⟩ = W.frozen? ⟨b, o, none⟩) :=
  ⟨fun b o h => hb.cell (p := ⟨b, o, none⟩) h, fun b o h => hb.frozen (p := ⟨b, o, none⟩) h⟩
theorem Own.setOther {w : World} {g n : Nat} {f : Nat → Int} (h : Own w g n f) (p : Addr) (v : Value) (hne : p.block ≠ g) : Own (w.setCell p v) g n f := by
  refine ⟨by simpa [World.setCell] using h.1, fun i hi => ?_, fun i hi => ?_⟩
  · rw [World.cell?_setCell_other _ _ _ _ (fun hh => hne (by rw [hh]))]
    exact h.2.1 i hi
  · rw [World.frozen?_setCell]
    exact h.2.2 i hi
theorem Own.alloc {w : World} {g n : Nat} {f : Nat → Int} (h : Own w g n f) (o : Obj) : Own (w.alloc o) g n f :=
  h.kept (B := w.heap.size) ((Below.refl _ _).alloc (Nat.le_refl _) _) h.1
theorem OwnS.kept {w w' : World} {B lo n : Nat} {sa : Option Addr} {f : Nat → Int} (h : OwnS w lo sa n f) (hb : Below B w w') (hB : B = w.heap.size) : OwnS w' lo sa n f := by
  rcases h with h | ⟨g, h1, h2, h3⟩
  · exact Or.inl h
  · exact Or.inr ⟨g, h1, h2, h3.kept hb (by rw [hB]; exact h3.1)⟩
theorem OwnS.row {w : World} {lo n : Nat} {sa : Option Addr} {f : Nat → Int} (h : OwnS w lo sa n f) : Row w w.heap.size sa n f := by
  rcases h with h | ⟨g, rfl, _, h3⟩
  · exact Or.inl h
  · exact h3.row h3.1
theorem OwnS.congr {w : World} {lo n : Nat} {sa : Option Addr} {f f' : Nat → Int} (h : OwnS w lo sa n f) (he : ∀ i, i < n → f i = f' i) : OwnS w lo sa n f' := by
  rcases h with h | ⟨g, h1, h2, h3⟩
  · exact Or.inl h
  · exact Or.inr ⟨g, h1, h2, h3.congr he⟩
theorem OwnS.low {w : World} {lo lo' n : Nat} {sa : Option Addr} {f : Nat → Int} (h : OwnS w lo sa n f) (hl : lo' ≤ lo) : OwnS w lo' sa n f := by
  rcases h with h | ⟨g, h1, h2, h3⟩
  · exact Or.inl h
  · exact Or.inr ⟨g, h1, by omega, h3⟩
/-- Another slice's block turned: this one stays. -/
theorem OwnS.other {w w' : World} {lo n m : Nat} {sa sb : Option Addr} {f : Nat → Int} (h : OwnS w lo sa n f) (ho : OnlyS w w' sb m) (hne : ∀ g, sb = some ⟨g, 0, none⟩ → 0 < m → sa ≠ some ⟨g, 0, none⟩) : OwnS w' lo sa n f := by
  rcases h with h | ⟨g, rfl, h2, h3⟩
  · exact Or.inl h
  · obtain ⟨row, hg, hr⟩ := ho
    refine Or.inr ⟨g, rfl, h2, ?_⟩
    have hb := hg.block g h3.1 (fun e => by obtain ⟨h4, h5⟩ := hr g e.symm; exact hne g h5 h4 rfl)
    refine ⟨Nat.lt_of_lt_of_le h3.1 hg.size, fun i hi => ?_, fun i hi => ?_⟩
    · have := h3.2.1 i hi
      simpa [World.cell?, hb] using this
    · have := h3.2.2 i hi
      simpa [World.frozen?, hb] using this
/-- A turned block from lo on: what lies below stays. -/
theorem OnlyS.below {w w' : World} {lo n : Nat} {sa : Option Addr} (h : OnlyS w w' sa n) (hl : ∀ g, sa = some ⟨g, 0, none⟩ → 0 < n → lo ≤ g) (hs : lo ≤ w.heap.size) : Below lo w w' := by
  obtain ⟨row, hg, hr⟩ := h
  exact ⟨hg.os, hg.tape, hg.output, hg.size, fun k hk => hg.block k (by omega) (fun e => by
    obtain ⟨h4, h5⟩ := hr k e.symm
    have := hl k h5 h4
    omega)⟩
theorem OwnS.lo {w : World} {lo n : Nat} {sa : Option Addr} {f : Nat → Int} (h : OwnS w lo sa n f) : ∀ g, sa = some ⟨g, 0, none⟩ → 0 < n → lo ≤ g ∧ g < w.heap.size := by
  intro g hg hn
  rcases h with h | ⟨g', h1, h2, h3⟩
  · omega
  · rw [h1] at hg
    injection hg with hg
    injection hg with hg
    subst hg
    exact ⟨h2, h3.1⟩
end Go.Proofs.Ytbdjjggaahjjpaa
