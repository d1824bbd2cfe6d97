/- What is said here: a row of numbers that grows, beside boxes of vectors. -/
import Derived.Test.YtlgnplnmcdjbiaaQRowsMarkWToIntRowW
import Derived.Test.YtlgnplnmcdjbiaaQStepD
import Derived.Test.YtlgnplnmcdjbiaaQClassMToVecIsM
namespace Go.Proofs.Ytlgnplnmcdjbiaa
open Go.RowKit

theorem ints_ne {w : World} {base n p m c : Nat} {b : Int} {s : Option Addr} {v : Value} {xs : List Value} (h : w.ownsRow base 2 1 v n xs) (hx : Boxed w p 45 b s m c) : v.ownBlock ≠ some p := by
  rcases h.2 with ⟨rfl, _⟩ | ⟨g, cap, cur, rfl, _, hh, _⟩
  · intro e
    cases e
  · intro e
    have e2 : g = p := by injection e
    subst e2
    unfold Boxed at hx
    rw [hx] at hh
    injection hh with hh
    injection hh with _ h2 _
    exact absurd h2 (by decide)
theorem ints_other {w w' : World} {base n size p : Nat} {e : TypeId} {v : Value} {xs : List Value} (h : w.ownsRow base e size v n xs) (hg : w.grownBy w' (some p)) (hne : v.ownBlock ≠ some p) : w'.ownsRow base e size v n xs := by
  obtain ⟨hl, h⟩ := h
  refine ⟨hl, ?_⟩
  rcases h with h | ⟨g, cap, cur, h1, h2, h3, h4⟩
  · exact Or.inl h
  · refine Or.inr ⟨g, cap, cur, h1, h2, ?_, h4⟩
    rw [hg.block g (lt_of_block h3) (fun e => hne (by rw [h1]; exact e))]
    exact h3
theorem boxed_row {W W' : World} {p : Nat} {t : TypeId} {x : Int} {sa : Option Addr} {n cap : Nat} {row : Option Nat} (h : Boxed W p t x sa n cap) (hg : W.grownBy W' row) (hne : row ≠ some p) : Boxed W' p t x sa n cap := by
  unfold Boxed
  rw [hg.block p h.lt (fun e => hne e.symm)]
  exact h
theorem own_row {W W' : World} {g n : Nat} {f : Nat → Int} {row : Option Nat} (h : Own W g n f) (hg : W.grownBy W' row) (hne : row ≠ some g) : Own W' g n f := by
  have hb := hg.block g h.1 (fun e => hne e.symm)
  refine ⟨Nat.lt_of_lt_of_le h.1 hg.size, fun i hi => ?_, fun i hi => ?_⟩
  · have := h.2.1 i hi
    simpa [World.cell?, hb] using this
  · have := h.2.2 i hi
    simpa [World.frozen?, hb] using this
theorem boxed_store {W : World} {p : Nat} {t : TypeId} {b b' : Int} {s s' : Option Addr} {n n' c c' : Nat} (h : Boxed W p t b s n c) : Boxed ((W.setCell ⟨p, 0, none⟩ (.int .i64 b')).setCell ⟨p, 1, none⟩ (.slice s' n' c')) p t b' s' n' c' := by
  unfold Boxed at h ⊢
  have h1 := heap_setCell_same W p 0 _ _ (.int .i64 b') h
  have h2 := heap_setCell_same _ p 1 _ _ (.slice s' n' c') h1
  rw [h2]
  rfl
/-- What a statement 'y := ..' over steps leaves: y's box, its bits, whether it hit. -/
def CutT (w : World) (b : Int) (m : Nat) (P : Nat → Bool) (t : Bool) (pv : Value) (wc : World) : Prop := ∃ h : Nat → Int, CutS w b m h t pv wc ∧ VecIs h P m
end Go.Proofs.Ytlgnplnmcdjbiaa
