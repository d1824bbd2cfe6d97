/- What is said here: a step's answer (a vector and whether it hit) in memory: its value, its box, a new one. -/
import Derived.Test.YtlgnplnmcdjbiaaQRowsDToVecS
namespace Go.Proofs.Ytlgnplnmcdjbiaa
open Go.RowKit

/-- A step's answer. -/
def stepV (b : Int) (sa : Option Addr) (n cap : Nat) (h : Bool) : Value := .agg #[.int .i64 b, .slice sa n cap, .bool h]
/-- A step's answer in new memory. -/
def NewStep (w : World) (b : Int) (n : Nat) (f : Nat → Int) (h : Bool) (e : Ending) (w' : World) : Prop :=
  ∃ (sa : Option Addr) (cap : Nat), e = .returned (stepV b sa n cap h) ∧ Below w.heap.size w w' ∧ OwnS w' w.heap.size sa n f
/-- A step's answer lies in a block. -/
def SBox (W : World) (p : Nat) (b : Int) (sa : Option Addr) (n cap : Nat) (h : Bool) : Prop := W.heap[p]? = some (.cells #[.int .i64 b, .slice sa n cap, .bool h] 88 (0, 0))
theorem SBox.cells {W : World} {p : Nat} {b : Int} {sa : Option Addr} {n cap : Nat} {t : Bool} (h : SBox W p b sa n cap t) : W.cell? ⟨p, 0, none⟩ = some (.int .i64 b) ∧ W.cell? ⟨p, 1, none⟩ = some (.slice sa n cap) ∧ W.cell? ⟨p, 2, none⟩ = some (.bool t) := by
  unfold SBox at h
  exact ⟨by simp [World.cell?, h], by simp [World.cell?, h], by simp [World.cell?, h]⟩
theorem SBox.lt {W : World} {p : Nat} {b : Int} {sa : Option Addr} {n cap : Nat} {t : Bool} (h : SBox W p b sa n cap t) : p < W.heap.size := lt_of_block h
theorem SBox.kept {W W' : World} {B p : Nat} {b : Int} {sa : Option Addr} {n cap : Nat} {t : Bool} (h : SBox W p b sa n cap t) (hb : Below B W W') (hB : B = W.heap.size) : SBox W' p b sa n cap t := by
  unfold SBox
  rw [hb.block p (by rw [hB]; exact h.lt)]
  exact h
theorem SBox.only {W W' : World} {lo hi p : Nat} {b : Int} {sa : Option Addr} {n cap : Nat} {t : Bool} (h : SBox W p b sa n cap t) (ho : OnlyIn W W' lo hi) (hp : p < lo ∨ hi ≤ p) : SBox W' p b sa n cap t := by
  obtain ⟨row, hg, hr⟩ := ho
  unfold SBox
  rw [hg.block p h.lt (fun e => by have := hr p e.symm; omega)]
  exact h
theorem SBox.since {w W : World} {p : Nat} {b : Int} {sa : Option Addr} {n cap : Nat} {t : Bool} (h : SBox w p b sa n cap t) (hs : Since w W) : SBox W p b sa n cap t := h.kept hs.below rfl
theorem SBox.six {W : World} {p : Nat} {b : Int} {sa : Option Addr} {n cap : Nat} {t : Bool} (h : SBox W p b sa n cap t) : W.cell? ⟨p, 0, none⟩ = some (.int .i64 b) ∧ W.cell? ⟨p, 1, none⟩ = some (.slice sa n cap) ∧ W.cell? ⟨p, 2, none⟩ = some (.bool t) ∧ W.frozen? ⟨p, 0, none⟩ = false ∧ W.frozen? ⟨p, 1, none⟩ = false ∧ W.frozen? ⟨p, 2, none⟩ = false :=
  ⟨h.cells.1, h.cells.2.1, h.cells.2.2, frozen_of_row _ _ _ _ _ h, frozen_of_row _ _ _ _ _ h, frozen_of_row _ _ _ _ _ h⟩
theorem SBox.setOther {W : World} {p : Nat} {b : Int} {sa : Option Addr} {n cap : Nat} {t : Bool} (h : SBox W p b sa n cap t) (a : Addr) (v : Value) (hne : a.block ≠ p) : SBox (W.setCell a v) p b sa n cap t := by
  unfold SBox
  rw [Below.heap_setCell _ _ _ _ (fun e => hne e.symm)]
  exact h
theorem SBox.drew {W : World} {p : Nat} {b : Int} {sa : Option Addr} {n cap : Nat} {t : Bool} (h : SBox W p b sa n cap t) : SBox W.drew p b sa n cap t := h
/-- A step's answer is put into a box. -/
theorem sboxing (W : World) (b : Int) (sa : Option Addr) (n cap : Nat) (t : Bool) : Below W.heap.size W (W.alloc (.cells #[.int .i64 b, .slice sa n cap, .bool t] 88)) ∧ SBox (W.alloc (.cells #[.int .i64 b, .slice sa n cap, .bool t] 88)) W.heap.size b sa n cap t ∧ (W.alloc (.cells #[.int .i64 b, .slice sa n cap, .bool t] 88)).heap.size = W.heap.size + 1 :=
  ⟨(Below.refl _ _).alloc (Nat.le_refl _) _, heap_alloc_new W _, by simp⟩
/-- What a statement 'x := f(..)' over steps' answers leaves: x's box, its words. -/
def CutS (w : World) (ro : Int) (rn : Nat) (rf : Nat → Int) (rh : Bool) (pv : Value) (wc : World) : Prop :=
  ∃ (p : Nat) (sx : Option Addr) (cx : Nat), pv = .pointer (some ⟨p, 0, none⟩) ∧ Since w wc ∧ w.heap.size ≤ p ∧ p < wc.heap.size ∧ SBox wc p ro sx rn cx rh ∧ Slice wc w.heap.size wc.heap.size sx rn rf
theorem cutS_late {w W : World} {ro : Int} {rn lo : Nat} {rf : Nat → Int} {rh : Bool} {sx : Option Addr} {cx : Nat} (hS : Since w W) (hlo : w.heap.size ≤ lo) (ho : OwnS W lo sx rn rf) :
    CutS w ro rn rf rh (.pointer (some ⟨W.heap.size, 0, none⟩)) (W.alloc (.cells #[.int .i64 ro, .slice sx rn cx, .bool rh] 88)) := by
  have hb := sboxing W ro sx rn cx rh
  refine ⟨_, sx, cx, rfl, since_alloc hS, hS.size, by rw [hb.2.2]; omega, hb.2.1, ?_⟩
  have hk := (ho.low hlo).kept hb.1 rfl
  exact hk.slice
theorem cutS_early {w W : World} {ro : Int} {rn lo p : Nat} {rf : Nat → Int} {rh : Bool} {sx : Option Addr} {cx : Nat} (hS : Since w W) (hx : SBox W p 0 none 0 0 false) (hp : w.heap.size ≤ p) (hlt : p < lo) (ho : OwnS W lo sx rn rf) :
    CutS w ro rn rf rh (.pointer (some ⟨p, 0, none⟩)) (((W.setCell ⟨p, 0, none⟩ (.int .i64 ro)).setCell ⟨p, 1, none⟩ (.slice sx rn cx)).setCell ⟨p, 2, none⟩ (.bool rh)) := by
  refine ⟨p, sx, cx, rfl, since_set (since_set (since_set hS hp) hp) hp, hp, by simpa [World.setCell] using hx.lt, ?_, ?_⟩
  · unfold SBox at hx ⊢
    have h1 := heap_setCell_same W p 0 _ _ (.int .i64 ro) hx
    have h2 := heap_setCell_same _ p 1 _ _ (.slice sx rn cx) h1
    have h3 := heap_setCell_same _ p 2 _ _ (.bool rh) h2
    rw [h3]
    rfl
  · rcases ho with h | ⟨g, h1, h2, h3⟩
    · exact Or.inl h
    · have h4 := ((h3.setOther ⟨p, 0, none⟩ (.int .i64 ro) (by show p ≠ g; omega)).setOther ⟨p, 1, none⟩ (.slice sx rn cx) (by show p ≠ g; omega)).setOther ⟨p, 2, none⟩ (.bool rh) (by show p ≠ g; omega)
      exact Or.inr ⟨g, h1, by omega, h4.1, h4⟩
end Go.Proofs.Ytlgnplnmcdjbiaa
