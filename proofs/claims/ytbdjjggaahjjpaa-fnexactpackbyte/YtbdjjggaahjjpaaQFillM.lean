/- What is said here: a row's table as it is filled, in its block. -/
import Derived.Test.YtbdjjggaahjjpaaQRowOfW
namespace Go.Proofs.Ytbdjjggaahjjpaa
open Go.RowKit

theorem only_setK {a w : World} {b i : Nat} {v : Value} (h : a.grownBy w (some b)) : a.grownBy (w.setCell ⟨b, i, none⟩ v) (some b) :=
  h.trans ⟨rfl, rfl, rfl, by simp [World.setCell], fun k _ hk => Below.heap_setCell _ _ _ _ (fun e => hk (by simp [e]))⟩
theorem grown_drewK {a w : World} {b : Nat} (h : a.grownBy w (some b)) : a.grownBy w.drew (some b) := ⟨h.os, h.tape, h.output, h.size, h.block⟩
theorem KRow.drew {W : World} {b : Nat} {sa : Option Addr} {n cap sk lo : Nat} {d u : Int} {tab : Nat → Nat} (h : KRow W b sa n cap sk lo d u tab) : KRow W.drew b sa n cap sk lo d u tab := ⟨h.c0, h.c1, h.c2, h.c3, h.c4, h.tb, h.fr, h.lt⟩
theorem KRow.set {W : World} {b : Nat} {sa : Option Addr} {n cap sk lo : Nat} {d u : Int} {tab : Nat → Nat} (h : KRow W b sa n cap sk lo d u tab) {x : Nat} (hx : x < 256) (v : Nat) : KRow (W.setCell ⟨b, 6 + x, none⟩ (.int .u64 (v : Int))) b sa n cap sk lo d u (fun j => if j = x then v else tab j) := by
  have hne : ∀ {i : Nat}, i ≠ 6 + x → (⟨b, 6 + x, none⟩ : Addr) ≠ ⟨b, i, none⟩ := fun hi hh => hi (by injection hh with _ h2; exact h2.symm)
  refine ⟨?_, ?_, ?_, ?_, ?_, fun j hj => ?_, fun j hj => by rw [World.frozen?_setCell]; exact h.fr j hj, by simpa [World.setCell] using h.lt⟩
  · rw [World.cell?_setCell_other _ _ _ _ (hne (by omega))]; exact h.c0
  · rw [World.cell?_setCell_other _ _ _ _ (hne (by omega))]; exact h.c1
  · rw [World.cell?_setCell_other _ _ _ _ (hne (by omega))]; exact h.c2
  · rw [World.cell?_setCell_other _ _ _ _ (hne (by omega))]; exact h.c3
  · rw [World.cell?_setCell_other _ _ _ _ (hne (by omega))]; exact h.c4
  · by_cases e : j = x
    · subst e
      rw [World.cell?_setCell_same _ _ _ (h.tb j hj)]
      simp
    · rw [World.cell?_setCell_other _ _ _ _ (hne (by omega)), h.tb j hj]
      simp [e]
/-- The table of a row that is filled for the first k cells, and for the first m bytes of the next one. -/
def TabTo (f : Nat → Cel) (k m : Nat) (tab : Nat → Nat) : Prop := ∀ c, c < 256 → IsBits (tab c) (fun j => behind (fun i => hasByte (f i).c c) k j || (decide (k + 1 = j) && hasUpTo (f k).c m c))
def TabAt (f : Nat → Cel) (k : Nat) (tab : Nat → Nat) : Prop := ∀ c, c < 256 → IsBits (tab c) (behind (fun i => hasByte (f i).c c) k)
theorem tab_zero (f : Nat → Cel) : TabAt f 0 (fun _ => 0) := fun _ _ => behind_zero _
theorem tab_begin {f : Nat → Cel} {k : Nat} {tab : Nat → Nat} (h : TabAt f k tab) : TabTo f k 0 tab := fun c hc => (h c hc).congr (fun j => by rw [hasUpTo_zero, Bool.and_false, Bool.or_false])
theorem tab_end {f : Nat → Cel} {k : Nat} {tab : Nat → Nat} (h : TabTo f k (f k).c.size tab) : TabAt f (k + 1) tab := fun c hc => (h c hc).congr (fun j => by
  rw [hasUpTo_all]
  unfold behind
  by_cases e : k + 1 = j
  · subst e
    simp
  · rw [decide_eq_false e, Bool.false_and, Bool.or_false]
    by_cases e2 : 1 ≤ j ∧ j ≤ k
    · rw [decide_eq_true e2, decide_eq_true (show 1 ≤ j ∧ j ≤ k + 1 by omega)]
    · rw [decide_eq_false e2, decide_eq_false (show ¬ (1 ≤ j ∧ j ≤ k + 1) by omega)])
theorem tab_step {f : Nat → Cel} {k m : Nat} {tab : Nat → Nat} (h : TabTo f k m tab) (hk : k < 63) (hm : m < (f k).c.size) : TabTo f k (m + 1) (fun j => if j = (f k).c[m].toNat then tab j ||| 2 ^ (k + 1) else tab j) := fun c hc => by
  show IsBits (if c = (f k).c[m].toNat then tab c ||| 2 ^ (k + 1) else tab c) _
  by_cases e : c = (f k).c[m].toNat
  · rw [if_pos e]
    refine ((h c hc).or (bits_pow (by omega))).congr (fun j => ?_)
    rw [hasUpTo_succ _ _ _ hm]
    have : ((f k).c[m].toNat == c) = true := by rw [e]; simp
    rw [this]
    by_cases e2 : k + 1 = j
    · subst e2; simp
    · simp [e2]
  · rw [if_neg e]
    refine (h c hc).congr (fun j => ?_)
    rw [hasUpTo_succ _ _ _ hm]
    have : ((f k).c[m].toNat == c) = false := by simp; exact fun h => e h.symm
    rw [this, Bool.or_false]
theorem cells_grown {w W : World} {b n : Nat} {sa : Option Addr} {f : Nat → Cel} (h : CRow w b sa n f) (hg : w.grownBy W (some b)) (hb : b < w.heap.size) : CRow W b sa n f :=
  h.kept ⟨hg.os, hg.tape, hg.output, hg.size, fun j hj => hg.block j (by omega) (fun e => by injection e with e; omega)⟩
theorem KRow.alloc {W : World} {b : Nat} {sa : Option Addr} {n cap sk lo : Nat} {d u : Int} {tab : Nat → Nat} (h : KRow W b sa n cap sk lo d u tab) (o : Obj) : KRow (W.alloc o) b sa n cap sk lo d u tab := h.kept (B := W.heap.size) ((Below.refl _ _).alloc (Nat.le_refl _) _) h.lt
theorem CRow.atK {w : World} {B n k : Nat} {sa : Option Addr} {f : Nat → Cel} (h : CRow w B sa n f) (hk : k < n) : ∃ bb off : Nat, sa = some ⟨bb, off, none⟩ ∧ bb < B ∧ CellAt w bb (off + k * 3) (f k) := by
  rcases h with h | ⟨bb, off, h1, h2, h3⟩
  · omega
  · exact ⟨bb, off, h1, h2, h3 k hk⟩
end Go.Proofs.Ytbdjjggaahjjpaa
