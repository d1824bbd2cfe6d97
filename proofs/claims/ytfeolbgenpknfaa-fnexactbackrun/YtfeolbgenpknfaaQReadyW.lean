/- What is said here: a row whose table is not made yet, or is made. -/
import Derived.Test.YtfeolbgenpknfaaQFillM
namespace Go.Proofs.Ytfeolbgenpknfaa
open Go.RowKit

/-- A row that is ready: its table is not made yet, or it is made. -/
def Ready (W : World) (b : Nat) (sa : Option Addr) (n cap sk lo : Nat) (f : Nat → Cel) : Prop := KRow W b sa n cap sk lo 0 0 (fun _ => 0) ∨ ∃ tab, KRow W b sa n cap sk lo 1 0 tab ∧ TabAt f n tab
theorem Ready.cells {W : World} {b : Nat} {sa : Option Addr} {n cap sk lo : Nat} {f : Nat → Cel} (h : Ready W b sa n cap sk lo f) : W.cell? ⟨b, 1, none⟩ = some (.int .u64 (sk : Int)) ∧ W.cell? ⟨b, 2, none⟩ = some (.int .u64 (lo : Int)) ∧ b < W.heap.size := by
  rcases h with h | ⟨tab, h, _⟩
  · exact ⟨h.c1, h.c2, h.lt⟩
  · exact ⟨h.c1, h.c2, h.lt⟩
theorem Ready.kept {W W' : World} {B b : Nat} {sa : Option Addr} {n cap sk lo : Nat} {f : Nat → Cel} (h : Ready W b sa n cap sk lo f) (hb : Below B W W') (hB : b < B) : Ready W' b sa n cap sk lo f := by
  rcases h with h | ⟨tab, h, h2⟩
  · exact Or.inl (h.kept hb hB)
  · exact Or.inr ⟨tab, h.kept hb hB, h2⟩
end Go.Proofs.Ytfeolbgenpknfaa
