/- What is proved here: the law of StartOf walks to true at every input, and nothing that was there turns. -/
import Derived.Test.YthnnenbpbkmbhaaQKStartL
import Derived.Test.YthnnenbpbkmbhaaQSpecStartW
import Derived.Test.YthnnenbpbkmbhaaQFillWToWalkOfW
namespace Go.Proofs.Ythnnenbpbkmbhaa
open Go.RowKit

theorem end_StartOf (sa : Option Addr) (n cap : Nat) (f : Nat → Cel) (w : World) (hn : n ≤ maxLen) (hr : CRow w w.heap.size sa n f) (hc : ∀ i, i < n → (f i).c.size ≤ maxLen) :
    Calls Try.prog 7 #[.slice sa n cap] w fun e w' => e = .returned (.bool true) ∧ Below w.heap.size w w' := by
  by_cases h : CellsOk n f
  · have hn60 := h.2.1
    obtain ⟨x, hx⟩ := clo_ex (n := n) (by omega) (skip_le f n) (P := fun j => decide (0 = j)) (fun j hj => decide_eq_false (by omega))
    exact law_StartOf sa n cap f ((n : Int) + 1) ((n + 1 + 31) / 32) (wordsN x) w hn hr hc (by omega)
      (fun _ _ W y k hy => specStart_yes y n k _ x f W hn hy hc h rfl hx)
      (fun _ _ W y k hy => implStart_yes y n k _ x f W hn hy hc h rfl hx)
  · exact law_StartOf sa n cap f 0 0 (fun _ => 0) w hn hr hc (by omega) (fun _ _ W y k hy => specStart_no y n k f W hn hy hc h) (fun _ _ W y k hy => implStart_no y n k f W hn hy hc h)
end Go.Proofs.Ythnnenbpbkmbhaa
