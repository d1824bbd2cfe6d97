/- What is proved here: the law of CellsOf walks to true at every input, and nothing that was there turns. -/
import Derived.Test.YtapdegmgochkhaaQKOfL
import Derived.Test.YtapdegmgochkhaaQSpecKOfW
import Derived.Test.YtapdegmgochkhaaQImplKOfW
namespace Go.Proofs.Ytapdegmgochkhaa
open Go.RowKit

theorem end_CellsOf (sa : Option Addr) (n cap : Nat) (f : Nat → Atm) (w : World) (hn : n ≤ maxLen) (hr : ARow w w.heap.size sa n f) (hc : ∀ i, i < n → (f i).c.size ≤ maxLen) :
    Calls Try.prog 4 #[.slice sa n cap] w fun e w' => e = .returned (.bool true) ∧ Below w.heap.size w w' := by
  by_cases h : PatRight n f
  · have hl : (cellsP (atomsL f n)).length ≤ 1048576 := by
      have h1 := sum_len n h.2.2.1
      have h3 := h.2.2.2
      omega
    exact law_CellsOf sa n cap f (cellsP (atomsL f n)).length (fun i => (cellsP (atomsL f n)).getD i cel0) w hn hr hc hl (fun _ _ W x k hx => specKOf_yes x n k f W hn hx hc h) (fun _ _ W x k hx => implKOf_yes x n k f W hn hx hc h)
  · exact law_CellsOf sa n cap f 0 (fun _ => cel0) w hn hr hc (by omega) (fun _ _ W x k hx => specKOf_no x n k f W hn hx hc h) (fun _ _ W x k hx => implKOf_no x n k f W hn hx hc h)
end Go.Proofs.Ytapdegmgochkhaa
