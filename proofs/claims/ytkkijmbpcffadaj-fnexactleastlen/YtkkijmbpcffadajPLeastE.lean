/- What is proved here: the law of LeastLen walks to true at every input, and nothing that was there turns. -/
import Derived.Test.YtkkijmbpcffadajPLeastL
import Derived.Test.YtkkijmbpcffadajSpecPLenW
import Derived.Test.YtkkijmbpcffadajImplPLenW
namespace Go.Proofs.Ytkkijmbpcffadaj
open Go.RowKit

theorem end_LeastLen (sa : Option Addr) (n cap : Nat) (f : Nat → Atm) (w : World) (hn : n ≤ maxLen) (hr : ARow w w.heap.size sa n f) (hc : ∀ i, i < n → (f i).c.size ≤ maxLen) :
    Calls Try.prog 3 #[.slice sa n cap] w fun e w' => e = .returned (.bool true) ∧ Below w.heap.size w w' := by
  by_cases h : PatRight n f
  · exact law_LeastLen sa n cap f (leastOf n f) w hn hr hc (fun _ _ W x k _ hx => specLeast_yes x n k f W hn hx hc h) (fun _ _ W x k _ hx => implLeast_yes x n k f W hn hx hc h)
  · exact law_LeastLen sa n cap f (-1) w hn hr hc (fun _ _ W x k _ hx => specLeast_no x n k f W hn hx hc h) (fun _ _ W x k _ hx => implLeast_no x n k f W hn hx hc h)
end Go.Proofs.Ytkkijmbpcffadaj
