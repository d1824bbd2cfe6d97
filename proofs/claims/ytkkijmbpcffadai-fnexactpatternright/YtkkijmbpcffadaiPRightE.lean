/- What is proved here: the law of PatternRight walks to true at every input, and nothing that was there turns. -/
import Derived.Test.YtkkijmbpcffadaiPRightL
import Derived.Test.YtkkijmbpcffadaiSpecPRightW
import Derived.Test.YtkkijmbpcffadaiImplPRightW
namespace Go.Proofs.Ytkkijmbpcffadai
open Go.RowKit

open Classical in
theorem end_PatternRight (sa : Option Addr) (n cap : Nat) (f : Nat → Atm) (w : World) (hn : n ≤ maxLen) (hr : ARow w w.heap.size sa n f) (hc : ∀ i, i < n → (f i).c.size ≤ maxLen) :
    Calls Try.prog 4 #[.slice sa n cap] w fun e w' => e = .returned (.bool true) ∧ Below w.heap.size w w' :=
  law_PatternRight sa n cap f (decide (PatRight n f)) w hn hr hc (fun _ _ W x k _ hx => specPRight_any x n k f W hn hx hc) (fun _ _ W x k _ hx => implPRight_any x n k f W hn hx hc)
end Go.Proofs.Ytkkijmbpcffadai
