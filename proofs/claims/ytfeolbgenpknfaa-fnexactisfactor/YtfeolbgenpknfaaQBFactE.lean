/- What is proved here: the law of IsFactor walks to true at every input, and nothing that was there turns. -/
import Derived.Test.YtfeolbgenpknfaaQBFactL
import Derived.Test.YtfeolbgenpknfaaQImplFactorW
namespace Go.Proofs.Ytfeolbgenpknfaa
open Go.RowKit

open Classical in
theorem end_IsFactor (sa : Option Addr) (n cap : Nat) (f : Nat → Cel) (t : ByteArray) (w : World) (hn : n ≤ maxLen) (hr : CRow w w.heap.size sa n f) (hc : ∀ i, i < n → (f i).c.size ≤ maxLen) (ht : t.size ≤ maxLen) :
    Calls Try.prog 5 #[.slice sa n cap, .string t] w fun e w' => e = .returned (.bool true) ∧ Below w.heap.size w w' :=
  law_IsFactor sa n cap f t (decide (FactorP n f t)) w ht hn hr hc (fun _ _ _ W x k _ hx => specFactor_any x n k f t W hn hx hc ht) (fun _ _ _ W x k _ hx => implFactor_any x n k f t W hn hx hc ht)
end Go.Proofs.Ytfeolbgenpknfaa
