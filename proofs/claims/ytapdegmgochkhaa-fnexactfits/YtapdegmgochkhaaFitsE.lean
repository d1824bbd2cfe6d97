/- What is proved here: the law of Fits walks to true at every input, and nothing that was there turns. -/
import Derived.Test.YtapdegmgochkhaaFitsL
import Derived.Test.YtapdegmgochkhaaSpecFitsW
import Derived.Test.YtapdegmgochkhaaImplFitsW
namespace Go.Proofs.Ytapdegmgochkhaa
open Go.RowKit

open Classical in
theorem end_Fits (sa : Option Addr) (n cap : Nat) (f : Nat → Atm) (t : ByteArray) (w : World) (hn : n ≤ maxLen) (hr : ARow w w.heap.size sa n f) (hc : ∀ i, i < n → (f i).c.size ≤ maxLen) (ht : t.size ≤ maxLen) :
    Calls Try.prog 10 #[.slice sa n cap, .string t] w fun e w' => e = .returned (.bool true) ∧ Below w.heap.size w w' :=
  law_Fits sa n cap f t (decide (FitsP n f t)) w ht hn hr hc (fun _ _ _ W x k _ hx => specFits_any x n k f t W hn hx hc ht) (fun _ _ _ W x k _ hx => implFits_any x n k f t W hn hx hc ht)
end Go.Proofs.Ytapdegmgochkhaa
