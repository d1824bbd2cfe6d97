/- What is proved here: the law of Plain walks to true at every input, and nothing that was there turns. -/
import Derived.Test.YtapdegmgochkhaaQKPlainL
import Derived.Test.YtapdegmgochkhaaQPlainW
namespace Go.Proofs.Ytapdegmgochkhaa
open Go.RowKit

open Classical in
theorem end_Plain (sa : Option Addr) (n cap : Nat) (f : Nat → Cel) (w : World) (hn : n ≤ maxLen) (hr : CRow w w.heap.size sa n f) (hc : ∀ i, i < n → (f i).c.size ≤ maxLen) :
    Calls Try.prog 6 #[.slice sa n cap] w fun e w' => e = .returned (.bool true) ∧ Below w.heap.size w w' :=
  law_Plain sa n cap f (decide (PlainP n f)) w hn hr hc (fun _ _ W x k _ hx => specPlain_any x n k f W hn hx hc) (fun _ _ W x k _ hx => implPlain_any x n k f W hn hx hc)
end Go.Proofs.Ytapdegmgochkhaa
