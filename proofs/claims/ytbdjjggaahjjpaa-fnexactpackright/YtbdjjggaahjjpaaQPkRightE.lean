/- What is proved here: the law of PackRight walks to true at every input, and nothing that was there turns. -/
import Derived.Test.YtbdjjggaahjjpaaQPkRightL
import Derived.Test.YtbdjjggaahjjpaaQPackRightW
import Derived.Test.YtbdjjggaahjjpaaQSpecPkRightW
namespace Go.Proofs.Ytbdjjggaahjjpaa
open Go.RowKit

open Classical in
theorem end_PackRight (sr sm : Option Addr) (cr cm : Nat) (P : Pk) (w : World) (hk : P.k ≤ maxLen) (hm : P.m ≤ maxLen) (hr : PkRead w sr sm P) (hn : ∀ i, i < P.k → P.n i ≤ maxLen) (hc : ∀ i, i < P.k → ∀ j, j < P.n i → (P.f i j).c.size ≤ maxLen) :
    Calls Try.prog 3 #[.agg #[.slice sr P.k cr, .slice sm P.m cm, .int .i64 P.b]] w fun e w' => e = .returned (.bool true) ∧ Below w.heap.size w w' :=
  law_PackRight sr sm cr cm P (decide (PkOk P)) w hk hm hr hn hc (fun W x y cx cy hx => specPackRight_any x y cx cy P W ⟨hk, hm, hn, hc⟩ hx) (fun W x y cx cy hx => implPackRight_any x y cx cy P W ⟨hk, hm, hn, hc⟩ hx)
end Go.Proofs.Ytbdjjggaahjjpaa
