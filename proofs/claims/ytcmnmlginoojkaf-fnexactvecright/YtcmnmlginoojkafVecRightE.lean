/- What is proved here: the law of VecRight walks to true at every input, and nothing that was there turns. -/
import Derived.Test.YtcmnmlginoojkafVecRightL
import Derived.Test.YtcmnmlginoojkafVecSpecW
import Derived.Test.YtcmnmlginoojkafImplRightW
namespace Go.Proofs.Ytcmnmlginoojkaf
open Go.RowKit

open Classical in
theorem end_VecRight (b0 : Int) (sa0 : Option Addr) (n0 ca0 : Nat) (f0 : Nat → Int) (w : World) (hm0 : n0 ≤ maxLen) (hr0 : Row w w.heap.size sa0 n0 f0) :
    Calls Try.prog 3 #[.agg #[.int .i64 b0, .slice sa0 n0 ca0]] w fun e w' => e = .returned (.bool true) ∧ Below w.heap.size w w' := by
  exact law_VecRight b0 sa0 n0 ca0 f0 (decide (Right b0 n0 f0)) w hm0 hr0
    (fun hl W x0 k0 r0 => specRight_any b0 x0 n0 k0 f0 W hl r0)
    (fun hl W x0 k0 r0 => implRight_any b0 x0 n0 k0 f0 W hl r0)
end Go.Proofs.Ytcmnmlginoojkaf
