/- What is proved here: the law of VecUp walks to true at every input, and nothing that was there turns. -/
import Derived.Test.YtcmnmlginoojkagVecUpL
import Derived.Test.YtcmnmlginoojkagSpecUpW
import Derived.Test.YtcmnmlginoojkagFnUpW
namespace Go.Proofs.Ytcmnmlginoojkag
open Go.RowKit

theorem end_VecUp (b0 : Int) (sa0 : Option Addr) (n0 ca0 : Nat) (f0 : Nat → Int) (w : World) (hm0 : n0 ≤ maxLen) (hr0 : Row w w.heap.size sa0 n0 f0) :
    Calls Try.prog 5 #[.agg #[.int .i64 b0, .slice sa0 n0 ca0]] w fun e w' => e = .returned (.bool true) ∧ Below w.heap.size w w' := by
  by_cases h : Right b0 n0 f0
  · exact law_VecUp b0 sa0 n0 ca0 f0 b0 n0 (cutF b0 n0 (sumF 0 f0 f0)) w hm0 hr0 (by have := h.2.2.1; have := h.2.1; omega)
      (fun hl W x0 k0 r0 => specVecUp_yes b0 x0 n0 k0 f0 W hl r0 h)
      (fun hl W x0 k0 r0 => implVecUp_yes b0 x0 n0 k0 f0 W hl r0 h)
  · exact law_VecUp b0 sa0 n0 ca0 f0 0 0 (fun _ => 0) w hm0 hr0 (by omega)
      (fun hl W x0 k0 r0 => specVecUp_no b0 x0 n0 k0 f0 W hl r0 h)
      (fun hl W x0 k0 r0 => implVecUp_no b0 x0 n0 k0 f0 W hl r0 h)
end Go.Proofs.Ytcmnmlginoojkag
