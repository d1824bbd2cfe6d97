/- What is proved here: the law of VecNot walks to true at every input, and nothing that was there turns. -/
import Derived.Test.YtcmnmlginoojkagVecNotL
import Derived.Test.YtcmnmlginoojkagSpecNotW
import Derived.Test.YtcmnmlginoojkagFnNotW
namespace Go.Proofs.Ytcmnmlginoojkag
open Go.RowKit

theorem end_VecNot (b0 : Int) (sa0 : Option Addr) (n0 ca0 : Nat) (f0 : Nat → Int) (w : World) (hm0 : n0 ≤ maxLen) (hr0 : Row w w.heap.size sa0 n0 f0) :
    Calls Try.prog 4 #[.agg #[.int .i64 b0, .slice sa0 n0 ca0]] w fun e w' => e = .returned (.bool true) ∧ Below w.heap.size w w' := by
  by_cases h : Right b0 n0 f0
  · exact law_VecNot b0 sa0 n0 ca0 f0 b0 n0 (cutF b0 n0 (notF f0)) w hm0 hr0 (by have := h.2.2.1; have := h.2.1; omega)
      (fun hl W x0 k0 r0 => specVecNot_yes b0 x0 n0 k0 f0 W hl r0 h)
      (fun hl W x0 k0 r0 => implVecNot_yes b0 x0 n0 k0 f0 W hl r0 h)
  · exact law_VecNot b0 sa0 n0 ca0 f0 0 0 (fun _ => 0) w hm0 hr0 (by omega)
      (fun hl W x0 k0 r0 => specVecNot_no b0 x0 n0 k0 f0 W hl r0 h)
      (fun hl W x0 k0 r0 => implVecNot_no b0 x0 n0 k0 f0 W hl r0 h)
end Go.Proofs.Ytcmnmlginoojkag
