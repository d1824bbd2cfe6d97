/- What is proved here: the law of VecGet walks to true at every input, and nothing that was there turns. -/
import Derived.Test.YtcmnmlginoojkafVecGetL
import Derived.Test.YtcmnmlginoojkafGetEndW
namespace Go.Proofs.Ytcmnmlginoojkaf
open Go.RowKit

theorem end_VecGet (b0 : Int) (sa0 : Option Addr) (n0 ca0 : Nat) (f0 : Nat → Int) (a1 : Int) (w : World) (hm0 : n0 ≤ maxLen) (hr0 : Row w w.heap.size sa0 n0 f0) (_ : (Lit.int .i64 a1).wf = true) :
    Calls Try.prog 6 #[.agg #[.int .i64 b0, .slice sa0 n0 ca0], .int .i64 a1] w fun e w' => e = .returned (.bool true) ∧ Below w.heap.size w w' := by
  obtain ⟨r, hr⟩ := got_some b0 n0 f0 a1
  exact law_VecGet b0 sa0 n0 ca0 f0 a1 r w hm0 hr0
    (fun hl W x0 k0 r0 => specGet_any b0 x0 n0 k0 f0 a1 r W hl r0 hr)
    (fun hl W x0 k0 r0 => implGet_any b0 x0 n0 k0 f0 a1 r W hl r0 hr)
end Go.Proofs.Ytcmnmlginoojkaf
