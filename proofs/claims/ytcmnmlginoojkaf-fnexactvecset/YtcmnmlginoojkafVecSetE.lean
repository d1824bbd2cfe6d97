/- What is proved here: the law of VecSet walks to true at every input, and nothing that was there turns. -/
import Derived.Test.YtcmnmlginoojkafVecSetL
import Derived.Test.YtcmnmlginoojkafSpecSetW
import Derived.Test.YtcmnmlginoojkafImplSetW
namespace Go.Proofs.Ytcmnmlginoojkaf
open Go.RowKit

theorem end_VecSet (b0 : Int) (sa0 : Option Addr) (n0 ca0 : Nat) (f0 : Nat → Int) (a1 : Int) (a2 : Bool) (w : World) (hm0 : n0 ≤ maxLen) (hr0 : Row w w.heap.size sa0 n0 f0) (_ : (Lit.int .i64 a1).wf = true) :
    Calls Try.prog 5 #[.agg #[.int .i64 b0, .slice sa0 n0 ca0], .int .i64 a1, .bool a2] w fun e w' => e = .returned (.bool true) ∧ Below w.heap.size w w' := by
  by_cases h : HasBit b0 n0 f0 a1
  · obtain ⟨k, q, e1, e2, hk, hq, _, _⟩ := bit_place h
    exact law_VecSet b0 sa0 n0 ca0 f0 a1 a2 b0 n0 (setF f0 k q a2) w hm0 hr0 (by have := h.1.2.2.1; have := h.1.2.1; omega)
      (fun hl W x0 k0 r0 => specSet_yes b0 x0 n0 k0 k q f0 a1 a2 W hl r0 h e1 e2 hk hq)
      (fun hl W x0 k0 r0 => implSet_yes b0 x0 n0 k0 k q f0 a1 a2 W hl r0 h e1 e2 hk hq)
  · exact law_VecSet b0 sa0 n0 ca0 f0 a1 a2 0 0 (fun _ => 0) w hm0 hr0 (by omega)
      (fun hl W x0 k0 r0 => specSet_no b0 x0 n0 k0 f0 a1 a2 W hl r0 h)
      (fun hl W x0 k0 r0 => implSet_no b0 x0 n0 k0 f0 a1 a2 W hl r0 h)
end Go.Proofs.Ytcmnmlginoojkaf
