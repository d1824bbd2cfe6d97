/- What is proved here: the law of VecXor walks to true at every input, and nothing that was there turns. -/
import Derived.Test.YtcmnmlginoojkagVecXorL
import Derived.Test.YtcmnmlginoojkagSpecXorW
import Derived.Test.YtcmnmlginoojkagFnXorW
namespace Go.Proofs.Ytcmnmlginoojkag
open Go.RowKit

theorem end_VecXor (b0 : Int) (sa0 : Option Addr) (n0 ca0 : Nat) (f0 : Nat → Int) (b1 : Int) (sa1 : Option Addr) (n1 ca1 : Nat) (f1 : Nat → Int) (w : World) (hm0 : n0 ≤ maxLen) (hr0 : Row w w.heap.size sa0 n0 f0) (hm1 : n1 ≤ maxLen) (hr1 : Row w w.heap.size sa1 n1 f1) :
    Calls Try.prog 3 #[.agg #[.int .i64 b0, .slice sa0 n0 ca0], .agg #[.int .i64 b1, .slice sa1 n1 ca1]] w fun e w' => e = .returned (.bool true) ∧ Below w.heap.size w w' := by
  by_cases h : Right b0 n0 f0 ∧ Right b1 n1 f1 ∧ b0 = b1
  · obtain ⟨h1, h2, rfl⟩ := h
    obtain ⟨rfl, hp⟩ := words_same h1 h2 rfl
    exact law_VecXor b0 sa0 n0 ca0 f0 b0 sa1 n0 ca1 f1 b0 n0 (fun i => bits .xor .i64 (f0 i) (f1 i)) w hm0 hr0 hm1 hr1 (by have := h1.2.2.1; have := h1.2.1; omega)
      (fun hl _ W x0 k0 x1 k1 r0 r1 => specVecXor_yes b0 x0 x1 n0 k0 k1 f0 f1 W hl r0 r1 h1 h2)
      (fun hl _ W x0 k0 x1 k1 r0 r1 => implVecXor_yes b0 x0 x1 n0 k0 k1 f0 f1 W hl r0 r1 h1 h2)
  · exact law_VecXor b0 sa0 n0 ca0 f0 b1 sa1 n1 ca1 f1 0 0 (fun _ => 0) w hm0 hr0 hm1 hr1 (by omega)
      (fun hl hl' W x0 k0 x1 k1 r0 r1 => specVecXor_no b0 b1 x0 x1 n0 n1 k0 k1 f0 f1 W hl hl' r0 r1 h)
      (fun hl hl' W x0 k0 x1 k1 r0 r1 => implVecXor_no b0 b1 x0 x1 n0 n1 k0 k1 f0 f1 W hl hl' r0 r1 h)
end Go.Proofs.Ytcmnmlginoojkag
