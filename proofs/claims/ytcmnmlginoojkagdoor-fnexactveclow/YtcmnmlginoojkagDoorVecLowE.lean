/- What is proved here: the law of VecLow walks to true at every input, and nothing that was there turns. -/
import Derived.Test.YtcmnmlginoojkagDoorVecLowL
import Derived.Test.YtcmnmlginoojkagDoorSpecLowW
import Derived.Test.YtcmnmlginoojkagDoorLowW
namespace Go.Proofs.YtcmnmlginoojkagDoor
open Go.RowKit

theorem end_VecLow (b0 : Int) (sa0 : Option Addr) (n0 ca0 : Nat) (f0 : Nat → Int) (w : World) (hm0 : n0 ≤ maxLen) (hr0 : Row w w.heap.size sa0 n0 f0) (hT : Tab w) (hp0 : 0 < w.heap.size) :
    Calls Tryd.prog 3 #[.agg #[.int .i64 b0, .slice sa0 n0 ca0]] w fun e w' => e = .returned (.bool true) ∧ Below w.heap.size w w' := by
  obtain ⟨L, hL⟩ := come_some b0 n0 f0
  exact law_VecLow b0 sa0 n0 ca0 f0 (L.head?.getD (-1)) w hm0 hr0 hT hp0
    (fun hl W x0 k0 r0 => specLow_any b0 x0 n0 k0 f0 L hL W hl r0)
    (fun hl W x0 k0 r0 t0 p0 => callsIn_wide.1 (low_in 3 (by omega) b0 x0 n0 k0 f0 L hL W hl r0 t0 p0))
end Go.Proofs.YtcmnmlginoojkagDoor
