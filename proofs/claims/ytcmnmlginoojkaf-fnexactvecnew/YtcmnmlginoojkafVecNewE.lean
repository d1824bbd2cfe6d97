/- What is proved here: the law of VecNew walks to true at every input, and nothing that was there turns. -/
import Derived.Test.YtcmnmlginoojkafVecNewL
import Derived.Test.YtcmnmlginoojkafSpecNewW
import Derived.Test.YtcmnmlginoojkafNewW
namespace Go.Proofs.Ytcmnmlginoojkaf
open Go.RowKit

theorem end_VecNew (a0 : Int) (w : World) (_ : (Lit.int .i64 a0).wf = true) :
    Calls Try.prog 4 #[.int .i64 a0] w fun e w' => e = .returned (.bool true) ∧ Below w.heap.size w w' := by
  by_cases h : 1 ≤ a0 ∧ a0 ≤ 320
  · obtain ⟨m, hm⟩ : ∃ m : Nat, (m : Int) = (a0 + 31) / 32 := ⟨((a0 + 31) / 32).toNat, by omega⟩
    exact law_VecNew a0 a0 m (fun _ => 0) w (by omega) (fun W => specNew_yes a0 m W h.1 h.2 hm) (fun W => implNew_yes a0 m W h.1 h.2 hm)
  · exact law_VecNew a0 0 0 (fun _ => 0) w (by omega) (fun W => specNew_no a0 W h) (fun W => implNew_no a0 W h)
end Go.Proofs.Ytcmnmlginoojkaf
