/- What is proved here: the law of TurnRun walks to true at every input, and nothing that was there turns. -/
import Derived.Test.YtlgnplnmcdjbiaaQTRunL
import Derived.Test.YtlgnplnmcdjbiaaQSpecTurnRW
import Derived.Test.YtlgnplnmcdjbiaaQImplTurnW
namespace Go.Proofs.Ytlgnplnmcdjbiaa
open Go.RowKit

theorem end_TurnRun (sa : Option Addr) (n cap : Nat) (f : Nat → Cel) (t : ByteArray) (w : World) (hn : n ≤ maxLen) (hr : CRow w w.heap.size sa n f) (hc : ∀ i, i < n → (f i).c.size ≤ maxLen) (ht : t.size ≤ maxLen) :
    Calls Try.prog 10 #[.slice sa n cap, .string t] w fun e w' => e = .returned (.bool true) ∧ Below w.heap.size w w' := by
  by_cases h : t.size ≤ 8000 ∧ PlainP n f
  · have hl : (turnL f n t).length ≤ 1048576 := by
      have := classL_len (hitT f n t) (t.size + 1)
      have := h.1
      unfold turnL
      omega
    exact law_TurnRun sa n cap f t (turnL f n t).length (fun i => (turnL f n t).getD i 0) w ht hn hr hc hl
      (fun _ _ _ W y k hy => specTurnRun_yes y n k f t W hn hy hc h.1 h.2)
      (fun _ _ _ W y k hy => implTurnRun_yes y n k f t W hn hy hc h.1 h.2)
  · exact law_TurnRun sa n cap f t 0 (fun _ => 0) w ht hn hr hc (by omega) (fun _ _ _ W y k hy => specTurnRun_no y n k f t W hn hy hc ht h) (fun _ _ _ W y k hy => implTurnRun_no y n k f t W hn hy hc ht h)
end Go.Proofs.Ytlgnplnmcdjbiaa
