/- What is proved here: the law of TurnStart walks to true at every input, and nothing that was there turns. -/
import Derived.Test.YtlgnplnmcdjbiaaQTStartL
import Derived.Test.YtlgnplnmcdjbiaaQSpecTurnBW
import Derived.Test.YtlgnplnmcdjbiaaQImplTurnW
namespace Go.Proofs.Ytlgnplnmcdjbiaa
open Go.RowKit

theorem end_TurnStart (sa : Option Addr) (n cap : Nat) (f : Nat → Cel) (w : World) (hn : n ≤ maxLen) (hr : CRow w w.heap.size sa n f) (hc : ∀ i, i < n → (f i).c.size ≤ maxLen) :
    Calls Try.prog 7 #[.slice sa n cap] w fun e w' => e = .returned (.bool true) ∧ Below w.heap.size w w' := by
  by_cases h : PlainP n f
  · have hn60 := h.1.2.1
    exact law_TurnStart sa n cap f (n : Int) ((n + 31) / 32) (wordsN (2 ^ n - 1)) w hn hr hc (by omega)
      (fun _ _ W y k hy => specTurnStart_yes y n k _ f W hn hy hc h rfl)
      (fun _ _ W y k hy => implTurnStart_yes y n k _ f W hn hy hc h rfl)
  · exact law_TurnStart sa n cap f 0 0 (fun _ => 0) w hn hr hc (by omega) (fun _ _ W y k hy => specTurnStart_no y n k f W hn hy hc h) (fun _ _ W y k hy => implTurnStart_no y n k f W hn hy hc h)
end Go.Proofs.Ytlgnplnmcdjbiaa
