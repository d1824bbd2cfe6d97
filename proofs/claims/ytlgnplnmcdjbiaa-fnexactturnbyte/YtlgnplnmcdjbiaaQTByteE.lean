/- What is proved here: the law of TurnByte walks to true at every input, and nothing that was there turns. -/
import Derived.Test.YtlgnplnmcdjbiaaQTByteL
import Derived.Test.YtlgnplnmcdjbiaaQSpecTurnBW
import Derived.Test.YtlgnplnmcdjbiaaQImplTurnW
import Derived.Test.YtlgnplnmcdjbiaaQStepM
namespace Go.Proofs.Ytlgnplnmcdjbiaa
open Go.RowKit

theorem lack_ex (f : Nat → Cel) {n : Nat} (c : Nat) (hn : n ≤ 62) : ∃ x, IsBits x (lackB f n c) := ⟨_, bits_valB (fun j hj => by unfold lackB; rw [decide_eq_false (by omega)]; rfl)⟩
theorem end_TurnByte (sa : Option Addr) (n cap : Nat) (f : Nat → Cel) (en : Int) (w : World) (hn : n ≤ maxLen) (hr : CRow w w.heap.size sa n f) (hc : ∀ i, i < n → (f i).c.size ≤ maxLen) (_he : (Lit.int .i64 en).wf = true) :
    Calls Try.prog 8 #[.slice sa n cap, .int .i64 en] w fun e w' => e = .returned (.bool true) ∧ Below w.heap.size w w' := by
  by_cases h : TurnP n f en
  · obtain ⟨h1, h2, h3⟩ := h
    obtain ⟨c, rfl⟩ := Int.eq_ofNat_of_zero_le h2
    have hn60 := h1.1.2.1
    obtain ⟨x, hx⟩ := lack_ex f (n := n) c (by omega)
    exact law_TurnByte sa n cap f (c : Int) (n : Int) ((n + 31) / 32) (wordsN x) w hn hr hc (by omega)
      (fun _ _ W y k hy => specTurnByte_yes y n k c _ x f W hn hy hc h1 (by omega) rfl hx)
      (fun _ _ W y k hy => implTurnByte_yes y n k c _ x f W hn hy hc h1 (by omega) rfl hx)
  · exact law_TurnByte sa n cap f en 0 0 (fun _ => 0) w hn hr hc (by omega) (fun _ _ W y k hy => specTurnByte_no y n k en f W hn hy hc h) (fun _ _ W y k hy => implTurnByte_no y n k en f W hn hy hc h)
end Go.Proofs.Ytlgnplnmcdjbiaa
