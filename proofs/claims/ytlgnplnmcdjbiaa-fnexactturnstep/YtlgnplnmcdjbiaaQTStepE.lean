/- What is proved here: the law of TurnStep walks to true at every input, and nothing that was there turns. -/
import Derived.Test.YtlgnplnmcdjbiaaQTStepL
import Derived.Test.YtlgnplnmcdjbiaaQSpecTurnStW
import Derived.Test.YtlgnplnmcdjbiaaQImplTurnSW
namespace Go.Proofs.Ytlgnplnmcdjbiaa
open Go.RowKit

open Classical in
theorem end_TurnStep (sa : Option Addr) (n cap : Nat) (f : Nat → Cel) (b1 : Int) (sa1 : Option Addr) (n1 ca1 : Nat) (f1 : Nat → Int) (en : Int) (w : World) (hn : n ≤ maxLen) (hr : CRow w w.heap.size sa n f) (hc : ∀ i, i < n → (f i).c.size ≤ maxLen) (hm1 : n1 ≤ maxLen) (hr1 : Row w w.heap.size sa1 n1 f1) (_he : (Lit.int .i64 en).wf = true) :
    Calls Try.prog 9 #[.slice sa n cap, .agg #[.int .i64 b1, .slice sa1 n1 ca1], .int .i64 en] w fun e w' => e = .returned (.bool true) ∧ Below w.heap.size w w' := by
  by_cases h : TStepP n f b1 n1 f1 en
  · obtain ⟨hk, ⟨hR, rfl⟩, h2, h3⟩ := h
    obtain ⟨c, rfl⟩ := Int.eq_ofNat_of_zero_le h2
    have hn1 := hk.1.1
    have hn60 := hk.1.2.1
    have hm : n1 = (n + 31) / 32 := by have := hR.2.2.1; omega
    obtain ⟨k, hk1⟩ : ∃ k, n = k + 1 := ⟨n - 1, by omega⟩
    have hT : VecIs f1 (bitsOf f1 k) n1 := vecIs_right (n := k) (by omega) (by rw [← int_succ hk1]; exact hR)
    have hTn : ∀ j, n ≤ j → bitsOf f1 k j = false := fun j hj => bitsOf_le f1 k j (by omega)
    obtain ⟨x, hx⟩ : ∃ x, IsBits x (turnB f n (bitsOf f1 k) c) := ⟨_, bits_valB (fun j hj => turn_le f n _ c j (by omega))⟩
    exact law_TurnStep sa n cap f (n : Int) sa1 n1 ca1 f1 (c : Int) (n : Int) n1 (wordsN x) (!turnB f n (bitsOf f1 k) c (n - 1)) w hn hr hc hm1 hr1 (by omega)
      (fun _ _ _ W y k y1 k1 hy hy1 => specTurnStep_yes y n k c f y1 n1 k1 x f1 _ W hn hy hc hy1 hk hm hR hT (by omega) hx)
      (fun _ _ _ W y k y1 k1 hy hy1 => implTurnStep_yes y n k c f y1 n1 k1 x f1 _ W hn hy hc hy1 hk hm hR hT hTn (by omega) hx)
  · exact law_TurnStep sa n cap f b1 sa1 n1 ca1 f1 en 0 0 (fun _ => 0) false w hn hr hc hm1 hr1 (by omega)
      (fun _ _ hl W y k y1 k1 hy hy1 => specTurnStep_no y n k f b1 y1 n1 k1 f1 en W hn hy hc hl hy1 h)
      (fun _ _ hl W y k y1 k1 hy hy1 => implTurnStep_no y n k f b1 y1 n1 k1 f1 en W hn hy hc hl hy1 h)
end Go.Proofs.Ytlgnplnmcdjbiaa
