/- What is proved here: the law of CloseBy walks to true at every input, and nothing that was there turns. -/
import Derived.Test.YtlgnplnmcdjbiaaQCByL
import Derived.Test.YtlgnplnmcdjbiaaQSpecCByW
import Derived.Test.YtlgnplnmcdjbiaaQSpecCBnW
import Derived.Test.YtlgnplnmcdjbiaaQImplCByW
import Derived.Test.YtlgnplnmcdjbiaaQImplCBnW
namespace Go.Proofs.Ytlgnplnmcdjbiaa
open Go.RowKit

theorem m5_masks {b : Nat → Int} {s : Nat → Option Addr} {n c : Nat → Nat} {bv : Int} {m : Nat} (hb : ∀ i, i < 5 → b i = bv) (hn : ∀ i, i < 5 → n i = m) : m5V b s n c = masksV bv s m c := by
  unfold m5V masksV
  rw [hb 0 (by decide), hb 1 (by decide), hb 2 (by decide), hb 3 (by decide), hb 4 (by decide), hn 0 (by decide), hn 1 (by decide), hn 2 (by decide), hn 3 (by decide), hn 4 (by decide)]
open Classical in
theorem end_CloseBy (b : Nat → Int) (s : Nat → Option Addr) (n c : Nat → Nat) (F : Nat → Nat → Int) (b1 : Int) (sa1 : Option Addr) (n1 ca1 : Nat) (f1 : Nat → Int) (w : World) (hn : ∀ i, i < 5 → n i ≤ maxLen) (hr : M5Row w s n F) (hm1 : n1 ≤ maxLen) (hr1 : Row w w.heap.size sa1 n1 f1) :
    Calls Try.prog 6 #[m5V b s n c, .agg #[.int .i64 b1, .slice sa1 n1 ca1]] w fun e w' => e = .returned (.bool true) ∧ Below w.heap.size w w' := by
  by_cases h : All5 b n F b1 n1 f1 Right
  · have hg : Right b1 n1 f1 := (h 0 (by decide)).2.1
    have hb : ∀ i, i < 5 → b i = b1 := fun i hi => (h i hi).2.2
    have hnn : ∀ i, i < 5 → n i = n1 := fun i hi => (words_same (h i hi).1 hg (hb i hi)).1
    have hF : ∀ i, i < 5 → Right b1 n1 (F i) := fun i hi => by
      have h9 := (h i hi).1
      rw [hb i hi, hnn i hi] at h9
      exact h9
    have hl : n1 ≤ 1048576 := by have := hg.2.1; have := hg.2.2.1; omega
    exact law_CloseBy b s n c F b1 sa1 n1 ca1 f1 b1 n1 (cyF b1 n1 (F 2) (F 3) (F 4) f1) w hn hr hm1 hr1 hl
      (fun _ _ W x k x1 k1 hx hx1 => by
        rw [m5_masks hb hnn]
        exact specCBy_yes b1 x n1 k F x1 k1 f1 W hl (fun i hi => by have h9 := hx i hi; rw [hnn i hi] at h9; exact h9) hx1 hF hg)
      (fun _ _ W x k x1 k1 hx hx1 => by
        rw [m5_masks hb hnn]
        exact implCBy_yes b1 x n1 k F x1 k1 f1 W hl (fun i hi => by have h9 := hx i hi; rw [hnn i hi] at h9; exact h9) hx1 hF hg)
  · exact law_CloseBy b s n c F b1 sa1 n1 ca1 f1 0 0 (fun _ => 0) w hn hr hm1 hr1 (by omega)
      (fun hl5 hl W x k x1 k1 hx hx1 => specCBy_no b x n k F b1 x1 n1 k1 f1 W hl5 hl hx hx1 h)
      (fun hl5 hl W x k x1 k1 hx hx1 => implCBy_no b x n k F b1 x1 n1 k1 f1 W hl5 hl hx hx1 h)
end Go.Proofs.Ytlgnplnmcdjbiaa
