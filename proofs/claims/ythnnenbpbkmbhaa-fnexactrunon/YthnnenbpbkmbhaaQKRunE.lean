/- What is proved here: the law of RunOn walks to true at every input, and nothing that was there turns. -/
import Derived.Test.YthnnenbpbkmbhaaQKRunL
import Derived.Test.YthnnenbpbkmbhaaQSpecRunW
import Derived.Test.YthnnenbpbkmbhaaQImplRunW
namespace Go.Proofs.Ythnnenbpbkmbhaa
open Go.RowKit

theorem end_RunOn (sa : Option Addr) (n cap : Nat) (f : Nat → Cel) (t : ByteArray) (w : World) (hn : n ≤ maxLen) (hr : CRow w w.heap.size sa n f) (hc : ∀ i, i < n → (f i).c.size ≤ maxLen) (ht : t.size ≤ maxLen) :
    Calls Try.prog 9 #[.slice sa n cap, .string t] w fun e w' => e = .returned (.bool true) ∧ Below w.heap.size w w' := by
  by_cases h : t.size ≤ 8000 ∧ CellsOk n f
  · have hl : (runL f n t).length ≤ 1048576 := by
      have := classL_len (hitP f n t) (t.size + 1)
      have := h.1
      unfold runL
      omega
    exact law_RunOn sa n cap f t (runL f n t).length (fun i => (runL f n t).getD i 0) w ht hn hr hc hl
      (fun _ _ _ W y k hy => specRun_yes y n k f t W hn hy hc h.1 h.2)
      (fun _ _ _ W y k hy => implRun_yes y n k f t W hn hy hc h.1 h.2)
  · exact law_RunOn sa n cap f t 0 (fun _ => 0) w ht hn hr hc (by omega) (fun _ _ _ W y k hy => specRun_no y n k f t W hn hy hc ht h) (fun _ _ _ W y k hy => implRun_no y n k f t W hn hy hc ht h)
end Go.Proofs.Ythnnenbpbkmbhaa
