/- What is proved here: the law of StartsOf walks to true at every input, and nothing that was there turns. -/
import Derived.Test.YtapdegmgochkhaaStartsL
import Derived.Test.YtapdegmgochkhaaSpecStartsW
import Derived.Test.YtapdegmgochkhaaImplStartsW
namespace Go.Proofs.Ytapdegmgochkhaa
open Go.RowKit

open Classical in
theorem end_StartsOf (sa : Option Addr) (n cap : Nat) (f : Nat → Atm) (t : ByteArray) (en : Int) (w : World) (hn : n ≤ maxLen) (hr : ARow w w.heap.size sa n f) (hc : ∀ i, i < n → (f i).c.size ≤ maxLen) (ht : t.size ≤ maxLen) (_he : (Lit.int .i64 en).wf = true) :
    Calls Try.prog 12 #[.slice sa n cap, .string t, .int .i64 en] w fun e w' => e = .returned (.bool true) ∧ Below w.heap.size w w' := by
  by_cases h : StartsP n f t en
  · obtain ⟨h1, h2, h3, h4⟩ := h
    obtain ⟨e, rfl⟩ := Int.eq_ofNat_of_zero_le h3
    have hl := classL_len (fun s => decide (Cuts t (atomsL f n) s e)) e
    exact law_StartsOf sa n cap f t (e : Int) (classL (fun s => decide (Cuts t (atomsL f n) s e)) e).length (fun i => (classL (fun s => decide (Cuts t (atomsL f n) s e)) e).getD i 0) w ht hn hr hc (by omega)
      (fun _ _ _ W x k hx => specStarts_yes x n k f t e _ W hn hx hc h1 h2 (by omega) (fun s _ => decide_eq_true_iff))
      (fun _ _ _ W x k hx => implStarts_yes x n k f t e _ W hn hx hc h1 h2 (by omega) (fun s _ => decide_eq_true_iff))
  · exact law_StartsOf sa n cap f t en 0 (fun _ => 0) w ht hn hr hc (by omega) (fun _ _ _ W x k hx => specStarts_no x n k f t en W hn hx hc ht h) (fun _ _ _ W x k hx => implStarts_no x n k f t en W hn hx hc ht h)
end Go.Proofs.Ytapdegmgochkhaa
