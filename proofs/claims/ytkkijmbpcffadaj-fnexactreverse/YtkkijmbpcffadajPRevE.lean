/- What is proved here: the law of Reverse walks to true at every input, and nothing that was there turns. -/
import Derived.Test.YtkkijmbpcffadajPRevL
import Derived.Test.YtkkijmbpcffadajSpecRevW
import Derived.Test.YtkkijmbpcffadajImplRevW
import Derived.Test.YtkkijmbpcffadajClassAlg
namespace Go.Proofs.Ytkkijmbpcffadaj
open Go.RowKit

theorem end_Reverse (sa : Option Addr) (n cap : Nat) (f : Nat → Atm) (w : World) (hn : n ≤ maxLen) (hr : ARow w w.heap.size sa n f) (hc : ∀ i, i < n → (f i).c.size ≤ maxLen) :
    Calls Try.prog 5 #[.slice sa n cap] w fun e w' => e = .returned (.bool true) ∧ Below w.heap.size w w' := by
  by_cases h : PatRight n f
  · exact law_Reverse sa n cap f n (fun i => f (n - 1 - i)) w hn hr hc (Nat.le_refl _) (fun hl _ W x k hx => specRev_yes x n k f W hl hx hc h) (fun hl h2 W x k hx => implRev_yes x n k f W hl hx hc (fun i hi => Nat.le_trans (right_size (h.2.2.1 i hi).1) (by omega)) h)
  · exact law_Reverse sa n cap f 0 f w hn hr hc (Nat.zero_le _) (fun hl _ W x k hx => specRev_no x n k f W hl hx hc h) (fun hl h2 W x k hx => implRev_no x n k f W hl hx hc h)
end Go.Proofs.Ytkkijmbpcffadaj
