/- What is proved here: the law of PatternText walks to true at every input, and nothing that was there turns. Its condition: the library's table lies. -/
import Derived.Test.YtkkijmbpcffadajDoorPTextL
import Derived.Test.YtkkijmbpcffadajDoorSpecPTextW
import Derived.Test.YtkkijmbpcffadajDoorImplPTextW
namespace Go.Proofs.YtkkijmbpcffadajDoor
open Go.RowKit

theorem end_PatternText (sa : Option Addr) (n cap : Nat) (f : Nat → Atm) (w : World) (hn : n ≤ maxLen) (hr : ARow w w.heap.size sa n f) (hc : ∀ i, i < n → (f i).c.size ≤ maxLen) (hT : Tab64 w) (hp0 : 1 < w.heap.size) :
    Calls Tryd.prog 3 #[.slice sa n cap] w fun e w' => e = .returned (.bool true) ∧ Below w.heap.size w w' := by
  by_cases h : PatRight n f
  · exact law_PatternText sa n cap f (patTo f n) w hn hr hc (fun _ _ W x k _ hx => specPText_yes x n k f W hn hx hc h) (fun _ _ W x k hb hx => implPText_yes x n k f W hn hx hc h (hT.kept hb hp0) (by have := hb.size; omega))
  · exact law_PatternText sa n cap f ⟨#[]⟩ w hn hr hc (fun _ _ W x k _ hx => specPText_no x n k f W hn hx hc h) (fun _ _ W x k hb hx => implPText_no x n k f W hn hx hc h)
end Go.Proofs.YtkkijmbpcffadajDoor
