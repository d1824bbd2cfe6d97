/- What is proved here: the law of HitsOf walks to true at every input, and nothing that was there turns. -/
import Derived.Test.YtfeolbgenpknfaaQHitsL
import Derived.Test.YtfeolbgenpknfaaQSpecHitsNW
import Derived.Test.YtfeolbgenpknfaaQImplHitsNW
namespace Go.Proofs.Ytfeolbgenpknfaa
open Go.RowKit

open Classical in
theorem end_HitsOf (sa : Option Addr) (k cap : Nat) (s : Nat → Option Addr) (n c : Nat → Nat) (f : Nat → Nat → Atm) (t : ByteArray) (w : World) (hk : k ≤ maxLen) (hr : AARows w w.heap.size sa k s n c f) (hn : ∀ i, i < k → n i ≤ maxLen) (hc : ∀ i, i < k → ∀ j, j < n i → (f i j).c.size ≤ maxLen) (ht : t.size ≤ maxLen) :
    Calls Try.prog 4 #[.slice sa k cap, .string t] w fun e w' => e = .returned (.bool true) ∧ Below w.heap.size w w' := by
  by_cases h : t.size ≤ 8000 ∧ k ≤ 400
  · by_cases hR : ∀ i, i < k → PatRight (n i) (f i)
    · have hp : ∀ i, i < k → ∀ e, e ≤ t.size → (decide (∃ s, s < e ∧ Cuts t (atomsL (f i) (n i)) s e) = true ↔ ∃ s, s < e ∧ Cuts t (atomsL (f i) (n i)) s e) := fun i _ e _ => decide_eq_true_iff
      have hl := hitsTo_len (fun i e => decide (∃ s, s < e ∧ Cuts t (atomsL (f i) (n i)) s e)) k t.size
      have hm : t.size * k ≤ 8000 * 400 := Nat.mul_le_mul h.1 h.2
      exact law_HitsOf sa k cap s n c f t (hitsTo (fun i e => decide (∃ s, s < e ∧ Cuts t (atomsL (f i) (n i)) s e)) k t.size) w ht hk hr hn hc (by omega)
        (fun W x cx s' c' hx => specHits_yes x k cx s' n c' f t _ W h.2 h.1 hx hc hR hp)
        (fun W x cx s' c' hx => implHits_yes x k cx s' n c' f t _ W h.2 h.1 hx hc hR hp)
    · have hN : ∃ i, i < k ∧ ¬ PatRight (n i) (f i) := Classical.byContradiction (fun h9 => hR (fun i hi => Classical.byContradiction (fun h8 => h9 ⟨i, hi, h8⟩)))
      exact law_HitsOf sa k cap s n c f t [] w ht hk hr hn hc (Nat.zero_le _)
        (fun W x cx s' c' hx => specHits_no x k cx s' n c' f t W h.2 h.1 hx hc hn hN)
        (fun W x cx s' c' hx => implHits_no x k cx s' n c' f t W h.2 h.1 hx hc hn hN)
  · exact law_HitsOf sa k cap s n c f t [] w ht hk hr hn hc (Nat.zero_le _)
      (fun W x cx s' c' hx => specHits_big x k cx t W h) (fun W x cx s' c' hx => implHits_big x k cx t W h)
end Go.Proofs.Ytfeolbgenpknfaa
