/- What is proved here: the law of PackOf walks to true at every input, and nothing that was there turns. -/
import Derived.Test.YtbdjjggaahjjpaaQPkOfL
import Derived.Test.YtbdjjggaahjjpaaQImplPkOfW
import Derived.Test.YtbdjjggaahjjpaaQSpecPkOfW
namespace Go.Proofs.Ytbdjjggaahjjpaa
open Go.RowKit

theorem totC_small {n : Nat → Nat} {k : Nat} (h : ∀ i, i < k → n i ≤ 60) : totC n k ≤ 60 * k := by
  induction k with
  | zero => exact Nat.le_refl _
  | succ k ih =>
    have h1 := ih (fun i hi => h i (by omega))
    have h2 := h k (Nat.lt_succ_self k)
    show totC n k + n k ≤ _
    omega
theorem poOf_size (k : Nat) (n : Nat → Nat) (f : Nat → Nat → Cel) : PoSize (poOf k n f) := by
  have hcode : ∀ c : Int, PoSize (poCode c) := fun c => ⟨Nat.zero_le _, Nat.zero_le _, Nat.zero_le _, Nat.zero_le _, Nat.zero_le _⟩
  unfold poOf
  split
  · exact hcode 2
  · split
    · exact hcode 1
    · rename_i h
      have h := Classical.not_not.1 h
      split
      · exact hcode 9
      · have h1 := totC_small (fun i hi => (h.2.2 i hi).2.1)
        have h2 := h.2.1
        refine ⟨?_, ?_, ?_, Nat.zero_le _, Nat.zero_le _⟩
        · show k ≤ 1048576; omega
        · show k ≤ 1048576; omega
        · show totC n k ≤ 1048576; omega
theorem end_PackOf (sr : Option Addr) (k cr : Nat) (s : Nat → Option Addr) (n c : Nat → Nat) (f : Nat → Nat → Cel) (w : World) (hk : k ≤ maxLen) (hr : CCRows w w.heap.size sr k s n c f) (hn : ∀ i, i < k → n i ≤ maxLen) (hc : ∀ i, i < k → ∀ j, j < n i → (f i j).c.size ≤ maxLen) :
    Calls Try.prog 4 #[.slice sr k cr] w fun e w' => e = .returned (.bool true) ∧ Below w.heap.size w w' :=
  law_PackOf sr k cr s n c f (poOf k n f) w hk hr hn hc (poOf_size k n f) (fun W x cx hx => specPackOf_any x k cx n f W hk hn hc hx) (fun W x cx hx => implPackOf_any x k cx n f W hk hn hc hx)
end Go.Proofs.Ytbdjjggaahjjpaa
