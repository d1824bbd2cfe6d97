/- What is proved here: the law of BorderOf walks to true at every input, and nothing that was there turns. -/
import Derived.Test.YtfeolbgenpknfaaQBBordL
import Derived.Test.YtfeolbgenpknfaaQImplFactorW
namespace Go.Proofs.Ytfeolbgenpknfaa
open Go.RowKit

theorem borderN_ex (n : Nat) (f : Nat → Cel) (t : ByteArray) : ∃ b, BorderN n f t b := by
  by_cases h : t.size ≤ 8000 ∧ PlainP n f
  · obtain ⟨h1, h2⟩ := border_upto (f := f) (t := t) h.2.1.2.1 t.size (Nat.le_refl _)
    exact ⟨_, fun _ => ⟨h1.imp id (fun h => h.2), fun k h3 h4 h5 => h2 k h3 h5.1 h4 h5⟩, fun h' => absurd h h'⟩
  · exact ⟨0, fun h' => absurd h' h, fun _ => rfl⟩
theorem end_BorderOf (sa : Option Addr) (n cap : Nat) (f : Nat → Cel) (t : ByteArray) (w : World) (hn : n ≤ maxLen) (hr : CRow w w.heap.size sa n f) (hc : ∀ i, i < n → (f i).c.size ≤ maxLen) (ht : t.size ≤ maxLen) :
    Calls Try.prog 6 #[.slice sa n cap, .string t] w fun e w' => e = .returned (.bool true) ∧ Below w.heap.size w w' := by
  obtain ⟨b, hb⟩ := borderN_ex n f t
  exact law_BorderOf sa n cap f t (b : Int) w ht hn hr hc
    (fun _ _ _ W x k _ hx => (specBorder_any x n k f t W hn hx hc ht).mono (fun e w' h => by obtain ⟨⟨c, h1, h2⟩, h3⟩ := h; exact ⟨by rw [h1, borderN_one h2 hb], h3⟩))
    (fun _ _ _ W x k _ hx => (implBorder_any x n k f t W hn hx hc ht).mono (fun e w' h => by obtain ⟨⟨c, h1, h2⟩, h3⟩ := h; exact ⟨by rw [h1, borderN_one h2 hb], h3⟩))
end Go.Proofs.Ytfeolbgenpknfaa
