/- What is proved here: the law of BackRun walks to true at every input, and nothing that was there turns. -/
import Derived.Test.YtfeolbgenpknfaaQBackL
import Derived.Test.YtfeolbgenpknfaaQSpecBackW
namespace Go.Proofs.Ytfeolbgenpknfaa
open Go.RowKit

theorem endsB_ex (n : Nat) (f : Nat → Cel) (t : ByteArray) : ∃ l, EndsB n f t l ∧ l.length ≤ 1048576 := by
  by_cases h : t.size ≤ 8000 ∧ PlainP n f
  · obtain ⟨k, h1, h2⟩ := last_ex f t h.2.1.2.1 h.2.1.1
    refine ⟨endsW n (uptoW n f t h.2.1.2.1 k), ⟨fun _ => ⟨_, k, h2, rfl⟩, fun h' => absurd h h'⟩, ?_⟩
    have h3 := endsW_len n (uptoW n f t h.2.1.2.1 k)
    rw [uptoW_len] at h3
    have := h.1
    omega
  · exact ⟨[], ⟨fun h' => absurd h' h, fun _ => rfl⟩, Nat.zero_le _⟩
theorem end_BackRun (sa : Option Addr) (n cap : Nat) (f : Nat → Cel) (t : ByteArray) (w : World) (hn : n ≤ maxLen) (hr : CRow w w.heap.size sa n f) (hc : ∀ i, i < n → (f i).c.size ≤ maxLen) (ht : t.size ≤ maxLen) :
    Calls Try.prog 8 #[.slice sa n cap, .string t] w fun e w' => e = .returned (.bool true) ∧ Below w.heap.size w w' := by
  obtain ⟨l, hL, hl⟩ := endsB_ex n f t
  exact law_BackRun sa n cap f t l.length (fun i => l.getD i 0) w ht hn hr hc hl
    (fun _ _ _ W y k hy => (specBack_any y n k f t W hn hy hc ht).mono (fun e w' h => by obtain ⟨m, h1, h2⟩ := h; rw [endsB_one hL h1]; exact h2))
    (fun _ _ _ W y k hy => (implBack_any y n k f t W hn hy hc ht).mono (fun e w' h => by obtain ⟨m, h1, h2⟩ := h; rw [endsB_one hL h1]; exact h2))
end Go.Proofs.Ytfeolbgenpknfaa
