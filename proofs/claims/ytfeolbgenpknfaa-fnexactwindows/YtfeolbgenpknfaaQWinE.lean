/- What is proved here: the law of Windows walks to true at every input, and nothing that was there turns. -/
import Derived.Test.YtfeolbgenpknfaaQWinL
import Derived.Test.YtfeolbgenpknfaaQSpecWinW
namespace Go.Proofs.Ytfeolbgenpknfaa
open Go.RowKit

theorem winP_ex (n : Nat) (f : Nat → Cel) (t : ByteArray) : ∃ L, WinP n f t L ∧ L.length ≤ 1048576 := by
  by_cases h : t.size ≤ 8000 ∧ PlainP n f
  · obtain ⟨k, h1, h2⟩ := last_ex f t h.2.1.2.1 h.2.1.1
    refine ⟨(uptoW n f t h.2.1.2.1 k).map Prod.fst, ⟨fun _ => ⟨_, k, h2, rfl⟩, fun h' => absurd h h'⟩, ?_⟩
    rw [List.length_map, uptoW_len]
    have := h.1
    omega
  · exact ⟨[], ⟨fun h' => absurd h' h, fun _ => rfl⟩, Nat.zero_le _⟩
theorem end_Windows (sa : Option Addr) (n cap : Nat) (f : Nat → Cel) (t : ByteArray) (w : World) (hn : n ≤ maxLen) (hr : CRow w w.heap.size sa n f) (hc : ∀ i, i < n → (f i).c.size ≤ maxLen) (ht : t.size ≤ maxLen) :
    Calls Try.prog 7 #[.slice sa n cap, .string t] w fun e w' => e = .returned (.bool true) ∧ Below w.heap.size w w' := by
  obtain ⟨L, hL, hl⟩ := winP_ex n f t
  exact law_Windows sa n cap f t L w ht hn hr hc hl
    (fun _ _ _ W y k hy => (specWin_any y n k f t W hn hy hc ht).mono (fun e w' h => by obtain ⟨M, h1, h2⟩ := h; rw [winP_one hL h1]; exact h2))
    (fun _ _ _ W y k hy => (implWin_any y n k f t W hn hy hc ht).mono (fun e w' h => by obtain ⟨M, h1, h2⟩ := h; rw [winP_one hL h1]; exact h2))
end Go.Proofs.Ytfeolbgenpknfaa
