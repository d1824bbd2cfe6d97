/- What is proved here: the program's HitsOf tells no hits where a pattern is not right, or the text or the list is too long; nothing that was there turns. -/
import Derived.Test.YtfeolbgenpknfaaQImplHitsW
namespace Go.Proofs.Ytfeolbgenpknfaa
open Go.RowKit

theorem no_hits (w w1 : World) (hb : Below w.heap.size w w1) : NewHits w [] (.returned (.slice none 0 0)) w1 := ⟨_, rfl, hb, rfl, Or.inl ⟨rfl, rfl⟩⟩
set_option maxHeartbeats 1000000 in
theorem implHits_no (sa : Option Addr) (k cap : Nat) (s : Nat → Option Addr) (n c : Nat → Nat) (f : Nat → Nat → Atm) (t : ByteArray) (w : World) (hk : k ≤ 400) (ht : t.size ≤ 8000) (hr : AARows w w.heap.size sa k s n c f) (hc : ∀ i, i < k → ∀ j, j < n i → (f i j).c.size ≤ maxLen) (hn : ∀ i, i < k → n i ≤ maxLen) (hR : ∃ i, i < k ∧ ¬ PatRight (n i) (f i)) :
    Calls Try.prog 21 #[.slice sa k cap, .string t] w fun e w' => NewHits w [] e w' := by
  have C := endsAll_no sa k cap s n c f t w (by omega) hr hn hc hR
  have h8 : ¬ 8000 < (t.size : Int) := by omega
  have h4 : ¬ 400 < (k : Int) := by omega
  clear hr hc hn hR
  go_enter Try.func21, Try.ntmps21
  go_wp2_with fail
  refine C.mono ?_
  rintro e w1 ⟨rfl, hb⟩
  have HN : Hid (NewHits w [] (.returned (.slice none 0 0)) w1) := no_hits w w1 hb
  clear C hb
  go_wp2_with fail
  go_ret
  exact HN.out
set_option maxHeartbeats 1000000 in
theorem implHits_big (sa : Option Addr) (k cap : Nat) (t : ByteArray) (w : World) (h : ¬ (t.size ≤ 8000 ∧ k ≤ 400)) :
    Calls Try.prog 21 #[.slice sa k cap, .string t] w fun e w' => NewHits w [] e w' := by
  have HN : Hid (NewHits w [] (.returned (.slice none 0 0)) w) := no_hits w w (Below.refl _ _)
  by_cases h8 : 8000 < (t.size : Int)
  · clear h
    go_enter Try.func21, Try.ntmps21
    go_wp2_with fail
    go_ret
    exact HN.out
  · have h4 : 400 < (k : Int) := by omega
    clear h
    go_enter Try.func21, Try.ntmps21
    go_wp2_with fail
    go_ret
    exact HN.out
end Go.Proofs.Ytfeolbgenpknfaa
