/- What is proved here: how many words so many bits want, as the program says it; the world stays.
   What is proved here: a new slice of so many zeros, in a world and a block of which nothing more is said.
   What is proved here: VecNew, the program's and the specification's, hands back so many bits, none of them on, in new memory, or nothing; nothing that was there turns. -/
import Derived.Test.YtbdjjggaahjjpaaQVecS
namespace Go.Proofs.Ytbdjjggaahjjpaa
open Go.RowKit

theorem wordsFor_any (b : Int) (w : World) (h0 : 0 ≤ b) (h1 : b ≤ 320) :
    Calls Try.prog 95 #[.int .i64 b] w fun e w' => e = .returned (.int .i64 ((b + 31) / 32)) ∧ w' = w := by
  have h2 : b + 32 - 1 = b + 31 := by omega
  go_enter Try.func95, Try.ntmps95
  go_wp2
  go_ret
  exact ⟨by first | rfl | (rw [h2]), rfl⟩
end Go.Proofs.Ytbdjjggaahjjpaa
namespace Go.Proofs.Ytbdjjggaahjjpaa
open Go.RowKit

theorem make_new (w : World) (N : Nat) (hN : N ≤ 10000000) : ∃ (w' : World) (g : Nat), (Instr.makeSlice 23 (.int .i64 (N : Int)) (.int .i64 (N : Int))).run Try.prog w = .ok (.slice (some ⟨g, 0, none⟩) N N) w' ∧ w.heap.size ≤ g ∧ g < w'.heap.size ∧ Below w.heap.size w w' ∧ Own w' g N (fun _ => 0) := by
  obtain ⟨C, hmk, hown⟩ := make_row w N hN
  exact ⟨_, _, hmk, Nat.le_refl _, by simp, (Below.refl _ _).alloc (Nat.le_refl _) _, hown⟩
end Go.Proofs.Ytbdjjggaahjjpaa
namespace Go.Proofs.Ytbdjjggaahjjpaa
open Go.RowKit

set_option maxHeartbeats 1000000 in
theorem implNew_yes (b : Int) (m : Nat) (w : World) (h0 : 1 ≤ b) (h1 : b ≤ 320) (hm : (m : Int) = (b + 31) / 32) :
    Calls Try.prog 94 #[.int .i64 b] w fun e w' => NewVec w b m (fun _ => 0) e w' := by
  have HM : Hid ((m : Int) = (b + 31) / 32) := hm
  have hm1 : m ≤ 10 := by omega
  clear hm
  go_enter Try.func94, Try.ntmps94
  go_wp2_with fail
  refine (wordsFor_any b _ (by omega) h1).mono ?_
  rintro e w1 ⟨rfl, hw⟩
  subst hw
  rw [← HM.out]
  have q3 := boxing w 36 0 none 0 0
  generalize w.alloc (.cells #[.int .i64 0, .slice none 0 0] 36) = v at *
  obtain ⟨u, g, hmk, hg1, hg2, hbu, hown⟩ := make_new v m (by omega)
  have HO : Hid (Own u g m (fun _ => 0)) := hown
  have S : Hid (Since w u) := since_call (since_call (since_refl _) q3.1) hbu
  obtain ⟨cb0, cb1, cb2, cb3⟩ := (q3.2.1.kept hbu rfl).four
  have l1 : w.heap.size < g := by have := q3.2.2; omega
  have l2 : w.heap.size < u.heap.size := by omega
  clear q3 hown hbu hg1
  go_wp2
  refine bodyPost_ret (v := vecV b (some ⟨g, 0, none⟩) m m) (by simp [results, Try.results94, go_sem, vecV, cb0, cb1]) rfl ?_
  exact ⟨_, _, rfl, (since_set (since_set S.out (by show w.heap.size ≤ w.heap.size; omega)) (by show w.heap.size ≤ w.heap.size; omega)).below, Or.inr ⟨_, rfl, by omega, (HO.out.setOther _ _ (by show w.heap.size ≠ g; omega)).setOther _ _ (by show w.heap.size ≠ g; omega)⟩⟩
set_option maxHeartbeats 1000000 in
theorem implNew_no (b : Int) (w : World) (h : ¬ (1 ≤ b ∧ b ≤ 320)) :
    Calls Try.prog 94 #[.int .i64 b] w fun e w' => NewVec w 0 0 (fun _ => 0) e w' := by
  have S : Hid (Since w (w.alloc (.cells #[.int .i64 0, .slice none 0 0] 36))) := since_alloc (since_refl _)
  rcases (show b < 1 ∨ 1 ≤ b ∧ 320 < b from by omega) with hx | ⟨hx, hx2⟩
  · clear h
    go_enter Try.func94, Try.ntmps94
    go_wp2
    refine bodyPost_ret (v := vecV 0 none 0 0) (by simp [results, Try.results94, go_sem, vecV]) rfl ?_
    exact ⟨_, _, rfl, S.out.below, Or.inl rfl⟩
  · clear h
    go_enter Try.func94, Try.ntmps94
    go_wp2
    refine bodyPost_ret (v := vecV 0 none 0 0) (by simp [results, Try.results94, go_sem, vecV]) rfl ?_
    exact ⟨_, _, rfl, S.out.below, Or.inl rfl⟩
end Go.Proofs.Ytbdjjggaahjjpaa
