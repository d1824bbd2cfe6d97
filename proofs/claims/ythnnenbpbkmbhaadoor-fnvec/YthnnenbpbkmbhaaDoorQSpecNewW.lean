/- What is proved here: the specification's VecNew hands back so many bits, none of them on, in new memory, or nothing; nothing that was there turns. -/
import Derived.Test.YthnnenbpbkmbhaaDoorQVecSpecWToWordsForW
import Derived.Test.YthnnenbpbkmbhaaDoorQL02NewW
import Derived.Test.YthnnenbpbkmbhaaDoorQLwWToNewW
namespace Go.Proofs.YthnnenbpbkmbhaaDoor
open Go.RowKit

set_option maxHeartbeats 1000000 in
theorem specNew_yes (b : Int) (m : Nat) (w : World) (h0 : 1 ≤ b) (h1 : b ≤ 320) (hm : (m : Int) = (b + 31) / 32) :
    Calls Tryd.prog 21 #[.int .i64 b] w fun e w' => NewVec w b m (fun _ => 0) e w' := by
  have HM : Hid ((m : Int) = (b + 31) / 32) := hm
  clear hm
  go_enter Tryd.func21, Tryd.ntmps21
  go_wp2_with fail
  refine (is_yes b 1 320 _ h0 h1).mono ?_
  rintro e w1 ⟨rfl, hw⟩
  subst hw
  have q3 := boxing w 25 0 none 0 0
  generalize w.alloc (.cells #[.int .i64 0, .slice none 0 0] 25) = v at *
  obtain ⟨qb, qx, qz⟩ := q3
  have X : Hid (Boxed v w.heap.size 25 0 none 0 0) := qx
  have S : Hid (Since w v) := since_call (since_refl _) qb
  clear qx qb
  go_wp2_with fail
  refine (l02New_any b m v h0 h1 HM.out).mono ?_
  rintro e w5 ⟨s5, c5, rfl, hb5, ho5⟩
  unfold vecV
  obtain ⟨cc0, cc1, cc2, cc3⟩ := (X.out.kept hb5 rfl).four
  have HO : Hid (OwnS w5 v.heap.size s5 m (fun _ => 0)) := ho5
  have S5 : Hid (Since w w5) := since_call S.out hb5
  have l5 : w.heap.size < w5.heap.size := by have := hb5.size; omega
  clear hb5 ho5 X S
  go_wp2
  refine bodyPost_ret (v := vecV b s5 m c5) (by simp [results, Tryd.results21, go_sem, vecV, cc0, cc1]) rfl ?_
  refine ⟨_, _, rfl, (since_set (since_set S5.out (by show w.heap.size ≤ w.heap.size; omega)) (by show w.heap.size ≤ w.heap.size; omega)).below, ?_⟩
  rcases HO.out with h | ⟨g5, h1, h2, h3⟩
  · exact Or.inl h
  · exact Or.inr ⟨g5, h1, by omega, (h3.setOther _ _ (by show w.heap.size ≠ g5; omega)).setOther _ _ (by show w.heap.size ≠ g5; omega)⟩
set_option maxHeartbeats 1000000 in
theorem specNew_no (b : Int) (w : World) (h : ¬ (1 ≤ b ∧ b ≤ 320)) :
    Calls Tryd.prog 21 #[.int .i64 b] w fun e w' => NewVec w 0 0 (fun _ => 0) e w' := by
  have S : Hid (Since w (w.alloc (.cells #[.int .i64 0, .slice none 0 0] 25))) := since_alloc (since_refl _)
  have H : Hid (¬ (1 ≤ b ∧ b ≤ 320)) := h
  clear h
  go_enter Tryd.func21, Tryd.ntmps21
  go_wp2_with fail
  refine (is_no b 1 320 _ H.out).mono ?_
  rintro e w1 ⟨rfl, hw⟩
  subst hw
  go_wp2
  refine bodyPost_ret (v := vecV 0 none 0 0) (by simp [results, Tryd.results21, go_sem, vecV]) rfl ?_
  exact ⟨_, _, rfl, S.out.below, Or.inl rfl⟩
end Go.Proofs.YthnnenbpbkmbhaaDoor
