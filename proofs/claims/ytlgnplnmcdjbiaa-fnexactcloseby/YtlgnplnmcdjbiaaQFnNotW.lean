/- What is proved here: the program's VecNot hands back the specification's words, in new memory, or nothing; nothing that was there turns. -/
import Derived.Test.YtlgnplnmcdjbiaaQImplNotW
import Derived.Test.YtlgnplnmcdjbiaaQWordNoW
namespace Go.Proofs.Ytlgnplnmcdjbiaa
open Go.RowKit

set_option maxHeartbeats 2000000 in
theorem implVecNot_yes (b : Int) (sa : Option Addr) (n ka : Nat) (f : Nat → Int) (w : World) (hn : n ≤ 1048576) (ha : Row w w.heap.size sa n f) (h1 : Right b n f) :
    Calls Try.prog 112 #[.agg #[.int .i64 b, .slice sa n ka]] w fun e w' => NewVec w b n (cutF b n (notF f)) e w' := by
  have HA : Hid (Row w w.heap.size sa n f) := ha
  have HF : Hid (∀ i, i < n → 0 ≤ f i ∧ f i ≤ 4294967295) := h1.2.2.2.1
  have H1 : Hid (Right b n f) := h1
  clear ha h1
  go_enter Try.func112, Try.ntmps112
  go_wp2_with fail
  have q1 := boxing w 45 b sa n ka
  generalize w.alloc (.cells #[.int .i64 b, .slice sa n ka] 45) = v1 at *
  have q3 := boxing v1 45 0 none 0 0
  generalize v1.alloc (.cells #[.int .i64 0, .slice none 0 0] 45) = v3 at *
  have X3 : Hid (Boxed v3 (w.heap.size + 1) 45 0 none 0 0) := by rw [← q1.2.2]; exact q3.2.1
  have S3 : Hid (Since w v3) := since_call (since_call (since_refl _) q1.1) q3.1
  have z3 : v3.heap.size = w.heap.size + 2 := by rw [q3.2.2, q1.2.2]
  clear q1 q3
  refine (wordNot_yes b sa sa n ka ka v3.heap.size f f (notF f) v3 hn (row_since HA.out S3.out) (row_since HA.out S3.out) H1.out H1.out (Nat.le_refl _) (fun j hj => by have := HF.out j hj; unfold notF; omega) (fun _ _ => rfl)).mono ?_
  rintro e w4 ⟨s4, c4, rfl, hb4, ho4⟩
  unfold vecV
  obtain ⟨cc0, cc1, cc2, cc3⟩ := (X3.out.kept hb4 rfl).four
  have HO : Hid (OwnS w4 v3.heap.size s4 n (cutF b n (notF f))) := ho4
  have S4 : Hid (Since w w4) := since_call S3.out hb4
  clear hb4 ho4 X3 S3
  go_wp2
  refine bodyPost_ret (v := vecV b s4 n c4) (by simp [results, Try.results112, go_sem, vecV, cc0, cc1]) rfl ?_
  refine ⟨_, _, rfl, (since_set (since_set S4.out (by show w.heap.size ≤ w.heap.size + 1; omega)) (by show w.heap.size ≤ w.heap.size + 1; omega)).below, ?_⟩
  rcases HO.out with h | ⟨g5, h1, h2, h3⟩
  · exact Or.inl h
  · exact Or.inr ⟨g5, h1, by omega, (h3.setOther _ _ (by show w.heap.size + 1 ≠ g5; omega)).setOther _ _ (by show w.heap.size + 1 ≠ g5; omega)⟩

set_option maxHeartbeats 2000000 in
theorem implVecNot_no (b : Int) (sa : Option Addr) (n ka : Nat) (f : Nat → Int) (w : World) (hn : n ≤ 1048576) (ha : Row w w.heap.size sa n f) (hno : ¬ Right b n f) :
    Calls Try.prog 112 #[.agg #[.int .i64 b, .slice sa n ka]] w fun e w' => NewVec w 0 0 (fun _ => 0) e w' := by
  have HA : Hid (Row w w.heap.size sa n f) := ha
  have HN : Hid (¬ Right b n f) := hno
  clear ha hno
  go_enter Try.func112, Try.ntmps112
  go_wp2_with fail
  have q1 := boxing w 45 b sa n ka
  generalize w.alloc (.cells #[.int .i64 b, .slice sa n ka] 45) = v1 at *
  have q3 := boxing v1 45 0 none 0 0
  generalize v1.alloc (.cells #[.int .i64 0, .slice none 0 0] 45) = v3 at *
  have X3 : Hid (Boxed v3 (w.heap.size + 1) 45 0 none 0 0) := by rw [← q1.2.2]; exact q3.2.1
  have S3 : Hid (Since w v3) := since_call (since_call (since_refl _) q1.1) q3.1
  clear q1 q3
  refine (word_no b b sa sa n n ka ka _ f f v3 hn hn (row_since HA.out S3.out) (row_since HA.out S3.out) (fun h => HN.out h.1)).mono ?_
  rintro e w5 ⟨s5, c5, rfl, hb5, ho5⟩
  unfold vecV
  obtain ⟨cc0, cc1, cc2, cc3⟩ := (X3.out.kept hb5 rfl).four
  have S5 : Hid (Since w w5) := since_call S3.out hb5
  clear hb5 ho5 X3 S3
  go_wp2
  refine bodyPost_ret (v := vecV 0 s5 0 c5) (by simp [results, Try.results112, go_sem, vecV, cc0, cc1]) rfl ?_
  exact ⟨_, _, rfl, (since_set (since_set S5.out (by show w.heap.size ≤ w.heap.size + 1; omega)) (by show w.heap.size ≤ w.heap.size + 1; omega)).below, Or.inl rfl⟩
end Go.Proofs.Ytlgnplnmcdjbiaa
