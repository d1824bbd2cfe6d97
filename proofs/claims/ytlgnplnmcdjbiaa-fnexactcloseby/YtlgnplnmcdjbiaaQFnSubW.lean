/- What is proved here: the program's VecSub hands back the specification's words, in new memory, or nothing; nothing that was there turns. -/
import Derived.Test.YtlgnplnmcdjbiaaQImplSubW
import Derived.Test.YtlgnplnmcdjbiaaQWordNoW
namespace Go.Proofs.Ytlgnplnmcdjbiaa
open Go.RowKit

set_option maxHeartbeats 2000000 in
theorem implVecSub_yes (b : Int) (sa sb : Option Addr) (n ka kb : Nat) (f g : Nat → Int) (w : World) (hn : n ≤ 1048576) (ha : Row w w.heap.size sa n f) (hb : Row w w.heap.size sb n g) (h1 : Right b n f) (h2 : Right b n g) :
    Calls Try.prog 114 #[.agg #[.int .i64 b, .slice sa n ka], .agg #[.int .i64 b, .slice sb n kb]] w fun e w' => NewVec w b n (cutF b n (sumF 1 f (cutF b n (notF g)))) e w' := by
  have HSAME : Hid (∀ i, i < n → cutF b n (difF f g) i = (cutF b n (sumF 1 f (cutF b n (notF g)))) i) := sub_same h1.2.2.2.1 h2.2.2.2.1
  have HA : Hid (Row w w.heap.size sa n f) := ha
  have HF : Hid (∀ i, i < n → 0 ≤ f i ∧ f i ≤ 4294967295) := h1.2.2.2.1
  have H1 : Hid (Right b n f) := h1
  have HB : Hid (Row w w.heap.size sb n g) := hb
  have HG : Hid (∀ i, i < n → 0 ≤ g i ∧ g i ≤ 4294967295) := h2.2.2.2.1
  have H2 : Hid (Right b n g) := h2
  clear hb h2
  clear ha h1
  have hmf : ∀ (fn : Fn) (first cap : Array Value) (w : World), (Instr.makeFunc fn first cap).run Try.prog w = .ok (.func fn first cap) w := fun _ _ _ _ => rfl
  go_enter Try.func114, Try.ntmps114
  go_wp2_with fail
  have q1 := boxing w 45 b sa n ka
  generalize w.alloc (.cells #[.int .i64 b, .slice sa n ka] 45) = v1 at *
  have q2 := boxing v1 45 b sb n kb
  generalize v1.alloc (.cells #[.int .i64 b, .slice sb n kb] 45) = v2 at *
  have q3 := boxing v2 45 0 none 0 0
  generalize v2.alloc (.cells #[.int .i64 0, .slice none 0 0] 45) = v3 at *
  have X3 : Hid (Boxed v3 (w.heap.size + 2) 45 0 none 0 0) := by rw [show w.heap.size + 2 = v2.heap.size by rw [q2.2.2, q1.2.2]]; exact q3.2.1
  have S3 : Hid (Since w v3) := since_call (since_call (since_call (since_refl _) q1.1) q2.1) q3.1
  have z3 : v3.heap.size = w.heap.size + 3 := by rw [q3.2.2, q2.2.2, q1.2.2]
  clear q1 q2 q3
  have hnew : (v3.alloc (.cells #[.int .u32 0] 142)).heap[v3.heap.size]? = some (.cells #[.int .u32 0] 142 (0, 0)) := heap_alloc_new v3 _
  have hb0 : Below v3.heap.size v3 (v3.alloc (.cells #[.int .u32 0] 142)) := (Below.refl _ _).alloc (Nat.le_refl _) _
  have hz0 : (v3.alloc (.cells #[.int .u32 0] 142)).heap.size = v3.heap.size + 1 := by simp
  generalize v3.alloc (.cells #[.int .u32 0] 142) = v4 at *
  have X4 : Hid (Boxed v4 (w.heap.size + 2) 45 0 none 0 0) := X3.out.kept hb0 rfl
  obtain ⟨cq, hcq⟩ : ∃ q, q = v3.heap.size := ⟨_, rfl⟩
  have S4 : Hid (Since w v4) := since_call S3.out hb0
  have RA : Hid (Row v4 v3.heap.size sa n f) := (row_since HA.out S3.out).kept hb0
  have RB : Hid (Row v4 v3.heap.size sb n g) := (row_since HB.out S3.out).kept hb0
  have CA : Hid (v4.cell? ⟨v3.heap.size, 0, none⟩ = some (.int .u32 0) ∧ v4.frozen? ⟨v3.heap.size, 0, none⟩ = false) := ⟨cell_of_one hnew, frozen_of_row _ _ _ _ _ hnew⟩
  have SV : Hid (Below v3.heap.size w v4 → Below w.heap.size w v4) := fun h => h.mono S3.out.size
  clear hnew hb0 X3
  try rw [← z3]
  refine (wordSub_yes b sa sb n ka kb v3.heap.size f g (difF f g) (borF f g) v4 hn RA.out RB.out H1.out H2.out (by omega) CA.out.1 CA.out.2 (fun k _ => bor_range f g k) (fun j _ => by unfold difF; omega) (fun _ _ => ⟨rfl, rfl⟩)).mono ?_
  rintro e w5 ⟨s5, c5, rfl, hb5, ho5⟩
  unfold vecV
  have SW : Hid (Since w w5) := ⟨S4.out.below.trans (hb5.mono (by omega))⟩
  have X5 : Hid (Boxed w5 (w.heap.size + 2) 45 0 none 0 0) := by
    show Boxed w5 (w.heap.size + 2) 45 0 none 0 0
    unfold Boxed
    rw [hb5.block _ (by omega)]
    exact X4.out
  obtain ⟨cc0, cc1, cc2, cc3⟩ := X5.out.four
  have HO : Hid (OwnS w5 v4.heap.size s5 n (cutF b n (sumF 1 f (cutF b n (notF g))))) := ho5.congr HSAME.out
  clear hb5 ho5 X4 X5 S3 S4 SV CA RA RB
  go_wp2
  refine bodyPost_ret (v := vecV b s5 n c5) (by simp [results, Try.results114, go_sem, vecV, cc0, cc1]) rfl ?_
  refine ⟨_, _, rfl, (since_set (since_set SW.out (by show w.heap.size ≤ w.heap.size + 2; omega)) (by show w.heap.size ≤ w.heap.size + 2; omega)).below, ?_⟩
  rcases HO.out with h | ⟨g5, h1, h2, h3⟩
  · exact Or.inl h
  · exact Or.inr ⟨g5, h1, by omega, (h3.setOther _ _ (by show w.heap.size + 2 ≠ g5; omega)).setOther _ _ (by show w.heap.size + 2 ≠ g5; omega)⟩

set_option maxHeartbeats 2000000 in
theorem implVecSub_no (b d : Int) (sa sb : Option Addr) (n m ka kb : Nat) (f g : Nat → Int) (w : World) (hn : n ≤ 1048576) (hm : m ≤ 1048576) (ha : Row w w.heap.size sa n f) (hb : Row w w.heap.size sb m g) (hno : ¬ (Right b n f ∧ Right d m g ∧ b = d)) :
    Calls Try.prog 114 #[.agg #[.int .i64 b, .slice sa n ka], .agg #[.int .i64 d, .slice sb m kb]] w fun e w' => NewVec w 0 0 (fun _ => 0) e w' := by
  have HA : Hid (Row w w.heap.size sa n f) := ha
  have HB : Hid (Row w w.heap.size sb m g) := hb
  have HN : Hid (¬ (Right b n f ∧ Right d m g ∧ b = d)) := hno
  clear ha hb hno
  have hmf : ∀ (fn : Fn) (first cap : Array Value) (w : World), (Instr.makeFunc fn first cap).run Try.prog w = .ok (.func fn first cap) w := fun _ _ _ _ => rfl
  go_enter Try.func114, Try.ntmps114
  go_wp2_with fail
  have q1 := boxing w 45 b sa n ka
  generalize w.alloc (.cells #[.int .i64 b, .slice sa n ka] 45) = v1 at *
  have q2 := boxing v1 45 d sb m kb
  generalize v1.alloc (.cells #[.int .i64 d, .slice sb m kb] 45) = v2 at *
  have q3 := boxing v2 45 0 none 0 0
  generalize v2.alloc (.cells #[.int .i64 0, .slice none 0 0] 45) = v3 at *
  have X3 : Hid (Boxed v3 (w.heap.size + 2) 45 0 none 0 0) := by rw [show w.heap.size + 2 = v2.heap.size by rw [q2.2.2, q1.2.2]]; exact q3.2.1
  have S3 : Hid (Since w v3) := since_call (since_call (since_call (since_refl _) q1.1) q2.1) q3.1
  clear q1 q2 q3
  have hb0 : Below v3.heap.size v3 (v3.alloc (.cells #[.int .u32 0] 142)) := (Below.refl _ _).alloc (Nat.le_refl _) _
  generalize v3.alloc (.cells #[.int .u32 0] 142) = v4 at *
  have X4 : Hid (Boxed v4 (w.heap.size + 2) 45 0 none 0 0) := X3.out.kept hb0 rfl
  have S4 : Hid (Since w v4) := since_call S3.out hb0
  clear hb0 X3 S3
  refine (word_no b d sa sb n m ka kb _ f g v4 hn hm (row_since HA.out S4.out) (row_since HB.out S4.out) HN.out).mono ?_
  rintro e w5 ⟨s5, c5, rfl, hb5, ho5⟩
  unfold vecV
  obtain ⟨cc0, cc1, cc2, cc3⟩ := (X4.out.kept hb5 rfl).four
  have S5 : Hid (Since w w5) := since_call S4.out hb5
  clear hb5 ho5 X4 S4
  go_wp2
  refine bodyPost_ret (v := vecV 0 s5 0 c5) (by simp [results, Try.results114, go_sem, vecV, cc0, cc1]) rfl ?_
  exact ⟨_, _, rfl, (since_set (since_set S5.out (by show w.heap.size ≤ w.heap.size + 2; omega)) (by show w.heap.size ≤ w.heap.size + 2; omega)).below, Or.inl rfl⟩
end Go.Proofs.Ytlgnplnmcdjbiaa
