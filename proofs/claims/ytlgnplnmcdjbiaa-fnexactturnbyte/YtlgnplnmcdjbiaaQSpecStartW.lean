/- What is proved here: the specification tells where each begins, in new memory, or nothing; nothing that was there turns. -/
import Derived.Test.YtlgnplnmcdjbiaaQSpecCloW
import Derived.Test.YtlgnplnmcdjbiaaQSpecMaskLW
import Derived.Deep.RegionWith
namespace Go.Proofs.Ytlgnplnmcdjbiaa
open Go.RowKit

theorem mfield (b : Int) (s0 s1 s2 s3 s4 : Option Addr) (m c0 c1 c2 c3 c4 : Nat) (w : World) : (Instr.field 50 (.agg #[.int .i64 b, .slice s0 m c0, .int .i64 b, .slice s1 m c1, .int .i64 b, .slice s2 m c2, .int .i64 b, .slice s3 m c3, .int .i64 b, .slice s4 m c4]) 0).run Try.prog w = .ok (.agg #[.int .i64 b, .slice s0 m c0]) w := by kernel_rfl
set_option maxRecDepth 100000 in
set_option maxHeartbeats 4000000 in
theorem l07Start_any (sa : Option Addr) (n cap m : Nat) (f : Nat → Cel) (w : World) (hn0 : 1 ≤ n) (hn : n ≤ 60) (hr : CRow w w.heap.size sa n f) (hm : m = (n + 1 + 31) / 32) :
    Calls Try.prog 124 #[.slice sa n cap] w fun e w' => NewBits w ((n : Int) + 1) m (cloB (skipB f n) (fun j => decide (0 = j))) e w' := by
  have q0 := boxing w 45 0 none 0 0
  have HR : Hid (CRow w w.heap.size sa n f) := hr
  have HMS : Hid (∀ W, Since w W → Calls Try.prog 172 #[.slice sa n cap] W fun e w' => MasksAt W n m f e w') := fun W hW => l06Masks_any sa n cap m f W hn0 hn ((hr.kept hW.below).up hW.size) hm
  have HCL : Hid (∀ (W : World) (sv : Option Addr) (cv : Nat) (g0 : Nat → Int), Since w W → Row W W.heap.size sv m g0 → VecIs g0 (fun j => decide (0 = j)) m → Calls Try.prog 107 #[.slice sa n cap, .agg #[.int .i64 ((n : Int) + 1), .slice sv m cv]] W fun e w' => NewBits W ((n : Int) + 1) m (cloB (skipB f n) (fun j => decide (0 = j))) e w') := fun W sv cv g0 hW hv hg =>
    l07Close_any sa n cap m f sv cv g0 (fun j => decide (0 = j)) W hn ((hr.kept hW.below).up hW.size) hm hv hg (fun j hj => decide_eq_false (by omega))
  have X0 : Hid (Boxed (w.alloc (.cells #[.int .i64 0, .slice none 0 0] 45)) w.heap.size 45 0 none 0 0) := q0.2.1
  have S0 : Hid (Since w (w.alloc (.cells #[.int .i64 0, .slice none 0 0] 45))) := ⟨q0.1⟩
  clear hr hm q0
  go_enter Try.func124, Try.ntmps124
  go_wp2_with fail
  generalize w.alloc (.cells #[.int .i64 0, .slice none 0 0] 45) = v0 at *
  refine (HMS.out v0 S0.out).mono ?_
  rintro e w1 ⟨g0, g1, g2, g3, g4, c0, c1, c2, c3, c4, h0, h1, h2, h3, h4, rfl, hb1, hl, o0, o1, o2, o3, o4, v0', v1', v2', v3', v4'⟩
  dsimp only [masksV, five]
  have S1 : Hid (Since w w1) := since_call S0.out hb1
  have X1 : Hid (Boxed w1 w.heap.size 45 0 none 0 0) := X0.out.kept hb1 rfl
  have hmf := mfield ((n : Int) + 1) (some ⟨g0, 0, none⟩) (some ⟨g1, 0, none⟩) (some ⟨g2, 0, none⟩) (some ⟨g3, 0, none⟩) (some ⟨g4, 0, none⟩) m c0 c1 c2 c3 c4 w1
  have R1 : Hid (Row w1 w1.heap.size (some ⟨g0, 0, none⟩) m h0) := o0.row o0.1
  have V1 : Hid (VecIs h0 (fun j => decide (0 = j)) m) := v0'
  clear hb1 hl o0 o1 o2 o3 o4 v0' v1' v2' v3' v4' X0 S0 HMS
  go_wp2_with fail
  refine (HCL.out w1 _ _ h0 S1.out R1.out V1.out).mono ?_
  rintro e w2 ⟨h, ⟨s3, c9, rfl, hb5, ho5⟩, hv⟩
  unfold vecV
  obtain ⟨a0, a1, a2, a3⟩ := (X1.out.kept hb5 rfl).four
  have xlt := (X1.out.kept hb5 rfl).lt
  have xlt5 := X1.out.lt
  have S5 : Hid (Since w w2) := since_call S1.out hb5
  have O5 : Hid (OwnS w2 w1.heap.size s3 m h) := ho5
  have HV : Hid (VecIs h (cloB (skipB f n) (fun j => decide (0 = j))) m) := hv
  clear hb5 ho5 hv hmf
  go_wp2_with fail
  refine bodyPost_ret (v := vecV ((n : Int) + 1) s3 m c9) (by simp [results, Try.results124, go_sem, vecV, a0, a1]) rfl ?_
  refine ⟨h, ⟨_, _, rfl, (since_set (since_set S5.out (by show w.heap.size ≤ w.heap.size; omega)) (by show w.heap.size ≤ w.heap.size; omega)).below, ?_⟩, HV.out⟩
  rcases O5.out with h | ⟨g5, h1, h2, h3⟩
  · exact Or.inl h
  · exact Or.inr ⟨g5, h1, by omega, (h3.setOther _ _ (by show w.heap.size ≠ g5; omega)).setOther _ _ (by show w.heap.size ≠ g5; omega)⟩
open Classical in
set_option maxHeartbeats 1000000 in
theorem specStart_no (sa : Option Addr) (n cap : Nat) (f : Nat → Cel) (w : World) (hn : n ≤ maxLen) (hr : CRow w w.heap.size sa n f) (hc : ∀ i, i < n → (f i).c.size ≤ maxLen) (h : ¬ CellsOk n f) :
    Calls Try.prog 38 #[.slice sa n cap] w fun e w' => NewVec w 0 0 (fun _ => 0) e w' := by
  have q0 := boxing w 45 0 none 0 0
  have C := specKRight_any sa n cap f (w.alloc (.cells #[.int .i64 0, .slice none 0 0] 45)) hn ((hr.kept q0.1).up q0.1.size) hc
  rw [decide_eq_false h] at C
  clear hn hr hc h
  go_enter Try.func38, Try.ntmps38
  go_wp2_with fail
  generalize w.alloc (.cells #[.int .i64 0, .slice none 0 0] 45) = v0 at *
  refine C.mono ?_
  rintro e w1 ⟨rfl, hb1⟩
  obtain ⟨a0, a1, a2, a3⟩ := (q0.2.1.kept hb1 rfl).four
  have S1 : Hid (Since w w1) := since_call (since_call (since_refl _) q0.1) hb1
  clear C hb1 q0
  go_wp2_with fail
  refine bodyPost_ret (v := vecV 0 none 0 0) (by simp [results, Try.results38, go_sem, vecV, a0, a1]) rfl ?_
  exact ⟨_, _, rfl, (since_set (since_set S1.out (by show w.heap.size ≤ w.heap.size; omega)) (by show w.heap.size ≤ w.heap.size; omega)).below, Or.inl rfl⟩
open Classical in
set_option maxHeartbeats 1000000 in
theorem specStart_yes (sa : Option Addr) (n cap m x : Nat) (f : Nat → Cel) (w : World) (hn : n ≤ maxLen) (hr : CRow w w.heap.size sa n f) (hc : ∀ i, i < n → (f i).c.size ≤ maxLen) (h : CellsOk n f) (hm : m = (n + 1 + 31) / 32) (hx : IsBits x (cloB (skipB f n) (fun j => decide (0 = j)))) :
    Calls Try.prog 38 #[.slice sa n cap] w fun e w' => NewVec w ((n : Int) + 1) m (wordsN x) e w' := by
  have q0 := boxing w 45 0 none 0 0
  have C := specKRight_any sa n cap f (w.alloc (.cells #[.int .i64 0, .slice none 0 0] 45)) hn ((hr.kept q0.1).up q0.1.size) hc
  rw [decide_eq_true h] at C
  have HST : Hid (∀ W, Since w W → Calls Try.prog 124 #[.slice sa n cap] W fun e w' => NewVec W ((n : Int) + 1) m (wordsN x) e w') := fun W hW => (l07Start_any sa n cap m f W h.1 h.2.1 ((hr.kept hW.below).up hW.size) hm).mono (fun _ _ h9 => newBits_words h9 hx)
  clear hn hr hc h hm hx
  go_enter Try.func38, Try.ntmps38
  go_wp2_with fail
  generalize w.alloc (.cells #[.int .i64 0, .slice none 0 0] 45) = v0 at *
  refine C.mono ?_
  rintro e w1 ⟨rfl, hb1⟩
  have X1 : Hid (Boxed w1 w.heap.size 45 0 none 0 0) := q0.2.1.kept hb1 rfl
  have S1 : Hid (Since w w1) := since_call (since_call (since_refl _) q0.1) hb1
  clear C hb1 q0
  go_wp2_with fail
  refine (HST.out w1 S1.out).mono ?_
  rintro e w3 ⟨s3, c3, rfl, hb3, ho3⟩
  unfold vecV
  obtain ⟨a0, a1, a2, a3⟩ := (X1.out.kept hb3 rfl).four
  have S3 : Hid (Since w w3) := since_call S1.out hb3
  have O3 : Hid (OwnS w3 w1.heap.size s3 m (wordsN x)) := ho3
  have l3 : w.heap.size < w3.heap.size := by have := hb3.size; have := X1.out.lt; omega
  have l2 : w.heap.size < w1.heap.size := X1.out.lt
  clear hb3 ho3
  go_wp2_with fail
  refine bodyPost_ret (v := vecV ((n : Int) + 1) s3 m c3) (by simp [results, Try.results38, go_sem, vecV, a0, a1]) rfl ?_
  refine ⟨_, _, rfl, (since_set (since_set S3.out (by show w.heap.size ≤ w.heap.size; omega)) (by show w.heap.size ≤ w.heap.size; omega)).below, ?_⟩
  rcases O3.out with h | ⟨g5, h1, h2, h3⟩
  · exact Or.inl h
  · exact Or.inr ⟨g5, h1, by omega, (h3.setOther _ _ (by show w.heap.size ≠ g5; omega)).setOther _ _ (by show w.heap.size ≠ g5; omega)⟩
end Go.Proofs.Ytlgnplnmcdjbiaa
