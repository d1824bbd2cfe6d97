/- What is proved here: the law of LoopVec walks to true at every input, and nothing that was there turns. -/
import Derived.Test.YtapdegmgochkhaaQKLoopL
import Derived.Test.YtapdegmgochkhaaQSpecKVecW
import Derived.Test.YtapdegmgochkhaaQImplKVecW
namespace Go.Proofs.Ytapdegmgochkhaa
open Go.RowKit

open Classical in
set_option maxHeartbeats 1000000 in
theorem specLoop_yes (sa : Option Addr) (n cap c m x : Nat) (f : Nat → Cel) (w : World) (hn : n ≤ maxLen) (hr : CRow w w.heap.size sa n f) (hc : ∀ i, i < n → (f i).c.size ≤ maxLen) (h : CellsOk n f) (hc9 : c < 256) (hm : m = (n + 1 + 31) / 32) (hx : IsBits x (behind (asksB f c true) n)) :
    Calls Try.prog 42 #[.slice sa n cap, .int .i64 (c : Int)] w fun e w' => NewVec w ((n : Int) + 1) m (wordsN x) e w' := by
  have q0 := boxing w 42 0 none 0 0
  have C := specKRight_any sa n cap f (w.alloc (.cells #[.int .i64 0, .slice none 0 0] 42)) hn ((hr.kept q0.1).up q0.1.size) hc
  rw [decide_eq_true h] at C
  have HSZ : Hid (∀ i, i < n → (f i).c.size ≤ 256) := okSize (fun i _ hi => right_size hi) h
  have HX : Hid (IsBits x (behind (asksB f c true) n)) := hx
  have HM : Hid (m = (n + 1 + 31) / 32) := hm
  have HR : Hid (CRow w w.heap.size sa n f) := hr
  have hn60 := h.2.1
  have hc0 : (0 : Int) ≤ (c : Int) := by omega
  have hc1 : (c : Int) ≤ 255 := by omega
  clear hn hr hc h hm hx
  go_enter Try.func42, Try.ntmps42
  go_wp2_with fail
  generalize w.alloc (.cells #[.int .i64 0, .slice none 0 0] 42) = v0 at *
  refine C.mono ?_
  rintro e w1 ⟨rfl, hb1⟩
  have X1 : Hid (Boxed w1 w.heap.size 42 0 none 0 0) := q0.2.1.kept hb1 rfl
  have S1 : Hid (Since w w1) := since_call (since_call (since_refl _) q0.1) hb1
  clear C hb1 q0
  go_wp2_with (first | (go_at_call 91; refine (is_yes _ _ _ _ hc0 hc1).mono ?_; rintro e w9 ⟨rfl, hw9⟩; rw [hw9]; clear hw9 w9))
  refine (l06Byte_any sa n cap c m x true f w1 hn60 ((HR.out.kept S1.out.below).up S1.out.size) HSZ.out hc9 HM.out HX.out).mono ?_
  rintro e w3 ⟨s3, c3, rfl, hb3, ho3⟩
  unfold vecV
  obtain ⟨a0, a1, a2, a3⟩ := (X1.out.kept hb3 rfl).four
  have S3 : Hid (Since w w3) := since_call S1.out hb3
  have O3 : Hid (OwnS w3 w1.heap.size s3 m (wordsN x)) := ho3
  have l3 : w.heap.size < w3.heap.size := by have := hb3.size; have := X1.out.lt; omega
  have l2 : w.heap.size < w1.heap.size := X1.out.lt
  clear hb3 ho3
  go_wp2_with fail
  refine bodyPost_ret (v := vecV ((n : Int) + 1) s3 m c3) (by simp [results, Try.results42, go_sem, vecV, a0, a1]) rfl ?_
  refine ⟨_, _, rfl, (since_set (since_set S3.out (by show w.heap.size ≤ w.heap.size; omega)) (by show w.heap.size ≤ w.heap.size; omega)).below, ?_⟩
  rcases O3.out with h | ⟨g5, h1, h2, h3⟩
  · exact Or.inl h
  · exact Or.inr ⟨g5, h1, by omega, (h3.setOther _ _ (by show w.heap.size ≠ g5; omega)).setOther _ _ (by show w.heap.size ≠ g5; omega)⟩
open Classical in
set_option maxHeartbeats 1000000 in
theorem specLoop_no (sa : Option Addr) (n cap : Nat) (en : Int) (f : Nat → Cel) (w : World) (hn : n ≤ maxLen) (hr : CRow w w.heap.size sa n f) (hc : ∀ i, i < n → (f i).c.size ≤ maxLen) (h : ¬ ByteP n f en) :
    Calls Try.prog 42 #[.slice sa n cap, .int .i64 en] w fun e w' => NewVec w 0 0 (fun _ => 0) e w' := by
  have q0 := boxing w 42 0 none 0 0
  have C := specKRight_any sa n cap f (w.alloc (.cells #[.int .i64 0, .slice none 0 0] 42)) hn ((hr.kept q0.1).up q0.1.size) hc
  by_cases hk : CellsOk n f
  · rw [decide_eq_true hk] at C
    have HEN : Hid (¬ (0 ≤ en ∧ en ≤ 255)) := fun h9 => h ⟨hk, h9.1, h9.2⟩
    clear hn hr hc h hk
    go_enter Try.func42, Try.ntmps42
    go_wp2_with fail
    generalize w.alloc (.cells #[.int .i64 0, .slice none 0 0] 42) = v0 at *
    refine C.mono ?_
    rintro e w1 ⟨rfl, hb1⟩
    obtain ⟨a0, a1, a2, a3⟩ := (q0.2.1.kept hb1 rfl).four
    have S1 : Hid (Since w w1) := since_call (since_call (since_refl _) q0.1) hb1
    clear C hb1 q0
    go_wp2_with (first | (go_at_call 91; refine (is_no _ _ _ _ HEN.out).mono ?_; rintro e w9 ⟨rfl, hw9⟩; rw [hw9]; clear hw9 w9))
    refine bodyPost_ret (v := vecV 0 none 0 0) (by simp [results, Try.results42, go_sem, vecV, a0, a1]) rfl ?_
    exact ⟨_, _, rfl, (since_set (since_set S1.out (by show w.heap.size ≤ w.heap.size; omega)) (by show w.heap.size ≤ w.heap.size; omega)).below, Or.inl rfl⟩
  · rw [decide_eq_false hk] at C
    clear hn hr hc h hk
    go_enter Try.func42, Try.ntmps42
    go_wp2_with fail
    generalize w.alloc (.cells #[.int .i64 0, .slice none 0 0] 42) = v0 at *
    refine C.mono ?_
    rintro e w1 ⟨rfl, hb1⟩
    obtain ⟨a0, a1, a2, a3⟩ := (q0.2.1.kept hb1 rfl).four
    have S1 : Hid (Since w w1) := since_call (since_call (since_refl _) q0.1) hb1
    clear C hb1 q0
    go_wp2_with fail
    refine bodyPost_ret (v := vecV 0 none 0 0) (by simp [results, Try.results42, go_sem, vecV, a0, a1]) rfl ?_
    exact ⟨_, _, rfl, (since_set (since_set S1.out (by show w.heap.size ≤ w.heap.size; omega)) (by show w.heap.size ≤ w.heap.size; omega)).below, Or.inl rfl⟩
theorem end_LoopVec (sa : Option Addr) (n cap : Nat) (f : Nat → Cel) (en : Int) (w : World) (hn : n ≤ maxLen) (hr : CRow w w.heap.size sa n f) (hc : ∀ i, i < n → (f i).c.size ≤ maxLen) (_he : (Lit.int .i64 en).wf = true) :
    Calls Try.prog 9 #[.slice sa n cap, .int .i64 en] w fun e w' => e = .returned (.bool true) ∧ Below w.heap.size w w' := by
  by_cases h : ByteP n f en
  · obtain ⟨h1, h2, h3⟩ := h
    obtain ⟨c, rfl⟩ := Int.eq_ofNat_of_zero_le h2
    have hn60 := h1.2.1
    obtain ⟨x, hx⟩ := behind_ex (fun i => hasByte (f i).c c && (f i).o) n (by omega)
    have hx2 : IsBits x (behind (asksB f c true) n) := hx.congr (fun j => by unfold behind asksB; simp)
    exact law_LoopVec sa n cap f (c : Int) ((n : Int) + 1) ((n + 1 + 31) / 32) (wordsN x) w hn hr hc (by omega)
      (fun _ _ W y k hy => specLoop_yes y n k c _ x f W hn hy hc h1 (by omega) rfl hx2)
      (fun _ _ W y k hy => implLoop_yes y n k c _ x f W hn hy hc h1 (by omega) rfl hx)
  · exact law_LoopVec sa n cap f en 0 0 (fun _ => 0) w hn hr hc (by omega) (fun _ _ W y k hy => specLoop_no y n k en f W hn hy hc h) (fun _ _ W y k hy => implLoop_no y n k en f W hn hy hc h)
end Go.Proofs.Ytapdegmgochkhaa
