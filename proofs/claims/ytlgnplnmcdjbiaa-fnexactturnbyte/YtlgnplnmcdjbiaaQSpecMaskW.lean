/- What is proved here: the specification's MasksOf of what is not right hands back nothing, in new memory; where it is right, it hands back what l06Masks does; nothing that was there turns. -/
import Derived.Test.YtlgnplnmcdjbiaaQSpecKRightW
import Derived.Test.YtlgnplnmcdjbiaaQMaskD
namespace Go.Proofs.Ytlgnplnmcdjbiaa
open Go.RowKit

set_option maxRecDepth 100000 in
set_option maxHeartbeats 4000000 in
theorem specMasks_no (sa : Option Addr) (n cap : Nat) (f : Nat → Cel) (w : World) (hn : n ≤ maxLen) (hr : CRow w w.heap.size sa n f) (hc : ∀ i, i < n → (f i).c.size ≤ maxLen) (h : ¬ CellsOk n f) :
    Calls Try.prog 103 #[.slice sa n cap] w fun e w' => NewMasks w 0 0 (fun _ _ => 0) e w' := by
  have q0 := mboxing w 0 (fun _ => none) 0 (fun _ => 0)
  have C := specKRight_any sa n cap f (w.alloc (.cells #[.int .i64 0, .slice none 0 0, .int .i64 0, .slice none 0 0, .int .i64 0, .slice none 0 0, .int .i64 0, .slice none 0 0, .int .i64 0, .slice none 0 0] 50)) hn ((hr.kept q0.1).up q0.1.size) hc
  simp only [h, decide_false] at C
  clear hn hr hc h
  go_enter Try.func103, Try.ntmps103
  go_wp2_with fail
  generalize w.alloc (.cells #[.int .i64 0, .slice none 0 0, .int .i64 0, .slice none 0 0, .int .i64 0, .slice none 0 0, .int .i64 0, .slice none 0 0, .int .i64 0, .slice none 0 0] 50) = v0 at *
  refine C.mono ?_
  rintro e w1 ⟨rfl, hb1⟩
  obtain ⟨a0, a1, a2, a3, a4, a5, a6, a7, a8, a9⟩ := (q0.2.1.kept hb1 rfl).cells
  obtain ⟨f0, f1, f2, f3, f4, f5, f6, f7, f8, f9⟩ := (q0.2.1.kept hb1 rfl).free
  have S1 : Hid (Since w w1) := since_call (since_call (since_refl _) q0.1) hb1
  have l1 : w.heap.size < w1.heap.size := (q0.2.1.kept hb1 rfl).lt
  clear C hb1 q0
  go_wp2_with fail
  refine bodyPost_ret (v := masksV 0 (fun _ => none) 0 (fun _ => 0)) (by simp [results, Try.results103, go_sem, masksV, a0, a1, a2, a3, a4, a5, a6, a7, a8, a9]) rfl ?_
  refine ⟨_, _, fun _ => w.heap.size, rfl, ?_, ⟨Or.inl rfl, Or.inl rfl, Or.inl rfl, Or.inl rfl, Or.inl rfl, by omega⟩, Nat.le_refl _, ?_⟩
  · have hs := S1.out
    repeat (refine Since.below ?_)
    iterate 10 (refine since_set ?_ (by show w.heap.size ≤ w.heap.size; omega))
    exact hs
  · simp [World.setCell]; omega
theorem OnlyM.setS {W W' : World} {lo hi : Nat} {p : Addr} {v : Value} (h : OnlyM W W' lo hi) (h1 : lo ≤ p.block) (h2 : p.block < hi) : OnlyM W (W'.setCell p v) lo hi :=
  ⟨h.os, h.tape, h.output, by simpa [World.setCell] using h.size, fun k hk hd => by rw [Below.heap_setCell _ _ _ _ (fun e => by omega)]; exact h.block k hk hd⟩
set_option maxRecDepth 100000 in
set_option maxHeartbeats 4000000 in
theorem specMasks_yes (sa : Option Addr) (n cap m : Nat) (f : Nat → Cel) (F : Nat → Nat → Int) (w : World) (hn : n ≤ maxLen) (hr : CRow w w.heap.size sa n f) (hc : ∀ i, i < n → (f i).c.size ≤ maxLen) (h : CellsOk n f)
    (hM : ∀ W, CRow W W.heap.size sa n f → Calls Try.prog 172 #[.slice sa n cap] W fun e W' => NewMasks W ((n : Int) + 1) m F e W') :
    Calls Try.prog 103 #[.slice sa n cap] w fun e w' => NewMasks w ((n : Int) + 1) m F e w' := by
  have q0 := mboxing w 0 (fun _ => none) 0 (fun _ => 0)
  have C := specKRight_any sa n cap f (w.alloc (.cells #[.int .i64 0, .slice none 0 0, .int .i64 0, .slice none 0 0, .int .i64 0, .slice none 0 0, .int .i64 0, .slice none 0 0, .int .i64 0, .slice none 0 0] 50)) hn ((hr.kept q0.1).up q0.1.size) hc
  simp only [h, decide_true] at C
  have HR : Hid (CRow w w.heap.size sa n f) := hr
  have HM : Hid (∀ W, CRow W W.heap.size sa n f → Calls Try.prog 172 #[.slice sa n cap] W fun e W' => NewMasks W ((n : Int) + 1) m F e W') := hM
  clear hn hr hc h hM
  go_enter Try.func103, Try.ntmps103
  go_wp2_with fail
  generalize w.alloc (.cells #[.int .i64 0, .slice none 0 0, .int .i64 0, .slice none 0 0, .int .i64 0, .slice none 0 0, .int .i64 0, .slice none 0 0, .int .i64 0, .slice none 0 0] 50) = v0 at *
  refine C.mono ?_
  rintro e w1 ⟨rfl, hb1⟩
  have X1 : Hid (MBox w1 w.heap.size 0 (fun _ => none) 0 (fun _ => 0)) := q0.2.1.kept hb1 rfl
  have S1 : Hid (Since w w1) := since_call (since_call (since_refl _) q0.1) hb1
  have R1 : Hid (CRow w1 w1.heap.size sa n f) := (HR.out.kept S1.out.below).up S1.out.below.size
  clear C hb1 q0
  go_wp2_with fail
  refine (HM.out w1 R1.out).mono ?_
  rintro e w2 ⟨s, c, h, rfl, hb2, hms, hl0, hl5⟩
  unfold masksV
  obtain ⟨a0, a1, a2, a3, a4, a5, a6, a7, a8, a9⟩ := (X1.out.kept hb2 rfl).cells
  obtain ⟨f0, f1, f2, f3, f4, f5, f6, f7, f8, f9⟩ := (X1.out.kept hb2 rfl).free
  have S2 : Hid (Since w w2) := since_call S1.out hb2
  have l1 : w.heap.size < w1.heap.size := X1.out.lt
  have l2 : w.heap.size < w2.heap.size := Nat.lt_of_lt_of_le l1 hb2.size
  have HMS : Hid (MSl w2 h s m F) := hms
  clear hb2 hms
  go_wp2_with fail
  refine bodyPost_ret (v := masksV ((n : Int) + 1) s m c) (by simp [results, Try.results103, go_sem, masksV, a0, a1, a2, a3, a4, a5, a6, a7, a8, a9]) rfl ?_
  refine ⟨s, c, h, rfl, ?_, HMS.out.onlyM (lo := w.heap.size) (hi := w.heap.size + 1) ?_ (Or.inr (by omega)), by omega, ?_⟩
  · have hs := S2.out
    refine Since.below ?_
    iterate 10 (refine since_set ?_ (by show w.heap.size ≤ w.heap.size; omega))
    exact hs
  · iterate 10 (refine OnlyM.setS ?_ (Nat.le_refl _) (Nat.lt_succ_self _))
    exact OnlyM.refl _ _ _
  · simp [World.setCell]; omega
end Go.Proofs.Ytlgnplnmcdjbiaa
