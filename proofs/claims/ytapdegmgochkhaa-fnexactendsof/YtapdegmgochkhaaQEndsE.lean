/- What is proved here: the law of EndsOf walks to true at every input, and nothing that was there turns. -/
import Derived.Test.YtapdegmgochkhaaQEndsL
import Derived.Test.YtapdegmgochkhaaQSpecEndsW
import Derived.Test.YtapdegmgochkhaaQImplEndsW
namespace Go.Proofs.Ytapdegmgochkhaa
open Go.RowKit

set_option maxHeartbeats 1000000 in
theorem specEnds_yes (sa : Option Addr) (n cap : Nat) (f : Nat → Atm) (t : ByteArray) (p : Nat → Bool) (w : World) (hn : n ≤ maxLen) (hr : ARow w w.heap.size sa n f) (hc : ∀ i, i < n → (f i).c.size ≤ maxLen) (ht : t.size ≤ 8000) (hP : PatRight n f) (hp : ∀ e, e ≤ t.size → (p e = true ↔ ∃ s, s < e ∧ Cuts t (atomsL f n) s e)) :
    Calls Try.prog 46 #[.slice sa n cap, .string t] w fun r w' => NewInts w (classL p (t.size + 1)).length (fun i => (classL p (t.size + 1)).getD i 0) r w' := by
  have C := specPRight_yes sa n cap f w hn hr hc hP
  have HP : Hid (PatRight n f) := hP
  have HR : Hid (ARow w w.heap.size sa n f) := hr
  have HQ : Hid (∀ e, e ≤ t.size → (p e = true ↔ ∃ s, s < e ∧ Cuts t (atomsL f n) s e)) := hp
  have h8 : ¬ 8000 < (t.size : Int) := by omega
  clear hn hr hc hP hp
  go_enter Try.func46, Try.ntmps46
  go_wp2_with fail
  refine C.mono ?_
  rintro r w1 ⟨rfl, hb1⟩
  have B1 : Hid (Below w.heap.size w w1) := hb1
  clear hb1 C
  go_wp2_with fail
  refine (l05Ends_any sa n cap f t p w1 HP.out.2.1 (HR.out.late B1.out) ht HP.out.2.2.1 HQ.out).mono ?_
  rintro r w2 ⟨s2, c2, rfl, hb2, ho2⟩
  have N2 : Hid (NewInts w (classL p (t.size + 1)).length (fun i => (classL p (t.size + 1)).getD i 0) (.returned (.slice s2 (classL p (t.size + 1)).length c2)) w2) := ⟨s2, c2, rfl, B1.out.trans (hb2.mono B1.out.size), ho2.low B1.out.size⟩
  clear hb2 ho2
  go_wp2_with fail
  go_ret
  exact N2.out
set_option maxHeartbeats 1000000 in
theorem specEnds_no (sa : Option Addr) (n cap : Nat) (f : Nat → Atm) (t : ByteArray) (w : World) (hn : n ≤ maxLen) (hr : ARow w w.heap.size sa n f) (hc : ∀ i, i < n → (f i).c.size ≤ maxLen) (ht : t.size ≤ maxLen) (h : ¬ (t.size ≤ 8000 ∧ PatRight n f)) :
    Calls Try.prog 46 #[.slice sa n cap, .string t] w fun r w' => NewInts w 0 (fun _ => 0) r w' := by
  unfold maxLen at ht
  have NI : Hid (∀ W x, Below w.heap.size w W → NewInts w 0 (fun _ => 0) (.returned (.slice x 0 0)) W) := fun W x hb => ⟨x, 0, rfl, hb, Or.inl rfl⟩
  by_cases h8 : 8000 < (t.size : Int)
  · go_enter Try.func46, Try.ntmps46
    go_wp2_with fail
    go_ret
    exact NI.out _ _ ((Below.refl _ _).alloc (Nat.le_refl _) _)
  have hP : ¬ PatRight n f := fun hp => h ⟨by omega, hp⟩
  have C := specPRight_no sa n cap f w hn hr hc hP
  clear hn hr hc hP h
  go_enter Try.func46, Try.ntmps46
  go_wp2_with fail
  refine C.mono ?_
  rintro r w1 ⟨rfl, hb1⟩
  have B1 : Hid (Below w.heap.size w w1) := hb1
  clear hb1 C
  go_wp2_with fail
  go_ret
  exact NI.out _ _ (B1.out.alloc B1.out.size _)
open Classical in
theorem end_EndsOf (sa : Option Addr) (n cap : Nat) (f : Nat → Atm) (t : ByteArray) (w : World) (hn : n ≤ maxLen) (hr : ARow w w.heap.size sa n f) (hc : ∀ i, i < n → (f i).c.size ≤ maxLen) (ht : t.size ≤ maxLen) :
    Calls Try.prog 11 #[.slice sa n cap, .string t] w fun e w' => e = .returned (.bool true) ∧ Below w.heap.size w w' := by
  by_cases h : t.size ≤ 8000 ∧ PatRight n f
  · have hl := classL_len (fun e => decide (∃ s, s < e ∧ Cuts t (atomsL f n) s e)) (t.size + 1)
    exact law_EndsOf sa n cap f t (classL (fun e => decide (∃ s, s < e ∧ Cuts t (atomsL f n) s e)) (t.size + 1)).length (fun i => (classL (fun e => decide (∃ s, s < e ∧ Cuts t (atomsL f n) s e)) (t.size + 1)).getD i 0) w ht hn hr hc (by have := h.1; omega)
      (fun _ _ _ W x k hx => specEnds_yes x n k f t _ W hn hx hc h.1 h.2 (fun e _ => decide_eq_true_iff))
      (fun _ _ _ W x k hx => implEnds_yes x n k f t _ W hn hx hc h.1 h.2 (fun e _ => decide_eq_true_iff))
  · exact law_EndsOf sa n cap f t 0 (fun _ => 0) w ht hn hr hc (by omega) (fun _ _ _ W x k hx => specEnds_no x n k f t W hn hx hc ht h) (fun _ _ _ W x k hx => implEnds_no x n k f t W hn hx hc ht h)
end Go.Proofs.Ytapdegmgochkhaa
