/- What is proved here: Plain, the program's and the specification's, says whether a row is right and none of its cells is passed by or again; nothing that was there turns. -/
import Derived.Test.YtfeolbgenpknfaaQRowOfW
import Derived.Test.YtfeolbgenpknfaaQSpecKRightW
import Derived.Deep.QuietTactic
import Derived.BigQuiet
namespace Go.Proofs.Ytfeolbgenpknfaa
open Go.RowKit

/-- A row is plain. -/
def PlainP (n : Nat) (f : Nat → Cel) : Prop := CellsOk n f ∧ ∀ i, i < n → (f i).k = false ∧ (f i).o = false
theorem plain_bits {n sk lo : Nat} {f : Nat → Cel} (h : CellsOk n f) (h1 : IsBits sk (behind (fun i => (f i).k) n)) (h2 : IsBits lo (behind (fun i => (f i).o) n)) : sk ||| lo = 0 ↔ PlainP n f := by
  rw [(h1.or h2).none]
  constructor
  · intro h3
    refine ⟨h, fun i hi => ?_⟩
    have h4 := h3 (i + 1)
    unfold behind at h4
    rw [decide_eq_true (show 1 ≤ i + 1 ∧ i + 1 ≤ n by omega)] at h4
    simpa using h4
  · rintro ⟨_, h3⟩ j
    unfold behind
    by_cases e : 1 ≤ j ∧ j ≤ n
    · rw [decide_eq_true e]
      have h4 := h3 (j - 1) (by omega)
      simp [h4.1, h4.2]
    · rw [decide_eq_false e]
      rfl
theorem below_drewK {a w : World} {B : Nat} (n : Nat) (h : Below B a w) : Below B a (w.drewN n) := ⟨h.os, h.tape, h.output, h.size, h.block⟩
open Classical in
set_option maxRecDepth 100000 in
set_option maxHeartbeats 2000000 in
theorem implPlain_any (sa : Option Addr) (n cap : Nat) (f : Nat → Cel) (w : World) (hn : n ≤ maxLen) (hr : CRow w w.heap.size sa n f) (hc : ∀ i, i < n → (f i).c.size ≤ maxLen) :
    Calls Try.prog 106 #[.slice sa n cap] w fun e w' => e = .returned (.bool (decide (PlainP n f))) ∧ Below w.heap.size w w' := by
  by_cases h : CellsOk n f
  · have C := rowOf_yes sa n cap f w hn hr hc h
    have HC : Hid (CellsOk n f) := h
    clear hn hr hc h
    go_enter Try.func106, Try.ntmps106
    go_wp2_with fail
    refine C.mono ?_
    rintro e w1 ⟨b, sk, lo, rfl, _, hb1, hsk, hlo, hrow⟩
    have B1 : Hid (Below w.heap.size w w1) := hb1
    have hiff := plain_bits HC.out hsk hlo
    have hor := or64 hsk.lt hlo.lt
    have c1 := hrow.c1
    have c2 := hrow.c2
    have hlt := hrow.lt
    clear hb1 C hsk hlo hrow
    generalize sk ||| lo = z at *
    by_cases hz : z = 0
    · have hzb : ((z : Int) == 0) = true := by simpa using hz
      have HY : Hid (PlainP n f) := hiff.1 hz
      clear hz hiff
      go_wp2_with fail
      go_quiet (fail)
      go_wp2_with fail
      go_ret
      exact ⟨by rw [decide_eq_true HY.out]; rfl, below_drewK _ B1.out⟩
    · have hzb : ((z : Int) == 0) = false := by simpa using hz
      have HY : Hid (¬ PlainP n f) := fun h => hz (hiff.2 h)
      clear hz hiff
      go_wp2_with fail
      go_quiet (fail)
      go_wp2_with fail
      go_ret
      exact ⟨by rw [decide_eq_false HY.out]; rfl, below_drewK _ B1.out⟩
  · have C := rowOf_no sa n cap f w hn hr hc h
    have hno : ¬ PlainP n f := fun hp => h hp.1
    rw [decide_eq_false hno]
    clear hn hr hc h hno
    go_enter Try.func106, Try.ntmps106
    go_wp2_with fail
    refine C.mono ?_
    rintro e w1 ⟨rfl, hb1⟩
    have B1 : Hid (Below w.heap.size w w1) := hb1
    clear hb1 C
    go_wp2_with fail
    go_quiet (fail)
    go_wp2_with fail
    go_ret
    exact ⟨rfl, below_drewK _ B1.out⟩
open Classical in
set_option maxRecDepth 100000 in
set_option maxHeartbeats 2000000 in
theorem specPlain_any (sa : Option Addr) (n cap : Nat) (f : Nat → Cel) (w : World) (hn : n ≤ maxLen) (hr : CRow w w.heap.size sa n f) (hc : ∀ i, i < n → (f i).c.size ≤ maxLen) :
    Calls Try.prog 77 #[.slice sa n cap] w fun e w' => e = .returned (.bool (decide (PlainP n f))) ∧ Below w.heap.size w w' := by
  have C := specKRight_any sa n cap f w hn hr hc
  have HR : Hid (CRow w w.heap.size sa n f) := hr
  unfold maxLen at hn
  clear hr hc
  go_enter Try.func77, Try.ntmps77
  go_wp2_with fail
  go_loopw [3] (fun i wr => ∃ k : Nat, k ≤ n ∧ i = .int .i64 (k : Int) ∧ wr = w ∧ ∀ i, i < k → (f i).k = false ∧ (f i).o = false) (fun i _ => n - (intOf i).toNat)
  case atStart => exact ⟨0, Nat.zero_le _, rfl, rfl, fun i hi => by omega⟩
  case round =>
    obtain ⟨k, hk, rfl, rfl, hall⟩ := hrel
    have HA : Hid (∀ i, i < k → (f i).k = false ∧ (f i).o = false) := hall
    clear hall
    by_cases hkl : k < n
    · obtain ⟨bb, off, rfl, hbb, hat⟩ := HR.out.at (Below.refl _ _) hkl
      obtain ⟨c0, c1, c2⟩ := hat
      have hki : (k : Int) < (n : Int) := by omega
      have hk0 : (0 : Int) ≤ (k : Int) := by omega
      obtain ⟨⟨ac, al, am⟩, ha⟩ : ∃ a, f k = a := ⟨_, rfl⟩
      have HF : Hid (f k = ⟨ac, al, am⟩) := ha
      rw [ha] at c0 c1 c2
      simp only at c0 c1 c2
      clear ha
      have BAD : Hid (¬ (al = false ∧ am = false) → ¬ PlainP n f) := fun h hp => h (by have h9 := hp.2 k hkl; rw [HF.out] at h9; exact h9)
      cases al with
      | true =>
        have HBAD : Hid (¬ PlainP n f) := BAD.out (by simp)
        clear BAD
        go_wp2_with fail
        go_ret
        exact ⟨by rw [decide_eq_false HBAD.out]; rfl, Below.refl _ _⟩
      | false =>
        cases am with
        | true =>
          have HBAD : Hid (¬ PlainP n f) := BAD.out (by simp)
          clear BAD
          go_wp2_with fail
          go_ret
          exact ⟨by rw [decide_eq_false HBAD.out]; rfl, Below.refl _ _⟩
        | false =>
          have HA2 : Hid (∀ i, i < k + 1 → (f i).k = false ∧ (f i).o = false) := fun i hi => by
            by_cases e : i = k
            · subst e; rw [HF.out]; exact ⟨rfl, rfl⟩
            · exact HA.out i (by omega)
          clear BAD
          go_wp2_with fail
          go_roundw
          case rel => exact ⟨k + 1, by omega, by go_num, trivial, HA2.out⟩
          case measure => simp [intOf]; omega
    · have hki : ¬ (k : Int) < (n : Int) := by omega
      obtain rfl : k = n := by omega
      have HE : Hid (decide (CellsOk k f) = decide (PlainP k f)) := by
        show decide (CellsOk k f) = decide (PlainP k f)
        rw [decide_eq_decide]
        exact ⟨fun h => ⟨h, HA.out⟩, fun h => h.1⟩
      obtain ⟨d, hd⟩ : ∃ d, decide (PlainP k f) = d := ⟨_, rfl⟩
      have HD : Hid (decide (PlainP k f) = d) := hd
      rw [HE.out, hd] at C
      clear hd
      go_wp2_with fail
      refine C.mono ?_
      rintro e w1 ⟨rfl, hb1⟩
      have B1 : Hid (Below wr.heap.size wr w1) := hb1
      clear hb1 C
      go_wp2_with fail
      go_ret
      exact ⟨by rw [HD.out]; rfl, B1.out⟩
end Go.Proofs.Ytfeolbgenpknfaa
