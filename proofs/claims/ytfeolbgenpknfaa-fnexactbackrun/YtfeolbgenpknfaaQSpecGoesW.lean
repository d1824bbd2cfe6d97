/- What is proved here: the specification's l09Goes, l09Factor, l09Border say whether a text goes with cells from a place on, whether it is a factor, and what its border is; nothing that was there turns. -/
import Derived.Test.YtfeolbgenpknfaaQBehM
import Derived.Test.YtfeolbgenpknfaaQWinDToL03HasW
import Derived.Deep.RegionWith
import Derived.Deep.QuietTactic
import Derived.BigQuiet
namespace Go.Proofs.Ytfeolbgenpknfaa
open Go.RowKit

theorem below_drewN {B : Nat} {a w : World} (n : Nat) (h : Below B a w) : Below B a (w.drewN n) := ⟨h.os, h.tape, h.output, h.size, h.block⟩
open Classical in
set_option maxHeartbeats 2000000 in
theorem l09Goes_any (sa : Option Addr) (n cap : Nat) (f : Nat → Cel) (p : Nat) (t : ByteArray) (w : World) (hn : n ≤ 60) (hp : p ≤ 100) (ht : t.size ≤ 8000) (hr : CRow w w.heap.size sa n f) (hc : ∀ i, i < n → (f i).c.size ≤ 256) :
    Calls Try.prog 88 #[.slice sa n cap, .int .i64 (p : Int), .string t] w fun e w' => e = .returned (.bool (decide (GoesP n f t p))) ∧ Below w.heap.size w w' := by
  have HR : Hid (CRow w w.heap.size sa n f) := hr
  have HC : Hid (∀ i, i < n → (f i).c.size ≤ 256) := hc
  clear hr hc
  by_cases hpn : p + t.size ≤ n
  case neg =>
    have hpi : (n : Int) < (p : Int) + (t.size : Int) := by omega
    have hF : Hid (decide (GoesP n f t p) = false) := decide_eq_false (fun h => hpn h.1)
    go_enter Try.func88, Try.ntmps88
    go_wp2_with fail
    go_ret
    exact ⟨by rw [hF.out]; rfl, Below.refl _ _⟩
  have hpi : ¬ (n : Int) < (p : Int) + (t.size : Int) := by omega
  go_enter Try.func88, Try.ntmps88
  go_wp2_with fail
  go_loopw [7] (fun iv wr => ∃ i : Nat, i ≤ t.size ∧ iv = .int .i64 (i : Int) ∧ Below w.heap.size w wr ∧ ∀ j, j < i → takesB t (f (p + j)).c j = true) (fun iv _ => t.size - (intOf iv).toNat)
  case atStart => exact ⟨0, Nat.zero_le _, rfl, Below.refl _ _, fun j hj => absurd hj (Nat.not_lt_zero _)⟩
  case round =>
    obtain ⟨i, hi, rfl, hbel, hall⟩ := hrel
    have HB : Hid (Below w.heap.size w wr) := hbel
    have HA : Hid (∀ j, j < i → takesB t (f (p + j)).c j = true) := hall
    clear hbel hall
    by_cases hil : i < t.size
    · have hii : (i : Int) < (t.size : Int) := by omega
      have hi0 : (0 : Int) ≤ (i : Int) := by omega
      obtain ⟨bb, off, rfl, hbb, hat⟩ : ∃ bb off : Nat, sa = some ⟨bb, off, none⟩ ∧ bb < w.heap.size ∧ ∀ i, i < n → CellAt w bb (off + i * 3) (f i) := by
        rcases HR.out with h | h
        · omega
        · exact h
      obtain ⟨q, hq⟩ : ∃ q, p + i = q := ⟨_, rfl⟩
      have hqn : q < n := by omega
      have hqi : (p : Int) + (i : Int) = (q : Int) := by omega
      have hwq : IntKind.i64.wrap ((p : Int) + (i : Int)) = (q : Int) := by rw [IntKind.wrap_i64] <;> omega
      have hq0 : (0 : Int) ≤ (q : Int) := by omega
      have hq1 : (q : Int) < (n : Int) := by omega
      have c0 := (hat q hqn).c0
      rw [← HB.out.cell (p := ⟨bb, off + q * 3, none⟩) hbb] at c0
      obtain ⟨ac, hac⟩ : ∃ ac, (f q).c = ac := ⟨_, rfl⟩
      have HAC : Hid ((f (p + i)).c = ac) := by show _ = _; rw [hq]; exact hac
      have HSZ : Hid (ac.size ≤ 256) := by show _ ≤ _; rw [← hac]; exact HC.out q hqn
      have HTB : Hid (takesB t ac i = hasByte ac t[i].toNat) := by show _ = _; unfold takesB; rw [dif_pos hil]
      rw [hac] at c0
      clear hat hac hq
      have HL : Hid (∀ W, Calls Try.prog 99 #[.string ac, .int .u8 ((t[i].toNat : Nat) : Int)] W fun e w' => e = .returned (.bool (hasByte ac t[i].toNat)) ∧ w' = W) := fun W => l03Has_any ac t[i].toNat W (by have := HSZ.out; unfold maxLen; omega)
      obtain ⟨y, hy⟩ : ∃ y, hasByte ac t[i].toNat = y := ⟨_, rfl⟩
      have HY : Hid (takesB t (f (p + i)).c i = y) := by show _ = _; rw [HAC.out, HTB.out, hy]
      rw [hy] at HL
      clear hy
      cases y with
      | true =>
        go_wp2_with fail
        go_quiet (first | (go_at_call 99; exact Calls.quiet_of_same (HL.out _)))
        all_goals
          go_wp2_with fail
          go_roundw
          case rel => exact ⟨i + 1, by omega, by go_num, below_drewN _ HB.out, fun j hj => by
            by_cases e : j = i
            · rw [e]; exact HY.out
            · exact HA.out j (by omega)⟩
          case measure => simp [intOf] <;> omega
      | false =>
        have hF : Hid (decide (GoesP n f t p) = false) := decide_eq_false (fun h => by
          have h9 := h.2 i hil
          rw [HY.out] at h9
          cases h9)
        go_wp2_with fail
        go_quiet (first | (go_at_call 99; exact Calls.quiet_of_same (HL.out _)))
        all_goals
          go_wp2_with fail
          go_ret
          exact ⟨by rw [hF.out]; rfl, below_drewN _ HB.out⟩
    · have hii : ¬ (i : Int) < (t.size : Int) := by omega
      have hT : Hid (decide (GoesP n f t p) = true) := decide_eq_true ⟨hpn, fun j hj => HA.out j (by omega)⟩
      go_wp2_with fail
      go_ret
      exact ⟨by rw [hT.out]; rfl, HB.out⟩
open Classical in
set_option maxHeartbeats 2000000 in
theorem l09Factor_any (sa : Option Addr) (n cap : Nat) (f : Nat → Cel) (t : ByteArray) (w : World) (hn : n ≤ 60) (ht : t.size ≤ 8000) (hr : CRow w w.heap.size sa n f) (hc : ∀ i, i < n → (f i).c.size ≤ 256) :
    Calls Try.prog 78 #[.slice sa n cap, .string t] w fun e w' => e = .returned (.bool (decide (SomeS n f t t.size))) ∧ Below w.heap.size w w' := by
  have HG : Hid (∀ p : Nat, p ≤ 100 → ∀ W, Below w.heap.size w W → Calls Try.prog 88 #[.slice sa n cap, .int .i64 (p : Int), .string t] W fun e w' => e = .returned (.bool (decide (GoesP n f t p))) ∧ Below W.heap.size W w') := fun p hp W hW => l09Goes_any sa n cap f p t W hn hp ht ((hr.kept hW).up hW.size) hc
  clear hr hc
  go_enter Try.func78, Try.ntmps78
  go_wp2_with fail
  go_loopw [5] (fun iv wr => ∃ i : Nat, i ≤ n + 1 ∧ iv = .int .i64 (i : Int) ∧ Below w.heap.size w wr ∧ ∀ j, j < i → ¬ GoesP n f t j) (fun iv _ => n + 1 - (intOf iv).toNat)
  case atStart => exact ⟨0, Nat.zero_le _, rfl, Below.refl _ _, fun j hj => absurd hj (Nat.not_lt_zero _)⟩
  case round =>
    obtain ⟨i, hi, rfl, hbel, hall⟩ := hrel
    have HB : Hid (Below w.heap.size w wr) := hbel
    have HA : Hid (∀ j, j < i → ¬ GoesP n f t j) := hall
    clear hbel hall
    by_cases hil : i + t.size ≤ n
    · have hii : (i : Int) + (t.size : Int) ≤ (n : Int) := by omega
      have hi0 : (0 : Int) ≤ (i : Int) := by omega
      have C := HG.out i (by omega) wr HB.out
      by_cases hg : GoesP n f t i
      · rw [decide_eq_true hg] at C
        have hT : Hid (decide (SomeS n f t t.size) = true) := decide_eq_true ⟨i, goesP_iff.1 hg⟩
        clear hg
        go_wp2_with fail
        refine C.mono ?_
        rintro e w1 ⟨rfl, hb⟩
        have HB1 : Hid (Below w.heap.size w w1) := HB.out.trans (hb.mono HB.out.size)
        clear hb C
        go_wp2_with fail
        go_ret
        exact ⟨by rw [hT.out]; rfl, HB1.out⟩
      · rw [decide_eq_false hg] at C
        have HN : Hid (¬ GoesP n f t i) := hg
        clear hg
        go_wp2_with fail
        refine C.mono ?_
        rintro e w1 ⟨rfl, hb⟩
        have HB1 : Hid (Below w.heap.size w w1) := HB.out.trans (hb.mono HB.out.size)
        clear hb C
        go_wp2_with fail
        go_roundw
        case rel => exact ⟨i + 1, by omega, by go_num, HB1.out, fun j hj => by
          by_cases e : j = i
          · rw [e]; exact HN.out
          · exact HA.out j (by omega)⟩
        case measure => simp [intOf] <;> omega
    · have hii : ¬ (i : Int) + (t.size : Int) ≤ (n : Int) := by omega
      have hF : Hid (decide (SomeS n f t t.size) = false) := decide_eq_false (fun ⟨p, hp⟩ => by
        have h1 := goesP_iff.2 hp
        by_cases e : p < i
        · exact HA.out p e h1
        · have := h1.1
          omega)
      go_wp2_with fail
      go_ret
      exact ⟨by rw [hF.out]; rfl, HB.out⟩
open Classical in
set_option maxHeartbeats 2000000 in
theorem l09Border_any (sa : Option Addr) (n cap : Nat) (f : Nat → Cel) (t : ByteArray) (w : World) (hn0 : 1 ≤ n) (hn : n ≤ 60) (ht : t.size ≤ 8000) (hr : CRow w w.heap.size sa n f) (hc : ∀ i, i < n → (f i).c.size ≤ 256) :
    Calls Try.prog 83 #[.slice sa n cap, .string t] w fun e w' => (∃ b : Nat, e = .returned (.int .i64 (b : Int)) ∧ b < n ∧ IsBorder n f t b) ∧ Below w.heap.size w w' := by
  have HG : Hid (∀ (k : Nat), k ≤ t.size → ∀ W, Below w.heap.size w W → Calls Try.prog 88 #[.slice sa n cap, .int .i64 0, .string (t.extract (t.size - k) t.size)] W fun e w' => e = .returned (.bool (decide (GoesS n f t k 0))) ∧ Below W.heap.size W w') := fun k hk W hW => by
    have h := l09Goes_any sa n cap f 0 (t.extract (t.size - k) t.size) W hn (by omega) (by rw [cut_size (Nat.le_refl _)]; omega) ((hr.kept hW).up hW.size) hc
    rw [decide_eq_decide.2 (goesP_last hk)] at h
    exact h
  clear hr hc
  go_enter Try.func83, Try.ntmps83
  go_wp2_with fail
  go_loopw [5] (fun iv wr => ∃ i : Nat, i < n ∧ iv = .int .i64 (i : Int) ∧ Below w.heap.size w wr ∧ ∀ k, i < k → k < n → ¬ GoesS n f t k 0) (fun iv _ => (intOf iv).toNat)
  case atStart => exact ⟨n - 1, by omega, by go_num, Below.refl _ _, fun k h1 h2 => by omega⟩
  case round =>
    obtain ⟨i, hi, rfl, hbel, hall⟩ := hrel
    have HB : Hid (Below w.heap.size w wr) := hbel
    have HA : Hid (∀ k, i < k → k < n → ¬ GoesS n f t k 0) := hall
    clear hbel hall
    by_cases hil : 0 < i
    · have hii : (0 : Int) < (i : Int) := by omega
      have hi0 : (0 : Int) ≤ (i : Int) := by omega
      by_cases hit : i ≤ t.size
      · have hti : (i : Int) ≤ (t.size : Int) := by omega
        have C := HG.out i hit wr HB.out
        obtain ⟨d, hd⟩ : ∃ d, t.size - i = d := ⟨_, rfl⟩
        have hdi : (t.size : Int) - (i : Int) = (d : Int) := by omega
        have hd0 : (0 : Int) ≤ (d : Int) := by omega
        have hd1 : (d : Int) ≤ (t.size : Int) := by omega
        rw [hd] at C
        by_cases hg : GoesS n f t i 0
        · rw [decide_eq_true hg] at C
          have HN : Hid (GoesS n f t i 0) := hg
          clear hg hd
          go_wp2_with fail
          refine C.mono ?_
          rintro e w1 ⟨rfl, hb⟩
          have HB1 : Hid (Below w.heap.size w w1) := HB.out.trans (hb.mono HB.out.size)
          clear hb C
          go_wp2_with fail
          go_ret
          exact ⟨⟨i, rfl, hi, Or.inr ⟨hi, HN.out⟩, HA.out⟩, HB1.out⟩
        · rw [decide_eq_false hg] at C
          have HN : Hid (¬ GoesS n f t i 0) := hg
          clear hg hd
          go_wp2_with fail
          refine C.mono ?_
          rintro e w1 ⟨rfl, hb⟩
          have HB1 : Hid (Below w.heap.size w w1) := HB.out.trans (hb.mono HB.out.size)
          clear hb C
          go_wp2_with fail
          go_roundw
          case rel => exact ⟨i - 1, by omega, by go_num, HB1.out, fun k h1 h2 => by
            by_cases e : k = i
            · rw [e]; exact HN.out
            · exact HA.out k (by omega) h2⟩
          case measure => simp [intOf] <;> omega
      · have hti : ¬ (i : Int) ≤ (t.size : Int) := by omega
        go_wp2_with fail
        go_roundw
        case rel => exact ⟨i - 1, by omega, by go_num, HB.out, fun k h1 h2 => by
          by_cases e : k = i
          · rw [e]; exact fun h => hit h.1
          · exact HA.out k (by omega) h2⟩
        case measure => simp [intOf] <;> omega
    · have hii : ¬ (0 : Int) < (i : Int) := by omega
      obtain rfl : i = 0 := by omega
      go_wp2_with fail
      go_ret
      exact ⟨⟨0, rfl, hi, Or.inl rfl, HA.out⟩, HB.out⟩
end Go.Proofs.Ytfeolbgenpknfaa
