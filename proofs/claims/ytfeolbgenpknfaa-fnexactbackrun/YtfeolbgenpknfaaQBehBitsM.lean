/- What is said here: the places from which on cells go with a text's last bytes, as bits: plain mathematics, for what looks from behind. -/
import Derived.Test.YtfeolbgenpknfaaQBehM
namespace Go.Proofs.Ytfeolbgenpknfaa
open Go.RowKit

theorem bits_half {a : Nat} {P : Nat → Bool} (h : IsBits a P) : IsBits (a / 2) (fun j => P (j + 1)) :=
  ⟨by have := h.lt; omega, fun j => by rw [← h.bit (j + 1), Nat.testBit_succ]⟩
theorem behind_ex (q : Nat → Bool) : ∀ k, k ≤ 62 → ∃ x, IsBits x (behind q k)
  | 0, _ => ⟨0, behind_zero q⟩
  | k + 1, h => by
    obtain ⟨x, hx⟩ := behind_ex q k (by omega)
    cases hq : q k with
    | true => exact ⟨_, behind_yes hx (by omega) hq⟩
    | false => exact ⟨x, behind_no hx hq⟩
open Classical in
theorem beg_zero {n : Nat} {f : Nat → Cel} {t : ByteArray} (hn : n ≤ 60) : IsBits (2 ^ (n + 1) - 1) (fun p => decide (GoesS n f t 0 p)) := by
  refine ⟨?_, fun j => ?_⟩
  · have : 2 ^ (n + 1) ≤ 2 ^ 61 := Nat.pow_le_pow_right (by decide) (by omega)
    omega
  · rw [Nat.testBit_two_pow_sub_one]
    exact decide_eq_decide.2 ⟨fun h => goesS_zero.2 (by omega), fun h => by have := goesS_zero.1 h; omega⟩
open Classical in
theorem beg_step {n : Nat} {f : Nat → Cel} {t : ByteArray} {k x y : Nat} (hk : k < t.size) (hx : IsBits x (fun p => decide (GoesS n f t k p))) (hy : IsBits y (behind (fun i => hasByte (f i).c (t[t.size - 1 - k]'(by omega)).toNat) n)) : IsBits ((x &&& y) / 2) (fun p => decide (GoesS n f t (k + 1) p)) := by
  refine (bits_half (hx.and hy)).congr (fun j => ?_)
  have h1 : behind (fun i => hasByte (f i).c (t[t.size - 1 - k]'(by omega)).toNat) n (j + 1) = (decide (j < n) && takesB t (f j).c (t.size - 1 - k)) := by
    unfold behind takesB
    rw [dif_pos (by omega)]
    congr 1
    exact decide_eq_decide.2 ⟨fun h => by omega, fun h => by omega⟩
  show (decide (GoesS n f t k (j + 1)) && behind _ n (j + 1)) = _
  rw [h1]
  by_cases hg : GoesS n f t (k + 1) j
  · obtain ⟨h2, h3, h4⟩ := (goesS_succ hk).1 hg
    rw [decide_eq_true hg, decide_eq_true h2, decide_eq_true h3, h4]
    rfl
  · rw [decide_eq_false hg]
    cases h5 : decide (GoesS n f t k (j + 1)) with
    | false => rfl
    | true =>
      cases h6 : decide (j < n) with
      | false => rfl
      | true =>
        cases h7 : takesB t (f j).c (t.size - 1 - k) with
        | false => rfl
        | true => exact absurd ((goesS_succ hk).2 ⟨of_decide_eq_true h5, of_decide_eq_true h6, h7⟩) hg
open Classical in
theorem beg_ex {n : Nat} {f : Nat → Cel} {t : ByteArray} (hn : n ≤ 60) : ∀ k, k ≤ t.size → ∃ x, IsBits x (fun p => decide (GoesS n f t k p))
  | 0, _ => ⟨_, beg_zero hn⟩
  | k + 1, h => by
    obtain ⟨x, hx⟩ := beg_ex (n := n) (f := f) (t := t) hn k (by omega)
    have hk : k < t.size := by omega
    have hlt : t.size - 1 - k < t.size := by omega
    obtain ⟨y, hy⟩ := behind_ex (fun i => hasByte (f i).c (t[t.size - 1 - k]'hlt).toNat) n (by omega)
    exact ⟨_, beg_step hk hx hy⟩
open Classical in
/-- The bits of the places from which on the cells go with the last k bytes. -/
noncomputable def begN (n : Nat) (f : Nat → Cel) (t : ByteArray) (k : Nat) : Nat := if h : ∃ x, IsBits x (fun p => decide (GoesS n f t k p)) then h.choose else 0
open Classical in
theorem begN_bits {n : Nat} {f : Nat → Cel} {t : ByteArray} {k : Nat} (hn : n ≤ 60) (hk : k ≤ t.size) : IsBits (begN n f t k) (fun p => decide (GoesS n f t k p)) := by
  have h := beg_ex (n := n) (f := f) hn k hk
  unfold begN
  rw [dif_pos h]
  exact h.choose_spec
theorem begN_zero {n : Nat} {f : Nat → Cel} {t : ByteArray} (hn : n ≤ 60) : begN n f t 0 = 2 ^ (n + 1) - 1 := (begN_bits hn (Nat.zero_le _)).uniq (beg_zero hn)
theorem begN_succ {n : Nat} {f : Nat → Cel} {t : ByteArray} {k y : Nat} (hn : n ≤ 60) (hk : k < t.size) (hy : IsBits y (behind (fun i => hasByte (f i).c (t[t.size - 1 - k]'(by omega)).toNat) n)) : begN n f t (k + 1) = (begN n f t k &&& y) / 2 :=
  (begN_bits hn hk).uniq (beg_step hk (begN_bits hn (by omega)) hy)
open Classical in
theorem begN_none {n : Nat} {f : Nat → Cel} {t : ByteArray} {k : Nat} (hn : n ≤ 60) (hk : k ≤ t.size) : begN n f t k = 0 ↔ ¬ SomeS n f t k := by
  rw [(begN_bits hn hk).none]
  exact ⟨fun h ⟨p, hp⟩ => of_decide_eq_false (h p) hp, fun h p => decide_eq_false (fun hp => h ⟨p, hp⟩)⟩
open Classical in
theorem begN_low {n : Nat} {f : Nat → Cel} {t : ByteArray} {k : Nat} (hn : n ≤ 60) (hk : k ≤ t.size) : begN n f t k % 2 = 1 ↔ GoesS n f t k 0 := by
  have h := (begN_bits (f := f) hn hk).bit 0
  rw [Nat.testBit_zero] at h
  constructor
  · intro h1
    rw [decide_eq_true h1] at h
    exact of_decide_eq_true h.symm
  · intro h1
    rw [decide_eq_true h1] at h
    exact of_decide_eq_true h
/-- What comes, one by one: how many bytes were looked at, and the places. -/
noncomputable def uptoB (n : Nat) (f : Nat → Cel) (t : ByteArray) (k : Nat) : List (Nat × Nat) := (List.range k).map (fun i => (i + 1, begN n f t (i + 1)))
theorem uptoB_len (n : Nat) (f : Nat → Cel) (t : ByteArray) (k : Nat) : (uptoB n f t k).length = k := by simp [uptoB]
theorem uptoB_succ (n : Nat) (f : Nat → Cel) (t : ByteArray) (k : Nat) : uptoB n f t (k + 1) = uptoB n f t k ++ [(k + 1, begN n f t (k + 1))] := by simp [uptoB, List.range_succ]
theorem uptoB_pre (n : Nat) (f : Nat → Cel) (t : ByteArray) : ∀ {k m : Nat}, k ≤ m → ∃ r, uptoB n f t m = uptoB n f t k ++ r
  | k, 0, h => ⟨[], by obtain rfl : k = 0 := by omega
                       simp⟩
  | k, m + 1, h => by
    by_cases e : k = m + 1
    · subst e; exact ⟨[], by simp⟩
    · obtain ⟨r, hr⟩ := uptoB_pre n f t (k := k) (m := m) (by omega)
      exact ⟨r ++ [(m + 1, begN n f t (m + 1))], by rw [uptoB_succ, hr, List.append_assoc]⟩
end Go.Proofs.Ytfeolbgenpknfaa
