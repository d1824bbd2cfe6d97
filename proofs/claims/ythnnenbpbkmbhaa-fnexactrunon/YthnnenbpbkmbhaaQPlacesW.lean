/- What is proved here: the program reads the places that a vector holds as one number, and tells whether a vector is one of a row; nothing that was there turns. -/
import Derived.Test.YthnnenbpbkmbhaaQStepVM
import Derived.Test.YthnnenbpbkmbhaaQImplRightW
namespace Go.Proofs.Ythnnenbpbkmbhaa
open Go.RowKit

theorem bits_shlN {a s : Nat} (ha : a < 2 ^ 32) (hs : s ≤ 32) : IsBits (a * 2 ^ s) (fun j => decide (s ≤ j) && a.testBit (j - s)) := by
  refine ⟨?_, fun j => ?_⟩
  · have h1 : 2 ^ s ≤ 2 ^ 32 := Nat.pow_le_pow_right (by decide) hs
    calc a * 2 ^ s < 2 ^ 32 * 2 ^ s := Nat.mul_lt_mul_of_pos_right ha (Nat.pow_pos (by decide))
      _ ≤ 2 ^ 32 * 2 ^ 32 := Nat.mul_le_mul_left _ h1
      _ = 18446744073709551616 := by decide
  · rw [Nat.mul_comm, Nat.testBit_two_pow_mul]
/-- The bits of the first k words. -/
def firstW (P : Nat → Bool) (k : Nat) : Nat → Bool := fun j => decide (j < 32 * k) && P j
theorem word_or {b a k : Nat} {P : Nat → Bool} (hb : IsBits b (firstW P k)) (ha : a < 2 ^ 32) (hk : k < 2) (h : ∀ q, q < 32 → a.testBit q = P (32 * k + q)) : IsBits (b ||| a * 2 ^ (k * 32)) (firstW P (k + 1)) :=
  (hb.or (bits_shlN ha (by omega))).congr (fun j => by
    unfold firstW
    by_cases h1 : j < 32 * k
    · rw [decide_eq_true h1, decide_eq_false (show ¬ k * 32 ≤ j by omega), decide_eq_true (show j < 32 * (k + 1) by omega)]
      simp
    · rw [decide_eq_false h1, decide_eq_true (show k * 32 ≤ j by omega)]
      by_cases h2 : j < 32 * (k + 1)
      · rw [decide_eq_true h2, h (j - k * 32) (by omega), show 32 * k + (j - k * 32) = j by omega]
        simp
      · rw [decide_eq_false h2, Nat.testBit_lt_two_pow (Nat.lt_of_lt_of_le ha (Nat.pow_le_pow_right (by decide) (by omega)))]
        simp)
set_option maxRecDepth 100000 in
set_option maxHeartbeats 4000000 in
theorem placesOf_any (b : Int) (sa : Option Addr) (m cap : Nat) (f : Nat → Int) (P : Nat → Bool) (w : World) (hm : m ≤ 2) (hr : Row w w.heap.size sa m f) (hv : VecIs f P m) (hP : ∀ j, 32 * m ≤ j → P j = false) :
    Calls Try.prog 99 #[.agg #[.int .i64 b, .slice sa m cap]] w fun e w' => ∃ x : Nat, e = .returned (.int .u64 (x : Int)) ∧ IsBits x P ∧ Below w.heap.size w w' := by
  have HV : Hid (VecIs f P m) := hv
  have HP : Hid (∀ j, 32 * m ≤ j → P j = false) := hP
  have HR : Hid (Row w w.heap.size sa m f) := hr
  have q1 := boxing w 26 b sa m cap
  clear hr hv hP
  go_enter Try.func99, Try.ntmps99
  go_wp2_with fail
  generalize w.alloc (.cells #[.int .i64 b, .slice sa m cap] 26) = v1 at *
  go_loopw [3, 9] (fun ov iv wr => ∃ k x : Nat, k ≤ m ∧ iv = .int .i64 (k : Int) ∧ ov = .int .u64 (x : Int) ∧ wr = v1 ∧ IsBits x (firstW P k)) (fun _ iv _ => m - (intOf iv).toNat)
  case atStart => exact ⟨0, 0, Nat.zero_le _, rfl, rfl, rfl, bits_zero.congr (fun j => by unfold firstW; rw [decide_eq_false (by omega)]; rfl)⟩
  case round =>
    obtain ⟨k, x, hk, rfl, rfl, rfl, hx⟩ := hrel
    have HX : Hid (IsBits x (firstW P k)) := hx
    clear hx
    by_cases hkl : k < m
    · obtain ⟨bb, off, rfl, hbb, hca⟩ : ∃ bb off : Nat, sa = some ⟨bb, off, none⟩ ∧ bb < w.heap.size ∧ ∀ i, i < m → w.cell? ⟨bb, off + i, none⟩ = some (.int .i64 (f i)) := by
        rcases HR.out with h | h
        · omega
        · exact h
      obtain ⟨a, e1, h1, h2⟩ := HV.out k hkl
      have ck : wr.cell? ⟨bb, off + k, none⟩ = some (.int .i64 (a : Int)) := by rw [q1.1.cell (p := ⟨bb, off + k, none⟩) hbb, ← e1]; exact hca k hkl
      have HN : Hid (IsBits (x ||| a * 2 ^ (k * 32)) (firstW P (k + 1))) := word_or HX.out h1 (by omega) h2
      have hwa : IntKind.u64.wrap (a : Int) = (a : Int) := by rw [IntKind.wrap_u64]; omega
      obtain ⟨s, hs⟩ : ∃ s, k * 32 = s := ⟨_, rfl⟩
      have hsi : (k : Int) * 32 = (s : Int) := by omega
      have hs0 : (0 : Int) ≤ (s : Int) := by omega
      have hs64 : (s : Int) < 64 := by omega
      rw [hs] at HN
      have hlt := (bits_shlN (s := s) h1 (by omega)).lt
      have hwp : IntKind.u64.wrap ((a : Int) * 2 ^ s) = ((a * 2 ^ s : Nat) : Int) := by
        rw [show (a : Int) * 2 ^ s = ((a * 2 ^ s : Nat) : Int) by simp, IntKind.wrap_u64]
        omega
      have hor : bits .or .u64 (x : Int) ((a * 2 ^ s : Nat) : Int) = ((x ||| a * 2 ^ s : Nat) : Int) := or64 HX.out.lt hlt
      generalize x ||| a * 2 ^ s = x2 at *
      generalize ((a * 2 ^ s : Nat) : Int) = y at *
      have hki : (k : Int) < (m : Int) := by omega
      have hk0 : (0 : Int) ≤ (k : Int) := by omega
      clear hca h1 h2 e1 hlt
      go_wp2_with fail
      go_roundw
      case rel => exact ⟨k + 1, x2, by omega, by go_num, rfl, by first | rfl | trivial, HN.out⟩
      case measure => simp [intOf]; omega
    · have hki : ¬ (k : Int) < (m : Int) := by omega
      obtain rfl : k = m := by omega
      go_wp2_with fail
      go_ret
      exact ⟨x, rfl, HX.out.congr (fun j => by
        unfold firstW
        by_cases h : j < 32 * k
        · rw [decide_eq_true h, Bool.true_and]
        · rw [decide_eq_false h, HP.out j (by omega)]; rfl), q1.1⟩
/-- A right vector of so many places. -/
def OfRow (b : Int) (m : Nat) (f : Nat → Int) (n : Nat) : Prop := Right b m f ∧ b = (n : Int) + 1
open Classical in
set_option maxRecDepth 100000 in
set_option maxHeartbeats 4000000 in
theorem isOfRow_any (b : Int) (sa : Option Addr) (m cap n : Nat) (f : Nat → Int) (w : World) (hn : n ≤ 60) (hm : m ≤ 1048576) (hr : Row w w.heap.size sa m f) :
    Calls Try.prog 97 #[.agg #[.int .i64 b, .slice sa m cap], .int .i64 (n : Int)] w fun e w' => e = .returned (.bool (decide (OfRow b m f n))) ∧ Below w.heap.size w w' := by
  have q1 := boxing w 26 b sa m cap
  have C := implRight_any b sa m cap f (w.alloc (.cells #[.int .i64 b, .slice sa m cap] 26)) hm (row_since hr ⟨q1.1⟩)
  clear hr
  by_cases h1 : Right b m f
  · rw [decide_eq_true h1] at C
    by_cases h2 : b = (n : Int) + 1
    · rw [decide_eq_true (show OfRow b m f n from ⟨h1, h2⟩)]
      subst h2
      clear h1
      go_enter Try.func97, Try.ntmps97
      go_wp2_with fail
      generalize w.alloc (.cells #[.int .i64 ((n : Int) + 1), .slice sa m cap] 26) = v1 at *
      refine C.mono ?_
      rintro e w2 ⟨rfl, hb2⟩
      obtain ⟨a0, a1⟩ := (q1.2.1.kept hb2 rfl).cells
      have B2 : Hid (Below w.heap.size w w2) := q1.1.trans (hb2.mono q1.1.size)
      clear C hb2 q1
      go_wp2_with fail
      go_ret
      exact ⟨rfl, B2.out⟩
    · rw [decide_eq_false (show ¬ OfRow b m f n from fun h => h2 h.2)]
      have h3 : (b == (n : Int) + 1) = false := by simpa using h2
      clear h1
      go_enter Try.func97, Try.ntmps97
      go_wp2_with fail
      generalize w.alloc (.cells #[.int .i64 b, .slice sa m cap] 26) = v1 at *
      refine C.mono ?_
      rintro e w2 ⟨rfl, hb2⟩
      obtain ⟨a0, a1⟩ := (q1.2.1.kept hb2 rfl).cells
      have B2 : Hid (Below w.heap.size w w2) := q1.1.trans (hb2.mono q1.1.size)
      clear C hb2 q1
      go_wp2_with fail
      go_ret
      exact ⟨rfl, B2.out⟩
  · rw [decide_eq_false (show ¬ OfRow b m f n from fun h => h1 h.1)]
    rw [decide_eq_false h1] at C
    clear h1
    go_enter Try.func97, Try.ntmps97
    go_wp2_with fail
    generalize w.alloc (.cells #[.int .i64 b, .slice sa m cap] 26) = v1 at *
    refine C.mono ?_
    rintro e w2 ⟨rfl, hb2⟩
    have B2 : Hid (Below w.heap.size w w2) := q1.1.trans (hb2.mono q1.1.size)
    clear C hb2 q1
    go_wp2_with fail
    go_ret
    exact ⟨rfl, B2.out⟩
end Go.Proofs.Ythnnenbpbkmbhaa
