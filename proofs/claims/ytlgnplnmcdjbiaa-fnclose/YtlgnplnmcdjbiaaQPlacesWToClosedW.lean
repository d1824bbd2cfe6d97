/- What is proved here: the program reads the places that a vector holds as one number, and tells whether a vector is one of a row; nothing that was there turns.
   What is proved here: the program closes places; the world stays. -/
import Derived.Test.YtlgnplnmcdjbiaaQCellMToStepVM
import Derived.Test.YtlgnplnmcdjbiaaQImplRightW
import Derived.Test.YtlgnplnmcdjbiaaQImplCRightWToPVecW
namespace Go.Proofs.Ytlgnplnmcdjbiaa
open Go.RowKit

theorem bits_shlN {a s : Nat} (ha : a < 2 ^ 32) (hs : s ≤ 32) : IsBits (a * 2 ^ s) (fun j => decide (s ≤ j) && a.testBit (j - s)) := by
  refine ⟨?_, fun j => ?_⟩
  · have h1 : 2 ^ s ≤ 2 ^ 32 := Nat.pow_le_pow_right (by decide) hs
    calc a * 2 ^ s < 2 ^ 32 * 2 ^ s := Nat.mul_lt_mul_of_pos_right ha (Nat.pow_pos (by decide))
      _ ≤ 2 ^ 32 * 2 ^ 32 := Nat.mul_le_mul_left _ h1
      _ = 18446744073709551616 := by decide
  · rw [Nat.mul_comm, Nat.testBit_two_pow_mul]
/-- The bits of the first k words. -/
def firstW (P : Nat → Bool) (k : Nat) : Nat → Bool := fun j => decide (j < 32 * k) && P j
theorem word_or {b a k : Nat} {P : Nat → Bool} (hb : IsBits b (firstW P k)) (ha : a < 2 ^ 32) (hk : k < 2) (h : ∀ q, q < 32 → a.testBit q = P (32 * k + q)) : IsBits (b ||| a * 2 ^ (k * 32)) (firstW P (k + 1)) :=
  (hb.or (bits_shlN ha (by omega))).congr (fun j => by
    unfold firstW
    by_cases h1 : j < 32 * k
    · rw [decide_eq_true h1, decide_eq_false (show ¬ k * 32 ≤ j by omega), decide_eq_true (show j < 32 * (k + 1) by omega)]
      simp
    · rw [decide_eq_false h1, decide_eq_true (show k * 32 ≤ j by omega)]
      by_cases h2 : j < 32 * (k + 1)
      · rw [decide_eq_true h2, h (j - k * 32) (by omega), show 32 * k + (j - k * 32) = j by omega]
        simp
      · rw [decide_eq_false h2, Nat.testBit_lt_two_pow (Nat.lt_of_lt_of_le ha (Nat.pow_le_pow_right (by decide) (by omega)))]
        simp)
set_option maxRecDepth 100000 in
set_option maxHeartbeats 4000000 in
theorem placesOf_any (b : Int) (sa : Option Addr) (m cap : Nat) (f : Nat → Int) (P : Nat → Bool) (w : World) (hm : m ≤ 2) (hr : Row w w.heap.size sa m f) (hv : VecIs f P m) (hP : ∀ j, 32 * m ≤ j → P j = false) :
    Calls Try.prog 101 #[.agg #[.int .i64 b, .slice sa m cap]] w fun e w' => ∃ x : Nat, e = .returned (.int .u64 (x : Int)) ∧ IsBits x P ∧ Below w.heap.size w w' := by
  have HV : Hid (VecIs f P m) := hv
  have HP : Hid (∀ j, 32 * m ≤ j → P j = false) := hP
  have HR : Hid (Row w w.heap.size sa m f) := hr
  have q1 := boxing w 45 b sa m cap
  clear hr hv hP
  go_enter Try.func101, Try.ntmps101
  go_wp2_with fail
  generalize w.alloc (.cells #[.int .i64 b, .slice sa m cap] 45) = v1 at *
  go_loopw [3, 9] (fun ov iv wr => ∃ k x : Nat, k ≤ m ∧ iv = .int .i64 (k : Int) ∧ ov = .int .u64 (x : Int) ∧ wr = v1 ∧ IsBits x (firstW P k)) (fun _ iv _ => m - (intOf iv).toNat)
  case atStart => exact ⟨0, 0, Nat.zero_le _, rfl, rfl, rfl, bits_zero.congr (fun j => by unfold firstW; rw [decide_eq_false (by omega)]; rfl)⟩
  case round =>
    obtain ⟨k, x, hk, rfl, rfl, rfl, hx⟩ := hrel
    have HX : Hid (IsBits x (firstW P k)) := hx
    clear hx
    by_cases hkl : k < m
    · obtain ⟨bb, off, rfl, hbb, hca⟩ : ∃ bb off : Nat, sa = some ⟨bb, off, none⟩ ∧ bb < w.heap.size ∧ ∀ i, i < m → w.cell? ⟨bb, off + i, none⟩ = some (.int .i64 (f i)) := by
        rcases HR.out with h | h
        · omega
        · exact h
      obtain ⟨a, e1, h1, h2⟩ := HV.out k hkl
      have ck : wr.cell? ⟨bb, off + k, none⟩ = some (.int .i64 (a : Int)) := by rw [q1.1.cell (p := ⟨bb, off + k, none⟩) hbb, ← e1]; exact hca k hkl
      have HN : Hid (IsBits (x ||| a * 2 ^ (k * 32)) (firstW P (k + 1))) := word_or HX.out h1 (by omega) h2
      have hwa : IntKind.u64.wrap (a : Int) = (a : Int) := by rw [IntKind.wrap_u64]; omega
      obtain ⟨s, hs⟩ : ∃ s, k * 32 = s := ⟨_, rfl⟩
      have hsi : (k : Int) * 32 = (s : Int) := by omega
      have hs0 : (0 : Int) ≤ (s : Int) := by omega
      have hs64 : (s : Int) < 64 := by omega
      rw [hs] at HN
      have hlt := (bits_shlN (s := s) h1 (by omega)).lt
      have hwp : IntKind.u64.wrap ((a : Int) * 2 ^ s) = ((a * 2 ^ s : Nat) : Int) := by
        rw [show (a : Int) * 2 ^ s = ((a * 2 ^ s : Nat) : Int) by simp, IntKind.wrap_u64]
        omega
      have hor : bits .or .u64 (x : Int) ((a * 2 ^ s : Nat) : Int) = ((x ||| a * 2 ^ s : Nat) : Int) := or64 HX.out.lt hlt
      generalize x ||| a * 2 ^ s = x2 at *
      generalize ((a * 2 ^ s : Nat) : Int) = y at *
      have hki : (k : Int) < (m : Int) := by omega
      have hk0 : (0 : Int) ≤ (k : Int) := by omega
      clear hca h1 h2 e1 hlt
      go_wp2_with fail
      go_roundw
      case rel => exact ⟨k + 1, x2, by omega, by go_num, rfl, by first | rfl | trivial, HN.out⟩
      case measure => simp [intOf]; omega
    · have hki : ¬ (k : Int) < (m : Int) := by omega
      obtain rfl : k = m := by omega
      go_wp2_with fail
      go_ret
      exact ⟨x, rfl, HX.out.congr (fun j => by
        unfold firstW
        by_cases h : j < 32 * k
        · rw [decide_eq_true h, Bool.true_and]
        · rw [decide_eq_false h, HP.out j (by omega)]; rfl), q1.1⟩
/-- A right vector of so many places. -/
def OfRow (b : Int) (m : Nat) (f : Nat → Int) (n : Nat) : Prop := Right b m f ∧ b = (n : Int) + 1
open Classical in
set_option maxRecDepth 100000 in
set_option maxHeartbeats 4000000 in
theorem isOfRow_any (b : Int) (sa : Option Addr) (m cap n : Nat) (f : Nat → Int) (w : World) (hn : n ≤ 60) (hm : m ≤ 1048576) (hr : Row w w.heap.size sa m f) :
    Calls Try.prog 99 #[.agg #[.int .i64 b, .slice sa m cap], .int .i64 (n : Int)] w fun e w' => e = .returned (.bool (decide (OfRow b m f n))) ∧ Below w.heap.size w w' := by
  have q1 := boxing w 45 b sa m cap
  have C := implRight_any b sa m cap f (w.alloc (.cells #[.int .i64 b, .slice sa m cap] 45)) hm (row_since hr ⟨q1.1⟩)
  clear hr
  by_cases h1 : Right b m f
  · rw [decide_eq_true h1] at C
    by_cases h2 : b = (n : Int) + 1
    · rw [decide_eq_true (show OfRow b m f n from ⟨h1, h2⟩)]
      subst h2
      clear h1
      go_enter Try.func99, Try.ntmps99
      go_wp2_with fail
      generalize w.alloc (.cells #[.int .i64 ((n : Int) + 1), .slice sa m cap] 45) = v1 at *
      refine C.mono ?_
      rintro e w2 ⟨rfl, hb2⟩
      obtain ⟨a0, a1⟩ := (q1.2.1.kept hb2 rfl).cells
      have B2 : Hid (Below w.heap.size w w2) := q1.1.trans (hb2.mono q1.1.size)
      clear C hb2 q1
      go_wp2_with fail
      go_ret
      exact ⟨rfl, B2.out⟩
    · rw [decide_eq_false (show ¬ OfRow b m f n from fun h => h2 h.2)]
      have h3 : (b == (n : Int) + 1) = false := by simpa using h2
      clear h1
      go_enter Try.func99, Try.ntmps99
      go_wp2_with fail
      generalize w.alloc (.cells #[.int .i64 b, .slice sa m cap] 45) = v1 at *
      refine C.mono ?_
      rintro e w2 ⟨rfl, hb2⟩
      obtain ⟨a0, a1⟩ := (q1.2.1.kept hb2 rfl).cells
      have B2 : Hid (Below w.heap.size w w2) := q1.1.trans (hb2.mono q1.1.size)
      clear C hb2 q1
      go_wp2_with fail
      go_ret
      exact ⟨rfl, B2.out⟩
  · rw [decide_eq_false (show ¬ OfRow b m f n from fun h => h1 h.1)]
    rw [decide_eq_false h1] at C
    clear h1
    go_enter Try.func99, Try.ntmps99
    go_wp2_with fail
    generalize w.alloc (.cells #[.int .i64 b, .slice sa m cap] 45) = v1 at *
    refine C.mono ?_
    rintro e w2 ⟨rfl, hb2⟩
    have B2 : Hid (Below w.heap.size w w2) := q1.1.trans (hb2.mono q1.1.size)
    clear C hb2 q1
    go_wp2_with fail
    go_ret
    exact ⟨rfl, B2.out⟩
end Go.Proofs.Ytlgnplnmcdjbiaa
namespace Go.Proofs.Ytlgnplnmcdjbiaa
open Go.RowKit

set_option maxRecDepth 100000 in
set_option maxHeartbeats 4000000 in
theorem closed_any (b a sk n : Nat) (S P : Nat → Bool) (w : World) (hn : n ≤ 60) (hc : w.cell? ⟨b, 1, none⟩ = some (.int .u64 (sk : Int))) (hlt : b < w.heap.size) (hsk : IsBits sk S) (hS : ∀ j, n < j → S j = false) (ha : IsBits a P) (hP : ∀ j, n < j → P j = false) :
    Calls Try.prog 100 #[.pointer (some ⟨b, 0, none⟩), .int .u64 (a : Int)] w fun e w' => ∃ x : Nat, e = .returned (.int .u64 (x : Int)) ∧ IsBits x (cloB S P) ∧ w' = w := by
  have HSK : Hid (IsBits sk S ∧ ∀ j, n < j → S j = false) := ⟨hsk, hS⟩
  have HP : Hid (IsBits a P ∧ ∀ j, n < j → P j = false) := ⟨ha, hP⟩
  clear hsk hS ha hP
  go_enter Try.func100, Try.ntmps100
  go_wp2_with fail
  go_loopw [1, 5] (fun av mv wr => ∃ (x m : Nat) (A : Nat → Bool), av = .int .u64 (x : Int) ∧ mv = .int .u64 (m : Int) ∧ wr = w ∧ IsBits x A ∧ (∀ j, P j = true → A j = true) ∧ (∀ j, A j = true → cloB S P j = true) ∧ (m = 0 → ∀ j, A j = true → S (j + 1) = true → A (j + 1) = true)) (fun av mv _ => 2 * (2 ^ 62 - (intOf av).toNat) + min 1 (intOf mv).toNat)
  case atStart => exact ⟨a, a, P, rfl, rfl, rfl, HP.out.1, fun _ h => h, fun _ h => cloB_of h, fun h j hj => by rw [HP.out.1.none.1 h] at hj; cases hj⟩
  case round =>
    obtain ⟨x, m, A, rfl, rfl, rfl, hx, h1, h2, h3⟩ := hrel
    have HX : Hid (IsBits x A) := hx
    by_cases hm : m = 0
    · have hmb : ((m : Int) != 0) = false := by simp [hm]
      have HE : Hid (∀ j, A j = cloB S P j) := clo_done h1 h2 (h3 hm)
      clear hx h1 h2 h3
      go_wp2_with fail
      go_ret
      exact ⟨x, rfl, HX.out.congr HE.out, rfl⟩
    · have hmb : ((m : Int) != 0) = true := by simpa using hm
      have hA : ∀ j, n < j → A j = false := fun j hj => by
        cases h : A j with
        | false => rfl
        | true => (have h9 := h2 j h; rw [clo_le HSK.out.2 HP.out.2 j hj] at h9; cases h9)
      have hxl := lt_pow_of hx hA
      have hx2 : x * 2 < 2 ^ 62 := by
        have : 2 ^ (n + 1) ≤ 2 ^ 61 := Nat.pow_le_pow_right (by decide) (by omega)
        omega
      have hy := (bits_shl hx (fun j hj => hA j (by omega))).and HSK.out.1
      have hm2 := bits_andNot hy hx
      have hx3 := hx.or hm2
      have e1 : bits .and .u64 ((x : Int) * 2) (sk : Int) = ((x * 2 &&& sk : Nat) : Int) := and64 (a := x * 2) (by omega) HSK.out.1.lt
      have e2 : bits .andNot .u64 ((x * 2 &&& sk : Nat) : Int) (x : Int) = (((x * 2 &&& sk) ^^^ ((x * 2 &&& sk) &&& x) : Nat) : Int) := andNot64 hy.lt
      have e3 : bits .or .u64 (x : Int) (((x * 2 &&& sk) ^^^ ((x * 2 &&& sk) &&& x) : Nat) : Int) = ((x ||| ((x * 2 &&& sk) ^^^ ((x * 2 &&& sk) &&& x)) : Nat) : Int) := or64 hx.lt hm2.lt
      generalize x * 2 &&& sk = y at *
      generalize y ^^^ (y &&& x) = m2 at *
      have hle : x ≤ x ||| m2 := Nat.left_le_or
      have hne : m2 ≠ 0 → x ≠ x ||| m2 := fun h9 he => h9 (hm2.none.2 (fun j => by
        have h8 := hx3.bit j
        rw [← he, hx.bit j] at h8
        cases ha : A j with
        | true => simp
        | false => rw [ha] at h8; simpa using h8.symm))
      generalize x ||| m2 = x3 at *
      have hA3 : ∀ j, (A j || (((decide (1 ≤ j) && A (j - 1)) && S j) && !A j)) = true → cloB S P j = true := fun j h => by
        rw [Bool.or_eq_true] at h
        rcases h with h | h
        · exact h2 j h
        · simp only [Bool.and_eq_true, decide_eq_true_eq] at h
          obtain ⟨⟨⟨g1, g2⟩, g3⟩, _⟩ := h
          obtain ⟨i, rfl⟩ : ∃ i, j = i + 1 := ⟨j - 1, by omega⟩
          unfold cloB
          rw [g3, h2 i (by simpa using g2)]
          simp
      have hlt3 : x3 < 2 ^ 62 := by
        have h9 := lt_pow_of hx3 (n := n) (fun j hj => by
          cases h : (A j || (((decide (1 ≤ j) && A (j - 1)) && S j) && !A j)) with
          | false => rfl
          | true => (have h8 := hA3 j h; rw [clo_le HSK.out.2 HP.out.2 j hj] at h8; cases h8))
        have : 2 ^ (n + 1) ≤ 2 ^ 61 := Nat.pow_le_pow_right (by decide) (by omega)
        omega
      have HREL : Hid (IsBits x3 (fun j => A j || (((decide (1 ≤ j) && A (j - 1)) && S j) && !A j)) ∧ (∀ j, P j = true → (A j || (((decide (1 ≤ j) && A (j - 1)) && S j) && !A j)) = true) ∧ (∀ j, (A j || (((decide (1 ≤ j) && A (j - 1)) && S j) && !A j)) = true → cloB S P j = true) ∧ (m2 = 0 → ∀ j, (A j || (((decide (1 ≤ j) && A (j - 1)) && S j) && !A j)) = true → S (j + 1) = true → (A (j + 1) || (((decide (1 ≤ j + 1) && A (j + 1 - 1)) && S (j + 1)) && !A (j + 1))) = true)) := by
        refine ⟨hx3, fun j hj => by rw [h1 j hj]; rfl, hA3, fun h9 j hj hs => ?_⟩
        have h8 := hm2.none.1 h9
        have h7 : A j = true := by
          have := h8 j
          rw [this] at hj
          simpa using hj
        simp [h7, hs]
      have HMS : Hid (x ≤ x3 ∧ x3 < 2 ^ 62 ∧ (m2 ≠ 0 → x ≠ x3)) := ⟨hle, hlt3, hne⟩
      have hms0 : ¬ (m : Int) = 0 := by omega
      clear hx h1 h2 h3 hy hm2 hx3 hA3 hle hne hlt3
      go_wp2_with fail
      go_roundw
      case rel => exact ⟨x3, m2, _, rfl, rfl, trivial, HREL.out⟩
      case measure =>
        obtain ⟨g1, g2, g3⟩ := HMS.out
        simp only [intOf, Int.toNat_natCast]
        by_cases h9 : m2 = 0
        · omega
        · have := g3 h9
          omega
end Go.Proofs.Ytlgnplnmcdjbiaa
