/- What is proved here: VecNew, the program's and the specification's, hands back so many bits, none of them on, in new memory, or nothing; nothing that was there turns.
   What is proved here: the program writes places as a vector, in new memory; nothing that was there turns.
   What is proved here: the program's isByte says whether a number is a byte's; the world stays.
   What is proved here: the program reads the places that a vector holds as one number, and tells whether a vector is one of a row; nothing that was there turns. -/
import Derived.Test.YtlgnplnmcdjbiaaQVecFToWordsForW
import Derived.Test.YtlgnplnmcdjbiaaQWordsWToL02SetW
import Derived.Test.YtlgnplnmcdjbiaaQClassMToVecIsM
import Derived.RegionTactic
import Derived.BigRegion
import Derived.Test.YtlgnplnmcdjbiaaProg
import Derived.WalkKit
import Derived.Test.YtlgnplnmcdjbiaaQStepVM
import Derived.Test.YtlgnplnmcdjbiaaQImplRightW
namespace Go.Proofs.Ytlgnplnmcdjbiaa
open Go.RowKit

set_option maxHeartbeats 1000000 in
theorem implNew_yes (b : Int) (m : Nat) (w : World) (h0 : 1 ≤ b) (h1 : b ≤ 320) (hm : (m : Int) = (b + 31) / 32) :
    Calls Try.prog 171 #[.int .i64 b] w fun e w' => NewVec w b m (fun _ => 0) e w' := by
  have HM : Hid ((m : Int) = (b + 31) / 32) := hm
  have hm1 : m ≤ 10 := by omega
  clear hm
  go_enter Try.func171, Try.ntmps171
  go_wp2_with fail
  refine (wordsFor_any b _ (by omega) h1).mono ?_
  rintro e w1 ⟨rfl, hw⟩
  subst hw
  rw [← HM.out]
  have q3 := boxing w 45 0 none 0 0
  generalize w.alloc (.cells #[.int .i64 0, .slice none 0 0] 45) = v at *
  obtain ⟨u, g, hmk, hg1, hg2, hbu, hown⟩ := make_new v m (by omega)
  have HO : Hid (Own u g m (fun _ => 0)) := hown
  have S : Hid (Since w u) := since_call (since_call (since_refl _) q3.1) hbu
  obtain ⟨cb0, cb1, cb2, cb3⟩ := (q3.2.1.kept hbu rfl).four
  have l1 : w.heap.size < g := by have := q3.2.2; omega
  have l2 : w.heap.size < u.heap.size := by omega
  clear q3 hown hbu hg1
  go_wp2
  refine bodyPost_ret (v := vecV b (some ⟨g, 0, none⟩) m m) (by simp [results, Try.results171, go_sem, vecV, cb0, cb1]) rfl ?_
  exact ⟨_, _, rfl, (since_set (since_set S.out (by show w.heap.size ≤ w.heap.size; omega)) (by show w.heap.size ≤ w.heap.size; omega)).below, Or.inr ⟨_, rfl, by omega, (HO.out.setOther _ _ (by show w.heap.size ≠ g; omega)).setOther _ _ (by show w.heap.size ≠ g; omega)⟩⟩
set_option maxHeartbeats 1000000 in
theorem implNew_no (b : Int) (w : World) (h : ¬ (1 ≤ b ∧ b ≤ 320)) :
    Calls Try.prog 171 #[.int .i64 b] w fun e w' => NewVec w 0 0 (fun _ => 0) e w' := by
  have S : Hid (Since w (w.alloc (.cells #[.int .i64 0, .slice none 0 0] 45))) := since_alloc (since_refl _)
  rcases (show b < 1 ∨ 1 ≤ b ∧ 320 < b from by omega) with hx | ⟨hx, hx2⟩
  · clear h
    go_enter Try.func171, Try.ntmps171
    go_wp2
    refine bodyPost_ret (v := vecV 0 none 0 0) (by simp [results, Try.results171, go_sem, vecV]) rfl ?_
    exact ⟨_, _, rfl, S.out.below, Or.inl rfl⟩
  · clear h
    go_enter Try.func171, Try.ntmps171
    go_wp2
    refine bodyPost_ret (v := vecV 0 none 0 0) (by simp [results, Try.results171, go_sem, vecV]) rfl ?_
    exact ⟨_, _, rfl, S.out.below, Or.inl rfl⟩
end Go.Proofs.Ytlgnplnmcdjbiaa
namespace Go.Proofs.Ytlgnplnmcdjbiaa
open Go.RowKit

set_option maxRecDepth 100000 in
set_option maxHeartbeats 4000000 in
theorem pvec_any (x n m : Nat) (w : World) (hx : x < 18446744073709551616) (hn : n ≤ 60) (hm : m = (n + 1 + 31) / 32) :
    Calls Try.prog 102 #[.int .u64 (x : Int), .int .i64 (n : Int)] w fun e w' => NewVec w ((n : Int) + 1) m (wordsN x) e w' := by
  have hm2 : m ≤ 2 := by omega
  have hm1 : 1 ≤ m := by omega
  have C := fun W => implNew_yes ((n : Int) + 1) m W (by omega) (by omega) (by omega)
  have HC : Hid (∀ W, Calls Try.prog 171 #[.int .i64 ((n : Int) + 1)] W fun e w' => NewVec W ((n : Int) + 1) m (fun _ => 0) e w') := C
  clear C hm
  go_enter Try.func102, Try.ntmps102
  go_wp2_with fail
  have q0 := boxing w 45 0 none 0 0
  generalize w.alloc (.cells #[.int .i64 0, .slice none 0 0] 45) = v0 at *
  refine (HC.out v0).mono ?_
  rintro e w1 ⟨s1, c1, rfl, hb1, ho1⟩
  unfold vecV
  have X0 : Hid (Boxed w1 w.heap.size 45 0 none 0 0) := q0.2.1.kept hb1 rfl
  have S1 : Hid (Since w w1) := since_call (since_call (since_refl _) q0.1) hb1
  obtain ⟨g, rfl, hgl, ho⟩ : ∃ g, s1 = some ⟨g, 0, none⟩ ∧ v0.heap.size ≤ g ∧ Own w1 g m (fun _ => 0) := by
    rcases ho1 with h | h
    · omega
    · exact h
  have O1 : Hid (Own w1 g m (fun _ => 0)) := ho
  have hg0 : w.heap.size < g := by have := q0.2.2; omega
  have hg1 := ho.1
  have q2 := boxing w1 45 ((n : Int) + 1) (some ⟨g, 0, none⟩) m c1
  clear q0 hb1 ho1 ho hgl
  go_wp2_with fail
  generalize w1.alloc (.cells #[.int .i64 ((n : Int) + 1), .slice (some ⟨g, 0, none⟩) m c1] 45) = v2 at *
  have X2 : Hid (Boxed v2 w.heap.size 45 0 none 0 0) := X0.out.kept q2.1 rfl
  have Y2 : Hid (Boxed v2 w1.heap.size 45 ((n : Int) + 1) (some ⟨g, 0, none⟩) m c1) := q2.2.1
  have S2 : Hid (Since w v2) := since_call S1.out q2.1
  have O2 : Hid (Own v2 g m (fun _ => 0)) := O1.out.kept q2.1 hg1
  clear q2 X0 S1 O1
  generalize w1.heap.size = p at *
  go_loopw [13] (fun iv wr => ∃ k : Nat, k ≤ m ∧ iv = .int .i64 (k : Int) ∧ Boxed wr w.heap.size 45 0 none 0 0 ∧ Boxed wr p 45 ((n : Int) + 1) (some ⟨g, 0, none⟩) m c1 ∧ Since w wr ∧ Own wr g m (fun i => if i < k then wordsN x i else 0)) (fun iv _ => m - (intOf iv).toNat)
  case atStart => exact ⟨0, Nat.zero_le _, rfl, X2.out, Y2.out, S2.out, O2.out.congr (fun i _ => by simp)⟩
  case round =>
    obtain ⟨k, hk, rfl, hX, hY, hS, hO⟩ := hrel
    have HX : Hid (Boxed wr w.heap.size 45 0 none 0 0) := hX
    have HY : Hid (Boxed wr p 45 ((n : Int) + 1) (some ⟨g, 0, none⟩) m c1) := hY
    have HS : Hid (Since w wr) := hS
    have HO : Hid (Own wr g m (fun i => if i < k then wordsN x i else 0)) := hO
    obtain ⟨y0, y1⟩ := hY.cells
    have ylt := hY.lt
    by_cases hkl : k < m
    · have hki : (k : Int) < (m : Int) := by omega
      have hk0 : (0 : Int) ≤ (k : Int) := by omega
      have ck := hO.2.1 k hkl
      have fk := hO.2.2 k hkl
      have hglt := hO.1
      obtain ⟨s, hs⟩ : ∃ s, k * 32 = s := ⟨_, rfl⟩
      have hsi : (k : Int) * 32 = (s : Int) := by omega
      have hsw : IntKind.i64.wrap ((k : Int) * 32) = (s : Int) := by rw [IntKind.wrap_i64]; omega
      have hs0 : (0 : Int) ≤ (s : Int) := by omega
      have hsh : (x : Int) / 2 ^ s = ((x / 2 ^ s : Nat) : Int) := by simp
      have hxl : x / 2 ^ s < 18446744073709551616 := Nat.lt_of_le_of_lt (Nat.div_le_self _ _) hx
      have hand := and_word64 hxl
      have HW : Hid (wordsN x k = ((x / 2 ^ s % 4294967296 : Nat) : Int)) := by show wordsN x k = _; unfold wordsN; rw [hs]
      have hzl : x / 2 ^ s % 4294967296 < 4294967296 := Nat.mod_lt _ (by decide)
      generalize x / 2 ^ s % 4294967296 = z at *
      generalize x / 2 ^ s = y at *
      have hwz : IntKind.i64.wrap (z : Int) = (z : Int) := by rw [IntKind.wrap_i64]; omega
      have hwy : IntKind.u64.wrap (y : Int) = (y : Int) := by rw [IntKind.wrap_u64]; omega
      have hpg : g ≠ p := by omega
      have hwg : g ≠ w.heap.size := by omega
      clear hX hY hS hO hs
      go_wp2_with fail
      go_region
      all_goals
        go_wp2_with fail
        go_roundw
        case rel => exact ⟨k + 1, by omega, by go_num, (HX.out.setOther _ _ hwg).drew, (HY.out.setOther _ _ hpg).drew, since_drew (since_set HS.out (by show w.heap.size ≤ g; omega)), ((HO.out.set hkl (z : Int)).congr (fun i hi => by
          by_cases e : i = k
          · subst e; rw [if_pos rfl, if_pos (by omega), HW.out]
          · rw [if_neg e]
            by_cases e2 : i < k
            · rw [if_pos e2, if_pos (by omega)]
            · rw [if_neg e2, if_neg (by omega)])).drew⟩
        case measure => simp [intOf]; omega
    · have hki : ¬ (k : Int) < (m : Int) := by omega
      obtain rfl : k = m := by omega
      obtain ⟨a0, a1, a2, a3⟩ := hX.four
      have xlt := hX.lt
      have hne1 : w.heap.size ≠ p := by omega
      clear hX hY hS hO
      go_wp2_with fail
      refine bodyPost_ret (v := vecV ((n : Int) + 1) (some ⟨g, 0, none⟩) k c1) (by simp [results, Try.results102, go_sem, vecV, a0, a1]) rfl ?_
      exact ⟨_, _, rfl, (since_set (since_set HS.out (by show w.heap.size ≤ w.heap.size; omega)) (by show w.heap.size ≤ w.heap.size; omega)).below, Or.inr ⟨g, rfl, by omega, ((HO.out.congr (fun i hi => if_pos hi)).setOther _ _ (by show w.heap.size ≠ g; omega)).setOther _ _ (by show w.heap.size ≠ g; omega)⟩⟩
end Go.Proofs.Ytlgnplnmcdjbiaa
namespace Go.Proofs.Ytlgnplnmcdjbiaa
open Go.RowKit

theorem isByte_yes (n : Int) (w : World) (h0 : 0 ≤ n) (h1 : n ≤ 255) :
    Calls Try.prog 144 #[.int .i64 n] w fun e w' => e = .returned (.bool true) ∧ w' = w := by
  go_enter Try.func144, Try.ntmps144
  go_wp2
  go_ret
  exact ⟨rfl, rfl⟩
theorem isByte_no (n : Int) (w : World) (h : ¬ (0 ≤ n ∧ n ≤ 255)) :
    Calls Try.prog 144 #[.int .i64 n] w fun e w' => e = .returned (.bool false) ∧ w' = w := by
  by_cases h0 : 0 ≤ n
  · have h1 : ¬ n ≤ 255 := fun h2 => h ⟨h0, h2⟩
    clear h
    go_enter Try.func144, Try.ntmps144
    go_wp2
    go_ret
    exact ⟨rfl, rfl⟩
  · clear h
    go_enter Try.func144, Try.ntmps144
    go_wp2
    go_ret
    exact ⟨rfl, rfl⟩
end Go.Proofs.Ytlgnplnmcdjbiaa
namespace Go.Proofs.Ytlgnplnmcdjbiaa
open Go.RowKit

theorem bits_shlN {a s : Nat} (ha : a < 2 ^ 32) (hs : s ≤ 32) : IsBits (a * 2 ^ s) (fun j => decide (s ≤ j) && a.testBit (j - s)) := by
  refine ⟨?_, fun j => ?_⟩
  · have h1 : 2 ^ s ≤ 2 ^ 32 := Nat.pow_le_pow_right (by decide) hs
    calc a * 2 ^ s < 2 ^ 32 * 2 ^ s := Nat.mul_lt_mul_of_pos_right ha (Nat.pow_pos (by decide))
      _ ≤ 2 ^ 32 * 2 ^ 32 := Nat.mul_le_mul_left _ h1
      _ = 18446744073709551616 := by decide
  · rw [Nat.mul_comm, Nat.testBit_two_pow_mul]
/-- The bits of the first k words. -/
def firstW (P : Nat → Bool) (k : Nat) : Nat → Bool := fun j => decide (j < 32 * k) && P j
theorem word_or {b a k : Nat} {P : Nat → Bool} (hb : IsBits b (firstW P k)) (ha : a < 2 ^ 32) (hk : k < 2) (h : ∀ q, q < 32 → a.testBit q = P (32 * k + q)) : IsBits (b ||| a * 2 ^ (k * 32)) (firstW P (k + 1)) :=
  (hb.or (bits_shlN ha (by omega))).congr (fun j => by
    unfold firstW
    by_cases h1 : j < 32 * k
    · rw [decide_eq_true h1, decide_eq_false (show ¬ k * 32 ≤ j by omega), decide_eq_true (show j < 32 * (k + 1) by omega)]
      simp
    · rw [decide_eq_false h1, decide_eq_true (show k * 32 ≤ j by omega)]
      by_cases h2 : j < 32 * (k + 1)
      · rw [decide_eq_true h2, h (j - k * 32) (by omega), show 32 * k + (j - k * 32) = j by omega]
        simp
      · rw [decide_eq_false h2, Nat.testBit_lt_two_pow (Nat.lt_of_lt_of_le ha (Nat.pow_le_pow_right (by decide) (by omega)))]
        simp)
set_option maxRecDepth 100000 in
set_option maxHeartbeats 4000000 in
theorem placesOf_any (b : Int) (sa : Option Addr) (m cap : Nat) (f : Nat → Int) (P : Nat → Bool) (w : World) (hm : m ≤ 2) (hr : Row w w.heap.size sa m f) (hv : VecIs f P m) (hP : ∀ j, 32 * m ≤ j → P j = false) :
    Calls Try.prog 101 #[.agg #[.int .i64 b, .slice sa m cap]] w fun e w' => ∃ x : Nat, e = .returned (.int .u64 (x : Int)) ∧ IsBits x P ∧ Below w.heap.size w w' := by
  have HV : Hid (VecIs f P m) := hv
  have HP : Hid (∀ j, 32 * m ≤ j → P j = false) := hP
  have HR : Hid (Row w w.heap.size sa m f) := hr
  have q1 := boxing w 45 b sa m cap
  clear hr hv hP
  go_enter Try.func101, Try.ntmps101
  go_wp2_with fail
  generalize w.alloc (.cells #[.int .i64 b, .slice sa m cap] 45) = v1 at *
  go_loopw [3, 9] (fun ov iv wr => ∃ k x : Nat, k ≤ m ∧ iv = .int .i64 (k : Int) ∧ ov = .int .u64 (x : Int) ∧ wr = v1 ∧ IsBits x (firstW P k)) (fun _ iv _ => m - (intOf iv).toNat)
  case atStart => exact ⟨0, 0, Nat.zero_le _, rfl, rfl, rfl, bits_zero.congr (fun j => by unfold firstW; rw [decide_eq_false (by omega)]; rfl)⟩
  case round =>
    obtain ⟨k, x, hk, rfl, rfl, rfl, hx⟩ := hrel
    have HX : Hid (IsBits x (firstW P k)) := hx
    clear hx
    by_cases hkl : k < m
    · obtain ⟨bb, off, rfl, hbb, hca⟩ : ∃ bb off : Nat, sa = some ⟨bb, off, none⟩ ∧ bb < w.heap.size ∧ ∀ i, i < m → w.cell? ⟨bb, off + i, none⟩ = some (.int .i64 (f i)) := by
        rcases HR.out with h | h
        · omega
        · exact h
      obtain ⟨a, e1, h1, h2⟩ := HV.out k hkl
      have ck : wr.cell? ⟨bb, off + k, none⟩ = some (.int .i64 (a : Int)) := by rw [q1.1.cell (p := ⟨bb, off + k, none⟩) hbb, ← e1]; exact hca k hkl
      have HN : Hid (IsBits (x ||| a * 2 ^ (k * 32)) (firstW P (k + 1))) := word_or HX.out h1 (by omega) h2
      have hwa : IntKind.u64.wrap (a : Int) = (a : Int) := by rw [IntKind.wrap_u64]; omega
      obtain ⟨s, hs⟩ : ∃ s, k * 32 = s := ⟨_, rfl⟩
      have hsi : (k : Int) * 32 = (s : Int) := by omega
      have hs0 : (0 : Int) ≤ (s : Int) := by omega
      have hs64 : (s : Int) < 64 := by omega
      rw [hs] at HN
      have hlt := (bits_shlN (s := s) h1 (by omega)).lt
      have hwp : IntKind.u64.wrap ((a : Int) * 2 ^ s) = ((a * 2 ^ s : Nat) : Int) := by
        rw [show (a : Int) * 2 ^ s = ((a * 2 ^ s : Nat) : Int) by simp, IntKind.wrap_u64]
        omega
      have hor : bits .or .u64 (x : Int) ((a * 2 ^ s : Nat) : Int) = ((x ||| a * 2 ^ s : Nat) : Int) := or64 HX.out.lt hlt
      generalize x ||| a * 2 ^ s = x2 at *
      generalize ((a * 2 ^ s : Nat) : Int) = y at *
      have hki : (k : Int) < (m : Int) := by omega
      have hk0 : (0 : Int) ≤ (k : Int) := by omega
      clear hca h1 h2 e1 hlt
      go_wp2_with fail
      go_roundw
      case rel => exact ⟨k + 1, x2, by omega, by go_num, rfl, by first | rfl | trivial, HN.out⟩
      case measure => simp [intOf]; omega
    · have hki : ¬ (k : Int) < (m : Int) := by omega
      obtain rfl : k = m := by omega
      go_wp2_with fail
      go_ret
      exact ⟨x, rfl, HX.out.congr (fun j => by
        unfold firstW
        by_cases h : j < 32 * k
        · rw [decide_eq_true h, Bool.true_and]
        · rw [decide_eq_false h, HP.out j (by omega)]; rfl), q1.1⟩
/-- A right vector of so many places. -/
def OfRow (b : Int) (m : Nat) (f : Nat → Int) (n : Nat) : Prop := Right b m f ∧ b = (n : Int) + 1
open Classical in
set_option maxRecDepth 100000 in
set_option maxHeartbeats 4000000 in
theorem isOfRow_any (b : Int) (sa : Option Addr) (m cap n : Nat) (f : Nat → Int) (w : World) (hn : n ≤ 60) (hm : m ≤ 1048576) (hr : Row w w.heap.size sa m f) :
    Calls Try.prog 99 #[.agg #[.int .i64 b, .slice sa m cap], .int .i64 (n : Int)] w fun e w' => e = .returned (.bool (decide (OfRow b m f n))) ∧ Below w.heap.size w w' := by
  have q1 := boxing w 45 b sa m cap
  have C := implRight_any b sa m cap f (w.alloc (.cells #[.int .i64 b, .slice sa m cap] 45)) hm (row_since hr ⟨q1.1⟩)
  clear hr
  by_cases h1 : Right b m f
  · rw [decide_eq_true h1] at C
    by_cases h2 : b = (n : Int) + 1
    · rw [decide_eq_true (show OfRow b m f n from ⟨h1, h2⟩)]
      subst h2
      clear h1
      go_enter Try.func99, Try.ntmps99
      go_wp2_with fail
      generalize w.alloc (.cells #[.int .i64 ((n : Int) + 1), .slice sa m cap] 45) = v1 at *
      refine C.mono ?_
      rintro e w2 ⟨rfl, hb2⟩
      obtain ⟨a0, a1⟩ := (q1.2.1.kept hb2 rfl).cells
      have B2 : Hid (Below w.heap.size w w2) := q1.1.trans (hb2.mono q1.1.size)
      clear C hb2 q1
      go_wp2_with fail
      go_ret
      exact ⟨rfl, B2.out⟩
    · rw [decide_eq_false (show ¬ OfRow b m f n from fun h => h2 h.2)]
      have h3 : (b == (n : Int) + 1) = false := by simpa using h2
      clear h1
      go_enter Try.func99, Try.ntmps99
      go_wp2_with fail
      generalize w.alloc (.cells #[.int .i64 b, .slice sa m cap] 45) = v1 at *
      refine C.mono ?_
      rintro e w2 ⟨rfl, hb2⟩
      obtain ⟨a0, a1⟩ := (q1.2.1.kept hb2 rfl).cells
      have B2 : Hid (Below w.heap.size w w2) := q1.1.trans (hb2.mono q1.1.size)
      clear C hb2 q1
      go_wp2_with fail
      go_ret
      exact ⟨rfl, B2.out⟩
  · rw [decide_eq_false (show ¬ OfRow b m f n from fun h => h1 h.1)]
    rw [decide_eq_false h1] at C
    clear h1
    go_enter Try.func99, Try.ntmps99
    go_wp2_with fail
    generalize w.alloc (.cells #[.int .i64 b, .slice sa m cap] 45) = v1 at *
    refine C.mono ?_
    rintro e w2 ⟨rfl, hb2⟩
    have B2 : Hid (Below w.heap.size w w2) := q1.1.trans (hb2.mono q1.1.size)
    clear C hb2 q1
    go_wp2_with fail
    go_ret
    exact ⟨rfl, B2.out⟩
end Go.Proofs.Ytlgnplnmcdjbiaa
