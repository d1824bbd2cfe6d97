/- What is proved here: the program reads the places that a vector holds as one number, and tells whether a vector is one of a row; nothing that was there turns.
   What is said here: there are numbers that have the bits of a row's runs.
   What is proved here: the program makes a row and its masks ready, in new blocks, or hands back none; nothing that was there turns. -/
import Derived.Test.YthnnenbpbkmbhaaQStepVM
import Derived.Test.YthnnenbpbkmbhaaQImplRightW
import Derived.Test.YthnnenbpbkmbhaaQSpecMaskLW
import Derived.Test.YthnnenbpbkmbhaaQOnceAtW
import Derived.Test.YthnnenbpbkmbhaaQImplMaskW
import Derived.Deep.RegionHeld3
namespace Go.Proofs.Ythnnenbpbkmbhaa
open Go.RowKit

theorem bits_shlN {a s : Nat} (ha : a < 2 ^ 32) (hs : s ≤ 32) : IsBits (a * 2 ^ s) (fun j => decide (s ≤ j) && a.testBit (j - s)) := by
  refine ⟨?_, fun j => ?_⟩
  · have h1 : 2 ^ s ≤ 2 ^ 32 := Nat.pow_le_pow_right (by decide) hs
    calc a * 2 ^ s < 2 ^ 32 * 2 ^ s := Nat.mul_lt_mul_of_pos_right ha (Nat.pow_pos (by decide))
      _ ≤ 2 ^ 32 * 2 ^ 32 := Nat.mul_le_mul_left _ h1
      _ = 18446744073709551616 := by decide
  · rw [Nat.mul_comm, Nat.testBit_two_pow_mul]
/-- The bits of the first k words. -/
def firstW (P : Nat → Bool) (k : Nat) : Nat → Bool := fun j => decide (j < 32 * k) && P j
theorem word_or {b a k : Nat} {P : Nat → Bool} (hb : IsBits b (firstW P k)) (ha : a < 2 ^ 32) (hk : k < 2) (h : ∀ q, q < 32 → a.testBit q = P (32 * k + q)) : IsBits (b ||| a * 2 ^ (k * 32)) (firstW P (k + 1)) :=
  (hb.or (bits_shlN ha (by omega))).congr (fun j => by
    unfold firstW
    by_cases h1 : j < 32 * k
    · rw [decide_eq_true h1, decide_eq_false (show ¬ k * 32 ≤ j by omega), decide_eq_true (show j < 32 * (k + 1) by omega)]
      simp
    · rw [decide_eq_false h1, decide_eq_true (show k * 32 ≤ j by omega)]
      by_cases h2 : j < 32 * (k + 1)
      · rw [decide_eq_true h2, h (j - k * 32) (by omega), show 32 * k + (j - k * 32) = j by omega]
        simp
      · rw [decide_eq_false h2, Nat.testBit_lt_two_pow (Nat.lt_of_lt_of_le ha (Nat.pow_le_pow_right (by decide) (by omega)))]
        simp)
set_option maxRecDepth 100000 in
set_option maxHeartbeats 4000000 in
theorem placesOf_any (b : Int) (sa : Option Addr) (m cap : Nat) (f : Nat → Int) (P : Nat → Bool) (w : World) (hm : m ≤ 2) (hr : Row w w.heap.size sa m f) (hv : VecIs f P m) (hP : ∀ j, 32 * m ≤ j → P j = false) :
    Calls Try.prog 99 #[.agg #[.int .i64 b, .slice sa m cap]] w fun e w' => ∃ x : Nat, e = .returned (.int .u64 (x : Int)) ∧ IsBits x P ∧ Below w.heap.size w w' := by
  have HV : Hid (VecIs f P m) := hv
  have HP : Hid (∀ j, 32 * m ≤ j → P j = false) := hP
  have HR : Hid (Row w w.heap.size sa m f) := hr
  have q1 := boxing w 26 b sa m cap
  clear hr hv hP
  go_enter Try.func99, Try.ntmps99
  go_wp2_with fail
  generalize w.alloc (.cells #[.int .i64 b, .slice sa m cap] 26) = v1 at *
  go_loopw [3, 9] (fun ov iv wr => ∃ k x : Nat, k ≤ m ∧ iv = .int .i64 (k : Int) ∧ ov = .int .u64 (x : Int) ∧ wr = v1 ∧ IsBits x (firstW P k)) (fun _ iv _ => m - (intOf iv).toNat)
  case atStart => exact ⟨0, 0, Nat.zero_le _, rfl, rfl, rfl, bits_zero.congr (fun j => by unfold firstW; rw [decide_eq_false (by omega)]; rfl)⟩
  case round =>
    obtain ⟨k, x, hk, rfl, rfl, rfl, hx⟩ := hrel
    have HX : Hid (IsBits x (firstW P k)) := hx
    clear hx
    by_cases hkl : k < m
    · obtain ⟨bb, off, rfl, hbb, hca⟩ : ∃ bb off : Nat, sa = some ⟨bb, off, none⟩ ∧ bb < w.heap.size ∧ ∀ i, i < m → w.cell? ⟨bb, off + i, none⟩ = some (.int .i64 (f i)) := by
        rcases HR.out with h | h
        · omega
        · exact h
      obtain ⟨a, e1, h1, h2⟩ := HV.out k hkl
      have ck : wr.cell? ⟨bb, off + k, none⟩ = some (.int .i64 (a : Int)) := by rw [q1.1.cell (p := ⟨bb, off + k, none⟩) hbb, ← e1]; exact hca k hkl
      have HN : Hid (IsBits (x ||| a * 2 ^ (k * 32)) (firstW P (k + 1))) := word_or HX.out h1 (by omega) h2
      have hwa : IntKind.u64.wrap (a : Int) = (a : Int) := by rw [IntKind.wrap_u64]; omega
      obtain ⟨s, hs⟩ : ∃ s, k * 32 = s := ⟨_, rfl⟩
      have hsi : (k : Int) * 32 = (s : Int) := by omega
      have hs0 : (0 : Int) ≤ (s : Int) := by omega
      have hs64 : (s : Int) < 64 := by omega
      rw [hs] at HN
      have hlt := (bits_shlN (s := s) h1 (by omega)).lt
      have hwp : IntKind.u64.wrap ((a : Int) * 2 ^ s) = ((a * 2 ^ s : Nat) : Int) := by
        rw [show (a : Int) * 2 ^ s = ((a * 2 ^ s : Nat) : Int) by simp, IntKind.wrap_u64]
        omega
      have hor : bits .or .u64 (x : Int) ((a * 2 ^ s : Nat) : Int) = ((x ||| a * 2 ^ s : Nat) : Int) := or64 HX.out.lt hlt
      generalize x ||| a * 2 ^ s = x2 at *
      generalize ((a * 2 ^ s : Nat) : Int) = y at *
      have hki : (k : Int) < (m : Int) := by omega
      have hk0 : (0 : Int) ≤ (k : Int) := by omega
      clear hca h1 h2 e1 hlt
      go_wp2_with fail
      go_roundw
      case rel => exact ⟨k + 1, x2, by omega, by go_num, rfl, by first | rfl | trivial, HN.out⟩
      case measure => simp [intOf]; omega
    · have hki : ¬ (k : Int) < (m : Int) := by omega
      obtain rfl : k = m := by omega
      go_wp2_with fail
      go_ret
      exact ⟨x, rfl, HX.out.congr (fun j => by
        unfold firstW
        by_cases h : j < 32 * k
        · rw [decide_eq_true h, Bool.true_and]
        · rw [decide_eq_false h, HP.out j (by omega)]; rfl), q1.1⟩
/-- A right vector of so many places. -/
def OfRow (b : Int) (m : Nat) (f : Nat → Int) (n : Nat) : Prop := Right b m f ∧ b = (n : Int) + 1
open Classical in
set_option maxRecDepth 100000 in
set_option maxHeartbeats 4000000 in
theorem isOfRow_any (b : Int) (sa : Option Addr) (m cap n : Nat) (f : Nat → Int) (w : World) (hn : n ≤ 60) (hm : m ≤ 1048576) (hr : Row w w.heap.size sa m f) :
    Calls Try.prog 97 #[.agg #[.int .i64 b, .slice sa m cap], .int .i64 (n : Int)] w fun e w' => e = .returned (.bool (decide (OfRow b m f n))) ∧ Below w.heap.size w w' := by
  have q1 := boxing w 26 b sa m cap
  have C := implRight_any b sa m cap f (w.alloc (.cells #[.int .i64 b, .slice sa m cap] 26)) hm (row_since hr ⟨q1.1⟩)
  clear hr
  by_cases h1 : Right b m f
  · rw [decide_eq_true h1] at C
    by_cases h2 : b = (n : Int) + 1
    · rw [decide_eq_true (show OfRow b m f n from ⟨h1, h2⟩)]
      subst h2
      clear h1
      go_enter Try.func97, Try.ntmps97
      go_wp2_with fail
      generalize w.alloc (.cells #[.int .i64 ((n : Int) + 1), .slice sa m cap] 26) = v1 at *
      refine C.mono ?_
      rintro e w2 ⟨rfl, hb2⟩
      obtain ⟨a0, a1⟩ := (q1.2.1.kept hb2 rfl).cells
      have B2 : Hid (Below w.heap.size w w2) := q1.1.trans (hb2.mono q1.1.size)
      clear C hb2 q1
      go_wp2_with fail
      go_ret
      exact ⟨rfl, B2.out⟩
    · rw [decide_eq_false (show ¬ OfRow b m f n from fun h => h2 h.2)]
      have h3 : (b == (n : Int) + 1) = false := by simpa using h2
      clear h1
      go_enter Try.func97, Try.ntmps97
      go_wp2_with fail
      generalize w.alloc (.cells #[.int .i64 b, .slice sa m cap] 26) = v1 at *
      refine C.mono ?_
      rintro e w2 ⟨rfl, hb2⟩
      obtain ⟨a0, a1⟩ := (q1.2.1.kept hb2 rfl).cells
      have B2 : Hid (Below w.heap.size w w2) := q1.1.trans (hb2.mono q1.1.size)
      clear C hb2 q1
      go_wp2_with fail
      go_ret
      exact ⟨rfl, B2.out⟩
  · rw [decide_eq_false (show ¬ OfRow b m f n from fun h => h1 h.1)]
    rw [decide_eq_false h1] at C
    clear h1
    go_enter Try.func97, Try.ntmps97
    go_wp2_with fail
    generalize w.alloc (.cells #[.int .i64 b, .slice sa m cap] 26) = v1 at *
    refine C.mono ?_
    rintro e w2 ⟨rfl, hb2⟩
    have B2 : Hid (Below w.heap.size w w2) := q1.1.trans (hb2.mono q1.1.size)
    clear C hb2 q1
    go_wp2_with fail
    go_ret
    exact ⟨rfl, B2.out⟩
end Go.Proofs.Ythnnenbpbkmbhaa
namespace Go.Proofs.Ythnnenbpbkmbhaa
open Go.RowKit

theorem first_ex (f : Nat → Cel) {n : Nat} (hn : n ≤ 60) : ∃ x, IsBits x (firstB (skipB f n)) := ⟨_, bits_valB (fun j hj => by unfold firstB; rw [skip_le f n (j + 1) (by omega)]; rfl)⟩
theorem last_ex (f : Nat → Cel) {n : Nat} (hn : n ≤ 60) : ∃ x, IsBits x (lastB (skipB f n)) := ⟨_, bits_valB (fun j hj => by unfold lastB; rw [skip_le f n j (by omega)]; rfl)⟩
theorem skip_ex (f : Nat → Cel) {n : Nat} (hn : n ≤ 60) : ∃ x, IsBits x (skipB f n) := ⟨_, bits_valB (fun j hj => skip_le f n j (by omega))⟩
end Go.Proofs.Ythnnenbpbkmbhaa
namespace Go.Proofs.Ythnnenbpbkmbhaa
open Go.RowKit

theorem skip_ok (f : Nat → Cel) (n : Nat) {fi la bl st fin : Nat} (h1 : IsBits fi (firstB (skipB f n))) (h2 : IsBits la (lastB (skipB f n))) (h3 : IsBits bl (skipB f n)) (h4 : IsBits st (fun j => decide (0 = j))) (h5 : IsBits fin (fun j => decide (n = j))) : MasksOk (skipB f n) n fi la bl st fin :=
  ⟨skip_zero f n, skip_le f n, h1, h2, h3, h4, h5⟩
theorem mrow_new (W : World) (b y1 y2 y3 y4 y5 : Nat) (t : TypeId) : MRow (W.alloc (.cells #[.pointer (some ⟨b, 0, none⟩), .int .u64 (y1 : Int), .int .u64 (y2 : Int), .int .u64 (y3 : Int), .int .u64 (y4 : Int), .int .u64 (y5 : Int)] t)) W.heap.size b y1 y2 y3 y4 y5 :=
  ⟨by simp, by simp, by simp, by simp, by simp, by simp, by simp⟩
theorem mrowOf_no (sa : Option Addr) (n cap : Nat) (f : Nat → Cel) (w : World) (hn : n ≤ maxLen) (hr : CRow w w.heap.size sa n f) (hc : ∀ i, i < n → (f i).c.size ≤ maxLen) (h : ¬ CellsOk n f) :
    Calls Try.prog 166 #[.slice sa n cap] w fun e w' => e = .returned (.pointer none) ∧ Below w.heap.size w w' := by
  have C := rowOf_no sa n cap f w hn hr hc h
  clear hn hr hc h
  go_enter Try.func166, Try.ntmps166
  go_wp2_with fail
  refine C.mono ?_
  rintro e w1 ⟨rfl, hb1⟩
  have B1 : Hid (Below w.heap.size w w1) := hb1
  clear hb1 C
  go_wp2_with fail
  go_ret
  exact ⟨rfl, B1.out⟩
/-- A row that is made ready, with its masks. -/
def NewMRow (w : World) (sa : Option Addr) (n cap : Nat) (f : Nat → Cel) (e : Ending) (w' : World) : Prop :=
  ∃ r b sk lo fi la bl st fin : Nat, e = .returned (.pointer (some ⟨r, 0, none⟩)) ∧ w.heap.size ≤ b ∧ b < r ∧ Below w.heap.size w w' ∧ IsBits sk (behind (fun i => (f i).k) n) ∧ IsBits lo (behind (fun i => (f i).o) n) ∧ KRow w' b sa n cap sk lo 0 0 (fun _ => 0) ∧ MRow w' r b fi la bl st fin ∧ MasksOk (skipB f n) n fi la bl st fin
set_option maxRecDepth 100000 in
set_option maxHeartbeats 4000000 in
theorem mrowOf_yes (sa : Option Addr) (n cap : Nat) (f : Nat → Cel) (w : World) (hn : n ≤ maxLen) (hr : CRow w w.heap.size sa n f) (hc : ∀ i, i < n → (f i).c.size ≤ maxLen) (h : CellsOk n f) :
    Calls Try.prog 166 #[.slice sa n cap] w fun e w' => NewMRow w sa n cap f e w' := by
  have C := rowOf_yes sa n cap f w hn hr hc h
  have hn60 := h.2.1
  obtain ⟨xb, hb⟩ := first_ex f hn60
  obtain ⟨xe, he⟩ := last_ex f hn60
  obtain ⟨xs, hk⟩ := skip_ex f hn60
  obtain ⟨m, hm⟩ : ∃ m, m = (n + 1 + 31) / 32 := ⟨_, rfl⟩
  have hm2 : m ≤ 2 := by omega
  have hmn : ∀ j, 32 * m ≤ j → n < j := fun j hj => by omega
  have HMS : Hid (∀ W, Since w W → Calls Try.prog 15 #[.slice sa n cap] W fun e w' => NewMasks W ((n : Int) + 1) m (masksF n xb xe xs) e w') := fun W hW =>
    implMasks_yes sa n cap m xb xe xs f W hn ((hr.kept hW.below).up hW.size) hc h hm (hb.congr (fun j => by unfold firstB skipB; simp)) he hk
  have ZB := vecIs_words hb m
  have ZE := vecIs_words he m
  have ZK := vecIs_words hk m
  have e0 : IsBits 1 (fun j => decide (0 = j)) := bits_pow (k := 0) (by omega)
  have e1 : IsBits (2 ^ n) (fun j => decide (n = j)) := bits_pow (by omega)
  have Z0 := vecIs_words e0 m
  have Z1 := vecIs_words e1 m
  have HPL : Hid (∀ (x : Nat) (P : Nat → Bool) (s : Option Addr) (c : Nat) (W : World), VecIs (wordsN x) P m → (∀ j, n < j → P j = false) → Row W W.heap.size s m (wordsN x) → Calls Try.prog 99 #[.agg #[.int .i64 ((n : Int) + 1), .slice s m c]] W fun e w' => ∃ y : Nat, e = .returned (.int .u64 (y : Int)) ∧ IsBits y P ∧ Below W.heap.size W w') := fun x P s c W hv hP hrow =>
    placesOf_any ((n : Int) + 1) s m c (wordsN x) P W hm2 hrow hv (fun j hj => hP j (hmn j hj))
  have HZ : Hid (VecIs (wordsN xb) (firstB (skipB f n)) m ∧ VecIs (wordsN xe) (lastB (skipB f n)) m ∧ VecIs (wordsN xs) (skipB f n) m ∧ VecIs (wordsN 1) (fun j => decide (0 = j)) m ∧ VecIs (wordsN (2 ^ n)) (fun j => decide (n = j)) m) := ⟨ZB, ZE, ZK, Z0, Z1⟩
  clear hn hr hc h hm hm2 hmn ZB ZE ZK Z0 Z1 e0 e1 hb he hk
  go_enter Try.func166, Try.ntmps166
  go_wp2_with fail
  refine C.mono ?_
  rintro e w1 ⟨b, sk, lo, rfl, hbl, hb1, hsk, hlo, hrow⟩
  have S1 : Hid (Since w w1) := ⟨hb1⟩
  have HSK : Hid (IsBits sk (behind (fun i => (f i).k) n) ∧ IsBits lo (behind (fun i => (f i).o) n) ∧ w.heap.size ≤ b) := ⟨hsk, hlo, hbl⟩
  have K1 : Hid (KRow w1 b sa n cap sk lo 0 0 (fun _ => 0)) := hrow
  clear C hb1 hsk hlo hrow hbl
  go_wp2_with fail
  refine (HMS.out w1 S1.out).mono ?_
  rintro e w2 ⟨s, c, hh, rfl, hb2, hms, hh0, hh5⟩
  unfold masksV
  have S2 : Hid (Since w w2) := since_call S1.out hb2
  have K2 : Hid (KRow w2 b sa n cap sk lo 0 0 (fun _ => 0)) := K1.out.kept hb2 K1.out.lt
  obtain ⟨s0, hs0⟩ : ∃ x, s 0 = x := ⟨_, rfl⟩
  obtain ⟨s1, hs1⟩ : ∃ x, s 1 = x := ⟨_, rfl⟩
  obtain ⟨s2, hs2⟩ : ∃ x, s 2 = x := ⟨_, rfl⟩
  obtain ⟨s3, hs3⟩ : ∃ x, s 3 = x := ⟨_, rfl⟩
  obtain ⟨s4, hs4⟩ : ∃ x, s 4 = x := ⟨_, rfl⟩
  obtain ⟨c0, hc0⟩ : ∃ x, c 0 = x := ⟨_, rfl⟩
  obtain ⟨c1, hc1⟩ : ∃ x, c 1 = x := ⟨_, rfl⟩
  obtain ⟨c2, hc2⟩ : ∃ x, c 2 = x := ⟨_, rfl⟩
  obtain ⟨c3, hc3⟩ : ∃ x, c 3 = x := ⟨_, rfl⟩
  obtain ⟨c4, hc4⟩ : ∃ x, c 4 = x := ⟨_, rfl⟩
  have q3 := mboxing w2 ((n : Int) + 1) s m c
  have hms3 := hms.kept q3.1
  rw [hs0, hs1, hs2, hs3, hs4, hc0, hc1, hc2, hc3, hc4] at q3 hms3 ⊢
  go_wp2_with fail
  generalize w2.alloc (.cells #[.int .i64 ((n : Int) + 1), .slice s0 m c0, .int .i64 ((n : Int) + 1), .slice s1 m c1, .int .i64 ((n : Int) + 1), .slice s2 m c2, .int .i64 ((n : Int) + 1), .slice s3 m c3, .int .i64 ((n : Int) + 1), .slice s4 m c4] 28) = v3 at *
  have S3 : Hid (Since w v3) := since_call S2.out q3.1
  have K3 : Hid (KRow v3 b sa n cap sk lo 0 0 (fun _ => 0)) := K2.out.kept q3.1 K2.out.lt
  have bd : Below v3.heap.size v3 v3.drew := ⟨rfl, rfl, rfl, Nat.le_refl _, fun _ _ => rfl⟩
  obtain ⟨p, hp⟩ : ∃ p, w2.heap.size = p := ⟨_, rfl⟩
  have hpl := q3.2.1.lt
  have HC : Hid (∀ W, Below v3.heap.size v3 W → (W.cell? ⟨p, 0, none⟩ = some (.int .i64 ((n : Int) + 1)) ∧ W.cell? ⟨p, 1, none⟩ = some (.slice s0 m c0) ∧ W.cell? ⟨p, 2, none⟩ = some (.int .i64 ((n : Int) + 1)) ∧ W.cell? ⟨p, 3, none⟩ = some (.slice s1 m c1) ∧ W.cell? ⟨p, 4, none⟩ = some (.int .i64 ((n : Int) + 1)) ∧ W.cell? ⟨p, 5, none⟩ = some (.slice s2 m c2) ∧ W.cell? ⟨p, 6, none⟩ = some (.int .i64 ((n : Int) + 1)) ∧ W.cell? ⟨p, 7, none⟩ = some (.slice s3 m c3) ∧ W.cell? ⟨p, 8, none⟩ = some (.int .i64 ((n : Int) + 1)) ∧ W.cell? ⟨p, 9, none⟩ = some (.slice s4 m c4)) ∧ p < W.heap.size) := fun W hW => by
    have h9 := (q3.2.1.kept hW rfl).cells
    rw [hs0, hs1, hs2, hs3, hs4, hc0, hc1, hc2, hc3, hc4, hp] at h9
    exact ⟨h9, by rw [← hp]; exact Nat.lt_of_lt_of_le hpl hW.size⟩
  have Q1 : Hid (∀ W, Below v3.heap.size v3 W → Calls Try.prog 99 #[.agg #[.int .i64 ((n : Int) + 1), .slice s2 m c2]] W fun e w' => ∃ y : Nat, e = .returned (.int .u64 (y : Int)) ∧ IsBits y (firstB (skipB f n)) ∧ Below W.heap.size W w') := fun W hW => by
    have h9 : Row v3 v3.heap.size s2 m (wordsN xb) := by rw [← hs2]; exact hms3.r2.row
    exact HPL.out _ _ s2 c2 W HZ.out.1 (fun j hj => by unfold firstB; rw [skip_le f n (j + 1) (by omega)]; rfl) ((h9.kept hW).up hW.size)
  have Q2 : Hid (∀ W, Below v3.heap.size v3 W → Calls Try.prog 99 #[.agg #[.int .i64 ((n : Int) + 1), .slice s3 m c3]] W fun e w' => ∃ y : Nat, e = .returned (.int .u64 (y : Int)) ∧ IsBits y (lastB (skipB f n)) ∧ Below W.heap.size W w') := fun W hW => by
    have h9 : Row v3 v3.heap.size s3 m (wordsN xe) := by rw [← hs3]; exact hms3.r3.row
    exact HPL.out _ _ s3 c3 W HZ.out.2.1 (fun j hj => by unfold lastB; rw [skip_le f n j hj]; rfl) ((h9.kept hW).up hW.size)
  have Q3 : Hid (∀ W, Below v3.heap.size v3 W → Calls Try.prog 99 #[.agg #[.int .i64 ((n : Int) + 1), .slice s4 m c4]] W fun e w' => ∃ y : Nat, e = .returned (.int .u64 (y : Int)) ∧ IsBits y (skipB f n) ∧ Below W.heap.size W w') := fun W hW => by
    have h9 : Row v3 v3.heap.size s4 m (wordsN xs) := by rw [← hs4]; exact hms3.r4.row
    exact HPL.out _ _ s4 c4 W HZ.out.2.2.1 (fun j hj => skip_le f n j hj) ((h9.kept hW).up hW.size)
  have Q4 : Hid (∀ W, Below v3.heap.size v3 W → Calls Try.prog 99 #[.agg #[.int .i64 ((n : Int) + 1), .slice s0 m c0]] W fun e w' => ∃ y : Nat, e = .returned (.int .u64 (y : Int)) ∧ IsBits y (fun j => decide (0 = j)) ∧ Below W.heap.size W w') := fun W hW => by
    have h9 : Row v3 v3.heap.size s0 m (wordsN 1) := by rw [← hs0]; exact hms3.r0.row
    exact HPL.out _ _ s0 c0 W HZ.out.2.2.2.1 (fun j hj => decide_eq_false (by omega)) ((h9.kept hW).up hW.size)
  have Q5 : Hid (∀ W, Below v3.heap.size v3 W → Calls Try.prog 99 #[.agg #[.int .i64 ((n : Int) + 1), .slice s1 m c1]] W fun e w' => ∃ y : Nat, e = .returned (.int .u64 (y : Int)) ∧ IsBits y (fun j => decide (n = j)) ∧ Below W.heap.size W w') := fun W hW => by
    have h9 : Row v3 v3.heap.size s1 m (wordsN (2 ^ n)) := by rw [← hs1]; exact hms3.r1.row
    exact HPL.out _ _ s1 c1 W HZ.out.2.2.2.2 (fun j hj => decide_eq_false (by omega)) ((h9.kept hW).up hW.size)
  have hb9 := q3.1
  rw [hp] at hb9 ⊢
  obtain ⟨⟨a0, a1, a2, a3, a4, a5, a6, a7, a8, a9⟩, al⟩ := HC.out v3 (Below.refl _ _)
  clear hms hms3 q3 hb9 hpl hb2 HPL HMS hh0 hh5
  go_region_held3 (fun W => W.cell? ⟨p, 0, none⟩ = some (.int .i64 ((n : Int) + 1)) ∧ W.cell? ⟨p, 1, none⟩ = some (.slice s0 m c0) ∧ W.cell? ⟨p, 2, none⟩ = some (.int .i64 ((n : Int) + 1)) ∧ W.cell? ⟨p, 3, none⟩ = some (.slice s1 m c1) ∧ W.cell? ⟨p, 4, none⟩ = some (.int .i64 ((n : Int) + 1)) ∧ W.cell? ⟨p, 5, none⟩ = some (.slice s2 m c2) ∧ W.cell? ⟨p, 6, none⟩ = some (.int .i64 ((n : Int) + 1)) ∧ W.cell? ⟨p, 7, none⟩ = some (.slice s3 m c3) ∧ W.cell? ⟨p, 8, none⟩ = some (.int .i64 ((n : Int) + 1)) ∧ W.cell? ⟨p, 9, none⟩ = some (.slice s4 m c4)) (go_keep) (first | (go_at_call 99; (with_reducible refine (Q1.out _ bd).mono ?_); rintro e u1 ⟨y1, rfl, hy, hb⟩; have HB1 : Hid (Below v3.heap.size v3 u1) := bd.trans hb; have HY1 : Hid (IsBits y1 (firstB (skipB f n))) := hy; obtain ⟨⟨b0, b1, b2, b3, b4, b5, b6, b7, b8, b9⟩, bl⟩ := HC.out u1 HB1.out; clear hb hy) | (go_at_call 99; (with_reducible refine (Q2.out _ HB1.out).mono ?_); rintro e u2 ⟨y2, rfl, hy, hb⟩; have HB2 : Hid (Below v3.heap.size v3 u2) := HB1.out.trans (hb.mono HB1.out.size); have HY2 : Hid (IsBits y2 (lastB (skipB f n))) := hy; obtain ⟨⟨c0, c1, c2, c3, c4, c5, c6, c7, c8, c9⟩, cl⟩ := HC.out u2 HB2.out; clear hb hy) | (go_at_call 99; (with_reducible refine (Q3.out _ HB2.out).mono ?_); rintro e u3 ⟨y3, rfl, hy, hb⟩; have HB3 : Hid (Below v3.heap.size v3 u3) := HB2.out.trans (hb.mono HB2.out.size); have HY3 : Hid (IsBits y3 (skipB f n)) := hy; obtain ⟨⟨d0, d1, d2, d3, d4, d5, d6, d7, d8, d9⟩, dl⟩ := HC.out u3 HB3.out; clear hb hy) | (go_at_call 99; (with_reducible refine (Q4.out _ HB3.out).mono ?_); rintro e u4 ⟨y4, rfl, hy, hb⟩; have HB4 : Hid (Below v3.heap.size v3 u4) := HB3.out.trans (hb.mono HB3.out.size); have HY4 : Hid (IsBits y4 (fun j => decide (0 = j))) := hy; obtain ⟨⟨f0, f1, f2, f3, f4, f5, f6, f7, f8, f9⟩, fl⟩ := HC.out u4 HB4.out; clear hb hy) | (go_at_call 99; (with_reducible refine (Q5.out _ HB4.out).mono ?_); rintro e u5 ⟨y5, rfl, hy, hb⟩; have HB5 : Hid (Below v3.heap.size v3 u5) := HB4.out.trans (hb.mono HB4.out.size); have HY5 : Hid (IsBits y5 (fun j => decide (n = j))) := hy; obtain ⟨⟨g0, g1, g2, g3, g4, g5, g6, g7, g8, g9⟩, gl⟩ := HC.out u5 HB5.out; clear hb hy))
  go_wp2_with fail
  go_ret
  have hal : Below v3.heap.size v3 (u5.alloc (.cells #[.pointer (some ⟨b, 0, none⟩), .int .u64 (y1 : Int), .int .u64 (y2 : Int), .int .u64 (y3 : Int), .int .u64 (y4 : Int), .int .u64 (y5 : Int)] 192)) := HB5.out.alloc HB5.out.size _
  have hkl := K3.out.lt
  have hsz := HB5.out.size
  exact ⟨u5.heap.size, b, sk, lo, y1, y2, y3, y4, y5, rfl, HSK.out.2.2, by omega, (since_call S3.out hal).below, HSK.out.1, HSK.out.2.1, K3.out.kept hal hkl, mrow_new u5 b y1 y2 y3 y4 y5 _, skip_ok f n HY1.out HY2.out HY3.out HY4.out HY5.out⟩
end Go.Proofs.Ythnnenbpbkmbhaa
