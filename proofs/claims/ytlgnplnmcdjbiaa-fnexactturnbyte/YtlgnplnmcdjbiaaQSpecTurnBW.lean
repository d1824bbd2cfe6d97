/- What is proved here: the specification's TurnStart and TurnByte hand back turned bits of plain cells, in new memory, or nothing; nothing that was there turns. -/
import Derived.Test.YtlgnplnmcdjbiaaQSpecTurnW
import Derived.Test.YtlgnplnmcdjbiaaQImplTurnW
import Derived.Test.YtlgnplnmcdjbiaaQL03HasWToIsW
namespace Go.Proofs.Ytlgnplnmcdjbiaa
open Go.RowKit

theorem newBits_zero {w : World} {b : Int} {m x : Nat} {P : Nat → Bool} {F : Nat} {args : Array Value} (h : Calls Try.prog F args w fun e w' => NewBits w b m P e w') (hx : IsBits x P) : Calls Try.prog F args w fun e w' => NewVec w b m (wordsN x) e w' := h.mono (fun _ _ h9 => newBits_words h9 hx)
open Classical in
set_option maxHeartbeats 2000000 in
theorem specTurnStart_yes (sa : Option Addr) (n cap  m : Nat) (f : Nat → Cel) (w : World) (hn : n ≤ maxLen) (hr : CRow w w.heap.size sa n f) (hc : ∀ i, i < n → (f i).c.size ≤ maxLen) (h : PlainP n f) (hm : m = (n + 31) / 32) :
    Calls Try.prog 61 #[.slice sa n cap] w fun e w' => NewVec w (n : Int) m (wordsN (2 ^ n - 1)) e w' := by
  have q0 := boxing w 45 0 none 0 0
  have C := specPlain_any sa n cap f (w.alloc (.cells #[.int .i64 0, .slice none 0 0] 45)) hn ((hr.kept q0.1).up q0.1.size) hc
  rw [decide_eq_true h] at C
  have hn1 := h.1.1
  have hn60 := h.1.2.1
  have hsz := plain_small h
  have HB : Hid (∀ W, Since w W → Calls Try.prog 137 #[.slice sa n cap] W fun e w' => NewVec W (n : Int) m (wordsN (2 ^ n - 1)) e w') := fun W hW => newBits_zero (l08Start_any sa n cap m W hn1 hn60 hm) (bits_all (by omega))
  obtain ⟨wx, hwx⟩ : ∃ wx, wordsN (2 ^ n - 1) = wx := ⟨_, rfl⟩
  rw [hwx] at HB ⊢
  clear hn hr hc h hm hsz hwx
  go_enter Try.func61, Try.ntmps61
  go_wp2_with fail
  generalize w.alloc (.cells #[.int .i64 0, .slice none 0 0] 45) = v0 at *
  refine C.mono ?_
  rintro e w1 ⟨rfl, hb1⟩
  have X1 : Hid (Boxed w1 w.heap.size 45 0 none 0 0) := q0.2.1.kept hb1 rfl
  have S1 : Hid (Since w w1) := since_call (since_call (since_refl _) q0.1) hb1
  clear C hb1 q0
  go_wp2_with fail
  refine (HB.out w1 S1.out).mono ?_
  rintro e w3 ⟨s3, c3, rfl, hb3, ho3⟩
  unfold vecV
  obtain ⟨a0, a1, a2, a3⟩ := (X1.out.kept hb3 rfl).four
  have S3 : Hid (Since w w3) := since_call S1.out hb3
  have O3 : Hid (OwnS w3 w1.heap.size s3 m wx) := ho3
  have l3 : w.heap.size < w3.heap.size := by have := hb3.size; have := X1.out.lt; omega
  have l2 : w.heap.size < w1.heap.size := X1.out.lt
  clear hb3 ho3
  go_wp2_with fail
  refine bodyPost_ret (v := vecV (n : Int) s3 m c3) (by simp [results, Try.results61, go_sem, vecV, a0, a1]) rfl ?_
  refine ⟨_, _, rfl, (since_set (since_set S3.out (by show w.heap.size ≤ w.heap.size; omega)) (by show w.heap.size ≤ w.heap.size; omega)).below, ?_⟩
  rcases O3.out with h | ⟨g5, h1, h2, h3⟩
  · exact Or.inl h
  · exact Or.inr ⟨g5, h1, by omega, (h3.setOther _ _ (by show w.heap.size ≠ g5; omega)).setOther _ _ (by show w.heap.size ≠ g5; omega)⟩
open Classical in
set_option maxHeartbeats 2000000 in
theorem specTurnStart_no (sa : Option Addr) (n cap : Nat) (f : Nat → Cel) (w : World) (hn : n ≤ maxLen) (hr : CRow w w.heap.size sa n f) (hc : ∀ i, i < n → (f i).c.size ≤ maxLen) (h : ¬ PlainP n f) :
    Calls Try.prog 61 #[.slice sa n cap] w fun e w' => NewVec w 0 0 (fun _ => 0) e w' := by
  have q0 := boxing w 45 0 none 0 0
  have C := specPlain_any sa n cap f (w.alloc (.cells #[.int .i64 0, .slice none 0 0] 45)) hn ((hr.kept q0.1).up q0.1.size) hc
  by_cases hk : PlainP n f
  · exact absurd hk h
  · rw [decide_eq_false hk] at C
    clear hn hr hc h hk
    go_enter Try.func61, Try.ntmps61
    go_wp2_with fail
    generalize w.alloc (.cells #[.int .i64 0, .slice none 0 0] 45) = v0 at *
    refine C.mono ?_
    rintro e w1 ⟨rfl, hb1⟩
    obtain ⟨a0, a1, a2, a3⟩ := (q0.2.1.kept hb1 rfl).four
    have S1 : Hid (Since w w1) := since_call (since_call (since_refl _) q0.1) hb1
    clear C hb1 q0
    go_wp2_with fail
    refine bodyPost_ret (v := vecV 0 none 0 0) (by simp [results, Try.results61, go_sem, vecV, a0, a1]) rfl ?_
    exact ⟨_, _, rfl, (since_set (since_set S1.out (by show w.heap.size ≤ w.heap.size; omega)) (by show w.heap.size ≤ w.heap.size; omega)).below, Or.inl rfl⟩
open Classical in
set_option maxHeartbeats 2000000 in
theorem specTurnByte_yes (sa : Option Addr) (n cap c m x : Nat) (f : Nat → Cel) (w : World) (hn : n ≤ maxLen) (hr : CRow w w.heap.size sa n f) (hc : ∀ i, i < n → (f i).c.size ≤ maxLen) (h : PlainP n f) (hc9 : c < 256) (hm : m = (n + 31) / 32) (hx : IsBits x (lackB f n c)) :
    Calls Try.prog 66 #[.slice sa n cap, .int .i64 (c : Int)] w fun e w' => NewVec w (n : Int) m (wordsN x) e w' := by
  have q0 := boxing w 45 0 none 0 0
  have C := specPlain_any sa n cap f (w.alloc (.cells #[.int .i64 0, .slice none 0 0] 45)) hn ((hr.kept q0.1).up q0.1.size) hc
  rw [decide_eq_true h] at C
  have hn1 := h.1.1
  have hn60 := h.1.2.1
  have hsz := plain_small h
  have HB : Hid (∀ W, Since w W → Calls Try.prog 143 #[.slice sa n cap, .int .i64 (c : Int)] W fun e w' => NewVec W (n : Int) m (wordsN x) e w') := fun W hW => newBits_zero (l08Byte_any sa n cap c m f W hn1 hn60 ((hr.kept hW.below).up hW.size) hsz hc9 hm) hx
  have hc0 : (0 : Int) ≤ (c : Int) := by omega
  have hc1 : (c : Int) ≤ 255 := by omega
  generalize wordsN x = wx at *
  clear hn hr hc h hm hsz hx
  go_enter Try.func66, Try.ntmps66
  go_wp2_with fail
  generalize w.alloc (.cells #[.int .i64 0, .slice none 0 0] 45) = v0 at *
  refine C.mono ?_
  rintro e w1 ⟨rfl, hb1⟩
  have X1 : Hid (Boxed w1 w.heap.size 45 0 none 0 0) := q0.2.1.kept hb1 rfl
  have S1 : Hid (Since w w1) := since_call (since_call (since_refl _) q0.1) hb1
  clear C hb1 q0
  go_wp2_with (first | (go_at_call 92; refine (is_yes _ _ _ _ hc0 hc1).mono ?_; rintro e w9 ⟨rfl, hw9⟩; rw [hw9]; clear hw9 w9))
  refine (HB.out w1 S1.out).mono ?_
  rintro e w3 ⟨s3, c3, rfl, hb3, ho3⟩
  unfold vecV
  obtain ⟨a0, a1, a2, a3⟩ := (X1.out.kept hb3 rfl).four
  have S3 : Hid (Since w w3) := since_call S1.out hb3
  have O3 : Hid (OwnS w3 w1.heap.size s3 m wx) := ho3
  have l3 : w.heap.size < w3.heap.size := by have := hb3.size; have := X1.out.lt; omega
  have l2 : w.heap.size < w1.heap.size := X1.out.lt
  clear hb3 ho3
  go_wp2_with fail
  refine bodyPost_ret (v := vecV (n : Int) s3 m c3) (by simp [results, Try.results66, go_sem, vecV, a0, a1]) rfl ?_
  refine ⟨_, _, rfl, (since_set (since_set S3.out (by show w.heap.size ≤ w.heap.size; omega)) (by show w.heap.size ≤ w.heap.size; omega)).below, ?_⟩
  rcases O3.out with h | ⟨g5, h1, h2, h3⟩
  · exact Or.inl h
  · exact Or.inr ⟨g5, h1, by omega, (h3.setOther _ _ (by show w.heap.size ≠ g5; omega)).setOther _ _ (by show w.heap.size ≠ g5; omega)⟩
open Classical in
set_option maxHeartbeats 2000000 in
theorem specTurnByte_no (sa : Option Addr) (n cap : Nat) (en : Int) (f : Nat → Cel) (w : World) (hn : n ≤ maxLen) (hr : CRow w w.heap.size sa n f) (hc : ∀ i, i < n → (f i).c.size ≤ maxLen) (h : ¬ TurnP n f en) :
    Calls Try.prog 66 #[.slice sa n cap, .int .i64 en] w fun e w' => NewVec w 0 0 (fun _ => 0) e w' := by
  have q0 := boxing w 45 0 none 0 0
  have C := specPlain_any sa n cap f (w.alloc (.cells #[.int .i64 0, .slice none 0 0] 45)) hn ((hr.kept q0.1).up q0.1.size) hc
  by_cases hk : PlainP n f
  · rw [decide_eq_true hk] at C
    have HEN : Hid (¬ (0 ≤ en ∧ en ≤ 255)) := fun h9 => h ⟨hk, h9.1, h9.2⟩
    clear hn hr hc h hk
    go_enter Try.func66, Try.ntmps66
    go_wp2_with fail
    generalize w.alloc (.cells #[.int .i64 0, .slice none 0 0] 45) = v0 at *
    refine C.mono ?_
    rintro e w1 ⟨rfl, hb1⟩
    obtain ⟨a0, a1, a2, a3⟩ := (q0.2.1.kept hb1 rfl).four
    have S1 : Hid (Since w w1) := since_call (since_call (since_refl _) q0.1) hb1
    clear C hb1 q0
    go_wp2_with (first | (go_at_call 92; refine (is_no _ _ _ _ HEN.out).mono ?_; rintro e w9 ⟨rfl, hw9⟩; rw [hw9]; clear hw9 w9))
    refine bodyPost_ret (v := vecV 0 none 0 0) (by simp [results, Try.results66, go_sem, vecV, a0, a1]) rfl ?_
    exact ⟨_, _, rfl, (since_set (since_set S1.out (by show w.heap.size ≤ w.heap.size; omega)) (by show w.heap.size ≤ w.heap.size; omega)).below, Or.inl rfl⟩
  · rw [decide_eq_false hk] at C
    clear hn hr hc h hk
    go_enter Try.func66, Try.ntmps66
    go_wp2_with fail
    generalize w.alloc (.cells #[.int .i64 0, .slice none 0 0] 45) = v0 at *
    refine C.mono ?_
    rintro e w1 ⟨rfl, hb1⟩
    obtain ⟨a0, a1, a2, a3⟩ := (q0.2.1.kept hb1 rfl).four
    have S1 : Hid (Since w w1) := since_call (since_call (since_refl _) q0.1) hb1
    clear C hb1 q0
    go_wp2_with fail
    refine bodyPost_ret (v := vecV 0 none 0 0) (by simp [results, Try.results66, go_sem, vecV, a0, a1]) rfl ?_
    exact ⟨_, _, rfl, (since_set (since_set S1.out (by show w.heap.size ≤ w.heap.size; omega)) (by show w.heap.size ≤ w.heap.size; omega)).below, Or.inl rfl⟩
end Go.Proofs.Ytlgnplnmcdjbiaa
