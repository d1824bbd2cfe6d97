/- What is proved here: the specification's ByteVec and LoopVec hand back the places whose cells have a byte, or have it and may be passed again, in new memory, or nothing; nothing that was there turns.
   What is said here: places that are closed by one subtraction are those that are closed step by step, as plain mathematics.
   What is proved here: the specification's VecRight says whether a vector is right; nothing that was there turns.
   What is said here: the words of what is cut, added and turned, as plain functions.
   What is proved here: how many words so many bits want, as the program says it; the world stays. -/
import Derived.Test.YtfeolbgenpknfaaGreatQGetBWToClassRightW
import Derived.Test.YtfeolbgenpknfaaGreatQSpecKRightWToIsW
import Derived.Deep.QuietTactic
import Derived.BigQuiet
import Derived.Test.YtfeolbgenpknfaaGreatQRowsDToVecS
namespace Go.Proofs.YtfeolbgenpknfaaGreat
open Go.RowKit

theorem bits_spec (sa : Option Addr) (n cap : Nat) (w : World) (hn : n ≤ 60) :
    Calls Tryz.prog 103 #[.slice sa n cap] w fun e w' => e = .returned (.int .i64 ((n : Int) + 1)) ∧ w' = w := by
  go_enter Tryz.func103, Tryz.ntmps103
  go_wp2
  go_ret
  exact ⟨rfl, rfl⟩
theorem CRow.keptV {w w' : World} {B k n : Nat} {sa : Option Addr} {f : Nat → Cel} (h : CRow w B sa n f) (hb : Below B w w') (hk : k < n) : ∃ bb off : Nat, sa = some ⟨bb, off, none⟩ ∧ bb < B ∧ CellAt w' bb (off + k * 3) (f k) := by
  rcases h with h | ⟨bb, off, h1, h2, h3⟩
  · omega
  · exact ⟨bb, off, h1, h2, (h3 k hk).kept hb h2⟩
theorem boxed_grownS {W W' : World} {b p : Nat} {t : TypeId} {x : Int} {sa : Option Addr} {n cap : Nat} (h : Boxed W p t x sa n cap) (hg : W.grownBy W' (some b)) (hne : p ≠ b) : Boxed W' p t x sa n cap := by
  unfold Boxed
  rw [hg.block p h.lt (fun e => hne (by injection e))]
  exact h
/-- Does a cell belong to what is asked? -/
def asksB (f : Nat → Cel) (c : Nat) (lp : Bool) : Nat → Bool := fun i => hasByte (f i).c c && (!lp || (f i).o)
theorem vecIs_yes {g : Nat → Int} {q : Nat → Bool} {k m i r : Nat} (h : VecIs g (behind q k) m) (hq : q k = true) (hi : i < m) (hr : r < 32) (e : 32 * i + r = k + 1) : VecIs (setF g i r true) (behind q (k + 1)) m :=
  (h.set hi hr).congr (fun j => by
    unfold behind
    rw [e]
    by_cases e1 : k + 1 = j
    · subst e1
      simp [hq]
    · rw [decide_eq_false e1, Bool.or_false]
      by_cases e2 : 1 ≤ j ∧ j ≤ k
      · rw [decide_eq_true e2, decide_eq_true (show 1 ≤ j ∧ j ≤ k + 1 by omega)]
      · rw [decide_eq_false e2, decide_eq_false (show ¬ (1 ≤ j ∧ j ≤ k + 1) by omega)])
theorem vecIs_no {g : Nat → Int} {q : Nat → Bool} {k m : Nat} (h : VecIs g (behind q k) m) (hq : q k = false) : VecIs g (behind q (k + 1)) m :=
  h.congr (fun j => by
    unfold behind
    by_cases e1 : k + 1 = j
    · subst e1
      simp [hq]
    · by_cases e2 : 1 ≤ j ∧ j ≤ k
      · rw [decide_eq_true e2, decide_eq_true (show 1 ≤ j ∧ j ≤ k + 1 by omega)]
      · rw [decide_eq_false e2, decide_eq_false (show ¬ (1 ≤ j ∧ j ≤ k + 1) by omega)])
set_option maxRecDepth 100000 in
set_option maxHeartbeats 4000000 in
theorem l06Byte_any (sa : Option Addr) (n cap c m x : Nat) (lp : Bool) (f : Nat → Cel) (w : World) (hn : n ≤ 60) (hr : CRow w w.heap.size sa n f) (hsz : ∀ i, i < n → (f i).c.size ≤ 256) (hc9 : c < 256) (hm : m = (n + 1 + 31) / 32) (hx : IsBits x (behind (asksB f c lp) n)) :
    Calls Tryz.prog 87 #[.slice sa n cap, .int .i64 (c : Int), .bool lp] w fun e w' => NewVec w ((n : Int) + 1) m (wordsN x) e w' := by
  have HR : Hid (CRow w w.heap.size sa n f) := hr
  have HSZ : Hid (∀ i, i < n → (f i).c.size ≤ 256) := hsz
  have HX : Hid (IsBits x (behind (asksB f c lp) n)) := hx
  have HM : Hid (m = (n + 1 + 31) / 32) := hm
  have hm1 : 1 ≤ m := by omega
  have hm2 : m ≤ 2 := by omega
  have hwc : IntKind.u8.wrap (c : Int) = (c : Int) := by rw [IntKind.wrap_u8]; omega
  have C := fun W => l02New_any ((n : Int) + 1) m W (by omega) (by omega) (by omega)
  have HC : Hid (∀ W, Calls Tryz.prog 70 #[.int .i64 ((n : Int) + 1)] W fun e w' => NewVec W ((n : Int) + 1) m (fun _ => 0) e w') := C
  clear hr hsz hx hm C
  go_enter Tryz.func87, Tryz.ntmps87
  go_wp2_with (first | (go_at_call 103; refine (bits_spec _ _ _ _ hn).mono ?_; rintro e w9 ⟨rfl, hw9⟩; rw [hw9]; clear hw9 w9))
  have q0 := boxing w 29 0 none 0 0
  generalize w.alloc (.cells #[.int .i64 0, .slice none 0 0] 29) = v0 at *
  refine (HC.out v0).mono ?_
  rintro e w1 ⟨s1, c1, rfl, hb1, ho1⟩
  unfold vecV
  have X0 : Hid (Boxed w1 w.heap.size 29 0 none 0 0) := q0.2.1.kept hb1 rfl
  have S1 : Hid (Since w w1) := since_call (since_call (since_refl _) q0.1) hb1
  obtain ⟨g, rfl, hgl, ho⟩ : ∃ g, s1 = some ⟨g, 0, none⟩ ∧ v0.heap.size ≤ g ∧ Own w1 g m (fun _ => 0) := by
    rcases ho1 with h | h
    · omega
    · exact h
  have O1 : Hid (Own w1 g m (fun _ => 0)) := ho
  have hg0 : w.heap.size < g := by have := q0.2.2; omega
  have hg1 := ho.1
  have q2 := boxing w1 29 ((n : Int) + 1) (some ⟨g, 0, none⟩) m c1
  clear q0 hb1 ho1 ho hgl
  go_wp2_with fail
  generalize w1.alloc (.cells #[.int .i64 ((n : Int) + 1), .slice (some ⟨g, 0, none⟩) m c1] 29) = v2 at *
  have X2 : Hid (Boxed v2 w.heap.size 29 0 none 0 0) := X0.out.kept q2.1 rfl
  have Y2 : Hid (Boxed v2 w1.heap.size 29 ((n : Int) + 1) (some ⟨g, 0, none⟩) m c1) := q2.2.1
  have S2 : Hid (Since w v2) := since_call S1.out q2.1
  have O2 : Hid (Own v2 g m (fun _ => 0)) := O1.out.kept q2.1 hg1
  clear q2 X0 S1 O1
  generalize w1.heap.size = p at *
  go_loopw [8] (fun iv wr => ∃ (k : Nat) (h : Nat → Int), k ≤ n ∧ iv = .int .i64 (k : Int) ∧ Boxed wr w.heap.size 29 0 none 0 0 ∧ Boxed wr p 29 ((n : Int) + 1) (some ⟨g, 0, none⟩) m c1 ∧ Since w wr ∧ Own wr g m h ∧ VecIs h (behind (asksB f c lp) k) m) (fun iv _ => n - (intOf iv).toNat)
  case atStart => exact ⟨0, _, Nat.zero_le _, rfl, X2.out, Y2.out, S2.out, O2.out, (vecIs_zero m).congr (fun j => by unfold behind; rw [decide_eq_false (by omega)]; rfl)⟩
  case round =>
    obtain ⟨k, h, hk, rfl, hX, hY, hS, hO, hV⟩ := hrel
    have HXB : Hid (Boxed wr w.heap.size 29 0 none 0 0) := hX
    have HY : Hid (Boxed wr p 29 ((n : Int) + 1) (some ⟨g, 0, none⟩) m c1) := hY
    have HS : Hid (Since w wr) := hS
    have HO : Hid (Own wr g m h) := hO
    have HV : Hid (VecIs h (behind (asksB f c lp) k) m) := hV
    obtain ⟨y0, y1⟩ := hY.cells
    have ylt := hY.lt
    by_cases hkl : k < n
    · obtain ⟨bb, off, rfl, hbb, hat⟩ := HR.out.keptV hS.below hkl
      obtain ⟨c0, d1, d2⟩ := hat
      have hki : (k : Int) < (n : Int) := by omega
      have hk0 : (0 : Int) ≤ (k : Int) := by omega
      have hsz9 := HSZ.out k hkl
      obtain ⟨⟨ac, al, am⟩, ha⟩ : ∃ a, f k = a := ⟨_, rfl⟩
      rw [ha] at c0 d1 d2 hsz9
      simp only at c0 d1 d2 hsz9
      have hak : asksB f c lp k = (hasByte ac c && (!lp || am)) := by unfold asksB; rw [ha]
      have HAS := fun W => l03Has_any ac c W (Nat.le_trans hsz9 (by unfold maxLen; omega))
      obtain ⟨i9, hi9⟩ : ∃ i9, (k + 1) / 32 = i9 := ⟨_, rfl⟩
      obtain ⟨r9, hr9⟩ : ∃ r9, (k + 1) % 32 = r9 := ⟨_, rfl⟩
      have him : i9 < m := by have := HM.out; omega
      have hrm : r9 < 32 := by omega
      have hmi : (m : Nat) ≤ 1048576 := by omega
      have CS := l02Set_any ((n : Int) + 1) g m c1 i9 r9 h ((k : Int) + 1) true wr hmi hO (by omega) (by omega) (by omega) him hrm
      have YES : Hid ((hasByte ac c && (!lp || am)) = true → VecIs (setF h i9 r9 true) (behind (asksB f c lp) (k + 1)) m) := fun hy => vecIs_yes HV.out (by rw [hak]; exact hy) him hrm (by omega)
      have NO : Hid ((hasByte ac c && (!lp || am)) = false → VecIs h (behind (asksB f c lp) (k + 1)) m) := fun hy => vecIs_no HV.out (by rw [hak]; exact hy)
      have hgp : g ≠ p := by omega
      clear hX hY hS hO hV ha hak hi9 hr9
      cases hb : hasByte ac c with
      | false =>
        rw [hb] at YES NO HAS
        have N2 := NO.out rfl
        clear hb YES NO CS
        go_wp2_with (first | (go_at_call 76; refine (HAS _).mono ?_; rintro e w9 ⟨rfl, hw9⟩; rw [hw9]; clear hw9 w9))
        go_roundw
        case rel => exact ⟨k + 1, h, by omega, by go_num, HXB.out, HY.out, HS.out, HO.out, N2⟩
        case measure => simp [intOf]; omega
      | true =>
        rw [hb] at YES NO HAS
        clear hb
        by_cases hg : (!lp || am) = true
        · have Y2' := YES.out (by rw [hg]; rfl)
          have hga : lp = false ∨ (lp = true ∧ am = true) := by cases lp <;> cases am <;> simp_all
          have KEEP : Hid (∀ w9, wr.grownBy w9 (some g) → Boxed w9 w.heap.size 29 0 none 0 0 ∧ Boxed w9 p 29 ((n : Int) + 1) (some ⟨g, 0, none⟩) m c1 ∧ Since w w9) := fun w9 hg9 => ⟨boxed_grownS HXB.out hg9 (by omega), boxed_grownS HY.out hg9 (by omega), ⟨HS.out.below.trans ⟨hg9.os, hg9.tape, hg9.output, hg9.size, fun j hj => hg9.block j (Nat.lt_of_lt_of_le hj HS.out.size) (fun e => by injection e with e; omega)⟩⟩⟩
          clear YES NO hg
          rcases hga with rfl | ⟨rfl, rfl⟩
          · go_wp2_with (first | (go_at_call 76; refine (HAS _).mono ?_; rintro e w9 ⟨rfl, hw9⟩; rw [hw9]; clear hw9 w9) | (go_at_call 83; refine CS.mono ?_; rintro e w9 ⟨rfl, hg9, ho9⟩; have K9 : Hid (Boxed w9 w.heap.size 29 0 none 0 0 ∧ Boxed w9 p 29 ((n : Int) + 1) (some ⟨g, 0, none⟩) m c1 ∧ Since w w9) := KEEP.out w9 hg9; have O9 : Hid (Own w9 g m (setF h i9 r9 true)) := ho9; clear hg9 ho9))
            go_roundw
            case rel => exact ⟨k + 1, _, by omega, by go_num, K9.out.1, K9.out.2.1, K9.out.2.2, O9.out, Y2'⟩
            case measure => simp [intOf]; omega
          · go_wp2_with (first | (go_at_call 76; refine (HAS _).mono ?_; rintro e w9 ⟨rfl, hw9⟩; rw [hw9]; clear hw9 w9) | (go_at_call 83; refine CS.mono ?_; rintro e w9 ⟨rfl, hg9, ho9⟩; have K9 : Hid (Boxed w9 w.heap.size 29 0 none 0 0 ∧ Boxed w9 p 29 ((n : Int) + 1) (some ⟨g, 0, none⟩) m c1 ∧ Since w w9) := KEEP.out w9 hg9; have O9 : Hid (Own w9 g m (setF h i9 r9 true)) := ho9; clear hg9 ho9))
            go_roundw
            case rel => exact ⟨k + 1, _, by omega, by go_num, K9.out.1, K9.out.2.1, K9.out.2.2, O9.out, Y2'⟩
            case measure => simp [intOf]; omega
        · have hg2 : (!lp || am) = false := by simpa using hg
          have N2 := NO.out (by rw [hg2]; rfl)
          obtain ⟨rfl, rfl⟩ : lp = true ∧ am = false := by cases lp <;> cases am <;> simp_all
          clear YES NO CS hg hg2
          go_wp2_with (first | (go_at_call 76; refine (HAS _).mono ?_; rintro e w9 ⟨rfl, hw9⟩; rw [hw9]; clear hw9 w9))
          go_roundw
          case rel => exact ⟨k + 1, h, by omega, by go_num, HXB.out, HY.out, HS.out, HO.out, N2⟩
          case measure => simp [intOf]; omega
    · have hki : ¬ (k : Int) < (n : Int) := by omega
      obtain rfl : k = n := by omega
      obtain ⟨a0, a1, a2, a3⟩ := hX.four
      have xlt := hX.lt
      have hne1 : w.heap.size ≠ p := by omega
      have HO2 : Hid (Own wr g m (wordsN x)) := hO.congr (fun i hi => hV.uniq (vecIs_words HX.out m) i hi)
      clear hX hY hS hO hV
      go_wp2_with fail
      refine bodyPost_ret (v := vecV ((k : Int) + 1) (some ⟨g, 0, none⟩) m c1) (by simp [results, Tryz.results87, go_sem, vecV, a0, a1]) rfl ?_
      exact ⟨_, _, rfl, (since_set (since_set HS.out (by show w.heap.size ≤ w.heap.size; omega)) (by show w.heap.size ≤ w.heap.size; omega)).below, Or.inr ⟨g, rfl, by omega, (HO2.out.setOther _ _ (by show w.heap.size ≠ g; omega)).setOther _ _ (by show w.heap.size ≠ g; omega)⟩⟩
end Go.Proofs.YtfeolbgenpknfaaGreat
namespace Go.Proofs.YtfeolbgenpknfaaGreat

/-- A number out of its first k bits. -/
def valB (P : Nat → Bool) : Nat → Nat
  | 0 => 0
  | k + 1 => valB P k + (if P k then 2 ^ k else 0)
theorem valB_lt (P : Nat → Bool) : ∀ k, valB P k < 2 ^ k
  | 0 => by simp [valB]
  | k + 1 => by
    have h := valB_lt P k
    unfold valB
    rw [Nat.pow_succ]
    split <;> omega
theorem valB_bit (P : Nat → Bool) : ∀ k j, j < k → (valB P k).testBit j = P j
  | 0, j, h => by omega
  | k + 1, j, h => by
    have hl := valB_lt P k
    unfold valB
    by_cases e : j = k
    · subst e
      cases hp : P j with
      | true => rw [if_pos rfl, Nat.add_comm, Nat.testBit_two_pow_add_eq, Nat.testBit_lt_two_pow hl]; rfl
      | false => rw [if_neg (by simp), Nat.add_zero, Nat.testBit_lt_two_pow hl]
    · have hj : j < k := by omega
      cases hp : P k with
      | true => rw [if_pos rfl, Nat.add_comm, Nat.testBit_two_pow_add_gt hj, valB_bit P k j hj]
      | false => rw [if_neg (by simp), Nat.add_zero, valB_bit P k j hj]
theorem bits_valB {P : Nat → Bool} (h : ∀ j, 64 ≤ j → P j = false) : IsBits (valB P 64) P :=
  ⟨valB_lt P 64, fun j => by
    by_cases hj : j < 64
    · exact valB_bit P 64 j hj
    · rw [Nat.testBit_lt_two_pow (Nat.lt_of_lt_of_le (valB_lt P 64) (Nat.pow_le_pow_right (by decide) (by omega))), h j (by omega)]⟩
/-- What is borrowed at a bit, when one number is taken from another. -/
def borB (D F : Nat → Bool) : Nat → Bool
  | 0 => false
  | j + 1 => (!D j && (F j || borB D F j)) || (F j && borB D F j)
theorem valB_succ (P : Nat → Bool) (k : Nat) : valB P (k + 1) = valB P k + (if P k then 2 ^ k else 0) := rfl
theorem borB_succ (D F : Nat → Bool) (j : Nat) : borB D F (j + 1) = ((!D j && (F j || borB D F j)) || (F j && borB D F j)) := rfl
theorem sub_val (D F : Nat → Bool) : ∀ k, valB D k + (if borB D F k then 2 ^ k else 0) = valB F k + valB (fun j => (D j ^^ (F j ^^ borB D F j))) k
  | 0 => by simp [valB, borB]
  | k + 1 => by
    have h := sub_val D F k
    rw [valB_succ, valB_succ, valB_succ, borB_succ, Nat.pow_succ]
    generalize valB (fun j => (D j ^^ (F j ^^ borB D F j))) k = y at *
    revert h
    cases D k <;> cases F k <;> cases borB D F k <;> simp <;> omega
theorem sub_bits {d f : Nat} {D F : Nat → Bool} (hd : IsBits d D) (hf : IsBits f F) (hb : borB D F 64 = false) (hy : ∀ j, 64 ≤ j → (D j ^^ (F j ^^ borB D F j)) = false) : f ≤ d ∧ IsBits (d - f) (fun j => (D j ^^ (F j ^^ borB D F j))) := by
  have h := sub_val D F 64
  rw [hb, if_neg (by simp), Nat.add_zero] at h
  have h1 := bits_valB hy
  have hD : IsBits (valB D 64) D := bits_valB (fun j hj => by rw [← hd.bit]; exact Nat.testBit_lt_two_pow (Nat.lt_of_lt_of_le hd.lt (show 2 ^ 64 ≤ 2 ^ j from Nat.pow_le_pow_right (by decide) hj)))
  have hF : IsBits (valB F 64) F := bits_valB (fun j hj => by rw [← hf.bit]; exact Nat.testBit_lt_two_pow (Nat.lt_of_lt_of_le hf.lt (show 2 ^ 64 ≤ 2 ^ j from Nat.pow_le_pow_right (by decide) hj)))
  rw [hD.uniq hd, hF.uniq hf] at h
  refine ⟨by omega, ?_⟩
  have e : d - f = valB (fun j => (D j ^^ (F j ^^ borB D F j))) 64 := by omega
  rw [e]
  exact h1
/-- The place ahead of a run, and the last one of a run. -/
def firstB (S : Nat → Bool) : Nat → Bool := fun j => S (j + 1) && !S j
def lastB (S : Nat → Bool) : Nat → Bool := fun j => S j && !S (j + 1)
theorem bor_in {S A : Nat → Bool} : ∀ j, borB (fun j => A j || lastB S j) (firstB S) j = true → S j = true
  | 0, h => by simp [borB] at h
  | j + 1, h => by
    have ih := bor_in (S := S) (A := A) j
    rw [borB_succ] at h
    revert ih h
    generalize borB (fun j => A j || lastB S j) (firstB S) j = z
    unfold firstB lastB
    cases S j <;> cases S (j + 1) <;> cases A j <;> cases z <;> simp
theorem bor_clo {S A : Nat → Bool} (h0 : S 0 = false) : ∀ j, cloB S A j = (A j || (S j && !borB (fun j => A j || lastB S j) (firstB S) j))
  | 0 => by simp [cloB, h0]
  | j + 1 => by
    have ih := bor_clo (S := S) (A := A) h0 j
    have hi := bor_in (S := S) (A := A) j
    rw [borB_succ, show cloB S A (j + 1) = (A (j + 1) || (S (j + 1) && cloB S A j)) from rfl, ih]
    revert hi
    generalize borB (fun j => A j || lastB S j) (firstB S) j = z
    unfold firstB lastB
    cases S j <;> cases S (j + 1) <;> cases A j <;> cases A (j + 1) <;> cases z <;> simp
/-- What is closed by one subtraction is what is closed step by step. -/
theorem clo_sub {a sk fi la n : Nat} {S A : Nat → Bool} (hn : n ≤ 62) (h0 : S 0 = false) (hS : ∀ j, n < j → S j = false) (hA : ∀ j, n < j → A j = false)
    (ha : IsBits a A) (hs : IsBits sk S) (hf : IsBits fi (firstB S)) (hl : IsBits la (lastB S)) :
    fi ≤ (a ||| la) ∧ IsBits (a ||| (sk ^^^ (sk &&& (((a ||| la) - fi) ^^^ (a ||| la))))) (cloB S A) := by
  have hd := ha.or hl
  have hb : borB (fun j => A j || lastB S j) (firstB S) 64 = false := by
    cases e : borB (fun j => A j || lastB S j) (firstB S) 64 with
    | false => rfl
    | true => have := bor_in 64 e; rw [hS 64 (by omega)] at this; cases this
  have hy : ∀ j, 64 ≤ j → ((A j || lastB S j) ^^ (firstB S j ^^ borB (fun j => A j || lastB S j) (firstB S) j)) = false := fun j hj => by
    have e1 : borB (fun j => A j || lastB S j) (firstB S) j = false := by
      cases e : borB (fun j => A j || lastB S j) (firstB S) j with
      | false => rfl
      | true => have := bor_in j e; rw [hS j (by omega)] at this; cases this
    rw [e1]
    unfold lastB firstB
    rw [hA j (by omega), hS j (by omega), hS (j + 1) (by omega)]
    rfl
  obtain ⟨h1, h2⟩ := sub_bits hd hf hb hy
  refine ⟨h1, ?_⟩
  have h3 : IsBits (((a ||| la) - fi) ^^^ (a ||| la)) (fun j => firstB S j ^^ borB (fun j => A j || lastB S j) (firstB S) j) := ⟨Nat.xor_lt_two_pow (n := 64) h2.lt hd.lt, fun j => by
    rw [Nat.testBit_xor, h2.bit, hd.bit]
    cases A j || lastB S j <;> cases firstB S j <;> cases borB (fun j => A j || lastB S j) (firstB S) j <;> rfl⟩
  refine (ha.or (bits_andNot hs h3)).congr (fun j => ?_)
  rw [bor_clo h0 j]
  congr 1
  unfold firstB
  cases hsj : S j <;> simp
end Go.Proofs.YtfeolbgenpknfaaGreat
namespace Go.Proofs.YtfeolbgenpknfaaGreat
open Go.RowKit

/-- A right vector. -/
def Right (b : Int) (n : Nat) (f : Nat → Int) : Prop :=
  1 ≤ b ∧ b ≤ 320 ∧ (n : Int) = (b + 31) / 32 ∧ (∀ i, i < n → 0 ≤ f i ∧ f i ≤ 4294967295) ∧ (b % 32 = 0 ∨ f (n - 1) < 2 ^ (b % 32).toNat)


theorem ret_bool {p : Prop} [Decidable p] {x : Bool} (h : x = true ↔ p) : Ending.returned (.bool x) = .returned (.bool (decide p)) := by
  congr 2
  by_cases hp : p
  · rw [h.2 hp, decide_eq_true hp]
  · rw [decide_eq_false hp]
    cases x
    · rfl
    · exact absurd (h.1 rfl) hp

theorem below_drewN {a w : World} {B : Nat} (n : Nat) (h : Below B a w) : Below B a (w.drewN n) := ⟨h.os, h.tape, h.output, h.size, h.block⟩
theorem shr_zero (x : Int) (k : Nat) (h : 0 ≤ x) : x / 2 ^ k = 0 ↔ x < 2 ^ k := by
  have hp : (0 : Int) < 2 ^ k := Int.pow_pos (by decide)
  constructor
  · intro h1
    have h2 := Int.emod_add_mul_ediv x (2 ^ k)
    have h3 := Int.emod_lt_of_pos x hp
    rw [h1] at h2
    omega
  · intro h1
    exact Int.ediv_eq_zero_of_lt h h1

open Classical in
set_option maxHeartbeats 2000000 in
theorem specRight_any (b : Int) (sa : Option Addr) (n cap : Nat) (f : Nat → Int) (w : World) (hn : n ≤ 1048576) (hr : Row w w.heap.size sa n f) :
    Calls Tryz.prog 52 #[.agg #[.int .i64 b, .slice sa n cap]] w fun e w' => e = .returned (.bool (decide (Right b n f))) ∧ Below w.heap.size w w' := by
  have HR : Hid (Row w w.heap.size sa n f) := hr
  clear hr
  have hb0 : Below w.heap.size w (w.alloc (.cells #[.int .i64 b, .slice sa n cap] 29)) := (Below.refl _ _).alloc (Nat.le_refl _) _
  have HB0 : Hid (Below w.heap.size w (w.alloc (.cells #[.int .i64 b, .slice sa n cap] 29))) := hb0
  clear hb0
  by_cases h1 : 1 ≤ b ∧ b ≤ 320
  · obtain ⟨hb1, hb2⟩ := h1
    by_cases h2 : (n : Int) = (b + 31) / 32
    · go_enter Tryz.func52, Tryz.ntmps52
      go_wp2_with fail
      go_quiet (first | (go_at_call 53; exact Calls.quiet_of_same (is_yes _ _ _ _ (by omega) (by omega))) | (go_at_call 79; exact Calls.quiet_of_same (words_any _ _ (by omega) (by omega))))
      go_wp2
      have HH : Hid ((n : Int) = (b + 31) / 32) := h2
      have hn0 : 0 < n := by omega
      clear h2
      go_loopw [2, 3] (fun _ i wr => ∃ k : Nat, k ≤ n ∧ i = .int .i64 (k : Int) ∧ Below w.heap.size w wr ∧ Boxed wr w.heap.size 29 b sa n cap ∧ ∀ i, i < k → 0 ≤ f i ∧ f i ≤ 4294967295) (fun _ i _ => n - (intOf i).toNat)
      case atStart => exact ⟨0, Nat.zero_le _, rfl, below_drewN _ HB0.out, (boxing w _ b sa n cap).2.1, fun i hi => by omega⟩
      case round =>
        obtain ⟨k, hk, rfl, hbel, hbx, hall⟩ := hrel
        have HW : Hid (Below w.heap.size w wr) := hbel
        have HX : Hid (Boxed wr w.heap.size 29 b sa n cap) := hbx
        have HALL : Hid (∀ i, i < k → 0 ≤ f i ∧ f i ≤ 4294967295) := hall
        obtain ⟨cv0, cv1⟩ := hbx.cells
        clear hbx hall
        by_cases hkl : k < n
        · obtain ⟨ba, oa, rfl, hba, hca⟩ : ∃ bb off : Nat, sa = some ⟨bb, off, none⟩ ∧ bb < w.heap.size ∧ ∀ i, i < n → w.cell? ⟨bb, off + i, none⟩ = some (.int .i64 (f i)) := by
            rcases HR.out with h | h
            · omega
            · exact h
          have cz : wr.cell? ⟨ba, oa + k, none⟩ = some (.int .i64 (f k)) := by rw [hbel.cell (p := ⟨ba, oa + k, none⟩) hba]; exact hca k hkl
          clear hca hbel
          have hki : (k : Int) < (n : Int) := by omega
          have hk0 : (0 : Int) ≤ (k : Int) := by omega
          by_cases hf : 0 ≤ f k ∧ f k ≤ 4294967295
          · have HF : Hid (0 ≤ f k ∧ f k ≤ 4294967295) := hf
            clear hf
            go_wp2_with fail
            refine (is_yes _ _ _ _ HF.out.1 HF.out.2).mono ?_
            rintro e w1 ⟨rfl, hw⟩
            rw [hw]
            clear hw w1
            go_wp2
            go_roundw
            case rel => exact ⟨k + 1, by omega, by go_num, HW.out, HX.out, fun i hi => by
              by_cases e : i = k
              · subst e; exact HF.out
              · exact HALL.out i (by omega)⟩
            case measure => simp [intOf]; omega
          · have HF : Hid (¬ (0 ≤ f k ∧ f k ≤ 4294967295)) := hf
            have hno : decide (Right b n f) = false := decide_eq_false (fun h => hf (h.2.2.2.1 k hkl))
            clear hf
            go_wp2_with fail
            refine (is_no _ _ _ _ HF.out).mono ?_
            rintro e w1 ⟨rfl, hw⟩
            rw [hw]
            clear hw w1
            go_wp2
            go_ret
            exact ⟨by first | rfl | (rw [hno]; rfl), HW.out⟩
        · have hki : ¬ (k : Int) < (n : Int) := by omega
          obtain rfl : k = n := by omega
          obtain ⟨m, rfl⟩ : ∃ m, k = m + 1 := ⟨k - 1, by omega⟩
          obtain ⟨ba, oa, rfl, hba, hca⟩ : ∃ bb off : Nat, sa = some ⟨bb, off, none⟩ ∧ bb < w.heap.size ∧ ∀ i, i < m + 1 → w.cell? ⟨bb, off + i, none⟩ = some (.int .i64 (f i)) := by
            rcases HR.out with h | h
            · omega
            · exact h
          have cz : wr.cell? ⟨ba, oa + m, none⟩ = some (.int .i64 (f m)) := by rw [hbel.cell (p := ⟨ba, oa + m, none⟩) hba]; exact hca m (by omega)
          have hlast := HALL.out m (by omega)
          clear hca hbel
          by_cases ho : b % 32 = 0
          · have hyes : decide (Right b (m + 1) f) = true := decide_eq_true ⟨hb1, hb2, HH.out, HALL.out, Or.inl ho⟩
            go_wp2
            go_ret
            exact ⟨by first | rfl | (rw [hyes]; rfl), HW.out⟩
          · have HO : Hid (¬ b % 32 = 0) := ho
            go_wp2
            go_ret
            refine ⟨ret_bool ?_, HW.out⟩
            have hsh := shr_zero (f m) (b % 32).toNat hlast.1
            simp only [Bool.or_eq_true, beq_iff_eq, hsh]
            exact ⟨fun h => ⟨hb1, hb2, HH.out, HALL.out, h⟩, fun h => h.2.2.2.2⟩
    · have hno : decide (Right b n f) = false := decide_eq_false (fun h => h2 h.2.2.1)
      rw [hno]
      have HN : Hid (¬ (n : Int) = (b + 31) / 32) := h2
      go_enter Tryz.func52, Tryz.ntmps52
      go_wp2_with fail
      go_quiet (first | (go_at_call 53; exact Calls.quiet_of_same (is_yes _ _ _ _ (by omega) (by omega))) | (go_at_call 79; exact Calls.quiet_of_same (words_any _ _ (by omega) (by omega))))
      go_wp2
      go_ret
      exact ⟨rfl, below_drewN _ HB0.out⟩
  · have hno : decide (Right b n f) = false := decide_eq_false (fun h => h1 ⟨h.1, h.2.1⟩)
    rw [hno]
    go_enter Tryz.func52, Tryz.ntmps52
    go_wp2_with fail
    go_quiet (first | (go_at_call 53; exact Calls.quiet_of_same (is_no _ _ _ _ h1)))
    go_wp2
    go_ret
    exact ⟨rfl, below_drewN _ HB0.out⟩
end Go.Proofs.YtfeolbgenpknfaaGreat
namespace Go.Proofs.YtfeolbgenpknfaaGreat
open Go.RowKit

/-- The words, the bits behind the last turned off. -/
def cutF (b : Int) (n : Nat) (f : Nat → Int) : Nat → Int := fun i => if i + 1 = n ∧ 0 < b % 32 then f i % 2 ^ (b % 32).toNat else f i
/-- The carry into word k. -/
def carryF (cr : Int) (f g : Nat → Int) : Nat → Int
  | 0 => cr
  | k + 1 => (f k + g k + carryF cr f g k) / 4294967296
/-- The words of a sum. -/
def sumF (cr : Int) (f g : Nat → Int) : Nat → Int := fun i => (f i + g i + carryF cr f g i) % 4294967296
theorem carry_range {cr : Int} {f g : Nat → Int} {n : Nat} (h0 : 0 ≤ cr) (h1 : cr ≤ 1) (hf : ∀ i, i < n → 0 ≤ f i ∧ f i ≤ 4294967295) (hg : ∀ i, i < n → 0 ≤ g i ∧ g i ≤ 4294967295) : ∀ k, k ≤ n → 0 ≤ carryF cr f g k ∧ carryF cr f g k ≤ 1
  | 0, _ => ⟨h0, h1⟩
  | k + 1, hk => by
    have ih := carry_range h0 h1 hf hg k (by omega)
    have a := hf k (by omega)
    have b := hg k (by omega)
    unfold carryF
    omega
/-- The words turned. -/
def notF (f : Nat → Int) : Nat → Int := fun i => 4294967295 - f i
end Go.Proofs.YtfeolbgenpknfaaGreat
namespace Go.Proofs.YtfeolbgenpknfaaGreat
open Go.RowKit

theorem wordsFor_any (b : Int) (w : World) (h0 : 0 ≤ b) (h1 : b ≤ 320) :
    Calls Tryz.prog 96 #[.int .i64 b] w fun e w' => e = .returned (.int .i64 ((b + 31) / 32)) ∧ w' = w := by
  have h2 : b + 32 - 1 = b + 31 := by omega
  go_enter Tryz.func96, Tryz.ntmps96
  go_wp2
  go_ret
  exact ⟨by first | rfl | (rw [h2]), rfl⟩
end Go.Proofs.YtfeolbgenpknfaaGreat
