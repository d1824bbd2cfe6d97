/- What is proved here: the specification's ByteVec and LoopVec hand back the places whose cells have a byte, or have it and may be passed again, in new memory, or nothing; nothing that was there turns. -/
import Derived.Test.YtbdjjggaahjjpaaQVecIsMToLayM
import Derived.Test.YtbdjjggaahjjpaaQWordsWToL02SetW
import Derived.Test.YtbdjjggaahjjpaaQSpecKRightWToIsW
import Derived.Test.YtbdjjggaahjjpaaQPVecWToFitKM
import Derived.Test.YtbdjjggaahjjpaaQClassAlg
namespace Go.Proofs.Ytbdjjggaahjjpaa
open Go.RowKit

theorem bits_spec (sa : Option Addr) (n cap : Nat) (w : World) (hn : n ≤ 60) :
    Calls Try.prog 34 #[.slice sa n cap] w fun e w' => e = .returned (.int .i64 ((n : Int) + 1)) ∧ w' = w := by
  go_enter Try.func34, Try.ntmps34
  go_wp2
  go_ret
  exact ⟨rfl, rfl⟩
theorem CRow.keptV {w w' : World} {B k n : Nat} {sa : Option Addr} {f : Nat → Cel} (h : CRow w B sa n f) (hb : Below B w w') (hk : k < n) : ∃ bb off : Nat, sa = some ⟨bb, off, none⟩ ∧ bb < B ∧ CellAt w' bb (off + k * 3) (f k) := by
  rcases h with h | ⟨bb, off, h1, h2, h3⟩
  · omega
  · exact ⟨bb, off, h1, h2, (h3 k hk).kept hb h2⟩
theorem boxed_grownS {W W' : World} {b p : Nat} {t : TypeId} {x : Int} {sa : Option Addr} {n cap : Nat} (h : Boxed W p t x sa n cap) (hg : W.grownBy W' (some b)) (hne : p ≠ b) : Boxed W' p t x sa n cap := by
  unfold Boxed
  rw [hg.block p h.lt (fun e => hne (by injection e))]
  exact h
/-- Does a cell belong to what is asked? -/
def asksB (f : Nat → Cel) (c : Nat) (lp : Bool) : Nat → Bool := fun i => hasByte (f i).c c && (!lp || (f i).o)
theorem vecIs_yes {g : Nat → Int} {q : Nat → Bool} {k m i r : Nat} (h : VecIs g (behind q k) m) (hq : q k = true) (hi : i < m) (hr : r < 32) (e : 32 * i + r = k + 1) : VecIs (setF g i r true) (behind q (k + 1)) m :=
  (h.set hi hr).congr (fun j => by
    unfold behind
    rw [e]
    by_cases e1 : k + 1 = j
    · subst e1
      simp [hq]
    · rw [decide_eq_false e1, Bool.or_false]
      by_cases e2 : 1 ≤ j ∧ j ≤ k
      · rw [decide_eq_true e2, decide_eq_true (show 1 ≤ j ∧ j ≤ k + 1 by omega)]
      · rw [decide_eq_false e2, decide_eq_false (show ¬ (1 ≤ j ∧ j ≤ k + 1) by omega)])
theorem vecIs_no {g : Nat → Int} {q : Nat → Bool} {k m : Nat} (h : VecIs g (behind q k) m) (hq : q k = false) : VecIs g (behind q (k + 1)) m :=
  h.congr (fun j => by
    unfold behind
    by_cases e1 : k + 1 = j
    · subst e1
      simp [hq]
    · by_cases e2 : 1 ≤ j ∧ j ≤ k
      · rw [decide_eq_true e2, decide_eq_true (show 1 ≤ j ∧ j ≤ k + 1 by omega)]
      · rw [decide_eq_false e2, decide_eq_false (show ¬ (1 ≤ j ∧ j ≤ k + 1) by omega)])
set_option maxRecDepth 100000 in
set_option maxHeartbeats 4000000 in
theorem l06Byte_any (sa : Option Addr) (n cap c m x : Nat) (lp : Bool) (f : Nat → Cel) (w : World) (hn : n ≤ 60) (hr : CRow w w.heap.size sa n f) (hsz : ∀ i, i < n → (f i).c.size ≤ 256) (hc9 : c < 256) (hm : m = (n + 1 + 31) / 32) (hx : IsBits x (behind (asksB f c lp) n)) :
    Calls Try.prog 61 #[.slice sa n cap, .int .i64 (c : Int), .bool lp] w fun e w' => NewVec w ((n : Int) + 1) m (wordsN x) e w' := by
  have HR : Hid (CRow w w.heap.size sa n f) := hr
  have HSZ : Hid (∀ i, i < n → (f i).c.size ≤ 256) := hsz
  have HX : Hid (IsBits x (behind (asksB f c lp) n)) := hx
  have HM : Hid (m = (n + 1 + 31) / 32) := hm
  have hm1 : 1 ≤ m := by omega
  have hm2 : m ≤ 2 := by omega
  have hwc : IntKind.u8.wrap (c : Int) = (c : Int) := by rw [IntKind.wrap_u8]; omega
  have C := fun W => l02New_any ((n : Int) + 1) m W (by omega) (by omega) (by omega)
  have HC : Hid (∀ W, Calls Try.prog 50 #[.int .i64 ((n : Int) + 1)] W fun e w' => NewVec W ((n : Int) + 1) m (fun _ => 0) e w') := C
  clear hr hsz hx hm C
  go_enter Try.func61, Try.ntmps61
  go_wp2_with (first | (go_at_call 34; refine (bits_spec _ _ _ _ hn).mono ?_; rintro e w9 ⟨rfl, hw9⟩; rw [hw9]; clear hw9 w9))
  have q0 := boxing w 36 0 none 0 0
  generalize w.alloc (.cells #[.int .i64 0, .slice none 0 0] 36) = v0 at *
  refine (HC.out v0).mono ?_
  rintro e w1 ⟨s1, c1, rfl, hb1, ho1⟩
  unfold vecV
  have X0 : Hid (Boxed w1 w.heap.size 36 0 none 0 0) := q0.2.1.kept hb1 rfl
  have S1 : Hid (Since w w1) := since_call (since_call (since_refl _) q0.1) hb1
  obtain ⟨g, rfl, hgl, ho⟩ : ∃ g, s1 = some ⟨g, 0, none⟩ ∧ v0.heap.size ≤ g ∧ Own w1 g m (fun _ => 0) := by
    rcases ho1 with h | h
    · omega
    · exact h
  have O1 : Hid (Own w1 g m (fun _ => 0)) := ho
  have hg0 : w.heap.size < g := by have := q0.2.2; omega
  have hg1 := ho.1
  have q2 := boxing w1 36 ((n : Int) + 1) (some ⟨g, 0, none⟩) m c1
  clear q0 hb1 ho1 ho hgl
  go_wp2_with fail
  generalize w1.alloc (.cells #[.int .i64 ((n : Int) + 1), .slice (some ⟨g, 0, none⟩) m c1] 36) = v2 at *
  have X2 : Hid (Boxed v2 w.heap.size 36 0 none 0 0) := X0.out.kept q2.1 rfl
  have Y2 : Hid (Boxed v2 w1.heap.size 36 ((n : Int) + 1) (some ⟨g, 0, none⟩) m c1) := q2.2.1
  have S2 : Hid (Since w v2) := since_call S1.out q2.1
  have O2 : Hid (Own v2 g m (fun _ => 0)) := O1.out.kept q2.1 hg1
  clear q2 X0 S1 O1
  generalize w1.heap.size = p at *
  go_loopw [8] (fun iv wr => ∃ (k : Nat) (h : Nat → Int), k ≤ n ∧ iv = .int .i64 (k : Int) ∧ Boxed wr w.heap.size 36 0 none 0 0 ∧ Boxed wr p 36 ((n : Int) + 1) (some ⟨g, 0, none⟩) m c1 ∧ Since w wr ∧ Own wr g m h ∧ VecIs h (behind (asksB f c lp) k) m) (fun iv _ => n - (intOf iv).toNat)
  case atStart => exact ⟨0, _, Nat.zero_le _, rfl, X2.out, Y2.out, S2.out, O2.out, (vecIs_zero m).congr (fun j => by unfold behind; rw [decide_eq_false (by omega)]; rfl)⟩
  case round =>
    obtain ⟨k, h, hk, rfl, hX, hY, hS, hO, hV⟩ := hrel
    have HXB : Hid (Boxed wr w.heap.size 36 0 none 0 0) := hX
    have HY : Hid (Boxed wr p 36 ((n : Int) + 1) (some ⟨g, 0, none⟩) m c1) := hY
    have HS : Hid (Since w wr) := hS
    have HO : Hid (Own wr g m h) := hO
    have HV : Hid (VecIs h (behind (asksB f c lp) k) m) := hV
    obtain ⟨y0, y1⟩ := hY.cells
    have ylt := hY.lt
    by_cases hkl : k < n
    · obtain ⟨bb, off, rfl, hbb, hat⟩ := HR.out.keptV hS.below hkl
      obtain ⟨c0, d1, d2⟩ := hat
      have hki : (k : Int) < (n : Int) := by omega
      have hk0 : (0 : Int) ≤ (k : Int) := by omega
      have hsz9 := HSZ.out k hkl
      obtain ⟨⟨ac, al, am⟩, ha⟩ : ∃ a, f k = a := ⟨_, rfl⟩
      rw [ha] at c0 d1 d2 hsz9
      simp only at c0 d1 d2 hsz9
      have hak : asksB f c lp k = (hasByte ac c && (!lp || am)) := by unfold asksB; rw [ha]
      have HAS := fun W => l03Has_any ac c W (Nat.le_trans hsz9 (by unfold maxLen; omega))
      obtain ⟨i9, hi9⟩ : ∃ i9, (k + 1) / 32 = i9 := ⟨_, rfl⟩
      obtain ⟨r9, hr9⟩ : ∃ r9, (k + 1) % 32 = r9 := ⟨_, rfl⟩
      have him : i9 < m := by have := HM.out; omega
      have hrm : r9 < 32 := by omega
      have hmi : (m : Nat) ≤ 1048576 := by omega
      have CS := l02Set_any ((n : Int) + 1) g m c1 i9 r9 h ((k : Int) + 1) true wr hmi hO (by omega) (by omega) (by omega) him hrm
      have YES : Hid ((hasByte ac c && (!lp || am)) = true → VecIs (setF h i9 r9 true) (behind (asksB f c lp) (k + 1)) m) := fun hy => vecIs_yes HV.out (by rw [hak]; exact hy) him hrm (by omega)
      have NO : Hid ((hasByte ac c && (!lp || am)) = false → VecIs h (behind (asksB f c lp) (k + 1)) m) := fun hy => vecIs_no HV.out (by rw [hak]; exact hy)
      have hgp : g ≠ p := by omega
      clear hX hY hS hO hV ha hak hi9 hr9
      cases hb : hasByte ac c with
      | false =>
        rw [hb] at YES NO HAS
        have N2 := NO.out rfl
        clear hb YES NO CS
        go_wp2_with (first | (go_at_call 85; refine (HAS _).mono ?_; rintro e w9 ⟨rfl, hw9⟩; rw [hw9]; clear hw9 w9))
        go_roundw
        case rel => exact ⟨k + 1, h, by omega, by go_num, HXB.out, HY.out, HS.out, HO.out, N2⟩
        case measure => simp [intOf]; omega
      | true =>
        rw [hb] at YES NO HAS
        clear hb
        by_cases hg : (!lp || am) = true
        · have Y2' := YES.out (by rw [hg]; rfl)
          have hga : lp = false ∨ (lp = true ∧ am = true) := by cases lp <;> cases am <;> simp_all
          have KEEP : Hid (∀ w9, wr.grownBy w9 (some g) → Boxed w9 w.heap.size 36 0 none 0 0 ∧ Boxed w9 p 36 ((n : Int) + 1) (some ⟨g, 0, none⟩) m c1 ∧ Since w w9) := fun w9 hg9 => ⟨boxed_grownS HXB.out hg9 (by omega), boxed_grownS HY.out hg9 (by omega), ⟨HS.out.below.trans ⟨hg9.os, hg9.tape, hg9.output, hg9.size, fun j hj => hg9.block j (Nat.lt_of_lt_of_le hj HS.out.size) (fun e => by injection e with e; omega)⟩⟩⟩
          clear YES NO hg
          rcases hga with rfl | ⟨rfl, rfl⟩
          · go_wp2_with (first | (go_at_call 85; refine (HAS _).mono ?_; rintro e w9 ⟨rfl, hw9⟩; rw [hw9]; clear hw9 w9) | (go_at_call 80; refine CS.mono ?_; rintro e w9 ⟨rfl, hg9, ho9⟩; have K9 : Hid (Boxed w9 w.heap.size 36 0 none 0 0 ∧ Boxed w9 p 36 ((n : Int) + 1) (some ⟨g, 0, none⟩) m c1 ∧ Since w w9) := KEEP.out w9 hg9; have O9 : Hid (Own w9 g m (setF h i9 r9 true)) := ho9; clear hg9 ho9))
            go_roundw
            case rel => exact ⟨k + 1, _, by omega, by go_num, K9.out.1, K9.out.2.1, K9.out.2.2, O9.out, Y2'⟩
            case measure => simp [intOf]; omega
          · go_wp2_with (first | (go_at_call 85; refine (HAS _).mono ?_; rintro e w9 ⟨rfl, hw9⟩; rw [hw9]; clear hw9 w9) | (go_at_call 80; refine CS.mono ?_; rintro e w9 ⟨rfl, hg9, ho9⟩; have K9 : Hid (Boxed w9 w.heap.size 36 0 none 0 0 ∧ Boxed w9 p 36 ((n : Int) + 1) (some ⟨g, 0, none⟩) m c1 ∧ Since w w9) := KEEP.out w9 hg9; have O9 : Hid (Own w9 g m (setF h i9 r9 true)) := ho9; clear hg9 ho9))
            go_roundw
            case rel => exact ⟨k + 1, _, by omega, by go_num, K9.out.1, K9.out.2.1, K9.out.2.2, O9.out, Y2'⟩
            case measure => simp [intOf]; omega
        · have hg2 : (!lp || am) = false := by simpa using hg
          have N2 := NO.out (by rw [hg2]; rfl)
          obtain ⟨rfl, rfl⟩ : lp = true ∧ am = false := by cases lp <;> cases am <;> simp_all
          clear YES NO CS hg hg2
          go_wp2_with (first | (go_at_call 85; refine (HAS _).mono ?_; rintro e w9 ⟨rfl, hw9⟩; rw [hw9]; clear hw9 w9))
          go_roundw
          case rel => exact ⟨k + 1, h, by omega, by go_num, HXB.out, HY.out, HS.out, HO.out, N2⟩
          case measure => simp [intOf]; omega
    · have hki : ¬ (k : Int) < (n : Int) := by omega
      obtain rfl : k = n := by omega
      obtain ⟨a0, a1, a2, a3⟩ := hX.four
      have xlt := hX.lt
      have hne1 : w.heap.size ≠ p := by omega
      have HO2 : Hid (Own wr g m (wordsN x)) := hO.congr (fun i hi => hV.uniq (vecIs_words HX.out m) i hi)
      clear hX hY hS hO hV
      go_wp2_with fail
      refine bodyPost_ret (v := vecV ((k : Int) + 1) (some ⟨g, 0, none⟩) m c1) (by simp [results, Try.results61, go_sem, vecV, a0, a1]) rfl ?_
      exact ⟨_, _, rfl, (since_set (since_set HS.out (by show w.heap.size ≤ w.heap.size; omega)) (by show w.heap.size ≤ w.heap.size; omega)).below, Or.inr ⟨g, rfl, by omega, (HO2.out.setOther _ _ (by show w.heap.size ≠ g; omega)).setOther _ _ (by show w.heap.size ≠ g; omega)⟩⟩
end Go.Proofs.Ytbdjjggaahjjpaa
