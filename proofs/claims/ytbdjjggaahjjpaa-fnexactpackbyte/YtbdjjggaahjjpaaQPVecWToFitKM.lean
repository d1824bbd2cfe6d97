/- What is proved here: the program writes places as a vector, in new memory; nothing that was there turns.
   What is said here: what ByteVec and LoopVec are asked; a new vector seen from an earlier world.
   What is proved here: the program's isByte says whether a number is a byte's; the world stays.
   What is said here: what fits a row of cells, as plain mathematics. -/
import Derived.Test.YtbdjjggaahjjpaaQVecIsMToLayM
import Derived.Test.YtbdjjggaahjjpaaQWordsForWToNewW
import Derived.RegionTactic
import Derived.BigRegion
import Derived.Test.YtbdjjggaahjjpaaQCellMToCloM
import Derived.Test.YtbdjjggaahjjpaaQVecS
import Derived.Test.YtbdjjggaahjjpaaProg
import Derived.WalkKit
namespace Go.Proofs.Ytbdjjggaahjjpaa
open Go.RowKit

set_option maxRecDepth 100000 in
set_option maxHeartbeats 4000000 in
theorem pvec_any (x n m : Nat) (w : World) (hx : x < 18446744073709551616) (hn : n ≤ 60) (hm : m = (n + 1 + 31) / 32) :
    Calls Try.prog 83 #[.int .u64 (x : Int), .int .i64 (n : Int)] w fun e w' => NewVec w ((n : Int) + 1) m (wordsN x) e w' := by
  have hm2 : m ≤ 2 := by omega
  have hm1 : 1 ≤ m := by omega
  have C := fun W => implNew_yes ((n : Int) + 1) m W (by omega) (by omega) (by omega)
  have HC : Hid (∀ W, Calls Try.prog 94 #[.int .i64 ((n : Int) + 1)] W fun e w' => NewVec W ((n : Int) + 1) m (fun _ => 0) e w') := C
  clear C hm
  go_enter Try.func83, Try.ntmps83
  go_wp2_with fail
  have q0 := boxing w 36 0 none 0 0
  generalize w.alloc (.cells #[.int .i64 0, .slice none 0 0] 36) = v0 at *
  refine (HC.out v0).mono ?_
  rintro e w1 ⟨s1, c1, rfl, hb1, ho1⟩
  unfold vecV
  have X0 : Hid (Boxed w1 w.heap.size 36 0 none 0 0) := q0.2.1.kept hb1 rfl
  have S1 : Hid (Since w w1) := since_call (since_call (since_refl _) q0.1) hb1
  obtain ⟨g, rfl, hgl, ho⟩ : ∃ g, s1 = some ⟨g, 0, none⟩ ∧ v0.heap.size ≤ g ∧ Own w1 g m (fun _ => 0) := by
    rcases ho1 with h | h
    · omega
    · exact h
  have O1 : Hid (Own w1 g m (fun _ => 0)) := ho
  have hg0 : w.heap.size < g := by have := q0.2.2; omega
  have hg1 := ho.1
  have q2 := boxing w1 36 ((n : Int) + 1) (some ⟨g, 0, none⟩) m c1
  clear q0 hb1 ho1 ho hgl
  go_wp2_with fail
  generalize w1.alloc (.cells #[.int .i64 ((n : Int) + 1), .slice (some ⟨g, 0, none⟩) m c1] 36) = v2 at *
  have X2 : Hid (Boxed v2 w.heap.size 36 0 none 0 0) := X0.out.kept q2.1 rfl
  have Y2 : Hid (Boxed v2 w1.heap.size 36 ((n : Int) + 1) (some ⟨g, 0, none⟩) m c1) := q2.2.1
  have S2 : Hid (Since w v2) := since_call S1.out q2.1
  have O2 : Hid (Own v2 g m (fun _ => 0)) := O1.out.kept q2.1 hg1
  clear q2 X0 S1 O1
  generalize w1.heap.size = p at *
  go_loopw [13] (fun iv wr => ∃ k : Nat, k ≤ m ∧ iv = .int .i64 (k : Int) ∧ Boxed wr w.heap.size 36 0 none 0 0 ∧ Boxed wr p 36 ((n : Int) + 1) (some ⟨g, 0, none⟩) m c1 ∧ Since w wr ∧ Own wr g m (fun i => if i < k then wordsN x i else 0)) (fun iv _ => m - (intOf iv).toNat)
  case atStart => exact ⟨0, Nat.zero_le _, rfl, X2.out, Y2.out, S2.out, O2.out.congr (fun i _ => by simp)⟩
  case round =>
    obtain ⟨k, hk, rfl, hX, hY, hS, hO⟩ := hrel
    have HX : Hid (Boxed wr w.heap.size 36 0 none 0 0) := hX
    have HY : Hid (Boxed wr p 36 ((n : Int) + 1) (some ⟨g, 0, none⟩) m c1) := hY
    have HS : Hid (Since w wr) := hS
    have HO : Hid (Own wr g m (fun i => if i < k then wordsN x i else 0)) := hO
    obtain ⟨y0, y1⟩ := hY.cells
    have ylt := hY.lt
    by_cases hkl : k < m
    · have hki : (k : Int) < (m : Int) := by omega
      have hk0 : (0 : Int) ≤ (k : Int) := by omega
      have ck := hO.2.1 k hkl
      have fk := hO.2.2 k hkl
      have hglt := hO.1
      obtain ⟨s, hs⟩ : ∃ s, k * 32 = s := ⟨_, rfl⟩
      have hsi : (k : Int) * 32 = (s : Int) := by omega
      have hsw : IntKind.i64.wrap ((k : Int) * 32) = (s : Int) := by rw [IntKind.wrap_i64]; omega
      have hs0 : (0 : Int) ≤ (s : Int) := by omega
      have hsh : (x : Int) / 2 ^ s = ((x / 2 ^ s : Nat) : Int) := by simp
      have hxl : x / 2 ^ s < 18446744073709551616 := Nat.lt_of_le_of_lt (Nat.div_le_self _ _) hx
      have hand := and_word64 hxl
      have HW : Hid (wordsN x k = ((x / 2 ^ s % 4294967296 : Nat) : Int)) := by show wordsN x k = _; unfold wordsN; rw [hs]
      have hzl : x / 2 ^ s % 4294967296 < 4294967296 := Nat.mod_lt _ (by decide)
      generalize x / 2 ^ s % 4294967296 = z at *
      generalize x / 2 ^ s = y at *
      have hwz : IntKind.i64.wrap (z : Int) = (z : Int) := by rw [IntKind.wrap_i64]; omega
      have hwy : IntKind.u64.wrap (y : Int) = (y : Int) := by rw [IntKind.wrap_u64]; omega
      have hpg : g ≠ p := by omega
      have hwg : g ≠ w.heap.size := by omega
      clear hX hY hS hO hs
      go_wp2_with fail
      go_region
      all_goals
        go_wp2_with fail
        go_roundw
        case rel => exact ⟨k + 1, by omega, by go_num, (HX.out.setOther _ _ hwg).drew, (HY.out.setOther _ _ hpg).drew, since_drew (since_set HS.out (by show w.heap.size ≤ g; omega)), ((HO.out.set hkl (z : Int)).congr (fun i hi => by
          by_cases e : i = k
          · subst e; rw [if_pos rfl, if_pos (by omega), HW.out]
          · rw [if_neg e]
            by_cases e2 : i < k
            · rw [if_pos e2, if_pos (by omega)]
            · rw [if_neg e2, if_neg (by omega)])).drew⟩
        case measure => simp [intOf]; omega
    · have hki : ¬ (k : Int) < (m : Int) := by omega
      obtain rfl : k = m := by omega
      obtain ⟨a0, a1, a2, a3⟩ := hX.four
      have xlt := hX.lt
      have hne1 : w.heap.size ≠ p := by omega
      clear hX hY hS hO
      go_wp2_with fail
      refine bodyPost_ret (v := vecV ((n : Int) + 1) (some ⟨g, 0, none⟩) k c1) (by simp [results, Try.results83, go_sem, vecV, a0, a1]) rfl ?_
      exact ⟨_, _, rfl, (since_set (since_set HS.out (by show w.heap.size ≤ w.heap.size; omega)) (by show w.heap.size ≤ w.heap.size; omega)).below, Or.inr ⟨g, rfl, by omega, ((HO.out.congr (fun i hi => if_pos hi)).setOther _ _ (by show w.heap.size ≠ g; omega)).setOther _ _ (by show w.heap.size ≠ g; omega)⟩⟩
end Go.Proofs.Ytbdjjggaahjjpaa
namespace Go.Proofs.Ytbdjjggaahjjpaa
open Go.RowKit

/-- What ByteVec is asked is right. -/
def ByteP (n : Nat) (f : Nat → Cel) (en : Int) : Prop := CellsOk n f ∧ 0 ≤ en ∧ en ≤ 255
theorem newVec_early {w w1 w' : World} {b : Int} {n : Nat} {f : Nat → Int} {e : Ending} (hb : Below w.heap.size w w1) (h : NewVec w1 b n f e w') : NewVec w b n f e w' := by
  obtain ⟨s, c, h1, h2, h3⟩ := h
  exact ⟨s, c, h1, hb.trans (h2.mono hb.size), h3.low hb.size⟩
theorem boxed_grown {W W' : World} {b p : Nat} {t : TypeId} {x : Int} {sa : Option Addr} {n cap : Nat} (h : Boxed W p t x sa n cap) (hg : W.grownBy W' (some b)) (hne : p ≠ b) : Boxed W' p t x sa n cap := by
  unfold Boxed
  rw [hg.block p h.lt (fun e => hne (by injection e))]
  exact h
theorem behind_and (q r : Nat → Bool) (n : Nat) : ∀ j, (behind q n j && behind r n j) = behind (fun i => q i && r i) n j := fun j => by
  unfold behind
  cases decide (1 ≤ j ∧ j ≤ n) <;> simp
end Go.Proofs.Ytbdjjggaahjjpaa
namespace Go.Proofs.Ytbdjjggaahjjpaa
open Go.RowKit

theorem isByte_yes (n : Int) (w : World) (h0 : 0 ≤ n) (h1 : n ≤ 255) :
    Calls Try.prog 62 #[.int .i64 n] w fun e w' => e = .returned (.bool true) ∧ w' = w := by
  go_enter Try.func62, Try.ntmps62
  go_wp2
  go_ret
  exact ⟨rfl, rfl⟩
theorem isByte_no (n : Int) (w : World) (h : ¬ (0 ≤ n ∧ n ≤ 255)) :
    Calls Try.prog 62 #[.int .i64 n] w fun e w' => e = .returned (.bool false) ∧ w' = w := by
  by_cases h0 : 0 ≤ n
  · have h1 : ¬ n ≤ 255 := fun h2 => h ⟨h0, h2⟩
    clear h
    go_enter Try.func62, Try.ntmps62
    go_wp2
    go_ret
    exact ⟨rfl, rfl⟩
  · clear h
    go_enter Try.func62, Try.ntmps62
    go_wp2
    go_ret
    exact ⟨rfl, rfl⟩
end Go.Proofs.Ytbdjjggaahjjpaa
namespace Go.Proofs.Ytbdjjggaahjjpaa
/-- A text that is not too long passes right cells. -/
def FitK (n : Nat) (f : Nat → Cel) (t : ByteArray) : Prop := t.size ≤ 8000 ∧ CellsOk n f ∧ runB f n t t.size n = true
theorem okSize {n : Nat} {f : Nat → Cel} (hs : ∀ i, i < n → RightC (f i).c → (f i).c.size ≤ 256) (h : CellsOk n f) : ∀ i, i < n → (f i).c.size ≤ 256 := fun i hi => hs i hi (h.2.2 i hi).1
theorem bit_of {x n : Nat} {P : Nat → Bool} (h : IsBits x P) : x / 2 ^ n % 2 = if P n = true then 1 else 0 := by
  have h2 := h.bit n
  rw [Nat.testBit_eq_decide_div_mod_eq] at h2
  by_cases h3 : x / 2 ^ n % 2 = 1
  · rw [decide_eq_true h3] at h2
    rw [if_pos h2.symm, h3]
  · rw [decide_eq_false h3] at h2
    rw [if_neg (by rw [← h2]; simp)]
    omega
theorem and_one64 {y : Nat} (h : y < 18446744073709551616) : bits .and .u64 (y : Int) 1 = ((y % 2 : Nat) : Int) := by
  have := and64 (a := y) (b := 1) h (by omega)
  rw [Nat.and_one_is_mod] at this
  exact this
end Go.Proofs.Ytbdjjggaahjjpaa
