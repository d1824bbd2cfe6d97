/- What is said here: vectors that are laid one behind the other, as bits.
   What is proved here: slices.Equal says whether two slices of int64 are the same; nothing that was there turns. -/
import Derived.Test.YtbdjjggaahjjpaaQVecIsMToLayM
import Derived.Test.YtbdjjggaahjjpaaQCCRowMToRowsD
import Derived.Deep.QuietTactic
import Derived.BigQuiet
import Derived.Deep.RegionWith
namespace Go.Proofs.Ytbdjjggaahjjpaa
open Go.RowKit

/-- How many bits the first ones have. -/
def bitsTo (B : Nat → Nat) : Nat → Nat
  | 0 => 0
  | i + 1 => bitsTo B i + B i
/-- The bits of the first ones, one behind the other. -/
def layK (B : Nat → Nat) (R : Nat → Nat → Bool) : Nat → Nat → Bool
  | 0 => fun _ => false
  | i + 1 => fun j => layK B R i j || (decide (bitsTo B i ≤ j) && R i (j - bitsTo B i))
theorem bitsTo_mono {B : Nat → Nat} : ∀ {i j : Nat}, i ≤ j → bitsTo B i ≤ bitsTo B j
  | i, 0, h => by obtain rfl : i = 0 := by omega
                  exact Nat.le_refl _
  | i, j + 1, h => by
    by_cases e : i = j + 1
    · subst e; exact Nat.le_refl _
    · exact Nat.le_trans (bitsTo_mono (by omega)) (Nat.le_add_right _ _)
theorem layK_next {B : Nat → Nat} {R : Nat → Nat → Bool} {i m : Nat} (hm : B i ≤ 32 * m) (hR : ∀ q, R i q = true → q < B i) : ∀ j, layW (layK B R i) (R i) (bitsTo B i) m j = layK B R (i + 1) j := fun j => by
  unfold layW
  show _ = (layK B R i j || (decide (bitsTo B i ≤ j) && R i (j - bitsTo B i)))
  congr 1
  cases h : R i (j - bitsTo B i) with
  | false => rw [Bool.and_false, Bool.and_false]
  | true =>
    have := hR _ h
    rw [Bool.and_true, Bool.and_true, decide_eq_decide]
    omega
/-- Vectors that are read: their numbers of bits, their words. -/
def VecRows (w : World) (B0 : Nat) (sp : Option Addr) (k : Nat) (B : Nat → Nat) (s : Nat → Option Addr) (m c : Nat → Nat) (F : Nat → Nat → Int) : Prop :=
  ∃ g off : Nat, sp = some ⟨g, off, none⟩ ∧ g < B0 ∧ ∀ i, i < k → w.cell? ⟨g, off + i * 2, none⟩ = some (.int .i64 (B i : Int)) ∧ w.cell? ⟨g, off + i * 2 + 1, none⟩ = some (.slice (s i) (m i) (c i)) ∧ Row w B0 (s i) (m i) (F i)
theorem VecRows.late {w W : World} {sp : Option Addr} {k : Nat} {B : Nat → Nat} {s : Nat → Option Addr} {m c : Nat → Nat} {F : Nat → Nat → Int} (h : VecRows w w.heap.size sp k B s m c F) (hb : Below w.heap.size w W) : VecRows W W.heap.size sp k B s m c F := by
  obtain ⟨g, off, h1, h2, h3⟩ := h
  exact ⟨g, off, h1, Nat.lt_of_lt_of_le h2 hb.size, fun i hi => ⟨by rw [hb.cell (p := ⟨g, off + i * 2, none⟩) h2]; exact (h3 i hi).1, by rw [hb.cell (p := ⟨g, off + i * 2 + 1, none⟩) h2]; exact (h3 i hi).2.1, ((h3 i hi).2.2.kept hb).up hb.size⟩⟩
/-- Vectors whose bits are told. -/
structure VecsOk (k : Nat) (B : Nat → Nat) (m : Nat → Nat) (F : Nat → Nat → Int) (R : Nat → Nat → Bool) : Prop where
  pos : ∀ i, i < k → 1 ≤ B i
  len : ∀ i, i < k → m i = (B i + 31) / 32
  bits : ∀ i, i < k → VecIs (F i) (R i) (m i)
  fit : ∀ i, i < k → ∀ q, R i q = true → q < B i
end Go.Proofs.Ytbdjjggaahjjpaa
namespace Go.Proofs.Ytbdjjggaahjjpaa
open Go.RowKit

theorem Row.get {w : World} {B : Nat} {sa : Option Addr} {n i : Nat} {f : Nat → Int} (h : Row w B sa n f) (hi : i < n) : ∃ bb off : Nat, sa = some ⟨bb, off, none⟩ ∧ bb < B ∧ w.cell? ⟨bb, off + i, none⟩ = some (.int .i64 (f i)) := by
  rcases h with h | ⟨bb, off, h1, h2, h3⟩
  · omega
  · exact ⟨bb, off, h1, h2, h3 i hi⟩
open Classical in
set_option maxHeartbeats 1000000 in
theorem equal_any (sa sb : Option Addr) (n m ca cb : Nat) (f g : Nat → Int) (w : World) (hn : n ≤ maxLen) (hm : m ≤ maxLen) (ha : Row w w.heap.size sa n f) (hb : Row w w.heap.size sb m g) :
    Calls Try.prog 38 #[.slice sa n ca, .slice sb m cb] w fun e w' => e = .returned (.bool (decide (n = m ∧ ∀ i, i < n → f i = g i))) ∧ Below w.heap.size w w' := by
  unfold maxLen at hn hm
  by_cases hnm : n = m
  · subst hnm
    have HA : Hid (Row w w.heap.size sa n f) := ha
    have HB : Hid (Row w w.heap.size sb n g) := hb
    clear ha hb
    obtain ⟨D, hD⟩ : ∃ D, decide (∀ i, i < n → f i = g i) = D := ⟨_, rfl⟩
    have HD : Hid (decide (∀ i, i < n → f i = g i) = D) := hD
    rw [show decide (n = n ∧ ∀ i, i < n → f i = g i) = D by rw [← hD]; simp]
    clear hD
    go_enter Try.func38, Try.ntmps38
    go_wp2_with fail
    go_loopw [13] (fun iv wr => ∃ k : Nat, k ≤ n ∧ iv = .int .i64 (k : Int) ∧ Below w.heap.size w wr ∧ ∀ i, i < k → f i = g i) (fun iv _ => n - (intOf iv).toNat)
    case atStart => exact ⟨0, Nat.zero_le _, rfl, Below.refl _ _, fun i hi => absurd hi (Nat.not_lt_zero _)⟩
    case round =>
      obtain ⟨k, hk, rfl, hbel, hall⟩ := hrel
      have HW : Hid (Below w.heap.size w wr) := hbel
      have HL : Hid (∀ i, i < k → f i = g i) := hall
      clear hall
      by_cases hkl : k < n
      · have hki : (k : Int) < (n : Int) := by omega
        have hk0 : (0 : Int) ≤ (k : Int) := by omega
        obtain ⟨ba, oa, rfl, hba, c0⟩ := ((HA.out.kept hbel).up hbel.size).get hkl
        obtain ⟨bb, ob, rfl, hbb, d0⟩ := ((HB.out.kept hbel).up hbel.size).get hkl
        clear hbel
        obtain ⟨x, hx⟩ : ∃ x, f k = x := ⟨_, rfl⟩
        obtain ⟨y, hy⟩ : ∃ y, g k = y := ⟨_, rfl⟩
        have HX : Hid (f k = x ∧ g k = y) := ⟨hx, hy⟩
        rw [hx] at c0
        rw [hy] at d0
        clear hx hy
        go_wp2_with fail
        go_quiet (fail)
        by_cases hxy : x = y
        · subst hxy
          have HN : Hid (∀ i, i < k + 1 → f i = g i) := fun i hi => by
            by_cases e : i = k
            · rw [e, HX.out.1, HX.out.2]
            · exact HL.out i (by omega)
          go_wp2_with fail
          go_roundw
          case rel => exact ⟨k + 1, by omega, by go_num, ⟨HW.out.os, HW.out.tape, HW.out.output, HW.out.size, HW.out.block⟩, HN.out⟩
          case measure => simp [intOf]; omega
        · have HN : Hid (¬ ∀ i, i < n → f i = g i) := fun h => hxy (by rw [← HX.out.1, ← HX.out.2]; exact h k hkl)
          obtain rfl : D = false := by rw [← HD.out]; exact decide_eq_false HN.out
          go_wp2_with fail
          go_ret
          exact ⟨rfl, ⟨HW.out.os, HW.out.tape, HW.out.output, HW.out.size, HW.out.block⟩⟩
      · have hki : ¬ (k : Int) < (n : Int) := by omega
        obtain rfl : k = n := by omega
        have HN : Hid (∀ i, i < k → f i = g i) := HL.out
        obtain rfl : D = true := by rw [← HD.out]; exact decide_eq_true HN.out
        clear hbel
        go_wp2_with fail
        go_ret
        exact ⟨rfl, HW.out⟩
  · rw [decide_eq_false (fun h => hnm h.1)]
    have h9 : ¬ (n : Int) = (m : Int) := by omega
    clear ha hb
    go_enter Try.func38, Try.ntmps38
    go_wp2_with fail
    go_ret
    exact ⟨rfl, Below.refl _ _⟩
end Go.Proofs.Ytbdjjggaahjjpaa
