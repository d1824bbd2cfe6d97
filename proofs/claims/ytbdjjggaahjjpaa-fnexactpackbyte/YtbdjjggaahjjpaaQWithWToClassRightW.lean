/- What is proved here: the set with one byte more, as the program makes it; nothing that was there turns.
   What is proved here: the specification's ClassRight says whether a text is a right class; nothing that was there turns. -/
import Derived.Test.YtbdjjggaahjjpaaQSet64M
import Derived.WalkKit
import Derived.Below
import Derived.Test.YtbdjjggaahjjpaaQClassM
import Derived.WalkSpells
import Derived.RegionTactic
import Derived.BigRegion
import Derived.Deep.QuietTactic
import Derived.BigQuiet
namespace Go.Proofs.Ytbdjjggaahjjpaa
open Go.RowKit

/-- A set as a value. -/
def setV (f : Nat → Nat) : Value := .agg #[.int .u64 (f 0 : Nat), .int .u64 (f 1 : Nat), .int .u64 (f 2 : Nat), .int .u64 (f 3 : Nat)]
theorem wrap_pow64 {r : Nat} (h : r < 64) : IntKind.u64.wrap (2 ^ r) = ((2 ^ r : Nat) : Int) := by
  have := pow_lt64 h
  rw [wraps_u64s _ (Int.pow_nonneg (by decide)) (by exact_mod_cast this)]
  simp

set_option maxHeartbeats 1000000 in
theorem with_0 (x0 x1 x2 x3 y p : Int) (b r : Nat) (w : World) (hq : (b : Int) / 64 = 0) (hr : (b : Int) % 64 = r) (_hr2 : r < 64) (hp : IntKind.u64.wrap (2 ^ r) = p) (h1 : bits .or .u64 x0 p = y) :
    Calls Try.prog 102 #[.agg #[.int .u64 x0, .int .u64 x1, .int .u64 x2, .int .u64 x3], .int .u8 (b : Int)] w fun e w' => e = .returned (.agg #[.int .u64 y, .int .u64 x1, .int .u64 x2, .int .u64 x3]) ∧ Below w.heap.size w w' := by
  go_enter Try.func102, Try.ntmps102
  go_wp2
  refine bodyPost_ret (v := .agg #[.int .u64 y, .int .u64 x1, .int .u64 x2, .int .u64 x3]) (by simp [results, Try.results102, go_sem]) rfl ?_
  exact ⟨rfl, ((Below.refl _ _).alloc (Nat.le_refl _) _).alloc (by simp) _⟩

set_option maxHeartbeats 1000000 in
theorem with_1 (x0 x1 x2 x3 y p : Int) (b r : Nat) (w : World) (hq : (b : Int) / 64 = 1) (hr : (b : Int) % 64 = r) (_hr2 : r < 64) (hp : IntKind.u64.wrap (2 ^ r) = p) (h1 : bits .or .u64 x1 p = y) :
    Calls Try.prog 102 #[.agg #[.int .u64 x0, .int .u64 x1, .int .u64 x2, .int .u64 x3], .int .u8 (b : Int)] w fun e w' => e = .returned (.agg #[.int .u64 x0, .int .u64 y, .int .u64 x2, .int .u64 x3]) ∧ Below w.heap.size w w' := by
  go_enter Try.func102, Try.ntmps102
  go_wp2
  refine bodyPost_ret (v := .agg #[.int .u64 x0, .int .u64 y, .int .u64 x2, .int .u64 x3]) (by simp [results, Try.results102, go_sem]) rfl ?_
  exact ⟨rfl, ((Below.refl _ _).alloc (Nat.le_refl _) _).alloc (by simp) _⟩

set_option maxHeartbeats 1000000 in
theorem with_2 (x0 x1 x2 x3 y p : Int) (b r : Nat) (w : World) (hq : (b : Int) / 64 = 2) (hr : (b : Int) % 64 = r) (_hr2 : r < 64) (hp : IntKind.u64.wrap (2 ^ r) = p) (h1 : bits .or .u64 x2 p = y) :
    Calls Try.prog 102 #[.agg #[.int .u64 x0, .int .u64 x1, .int .u64 x2, .int .u64 x3], .int .u8 (b : Int)] w fun e w' => e = .returned (.agg #[.int .u64 x0, .int .u64 x1, .int .u64 y, .int .u64 x3]) ∧ Below w.heap.size w w' := by
  go_enter Try.func102, Try.ntmps102
  go_wp2
  refine bodyPost_ret (v := .agg #[.int .u64 x0, .int .u64 x1, .int .u64 y, .int .u64 x3]) (by simp [results, Try.results102, go_sem]) rfl ?_
  exact ⟨rfl, ((Below.refl _ _).alloc (Nat.le_refl _) _).alloc (by simp) _⟩

set_option maxHeartbeats 1000000 in
theorem with_3 (x0 x1 x2 x3 y p : Int) (b r : Nat) (w : World) (hq : (b : Int) / 64 = 3) (hr : (b : Int) % 64 = r) (_hr2 : r < 64) (hp : IntKind.u64.wrap (2 ^ r) = p) (h1 : bits .or .u64 x3 p = y) :
    Calls Try.prog 102 #[.agg #[.int .u64 x0, .int .u64 x1, .int .u64 x2, .int .u64 x3], .int .u8 (b : Int)] w fun e w' => e = .returned (.agg #[.int .u64 x0, .int .u64 x1, .int .u64 x2, .int .u64 y]) ∧ Below w.heap.size w w' := by
  go_enter Try.func102, Try.ntmps102
  go_wp2
  refine bodyPost_ret (v := .agg #[.int .u64 x0, .int .u64 x1, .int .u64 x2, .int .u64 y]) (by simp [results, Try.results102, go_sem]) rfl ?_
  exact ⟨rfl, ((Below.refl _ _).alloc (Nat.le_refl _) _).alloc (by simp) _⟩

theorem with_any (f : Nat → Nat) (b : Nat) (w : World) (hf : Set4 f) (hb : b < 256) :
    Calls Try.prog 102 #[.agg #[.int .u64 (f 0 : Nat), .int .u64 (f 1 : Nat), .int .u64 (f 2 : Nat), .int .u64 (f 3 : Nat)], .int .u8 (b : Int)] w fun e w' => e = .returned (.agg #[.int .u64 ((withB f b) 0 : Nat), .int .u64 ((withB f b) 1 : Nat), .int .u64 ((withB f b) 2 : Nat), .int .u64 ((withB f b) 3 : Nat)]) ∧ Below w.heap.size w w' := by
  have hr : (b : Int) % 64 = (b % 64 : Nat) := by omega
  have hr2 : b % 64 < 64 := Nat.mod_lt _ (by decide)
  have hp := wrap_pow64 hr2
  have h4 : b / 64 = 0 ∨ b / 64 = 1 ∨ b / 64 = 2 ∨ b / 64 = 3 := by omega
  have e : ∀ j, bits .or .u64 (f j : Nat) ((2 ^ (b % 64) : Nat) : Int) = ((f j ||| 2 ^ (b % 64) : Nat) : Int) := fun j => or64 (hf j) (pow_lt64 hr2)
  rcases h4 with h | h | h | h
  · have e1 : withB f b 0 = f 0 ||| 2 ^ (b % 64) ∧ withB f b 1 = f 1 ∧ withB f b 2 = f 2 ∧ withB f b 3 = f 3 := by simp [withB, h]
    rw [e1.1, e1.2.1, e1.2.2.1, e1.2.2.2]
    exact with_0 _ _ _ _ _ _ b _ w (by omega) hr hr2 hp (e 0)
  · have e1 : withB f b 0 = f 0 ∧ withB f b 1 = f 1 ||| 2 ^ (b % 64) ∧ withB f b 2 = f 2 ∧ withB f b 3 = f 3 := by simp [withB, h]
    rw [e1.1, e1.2.1, e1.2.2.1, e1.2.2.2]
    exact with_1 _ _ _ _ _ _ b _ w (by omega) hr hr2 hp (e 1)
  · have e1 : withB f b 0 = f 0 ∧ withB f b 1 = f 1 ∧ withB f b 2 = f 2 ||| 2 ^ (b % 64) ∧ withB f b 3 = f 3 := by simp [withB, h]
    rw [e1.1, e1.2.1, e1.2.2.1, e1.2.2.2]
    exact with_2 _ _ _ _ _ _ b _ w (by omega) hr hr2 hp (e 2)
  · have e1 : withB f b 0 = f 0 ∧ withB f b 1 = f 1 ∧ withB f b 2 = f 2 ∧ withB f b 3 = f 3 ||| 2 ^ (b % 64) := by simp [withB, h]
    rw [e1.1, e1.2.1, e1.2.2.1, e1.2.2.2]
    exact with_3 _ _ _ _ _ _ b _ w (by omega) hr hr2 hp (e 3)
end Go.Proofs.Ytbdjjggaahjjpaa
namespace Go.Proofs.Ytbdjjggaahjjpaa
open Go.RowKit

theorem right_bad {t : ByteArray} {j k : Nat} (e : k = j + 1) (h : k < t.size) (hc : ¬ t[j].toNat < t[k].toNat) : ¬ RightC t := fun hr => by
  subst e
  exact hc (hr j h)
theorem right_step {t : ByteArray} {j k : Nat} (e : k = j + 1) (h : k < t.size) (hr : RightTo t k) (hc : t[j].toNat < t[k].toNat) : RightTo t (k + 1) := by
  subst e
  intro i hi hlt
  by_cases e : i = j
  · subst e; exact hc
  · exact hr i hi (by omega)
theorem below_drewC {a w : World} {B : Nat} (n : Nat) (h : Below B a w) : Below B a (w.drewN n) := ⟨h.os, h.tape, h.output, h.size, h.block⟩
theorem retB {p : Prop} [Decidable p] {x : Bool} (h : x = true ↔ p) : Ending.returned (.bool x) = .returned (.bool (decide p)) := by
  congr 2
  by_cases hp : p
  · rw [h.2 hp, decide_eq_true hp]
  · rw [decide_eq_false hp]
    cases x
    · rfl
    · exact absurd (h.1 rfl) hp

open Classical in
set_option maxRecDepth 100000 in
set_option maxHeartbeats 2000000 in
theorem specRightC_any (t : ByteArray) (w : World) (hs : t.size ≤ maxLen) :
    Calls Try.prog 67 #[.string t] w fun e w' => e = .returned (.bool (decide (RightC t))) ∧ Below w.heap.size w w' := by
  unfold maxLen at hs
  go_enter Try.func67, Try.ntmps67
  go_wp2
  go_loopw [3] (fun i wr => ∃ k : Nat, 1 ≤ k ∧ (k ≤ t.size ∨ k = 1) ∧ i = .int .i64 (k : Int) ∧ Below w.heap.size w wr ∧ RightTo t k) (fun i _ => t.size + 1 - (intOf i).toNat)
  case atStart => exact ⟨1, by omega, Or.inr rfl, rfl, Below.refl _ _, fun i hi h => by omega⟩
  case round =>
    obtain ⟨k, hk1, hk2, rfl, hbel, hR⟩ := hrel
    have HB : Hid (Below w.heap.size w wr) := hbel
    have HR : Hid (RightTo t k) := hR
    clear hbel hR
    by_cases hlt : k < t.size
    · obtain ⟨j, hj⟩ : ∃ j, k = j + 1 := ⟨k - 1, by omega⟩
      have HJ : Hid (k = j + 1) := hj
      have hlt' : (k : Int) < (t.size : Int) := by omega
      have hlt2 : (j : Int) < (t.size : Int) := by omega
      have hlt3 : j < t.size := by omega
      have hj0 : (0 : Int) ≤ (j : Int) := by omega
      have hk0 : (0 : Int) ≤ (k : Int) := by omega
      have wj : IntKind.i64.wrap ((k : Int) - 1) = j := by rw [IntKind.wrap_i64]; omega
      have wj2 : IntKind.i64.wrap (j : Int) = j := by rw [IntKind.wrap_i64]; omega
      have wj3 : (k : Int) - 1 = (j : Int) := by omega
      clear hj hk2
      by_cases hc : t[j].toNat < t[k].toNat
      · have HC : Hid (t[j].toNat < t[k].toNat) := hc
        have hc' : ¬ ((t[k].toNat : Int) ≤ (t[j].toNat : Int)) := by omega
        clear hc
        go_wp2
        go_quiet (fail)
        go_wp2
        go_roundw
        case rel => exact ⟨k + 1, by omega, Or.inl hlt, by go_num, below_drewC _ HB.out, right_step HJ.out hlt HR.out HC.out⟩
        case measure => simp [intOf]; omega
      · have HC : Hid (¬ RightC t) := right_bad HJ.out hlt hc
        have hc' : (t[k].toNat : Int) ≤ (t[j].toNat : Int) := by omega
        clear hc
        go_wp2
        go_quiet (fail)
        go_wp2
        go_ret
        exact ⟨by rw [decide_eq_false HC.out]; rfl, below_drewC _ HB.out⟩
    · have hge : ¬ (k : Int) < (t.size : Int) := by omega
      have HC : Hid (RightC t) := fun i hi => HR.out i hi (by omega)
      go_wp2
      go_ret
      exact ⟨by rw [decide_eq_true HC.out]; rfl, HB.out⟩
end Go.Proofs.Ytbdjjggaahjjpaa
