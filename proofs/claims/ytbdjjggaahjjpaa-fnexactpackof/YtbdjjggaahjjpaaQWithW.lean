/- What is proved here: the set with one byte more, as the program makes it; nothing that was there turns. -/
import Derived.Test.YtbdjjggaahjjpaaQSet64M
import Derived.WalkKit
import Derived.Below
namespace Go.Proofs.Ytbdjjggaahjjpaa
open Go.RowKit

/-- A set as a value. -/
def setV (f : Nat → Nat) : Value := .agg #[.int .u64 (f 0 : Nat), .int .u64 (f 1 : Nat), .int .u64 (f 2 : Nat), .int .u64 (f 3 : Nat)]
theorem wrap_pow64 {r : Nat} (h : r < 64) : IntKind.u64.wrap (2 ^ r) = ((2 ^ r : Nat) : Int) := by
  have := pow_lt64 h
  rw [wraps_u64s _ (Int.pow_nonneg (by decide)) (by exact_mod_cast this)]
  simp

set_option maxHeartbeats 1000000 in
theorem with_0 (x0 x1 x2 x3 y p : Int) (b r : Nat) (w : World) (hq : (b : Int) / 64 = 0) (hr : (b : Int) % 64 = r) (_hr2 : r < 64) (hp : IntKind.u64.wrap (2 ^ r) = p) (h1 : bits .or .u64 x0 p = y) :
    Calls Try.prog 102 #[.agg #[.int .u64 x0, .int .u64 x1, .int .u64 x2, .int .u64 x3], .int .u8 (b : Int)] w fun e w' => e = .returned (.agg #[.int .u64 y, .int .u64 x1, .int .u64 x2, .int .u64 x3]) ∧ Below w.heap.size w w' := by
  go_enter Try.func102, Try.ntmps102
  go_wp2
  refine bodyPost_ret (v := .agg #[.int .u64 y, .int .u64 x1, .int .u64 x2, .int .u64 x3]) (by simp [results, Try.results102, go_sem]) rfl ?_
  exact ⟨rfl, ((Below.refl _ _).alloc (Nat.le_refl _) _).alloc (by simp) _⟩

set_option maxHeartbeats 1000000 in
theorem with_1 (x0 x1 x2 x3 y p : Int) (b r : Nat) (w : World) (hq : (b : Int) / 64 = 1) (hr : (b : Int) % 64 = r) (_hr2 : r < 64) (hp : IntKind.u64.wrap (2 ^ r) = p) (h1 : bits .or .u64 x1 p = y) :
    Calls Try.prog 102 #[.agg #[.int .u64 x0, .int .u64 x1, .int .u64 x2, .int .u64 x3], .int .u8 (b : Int)] w fun e w' => e = .returned (.agg #[.int .u64 x0, .int .u64 y, .int .u64 x2, .int .u64 x3]) ∧ Below w.heap.size w w' := by
  go_enter Try.func102, Try.ntmps102
  go_wp2
  refine bodyPost_ret (v := .agg #[.int .u64 x0, .int .u64 y, .int .u64 x2, .int .u64 x3]) (by simp [results, Try.results102, go_sem]) rfl ?_
  exact ⟨rfl, ((Below.refl _ _).alloc (Nat.le_refl _) _).alloc (by simp) _⟩

set_option maxHeartbeats 1000000 in
theorem with_2 (x0 x1 x2 x3 y p : Int) (b r : Nat) (w : World) (hq : (b : Int) / 64 = 2) (hr : (b : Int) % 64 = r) (_hr2 : r < 64) (hp : IntKind.u64.wrap (2 ^ r) = p) (h1 : bits .or .u64 x2 p = y) :
    Calls Try.prog 102 #[.agg #[.int .u64 x0, .int .u64 x1, .int .u64 x2, .int .u64 x3], .int .u8 (b : Int)] w fun e w' => e = .returned (.agg #[.int .u64 x0, .int .u64 x1, .int .u64 y, .int .u64 x3]) ∧ Below w.heap.size w w' := by
  go_enter Try.func102, Try.ntmps102
  go_wp2
  refine bodyPost_ret (v := .agg #[.int .u64 x0, .int .u64 x1, .int .u64 y, .int .u64 x3]) (by simp [results, Try.results102, go_sem]) rfl ?_
  exact ⟨rfl, ((Below.refl _ _).alloc (Nat.le_refl _) _).alloc (by simp) _⟩

set_option maxHeartbeats 1000000 in
theorem with_3 (x0 x1 x2 x3 y p : Int) (b r : Nat) (w : World) (hq : (b : Int) / 64 = 3) (hr : (b : Int) % 64 = r) (_hr2 : r < 64) (hp : IntKind.u64.wrap (2 ^ r) = p) (h1 : bits .or .u64 x3 p = y) :
    Calls Try.prog 102 #[.agg #[.int .u64 x0, .int .u64 x1, .int .u64 x2, .int .u64 x3], .int .u8 (b : Int)] w fun e w' => e = .returned (.agg #[.int .u64 x0, .int .u64 x1, .int .u64 x2, .int .u64 y]) ∧ Below w.heap.size w w' := by
  go_enter Try.func102, Try.ntmps102
  go_wp2
  refine bodyPost_ret (v := .agg #[.int .u64 x0, .int .u64 x1, .int .u64 x2, .int .u64 y]) (by simp [results, Try.results102, go_sem]) rfl ?_
  exact ⟨rfl, ((Below.refl _ _).alloc (Nat.le_refl _) _).alloc (by simp) _⟩

theorem with_any (f : Nat → Nat) (b : Nat) (w : World) (hf : Set4 f) (hb : b < 256) :
    Calls Try.prog 102 #[.agg #[.int .u64 (f 0 : Nat), .int .u64 (f 1 : Nat), .int .u64 (f 2 : Nat), .int .u64 (f 3 : Nat)], .int .u8 (b : Int)] w fun e w' => e = .returned (.agg #[.int .u64 ((withB f b) 0 : Nat), .int .u64 ((withB f b) 1 : Nat), .int .u64 ((withB f b) 2 : Nat), .int .u64 ((withB f b) 3 : Nat)]) ∧ Below w.heap.size w w' := by
  have hr : (b : Int) % 64 = (b % 64 : Nat) := by omega
  have hr2 : b % 64 < 64 := Nat.mod_lt _ (by decide)
  have hp := wrap_pow64 hr2
  have h4 : b / 64 = 0 ∨ b / 64 = 1 ∨ b / 64 = 2 ∨ b / 64 = 3 := by omega
  have e : ∀ j, bits .or .u64 (f j : Nat) ((2 ^ (b % 64) : Nat) : Int) = ((f j ||| 2 ^ (b % 64) : Nat) : Int) := fun j => or64 (hf j) (pow_lt64 hr2)
  rcases h4 with h | h | h | h
  · have e1 : withB f b 0 = f 0 ||| 2 ^ (b % 64) ∧ withB f b 1 = f 1 ∧ withB f b 2 = f 2 ∧ withB f b 3 = f 3 := by simp [withB, h]
    rw [e1.1, e1.2.1, e1.2.2.1, e1.2.2.2]
    exact with_0 _ _ _ _ _ _ b _ w (by omega) hr hr2 hp (e 0)
  · have e1 : withB f b 0 = f 0 ∧ withB f b 1 = f 1 ||| 2 ^ (b % 64) ∧ withB f b 2 = f 2 ∧ withB f b 3 = f 3 := by simp [withB, h]
    rw [e1.1, e1.2.1, e1.2.2.1, e1.2.2.2]
    exact with_1 _ _ _ _ _ _ b _ w (by omega) hr hr2 hp (e 1)
  · have e1 : withB f b 0 = f 0 ∧ withB f b 1 = f 1 ∧ withB f b 2 = f 2 ||| 2 ^ (b % 64) ∧ withB f b 3 = f 3 := by simp [withB, h]
    rw [e1.1, e1.2.1, e1.2.2.1, e1.2.2.2]
    exact with_2 _ _ _ _ _ _ b _ w (by omega) hr hr2 hp (e 2)
  · have e1 : withB f b 0 = f 0 ∧ withB f b 1 = f 1 ∧ withB f b 2 = f 2 ∧ withB f b 3 = f 3 ||| 2 ^ (b % 64) := by simp [withB, h]
    rw [e1.1, e1.2.1, e1.2.2.1, e1.2.2.2]
    exact with_3 _ _ _ _ _ _ b _ w (by omega) hr hr2 hp (e 3)
end Go.Proofs.Ytbdjjggaahjjpaa
