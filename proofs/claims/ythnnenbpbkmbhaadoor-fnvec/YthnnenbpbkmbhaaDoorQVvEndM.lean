/- What is proved here: of right vectors of as many bits what is put together is right, bit by bit. -/
import Derived.Test.YthnnenbpbkmbhaaDoorQVvW
namespace Go.Proofs.YthnnenbpbkmbhaaDoor
open Go.RowKit

theorem right_congr {b : Int} {n : Nat} {f g : Nat → Int} (h : Right b n f) (he : ∀ i, i < n → f i = g i) : Right b n g := by
  have hn : n - 1 < n := by have := h.2.2.1; have := h.1; omega
  refine ⟨h.1, h.2.1, h.2.2.1, fun i hi => ?_, ?_⟩
  · rw [← he i hi]
    exact h.2.2.2.1 i hi
  · rw [← he _ hn]
    exact h.2.2.2.2
theorem bits_u32_range (op : BinOp) (x y : Int) : 0 ≤ bits op .u32 x y ∧ bits op .u32 x y ≤ 4294967295 := by
  show 0 ≤ IntKind.u32.wrap _ ∧ IntKind.u32.wrap _ ≤ 4294967295
  rw [IntKind.wrap_u32]
  omega
theorem and_right {b : Int} {n : Nat} {f g : Nat → Int} (h1 : Right b n f) (h2 : Right b n g) : Right b n (fun i => bits .and .i64 (f i) (g i)) :=
  right_congr (cut_right h1.1 h1.2.1 h1.2.2.1 (fun _ _ => bits_u32_range _ _ _)) (wordsAnd h1 h2)
theorem or_right {b : Int} {n : Nat} {f g : Nat → Int} (h1 : Right b n f) (h2 : Right b n g) : Right b n (fun i => bits .or .i64 (f i) (g i)) :=
  right_congr (cut_right h1.1 h1.2.1 h1.2.2.1 (fun _ _ => bits_u32_range _ _ _)) (wordsOr h1 h2)
theorem xor_right {b : Int} {n : Nat} {f g : Nat → Int} (h1 : Right b n f) (h2 : Right b n g) : Right b n (fun i => bits .xor .i64 (f i) (g i)) :=
  right_congr (cut_right h1.1 h1.2.1 h1.2.2.1 (fun _ _ => bits_u32_range _ _ _)) (wordsXor h1 h2)
theorem not_right {b : Int} {n : Nat} {f : Nat → Int} (h : Right b n f) : Right b n (cutF b n (notF f)) :=
  cut_right h.1 h.2.1 h.2.2.1 (fun i hi => by have := h.2.2.2.1 i hi; unfold notF; omega)
theorem up_right {b : Int} {n : Nat} {f : Nat → Int} (h : Right b n f) : Right b n (cutF b n (sumF 0 f f)) :=
  cut_right h.1 h.2.1 h.2.2.1 (fun i _ => by unfold sumF; omega)
theorem got_right {b : Int} {n k : Nat} {f : Nat → Int} (h : Right b n f) (hk : (k : Int) < b) : GotB b n f (k : Int) (bitOn f k) := by
  refine ⟨fun _ => ?_, fun h2 => absurd ⟨h, by omega, hk⟩ h2⟩
  rw [← getB_on h k hk]
  congr 1
theorem got_before {b : Int} {n : Nat} {f : Nat → Int} : GotB b n f (-1) false :=
  ⟨fun h => absurd h.2.1 (by decide), fun _ => rfl⟩
/-- The places of two right vectors of as many bits. -/
structure Pair (a b : Vv) : Prop where
  ra : RightV a
  rb : RightV b
  same : a.b = b.b
theorem Pair.rb' {a b : Vv} (h : Pair a b) : Right a.b a.n b.f := by
  have := h.rb
  unfold RightV at this
  rw [same_n h.ra h.rb h.same, ← h.same] at this
  exact this
theorem Pair.and {a b x : Vv} (h : Pair a b) (hx : x.b = a.b ∧ x.n = a.n ∧ x.f = fun i => bits .and .i64 (a.f i) (b.f i)) (k : Nat) (hk : (k : Int) < a.b) : GotB x.b x.n x.f (k : Int) (bitOn a.f k && bitOn b.f k) := by
  rw [hx.1, hx.2.1, hx.2.2, ← on_and h.ra h.rb' hk]
  exact got_right (and_right h.ra h.rb') hk
theorem Pair.or {a b x : Vv} (h : Pair a b) (hx : x.b = a.b ∧ x.n = a.n ∧ x.f = fun i => bits .or .i64 (a.f i) (b.f i)) (k : Nat) (hk : (k : Int) < a.b) : GotB x.b x.n x.f (k : Int) (bitOn a.f k || bitOn b.f k) := by
  rw [hx.1, hx.2.1, hx.2.2, ← on_or h.ra h.rb' hk]
  exact got_right (or_right h.ra h.rb') hk
theorem Pair.xor {a b x : Vv} (h : Pair a b) (hx : x.b = a.b ∧ x.n = a.n ∧ x.f = fun i => bits .xor .i64 (a.f i) (b.f i)) (k : Nat) (hk : (k : Int) < a.b) : GotB x.b x.n x.f (k : Int) (bitOn a.f k != bitOn b.f k) := by
  rw [hx.1, hx.2.1, hx.2.2, ← on_xor h.ra h.rb' hk]
  exact got_right (xor_right h.ra h.rb') hk
theorem Pair.not {a b x : Vv} (h : Pair a b) (hx : x.b = a.b ∧ x.n = a.n ∧ x.f = cutF a.b a.n (notF a.f)) (k : Nat) (hk : (k : Int) < a.b) : GotB x.b x.n x.f (k : Int) (!bitOn a.f k) := by
  rw [hx.1, hx.2.1, hx.2.2, ← on_not h.ra hk]
  exact got_right (not_right h.ra) hk
/-- What stands one bit below. -/
def lowB (f : Nat → Int) (k : Nat) : Bool := if k = 0 then false else bitOn f (k - 1)
theorem Pair.up {a b : Vv} (h : Pair a b) (k : Nat) (hk : (k : Int) < a.b) : GotB a.b a.n (cutF a.b a.n (sumF 0 a.f a.f)) (k : Int) (lowB a.f k) := by
  unfold lowB
  rw [← on_up h.ra hk]
  exact got_right (up_right h.ra) hk
theorem Pair.low {a b : Vv} (h : Pair a b) (k : Nat) (hk : (k : Int) < a.b) : GotB a.b a.n a.f ((k : Int) - 1) (lowB a.f k) := by
  unfold lowB
  by_cases e : k = 0
  · subst e
    rw [if_pos rfl]
    exact got_before
  · rw [if_neg e]
    have e1 : (k : Int) - 1 = ((k - 1 : Nat) : Int) := by omega
    rw [e1]
    exact got_right h.ra (by omega)
theorem Pair.count {a b x z : Vv} (h : Pair a b) (hx : x.b = a.b ∧ x.n = a.n ∧ x.f = fun i => bits .and .i64 (a.f i) (b.f i)) (hz : z.b = a.b ∧ z.n = a.n ∧ z.f = fun i => bits .xor .i64 (a.f i) (b.f i)) : (bitsL a.f a.b.toNat).length + (bitsL b.f b.b.toNat).length = (bitsL z.f z.b.toNat).length + 2 * (bitsL x.f x.b.toNat).length := by
  rw [hx.1, hx.2.2, hz.1, hz.2.2, ← h.same]
  have h0 := h.ra.1
  exact count_pair _ _ _ _ _ (fun i hi => on_and h.ra h.rb' (by omega)) (fun i hi => on_xor h.ra h.rb' (by omega))
theorem Pair.rx {a b x : Vv} (h : Pair a b) (hx : x.b = a.b ∧ x.n = a.n ∧ x.f = fun i => bits .and .i64 (a.f i) (b.f i)) : RightV x := by
  unfold RightV
  rw [hx.1, hx.2.1, hx.2.2]
  exact and_right h.ra h.rb'
theorem Pair.rz {a b z : Vv} (h : Pair a b) (hz : z.b = a.b ∧ z.n = a.n ∧ z.f = fun i => bits .xor .i64 (a.f i) (b.f i)) : RightV z := by
  unfold RightV
  rw [hz.1, hz.2.1, hz.2.2]
  exact xor_right h.ra h.rb'
end Go.Proofs.YthnnenbpbkmbhaaDoor
