/- What is proved here: what the program's functions over vectors and the specification's hand back, each pair by one answer. -/
import Derived.Test.YthnnenbpbkmbhaaDoorQGetBWToFnVecM
import Derived.Test.YthnnenbpbkmbhaaDoorQLwWToNewW
import Derived.Test.YthnnenbpbkmbhaaDoorQImplAndWToFnAndW
import Derived.Test.YthnnenbpbkmbhaaDoorQImplOrWToFnOrW
import Derived.Test.YthnnenbpbkmbhaaDoorQImplXorWToFnXorW
import Derived.Test.YthnnenbpbkmbhaaDoorQImplNotWToFnNotW
import Derived.Test.YthnnenbpbkmbhaaDoorQImplUpWToFnUpW
import Derived.Test.YthnnenbpbkmbhaaDoorQImplAddWToFnAddW
import Derived.Test.YthnnenbpbkmbhaaDoorQImplSubWToFnSubW
import Derived.Test.YthnnenbpbkmbhaaDoorQGetSToGetEndW
import Derived.Test.YthnnenbpbkmbhaaDoorQCopyRowWToImplSetW
import Derived.Test.YthnnenbpbkmbhaaDoorQLowWToCountW
import Derived.Test.YthnnenbpbkmbhaaDoorQVecCopyWToSpecAndW
import Derived.Test.YthnnenbpbkmbhaaDoorQVecOrWToSpecOrW
import Derived.Test.YthnnenbpbkmbhaaDoorQVecXorWToSpecXorW
import Derived.Test.YthnnenbpbkmbhaaDoorQVecCutWToSpecNotW
import Derived.Test.YthnnenbpbkmbhaaDoorQVecAddWToSpecSubW
import Derived.Test.YthnnenbpbkmbhaaDoorQSpecUpW
import Derived.Test.YthnnenbpbkmbhaaDoorQSpecNewW
import Derived.Test.YthnnenbpbkmbhaaDoorQSpecSetW
import Derived.Test.YthnnenbpbkmbhaaDoorQSpecLowW
import Derived.Test.YthnnenbpbkmbhaaDoorQSpecHighW
import Derived.Test.YthnnenbpbkmbhaaDoorQSpecCountW
import Derived.Test.YthnnenbpbkmbhaaDoorQImplRightWToVecM
namespace Go.Proofs.YthnnenbpbkmbhaaDoor
open Go.RowKit

/-- A vector as a value: its bits, its slice, its numbers. -/
structure Vv where
  b : Int
  s : Option Addr
  n : Nat
  c : Nat
  f : Nat → Int
def RowV (W : World) (v : Vv) : Prop := v.n ≤ 1048576 ∧ Row W W.heap.size v.s v.n v.f
def RightV (v : Vv) : Prop := Right v.b v.n v.f
theorem RowV.kept {W W' : World} {v : Vv} (h : RowV W v) (hb : Below W.heap.size W W') : RowV W' v := ⟨h.1, row_since h.2 ⟨hb⟩⟩
theorem same_n {a b : Vv} (ha : RightV a) (hb : RightV b) (h : a.b = b.b) : b.n = a.n := by
  have h1 := ha.2.2.1
  have h2 := hb.2.2.1
  rw [h] at h1
  omega
theorem right_few {a : Vv} (h : RightV a) : a.n ≤ 10 := by have h1 := h.2.2.1; have h2 := h.2.1; omega
/-- What a function of two vectors hands back. -/
def Two (F : Nat) (a b : Vv) (rb : Int) (rn : Nat) (rf : Nat → Int) : Prop := ∀ W, RowV W a → RowV W b → Calls Tryd.prog F #[.agg #[.int .i64 a.b, .slice a.s a.n a.c], .agg #[.int .i64 b.b, .slice b.s b.n b.c]] W fun e w' => NewVec W rb rn rf e w'
def One (F : Nat) (a : Vv) (rb : Int) (rn : Nat) (rf : Nat → Int) : Prop := ∀ W, RowV W a → Calls Tryd.prog F #[.agg #[.int .i64 a.b, .slice a.s a.n a.c]] W fun e w' => NewVec W rb rn rf e w'
theorem and_both (a b : Vv) : ∃ (rb : Int) (rn : Nat) (rf : Nat → Int), rn ≤ 1048576 ∧ Two 9 a b rb rn rf ∧ Two 15 a b rb rn rf ∧ (RightV a → RightV b → a.b = b.b → rb = a.b ∧ rn = a.n ∧ rf = fun i => bits .and .i64 (a.f i) (b.f i)) := by
  by_cases h : RightV a ∧ RightV b ∧ a.b = b.b
  · have hn := same_n h.1 h.2.1 h.2.2
    have hf := right_few h.1
    have h2 : Right a.b a.n b.f := by have := h.2.1; unfold RightV at this; rw [hn, ← h.2.2] at this; exact this
    refine ⟨a.b, a.n, fun i => bits .and .i64 (a.f i) (b.f i), by omega, fun W ha hb => ?_, fun W ha hb => ?_, fun _ _ _ => ⟨rfl, rfl, rfl⟩⟩
    · have hb2 := hb.2
      rw [hn] at hb2
      rw [← h.2.2, hn]
      exact implVecAnd_yes a.b a.s b.s a.n a.c b.c a.f b.f W ha.1 ha.2 hb2 h.1 h2
    · have hb2 := hb.2
      rw [hn] at hb2
      rw [← h.2.2, hn]
      exact specVecAnd_yes a.b a.s b.s a.n a.c b.c a.f b.f W ha.1 ha.2 hb2 h.1 h2
  · exact ⟨0, 0, fun _ => 0, by omega, fun W ha hb => implVecAnd_no a.b b.b a.s b.s a.n b.n a.c b.c a.f b.f W ha.1 hb.1 ha.2 hb.2 h, fun W ha hb => specVecAnd_no a.b b.b a.s b.s a.n b.n a.c b.c a.f b.f W ha.1 hb.1 ha.2 hb.2 h, fun h1 h2 h3 => absurd ⟨h1, h2, h3⟩ h⟩
theorem or_both (a b : Vv) : ∃ (rb : Int) (rn : Nat) (rf : Nat → Int), rn ≤ 1048576 ∧ Two 10 a b rb rn rf ∧ Two 16 a b rb rn rf ∧ (RightV a → RightV b → a.b = b.b → rb = a.b ∧ rn = a.n ∧ rf = fun i => bits .or .i64 (a.f i) (b.f i)) := by
  by_cases h : RightV a ∧ RightV b ∧ a.b = b.b
  · have hn := same_n h.1 h.2.1 h.2.2
    have hf := right_few h.1
    have h2 : Right a.b a.n b.f := by have := h.2.1; unfold RightV at this; rw [hn, ← h.2.2] at this; exact this
    refine ⟨a.b, a.n, fun i => bits .or .i64 (a.f i) (b.f i), by omega, fun W ha hb => ?_, fun W ha hb => ?_, fun _ _ _ => ⟨rfl, rfl, rfl⟩⟩
    · have hb2 := hb.2
      rw [hn] at hb2
      rw [← h.2.2, hn]
      exact implVecOr_yes a.b a.s b.s a.n a.c b.c a.f b.f W ha.1 ha.2 hb2 h.1 h2
    · have hb2 := hb.2
      rw [hn] at hb2
      rw [← h.2.2, hn]
      exact specVecOr_yes a.b a.s b.s a.n a.c b.c a.f b.f W ha.1 ha.2 hb2 h.1 h2
  · exact ⟨0, 0, fun _ => 0, by omega, fun W ha hb => implVecOr_no a.b b.b a.s b.s a.n b.n a.c b.c a.f b.f W ha.1 hb.1 ha.2 hb.2 h, fun W ha hb => specVecOr_no a.b b.b a.s b.s a.n b.n a.c b.c a.f b.f W ha.1 hb.1 ha.2 hb.2 h, fun h1 h2 h3 => absurd ⟨h1, h2, h3⟩ h⟩
theorem xor_both (a b : Vv) : ∃ (rb : Int) (rn : Nat) (rf : Nat → Int), rn ≤ 1048576 ∧ Two 11 a b rb rn rf ∧ Two 17 a b rb rn rf ∧ (RightV a → RightV b → a.b = b.b → rb = a.b ∧ rn = a.n ∧ rf = fun i => bits .xor .i64 (a.f i) (b.f i)) := by
  by_cases h : RightV a ∧ RightV b ∧ a.b = b.b
  · have hn := same_n h.1 h.2.1 h.2.2
    have hf := right_few h.1
    have h2 : Right a.b a.n b.f := by have := h.2.1; unfold RightV at this; rw [hn, ← h.2.2] at this; exact this
    refine ⟨a.b, a.n, fun i => bits .xor .i64 (a.f i) (b.f i), by omega, fun W ha hb => ?_, fun W ha hb => ?_, fun _ _ _ => ⟨rfl, rfl, rfl⟩⟩
    · have hb2 := hb.2
      rw [hn] at hb2
      rw [← h.2.2, hn]
      exact implVecXor_yes a.b a.s b.s a.n a.c b.c a.f b.f W ha.1 ha.2 hb2 h.1 h2
    · have hb2 := hb.2
      rw [hn] at hb2
      rw [← h.2.2, hn]
      exact specVecXor_yes a.b a.s b.s a.n a.c b.c a.f b.f W ha.1 ha.2 hb2 h.1 h2
  · exact ⟨0, 0, fun _ => 0, by omega, fun W ha hb => implVecXor_no a.b b.b a.s b.s a.n b.n a.c b.c a.f b.f W ha.1 hb.1 ha.2 hb.2 h, fun W ha hb => specVecXor_no a.b b.b a.s b.s a.n b.n a.c b.c a.f b.f W ha.1 hb.1 ha.2 hb.2 h, fun h1 h2 h3 => absurd ⟨h1, h2, h3⟩ h⟩
theorem not_both (a : Vv) : ∃ (rb : Int) (rn : Nat) (rf : Nat → Int), rn ≤ 1048576 ∧ One 12 a rb rn rf ∧ One 18 a rb rn rf ∧ (RightV a → rb = a.b ∧ rn = a.n ∧ rf = cutF a.b a.n (notF a.f)) := by
  by_cases h : RightV a
  · have hf := right_few h
    exact ⟨a.b, a.n, cutF a.b a.n (notF a.f), by omega, fun W ha => implVecNot_yes a.b a.s a.n a.c a.f W ha.1 ha.2 h, fun W ha => specVecNot_yes a.b a.s a.n a.c a.f W ha.1 ha.2 h, fun _ => ⟨rfl, rfl, rfl⟩⟩
  · exact ⟨0, 0, fun _ => 0, by omega, fun W ha => implVecNot_no a.b a.s a.n a.c a.f W ha.1 ha.2 h, fun W ha => specVecNot_no a.b a.s a.n a.c a.f W ha.1 ha.2 h, fun h1 => absurd h1 h⟩
theorem up_both (a : Vv) : ∃ (rb : Int) (rn : Nat) (rf : Nat → Int), rn ≤ 1048576 ∧ One 24 a rb rn rf ∧ One 25 a rb rn rf ∧ (RightV a → rb = a.b ∧ rn = a.n ∧ rf = cutF a.b a.n (sumF 0 a.f a.f)) := by
  by_cases h : RightV a
  · have hf := right_few h
    exact ⟨a.b, a.n, cutF a.b a.n (sumF 0 a.f a.f), by omega, fun W ha => implVecUp_yes a.b a.s a.n a.c a.f W ha.1 ha.2 h, fun W ha => specVecUp_yes a.b a.s a.n a.c a.f W ha.1 ha.2 h, fun _ => ⟨rfl, rfl, rfl⟩⟩
  · exact ⟨0, 0, fun _ => 0, by omega, fun W ha => implVecUp_no a.b a.s a.n a.c a.f W ha.1 ha.2 h, fun W ha => specVecUp_no a.b a.s a.n a.c a.f W ha.1 ha.2 h, fun h1 => absurd h1 h⟩
theorem sub_both (a b : Vv) : ∃ (rb : Int) (rn : Nat) (rf : Nat → Int), rn ≤ 1048576 ∧ Two 22 a b rb rn rf ∧ Two 23 a b rb rn rf ∧ (RightV a → RightV b → a.b = b.b → rb = a.b ∧ rn = a.n ∧ rf = cutF a.b a.n (sumF 1 a.f (cutF a.b a.n (notF b.f)))) := by
  by_cases h : RightV a ∧ RightV b ∧ a.b = b.b
  · have hn := same_n h.1 h.2.1 h.2.2
    have hf := right_few h.1
    have h2 : Right a.b a.n b.f := by have := h.2.1; unfold RightV at this; rw [hn, ← h.2.2] at this; exact this
    refine ⟨a.b, a.n, cutF a.b a.n (sumF 1 a.f (cutF a.b a.n (notF b.f))), by omega, fun W ha hb => ?_, fun W ha hb => ?_, fun _ _ _ => ⟨rfl, rfl, rfl⟩⟩
    · have hb2 := hb.2
      rw [hn] at hb2
      rw [← h.2.2, hn]
      exact implVecSub_yes a.b a.s b.s a.n a.c b.c a.f b.f W ha.1 ha.2 hb2 h.1 h2
    · have hb2 := hb.2
      rw [hn] at hb2
      rw [← h.2.2, hn]
      exact specVecSub_yes a.b a.s b.s a.n a.c b.c a.f b.f W ha.1 ha.2 hb2 h.1 h2
  · exact ⟨0, 0, fun _ => 0, by omega, fun W ha hb => implVecSub_no a.b b.b a.s b.s a.n b.n a.c b.c a.f b.f W ha.1 hb.1 ha.2 hb.2 h, fun W ha hb => specVecSub_no a.b b.b a.s b.s a.n b.n a.c b.c a.f b.f W ha.1 hb.1 ha.2 hb.2 h, fun h1 h2 h3 => absurd ⟨h1, h2, h3⟩ h⟩
theorem add_yes (a b : Vv) (h : RightV a ∧ RightV b ∧ a.b = b.b) : Two 36 a b a.b a.n (cutF a.b a.n (sumF 0 a.f b.f)) := fun W ha hb => by
  have hn := same_n h.1 h.2.1 h.2.2
  have h2 : Right a.b a.n b.f := by have := h.2.1; unfold RightV at this; rw [hn, ← h.2.2] at this; exact this
  have hb2 := hb.2
  rw [hn] at hb2
  rw [← h.2.2, hn]
  exact implVecAdd_yes a.b a.s b.s a.n a.c b.c a.f b.f W ha.1 ha.2 hb2 h.1 h2
theorem new_both (x : Int) : ∃ (rb : Int) (rn : Nat) (rf : Nat → Int), rn ≤ 1048576 ∧ (∀ W, Calls Tryd.prog 20 #[.int .i64 x] W fun e w' => NewVec W rb rn rf e w') ∧ (∀ W, Calls Tryd.prog 21 #[.int .i64 x] W fun e w' => NewVec W rb rn rf e w') := by
  by_cases h : 1 ≤ x ∧ x ≤ 320
  · obtain ⟨m, hm⟩ := Int.eq_ofNat_of_zero_le (show 0 ≤ (x + 31) / 32 from by omega)
    exact ⟨x, m, fun _ => 0, by omega, fun W => implNew_yes x m W h.1 h.2 hm.symm, fun W => specNew_yes x m W h.1 h.2 hm.symm⟩
  · exact ⟨0, 0, fun _ => 0, by omega, fun W => implNew_no x W h, fun W => specNew_no x W h⟩
theorem set_both (a : Vv) (i : Int) (on : Bool) : ∃ (rb : Int) (rn : Nat) (rf : Nat → Int), rn ≤ 1048576 ∧ (∀ W, RowV W a → Calls Tryd.prog 13 #[.agg #[.int .i64 a.b, .slice a.s a.n a.c], .int .i64 i, .bool on] W fun e w' => NewVec W rb rn rf e w') ∧ (∀ W, RowV W a → Calls Tryd.prog 19 #[.agg #[.int .i64 a.b, .slice a.s a.n a.c], .int .i64 i, .bool on] W fun e w' => NewVec W rb rn rf e w') ∧ (0 < rb → GotB rb rn rf i on) := by
  by_cases h : HasBit a.b a.n a.f i
  · obtain ⟨hR, hi0, hi1⟩ := h
    obtain ⟨k, hk⟩ := Int.eq_ofNat_of_zero_le (show 0 ≤ i / 32 from by omega)
    obtain ⟨q, hq⟩ := Int.eq_ofNat_of_zero_le (show 0 ≤ i % 32 from by omega)
    have hkn : k < a.n := by have := hR.2.2.1; omega
    have hq2 : q < 32 := by omega
    have hn := hR.2.2.1
    have hb := hR.2.1
    refine ⟨a.b, a.n, setF a.f k q on, by omega, fun W ha => implSet_yes a.b a.s a.n a.c k q a.f i on W ha.1 ha.2 ⟨hR, hi0, hi1⟩ hk hq hkn hq2, fun W ha => specSet_yes a.b a.s a.n a.c k q a.f i on W ha.1 ha.2 ⟨hR, hi0, hi1⟩ hk hq hkn hq2, fun _ => ?_⟩
    obtain ⟨h1, h2⟩ := set_right on hR hi1 hk hq
    refine ⟨fun _ => ?_, fun h3 => absurd ⟨h1, hi0, hi1⟩ h3⟩
    rw [hk, hq, Int.toNat_natCast, Int.toNat_natCast]
    exact h2.symm
  · exact ⟨0, 0, fun _ => 0, by omega, fun W ha => implSet_no a.b a.s a.n a.c a.f i on W ha.1 ha.2 h, fun W ha => specSet_no a.b a.s a.n a.c a.f i on W ha.1 ha.2 h, fun h0 => absurd h0 (by decide)⟩
end Go.Proofs.YthnnenbpbkmbhaaDoor
