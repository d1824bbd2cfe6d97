/- What is proved here: impl.readNum and impl.GetNum hand back what numOf tells. Its condition: the variable errors.errorType holds what the program's text lays there. -/
import Derived.Test.YtpdedggnjcnpgaaDoorCodeW
import Derived.Test.YtpdedggnjcnpgaaDoorReadW
namespace Go.Proofs.YtpdedggnjcnpgaaDoor
open Go.RowKit

theorem pow_le (a b : Nat) (h : a ≤ b) : (2 : Int) ^ a ≤ 2 ^ b := by rw [pow_cast, pow_cast]; exact Int.ofNat_le.2 (Nat.pow_le_pow_right (by decide) h)
theorem pow_pos' (a : Nat) : 0 < (2 : Int) ^ a := Int.pow_pos (by decide)
/-- What a reading may come to. -/
def Fine (n : Nat) (r : Int × Int × Int) : Prop := 0 ≤ r.1 ∧ r.1 ≤ 18446744073709551615 ∧ 0 ≤ r.2.1 ∧ r.2.1 ≤ n ∧ ((r.2.2 = 0 ∧ 1 ≤ r.2.1) ∨ ((r.2.2 = 3 ∨ r.2.2 = 4) ∧ r.1 = 0 ∧ r.2.1 = 0))
theorem fine_lastU (i p n : Nat) (u c : Int) (hi : i ≤ 9) (hp : p ≤ n) (hp1 : 1 ≤ p) (hu0 : 0 ≤ u) (hu : u < 2 ^ (7 * i)) (h0 : 0 ≤ c) (h1 : c < 128) : Fine n (lastU i p u c) := by
  unfold lastU
  split
  · exact ⟨by decide, by decide, by decide, by simp, Or.inr ⟨Or.inl rfl, rfl, rfl⟩⟩
  · split
    · exact ⟨by decide, by decide, by decide, by simp, Or.inr ⟨Or.inl rfl, rfl, rfl⟩⟩
    · rename_i h9 _
      have hpp := pow_pos' (7 * i)
      have hm0 : 0 ≤ c * 2 ^ (7 * i) := Int.mul_nonneg h0 (Int.le_of_lt hpp)
      refine ⟨by simp; omega, ?_, by simp, by simp; omega, Or.inl ⟨rfl, by simp; omega⟩⟩
      by_cases hi9 : i = 9
      · subst hi9
        have h63 : (2 : Int) ^ (7 * 9) = 9223372036854775808 := by decide
        have hc1 : c ≤ 1 := by omega
        show u + c * 2 ^ (7 * 9) ≤ _
        rw [h63] at *
        omega
      · have h56 : (2 : Int) ^ 56 = 72057594037927936 := by decide
        have hle := pow_le (7 * i) 56 (by omega)
        have hm : c * 2 ^ (7 * i) ≤ 127 * 2 ^ (7 * i) := Int.mul_le_mul_of_nonneg_right (by omega) (Int.le_of_lt hpp)
        show u + c * 2 ^ (7 * i) ≤ _
        omega
theorem fine_getU (s : ByteArray) : ∀ (f i p : Nat) (u : Int), i + f = 10 → 0 ≤ u → u < 2 ^ (7 * i) → Fine s.size (getU s f i p u)
  | 0, _, _, _, _, _, _ => ⟨by simp [getU], by simp [getU], by simp [getU], by simp [getU], Or.inr ⟨Or.inl rfl, rfl, rfl⟩⟩
  | f + 1, i, p, u, h, hu0, hu => by
    by_cases hp : p < s.size
    · have hb := s[p].toNat_lt
      by_cases hc : (s[p].toNat : Int) < 128
      · rw [getU_last s f i p u hp hc]
        exact fine_lastU i (p + 1) s.size u _ (by omega) (by omega) (by omega) hu0 hu (by omega) hc
      · by_cases h9 : i = 9
        · rw [getU_top s f i p u hp hc h9]
          exact ⟨by decide, by decide, by decide, by simp, Or.inr ⟨Or.inl rfl, rfl, rfl⟩⟩
        · rw [getU_more s f i p u hp hc h9]
          have hpp := pow_pos' (7 * i)
          have hm : (s[p].toNat : Int) % 128 * 2 ^ (7 * i) ≤ 127 * 2 ^ (7 * i) := Int.mul_le_mul_of_nonneg_right (by omega) (Int.le_of_lt hpp)
          have hm0 : 0 ≤ (s[p].toNat : Int) % 128 * 2 ^ (7 * i) := Int.mul_nonneg (by omega) (Int.le_of_lt hpp)
          have he : (2 : Int) ^ (7 * (i + 1)) = 2 ^ (7 * i) * 128 := by rw [Nat.mul_add, Int.pow_add]; rfl
          exact fine_getU s f (i + 1) (p + 1) _ (by omega) (by omega) (by rw [he]; omega)
    · rw [getU_short s f i p u hp]
      exact ⟨by decide, by decide, by decide, by simp, Or.inr ⟨Or.inr rfl, rfl, rfl⟩⟩

/-- What GetNum tells: the number, the place behind it, the code. -/
def numOf (s : ByteArray) (a : Int) : Int × Int × Int :=
  if 8000 < s.size then (0, 0, 2) else if a < 0 then (0, 0, 1) else ((unfoldOf (getU s 10 0 a.toNat 0).1), (getU s 10 0 a.toNat 0).2.1, (getU s 10 0 a.toNat 0).2.2)

theorem codeOf_err (c : Int) (w : World) (hg : w.cell? ⟨0, 0, none⟩ = some (.iface 74 (.agg #[.pointer (some ⟨1, 41, none⟩)]))) :
    Calls Tryd.prog 17 #[errOf c] w fun e w' => e = .returned (.int .i64 c) ∧ Below w.heap.size w w' := by
  by_cases h : c = 0
  · subst h
    exact codeOf_nil w
  · rw [errOf_ne h]
    exact codeOf_hit c w hg

set_option maxHeartbeats 1000000 in
theorem readNum_big (s : ByteArray) (a : Int) (w : World) (hs : s.size ≤ maxLen) (h : 8000 < s.size) :
    Calls Tryd.prog 16 #[.string s, .int .i64 a] w fun e w' => e = .returned (.tuple #[.int .i64 0, .int .i64 0, errOf 2]) ∧ w' = w := by
  unfold maxLen at hs
  go_enter Tryd.func16, Tryd.ntmps16
  go_wp2
  go_ret3
  exact ⟨rfl, rfl⟩
set_option maxHeartbeats 1000000 in
theorem readNum_neg (s : ByteArray) (a : Int) (w : World) (h : s.size ≤ 8000) (ha : a < 0) :
    Calls Tryd.prog 16 #[.string s, .int .i64 a] w fun e w' => e = .returned (.tuple #[.int .i64 0, .int .i64 0, errOf 1]) ∧ w' = w := by
  go_enter Tryd.func16, Tryd.ntmps16
  go_wp2
  go_ret3
  exact ⟨rfl, rfl⟩
set_option maxHeartbeats 1000000 in
theorem readNum_in (s : ByteArray) (a : Nat) (w : World) (h : s.size ≤ 8000) (r : Int × Int × Int) (hr : getU s 10 0 a 0 = r) :
    Calls Tryd.prog 16 #[.string s, .int .i64 a] w fun e w' => e = .returned (.tuple #[.int .i64 (unfoldOf r.1), .int .i64 r.2.1, errOf r.2.2]) ∧ w' = w := by
  have hf : Fine s.size r := by rw [← hr]; exact fine_getU s 10 0 a 0 rfl (by decide) (by decide)
  obtain ⟨hf1, hf2, _⟩ := hf
  have HR : Hid (getU s 10 0 a 0 = r) := hr
  clear hr
  go_enter Tryd.func16, Tryd.ntmps16
  go_wp2_with fail
  refine (read_any s a _ h r HR.out).mono ?_
  rintro e w ⟨rfl, rfl⟩
  go_wp2_with fail
  refine (withSign_any r.1 _ hf1 hf2).mono ?_
  rintro e w ⟨rfl, rfl⟩
  go_wp2
  go_ret3
  exact ⟨rfl, rfl⟩

/-- What readNum hands back. -/
theorem readNum_any (s : ByteArray) (a : Int) (w : World) (hs : s.size ≤ maxLen) :
    Calls Tryd.prog 16 #[.string s, .int .i64 a] w fun e w' => e = .returned (.tuple #[.int .i64 (numOf s a).1, .int .i64 (numOf s a).2.1, errOf (numOf s a).2.2]) ∧ w' = w := by
  unfold numOf
  by_cases h : 8000 < s.size
  · rw [if_pos h]
    exact readNum_big s a w hs h
  · rw [if_neg h]
    by_cases ha : a < 0
    · rw [if_pos ha]
      exact readNum_neg s a w (by omega) ha
    · rw [if_neg ha]
      obtain ⟨n, rfl⟩ := Int.eq_ofNat_of_zero_le (show 0 ≤ a by omega)
      exact readNum_in s n w (by omega) _ rfl

/-- A NumOut. -/
def numOut (r : Int × Int × Int) : Value := .agg #[.int .i64 r.1, .int .i64 r.2.1, .int .i64 r.2.2]
theorem bcell {W w1 : World} (hb : Below W.heap.size W w1) : (∀ b o, b < W.heap.size → w1.cell? ⟨b, o, none⟩ = W.cell? ⟨b, o, none⟩) ∧ (∀ b o, b < W.heap.size → w1.frozen? ⟨b, o, none⟩ = W.frozen? ⟨b, o, none⟩) :=
  ⟨fun b o h => hb.cell (p := ⟨b, o, none⟩) h, fun b o h => hb.frozen (p := ⟨b, o, none⟩) h⟩

theorem unfoldOf_range (u : Int) (h0 : 0 ≤ u) (h1 : u ≤ 18446744073709551615) : -9223372036854775808 ≤ unfoldOf u ∧ unfoldOf u ≤ 9223372036854775807 := by
  unfold unfoldOf
  split <;> omega
/-- What GetNum may come to. -/
theorem numOf_fine (s : ByteArray) (a : Int) : ((numOf s a).2.2 ≠ 0 ∧ (numOf s a).1 = 0 ∧ (numOf s a).2.1 = 0) ∨ ((numOf s a).2.2 = 0 ∧ s.size ≤ 8000 ∧ 0 ≤ (numOf s a).2.1 ∧ (numOf s a).2.1 ≤ s.size ∧ -9223372036854775808 ≤ (numOf s a).1 ∧ (numOf s a).1 ≤ 9223372036854775807) := by
  unfold numOf
  by_cases h : 8000 < s.size
  · rw [if_pos h]; exact Or.inl ⟨by decide, rfl, rfl⟩
  · rw [if_neg h]
    by_cases ha : a < 0
    · rw [if_pos ha]; exact Or.inl ⟨by decide, rfl, rfl⟩
    · rw [if_neg ha]
      obtain ⟨f1, f2, f3, f4, h1 | ⟨hc, h2, h3⟩⟩ := fine_getU s 10 0 a.toNat 0 rfl (by decide) (by decide)
      · have hu := unfoldOf_range _ f1 f2
        exact Or.inr ⟨h1.1, by omega, f3, f4, hu.1, hu.2⟩
      · exact Or.inl ⟨by rcases hc with e | e <;> simp [e], by simp only [h2]; rfl, h3⟩
end Go.Proofs.YtpdedggnjcnpgaaDoor
