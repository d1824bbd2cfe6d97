/- What is proved here: the program closes places; the world stays. -/
import Derived.Test.YthnnenbpbkmbhaaQClassMToCloM
import Derived.Test.YthnnenbpbkmbhaaQRowOfW
namespace Go.Proofs.Ythnnenbpbkmbhaa
open Go.RowKit

set_option maxRecDepth 100000 in
set_option maxHeartbeats 4000000 in
theorem closed_any (b a sk n : Nat) (S P : Nat → Bool) (w : World) (hn : n ≤ 60) (hc : w.cell? ⟨b, 1, none⟩ = some (.int .u64 (sk : Int))) (hlt : b < w.heap.size) (hsk : IsBits sk S) (hS : ∀ j, n < j → S j = false) (ha : IsBits a P) (hP : ∀ j, n < j → P j = false) :
    Calls Try.prog 98 #[.pointer (some ⟨b, 0, none⟩), .int .u64 (a : Int)] w fun e w' => ∃ x : Nat, e = .returned (.int .u64 (x : Int)) ∧ IsBits x (cloB S P) ∧ w' = w := by
  have HSK : Hid (IsBits sk S ∧ ∀ j, n < j → S j = false) := ⟨hsk, hS⟩
  have HP : Hid (IsBits a P ∧ ∀ j, n < j → P j = false) := ⟨ha, hP⟩
  clear hsk hS ha hP
  go_enter Try.func98, Try.ntmps98
  go_wp2_with fail
  go_loopw [1, 5] (fun av mv wr => ∃ (x m : Nat) (A : Nat → Bool), av = .int .u64 (x : Int) ∧ mv = .int .u64 (m : Int) ∧ wr = w ∧ IsBits x A ∧ (∀ j, P j = true → A j = true) ∧ (∀ j, A j = true → cloB S P j = true) ∧ (m = 0 → ∀ j, A j = true → S (j + 1) = true → A (j + 1) = true)) (fun av mv _ => 2 * (2 ^ 62 - (intOf av).toNat) + min 1 (intOf mv).toNat)
  case atStart => exact ⟨a, a, P, rfl, rfl, rfl, HP.out.1, fun _ h => h, fun _ h => cloB_of h, fun h j hj => by rw [HP.out.1.none.1 h] at hj; cases hj⟩
  case round =>
    obtain ⟨x, m, A, rfl, rfl, rfl, hx, h1, h2, h3⟩ := hrel
    have HX : Hid (IsBits x A) := hx
    by_cases hm : m = 0
    · have hmb : ((m : Int) != 0) = false := by simp [hm]
      have HE : Hid (∀ j, A j = cloB S P j) := clo_done h1 h2 (h3 hm)
      clear hx h1 h2 h3
      go_wp2_with fail
      go_ret
      exact ⟨x, rfl, HX.out.congr HE.out, rfl⟩
    · have hmb : ((m : Int) != 0) = true := by simpa using hm
      have hA : ∀ j, n < j → A j = false := fun j hj => by
        cases h : A j with
        | false => rfl
        | true => (have h9 := h2 j h; rw [clo_le HSK.out.2 HP.out.2 j hj] at h9; cases h9)
      have hxl := lt_pow_of hx hA
      have hx2 : x * 2 < 2 ^ 62 := by
        have : 2 ^ (n + 1) ≤ 2 ^ 61 := Nat.pow_le_pow_right (by decide) (by omega)
        omega
      have hy := (bits_shl hx (fun j hj => hA j (by omega))).and HSK.out.1
      have hm2 := bits_andNot hy hx
      have hx3 := hx.or hm2
      have e1 : bits .and .u64 ((x : Int) * 2) (sk : Int) = ((x * 2 &&& sk : Nat) : Int) := and64 (a := x * 2) (by omega) HSK.out.1.lt
      have e2 : bits .andNot .u64 ((x * 2 &&& sk : Nat) : Int) (x : Int) = (((x * 2 &&& sk) ^^^ ((x * 2 &&& sk) &&& x) : Nat) : Int) := andNot64 hy.lt
      have e3 : bits .or .u64 (x : Int) (((x * 2 &&& sk) ^^^ ((x * 2 &&& sk) &&& x) : Nat) : Int) = ((x ||| ((x * 2 &&& sk) ^^^ ((x * 2 &&& sk) &&& x)) : Nat) : Int) := or64 hx.lt hm2.lt
      generalize x * 2 &&& sk = y at *
      generalize y ^^^ (y &&& x) = m2 at *
      have hle : x ≤ x ||| m2 := Nat.left_le_or
      have hne : m2 ≠ 0 → x ≠ x ||| m2 := fun h9 he => h9 (hm2.none.2 (fun j => by
        have h8 := hx3.bit j
        rw [← he, hx.bit j] at h8
        cases ha : A j with
        | true => simp
        | false => rw [ha] at h8; simpa using h8.symm))
      generalize x ||| m2 = x3 at *
      have hA3 : ∀ j, (A j || (((decide (1 ≤ j) && A (j - 1)) && S j) && !A j)) = true → cloB S P j = true := fun j h => by
        rw [Bool.or_eq_true] at h
        rcases h with h | h
        · exact h2 j h
        · simp only [Bool.and_eq_true, decide_eq_true_eq] at h
          obtain ⟨⟨⟨g1, g2⟩, g3⟩, _⟩ := h
          obtain ⟨i, rfl⟩ : ∃ i, j = i + 1 := ⟨j - 1, by omega⟩
          unfold cloB
          rw [g3, h2 i (by simpa using g2)]
          simp
      have hlt3 : x3 < 2 ^ 62 := by
        have h9 := lt_pow_of hx3 (n := n) (fun j hj => by
          cases h : (A j || (((decide (1 ≤ j) && A (j - 1)) && S j) && !A j)) with
          | false => rfl
          | true => (have h8 := hA3 j h; rw [clo_le HSK.out.2 HP.out.2 j hj] at h8; cases h8))
        have : 2 ^ (n + 1) ≤ 2 ^ 61 := Nat.pow_le_pow_right (by decide) (by omega)
        omega
      have HREL : Hid (IsBits x3 (fun j => A j || (((decide (1 ≤ j) && A (j - 1)) && S j) && !A j)) ∧ (∀ j, P j = true → (A j || (((decide (1 ≤ j) && A (j - 1)) && S j) && !A j)) = true) ∧ (∀ j, (A j || (((decide (1 ≤ j) && A (j - 1)) && S j) && !A j)) = true → cloB S P j = true) ∧ (m2 = 0 → ∀ j, (A j || (((decide (1 ≤ j) && A (j - 1)) && S j) && !A j)) = true → S (j + 1) = true → (A (j + 1) || (((decide (1 ≤ j + 1) && A (j + 1 - 1)) && S (j + 1)) && !A (j + 1))) = true)) := by
        refine ⟨hx3, fun j hj => by rw [h1 j hj]; rfl, hA3, fun h9 j hj hs => ?_⟩
        have h8 := hm2.none.1 h9
        have h7 : A j = true := by
          have := h8 j
          rw [this] at hj
          simpa using hj
        simp [h7, hs]
      have HMS : Hid (x ≤ x3 ∧ x3 < 2 ^ 62 ∧ (m2 ≠ 0 → x ≠ x3)) := ⟨hle, hlt3, hne⟩
      have hms0 : ¬ (m : Int) = 0 := by omega
      clear hx h1 h2 h3 hy hm2 hx3 hA3 hle hne hlt3
      go_wp2_with fail
      go_roundw
      case rel => exact ⟨x3, m2, _, rfl, rfl, trivial, HREL.out⟩
      case measure =>
        obtain ⟨g1, g2, g3⟩ := HMS.out
        simp only [intOf, Int.toNat_natCast]
        by_cases h9 : m2 = 0
        · omega
        · have := g3 h9
          omega
end Go.Proofs.Ythnnenbpbkmbhaa
