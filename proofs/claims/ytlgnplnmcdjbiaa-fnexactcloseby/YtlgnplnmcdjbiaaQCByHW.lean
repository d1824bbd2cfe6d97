/- What is said here: what stays of the boxes and rows of five vectors, when blocks of a stretch turn; what the law's measure leaves. -/
import Derived.Test.YtlgnplnmcdjbiaaQMask5ToW
import Derived.Test.YtlgnplnmcdjbiaaQMask5EqW
import Derived.Test.YtlgnplnmcdjbiaaQMask5MarkW
namespace Go.Proofs.Ytlgnplnmcdjbiaa
open Go.RowKit

theorem Boxed.onlyM {W W' : World} {lo hi p : Nat} {t : TypeId} {b : Int} {sa : Option Addr} {n cap : Nat} (h : Boxed W p t b sa n cap) (ho : OnlyM W W' lo hi) (hp : p < lo ∨ hi ≤ p) : Boxed W' p t b sa n cap := by
  unfold Boxed
  rw [ho.block p h.lt hp]
  exact h
theorem L5Box.onlyM {W W' : World} {lo hi p : Nat} {b : Nat → Int} {s : Nat → Option Addr} {n c : Nat → Nat} (h : L5Box W p b s n c) (ho : OnlyM W W' lo hi) (hp : p < lo ∨ hi ≤ p) : L5Box W' p b s n c := h.other ho hp
theorem L5Box.only {W W' : World} {lo hi p : Nat} {b : Nat → Int} {s : Nat → Option Addr} {n c : Nat → Nat} (h : L5Box W p b s n c) (ho : OnlyIn W W' lo hi) (hp : p < lo ∨ hi ≤ p) : L5Box W' p b s n c := h.other (OnlyM.of ho (Nat.le_refl _) (Nat.le_refl _)) hp
theorem L5Box.since {w W : World} {p : Nat} {b : Nat → Int} {s : Nat → Option Addr} {n c : Nat → Nat} (h : L5Box w p b s n c) (hs : Since w W) : L5Box W p b s n c := h.kept hs.below rfl
theorem M5Box.since {w W : World} {p : Nat} {b : Nat → Int} {s : Nat → Option Addr} {n c : Nat → Nat} (h : M5Box w p b s n c) (hs : Since w W) : M5Box W p b s n c := h.kept hs.below rfl
theorem szK_ok {n : Nat → Nat} {left : Int} (hl : left ≤ 1048576) (h : 0 ≤ szK n left 5) : szK n left 5 ≤ 1048576 ∧ ∀ i, i < 5 → n i ≤ 1048576 := by
  have one : ∀ k, 0 ≤ szK n left (k + 1) → 0 ≤ szK n left k ∧ (n k : Int) ≤ szK n left k ∧ szK n left (k + 1) = szK n left k - (n k : Int) := fun k hk => by
    have e : szK n left (k + 1) = if szK n left k < 0 then -1 else szOf (n k) (szK n left k) := rfl
    rw [e] at hk ⊢
    by_cases h1 : szK n left k < 0
    · rw [if_pos h1] at hk; omega
    · rw [if_neg h1] at hk ⊢
      unfold szOf at hk ⊢
      by_cases h2 : szK n left k < (n k : Int)
      · rw [if_pos h2] at hk; omega
      · rw [if_neg h2] at hk ⊢
        omega
  obtain ⟨a4, b4, c4⟩ := one 4 h
  obtain ⟨a3, b3, c3⟩ := one 3 a4
  obtain ⟨a2, b2, c2⟩ := one 2 a3
  obtain ⟨a1, b1, c1⟩ := one 1 a2
  obtain ⟨a0, b0, c0⟩ := one 0 a1
  have e0 : szK n left 0 = left := rfl
  simp only [Nat.reduceAdd] at *
  refine ⟨by omega, fun i hi => ?_⟩
  have hc : i = 0 ∨ i = 1 ∨ i = 2 ∨ i = 3 ∨ i = 4 := by omega
  rcases hc with rfl | rfl | rfl | rfl | rfl <;> omega
theorem szK_neg {n : Nat → Nat} {left : Int} (h : szK n left 5 < 0) : szK n left 5 = -1 := by
  have e : szK n left 5 = if szK n left 4 < 0 then -1 else szOf (n 4) (szK n left 4) := rfl
  rw [e] at h ⊢
  by_cases h1 : szK n left 4 < 0
  · rw [if_pos h1]
  · rw [if_neg h1] at h ⊢
    unfold szOf at h ⊢
    by_cases h2 : szK n left 4 < (n 4 : Int)
    · rw [if_pos h2]
    · rw [if_neg h2] at h; omega
end Go.Proofs.Ytlgnplnmcdjbiaa
