/- What is said here: right patterns as plain mathematics. -/
import Derived.Test.YtfeolbgenpknfaaQAtomD
import Derived.Test.YtfeolbgenpknfaaQClassM
namespace Go.Proofs.Ytfeolbgenpknfaa
open Go.RowKit

/-- An atom is right. -/
def AtomRight (a : Atm) : Prop := RightC a.c ∧ 0 < a.c.size ∧ 0 ≤ a.l ∧ a.l ≤ 20 ∧ (a.m = -1 ∨ (a.l ≤ a.m ∧ 1 ≤ a.m ∧ a.m ≤ 20))
/-- How much an atom counts. -/
def counted (a : Atm) : Int := if a.m = -1 then (if a.l < 1 then 1 else a.l) else a.m
/-- The sum of the first k numbers. -/
def sumTo (g : Nat → Int) : Nat → Int
  | 0 => 0
  | k + 1 => sumTo g k + g k
/-- A pattern is right. -/
def PatRight (n : Nat) (f : Nat → Atm) : Prop := 1 ≤ n ∧ n ≤ 20 ∧ (∀ i, i < n → AtomRight (f i)) ∧ sumTo (fun i => counted (f i)) n ≤ 40
theorem counted_bd {a : Atm} (h : AtomRight a) : 1 ≤ counted a ∧ counted a ≤ 20 := by
  obtain ⟨_, _, h3, h4, h5⟩ := h
  unfold counted
  split
  · split <;> omega
  · omega
theorem sumTo_bd {g : Nat → Int} {b : Int} (hb : 0 ≤ b) : ∀ k, (∀ i, i < k → 0 ≤ g i ∧ g i ≤ b) → 0 ≤ sumTo g k ∧ sumTo g k ≤ b * k
  | 0, _ => by simp [sumTo]
  | k + 1, h => by
    have h1 := sumTo_bd hb k (fun i hi => h i (by omega))
    have h2 := h k (by omega)
    have e : b * ((k + 1 : Nat) : Int) = b * k + b := by rw [Int.natCast_add, Int.mul_add]; simp
    rw [e]
    show 0 ≤ sumTo g k + g k ∧ sumTo g k + g k ≤ b * k + b
    omega
theorem sumTo_congr {g h : Nat → Int} : ∀ k, (∀ i, i < k → g i = h i) → sumTo g k = sumTo h k
  | 0, _ => rfl
  | k + 1, e => by
    show sumTo g k + g k = sumTo h k + h k
    rw [sumTo_congr k (fun i hi => e i (by omega)), e k (by omega)]
theorem patRight_congr {n : Nat} {f g : Nat → Atm} (e : ∀ i, i < n → f i = g i) (h : PatRight n f) : PatRight n g :=
  ⟨h.1, h.2.1, fun i hi => by rw [← e i hi]; exact h.2.2.1 i hi, by rw [sumTo_congr n (fun i hi => by rw [← e i hi])]; exact h.2.2.2⟩
theorem empty_of {c : ByteArray} (h : ¬ 0 < c.size) : c = ⟨#[]⟩ := by
  apply ByteArray.ext
  have : c.data.size = 0 := by have : c.size = c.data.size := rfl; omega
  exact Array.size_eq_zero_iff.1 this
theorem some_of {c : ByteArray} (h : 0 < c.size) : (¬ c.toList = []) ∧ c.toList.isEmpty = false := by
  rw [ByteArray.toList_eq]
  have h2 : c.data.toList ≠ [] := by
    intro e
    have : c.data.toList.length = c.size := by simp
    rw [e] at this
    simp at this
    omega
  exact ⟨h2, by simpa using h2⟩
theorem none_of {c : ByteArray} (h : ¬ 0 < c.size) : c.toList = [] ∧ c.toList.isEmpty = true := by
  rw [empty_of h, ByteArray.toList_eq]
  exact ⟨rfl, rfl⟩
end Go.Proofs.Ytfeolbgenpknfaa
