/- What is said here: the cells of atoms, as plain mathematics. -/
import Derived.Test.YtapdegmgochkhaaQPatM
import Derived.Test.YtapdegmgochkhaaQCellD
import Derived.Test.YtapdegmgochkhaaQMeanM
namespace Go.Proofs.Ytapdegmgochkhaa

/-- How many cells an atom has. -/
def cnt (a : Atm) : Nat := (counted a).toNat
/-- The cells of an atom. -/
def cellA (a : Atm) (k : Nat) : Cel := ⟨a.c, decide (a.l ≤ (k : Int)), decide (a.m = -1 ∧ k + 1 = cnt a)⟩
def cellsA (a : Atm) : List Cel := (List.range (cnt a)).map (cellA a)
/-- The cells of a pattern. -/
def cellsP (L : List Atm) : List Cel := L.flatMap cellsA
theorem cellsA_len (a : Atm) : (cellsA a).length = cnt a := by simp [cellsA]
theorem cellsP_append (L : List Atm) (a : Atm) : cellsP (L ++ [a]) = cellsP L ++ cellsA a := by simp [cellsP]
theorem cellsA_get {a : Atm} {k : Nat} (h : k < cnt a) : (cellsA a).getD k cel0 = cellA a k := by simp [cellsA, List.getD, h]
theorem cnt_bd {a : Atm} (h : AtomRight a) : 1 ≤ cnt a ∧ cnt a ≤ 20 ∧ (cnt a : Int) = counted a := by
  have := counted_bd h
  unfold cnt
  omega
theorem sum_len {f : Nat → Atm} : ∀ k, (∀ i, i < k → AtomRight (f i)) → ((cellsP (atomsL f k)).length : Int) = sumTo (fun i => counted (f i)) k
  | 0, _ => rfl
  | k + 1, h => by
    rw [atomsL_succ, cellsP_append, List.length_append, cellsA_len]
    have h1 := sum_len k (fun i hi => h i (by omega))
    have h2 := (cnt_bd (h k (by omega))).2.2
    show _ = sumTo (fun i => counted (f i)) k + counted (f k)
    omega
theorem sumTo_mono {f : Nat → Atm} : ∀ {k n : Nat}, k ≤ n → (∀ i, i < n → AtomRight (f i)) → sumTo (fun i => counted (f i)) k ≤ sumTo (fun i => counted (f i)) n
  | k, 0, h, _ => by obtain rfl : k = 0 := by omega
                     exact Int.le_refl _
  | k, n + 1, h, hr => by
    by_cases e : k = n + 1
    · rw [e]; exact Int.le_refl _
    · have h1 := sumTo_mono (k := k) (n := n) (by omega) (fun i hi => hr i (by omega))
      have h2 := (counted_bd (hr n (by omega))).1
      show _ ≤ sumTo (fun i => counted (f i)) n + counted (f n)
      omega
end Go.Proofs.Ytapdegmgochkhaa
