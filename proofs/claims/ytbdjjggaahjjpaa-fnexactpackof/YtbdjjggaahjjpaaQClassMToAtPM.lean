/- What is said here: classes of bytes as plain functions: which bytes a text has, the class of those of which a row says so.
   What is said here: right rows of cells, as plain mathematics.
   What is said here: where rows begin that lie one behind the other; what a right pack is. -/
import Derived.Test.YtbdjjggaahjjpaaProg
import Derived.WalkKit
import Derived.Laws.BytesArg
import Derived.Maps.AppendAt
import Derived.Test.YtbdjjggaahjjpaaQCellD
import Derived.Test.YtbdjjggaahjjpaaQPkMToCCEqW
namespace Go.Proofs.Ytbdjjggaahjjpaa
open Go.RowKit

/-- Byte b is among the first k of the text. -/
def hasUpTo (t : ByteArray) (k b : Nat) : Bool := (t.data.toList.take k).any (fun c => c.toNat == b)
/-- Byte b is in the text. -/
def hasByte (t : ByteArray) (b : Nat) : Bool := t.data.toList.any (fun c => c.toNat == b)
theorem hasUpTo_zero (t : ByteArray) (b : Nat) : hasUpTo t 0 b = false := by simp [hasUpTo]
theorem hasUpTo_succ (t : ByteArray) (k b : Nat) (h : k < t.size) : hasUpTo t (k + 1) b = (hasUpTo t k b || (t[k].toNat == b)) := by
  unfold hasUpTo
  rw [List.take_succ_eq_append_getElem (by simpa using h), List.any_append]
  simp
  rfl
theorem hasUpTo_all (t : ByteArray) (b : Nat) : hasUpTo t t.size b = hasByte t b := by
  unfold hasUpTo hasByte
  rw [List.take_of_length_le (by simp)]
/-- The first k bytes of which a row says so. -/
def classL (f : Nat → Bool) (k : Nat) : List Int := ((List.range k).filter f).map fun i : Nat => (i : Int)
theorem classL_zero (f : Nat → Bool) : classL f 0 = [] := rfl
theorem classL_yes {f : Nat → Bool} {k : Nat} (h : f k = true) : classL f (k + 1) = classL f k ++ [(k : Int)] := by
  simp [classL, List.range_succ, List.filter_append, h]
theorem classL_no {f : Nat → Bool} {k : Nat} (h : f k = false) : classL f (k + 1) = classL f k := by
  simp [classL, List.range_succ, List.filter_append, h]
theorem classL_len (f : Nat → Bool) : ∀ k, (classL f k).length ≤ k
  | 0 => by simp [classL]
  | k + 1 => by
    have := classL_len f k
    by_cases hb : f k = true
    · rw [classL_yes hb]; simp; omega
    · rw [classL_no (by simpa using hb)]; omega
theorem classL_congr {f g : Nat → Bool} {k : Nat} (h : ∀ i, i < k → f i = g i) : classL f k = classL g k := by
  unfold classL
  congr 1
  apply List.filter_congr
  intro i hi
  exact h i (List.mem_range.1 hi)
/-- The class of the bytes of which a row says so. -/
def classT (f : Nat → Bool) : ByteArray := strOfNums (classL f 256)
theorem classT_congr {f g : Nat → Bool} (h : ∀ i, i < 256 → f i = g i) : classT f = classT g := by unfold classT; rw [classL_congr h]
/-- A right class. -/
def RightC (t : ByteArray) : Prop := ∀ (i : Nat) (h : i + 1 < t.size), t[i].toNat < t[i + 1].toNat
def RightTo (t : ByteArray) (k : Nat) : Prop := ∀ (i : Nat) (h : i + 1 < t.size), i + 1 < k → t[i].toNat < t[i + 1].toNat
/-- What a fold adds. -/
def foldB (f : Nat → Bool) (k : Nat) : Nat → Bool := fun i => if 65 ≤ i ∧ i < 65 + k then f i || f (i + 32) else if 97 ≤ i ∧ i < 97 + k then f (i - 32) || f i else f i
theorem foldB_zero (f : Nat → Bool) (i : Nat) : foldB f 0 i = f i := by unfold foldB; rw [if_neg (by omega), if_neg (by omega)]
end Go.Proofs.Ytbdjjggaahjjpaa
namespace Go.Proofs.Ytbdjjggaahjjpaa
open Go.RowKit

/-- A cell is right. -/
def CellOk (a : Cel) : Prop := RightC a.c ∧ 0 < a.c.size
/-- A row of cells is right. -/
def CellsOk (n : Nat) (f : Nat → Cel) : Prop := 1 ≤ n ∧ n ≤ 60 ∧ ∀ i, i < n → CellOk (f i)
theorem stepCell {f : Nat → Cel} {k : Nat} (h : ∀ i, i < k → CellOk (f i)) (hk : CellOk (f k)) : ∀ i, i < k + 1 → CellOk (f i) := fun i hi => by
  by_cases e : i = k
  · rw [e]; exact hk
  · exact h i (by omega)
theorem emptyC {c : ByteArray} (h : ¬ 0 < c.size) : c = ⟨#[]⟩ := by
  apply ByteArray.ext
  have : c.data.size = 0 := by have : c.size = c.data.size := rfl; omega
  exact Array.size_eq_zero_iff.1 this
theorem someC {c : ByteArray} (h : 0 < c.size) : (¬ c.toList = []) ∧ c.toList.isEmpty = false := by
  rw [ByteArray.toList_eq]
  have h2 : c.data.toList ≠ [] := by
    intro e
    have : c.data.toList.length = c.size := by simp
    rw [e] at this
    simp at this
    omega
  exact ⟨h2, by simpa using h2⟩
theorem noneC {c : ByteArray} (h : ¬ 0 < c.size) : c.toList = [] ∧ c.toList.isEmpty = true := by
  rw [emptyC h, ByteArray.toList_eq]
  exact ⟨rfl, rfl⟩
end Go.Proofs.Ytbdjjggaahjjpaa
namespace Go.Proofs.Ytbdjjggaahjjpaa
open Go.RowKit

/-- Where a row begins. -/
def atP (n : Nat → Nat) (i : Nat) : Nat := totC n i + i
theorem atP_succ (n : Nat → Nat) (i : Nat) : atP n (i + 1) = atP n i + (n i + 1) := by unfold atP; simp only [totC]; omega
theorem atP_zero (n : Nat → Nat) : atP n 0 = 0 := rfl
theorem atP_le {n : Nat → Nat} {k : Nat} (h : ∀ i, i < k → n i ≤ 60) : ∀ i, i ≤ k → atP n i ≤ 61 * i
  | 0, _ => by rw [atP_zero]; omega
  | i + 1, hi => by rw [atP_succ]; have := atP_le h i (by omega); have := h i (by omega); omega
theorem atP_mono {n : Nat → Nat} : ∀ {i j : Nat}, i ≤ j → atP n i ≤ atP n j := by
  intro i j h
  unfold atP
  have := totC_mono (n := n) h
  omega
/-- The beginnings of the first rows. -/
def atL (n : Nat → Nat) (i : Nat) : List Int := (List.range i).map (fun j => (atP n j : Int))
theorem atL_succ (n : Nat → Nat) (i : Nat) : atL n (i + 1) = atL n i ++ [(atP n i : Int)] := by simp [atL, List.range_succ]
theorem atL_len (n : Nat → Nat) (i : Nat) : (atL n i).length = i := by simp [atL]
theorem atL_get (n : Nat → Nat) {i k : Nat} (h : i < k) : (atL n k).getD i 0 = (atP n i : Int) := by simp [atL, h]
/-- A right pack. -/
def PkOk (P : Pk) : Prop := (1 ≤ P.k ∧ P.k ≤ 6 ∧ ∀ i, i < P.k → CellsOk (P.n i) (P.f i)) ∧ P.m = P.k ∧ (∀ i, i < P.k → P.a i = (atP P.n i : Int)) ∧ P.b = (atP P.n P.k : Int) ∧ P.b ≤ 320
end Go.Proofs.Ytbdjjggaahjjpaa
