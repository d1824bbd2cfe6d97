/- What is said here: classes of bytes as plain functions: which bytes a text has, the class of those of which a row says so. -/
import Derived.Test.YtbdjjggaahjjpaaProg
import Derived.WalkKit
import Derived.Laws.BytesArg
import Derived.Maps.AppendAt
namespace Go.Proofs.Ytbdjjggaahjjpaa
open Go.RowKit

/-- Byte b is among the first k of the text. -/
def hasUpTo (t : ByteArray) (k b : Nat) : Bool := (t.data.toList.take k).any (fun c => c.toNat == b)
/-- Byte b is in the text. -/
def hasByte (t : ByteArray) (b : Nat) : Bool := t.data.toList.any (fun c => c.toNat == b)
theorem hasUpTo_zero (t : ByteArray) (b : Nat) : hasUpTo t 0 b = false := by simp [hasUpTo]
theorem hasUpTo_succ (t : ByteArray) (k b : Nat) (h : k < t.size) : hasUpTo t (k + 1) b = (hasUpTo t k b || (t[k].toNat == b)) := by
  unfold hasUpTo
  rw [List.take_succ_eq_append_getElem (by simpa using h), List.any_append]
  simp
  rfl
theorem hasUpTo_all (t : ByteArray) (b : Nat) : hasUpTo t t.size b = hasByte t b := by
  unfold hasUpTo hasByte
  rw [List.take_of_length_le (by simp)]
/-- The first k bytes of which a row says so. -/
def classL (f : Nat → Bool) (k : Nat) : List Int := ((List.range k).filter f).map fun i : Nat => (i : Int)
theorem classL_zero (f : Nat → Bool) : classL f 0 = [] := rfl
theorem classL_yes {f : Nat → Bool} {k : Nat} (h : f k = true) : classL f (k + 1) = classL f k ++ [(k : Int)] := by
  simp [classL, List.range_succ, List.filter_append, h]
theorem classL_no {f : Nat → Bool} {k : Nat} (h : f k = false) : classL f (k + 1) = classL f k := by
  simp [classL, List.range_succ, List.filter_append, h]
theorem classL_len (f : Nat → Bool) : ∀ k, (classL f k).length ≤ k
  | 0 => by simp [classL]
  | k + 1 => by
    have := classL_len f k
    by_cases hb : f k = true
    · rw [classL_yes hb]; simp; omega
    · rw [classL_no (by simpa using hb)]; omega
theorem classL_congr {f g : Nat → Bool} {k : Nat} (h : ∀ i, i < k → f i = g i) : classL f k = classL g k := by
  unfold classL
  congr 1
  apply List.filter_congr
  intro i hi
  exact h i (List.mem_range.1 hi)
/-- The class of the bytes of which a row says so. -/
def classT (f : Nat → Bool) : ByteArray := strOfNums (classL f 256)
theorem classT_congr {f g : Nat → Bool} (h : ∀ i, i < 256 → f i = g i) : classT f = classT g := by unfold classT; rw [classL_congr h]
/-- A right class. -/
def RightC (t : ByteArray) : Prop := ∀ (i : Nat) (h : i + 1 < t.size), t[i].toNat < t[i + 1].toNat
def RightTo (t : ByteArray) (k : Nat) : Prop := ∀ (i : Nat) (h : i + 1 < t.size), i + 1 < k → t[i].toNat < t[i + 1].toNat
/-- What a fold adds. -/
def foldB (f : Nat → Bool) (k : Nat) : Nat → Bool := fun i => if 65 ≤ i ∧ i < 65 + k then f i || f (i + 32) else if 97 ≤ i ∧ i < 97 + k then f (i - 32) || f i else f i
theorem foldB_zero (f : Nat → Bool) (i : Nat) : foldB f 0 i = f i := by unfold foldB; rw [if_neg (by omega), if_neg (by omega)]
end Go.Proofs.Ytbdjjggaahjjpaa
