/- What is said here: where a walk along a row stands behind each byte, and at which ends it hits, as plain mathematics. -/
import Derived.Test.YthnnenbpbkmbhaaQSpecStepW
import Derived.Test.YthnnenbpbkmbhaaQWalkOfW
namespace Go.Proofs.Ythnnenbpbkmbhaa
open Go.RowKit

/-- A text's byte. -/
def byteN (t : ByteArray) (k : Nat) : Nat := if h : k < t.size then t[k].toNat else 0
theorem byteN_lt (t : ByteArray) (k : Nat) : byteN t k < 256 := by
  unfold byteN
  split
  · exact UInt8.toNat_lt _
  · omega
/-- Where one stands behind so many bytes. -/
def walkS (f : Nat → Cel) (n : Nat) (t : ByteArray) : Nat → Nat → Bool
  | 0 => startB f n
  | k + 1 => fun j => stepB f n (walkS f n t k) (byteN t k) j || startB f n j
theorem walkS_le (f : Nat → Cel) (n : Nat) (t : ByteArray) : ∀ k j, n < j → walkS f n t k j = false
  | 0, j, h => start_le f n j h
  | k + 1, j, h => by
    show (stepB f n (walkS f n t k) (byteN t k) j || startB f n j) = false
    rw [step_le f n _ _ j h, start_le f n j h]
    rfl
/-- Does the walk hit at an end? -/
def hitP (f : Nat → Cel) (n : Nat) (t : ByteArray) : Nat → Bool
  | 0 => false
  | k + 1 => stepB f n (walkS f n t k) (byteN t k) n
/-- The ends at which it hits. -/
def runL (f : Nat → Cel) (n : Nat) (t : ByteArray) : List Int := classL (hitP f n t) (t.size + 1)
end Go.Proofs.Ythnnenbpbkmbhaa
