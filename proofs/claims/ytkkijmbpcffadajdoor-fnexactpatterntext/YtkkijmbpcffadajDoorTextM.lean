/- What is said here: how bytes and classes are written, as plain functions. -/
import Derived.Test.YtkkijmbpcffadajDoorClassM
namespace Go.Proofs.YtkkijmbpcffadajDoor
open Go.RowKit

/-- A byte that is written behind a stroke. -/
def stroke (b : Nat) : Bool := b == 46 || b == 92 || b == 91 || b == 93 || b == 63 || b == 42 || b == 43 || b == 123 || b == 125 || b == 40 || b == 41 || b == 94 || b == 45
/-- A digit of sixteen. -/
def hexD (d : Nat) : Int := if d < 10 then 48 + (d : Int) else 87 + (d : Int)
/-- A byte as it is written. -/
def byteL (b : Nat) : List Int := if b < 32 ∨ 126 < b then [92, 120, hexD (b / 16), hexD (b % 16)] else if stroke b = true then [92, (b : Int)] else [(b : Int)]
theorem byteL_hex {b : Nat} (h : b < 32 ∨ 126 < b) : byteL b = [92, 120, hexD (b / 16), hexD (b % 16)] := by unfold byteL; rw [if_pos h]
theorem byteL_stroke {b : Nat} (h : ¬ (b < 32 ∨ 126 < b)) (h2 : stroke b = true) : byteL b = [92, (b : Int)] := by unfold byteL; rw [if_neg h, if_pos h2]
theorem byteL_plain {b : Nat} (h : ¬ (b < 32 ∨ 126 < b)) (h2 : stroke b = false) : byteL b = [(b : Int)] := by unfold byteL; rw [if_neg h, if_neg (by rw [h2]; decide)]
theorem stroke_in {b : Nat} (h : stroke b = true) : ¬ (b < 32 ∨ 126 < b) := by
  unfold stroke at h
  simp at h
  omega
theorem byteL_len (b : Nat) : 1 ≤ (byteL b).length ∧ (byteL b).length ≤ 4 := by
  unfold byteL
  split
  · simp
  · split <;> simp
/-- The place behind a run. -/
def runE (c : ByteArray) (e : Nat) : Nat := if h : e < c.size then (if c[e].toNat = (c[e - 1].toNat + 1) % 256 then runE c (e + 1) else e) else e
termination_by c.size - e
theorem runE_stop {c : ByteArray} {e : Nat} (h : ¬ e < c.size) : runE c e = e := by rw [runE, dif_neg h]
theorem runE_end {c : ByteArray} {e : Nat} (h : e < c.size) (h2 : ¬ c[e].toNat = (c[e - 1].toNat + 1) % 256) : runE c e = e := by rw [runE, dif_pos h, if_neg h2]
theorem runE_on {c : ByteArray} {e : Nat} (h : e < c.size) (h2 : c[e].toNat = (c[e - 1].toNat + 1) % 256) : runE c e = runE c (e + 1) := by rw [runE, dif_pos h, if_pos h2]
theorem runE_ge (c : ByteArray) : ∀ (n e : Nat), c.size - e ≤ n → e ≤ runE c e
  | 0, e, h => by rw [runE_stop (by omega)]; exact Nat.le_refl _
  | n + 1, e, h => by
    by_cases h1 : e < c.size
    · by_cases h2 : c[e].toNat = (c[e - 1].toNat + 1) % 256
      · rw [runE_on h1 h2]
        have := runE_ge c n (e + 1) (by omega)
        omega
      · rw [runE_end h1 h2]; exact Nat.le_refl _
    · rw [runE_stop h1]; exact Nat.le_refl _
theorem runE_le (c : ByteArray) : ∀ (n e : Nat), c.size - e ≤ n → e ≤ c.size → runE c e ≤ c.size
  | 0, e, h, h0 => by rw [runE_stop (by omega)]; exact h0
  | n + 1, e, h, h0 => by
    by_cases h1 : e < c.size
    · by_cases h2 : c[e].toNat = (c[e - 1].toNat + 1) % 256
      · rw [runE_on h1 h2]
        exact runE_le c n (e + 1) (by omega) h1
      · rw [runE_end h1 h2]; exact h0
    · rw [runE_stop h1]; exact h0
theorem run_gt (c : ByteArray) (i : Nat) : i < runE c (i + 1) := runE_ge c _ (i + 1) (Nat.le_refl _)
/-- One run, from i to ahead of e. -/
def oneRun (c : ByteArray) (i e : Nat) : List Int := byteL c[i]!.toNat ++ (if i + 2 < e then [45] else []) ++ (if i + 1 < e then byteL c[e - 1]!.toNat else [])
/-- The runs of a class from a place on. -/
def runs (c : ByteArray) (i : Nat) : List Int := if i < c.size then oneRun c i (runE c (i + 1)) ++ runs c (runE c (i + 1)) else []
termination_by c.size - i
decreasing_by have := run_gt c i; omega
theorem runs_none {c : ByteArray} {i : Nat} (h : ¬ i < c.size) : runs c i = [] := by rw [runs, if_neg h]
theorem runs_some {c : ByteArray} {i : Nat} (h : i < c.size) : runs c i = oneRun c i (runE c (i + 1)) ++ runs c (runE c (i + 1)) := by rw [runs, if_pos h]
theorem oneRun_len (c : ByteArray) (i e : Nat) : (oneRun c i e).length ≤ 9 := by
  unfold oneRun
  have h1 := byteL_len c[i]!.toNat
  have h2 := byteL_len c[e - 1]!.toNat
  rw [List.length_append, List.length_append]
  split <;> split <;> simp <;> omega
theorem runs_len (c : ByteArray) : ∀ (n i : Nat), c.size - i ≤ n → (runs c i).length ≤ 9 * (c.size - i)
  | 0, i, h => by rw [runs_none (by omega)]; simp
  | n + 1, i, h => by
    by_cases h1 : i < c.size
    · rw [runs_some h1, List.length_append]
      have h2 := run_gt c i
      have h3 := runE_le c _ (i + 1) (Nat.le_refl _) h1
      have h4 := runs_len c n (runE c (i + 1)) (by omega)
      have h5 := oneRun_len c i (runE c (i + 1))
      omega
    · rw [runs_none h1]; simp
/-- The text of a right class that is not empty; nc: what is not in it. -/
def clsL (c nc : ByteArray) : List Int := if c.size = 1 then byteL c[0]!.toNat else if c.size = 256 then [46] else if 128 < c.size then [91, 94] ++ runs nc 0 ++ [93] else [91] ++ runs c 0 ++ [93]
theorem strApp (a b : List Int) : strOfNums (a ++ b) = strOfNums a ++ strOfNums b := by
  unfold strOfNums
  apply ByteArray.ext
  simp
theorem get_of {c : ByteArray} {i : Nat} (h : i < c.size) : c[i]! = c[i] := getElem!_pos c i h
end Go.Proofs.YtkkijmbpcffadajDoor
