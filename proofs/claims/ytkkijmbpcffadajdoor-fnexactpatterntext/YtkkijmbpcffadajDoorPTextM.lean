/- What is said here: the text of a pattern, as a plain function. -/
import Derived.Test.YtkkijmbpcffadajDoorPatM
import Derived.Test.YtkkijmbpcffadajDoorOftM
import Derived.Test.YtkkijmbpcffadajDoorTextM
import Derived.Test.YtkkijmbpcffadajDoorClassAlg
namespace Go.Proofs.YtkkijmbpcffadajDoor
open Go.RowKit

/-- The text of a class. -/
def clsP (c : ByteArray) : ByteArray := strOfNums (clsL c (classT (fun i => !hasByte c i)))
/-- The text of the first k atoms. -/
def patTo (f : Nat → Atm) : Nat → ByteArray
  | 0 => ⟨#[]⟩
  | k + 1 => (patTo f k ++ clsP (f k).c) ++ oftT (f k).l (f k).m
theorem clsP_size {c : ByteArray} (h : c.size ≤ 256) : (clsP c).size ≤ 2403 := by
  unfold clsP
  rw [strOfNums_size]
  have h1 := classT_size (fun i => !hasByte c i)
  have h2 := runs_len c _ 0 (Nat.le_refl _)
  have h3 := runs_len (classT (fun i => !hasByte c i)) _ 0 (Nat.le_refl _)
  have h4 := byteL_len c[0]!.toNat
  unfold clsL
  split
  · omega
  · split
    · simp
    · split
      · simp; omega
      · simp; omega
theorem patTo_size {f : Nat → Atm} : ∀ k, (∀ i, i < k → (f i).c.size ≤ 256) → (patTo f k).size ≤ 2410 * k
  | 0, _ => by simp [patTo]; rfl
  | k + 1, h => by
    have h1 := patTo_size k (fun i hi => h i (by omega))
    have h2 := clsP_size (h k (by omega))
    have h3 := oftT_size (f k).l (f k).m
    show ((patTo f k ++ clsP (f k).c) ++ oftT (f k).l (f k).m).size ≤ _
    rw [ByteArray.size_append, ByteArray.size_append]
    omega
end Go.Proofs.YtkkijmbpcffadajDoor
