/- What is said here: what fits, as plain mathematics. -/
import Derived.Test.YtapdegmgochkhaaMeanM
namespace Go.Proofs.Ytapdegmgochkhaa
/-- A right pattern means a text that is not too long. -/
def FitsP (n : Nat) (f : Nat → Atm) (t : ByteArray) : Prop := t.size ≤ 8000 ∧ PatRight n f ∧ Cuts t (atomsL f n) 0 t.size
end Go.Proofs.Ytapdegmgochkhaa
