/-
  No cell of these rows narrows 'for every input' (looked for: loops, veiled, ifaces, maps, wideKeys, modest, calm, conditions, laid).
  DERIVED. THE GIVEN ROWS OF THIS SEAT. 5 by the template 'for every input the law returns true; each argument reads behind the call as it read before'; 0 by the template 'total and deterministic' (their statements: YtcmnmlginoojkagTotals.lean).
  GIVEN WITH THE SEED: the statements are not yours to turn. If you find one false, say at which input.
  Laid BY PROGRAM, IN A SANDBOX (cutbox-rows.mjs): the forced cells as the released guide's own fill.sh prints them over the translation af40ff2ecdb5cb20… (all of the seat's roots in one cut). By AI agents, Wed Nov 11 2026. No macro, syntax, notation, axiom, sorry.
-/
import Derived.Test.YtcmnmlginoojkagChecked
import GoSem.Claim
import GoSem.ClaimJoined
import GoSem.ClaimMapViews
import Derived.JoinedTies
import Derived.KernelRfl
namespace Go.Proofs.Ytcmnmlginoojkag
/- THE CELL 'sum', in the pinned program and in every row, IS THE sha256 OF THE DUMP (.gsa) THAT YtcmnmlginoojkagProg.lean LOADS. Nothing in Lean hashes anything: it is a label: what it is worth is what the hold of that sum in a sandbox is worth. -/
noncomputable def Try.pinned : Pinned := { name := "ytcmnmlginoojkag", sum := "af40ff2ecdb5cb207e5bcba5586d26bde56142daf95dcb6c3793805019e75753", checked := Try.checked }
namespace Rows
def none {H : Type} : Left H := { results := [], args := [] }

/-- 'laws.FnExactVecXor': WHATEVER THE INPUT: true; the input reads as it did. -/
def fnExactVecXorSpec : ChangeSpec := { name := "fnExactVecXor", fn := fun _ => fun
  | [d1, d2] => { results := [.lit (.bool true)], args := [d1, d2] }
  | _ => none }
def fnExactVecXorRow : OpenClaim := { program := "ytcmnmlginoojkag", sum := "af40ff2ecdb5cb207e5bcba5586d26bde56142daf95dcb6c3793805019e75753", func := "loop.example/g00736/laws.FnExactVecXor", spec := "fnExactVecXor", unfollowed := true, recurses := true, apart := false }
def FnExactVecXorSaid : Prop := fnExactVecXorRow.holds Try.pinned (OpenSpec.ofChange fnExactVecXorSpec)

/-- ITS FALSE NEIGHBOUR: 'it returns false'. Refute it at one input. -/
def fnExactVecXorWrong : ChangeSpec := { name := "fnExactVecXor", fn := fun _ => fun
  | [d1, d2] => { results := [.lit (.bool false)], args := [d1, d2] }
  | _ => none }
def FnExactVecXorWrongFalsely : Prop := fnExactVecXorRow.holds Try.pinned (OpenSpec.ofChange fnExactVecXorWrong)

/-- 'laws.FnExactVecNot': WHATEVER THE INPUT: true; the input reads as it did. -/
def fnExactVecNotSpec : ChangeSpec := { name := "fnExactVecNot", fn := fun _ => fun
  | [d] => { results := [.lit (.bool true)], args := [d] }
  | _ => none }
def fnExactVecNotRow : OpenClaim := { program := "ytcmnmlginoojkag", sum := "af40ff2ecdb5cb207e5bcba5586d26bde56142daf95dcb6c3793805019e75753", func := "loop.example/g00736/laws.FnExactVecNot", spec := "fnExactVecNot", unfollowed := true, recurses := true, apart := false }
def FnExactVecNotSaid : Prop := fnExactVecNotRow.holds Try.pinned (OpenSpec.ofChange fnExactVecNotSpec)

/-- ITS FALSE NEIGHBOUR: 'it returns false'. Refute it at one input. -/
def fnExactVecNotWrong : ChangeSpec := { name := "fnExactVecNot", fn := fun _ => fun
  | [d] => { results := [.lit (.bool false)], args := [d] }
  | _ => none }
def FnExactVecNotWrongFalsely : Prop := fnExactVecNotRow.holds Try.pinned (OpenSpec.ofChange fnExactVecNotWrong)

/-- 'laws.FnExactVecUp': WHATEVER THE INPUT: true; the input reads as it did. -/
def fnExactVecUpSpec : ChangeSpec := { name := "fnExactVecUp", fn := fun _ => fun
  | [d] => { results := [.lit (.bool true)], args := [d] }
  | _ => none }
def fnExactVecUpRow : OpenClaim := { program := "ytcmnmlginoojkag", sum := "af40ff2ecdb5cb207e5bcba5586d26bde56142daf95dcb6c3793805019e75753", func := "loop.example/g00736/laws.FnExactVecUp", spec := "fnExactVecUp", unfollowed := true, recurses := true, apart := false }
def FnExactVecUpSaid : Prop := fnExactVecUpRow.holds Try.pinned (OpenSpec.ofChange fnExactVecUpSpec)

/-- ITS FALSE NEIGHBOUR: 'it returns false'. Refute it at one input. -/
def fnExactVecUpWrong : ChangeSpec := { name := "fnExactVecUp", fn := fun _ => fun
  | [d] => { results := [.lit (.bool false)], args := [d] }
  | _ => none }
def FnExactVecUpWrongFalsely : Prop := fnExactVecUpRow.holds Try.pinned (OpenSpec.ofChange fnExactVecUpWrong)

/-- 'laws.FnExactVecAdd': WHATEVER THE INPUT: true; the input reads as it did. -/
def fnExactVecAddSpec : ChangeSpec := { name := "fnExactVecAdd", fn := fun _ => fun
  | [d1, d2] => { results := [.lit (.bool true)], args := [d1, d2] }
  | _ => none }
def fnExactVecAddRow : OpenClaim := { program := "ytcmnmlginoojkag", sum := "af40ff2ecdb5cb207e5bcba5586d26bde56142daf95dcb6c3793805019e75753", func := "loop.example/g00736/laws.FnExactVecAdd", spec := "fnExactVecAdd", unfollowed := true, recurses := true, apart := false }
def FnExactVecAddSaid : Prop := fnExactVecAddRow.holds Try.pinned (OpenSpec.ofChange fnExactVecAddSpec)

/-- ITS FALSE NEIGHBOUR: 'it returns false'. Refute it at one input. -/
def fnExactVecAddWrong : ChangeSpec := { name := "fnExactVecAdd", fn := fun _ => fun
  | [d1, d2] => { results := [.lit (.bool false)], args := [d1, d2] }
  | _ => none }
def FnExactVecAddWrongFalsely : Prop := fnExactVecAddRow.holds Try.pinned (OpenSpec.ofChange fnExactVecAddWrong)

/-- 'laws.FnExactVecSub': WHATEVER THE INPUT: true; the input reads as it did. -/
def fnExactVecSubSpec : ChangeSpec := { name := "fnExactVecSub", fn := fun _ => fun
  | [d1, d2] => { results := [.lit (.bool true)], args := [d1, d2] }
  | _ => none }
def fnExactVecSubRow : OpenClaim := { program := "ytcmnmlginoojkag", sum := "af40ff2ecdb5cb207e5bcba5586d26bde56142daf95dcb6c3793805019e75753", func := "loop.example/g00736/laws.FnExactVecSub", spec := "fnExactVecSub", unfollowed := true, recurses := true, apart := false }
def FnExactVecSubSaid : Prop := fnExactVecSubRow.holds Try.pinned (OpenSpec.ofChange fnExactVecSubSpec)

/-- ITS FALSE NEIGHBOUR: 'it returns false'. Refute it at one input. -/
def fnExactVecSubWrong : ChangeSpec := { name := "fnExactVecSub", fn := fun _ => fun
  | [d1, d2] => { results := [.lit (.bool false)], args := [d1, d2] }
  | _ => none }
def FnExactVecSubWrongFalsely : Prop := fnExactVecSubRow.holds Try.pinned (OpenSpec.ofChange fnExactVecSubWrong)

/- THE SECOND FORM. 'bulk': how many values and letters a reading holds, each counted each time it is reached (what is shared counts as often as it is met; a slice's spare places count too). A statement '..UptoSaid' is the law's where the arguments, and the package variables that the reading takes, are together of bulk at most 1048576: NARROWER than '..Said'. Prove '..Said' where nothing that the law and all that it calls make is longer than what came in: it says more and counts as full. Else prove '..UptoSaid'. A law counts once. -/
mutual
def uptoBulk {H : Type} : DataW H → Nat
  | .lit (.string bytes) => bytes.length + 1
  | .lit _ => 1
  | .nil => 1
  | .ptr d => uptoBulk d + 1
  | .slice elems spare => uptoBulkAll elems + uptoBulkAll spare + 1
  | .agg parts => uptoBulkAll parts + 1
  | .iface _ d => uptoBulk d + 1
  | .map entries => uptoBulkEntries entries + 1
  | .held _ => 1
def uptoBulkAll {H : Type} : List (DataW H) → Nat
  | [] => 0
  | d :: r => uptoBulk d + uptoBulkAll r
def uptoBulkEntries {H : Type} : List (Lit × DataW H) → Nat
  | [] => 0
  | x :: r => uptoBulkEntry x + uptoBulkEntries r
def uptoBulkEntry {H : Type} : Lit × DataW H → Nat
  | (.string bytes, d) => bytes.length + uptoBulk d + 1
  | (_, d) => uptoBulk d + 1
 end
def uptoSmall : (H : Type) → List (DataW H) → Bool := fun _ ds => decide (uptoBulkAll ds ≤ 1048576)
def OpenSpec.upto (s : _root_.Go.ChangeSpec) : _root_.Go.OpenSpec := { _root_.Go.OpenSpec.ofChange s with cond := some uptoSmall }

/-- 'laws.FnExactVecXor', WHERE WHAT IT READS IS OF BULK AT MOST 1048576: true; the input reads as it did. -/
def fnExactVecXorUptoRow : OpenClaim := { program := "ytcmnmlginoojkag", sum := "af40ff2ecdb5cb207e5bcba5586d26bde56142daf95dcb6c3793805019e75753", func := "loop.example/g00736/laws.FnExactVecXor", spec := "fnExactVecXor", unfollowed := true, recurses := true, apart := false, narrowed := true }
def FnExactVecXorUptoSaid : Prop := fnExactVecXorUptoRow.holds Try.pinned (OpenSpec.upto fnExactVecXorSpec)

/-- 'laws.FnExactVecNot', WHERE WHAT IT READS IS OF BULK AT MOST 1048576: true; the input reads as it did. -/
def fnExactVecNotUptoRow : OpenClaim := { program := "ytcmnmlginoojkag", sum := "af40ff2ecdb5cb207e5bcba5586d26bde56142daf95dcb6c3793805019e75753", func := "loop.example/g00736/laws.FnExactVecNot", spec := "fnExactVecNot", unfollowed := true, recurses := true, apart := false, narrowed := true }
def FnExactVecNotUptoSaid : Prop := fnExactVecNotUptoRow.holds Try.pinned (OpenSpec.upto fnExactVecNotSpec)

/-- 'laws.FnExactVecUp', WHERE WHAT IT READS IS OF BULK AT MOST 1048576: true; the input reads as it did. -/
def fnExactVecUpUptoRow : OpenClaim := { program := "ytcmnmlginoojkag", sum := "af40ff2ecdb5cb207e5bcba5586d26bde56142daf95dcb6c3793805019e75753", func := "loop.example/g00736/laws.FnExactVecUp", spec := "fnExactVecUp", unfollowed := true, recurses := true, apart := false, narrowed := true }
def FnExactVecUpUptoSaid : Prop := fnExactVecUpUptoRow.holds Try.pinned (OpenSpec.upto fnExactVecUpSpec)

/-- 'laws.FnExactVecAdd', WHERE WHAT IT READS IS OF BULK AT MOST 1048576: true; the input reads as it did. -/
def fnExactVecAddUptoRow : OpenClaim := { program := "ytcmnmlginoojkag", sum := "af40ff2ecdb5cb207e5bcba5586d26bde56142daf95dcb6c3793805019e75753", func := "loop.example/g00736/laws.FnExactVecAdd", spec := "fnExactVecAdd", unfollowed := true, recurses := true, apart := false, narrowed := true }
def FnExactVecAddUptoSaid : Prop := fnExactVecAddUptoRow.holds Try.pinned (OpenSpec.upto fnExactVecAddSpec)

/-- 'laws.FnExactVecSub', WHERE WHAT IT READS IS OF BULK AT MOST 1048576: true; the input reads as it did. -/
def fnExactVecSubUptoRow : OpenClaim := { program := "ytcmnmlginoojkag", sum := "af40ff2ecdb5cb207e5bcba5586d26bde56142daf95dcb6c3793805019e75753", func := "loop.example/g00736/laws.FnExactVecSub", spec := "fnExactVecSub", unfollowed := true, recurses := true, apart := false, narrowed := true }
def FnExactVecSubUptoSaid : Prop := fnExactVecSubUptoRow.holds Try.pinned (OpenSpec.upto fnExactVecSubSpec)

end Rows
end Go.Proofs.Ytcmnmlginoojkag
