/-
  No cell of these rows narrows 'for every input' (looked for: loops, veiled, ifaces, maps, wideKeys, modest, calm, conditions, laid).
  DERIVED. THE GIVEN ROWS OF THIS SEAT. 6 by the template 'for every input the law returns true; each argument reads behind the call as it read before'; 0 by the template 'total and deterministic' (their statements: YtcmnmlginoojkafTotals.lean).
  GIVEN WITH THE SEED: the statements are not yours to turn. If you find one false, say at which input.
  Laid BY PROGRAM, IN A SANDBOX (cutbox-rows.mjs): the forced cells as the released guide's own fill.sh prints them over the translation 42ece1c7acf6c68e… (all of the seat's roots in one cut). By AI agents, Wed Nov 11 2026. No macro, syntax, notation, axiom, sorry.
-/
import Derived.Test.YtcmnmlginoojkafChecked
import GoSem.Claim
import GoSem.ClaimJoined
import GoSem.ClaimMapViews
import Derived.JoinedTies
import Derived.KernelRfl
namespace Go.Proofs.Ytcmnmlginoojkaf
/- THE CELL 'sum', in the pinned program and in every row, IS THE sha256 OF THE DUMP (.gsa) THAT YtcmnmlginoojkafProg.lean LOADS. Nothing in Lean hashes anything: it is a label: what it is worth is what the hold of that sum in a sandbox is worth. -/
noncomputable def Try.pinned : Pinned := { name := "ytcmnmlginoojkaf", sum := "42ece1c7acf6c68e8e73aaad7309fa979f1c24e232cb4c0f41c80f1b9cc2e40b", checked := Try.checked }
namespace Rows
def none {H : Type} : Left H := { results := [], args := [] }

/-- 'laws.FnExactVecRight': WHATEVER THE INPUT: true; the input reads as it did. -/
def fnExactVecRightSpec : ChangeSpec := { name := "fnExactVecRight", fn := fun _ => fun
  | [d] => { results := [.lit (.bool true)], args := [d] }
  | _ => none }
def fnExactVecRightRow : OpenClaim := { program := "ytcmnmlginoojkaf", sum := "42ece1c7acf6c68e8e73aaad7309fa979f1c24e232cb4c0f41c80f1b9cc2e40b", func := "loop.example/g00736/laws.FnExactVecRight", spec := "fnExactVecRight", apart := false }
def FnExactVecRightSaid : Prop := fnExactVecRightRow.holds Try.pinned (OpenSpec.ofChange fnExactVecRightSpec)

/-- ITS FALSE NEIGHBOUR: 'it returns false'. Refute it at one input. -/
def fnExactVecRightWrong : ChangeSpec := { name := "fnExactVecRight", fn := fun _ => fun
  | [d] => { results := [.lit (.bool false)], args := [d] }
  | _ => none }
def FnExactVecRightWrongFalsely : Prop := fnExactVecRightRow.holds Try.pinned (OpenSpec.ofChange fnExactVecRightWrong)

/-- 'laws.FnExactVecNew': WHATEVER THE INPUT: true; the input reads as it did. -/
def fnExactVecNewSpec : ChangeSpec := { name := "fnExactVecNew", fn := fun _ => fun
  | [d] => { results := [.lit (.bool true)], args := [d] }
  | _ => none }
def fnExactVecNewRow : OpenClaim := { program := "ytcmnmlginoojkaf", sum := "42ece1c7acf6c68e8e73aaad7309fa979f1c24e232cb4c0f41c80f1b9cc2e40b", func := "loop.example/g00736/laws.FnExactVecNew", spec := "fnExactVecNew", apart := false }
def FnExactVecNewSaid : Prop := fnExactVecNewRow.holds Try.pinned (OpenSpec.ofChange fnExactVecNewSpec)

/-- ITS FALSE NEIGHBOUR: 'it returns false'. Refute it at one input. -/
def fnExactVecNewWrong : ChangeSpec := { name := "fnExactVecNew", fn := fun _ => fun
  | [d] => { results := [.lit (.bool false)], args := [d] }
  | _ => none }
def FnExactVecNewWrongFalsely : Prop := fnExactVecNewRow.holds Try.pinned (OpenSpec.ofChange fnExactVecNewWrong)

/-- 'laws.FnExactVecSet': WHATEVER THE INPUT: true; the input reads as it did. -/
def fnExactVecSetSpec : ChangeSpec := { name := "fnExactVecSet", fn := fun _ => fun
  | [d1, d2, d3] => { results := [.lit (.bool true)], args := [d1, d2, d3] }
  | _ => none }
def fnExactVecSetRow : OpenClaim := { program := "ytcmnmlginoojkaf", sum := "42ece1c7acf6c68e8e73aaad7309fa979f1c24e232cb4c0f41c80f1b9cc2e40b", func := "loop.example/g00736/laws.FnExactVecSet", spec := "fnExactVecSet", apart := false }
def FnExactVecSetSaid : Prop := fnExactVecSetRow.holds Try.pinned (OpenSpec.ofChange fnExactVecSetSpec)

/-- ITS FALSE NEIGHBOUR: 'it returns false'. Refute it at one input. -/
def fnExactVecSetWrong : ChangeSpec := { name := "fnExactVecSet", fn := fun _ => fun
  | [d1, d2, d3] => { results := [.lit (.bool false)], args := [d1, d2, d3] }
  | _ => none }
def FnExactVecSetWrongFalsely : Prop := fnExactVecSetRow.holds Try.pinned (OpenSpec.ofChange fnExactVecSetWrong)

/-- 'laws.FnExactVecGet': WHATEVER THE INPUT: true; the input reads as it did. -/
def fnExactVecGetSpec : ChangeSpec := { name := "fnExactVecGet", fn := fun _ => fun
  | [d1, d2] => { results := [.lit (.bool true)], args := [d1, d2] }
  | _ => none }
def fnExactVecGetRow : OpenClaim := { program := "ytcmnmlginoojkaf", sum := "42ece1c7acf6c68e8e73aaad7309fa979f1c24e232cb4c0f41c80f1b9cc2e40b", func := "loop.example/g00736/laws.FnExactVecGet", spec := "fnExactVecGet", apart := false }
def FnExactVecGetSaid : Prop := fnExactVecGetRow.holds Try.pinned (OpenSpec.ofChange fnExactVecGetSpec)

/-- ITS FALSE NEIGHBOUR: 'it returns false'. Refute it at one input. -/
def fnExactVecGetWrong : ChangeSpec := { name := "fnExactVecGet", fn := fun _ => fun
  | [d1, d2] => { results := [.lit (.bool false)], args := [d1, d2] }
  | _ => none }
def FnExactVecGetWrongFalsely : Prop := fnExactVecGetRow.holds Try.pinned (OpenSpec.ofChange fnExactVecGetWrong)

/-- 'laws.FnExactVecAnd': WHATEVER THE INPUT: true; the input reads as it did. -/
def fnExactVecAndSpec : ChangeSpec := { name := "fnExactVecAnd", fn := fun _ => fun
  | [d1, d2] => { results := [.lit (.bool true)], args := [d1, d2] }
  | _ => none }
def fnExactVecAndRow : OpenClaim := { program := "ytcmnmlginoojkaf", sum := "42ece1c7acf6c68e8e73aaad7309fa979f1c24e232cb4c0f41c80f1b9cc2e40b", func := "loop.example/g00736/laws.FnExactVecAnd", spec := "fnExactVecAnd", unfollowed := true, recurses := true, apart := false }
def FnExactVecAndSaid : Prop := fnExactVecAndRow.holds Try.pinned (OpenSpec.ofChange fnExactVecAndSpec)

/-- ITS FALSE NEIGHBOUR: 'it returns false'. Refute it at one input. -/
def fnExactVecAndWrong : ChangeSpec := { name := "fnExactVecAnd", fn := fun _ => fun
  | [d1, d2] => { results := [.lit (.bool false)], args := [d1, d2] }
  | _ => none }
def FnExactVecAndWrongFalsely : Prop := fnExactVecAndRow.holds Try.pinned (OpenSpec.ofChange fnExactVecAndWrong)

/-- 'laws.FnExactVecOr': WHATEVER THE INPUT: true; the input reads as it did. -/
def fnExactVecOrSpec : ChangeSpec := { name := "fnExactVecOr", fn := fun _ => fun
  | [d1, d2] => { results := [.lit (.bool true)], args := [d1, d2] }
  | _ => none }
def fnExactVecOrRow : OpenClaim := { program := "ytcmnmlginoojkaf", sum := "42ece1c7acf6c68e8e73aaad7309fa979f1c24e232cb4c0f41c80f1b9cc2e40b", func := "loop.example/g00736/laws.FnExactVecOr", spec := "fnExactVecOr", unfollowed := true, recurses := true, apart := false }
def FnExactVecOrSaid : Prop := fnExactVecOrRow.holds Try.pinned (OpenSpec.ofChange fnExactVecOrSpec)

/-- ITS FALSE NEIGHBOUR: 'it returns false'. Refute it at one input. -/
def fnExactVecOrWrong : ChangeSpec := { name := "fnExactVecOr", fn := fun _ => fun
  | [d1, d2] => { results := [.lit (.bool false)], args := [d1, d2] }
  | _ => none }
def FnExactVecOrWrongFalsely : Prop := fnExactVecOrRow.holds Try.pinned (OpenSpec.ofChange fnExactVecOrWrong)

/- THE SECOND FORM. 'bulk': how many values and letters a reading holds, each counted each time it is reached (what is shared counts as often as it is met; a slice's spare places count too). A statement '..UptoSaid' is the law's where the arguments, and the package variables that the reading takes, are together of bulk at most 1048576: NARROWER than '..Said'. Prove '..Said' where nothing that the law and all that it calls make is longer than what came in: it says more and counts as full. Else prove '..UptoSaid'. A law counts once. -/
mutual
def uptoBulk {H : Type} : DataW H → Nat
  | .lit (.string bytes) => bytes.length + 1
  | .lit _ => 1
  | .nil => 1
  | .ptr d => uptoBulk d + 1
  | .slice elems spare => uptoBulkAll elems + uptoBulkAll spare + 1
  | .agg parts => uptoBulkAll parts + 1
  | .iface _ d => uptoBulk d + 1
  | .map entries => uptoBulkEntries entries + 1
  | .held _ => 1
def uptoBulkAll {H : Type} : List (DataW H) → Nat
  | [] => 0
  | d :: r => uptoBulk d + uptoBulkAll r
def uptoBulkEntries {H : Type} : List (Lit × DataW H) → Nat
  | [] => 0
  | x :: r => uptoBulkEntry x + uptoBulkEntries r
def uptoBulkEntry {H : Type} : Lit × DataW H → Nat
  | (.string bytes, d) => bytes.length + uptoBulk d + 1
  | (_, d) => uptoBulk d + 1
 end
def uptoSmall : (H : Type) → List (DataW H) → Bool := fun _ ds => decide (uptoBulkAll ds ≤ 1048576)
def OpenSpec.upto (s : _root_.Go.ChangeSpec) : _root_.Go.OpenSpec := { _root_.Go.OpenSpec.ofChange s with cond := some uptoSmall }

/-- 'laws.FnExactVecRight', WHERE WHAT IT READS IS OF BULK AT MOST 1048576: true; the input reads as it did. -/
def fnExactVecRightUptoRow : OpenClaim := { program := "ytcmnmlginoojkaf", sum := "42ece1c7acf6c68e8e73aaad7309fa979f1c24e232cb4c0f41c80f1b9cc2e40b", func := "loop.example/g00736/laws.FnExactVecRight", spec := "fnExactVecRight", apart := false, narrowed := true }
def FnExactVecRightUptoSaid : Prop := fnExactVecRightUptoRow.holds Try.pinned (OpenSpec.upto fnExactVecRightSpec)

/-- 'laws.FnExactVecNew', WHERE WHAT IT READS IS OF BULK AT MOST 1048576: true; the input reads as it did. -/
def fnExactVecNewUptoRow : OpenClaim := { program := "ytcmnmlginoojkaf", sum := "42ece1c7acf6c68e8e73aaad7309fa979f1c24e232cb4c0f41c80f1b9cc2e40b", func := "loop.example/g00736/laws.FnExactVecNew", spec := "fnExactVecNew", apart := false, narrowed := true }
def FnExactVecNewUptoSaid : Prop := fnExactVecNewUptoRow.holds Try.pinned (OpenSpec.upto fnExactVecNewSpec)

/-- 'laws.FnExactVecSet', WHERE WHAT IT READS IS OF BULK AT MOST 1048576: true; the input reads as it did. -/
def fnExactVecSetUptoRow : OpenClaim := { program := "ytcmnmlginoojkaf", sum := "42ece1c7acf6c68e8e73aaad7309fa979f1c24e232cb4c0f41c80f1b9cc2e40b", func := "loop.example/g00736/laws.FnExactVecSet", spec := "fnExactVecSet", apart := false, narrowed := true }
def FnExactVecSetUptoSaid : Prop := fnExactVecSetUptoRow.holds Try.pinned (OpenSpec.upto fnExactVecSetSpec)

/-- 'laws.FnExactVecGet', WHERE WHAT IT READS IS OF BULK AT MOST 1048576: true; the input reads as it did. -/
def fnExactVecGetUptoRow : OpenClaim := { program := "ytcmnmlginoojkaf", sum := "42ece1c7acf6c68e8e73aaad7309fa979f1c24e232cb4c0f41c80f1b9cc2e40b", func := "loop.example/g00736/laws.FnExactVecGet", spec := "fnExactVecGet", apart := false, narrowed := true }
def FnExactVecGetUptoSaid : Prop := fnExactVecGetUptoRow.holds Try.pinned (OpenSpec.upto fnExactVecGetSpec)

/-- 'laws.FnExactVecAnd', WHERE WHAT IT READS IS OF BULK AT MOST 1048576: true; the input reads as it did. -/
def fnExactVecAndUptoRow : OpenClaim := { program := "ytcmnmlginoojkaf", sum := "42ece1c7acf6c68e8e73aaad7309fa979f1c24e232cb4c0f41c80f1b9cc2e40b", func := "loop.example/g00736/laws.FnExactVecAnd", spec := "fnExactVecAnd", unfollowed := true, recurses := true, apart := false, narrowed := true }
def FnExactVecAndUptoSaid : Prop := fnExactVecAndUptoRow.holds Try.pinned (OpenSpec.upto fnExactVecAndSpec)

/-- 'laws.FnExactVecOr', WHERE WHAT IT READS IS OF BULK AT MOST 1048576: true; the input reads as it did. -/
def fnExactVecOrUptoRow : OpenClaim := { program := "ytcmnmlginoojkaf", sum := "42ece1c7acf6c68e8e73aaad7309fa979f1c24e232cb4c0f41c80f1b9cc2e40b", func := "loop.example/g00736/laws.FnExactVecOr", spec := "fnExactVecOr", unfollowed := true, recurses := true, apart := false, narrowed := true }
def FnExactVecOrUptoSaid : Prop := fnExactVecOrUptoRow.holds Try.pinned (OpenSpec.upto fnExactVecOrSpec)

end Rows
end Go.Proofs.Ytcmnmlginoojkaf
