/-
  No cell of these rows narrows 'for every input' (looked for: loops, veiled, ifaces, maps, wideKeys, modest, calm, conditions, laid).
  DERIVED. THE GIVEN ROWS OF THIS SEAT. 3 by the template 'for every input the law returns true; each argument reads behind the call as it read before'; 0 by the template 'total and deterministic' (their statements: YtkkijmbpcffadajTotals.lean).
  GIVEN WITH THE SEED: the statements are not yours to turn. If you find one false, say at which input.
  Laid BY PROGRAM, IN A SANDBOX (cutbox-rows.mjs): the forced cells as the released guide's own fill.sh prints them over the translation 23b9490824f46757… (all of the seat's roots in one cut). By AI agents, Wed Nov 11 2026. No macro, syntax, notation, axiom, sorry.
-/
import Derived.Test.YtkkijmbpcffadajChecked
import GoSem.Claim
import GoSem.ClaimJoined
import GoSem.ClaimMapViews
import Derived.JoinedTies
import Derived.KernelRfl
namespace Go.Proofs.Ytkkijmbpcffadaj
/- THE CELL 'sum', in the pinned program and in every row, IS THE sha256 OF THE DUMP (.gsa) THAT YtkkijmbpcffadajProg.lean LOADS. Nothing in Lean hashes anything: it is a label: what it is worth is what the hold of that sum in a sandbox is worth. -/
noncomputable def Try.pinned : Pinned := { name := "ytkkijmbpcffadaj", sum := "23b9490824f467578b1aa189c57343b7815aafc9f4d4c3e37d165c15b69e03e6", checked := Try.checked }
namespace Rows
def none {H : Type} : Left H := { results := [], args := [] }

/-- 'laws.FnExactLeastLen': WHATEVER THE INPUT: true; the input reads as it did. -/
def fnExactLeastLenSpec : ChangeSpec := { name := "fnExactLeastLen", fn := fun _ => fun
  | [d] => { results := [.lit (.bool true)], args := [d] }
  | _ => none }
def fnExactLeastLenRow : OpenClaim := { program := "ytkkijmbpcffadaj", sum := "23b9490824f467578b1aa189c57343b7815aafc9f4d4c3e37d165c15b69e03e6", func := "loop.example/g00736/laws.FnExactLeastLen", spec := "fnExactLeastLen", apart := false }
def FnExactLeastLenSaid : Prop := fnExactLeastLenRow.holds Try.pinned (OpenSpec.ofChange fnExactLeastLenSpec)

/-- ITS FALSE NEIGHBOUR: 'it returns false'. Refute it at one input. -/
def fnExactLeastLenWrong : ChangeSpec := { name := "fnExactLeastLen", fn := fun _ => fun
  | [d] => { results := [.lit (.bool false)], args := [d] }
  | _ => none }
def FnExactLeastLenWrongFalsely : Prop := fnExactLeastLenRow.holds Try.pinned (OpenSpec.ofChange fnExactLeastLenWrong)

/-- 'laws.FnExactMostLen': WHATEVER THE INPUT: true; the input reads as it did. -/
def fnExactMostLenSpec : ChangeSpec := { name := "fnExactMostLen", fn := fun _ => fun
  | [d] => { results := [.lit (.bool true)], args := [d] }
  | _ => none }
def fnExactMostLenRow : OpenClaim := { program := "ytkkijmbpcffadaj", sum := "23b9490824f467578b1aa189c57343b7815aafc9f4d4c3e37d165c15b69e03e6", func := "loop.example/g00736/laws.FnExactMostLen", spec := "fnExactMostLen", apart := false }
def FnExactMostLenSaid : Prop := fnExactMostLenRow.holds Try.pinned (OpenSpec.ofChange fnExactMostLenSpec)

/-- ITS FALSE NEIGHBOUR: 'it returns false'. Refute it at one input. -/
def fnExactMostLenWrong : ChangeSpec := { name := "fnExactMostLen", fn := fun _ => fun
  | [d] => { results := [.lit (.bool false)], args := [d] }
  | _ => none }
def FnExactMostLenWrongFalsely : Prop := fnExactMostLenRow.holds Try.pinned (OpenSpec.ofChange fnExactMostLenWrong)

/-- 'laws.FnExactReverse': WHATEVER THE INPUT: true; the input reads as it did. -/
def fnExactReverseSpec : ChangeSpec := { name := "fnExactReverse", fn := fun _ => fun
  | [d] => { results := [.lit (.bool true)], args := [d] }
  | _ => none }
def fnExactReverseRow : OpenClaim := { program := "ytkkijmbpcffadaj", sum := "23b9490824f467578b1aa189c57343b7815aafc9f4d4c3e37d165c15b69e03e6", func := "loop.example/g00736/laws.FnExactReverse", spec := "fnExactReverse", apart := false }
def FnExactReverseSaid : Prop := fnExactReverseRow.holds Try.pinned (OpenSpec.ofChange fnExactReverseSpec)

/-- ITS FALSE NEIGHBOUR: 'it returns false'. Refute it at one input. -/
def fnExactReverseWrong : ChangeSpec := { name := "fnExactReverse", fn := fun _ => fun
  | [d] => { results := [.lit (.bool false)], args := [d] }
  | _ => none }
def FnExactReverseWrongFalsely : Prop := fnExactReverseRow.holds Try.pinned (OpenSpec.ofChange fnExactReverseWrong)

/- THE SECOND FORM. 'bulk': how many values and letters a reading holds, each counted each time it is reached (what is shared counts as often as it is met; a slice's spare places count too). A statement '..UptoSaid' is the law's where the arguments, and the package variables that the reading takes, are together of bulk at most 1048576: NARROWER than '..Said'. Prove '..Said' where nothing that the law and all that it calls make is longer than what came in: it says more and counts as full. Else prove '..UptoSaid'. A law counts once. -/
mutual
def uptoBulk {H : Type} : DataW H → Nat
  | .lit (.string bytes) => bytes.length + 1
  | .lit _ => 1
  | .nil => 1
  | .ptr d => uptoBulk d + 1
  | .slice elems spare => uptoBulkAll elems + uptoBulkAll spare + 1
  | .agg parts => uptoBulkAll parts + 1
  | .iface _ d => uptoBulk d + 1
  | .map entries => uptoBulkEntries entries + 1
  | .held _ => 1
def uptoBulkAll {H : Type} : List (DataW H) → Nat
  | [] => 0
  | d :: r => uptoBulk d + uptoBulkAll r
def uptoBulkEntries {H : Type} : List (Lit × DataW H) → Nat
  | [] => 0
  | x :: r => uptoBulkEntry x + uptoBulkEntries r
def uptoBulkEntry {H : Type} : Lit × DataW H → Nat
  | (.string bytes, d) => bytes.length + uptoBulk d + 1
  | (_, d) => uptoBulk d + 1
 end
def uptoSmall : (H : Type) → List (DataW H) → Bool := fun _ ds => decide (uptoBulkAll ds ≤ 1048576)
def OpenSpec.upto (s : _root_.Go.ChangeSpec) : _root_.Go.OpenSpec := { _root_.Go.OpenSpec.ofChange s with cond := some uptoSmall }

/-- 'laws.FnExactLeastLen', WHERE WHAT IT READS IS OF BULK AT MOST 1048576: true; the input reads as it did. -/
def fnExactLeastLenUptoRow : OpenClaim := { program := "ytkkijmbpcffadaj", sum := "23b9490824f467578b1aa189c57343b7815aafc9f4d4c3e37d165c15b69e03e6", func := "loop.example/g00736/laws.FnExactLeastLen", spec := "fnExactLeastLen", apart := false, narrowed := true }
def FnExactLeastLenUptoSaid : Prop := fnExactLeastLenUptoRow.holds Try.pinned (OpenSpec.upto fnExactLeastLenSpec)

/-- 'laws.FnExactMostLen', WHERE WHAT IT READS IS OF BULK AT MOST 1048576: true; the input reads as it did. -/
def fnExactMostLenUptoRow : OpenClaim := { program := "ytkkijmbpcffadaj", sum := "23b9490824f467578b1aa189c57343b7815aafc9f4d4c3e37d165c15b69e03e6", func := "loop.example/g00736/laws.FnExactMostLen", spec := "fnExactMostLen", apart := false, narrowed := true }
def FnExactMostLenUptoSaid : Prop := fnExactMostLenUptoRow.holds Try.pinned (OpenSpec.upto fnExactMostLenSpec)

/-- 'laws.FnExactReverse', WHERE WHAT IT READS IS OF BULK AT MOST 1048576: true; the input reads as it did. -/
def fnExactReverseUptoRow : OpenClaim := { program := "ytkkijmbpcffadaj", sum := "23b9490824f467578b1aa189c57343b7815aafc9f4d4c3e37d165c15b69e03e6", func := "loop.example/g00736/laws.FnExactReverse", spec := "fnExactReverse", apart := false, narrowed := true }
def FnExactReverseUptoSaid : Prop := fnExactReverseUptoRow.holds Try.pinned (OpenSpec.upto fnExactReverseSpec)

end Rows
end Go.Proofs.Ytkkijmbpcffadaj
