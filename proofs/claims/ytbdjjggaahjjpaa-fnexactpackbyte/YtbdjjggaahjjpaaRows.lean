/-
  No cell of these rows narrows 'for every input' (looked for: loops, veiled, ifaces, maps, wideKeys, modest, calm, conditions, laid).
  DERIVED. THE GIVEN ROWS OF THIS SEAT. 4 by the template 'for every input the law returns true; each argument reads behind the call as it read before'; 0 by the template 'total and deterministic' (their statements: YtbdjjggaahjjpaaTotals.lean).
  GIVEN WITH THE SEED: the statements are not yours to turn. If you find one false, say at which input.
  Laid BY PROGRAM, IN A SANDBOX (cutbox-rows.mjs): the forced cells as the released guide's own fill.sh prints them over the translation 1e7b99b61c40de50… (all of the seat's roots in one cut). By AI agents, Wed Nov 11 2026. No macro, syntax, notation, axiom, sorry.
-/
import Derived.Test.YtbdjjggaahjjpaaChecked
import GoSem.Claim
import GoSem.ClaimJoined
import GoSem.ClaimMapViews
import Derived.JoinedTies
import Derived.KernelRfl
namespace Go.Proofs.Ytbdjjggaahjjpaa
/- THE CELL 'sum', in the pinned program and in every row, IS THE sha256 OF THE DUMP (.gsa) THAT YtbdjjggaahjjpaaProg.lean LOADS. Nothing in Lean hashes anything: it is a label: what it is worth is what the hold of that sum in a sandbox is worth. -/
noncomputable def Try.pinned : Pinned := { name := "ytbdjjggaahjjpaa", sum := "1e7b99b61c40de50fc1e4151d2ede1722c2041d34f30f8c0c718422860eaca7e", checked := Try.checked }
namespace Rows
def none {H : Type} : Left H := { results := [], args := [] }

/-- 'laws.FnExactPackRight': WHATEVER THE INPUT: true; the input reads as it did. -/
def fnExactPackRightSpec : ChangeSpec := { name := "fnExactPackRight", fn := fun _ => fun
  | [d] => { results := [.lit (.bool true)], args := [d] }
  | _ => none }
def fnExactPackRightRow : OpenClaim := { program := "ytbdjjggaahjjpaa", sum := "1e7b99b61c40de50fc1e4151d2ede1722c2041d34f30f8c0c718422860eaca7e", func := "loop.example/g00736/laws.FnExactPackRight", spec := "fnExactPackRight", unfollowed := true, recurses := true, apart := false }
def FnExactPackRightSaid : Prop := fnExactPackRightRow.holds Try.pinned (OpenSpec.ofChange fnExactPackRightSpec)

/-- ITS FALSE NEIGHBOUR: 'it returns false'. Refute it at one input. -/
def fnExactPackRightWrong : ChangeSpec := { name := "fnExactPackRight", fn := fun _ => fun
  | [d] => { results := [.lit (.bool false)], args := [d] }
  | _ => none }
def FnExactPackRightWrongFalsely : Prop := fnExactPackRightRow.holds Try.pinned (OpenSpec.ofChange fnExactPackRightWrong)

/-- 'laws.FnExactPackOf': WHATEVER THE INPUT: true; the input reads as it did. -/
def fnExactPackOfSpec : ChangeSpec := { name := "fnExactPackOf", fn := fun _ => fun
  | [d] => { results := [.lit (.bool true)], args := [d] }
  | _ => none }
def fnExactPackOfRow : OpenClaim := { program := "ytbdjjggaahjjpaa", sum := "1e7b99b61c40de50fc1e4151d2ede1722c2041d34f30f8c0c718422860eaca7e", func := "loop.example/g00736/laws.FnExactPackOf", spec := "fnExactPackOf", unfollowed := true, recurses := true, apart := false }
def FnExactPackOfSaid : Prop := fnExactPackOfRow.holds Try.pinned (OpenSpec.ofChange fnExactPackOfSpec)

/-- ITS FALSE NEIGHBOUR: 'it returns false'. Refute it at one input. -/
def fnExactPackOfWrong : ChangeSpec := { name := "fnExactPackOf", fn := fun _ => fun
  | [d] => { results := [.lit (.bool false)], args := [d] }
  | _ => none }
def FnExactPackOfWrongFalsely : Prop := fnExactPackOfRow.holds Try.pinned (OpenSpec.ofChange fnExactPackOfWrong)

/-- 'laws.FnExactPackMasks': WHATEVER THE INPUT: true; the input reads as it did. -/
def fnExactPackMasksSpec : ChangeSpec := { name := "fnExactPackMasks", fn := fun _ => fun
  | [d] => { results := [.lit (.bool true)], args := [d] }
  | _ => none }
def fnExactPackMasksRow : OpenClaim := { program := "ytbdjjggaahjjpaa", sum := "1e7b99b61c40de50fc1e4151d2ede1722c2041d34f30f8c0c718422860eaca7e", func := "loop.example/g00736/laws.FnExactPackMasks", spec := "fnExactPackMasks", unfollowed := true, recurses := true, apart := false }
def FnExactPackMasksSaid : Prop := fnExactPackMasksRow.holds Try.pinned (OpenSpec.ofChange fnExactPackMasksSpec)

/-- ITS FALSE NEIGHBOUR: 'it returns false'. Refute it at one input. -/
def fnExactPackMasksWrong : ChangeSpec := { name := "fnExactPackMasks", fn := fun _ => fun
  | [d] => { results := [.lit (.bool false)], args := [d] }
  | _ => none }
def FnExactPackMasksWrongFalsely : Prop := fnExactPackMasksRow.holds Try.pinned (OpenSpec.ofChange fnExactPackMasksWrong)

/-- 'laws.FnExactPackByte': WHATEVER THE INPUT: true; the input reads as it did. -/
def fnExactPackByteSpec : ChangeSpec := { name := "fnExactPackByte", fn := fun _ => fun
  | [d1, d2, d3] => { results := [.lit (.bool true)], args := [d1, d2, d3] }
  | _ => none }
def fnExactPackByteRow : OpenClaim := { program := "ytbdjjggaahjjpaa", sum := "1e7b99b61c40de50fc1e4151d2ede1722c2041d34f30f8c0c718422860eaca7e", func := "loop.example/g00736/laws.FnExactPackByte", spec := "fnExactPackByte", inPlace := ["sync/atomic.LoadUint32", "(*internal/sync.Mutex).Lock", "internal/race.Disable", "sync/atomic.CompareAndSwapInt32", "internal/race.Enable", "internal/race.Acquire", "(*internal/sync.Mutex).lockSlow", "internal/sync.runtime_canSpin", "internal/sync.runtime_doSpin", "internal/sync.throw", "internal/sync.runtime_nanotime", "internal/sync.runtime_SemacquireMutex", "sync/atomic.AddInt32", "(*internal/sync.Mutex).Unlock", "internal/race.ReleaseMerge", "(*internal/sync.Mutex).unlockSlow", "internal/sync.fatal", "internal/sync.runtime_Semrelease", "sync/atomic.StoreUint32"], unfollowed := true, recurses := true, apart := false }
def FnExactPackByteSaid : Prop := fnExactPackByteRow.holds Try.pinned (OpenSpec.ofChange fnExactPackByteSpec)

/-- ITS FALSE NEIGHBOUR: 'it returns false'. Refute it at one input. -/
def fnExactPackByteWrong : ChangeSpec := { name := "fnExactPackByte", fn := fun _ => fun
  | [d1, d2, d3] => { results := [.lit (.bool false)], args := [d1, d2, d3] }
  | _ => none }
def FnExactPackByteWrongFalsely : Prop := fnExactPackByteRow.holds Try.pinned (OpenSpec.ofChange fnExactPackByteWrong)

/- THE SECOND FORM. 'bulk': how many values and letters a reading holds, each counted each time it is reached (what is shared counts as often as it is met; a slice's spare places count too). A statement '..UptoSaid' is the law's where the arguments, and the package variables that the reading takes, are together of bulk at most 1048576: NARROWER than '..Said'. Prove '..Said' where nothing that the law and all that it calls make is longer than what came in: it says more and counts as full. Else prove '..UptoSaid'. A law counts once. -/
mutual
def uptoBulk {H : Type} : DataW H → Nat
  | .lit (.string bytes) => bytes.length + 1
  | .lit _ => 1
  | .nil => 1
  | .ptr d => uptoBulk d + 1
  | .slice elems spare => uptoBulkAll elems + uptoBulkAll spare + 1
  | .agg parts => uptoBulkAll parts + 1
  | .iface _ d => uptoBulk d + 1
  | .map entries => uptoBulkEntries entries + 1
  | .held _ => 1
def uptoBulkAll {H : Type} : List (DataW H) → Nat
  | [] => 0
  | d :: r => uptoBulk d + uptoBulkAll r
def uptoBulkEntries {H : Type} : List (Lit × DataW H) → Nat
  | [] => 0
  | x :: r => uptoBulkEntry x + uptoBulkEntries r
def uptoBulkEntry {H : Type} : Lit × DataW H → Nat
  | (.string bytes, d) => bytes.length + uptoBulk d + 1
  | (_, d) => uptoBulk d + 1
 end
def uptoSmall : (H : Type) → List (DataW H) → Bool := fun _ ds => decide (uptoBulkAll ds ≤ 1048576)
def OpenSpec.upto (s : _root_.Go.ChangeSpec) : _root_.Go.OpenSpec := { _root_.Go.OpenSpec.ofChange s with cond := some uptoSmall }

/-- 'laws.FnExactPackRight', WHERE WHAT IT READS IS OF BULK AT MOST 1048576: true; the input reads as it did. -/
def fnExactPackRightUptoRow : OpenClaim := { program := "ytbdjjggaahjjpaa", sum := "1e7b99b61c40de50fc1e4151d2ede1722c2041d34f30f8c0c718422860eaca7e", func := "loop.example/g00736/laws.FnExactPackRight", spec := "fnExactPackRight", unfollowed := true, recurses := true, apart := false, narrowed := true }
def FnExactPackRightUptoSaid : Prop := fnExactPackRightUptoRow.holds Try.pinned (OpenSpec.upto fnExactPackRightSpec)

/-- 'laws.FnExactPackOf', WHERE WHAT IT READS IS OF BULK AT MOST 1048576: true; the input reads as it did. -/
def fnExactPackOfUptoRow : OpenClaim := { program := "ytbdjjggaahjjpaa", sum := "1e7b99b61c40de50fc1e4151d2ede1722c2041d34f30f8c0c718422860eaca7e", func := "loop.example/g00736/laws.FnExactPackOf", spec := "fnExactPackOf", unfollowed := true, recurses := true, apart := false, narrowed := true }
def FnExactPackOfUptoSaid : Prop := fnExactPackOfUptoRow.holds Try.pinned (OpenSpec.upto fnExactPackOfSpec)

/-- 'laws.FnExactPackMasks', WHERE WHAT IT READS IS OF BULK AT MOST 1048576: true; the input reads as it did. -/
def fnExactPackMasksUptoRow : OpenClaim := { program := "ytbdjjggaahjjpaa", sum := "1e7b99b61c40de50fc1e4151d2ede1722c2041d34f30f8c0c718422860eaca7e", func := "loop.example/g00736/laws.FnExactPackMasks", spec := "fnExactPackMasks", unfollowed := true, recurses := true, apart := false, narrowed := true }
def FnExactPackMasksUptoSaid : Prop := fnExactPackMasksUptoRow.holds Try.pinned (OpenSpec.upto fnExactPackMasksSpec)

/-- 'laws.FnExactPackByte', WHERE WHAT IT READS IS OF BULK AT MOST 1048576: true; the input reads as it did. -/
def fnExactPackByteUptoRow : OpenClaim := { program := "ytbdjjggaahjjpaa", sum := "1e7b99b61c40de50fc1e4151d2ede1722c2041d34f30f8c0c718422860eaca7e", func := "loop.example/g00736/laws.FnExactPackByte", spec := "fnExactPackByte", inPlace := ["sync/atomic.LoadUint32", "(*internal/sync.Mutex).Lock", "internal/race.Disable", "sync/atomic.CompareAndSwapInt32", "internal/race.Enable", "internal/race.Acquire", "(*internal/sync.Mutex).lockSlow", "internal/sync.runtime_canSpin", "internal/sync.runtime_doSpin", "internal/sync.throw", "internal/sync.runtime_nanotime", "internal/sync.runtime_SemacquireMutex", "sync/atomic.AddInt32", "(*internal/sync.Mutex).Unlock", "internal/race.ReleaseMerge", "(*internal/sync.Mutex).unlockSlow", "internal/sync.fatal", "internal/sync.runtime_Semrelease", "sync/atomic.StoreUint32"], unfollowed := true, recurses := true, apart := false, narrowed := true }
def FnExactPackByteUptoSaid : Prop := fnExactPackByteUptoRow.holds Try.pinned (OpenSpec.upto fnExactPackByteSpec)

end Rows
end Go.Proofs.Ytbdjjggaahjjpaa
