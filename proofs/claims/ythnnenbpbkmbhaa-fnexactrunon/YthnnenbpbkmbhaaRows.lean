/-
  No cell of these rows narrows 'for every input' (looked for: loops, veiled, ifaces, maps, wideKeys, modest, calm, conditions, laid).
  DERIVED. THE GIVEN ROWS OF THIS SEAT. 9 by the template 'for every input the law returns true; each argument reads behind the call as it read before'; 0 by the template 'total and deterministic' (their statements: YthnnenbpbkmbhaaTotals.lean).
  GIVEN WITH THE SEED: the statements are not yours to turn. If you find one false, say at which input.
  Laid BY PROGRAM, IN A SANDBOX (cutbox-rows.mjs): the forced cells as the released guide's own fill.sh prints them over the translation c966b741b4b940bf… (all of the seat's roots in one cut). By AI agents, Wed Nov 11 2026. No macro, syntax, notation, axiom, sorry.
-/
import Derived.Test.YthnnenbpbkmbhaaChecked
import GoSem.Claim
import GoSem.ClaimJoined
import GoSem.ClaimMapViews
import Derived.JoinedTies
import Derived.KernelRfl
namespace Go.Proofs.Ythnnenbpbkmbhaa
/- THE CELL 'sum', in the pinned program and in every row, IS THE sha256 OF THE DUMP (.gsa) THAT YthnnenbpbkmbhaaProg.lean LOADS. Nothing in Lean hashes anything: it is a label: what it is worth is what the hold of that sum in a sandbox is worth. -/
noncomputable def Try.pinned : Pinned := { name := "ythnnenbpbkmbhaa", sum := "c966b741b4b940bfec26910b496281a93a439ca131cefb55739557a8e145a256", checked := Try.checked }
namespace Rows
def none {H : Type} : Left H := { results := [], args := [] }

/-- 'laws.FnExactMasksOf': WHATEVER THE INPUT: true; the input reads as it did. -/
def fnExactMasksOfSpec : ChangeSpec := { name := "fnExactMasksOf", fn := fun _ => fun
  | [d] => { results := [.lit (.bool true)], args := [d] }
  | _ => none }
def fnExactMasksOfRow : OpenClaim := { program := "ythnnenbpbkmbhaa", sum := "c966b741b4b940bfec26910b496281a93a439ca131cefb55739557a8e145a256", func := "loop.example/g00736/laws.FnExactMasksOf", spec := "fnExactMasksOf", unfollowed := true, recurses := true, plainKeys := false, apart := false }
def FnExactMasksOfSaid : Prop := fnExactMasksOfRow.holds Try.pinned (OpenSpec.ofChange fnExactMasksOfSpec)

/-- ITS FALSE NEIGHBOUR: 'it returns false'. Refute it at one input. -/
def fnExactMasksOfWrong : ChangeSpec := { name := "fnExactMasksOf", fn := fun _ => fun
  | [d] => { results := [.lit (.bool false)], args := [d] }
  | _ => none }
def FnExactMasksOfWrongFalsely : Prop := fnExactMasksOfRow.holds Try.pinned (OpenSpec.ofChange fnExactMasksOfWrong)

/-- 'laws.FnExactHitsOf': WHATEVER THE INPUT: true; the input reads as it did. -/
def fnExactHitsOfSpec : ChangeSpec := { name := "fnExactHitsOf", fn := fun _ => fun
  | [d1, d2] => { results := [.lit (.bool true)], args := [d1, d2] }
  | _ => none }
def fnExactHitsOfRow : OpenClaim := { program := "ythnnenbpbkmbhaa", sum := "c966b741b4b940bfec26910b496281a93a439ca131cefb55739557a8e145a256", func := "loop.example/g00736/laws.FnExactHitsOf", spec := "fnExactHitsOf", inPlace := ["internal/bytealg.IndexByteString"], unfollowed := true, recurses := true, plainKeys := false, apart := false }
def FnExactHitsOfSaid : Prop := fnExactHitsOfRow.holds Try.pinned (OpenSpec.ofChange fnExactHitsOfSpec)

/-- ITS FALSE NEIGHBOUR: 'it returns false'. Refute it at one input. -/
def fnExactHitsOfWrong : ChangeSpec := { name := "fnExactHitsOf", fn := fun _ => fun
  | [d1, d2] => { results := [.lit (.bool false)], args := [d1, d2] }
  | _ => none }
def FnExactHitsOfWrongFalsely : Prop := fnExactHitsOfRow.holds Try.pinned (OpenSpec.ofChange fnExactHitsOfWrong)

/-- 'laws.FnExactCloseOver': WHATEVER THE INPUT: true; the input reads as it did. -/
def fnExactCloseOverSpec : ChangeSpec := { name := "fnExactCloseOver", fn := fun _ => fun
  | [d1, d2] => { results := [.lit (.bool true)], args := [d1, d2] }
  | _ => none }
def fnExactCloseOverRow : OpenClaim := { program := "ythnnenbpbkmbhaa", sum := "c966b741b4b940bfec26910b496281a93a439ca131cefb55739557a8e145a256", func := "loop.example/g00736/laws.FnExactCloseOver", spec := "fnExactCloseOver", unfollowed := true, recurses := true, plainKeys := false, apart := false }
def FnExactCloseOverSaid : Prop := fnExactCloseOverRow.holds Try.pinned (OpenSpec.ofChange fnExactCloseOverSpec)

/-- ITS FALSE NEIGHBOUR: 'it returns false'. Refute it at one input. -/
def fnExactCloseOverWrong : ChangeSpec := { name := "fnExactCloseOver", fn := fun _ => fun
  | [d1, d2] => { results := [.lit (.bool false)], args := [d1, d2] }
  | _ => none }
def FnExactCloseOverWrongFalsely : Prop := fnExactCloseOverRow.holds Try.pinned (OpenSpec.ofChange fnExactCloseOverWrong)

/-- 'laws.FnExactCloseBy': WHATEVER THE INPUT: true; the input reads as it did. -/
def fnExactCloseBySpec : ChangeSpec := { name := "fnExactCloseBy", fn := fun _ => fun
  | [d1, d2] => { results := [.lit (.bool true)], args := [d1, d2] }
  | _ => none }
def fnExactCloseByRow : OpenClaim := { program := "ythnnenbpbkmbhaa", sum := "c966b741b4b940bfec26910b496281a93a439ca131cefb55739557a8e145a256", func := "loop.example/g00736/laws.FnExactCloseBy", spec := "fnExactCloseBy", unfollowed := true, recurses := true, plainKeys := false, apart := false }
def FnExactCloseBySaid : Prop := fnExactCloseByRow.holds Try.pinned (OpenSpec.ofChange fnExactCloseBySpec)

/-- ITS FALSE NEIGHBOUR: 'it returns false'. Refute it at one input. -/
def fnExactCloseByWrong : ChangeSpec := { name := "fnExactCloseBy", fn := fun _ => fun
  | [d1, d2] => { results := [.lit (.bool false)], args := [d1, d2] }
  | _ => none }
def FnExactCloseByWrongFalsely : Prop := fnExactCloseByRow.holds Try.pinned (OpenSpec.ofChange fnExactCloseByWrong)

/-- 'laws.FnExactStartOf': WHATEVER THE INPUT: true; the input reads as it did. -/
def fnExactStartOfSpec : ChangeSpec := { name := "fnExactStartOf", fn := fun _ => fun
  | [d] => { results := [.lit (.bool true)], args := [d] }
  | _ => none }
def fnExactStartOfRow : OpenClaim := { program := "ythnnenbpbkmbhaa", sum := "c966b741b4b940bfec26910b496281a93a439ca131cefb55739557a8e145a256", func := "loop.example/g00736/laws.FnExactStartOf", spec := "fnExactStartOf", unfollowed := true, recurses := true, plainKeys := false, apart := false }
def FnExactStartOfSaid : Prop := fnExactStartOfRow.holds Try.pinned (OpenSpec.ofChange fnExactStartOfSpec)

/-- ITS FALSE NEIGHBOUR: 'it returns false'. Refute it at one input. -/
def fnExactStartOfWrong : ChangeSpec := { name := "fnExactStartOf", fn := fun _ => fun
  | [d] => { results := [.lit (.bool false)], args := [d] }
  | _ => none }
def FnExactStartOfWrongFalsely : Prop := fnExactStartOfRow.holds Try.pinned (OpenSpec.ofChange fnExactStartOfWrong)

/-- 'laws.FnExactStepOn': WHATEVER THE INPUT: true; the input reads as it did. -/
def fnExactStepOnSpec : ChangeSpec := { name := "fnExactStepOn", fn := fun _ => fun
  | [d1, d2, d3] => { results := [.lit (.bool true)], args := [d1, d2, d3] }
  | _ => none }
def fnExactStepOnRow : OpenClaim := { program := "ythnnenbpbkmbhaa", sum := "c966b741b4b940bfec26910b496281a93a439ca131cefb55739557a8e145a256", func := "loop.example/g00736/laws.FnExactStepOn", spec := "fnExactStepOn", inPlace := ["sync/atomic.LoadUint32", "(*internal/sync.Mutex).Lock", "internal/race.Disable", "sync/atomic.CompareAndSwapInt32", "internal/race.Enable", "internal/race.Acquire", "(*internal/sync.Mutex).lockSlow", "internal/sync.runtime_canSpin", "internal/sync.runtime_doSpin", "internal/sync.throw", "internal/sync.runtime_nanotime", "internal/sync.runtime_SemacquireMutex", "sync/atomic.AddInt32", "(*internal/sync.Mutex).Unlock", "internal/race.ReleaseMerge", "(*internal/sync.Mutex).unlockSlow", "internal/sync.fatal", "internal/sync.runtime_Semrelease", "sync/atomic.StoreUint32"], unfollowed := true, recurses := true, plainKeys := false, apart := false }
def FnExactStepOnSaid : Prop := fnExactStepOnRow.holds Try.pinned (OpenSpec.ofChange fnExactStepOnSpec)

/-- ITS FALSE NEIGHBOUR: 'it returns false'. Refute it at one input. -/
def fnExactStepOnWrong : ChangeSpec := { name := "fnExactStepOn", fn := fun _ => fun
  | [d1, d2, d3] => { results := [.lit (.bool false)], args := [d1, d2, d3] }
  | _ => none }
def FnExactStepOnWrongFalsely : Prop := fnExactStepOnRow.holds Try.pinned (OpenSpec.ofChange fnExactStepOnWrong)

/-- 'laws.FnExactRunOn': WHATEVER THE INPUT: true; the input reads as it did. -/
def fnExactRunOnSpec : ChangeSpec := { name := "fnExactRunOn", fn := fun _ => fun
  | [d1, d2] => { results := [.lit (.bool true)], args := [d1, d2] }
  | _ => none }
def fnExactRunOnRow : OpenClaim := { program := "ythnnenbpbkmbhaa", sum := "c966b741b4b940bfec26910b496281a93a439ca131cefb55739557a8e145a256", func := "loop.example/g00736/laws.FnExactRunOn", spec := "fnExactRunOn", inPlace := ["sync/atomic.LoadUint32", "(*internal/sync.Mutex).Lock", "internal/race.Disable", "sync/atomic.CompareAndSwapInt32", "internal/race.Enable", "internal/race.Acquire", "(*internal/sync.Mutex).lockSlow", "internal/sync.runtime_canSpin", "internal/sync.runtime_doSpin", "internal/sync.throw", "internal/sync.runtime_nanotime", "internal/sync.runtime_SemacquireMutex", "sync/atomic.AddInt32", "(*internal/sync.Mutex).Unlock", "internal/race.ReleaseMerge", "(*internal/sync.Mutex).unlockSlow", "internal/sync.fatal", "internal/sync.runtime_Semrelease", "sync/atomic.StoreUint32"], unfollowed := true, recurses := true, plainKeys := false, apart := false }
def FnExactRunOnSaid : Prop := fnExactRunOnRow.holds Try.pinned (OpenSpec.ofChange fnExactRunOnSpec)

/-- ITS FALSE NEIGHBOUR: 'it returns false'. Refute it at one input. -/
def fnExactRunOnWrong : ChangeSpec := { name := "fnExactRunOn", fn := fun _ => fun
  | [d1, d2] => { results := [.lit (.bool false)], args := [d1, d2] }
  | _ => none }
def FnExactRunOnWrongFalsely : Prop := fnExactRunOnRow.holds Try.pinned (OpenSpec.ofChange fnExactRunOnWrong)

/-- 'laws.FnMeaning': WHATEVER THE INPUT: true; the input reads as it did. -/
def fnMeaningSpec : ChangeSpec := { name := "fnMeaning", fn := fun _ => fun
  | [d1, d2] => { results := [.lit (.bool true)], args := [d1, d2] }
  | _ => none }
def fnMeaningRow : OpenClaim := { program := "ythnnenbpbkmbhaa", sum := "c966b741b4b940bfec26910b496281a93a439ca131cefb55739557a8e145a256", func := "loop.example/g00736/laws.FnMeaning", spec := "fnMeaning", inPlace := ["internal/bytealg.IndexByteString"], unfollowed := true, recurses := true, plainKeys := false, apart := false }
def FnMeaningSaid : Prop := fnMeaningRow.holds Try.pinned (OpenSpec.ofChange fnMeaningSpec)

/-- ITS FALSE NEIGHBOUR: 'it returns false'. Refute it at one input. -/
def fnMeaningWrong : ChangeSpec := { name := "fnMeaning", fn := fun _ => fun
  | [d1, d2] => { results := [.lit (.bool false)], args := [d1, d2] }
  | _ => none }
def FnMeaningWrongFalsely : Prop := fnMeaningRow.holds Try.pinned (OpenSpec.ofChange fnMeaningWrong)

/-- 'laws.FnClose': WHATEVER THE INPUT: true; the input reads as it did. -/
def fnCloseSpec : ChangeSpec := { name := "fnClose", fn := fun _ => fun
  | [d1, d2] => { results := [.lit (.bool true)], args := [d1, d2] }
  | _ => none }
def fnCloseRow : OpenClaim := { program := "ythnnenbpbkmbhaa", sum := "c966b741b4b940bfec26910b496281a93a439ca131cefb55739557a8e145a256", func := "loop.example/g00736/laws.FnClose", spec := "fnClose", unfollowed := true, recurses := true, plainKeys := false, apart := false }
def FnCloseSaid : Prop := fnCloseRow.holds Try.pinned (OpenSpec.ofChange fnCloseSpec)

/-- ITS FALSE NEIGHBOUR: 'it returns false'. Refute it at one input. -/
def fnCloseWrong : ChangeSpec := { name := "fnClose", fn := fun _ => fun
  | [d1, d2] => { results := [.lit (.bool false)], args := [d1, d2] }
  | _ => none }
def FnCloseWrongFalsely : Prop := fnCloseRow.holds Try.pinned (OpenSpec.ofChange fnCloseWrong)

/- THE SECOND FORM. 'bulk': how many values and letters a reading holds, each counted each time it is reached (what is shared counts as often as it is met; a slice's spare places count too). A statement '..UptoSaid' is the law's where the arguments, and the package variables that the reading takes, are together of bulk at most 1048576: NARROWER than '..Said'. Prove '..Said' where nothing that the law and all that it calls make is longer than what came in: it says more and counts as full. Else prove '..UptoSaid'. A law counts once. -/
mutual
def uptoBulk {H : Type} : DataW H → Nat
  | .lit (.string bytes) => bytes.length + 1
  | .lit _ => 1
  | .nil => 1
  | .ptr d => uptoBulk d + 1
  | .slice elems spare => uptoBulkAll elems + uptoBulkAll spare + 1
  | .agg parts => uptoBulkAll parts + 1
  | .iface _ d => uptoBulk d + 1
  | .map entries => uptoBulkEntries entries + 1
  | .held _ => 1
def uptoBulkAll {H : Type} : List (DataW H) → Nat
  | [] => 0
  | d :: r => uptoBulk d + uptoBulkAll r
def uptoBulkEntries {H : Type} : List (Lit × DataW H) → Nat
  | [] => 0
  | x :: r => uptoBulkEntry x + uptoBulkEntries r
def uptoBulkEntry {H : Type} : Lit × DataW H → Nat
  | (.string bytes, d) => bytes.length + uptoBulk d + 1
  | (_, d) => uptoBulk d + 1
 end
def uptoSmall : (H : Type) → List (DataW H) → Bool := fun _ ds => decide (uptoBulkAll ds ≤ 1048576)
def OpenSpec.upto (s : _root_.Go.ChangeSpec) : _root_.Go.OpenSpec := { _root_.Go.OpenSpec.ofChange s with cond := some uptoSmall }

/-- 'laws.FnExactMasksOf', WHERE WHAT IT READS IS OF BULK AT MOST 1048576: true; the input reads as it did. -/
def fnExactMasksOfUptoRow : OpenClaim := { program := "ythnnenbpbkmbhaa", sum := "c966b741b4b940bfec26910b496281a93a439ca131cefb55739557a8e145a256", func := "loop.example/g00736/laws.FnExactMasksOf", spec := "fnExactMasksOf", unfollowed := true, recurses := true, plainKeys := false, apart := false, narrowed := true }
def FnExactMasksOfUptoSaid : Prop := fnExactMasksOfUptoRow.holds Try.pinned (OpenSpec.upto fnExactMasksOfSpec)

/-- 'laws.FnExactHitsOf', WHERE WHAT IT READS IS OF BULK AT MOST 1048576: true; the input reads as it did. -/
def fnExactHitsOfUptoRow : OpenClaim := { program := "ythnnenbpbkmbhaa", sum := "c966b741b4b940bfec26910b496281a93a439ca131cefb55739557a8e145a256", func := "loop.example/g00736/laws.FnExactHitsOf", spec := "fnExactHitsOf", inPlace := ["internal/bytealg.IndexByteString"], unfollowed := true, recurses := true, plainKeys := false, apart := false, narrowed := true }
def FnExactHitsOfUptoSaid : Prop := fnExactHitsOfUptoRow.holds Try.pinned (OpenSpec.upto fnExactHitsOfSpec)

/-- 'laws.FnExactCloseOver', WHERE WHAT IT READS IS OF BULK AT MOST 1048576: true; the input reads as it did. -/
def fnExactCloseOverUptoRow : OpenClaim := { program := "ythnnenbpbkmbhaa", sum := "c966b741b4b940bfec26910b496281a93a439ca131cefb55739557a8e145a256", func := "loop.example/g00736/laws.FnExactCloseOver", spec := "fnExactCloseOver", unfollowed := true, recurses := true, plainKeys := false, apart := false, narrowed := true }
def FnExactCloseOverUptoSaid : Prop := fnExactCloseOverUptoRow.holds Try.pinned (OpenSpec.upto fnExactCloseOverSpec)

/-- 'laws.FnExactCloseBy', WHERE WHAT IT READS IS OF BULK AT MOST 1048576: true; the input reads as it did. -/
def fnExactCloseByUptoRow : OpenClaim := { program := "ythnnenbpbkmbhaa", sum := "c966b741b4b940bfec26910b496281a93a439ca131cefb55739557a8e145a256", func := "loop.example/g00736/laws.FnExactCloseBy", spec := "fnExactCloseBy", unfollowed := true, recurses := true, plainKeys := false, apart := false, narrowed := true }
def FnExactCloseByUptoSaid : Prop := fnExactCloseByUptoRow.holds Try.pinned (OpenSpec.upto fnExactCloseBySpec)

/-- 'laws.FnExactStartOf', WHERE WHAT IT READS IS OF BULK AT MOST 1048576: true; the input reads as it did. -/
def fnExactStartOfUptoRow : OpenClaim := { program := "ythnnenbpbkmbhaa", sum := "c966b741b4b940bfec26910b496281a93a439ca131cefb55739557a8e145a256", func := "loop.example/g00736/laws.FnExactStartOf", spec := "fnExactStartOf", unfollowed := true, recurses := true, plainKeys := false, apart := false, narrowed := true }
def FnExactStartOfUptoSaid : Prop := fnExactStartOfUptoRow.holds Try.pinned (OpenSpec.upto fnExactStartOfSpec)

/-- 'laws.FnExactStepOn', WHERE WHAT IT READS IS OF BULK AT MOST 1048576: true; the input reads as it did. -/
def fnExactStepOnUptoRow : OpenClaim := { program := "ythnnenbpbkmbhaa", sum := "c966b741b4b940bfec26910b496281a93a439ca131cefb55739557a8e145a256", func := "loop.example/g00736/laws.FnExactStepOn", spec := "fnExactStepOn", inPlace := ["sync/atomic.LoadUint32", "(*internal/sync.Mutex).Lock", "internal/race.Disable", "sync/atomic.CompareAndSwapInt32", "internal/race.Enable", "internal/race.Acquire", "(*internal/sync.Mutex).lockSlow", "internal/sync.runtime_canSpin", "internal/sync.runtime_doSpin", "internal/sync.throw", "internal/sync.runtime_nanotime", "internal/sync.runtime_SemacquireMutex", "sync/atomic.AddInt32", "(*internal/sync.Mutex).Unlock", "internal/race.ReleaseMerge", "(*internal/sync.Mutex).unlockSlow", "internal/sync.fatal", "internal/sync.runtime_Semrelease", "sync/atomic.StoreUint32"], unfollowed := true, recurses := true, plainKeys := false, apart := false, narrowed := true }
def FnExactStepOnUptoSaid : Prop := fnExactStepOnUptoRow.holds Try.pinned (OpenSpec.upto fnExactStepOnSpec)

/-- 'laws.FnExactRunOn', WHERE WHAT IT READS IS OF BULK AT MOST 1048576: true; the input reads as it did. -/
def fnExactRunOnUptoRow : OpenClaim := { program := "ythnnenbpbkmbhaa", sum := "c966b741b4b940bfec26910b496281a93a439ca131cefb55739557a8e145a256", func := "loop.example/g00736/laws.FnExactRunOn", spec := "fnExactRunOn", inPlace := ["sync/atomic.LoadUint32", "(*internal/sync.Mutex).Lock", "internal/race.Disable", "sync/atomic.CompareAndSwapInt32", "internal/race.Enable", "internal/race.Acquire", "(*internal/sync.Mutex).lockSlow", "internal/sync.runtime_canSpin", "internal/sync.runtime_doSpin", "internal/sync.throw", "internal/sync.runtime_nanotime", "internal/sync.runtime_SemacquireMutex", "sync/atomic.AddInt32", "(*internal/sync.Mutex).Unlock", "internal/race.ReleaseMerge", "(*internal/sync.Mutex).unlockSlow", "internal/sync.fatal", "internal/sync.runtime_Semrelease", "sync/atomic.StoreUint32"], unfollowed := true, recurses := true, plainKeys := false, apart := false, narrowed := true }
def FnExactRunOnUptoSaid : Prop := fnExactRunOnUptoRow.holds Try.pinned (OpenSpec.upto fnExactRunOnSpec)

/-- 'laws.FnMeaning', WHERE WHAT IT READS IS OF BULK AT MOST 1048576: true; the input reads as it did. -/
def fnMeaningUptoRow : OpenClaim := { program := "ythnnenbpbkmbhaa", sum := "c966b741b4b940bfec26910b496281a93a439ca131cefb55739557a8e145a256", func := "loop.example/g00736/laws.FnMeaning", spec := "fnMeaning", inPlace := ["internal/bytealg.IndexByteString"], unfollowed := true, recurses := true, plainKeys := false, apart := false, narrowed := true }
def FnMeaningUptoSaid : Prop := fnMeaningUptoRow.holds Try.pinned (OpenSpec.upto fnMeaningSpec)

/-- 'laws.FnClose', WHERE WHAT IT READS IS OF BULK AT MOST 1048576: true; the input reads as it did. -/
def fnCloseUptoRow : OpenClaim := { program := "ythnnenbpbkmbhaa", sum := "c966b741b4b940bfec26910b496281a93a439ca131cefb55739557a8e145a256", func := "loop.example/g00736/laws.FnClose", spec := "fnClose", unfollowed := true, recurses := true, plainKeys := false, apart := false, narrowed := true }
def FnCloseUptoSaid : Prop := fnCloseUptoRow.holds Try.pinned (OpenSpec.upto fnCloseSpec)

end Rows
end Go.Proofs.Ythnnenbpbkmbhaa
