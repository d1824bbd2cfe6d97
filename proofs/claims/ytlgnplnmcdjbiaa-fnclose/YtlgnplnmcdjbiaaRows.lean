/-
  No cell of these rows narrows 'for every input' (looked for: loops, veiled, ifaces, maps, wideKeys, modest, calm, conditions, laid).
  DERIVED. THE GIVEN ROWS OF THIS SEAT. 8 by the template 'for every input the law returns true; each argument reads behind the call as it read before'; 0 by the template 'total and deterministic' (their statements: YtlgnplnmcdjbiaaTotals.lean).
  GIVEN WITH THE SEED: the statements are not yours to turn. If you find one false, say at which input.
  Laid BY PROGRAM, IN A SANDBOX (cutbox-rows.mjs): the forced cells as the released guide's own fill.sh prints them over the translation b82001ed7d808b0a… (all of the seat's roots in one cut). By AI agents, Wed Nov 11 2026. No macro, syntax, notation, axiom, sorry.
-/
import Derived.Test.YtlgnplnmcdjbiaaChecked
import GoSem.Claim
import GoSem.ClaimJoined
import GoSem.ClaimMapViews
import Derived.JoinedTies
import Derived.KernelRfl
namespace Go.Proofs.Ytlgnplnmcdjbiaa
/- THE CELL 'sum', in the pinned program and in every row, IS THE sha256 OF THE DUMP (.gsa) THAT YtlgnplnmcdjbiaaProg.lean LOADS. Nothing in Lean hashes anything: it is a label: what it is worth is what the hold of that sum in a sandbox is worth. -/
noncomputable def Try.pinned : Pinned := { name := "ytlgnplnmcdjbiaa", sum := "b82001ed7d808b0a524fc9f84e554ea017f6fc870b7b48535bde1cb0db78c333", checked := Try.checked }
namespace Rows
def none {H : Type} : Left H := { results := [], args := [] }

/-- 'laws.FnMeaning': WHATEVER THE INPUT: true; the input reads as it did. -/
def fnMeaningSpec : ChangeSpec := { name := "fnMeaning", fn := fun _ => fun
  | [d1, d2] => { results := [.lit (.bool true)], args := [d1, d2] }
  | _ => none }
def fnMeaningRow : OpenClaim := { program := "ytlgnplnmcdjbiaa", sum := "b82001ed7d808b0a524fc9f84e554ea017f6fc870b7b48535bde1cb0db78c333", func := "loop.example/g00736/laws.FnMeaning", spec := "fnMeaning", inPlace := ["internal/bytealg.IndexByteString"], unfollowed := true, recurses := true, plainKeys := false, apart := false }
def FnMeaningSaid : Prop := fnMeaningRow.holds Try.pinned (OpenSpec.ofChange fnMeaningSpec)

/-- ITS FALSE NEIGHBOUR: 'it returns false'. Refute it at one input. -/
def fnMeaningWrong : ChangeSpec := { name := "fnMeaning", fn := fun _ => fun
  | [d1, d2] => { results := [.lit (.bool false)], args := [d1, d2] }
  | _ => none }
def FnMeaningWrongFalsely : Prop := fnMeaningRow.holds Try.pinned (OpenSpec.ofChange fnMeaningWrong)

/-- 'laws.FnClose': WHATEVER THE INPUT: true; the input reads as it did. -/
def fnCloseSpec : ChangeSpec := { name := "fnClose", fn := fun _ => fun
  | [d1, d2] => { results := [.lit (.bool true)], args := [d1, d2] }
  | _ => none }
def fnCloseRow : OpenClaim := { program := "ytlgnplnmcdjbiaa", sum := "b82001ed7d808b0a524fc9f84e554ea017f6fc870b7b48535bde1cb0db78c333", func := "loop.example/g00736/laws.FnClose", spec := "fnClose", unfollowed := true, recurses := true, plainKeys := false, apart := false }
def FnCloseSaid : Prop := fnCloseRow.holds Try.pinned (OpenSpec.ofChange fnCloseSpec)

/-- ITS FALSE NEIGHBOUR: 'it returns false'. Refute it at one input. -/
def fnCloseWrong : ChangeSpec := { name := "fnClose", fn := fun _ => fun
  | [d1, d2] => { results := [.lit (.bool false)], args := [d1, d2] }
  | _ => none }
def FnCloseWrongFalsely : Prop := fnCloseRow.holds Try.pinned (OpenSpec.ofChange fnCloseWrong)

/-- 'laws.FnExactHitsOf': WHATEVER THE INPUT: true; the input reads as it did. -/
def fnExactHitsOfSpec : ChangeSpec := { name := "fnExactHitsOf", fn := fun _ => fun
  | [d1, d2] => { results := [.lit (.bool true)], args := [d1, d2] }
  | _ => none }
def fnExactHitsOfRow : OpenClaim := { program := "ytlgnplnmcdjbiaa", sum := "b82001ed7d808b0a524fc9f84e554ea017f6fc870b7b48535bde1cb0db78c333", func := "loop.example/g00736/laws.FnExactHitsOf", spec := "fnExactHitsOf", inPlace := ["internal/bytealg.IndexByteString"], unfollowed := true, recurses := true, plainKeys := false, apart := false }
def FnExactHitsOfSaid : Prop := fnExactHitsOfRow.holds Try.pinned (OpenSpec.ofChange fnExactHitsOfSpec)

/-- ITS FALSE NEIGHBOUR: 'it returns false'. Refute it at one input. -/
def fnExactHitsOfWrong : ChangeSpec := { name := "fnExactHitsOf", fn := fun _ => fun
  | [d1, d2] => { results := [.lit (.bool false)], args := [d1, d2] }
  | _ => none }
def FnExactHitsOfWrongFalsely : Prop := fnExactHitsOfRow.holds Try.pinned (OpenSpec.ofChange fnExactHitsOfWrong)

/-- 'laws.FnExactCloseBy': WHATEVER THE INPUT: true; the input reads as it did. -/
def fnExactCloseBySpec : ChangeSpec := { name := "fnExactCloseBy", fn := fun _ => fun
  | [d1, d2] => { results := [.lit (.bool true)], args := [d1, d2] }
  | _ => none }
def fnExactCloseByRow : OpenClaim := { program := "ytlgnplnmcdjbiaa", sum := "b82001ed7d808b0a524fc9f84e554ea017f6fc870b7b48535bde1cb0db78c333", func := "loop.example/g00736/laws.FnExactCloseBy", spec := "fnExactCloseBy", unfollowed := true, recurses := true, plainKeys := false, apart := false }
def FnExactCloseBySaid : Prop := fnExactCloseByRow.holds Try.pinned (OpenSpec.ofChange fnExactCloseBySpec)

/-- ITS FALSE NEIGHBOUR: 'it returns false'. Refute it at one input. -/
def fnExactCloseByWrong : ChangeSpec := { name := "fnExactCloseBy", fn := fun _ => fun
  | [d1, d2] => { results := [.lit (.bool false)], args := [d1, d2] }
  | _ => none }
def FnExactCloseByWrongFalsely : Prop := fnExactCloseByRow.holds Try.pinned (OpenSpec.ofChange fnExactCloseByWrong)

/-- 'laws.FnExactTurnStart': WHATEVER THE INPUT: true; the input reads as it did. -/
def fnExactTurnStartSpec : ChangeSpec := { name := "fnExactTurnStart", fn := fun _ => fun
  | [d] => { results := [.lit (.bool true)], args := [d] }
  | _ => none }
def fnExactTurnStartRow : OpenClaim := { program := "ytlgnplnmcdjbiaa", sum := "b82001ed7d808b0a524fc9f84e554ea017f6fc870b7b48535bde1cb0db78c333", func := "loop.example/g00736/laws.FnExactTurnStart", spec := "fnExactTurnStart", unfollowed := true, recurses := true, plainKeys := false, apart := false }
def FnExactTurnStartSaid : Prop := fnExactTurnStartRow.holds Try.pinned (OpenSpec.ofChange fnExactTurnStartSpec)

/-- ITS FALSE NEIGHBOUR: 'it returns false'. Refute it at one input. -/
def fnExactTurnStartWrong : ChangeSpec := { name := "fnExactTurnStart", fn := fun _ => fun
  | [d] => { results := [.lit (.bool false)], args := [d] }
  | _ => none }
def FnExactTurnStartWrongFalsely : Prop := fnExactTurnStartRow.holds Try.pinned (OpenSpec.ofChange fnExactTurnStartWrong)

/-- 'laws.FnExactTurnByte': WHATEVER THE INPUT: true; the input reads as it did. -/
def fnExactTurnByteSpec : ChangeSpec := { name := "fnExactTurnByte", fn := fun _ => fun
  | [d1, d2] => { results := [.lit (.bool true)], args := [d1, d2] }
  | _ => none }
def fnExactTurnByteRow : OpenClaim := { program := "ytlgnplnmcdjbiaa", sum := "b82001ed7d808b0a524fc9f84e554ea017f6fc870b7b48535bde1cb0db78c333", func := "loop.example/g00736/laws.FnExactTurnByte", spec := "fnExactTurnByte", inPlace := ["sync/atomic.LoadUint32", "(*internal/sync.Mutex).Lock", "internal/race.Disable", "sync/atomic.CompareAndSwapInt32", "internal/race.Enable", "internal/race.Acquire", "(*internal/sync.Mutex).lockSlow", "internal/sync.runtime_canSpin", "internal/sync.runtime_doSpin", "internal/sync.throw", "internal/sync.runtime_nanotime", "internal/sync.runtime_SemacquireMutex", "sync/atomic.AddInt32", "(*internal/sync.Mutex).Unlock", "internal/race.ReleaseMerge", "(*internal/sync.Mutex).unlockSlow", "internal/sync.fatal", "internal/sync.runtime_Semrelease", "sync/atomic.StoreUint32"], unfollowed := true, recurses := true, plainKeys := false, apart := false }
def FnExactTurnByteSaid : Prop := fnExactTurnByteRow.holds Try.pinned (OpenSpec.ofChange fnExactTurnByteSpec)

/-- ITS FALSE NEIGHBOUR: 'it returns false'. Refute it at one input. -/
def fnExactTurnByteWrong : ChangeSpec := { name := "fnExactTurnByte", fn := fun _ => fun
  | [d1, d2] => { results := [.lit (.bool false)], args := [d1, d2] }
  | _ => none }
def FnExactTurnByteWrongFalsely : Prop := fnExactTurnByteRow.holds Try.pinned (OpenSpec.ofChange fnExactTurnByteWrong)

/-- 'laws.FnExactTurnStep': WHATEVER THE INPUT: true; the input reads as it did. -/
def fnExactTurnStepSpec : ChangeSpec := { name := "fnExactTurnStep", fn := fun _ => fun
  | [d1, d2, d3] => { results := [.lit (.bool true)], args := [d1, d2, d3] }
  | _ => none }
def fnExactTurnStepRow : OpenClaim := { program := "ytlgnplnmcdjbiaa", sum := "b82001ed7d808b0a524fc9f84e554ea017f6fc870b7b48535bde1cb0db78c333", func := "loop.example/g00736/laws.FnExactTurnStep", spec := "fnExactTurnStep", inPlace := ["sync/atomic.LoadUint32", "(*internal/sync.Mutex).Lock", "internal/race.Disable", "sync/atomic.CompareAndSwapInt32", "internal/race.Enable", "internal/race.Acquire", "(*internal/sync.Mutex).lockSlow", "internal/sync.runtime_canSpin", "internal/sync.runtime_doSpin", "internal/sync.throw", "internal/sync.runtime_nanotime", "internal/sync.runtime_SemacquireMutex", "sync/atomic.AddInt32", "(*internal/sync.Mutex).Unlock", "internal/race.ReleaseMerge", "(*internal/sync.Mutex).unlockSlow", "internal/sync.fatal", "internal/sync.runtime_Semrelease", "sync/atomic.StoreUint32"], unfollowed := true, recurses := true, plainKeys := false, apart := false }
def FnExactTurnStepSaid : Prop := fnExactTurnStepRow.holds Try.pinned (OpenSpec.ofChange fnExactTurnStepSpec)

/-- ITS FALSE NEIGHBOUR: 'it returns false'. Refute it at one input. -/
def fnExactTurnStepWrong : ChangeSpec := { name := "fnExactTurnStep", fn := fun _ => fun
  | [d1, d2, d3] => { results := [.lit (.bool false)], args := [d1, d2, d3] }
  | _ => none }
def FnExactTurnStepWrongFalsely : Prop := fnExactTurnStepRow.holds Try.pinned (OpenSpec.ofChange fnExactTurnStepWrong)

/-- 'laws.FnExactTurnRun': WHATEVER THE INPUT: true; the input reads as it did. -/
def fnExactTurnRunSpec : ChangeSpec := { name := "fnExactTurnRun", fn := fun _ => fun
  | [d1, d2] => { results := [.lit (.bool true)], args := [d1, d2] }
  | _ => none }
def fnExactTurnRunRow : OpenClaim := { program := "ytlgnplnmcdjbiaa", sum := "b82001ed7d808b0a524fc9f84e554ea017f6fc870b7b48535bde1cb0db78c333", func := "loop.example/g00736/laws.FnExactTurnRun", spec := "fnExactTurnRun", inPlace := ["sync/atomic.LoadUint32", "(*internal/sync.Mutex).Lock", "internal/race.Disable", "sync/atomic.CompareAndSwapInt32", "internal/race.Enable", "internal/race.Acquire", "(*internal/sync.Mutex).lockSlow", "internal/sync.runtime_canSpin", "internal/sync.runtime_doSpin", "internal/sync.throw", "internal/sync.runtime_nanotime", "internal/sync.runtime_SemacquireMutex", "sync/atomic.AddInt32", "(*internal/sync.Mutex).Unlock", "internal/race.ReleaseMerge", "(*internal/sync.Mutex).unlockSlow", "internal/sync.fatal", "internal/sync.runtime_Semrelease", "sync/atomic.StoreUint32"], unfollowed := true, recurses := true, plainKeys := false, apart := false }
def FnExactTurnRunSaid : Prop := fnExactTurnRunRow.holds Try.pinned (OpenSpec.ofChange fnExactTurnRunSpec)

/-- ITS FALSE NEIGHBOUR: 'it returns false'. Refute it at one input. -/
def fnExactTurnRunWrong : ChangeSpec := { name := "fnExactTurnRun", fn := fun _ => fun
  | [d1, d2] => { results := [.lit (.bool false)], args := [d1, d2] }
  | _ => none }
def FnExactTurnRunWrongFalsely : Prop := fnExactTurnRunRow.holds Try.pinned (OpenSpec.ofChange fnExactTurnRunWrong)

/- THE SECOND FORM. 'bulk': how many values and letters a reading holds, each counted each time it is reached (what is shared counts as often as it is met; a slice's spare places count too). A statement '..UptoSaid' is the law's where the arguments, and the package variables that the reading takes, are together of bulk at most 1048576: NARROWER than '..Said'. Prove '..Said' where nothing that the law and all that it calls make is longer than what came in: it says more and counts as full. Else prove '..UptoSaid'. A law counts once. -/
mutual
def uptoBulk {H : Type} : DataW H → Nat
  | .lit (.string bytes) => bytes.length + 1
  | .lit _ => 1
  | .nil => 1
  | .ptr d => uptoBulk d + 1
  | .slice elems spare => uptoBulkAll elems + uptoBulkAll spare + 1
  | .agg parts => uptoBulkAll parts + 1
  | .iface _ d => uptoBulk d + 1
  | .map entries => uptoBulkEntries entries + 1
  | .held _ => 1
def uptoBulkAll {H : Type} : List (DataW H) → Nat
  | [] => 0
  | d :: r => uptoBulk d + uptoBulkAll r
def uptoBulkEntries {H : Type} : List (Lit × DataW H) → Nat
  | [] => 0
  | x :: r => uptoBulkEntry x + uptoBulkEntries r
def uptoBulkEntry {H : Type} : Lit × DataW H → Nat
  | (.string bytes, d) => bytes.length + uptoBulk d + 1
  | (_, d) => uptoBulk d + 1
 end
def uptoSmall : (H : Type) → List (DataW H) → Bool := fun _ ds => decide (uptoBulkAll ds ≤ 1048576)
def OpenSpec.upto (s : _root_.Go.ChangeSpec) : _root_.Go.OpenSpec := { _root_.Go.OpenSpec.ofChange s with cond := some uptoSmall }

/-- 'laws.FnMeaning', WHERE WHAT IT READS IS OF BULK AT MOST 1048576: true; the input reads as it did. -/
def fnMeaningUptoRow : OpenClaim := { program := "ytlgnplnmcdjbiaa", sum := "b82001ed7d808b0a524fc9f84e554ea017f6fc870b7b48535bde1cb0db78c333", func := "loop.example/g00736/laws.FnMeaning", spec := "fnMeaning", inPlace := ["internal/bytealg.IndexByteString"], unfollowed := true, recurses := true, plainKeys := false, apart := false, narrowed := true }
def FnMeaningUptoSaid : Prop := fnMeaningUptoRow.holds Try.pinned (OpenSpec.upto fnMeaningSpec)

/-- 'laws.FnClose', WHERE WHAT IT READS IS OF BULK AT MOST 1048576: true; the input reads as it did. -/
def fnCloseUptoRow : OpenClaim := { program := "ytlgnplnmcdjbiaa", sum := "b82001ed7d808b0a524fc9f84e554ea017f6fc870b7b48535bde1cb0db78c333", func := "loop.example/g00736/laws.FnClose", spec := "fnClose", unfollowed := true, recurses := true, plainKeys := false, apart := false, narrowed := true }
def FnCloseUptoSaid : Prop := fnCloseUptoRow.holds Try.pinned (OpenSpec.upto fnCloseSpec)

/-- 'laws.FnExactHitsOf', WHERE WHAT IT READS IS OF BULK AT MOST 1048576: true; the input reads as it did. -/
def fnExactHitsOfUptoRow : OpenClaim := { program := "ytlgnplnmcdjbiaa", sum := "b82001ed7d808b0a524fc9f84e554ea017f6fc870b7b48535bde1cb0db78c333", func := "loop.example/g00736/laws.FnExactHitsOf", spec := "fnExactHitsOf", inPlace := ["internal/bytealg.IndexByteString"], unfollowed := true, recurses := true, plainKeys := false, apart := false, narrowed := true }
def FnExactHitsOfUptoSaid : Prop := fnExactHitsOfUptoRow.holds Try.pinned (OpenSpec.upto fnExactHitsOfSpec)

/-- 'laws.FnExactCloseBy', WHERE WHAT IT READS IS OF BULK AT MOST 1048576: true; the input reads as it did. -/
def fnExactCloseByUptoRow : OpenClaim := { program := "ytlgnplnmcdjbiaa", sum := "b82001ed7d808b0a524fc9f84e554ea017f6fc870b7b48535bde1cb0db78c333", func := "loop.example/g00736/laws.FnExactCloseBy", spec := "fnExactCloseBy", unfollowed := true, recurses := true, plainKeys := false, apart := false, narrowed := true }
def FnExactCloseByUptoSaid : Prop := fnExactCloseByUptoRow.holds Try.pinned (OpenSpec.upto fnExactCloseBySpec)

/-- 'laws.FnExactTurnStart', WHERE WHAT IT READS IS OF BULK AT MOST 1048576: true; the input reads as it did. -/
def fnExactTurnStartUptoRow : OpenClaim := { program := "ytlgnplnmcdjbiaa", sum := "b82001ed7d808b0a524fc9f84e554ea017f6fc870b7b48535bde1cb0db78c333", func := "loop.example/g00736/laws.FnExactTurnStart", spec := "fnExactTurnStart", unfollowed := true, recurses := true, plainKeys := false, apart := false, narrowed := true }
def FnExactTurnStartUptoSaid : Prop := fnExactTurnStartUptoRow.holds Try.pinned (OpenSpec.upto fnExactTurnStartSpec)

/-- 'laws.FnExactTurnByte', WHERE WHAT IT READS IS OF BULK AT MOST 1048576: true; the input reads as it did. -/
def fnExactTurnByteUptoRow : OpenClaim := { program := "ytlgnplnmcdjbiaa", sum := "b82001ed7d808b0a524fc9f84e554ea017f6fc870b7b48535bde1cb0db78c333", func := "loop.example/g00736/laws.FnExactTurnByte", spec := "fnExactTurnByte", inPlace := ["sync/atomic.LoadUint32", "(*internal/sync.Mutex).Lock", "internal/race.Disable", "sync/atomic.CompareAndSwapInt32", "internal/race.Enable", "internal/race.Acquire", "(*internal/sync.Mutex).lockSlow", "internal/sync.runtime_canSpin", "internal/sync.runtime_doSpin", "internal/sync.throw", "internal/sync.runtime_nanotime", "internal/sync.runtime_SemacquireMutex", "sync/atomic.AddInt32", "(*internal/sync.Mutex).Unlock", "internal/race.ReleaseMerge", "(*internal/sync.Mutex).unlockSlow", "internal/sync.fatal", "internal/sync.runtime_Semrelease", "sync/atomic.StoreUint32"], unfollowed := true, recurses := true, plainKeys := false, apart := false, narrowed := true }
def FnExactTurnByteUptoSaid : Prop := fnExactTurnByteUptoRow.holds Try.pinned (OpenSpec.upto fnExactTurnByteSpec)

/-- 'laws.FnExactTurnStep', WHERE WHAT IT READS IS OF BULK AT MOST 1048576: true; the input reads as it did. -/
def fnExactTurnStepUptoRow : OpenClaim := { program := "ytlgnplnmcdjbiaa", sum := "b82001ed7d808b0a524fc9f84e554ea017f6fc870b7b48535bde1cb0db78c333", func := "loop.example/g00736/laws.FnExactTurnStep", spec := "fnExactTurnStep", inPlace := ["sync/atomic.LoadUint32", "(*internal/sync.Mutex).Lock", "internal/race.Disable", "sync/atomic.CompareAndSwapInt32", "internal/race.Enable", "internal/race.Acquire", "(*internal/sync.Mutex).lockSlow", "internal/sync.runtime_canSpin", "internal/sync.runtime_doSpin", "internal/sync.throw", "internal/sync.runtime_nanotime", "internal/sync.runtime_SemacquireMutex", "sync/atomic.AddInt32", "(*internal/sync.Mutex).Unlock", "internal/race.ReleaseMerge", "(*internal/sync.Mutex).unlockSlow", "internal/sync.fatal", "internal/sync.runtime_Semrelease", "sync/atomic.StoreUint32"], unfollowed := true, recurses := true, plainKeys := false, apart := false, narrowed := true }
def FnExactTurnStepUptoSaid : Prop := fnExactTurnStepUptoRow.holds Try.pinned (OpenSpec.upto fnExactTurnStepSpec)

/-- 'laws.FnExactTurnRun', WHERE WHAT IT READS IS OF BULK AT MOST 1048576: true; the input reads as it did. -/
def fnExactTurnRunUptoRow : OpenClaim := { program := "ytlgnplnmcdjbiaa", sum := "b82001ed7d808b0a524fc9f84e554ea017f6fc870b7b48535bde1cb0db78c333", func := "loop.example/g00736/laws.FnExactTurnRun", spec := "fnExactTurnRun", inPlace := ["sync/atomic.LoadUint32", "(*internal/sync.Mutex).Lock", "internal/race.Disable", "sync/atomic.CompareAndSwapInt32", "internal/race.Enable", "internal/race.Acquire", "(*internal/sync.Mutex).lockSlow", "internal/sync.runtime_canSpin", "internal/sync.runtime_doSpin", "internal/sync.throw", "internal/sync.runtime_nanotime", "internal/sync.runtime_SemacquireMutex", "sync/atomic.AddInt32", "(*internal/sync.Mutex).Unlock", "internal/race.ReleaseMerge", "(*internal/sync.Mutex).unlockSlow", "internal/sync.fatal", "internal/sync.runtime_Semrelease", "sync/atomic.StoreUint32"], unfollowed := true, recurses := true, plainKeys := false, apart := false, narrowed := true }
def FnExactTurnRunUptoSaid : Prop := fnExactTurnRunUptoRow.holds Try.pinned (OpenSpec.upto fnExactTurnRunSpec)

end Rows
end Go.Proofs.Ytlgnplnmcdjbiaa
