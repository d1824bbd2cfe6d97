/-
  No cell of these rows narrows 'for every input' (looked for: loops, veiled, ifaces, maps, wideKeys, modest, calm, conditions, laid).
  DERIVED. THE GIVEN ROWS OF THIS SEAT. 12 by the template 'for every input the law returns true; each argument reads behind the call as it read before'; 0 by the template 'total and deterministic' (their statements: YtapdegmgochkhaaTotals.lean).
  GIVEN WITH THE SEED: the statements are not yours to turn. If you find one false, say at which input.
  Laid BY PROGRAM, IN A SANDBOX (cutbox-rows.mjs): the forced cells as the released guide's own fill.sh prints them over the translation 29c517c71a9f35cc… (all of the seat's roots in one cut). By AI agents, Wed Nov 11 2026. No macro, syntax, notation, axiom, sorry.
-/
import Derived.Test.YtapdegmgochkhaaChecked
import GoSem.Claim
import GoSem.ClaimJoined
import GoSem.ClaimMapViews
import Derived.JoinedTies
import Derived.KernelRfl
namespace Go.Proofs.Ytapdegmgochkhaa
/- THE CELL 'sum', in the pinned program and in every row, IS THE sha256 OF THE DUMP (.gsa) THAT YtapdegmgochkhaaProg.lean LOADS. Nothing in Lean hashes anything: it is a label: what it is worth is what the hold of that sum in a sandbox is worth. -/
noncomputable def Try.pinned : Pinned := { name := "ytapdegmgochkhaa", sum := "29c517c71a9f35ccabd9c7348a5396434a4d7da44cb36563e2ab8dd4047f5b81", checked := Try.checked }
namespace Rows
def none {H : Type} : Left H := { results := [], args := [] }

/-- 'laws.FnExactCellsRight': WHATEVER THE INPUT: true; the input reads as it did. -/
def fnExactCellsRightSpec : ChangeSpec := { name := "fnExactCellsRight", fn := fun _ => fun
  | [d] => { results := [.lit (.bool true)], args := [d] }
  | _ => none }
def fnExactCellsRightRow : OpenClaim := { program := "ytapdegmgochkhaa", sum := "29c517c71a9f35ccabd9c7348a5396434a4d7da44cb36563e2ab8dd4047f5b81", func := "loop.example/g00736/laws.FnExactCellsRight", spec := "fnExactCellsRight", plainKeys := false, apart := false }
def FnExactCellsRightSaid : Prop := fnExactCellsRightRow.holds Try.pinned (OpenSpec.ofChange fnExactCellsRightSpec)

/-- ITS FALSE NEIGHBOUR: 'it returns false'. Refute it at one input. -/
def fnExactCellsRightWrong : ChangeSpec := { name := "fnExactCellsRight", fn := fun _ => fun
  | [d] => { results := [.lit (.bool false)], args := [d] }
  | _ => none }
def FnExactCellsRightWrongFalsely : Prop := fnExactCellsRightRow.holds Try.pinned (OpenSpec.ofChange fnExactCellsRightWrong)

/-- 'laws.FnExactCellsOf': WHATEVER THE INPUT: true; the input reads as it did. -/
def fnExactCellsOfSpec : ChangeSpec := { name := "fnExactCellsOf", fn := fun _ => fun
  | [d] => { results := [.lit (.bool true)], args := [d] }
  | _ => none }
def fnExactCellsOfRow : OpenClaim := { program := "ytapdegmgochkhaa", sum := "29c517c71a9f35ccabd9c7348a5396434a4d7da44cb36563e2ab8dd4047f5b81", func := "loop.example/g00736/laws.FnExactCellsOf", spec := "fnExactCellsOf", plainKeys := false, apart := false }
def FnExactCellsOfSaid : Prop := fnExactCellsOfRow.holds Try.pinned (OpenSpec.ofChange fnExactCellsOfSpec)

/-- ITS FALSE NEIGHBOUR: 'it returns false'. Refute it at one input. -/
def fnExactCellsOfWrong : ChangeSpec := { name := "fnExactCellsOf", fn := fun _ => fun
  | [d] => { results := [.lit (.bool false)], args := [d] }
  | _ => none }
def FnExactCellsOfWrongFalsely : Prop := fnExactCellsOfRow.holds Try.pinned (OpenSpec.ofChange fnExactCellsOfWrong)

/-- 'laws.FnExactCellsFit': WHATEVER THE INPUT: true; the input reads as it did. -/
def fnExactCellsFitSpec : ChangeSpec := { name := "fnExactCellsFit", fn := fun _ => fun
  | [d1, d2] => { results := [.lit (.bool true)], args := [d1, d2] }
  | _ => none }
def fnExactCellsFitRow : OpenClaim := { program := "ytapdegmgochkhaa", sum := "29c517c71a9f35ccabd9c7348a5396434a4d7da44cb36563e2ab8dd4047f5b81", func := "loop.example/g00736/laws.FnExactCellsFit", spec := "fnExactCellsFit", inPlace := ["sync/atomic.LoadUint32", "(*internal/sync.Mutex).Lock", "internal/race.Disable", "sync/atomic.CompareAndSwapInt32", "internal/race.Enable", "internal/race.Acquire", "(*internal/sync.Mutex).lockSlow", "internal/sync.runtime_canSpin", "internal/sync.runtime_doSpin", "internal/sync.throw", "internal/sync.runtime_nanotime", "internal/sync.runtime_SemacquireMutex", "sync/atomic.AddInt32", "(*internal/sync.Mutex).Unlock", "internal/race.ReleaseMerge", "(*internal/sync.Mutex).unlockSlow", "internal/sync.fatal", "internal/sync.runtime_Semrelease", "sync/atomic.StoreUint32"], unfollowed := true, recurses := true, plainKeys := false, apart := false }
def FnExactCellsFitSaid : Prop := fnExactCellsFitRow.holds Try.pinned (OpenSpec.ofChange fnExactCellsFitSpec)

/-- ITS FALSE NEIGHBOUR: 'it returns false'. Refute it at one input. -/
def fnExactCellsFitWrong : ChangeSpec := { name := "fnExactCellsFit", fn := fun _ => fun
  | [d1, d2] => { results := [.lit (.bool false)], args := [d1, d2] }
  | _ => none }
def FnExactCellsFitWrongFalsely : Prop := fnExactCellsFitRow.holds Try.pinned (OpenSpec.ofChange fnExactCellsFitWrong)

/-- 'laws.FnExactPlain': WHATEVER THE INPUT: true; the input reads as it did. -/
def fnExactPlainSpec : ChangeSpec := { name := "fnExactPlain", fn := fun _ => fun
  | [d] => { results := [.lit (.bool true)], args := [d] }
  | _ => none }
def fnExactPlainRow : OpenClaim := { program := "ytapdegmgochkhaa", sum := "29c517c71a9f35ccabd9c7348a5396434a4d7da44cb36563e2ab8dd4047f5b81", func := "loop.example/g00736/laws.FnExactPlain", spec := "fnExactPlain", unfollowed := true, recurses := true, plainKeys := false, apart := false }
def FnExactPlainSaid : Prop := fnExactPlainRow.holds Try.pinned (OpenSpec.ofChange fnExactPlainSpec)

/-- ITS FALSE NEIGHBOUR: 'it returns false'. Refute it at one input. -/
def fnExactPlainWrong : ChangeSpec := { name := "fnExactPlain", fn := fun _ => fun
  | [d] => { results := [.lit (.bool false)], args := [d] }
  | _ => none }
def FnExactPlainWrongFalsely : Prop := fnExactPlainRow.holds Try.pinned (OpenSpec.ofChange fnExactPlainWrong)

/-- 'laws.FnExactMasksOf': WHATEVER THE INPUT: true; the input reads as it did. -/
def fnExactMasksOfSpec : ChangeSpec := { name := "fnExactMasksOf", fn := fun _ => fun
  | [d] => { results := [.lit (.bool true)], args := [d] }
  | _ => none }
def fnExactMasksOfRow : OpenClaim := { program := "ytapdegmgochkhaa", sum := "29c517c71a9f35ccabd9c7348a5396434a4d7da44cb36563e2ab8dd4047f5b81", func := "loop.example/g00736/laws.FnExactMasksOf", spec := "fnExactMasksOf", unfollowed := true, recurses := true, plainKeys := false, apart := false }
def FnExactMasksOfSaid : Prop := fnExactMasksOfRow.holds Try.pinned (OpenSpec.ofChange fnExactMasksOfSpec)

/-- ITS FALSE NEIGHBOUR: 'it returns false'. Refute it at one input. -/
def fnExactMasksOfWrong : ChangeSpec := { name := "fnExactMasksOf", fn := fun _ => fun
  | [d] => { results := [.lit (.bool false)], args := [d] }
  | _ => none }
def FnExactMasksOfWrongFalsely : Prop := fnExactMasksOfRow.holds Try.pinned (OpenSpec.ofChange fnExactMasksOfWrong)

/-- 'laws.FnExactByteVec': WHATEVER THE INPUT: true; the input reads as it did. -/
def fnExactByteVecSpec : ChangeSpec := { name := "fnExactByteVec", fn := fun _ => fun
  | [d1, d2] => { results := [.lit (.bool true)], args := [d1, d2] }
  | _ => none }
def fnExactByteVecRow : OpenClaim := { program := "ytapdegmgochkhaa", sum := "29c517c71a9f35ccabd9c7348a5396434a4d7da44cb36563e2ab8dd4047f5b81", func := "loop.example/g00736/laws.FnExactByteVec", spec := "fnExactByteVec", inPlace := ["sync/atomic.LoadUint32", "(*internal/sync.Mutex).Lock", "internal/race.Disable", "sync/atomic.CompareAndSwapInt32", "internal/race.Enable", "internal/race.Acquire", "(*internal/sync.Mutex).lockSlow", "internal/sync.runtime_canSpin", "internal/sync.runtime_doSpin", "internal/sync.throw", "internal/sync.runtime_nanotime", "internal/sync.runtime_SemacquireMutex", "sync/atomic.AddInt32", "(*internal/sync.Mutex).Unlock", "internal/race.ReleaseMerge", "(*internal/sync.Mutex).unlockSlow", "internal/sync.fatal", "internal/sync.runtime_Semrelease", "sync/atomic.StoreUint32"], unfollowed := true, recurses := true, plainKeys := false, apart := false }
def FnExactByteVecSaid : Prop := fnExactByteVecRow.holds Try.pinned (OpenSpec.ofChange fnExactByteVecSpec)

/-- ITS FALSE NEIGHBOUR: 'it returns false'. Refute it at one input. -/
def fnExactByteVecWrong : ChangeSpec := { name := "fnExactByteVec", fn := fun _ => fun
  | [d1, d2] => { results := [.lit (.bool false)], args := [d1, d2] }
  | _ => none }
def FnExactByteVecWrongFalsely : Prop := fnExactByteVecRow.holds Try.pinned (OpenSpec.ofChange fnExactByteVecWrong)

/-- 'laws.FnExactLoopVec': WHATEVER THE INPUT: true; the input reads as it did. -/
def fnExactLoopVecSpec : ChangeSpec := { name := "fnExactLoopVec", fn := fun _ => fun
  | [d1, d2] => { results := [.lit (.bool true)], args := [d1, d2] }
  | _ => none }
def fnExactLoopVecRow : OpenClaim := { program := "ytapdegmgochkhaa", sum := "29c517c71a9f35ccabd9c7348a5396434a4d7da44cb36563e2ab8dd4047f5b81", func := "loop.example/g00736/laws.FnExactLoopVec", spec := "fnExactLoopVec", inPlace := ["sync/atomic.LoadUint32", "(*internal/sync.Mutex).Lock", "internal/race.Disable", "sync/atomic.CompareAndSwapInt32", "internal/race.Enable", "internal/race.Acquire", "(*internal/sync.Mutex).lockSlow", "internal/sync.runtime_canSpin", "internal/sync.runtime_doSpin", "internal/sync.throw", "internal/sync.runtime_nanotime", "internal/sync.runtime_SemacquireMutex", "sync/atomic.AddInt32", "(*internal/sync.Mutex).Unlock", "internal/race.ReleaseMerge", "(*internal/sync.Mutex).unlockSlow", "internal/sync.fatal", "internal/sync.runtime_Semrelease", "sync/atomic.StoreUint32"], unfollowed := true, recurses := true, plainKeys := false, apart := false }
def FnExactLoopVecSaid : Prop := fnExactLoopVecRow.holds Try.pinned (OpenSpec.ofChange fnExactLoopVecSpec)

/-- ITS FALSE NEIGHBOUR: 'it returns false'. Refute it at one input. -/
def fnExactLoopVecWrong : ChangeSpec := { name := "fnExactLoopVec", fn := fun _ => fun
  | [d1, d2] => { results := [.lit (.bool false)], args := [d1, d2] }
  | _ => none }
def FnExactLoopVecWrongFalsely : Prop := fnExactLoopVecRow.holds Try.pinned (OpenSpec.ofChange fnExactLoopVecWrong)

/-- 'laws.FnExactFits': WHATEVER THE INPUT: true; the input reads as it did. -/
def fnExactFitsSpec : ChangeSpec := { name := "fnExactFits", fn := fun _ => fun
  | [d1, d2] => { results := [.lit (.bool true)], args := [d1, d2] }
  | _ => none }
def fnExactFitsRow : OpenClaim := { program := "ytapdegmgochkhaa", sum := "29c517c71a9f35ccabd9c7348a5396434a4d7da44cb36563e2ab8dd4047f5b81", func := "loop.example/g00736/laws.FnExactFits", spec := "fnExactFits", inPlace := ["internal/bytealg.IndexByteString"], recurses := true, plainKeys := false, apart := false }
def FnExactFitsSaid : Prop := fnExactFitsRow.holds Try.pinned (OpenSpec.ofChange fnExactFitsSpec)

/-- ITS FALSE NEIGHBOUR: 'it returns false'. Refute it at one input. -/
def fnExactFitsWrong : ChangeSpec := { name := "fnExactFits", fn := fun _ => fun
  | [d1, d2] => { results := [.lit (.bool false)], args := [d1, d2] }
  | _ => none }
def FnExactFitsWrongFalsely : Prop := fnExactFitsRow.holds Try.pinned (OpenSpec.ofChange fnExactFitsWrong)

/-- 'laws.FnExactEndsOf': WHATEVER THE INPUT: true; the input reads as it did. -/
def fnExactEndsOfSpec : ChangeSpec := { name := "fnExactEndsOf", fn := fun _ => fun
  | [d1, d2] => { results := [.lit (.bool true)], args := [d1, d2] }
  | _ => none }
def fnExactEndsOfRow : OpenClaim := { program := "ytapdegmgochkhaa", sum := "29c517c71a9f35ccabd9c7348a5396434a4d7da44cb36563e2ab8dd4047f5b81", func := "loop.example/g00736/laws.FnExactEndsOf", spec := "fnExactEndsOf", inPlace := ["internal/bytealg.IndexByteString"], recurses := true, plainKeys := false, apart := false }
def FnExactEndsOfSaid : Prop := fnExactEndsOfRow.holds Try.pinned (OpenSpec.ofChange fnExactEndsOfSpec)

/-- ITS FALSE NEIGHBOUR: 'it returns false'. Refute it at one input. -/
def fnExactEndsOfWrong : ChangeSpec := { name := "fnExactEndsOf", fn := fun _ => fun
  | [d1, d2] => { results := [.lit (.bool false)], args := [d1, d2] }
  | _ => none }
def FnExactEndsOfWrongFalsely : Prop := fnExactEndsOfRow.holds Try.pinned (OpenSpec.ofChange fnExactEndsOfWrong)

/-- 'laws.FnExactStartsOf': WHATEVER THE INPUT: true; the input reads as it did. -/
def fnExactStartsOfSpec : ChangeSpec := { name := "fnExactStartsOf", fn := fun _ => fun
  | [d1, d2, d3] => { results := [.lit (.bool true)], args := [d1, d2, d3] }
  | _ => none }
def fnExactStartsOfRow : OpenClaim := { program := "ytapdegmgochkhaa", sum := "29c517c71a9f35ccabd9c7348a5396434a4d7da44cb36563e2ab8dd4047f5b81", func := "loop.example/g00736/laws.FnExactStartsOf", spec := "fnExactStartsOf", inPlace := ["internal/bytealg.IndexByteString"], recurses := true, plainKeys := false, apart := false }
def FnExactStartsOfSaid : Prop := fnExactStartsOfRow.holds Try.pinned (OpenSpec.ofChange fnExactStartsOfSpec)

/-- ITS FALSE NEIGHBOUR: 'it returns false'. Refute it at one input. -/
def fnExactStartsOfWrong : ChangeSpec := { name := "fnExactStartsOf", fn := fun _ => fun
  | [d1, d2, d3] => { results := [.lit (.bool false)], args := [d1, d2, d3] }
  | _ => none }
def FnExactStartsOfWrongFalsely : Prop := fnExactStartsOfRow.holds Try.pinned (OpenSpec.ofChange fnExactStartsOfWrong)

/-- 'laws.FnExactHitsOf': WHATEVER THE INPUT: true; the input reads as it did. -/
def fnExactHitsOfSpec : ChangeSpec := { name := "fnExactHitsOf", fn := fun _ => fun
  | [d1, d2] => { results := [.lit (.bool true)], args := [d1, d2] }
  | _ => none }
def fnExactHitsOfRow : OpenClaim := { program := "ytapdegmgochkhaa", sum := "29c517c71a9f35ccabd9c7348a5396434a4d7da44cb36563e2ab8dd4047f5b81", func := "loop.example/g00736/laws.FnExactHitsOf", spec := "fnExactHitsOf", inPlace := ["internal/bytealg.IndexByteString"], unfollowed := true, recurses := true, plainKeys := false, apart := false }
def FnExactHitsOfSaid : Prop := fnExactHitsOfRow.holds Try.pinned (OpenSpec.ofChange fnExactHitsOfSpec)

/-- ITS FALSE NEIGHBOUR: 'it returns false'. Refute it at one input. -/
def fnExactHitsOfWrong : ChangeSpec := { name := "fnExactHitsOf", fn := fun _ => fun
  | [d1, d2] => { results := [.lit (.bool false)], args := [d1, d2] }
  | _ => none }
def FnExactHitsOfWrongFalsely : Prop := fnExactHitsOfRow.holds Try.pinned (OpenSpec.ofChange fnExactHitsOfWrong)

/-- 'laws.FnMeaning': WHATEVER THE INPUT: true; the input reads as it did. -/
def fnMeaningSpec : ChangeSpec := { name := "fnMeaning", fn := fun _ => fun
  | [d1, d2] => { results := [.lit (.bool true)], args := [d1, d2] }
  | _ => none }
def fnMeaningRow : OpenClaim := { program := "ytapdegmgochkhaa", sum := "29c517c71a9f35ccabd9c7348a5396434a4d7da44cb36563e2ab8dd4047f5b81", func := "loop.example/g00736/laws.FnMeaning", spec := "fnMeaning", inPlace := ["internal/bytealg.IndexByteString"], unfollowed := true, recurses := true, plainKeys := false, apart := false }
def FnMeaningSaid : Prop := fnMeaningRow.holds Try.pinned (OpenSpec.ofChange fnMeaningSpec)

/-- ITS FALSE NEIGHBOUR: 'it returns false'. Refute it at one input. -/
def fnMeaningWrong : ChangeSpec := { name := "fnMeaning", fn := fun _ => fun
  | [d1, d2] => { results := [.lit (.bool false)], args := [d1, d2] }
  | _ => none }
def FnMeaningWrongFalsely : Prop := fnMeaningRow.holds Try.pinned (OpenSpec.ofChange fnMeaningWrong)

/- THE SECOND FORM. 'bulk': how many values and letters a reading holds, each counted each time it is reached (what is shared counts as often as it is met; a slice's spare places count too). A statement '..UptoSaid' is the law's where the arguments, and the package variables that the reading takes, are together of bulk at most 1048576: NARROWER than '..Said'. Prove '..Said' where nothing that the law and all that it calls make is longer than what came in: it says more and counts as full. Else prove '..UptoSaid'. A law counts once. -/
mutual
def uptoBulk {H : Type} : DataW H → Nat
  | .lit (.string bytes) => bytes.length + 1
  | .lit _ => 1
  | .nil => 1
  | .ptr d => uptoBulk d + 1
  | .slice elems spare => uptoBulkAll elems + uptoBulkAll spare + 1
  | .agg parts => uptoBulkAll parts + 1
  | .iface _ d => uptoBulk d + 1
  | .map entries => uptoBulkEntries entries + 1
  | .held _ => 1
def uptoBulkAll {H : Type} : List (DataW H) → Nat
  | [] => 0
  | d :: r => uptoBulk d + uptoBulkAll r
def uptoBulkEntries {H : Type} : List (Lit × DataW H) → Nat
  | [] => 0
  | x :: r => uptoBulkEntry x + uptoBulkEntries r
def uptoBulkEntry {H : Type} : Lit × DataW H → Nat
  | (.string bytes, d) => bytes.length + uptoBulk d + 1
  | (_, d) => uptoBulk d + 1
 end
def uptoSmall : (H : Type) → List (DataW H) → Bool := fun _ ds => decide (uptoBulkAll ds ≤ 1048576)
def OpenSpec.upto (s : _root_.Go.ChangeSpec) : _root_.Go.OpenSpec := { _root_.Go.OpenSpec.ofChange s with cond := some uptoSmall }

/-- 'laws.FnExactCellsRight', WHERE WHAT IT READS IS OF BULK AT MOST 1048576: true; the input reads as it did. -/
def fnExactCellsRightUptoRow : OpenClaim := { program := "ytapdegmgochkhaa", sum := "29c517c71a9f35ccabd9c7348a5396434a4d7da44cb36563e2ab8dd4047f5b81", func := "loop.example/g00736/laws.FnExactCellsRight", spec := "fnExactCellsRight", plainKeys := false, apart := false, narrowed := true }
def FnExactCellsRightUptoSaid : Prop := fnExactCellsRightUptoRow.holds Try.pinned (OpenSpec.upto fnExactCellsRightSpec)

/-- 'laws.FnExactCellsOf', WHERE WHAT IT READS IS OF BULK AT MOST 1048576: true; the input reads as it did. -/
def fnExactCellsOfUptoRow : OpenClaim := { program := "ytapdegmgochkhaa", sum := "29c517c71a9f35ccabd9c7348a5396434a4d7da44cb36563e2ab8dd4047f5b81", func := "loop.example/g00736/laws.FnExactCellsOf", spec := "fnExactCellsOf", plainKeys := false, apart := false, narrowed := true }
def FnExactCellsOfUptoSaid : Prop := fnExactCellsOfUptoRow.holds Try.pinned (OpenSpec.upto fnExactCellsOfSpec)

/-- 'laws.FnExactCellsFit', WHERE WHAT IT READS IS OF BULK AT MOST 1048576: true; the input reads as it did. -/
def fnExactCellsFitUptoRow : OpenClaim := { program := "ytapdegmgochkhaa", sum := "29c517c71a9f35ccabd9c7348a5396434a4d7da44cb36563e2ab8dd4047f5b81", func := "loop.example/g00736/laws.FnExactCellsFit", spec := "fnExactCellsFit", inPlace := ["sync/atomic.LoadUint32", "(*internal/sync.Mutex).Lock", "internal/race.Disable", "sync/atomic.CompareAndSwapInt32", "internal/race.Enable", "internal/race.Acquire", "(*internal/sync.Mutex).lockSlow", "internal/sync.runtime_canSpin", "internal/sync.runtime_doSpin", "internal/sync.throw", "internal/sync.runtime_nanotime", "internal/sync.runtime_SemacquireMutex", "sync/atomic.AddInt32", "(*internal/sync.Mutex).Unlock", "internal/race.ReleaseMerge", "(*internal/sync.Mutex).unlockSlow", "internal/sync.fatal", "internal/sync.runtime_Semrelease", "sync/atomic.StoreUint32"], unfollowed := true, recurses := true, plainKeys := false, apart := false, narrowed := true }
def FnExactCellsFitUptoSaid : Prop := fnExactCellsFitUptoRow.holds Try.pinned (OpenSpec.upto fnExactCellsFitSpec)

/-- 'laws.FnExactPlain', WHERE WHAT IT READS IS OF BULK AT MOST 1048576: true; the input reads as it did. -/
def fnExactPlainUptoRow : OpenClaim := { program := "ytapdegmgochkhaa", sum := "29c517c71a9f35ccabd9c7348a5396434a4d7da44cb36563e2ab8dd4047f5b81", func := "loop.example/g00736/laws.FnExactPlain", spec := "fnExactPlain", unfollowed := true, recurses := true, plainKeys := false, apart := false, narrowed := true }
def FnExactPlainUptoSaid : Prop := fnExactPlainUptoRow.holds Try.pinned (OpenSpec.upto fnExactPlainSpec)

/-- 'laws.FnExactMasksOf', WHERE WHAT IT READS IS OF BULK AT MOST 1048576: true; the input reads as it did. -/
def fnExactMasksOfUptoRow : OpenClaim := { program := "ytapdegmgochkhaa", sum := "29c517c71a9f35ccabd9c7348a5396434a4d7da44cb36563e2ab8dd4047f5b81", func := "loop.example/g00736/laws.FnExactMasksOf", spec := "fnExactMasksOf", unfollowed := true, recurses := true, plainKeys := false, apart := false, narrowed := true }
def FnExactMasksOfUptoSaid : Prop := fnExactMasksOfUptoRow.holds Try.pinned (OpenSpec.upto fnExactMasksOfSpec)

/-- 'laws.FnExactByteVec', WHERE WHAT IT READS IS OF BULK AT MOST 1048576: true; the input reads as it did. -/
def fnExactByteVecUptoRow : OpenClaim := { program := "ytapdegmgochkhaa", sum := "29c517c71a9f35ccabd9c7348a5396434a4d7da44cb36563e2ab8dd4047f5b81", func := "loop.example/g00736/laws.FnExactByteVec", spec := "fnExactByteVec", inPlace := ["sync/atomic.LoadUint32", "(*internal/sync.Mutex).Lock", "internal/race.Disable", "sync/atomic.CompareAndSwapInt32", "internal/race.Enable", "internal/race.Acquire", "(*internal/sync.Mutex).lockSlow", "internal/sync.runtime_canSpin", "internal/sync.runtime_doSpin", "internal/sync.throw", "internal/sync.runtime_nanotime", "internal/sync.runtime_SemacquireMutex", "sync/atomic.AddInt32", "(*internal/sync.Mutex).Unlock", "internal/race.ReleaseMerge", "(*internal/sync.Mutex).unlockSlow", "internal/sync.fatal", "internal/sync.runtime_Semrelease", "sync/atomic.StoreUint32"], unfollowed := true, recurses := true, plainKeys := false, apart := false, narrowed := true }
def FnExactByteVecUptoSaid : Prop := fnExactByteVecUptoRow.holds Try.pinned (OpenSpec.upto fnExactByteVecSpec)

/-- 'laws.FnExactLoopVec', WHERE WHAT IT READS IS OF BULK AT MOST 1048576: true; the input reads as it did. -/
def fnExactLoopVecUptoRow : OpenClaim := { program := "ytapdegmgochkhaa", sum := "29c517c71a9f35ccabd9c7348a5396434a4d7da44cb36563e2ab8dd4047f5b81", func := "loop.example/g00736/laws.FnExactLoopVec", spec := "fnExactLoopVec", inPlace := ["sync/atomic.LoadUint32", "(*internal/sync.Mutex).Lock", "internal/race.Disable", "sync/atomic.CompareAndSwapInt32", "internal/race.Enable", "internal/race.Acquire", "(*internal/sync.Mutex).lockSlow", "internal/sync.runtime_canSpin", "internal/sync.runtime_doSpin", "internal/sync.throw", "internal/sync.runtime_nanotime", "internal/sync.runtime_SemacquireMutex", "sync/atomic.AddInt32", "(*internal/sync.Mutex).Unlock", "internal/race.ReleaseMerge", "(*internal/sync.Mutex).unlockSlow", "internal/sync.fatal", "internal/sync.runtime_Semrelease", "sync/atomic.StoreUint32"], unfollowed := true, recurses := true, plainKeys := false, apart := false, narrowed := true }
def FnExactLoopVecUptoSaid : Prop := fnExactLoopVecUptoRow.holds Try.pinned (OpenSpec.upto fnExactLoopVecSpec)

/-- 'laws.FnExactFits', WHERE WHAT IT READS IS OF BULK AT MOST 1048576: true; the input reads as it did. -/
def fnExactFitsUptoRow : OpenClaim := { program := "ytapdegmgochkhaa", sum := "29c517c71a9f35ccabd9c7348a5396434a4d7da44cb36563e2ab8dd4047f5b81", func := "loop.example/g00736/laws.FnExactFits", spec := "fnExactFits", inPlace := ["internal/bytealg.IndexByteString"], recurses := true, plainKeys := false, apart := false, narrowed := true }
def FnExactFitsUptoSaid : Prop := fnExactFitsUptoRow.holds Try.pinned (OpenSpec.upto fnExactFitsSpec)

/-- 'laws.FnExactEndsOf', WHERE WHAT IT READS IS OF BULK AT MOST 1048576: true; the input reads as it did. -/
def fnExactEndsOfUptoRow : OpenClaim := { program := "ytapdegmgochkhaa", sum := "29c517c71a9f35ccabd9c7348a5396434a4d7da44cb36563e2ab8dd4047f5b81", func := "loop.example/g00736/laws.FnExactEndsOf", spec := "fnExactEndsOf", inPlace := ["internal/bytealg.IndexByteString"], recurses := true, plainKeys := false, apart := false, narrowed := true }
def FnExactEndsOfUptoSaid : Prop := fnExactEndsOfUptoRow.holds Try.pinned (OpenSpec.upto fnExactEndsOfSpec)

/-- 'laws.FnExactStartsOf', WHERE WHAT IT READS IS OF BULK AT MOST 1048576: true; the input reads as it did. -/
def fnExactStartsOfUptoRow : OpenClaim := { program := "ytapdegmgochkhaa", sum := "29c517c71a9f35ccabd9c7348a5396434a4d7da44cb36563e2ab8dd4047f5b81", func := "loop.example/g00736/laws.FnExactStartsOf", spec := "fnExactStartsOf", inPlace := ["internal/bytealg.IndexByteString"], recurses := true, plainKeys := false, apart := false, narrowed := true }
def FnExactStartsOfUptoSaid : Prop := fnExactStartsOfUptoRow.holds Try.pinned (OpenSpec.upto fnExactStartsOfSpec)

/-- 'laws.FnExactHitsOf', WHERE WHAT IT READS IS OF BULK AT MOST 1048576: true; the input reads as it did. -/
def fnExactHitsOfUptoRow : OpenClaim := { program := "ytapdegmgochkhaa", sum := "29c517c71a9f35ccabd9c7348a5396434a4d7da44cb36563e2ab8dd4047f5b81", func := "loop.example/g00736/laws.FnExactHitsOf", spec := "fnExactHitsOf", inPlace := ["internal/bytealg.IndexByteString"], unfollowed := true, recurses := true, plainKeys := false, apart := false, narrowed := true }
def FnExactHitsOfUptoSaid : Prop := fnExactHitsOfUptoRow.holds Try.pinned (OpenSpec.upto fnExactHitsOfSpec)

/-- 'laws.FnMeaning', WHERE WHAT IT READS IS OF BULK AT MOST 1048576: true; the input reads as it did. -/
def fnMeaningUptoRow : OpenClaim := { program := "ytapdegmgochkhaa", sum := "29c517c71a9f35ccabd9c7348a5396434a4d7da44cb36563e2ab8dd4047f5b81", func := "loop.example/g00736/laws.FnMeaning", spec := "fnMeaning", inPlace := ["internal/bytealg.IndexByteString"], unfollowed := true, recurses := true, plainKeys := false, apart := false, narrowed := true }
def FnMeaningUptoSaid : Prop := fnMeaningUptoRow.holds Try.pinned (OpenSpec.upto fnMeaningSpec)

end Rows
end Go.Proofs.Ytapdegmgochkhaa
