/-
  DERIVED. GIVEN WITH THE SEED: THE CARDS: each row of YtcmnmlginoojkahDoorRows.lean that lists a variable, with what it lists TIED to the program's text (the seventh form; the later family's looks); each row that meets fmt, with fmt's text TOLD by the authors' own Lean function (tested against real Go, not proved from fmt's source: count such statements apart). THE CARD IS WHAT COUNTS. Prove the row's statement (the work); the ties are given (YtcmnmlginoojkahDoorTie.lean); close each card by the builder's one call (the guide's Derived/Test/ToyasCard.lean, 'card_holds'). Laid BY PROGRAM, IN A SANDBOX (cutbox-door.mjs). By AI agents, Wed Nov 11 2026. No macro, syntax, notation, axiom, sorry.
-/
import Derived.Test.YtcmnmlginoojkahDoorRows
import GoSem.ClaimSeven
namespace Go.Proofs.YtcmnmlginoojkahDoor
namespace Rows

/-- THE TIED CARD OF 'laws.FnExactVecHigh'. -/
def fnExactVecHighCard : Claim7 := { stood := { row := fnExactVecHighRow, standIns := [], harness := (true, "1fd29d384e71c405be4df3e16360f21b9a96514d45edb666888fd78969df2273"), looks := false }, kinds := [], alts := [], laidByText := true, laidKinds := [.data], laidTests := true, laidLooks := .later }
def FnExactVecHighCardSaid : Prop := Claim7.holds Tryd.pinned (.plain (OpenSpec.ofChange fnExactVecHighSpec)) fnExactVecHighCard

/-- THE TIED CARD OF 'laws.FnExactVecCount'. -/
def fnExactVecCountCard : Claim7 := { stood := { row := fnExactVecCountRow, standIns := [], harness := (true, "1fd29d384e71c405be4df3e16360f21b9a96514d45edb666888fd78969df2273"), looks := false }, kinds := [], alts := [], laidByText := true, laidKinds := [.data], laidTests := true, laidLooks := .later }
def FnExactVecCountCardSaid : Prop := Claim7.holds Tryd.pinned (.plain (OpenSpec.ofChange fnExactVecCountSpec)) fnExactVecCountCard

/-- THE SECOND FORM's CARD OF 'laws.FnExactVecHigh'. -/
def fnExactVecHighUptoCard : Claim7 := { stood := { row := fnExactVecHighUptoRow, standIns := [], harness := (true, "1fd29d384e71c405be4df3e16360f21b9a96514d45edb666888fd78969df2273"), looks := false }, kinds := [], alts := [], laidByText := true, laidKinds := [.data], laidTests := true, laidLooks := .later }
def FnExactVecHighUptoCardSaid : Prop := Claim7.holds Tryd.pinned (.plain (OpenSpec.upto fnExactVecHighSpec)) fnExactVecHighUptoCard

/-- THE SECOND FORM's CARD OF 'laws.FnExactVecCount'. -/
def fnExactVecCountUptoCard : Claim7 := { stood := { row := fnExactVecCountUptoRow, standIns := [], harness := (true, "1fd29d384e71c405be4df3e16360f21b9a96514d45edb666888fd78969df2273"), looks := false }, kinds := [], alts := [], laidByText := true, laidKinds := [.data], laidTests := true, laidLooks := .later }
def FnExactVecCountUptoCardSaid : Prop := Claim7.holds Tryd.pinned (.plain (OpenSpec.upto fnExactVecCountSpec)) fnExactVecCountUptoCard
end Rows
end Go.Proofs.YtcmnmlginoojkahDoor
