/-
  DERIVED. GIVEN WITH THE SEED: THE CARDS: each row of YtcppbddjboobhahDoorRows.lean that lists a variable, with what it lists TIED to the program's text (the seventh form; the later family's looks); each row that meets fmt, with fmt's text TOLD by the authors' own Lean function (tested against real Go, not proved from fmt's source: count such statements apart). THE CARD IS WHAT COUNTS. Prove the row's statement (the work); the ties are given (YtcppbddjboobhahDoorTie.lean); close each card by the builder's one call (the guide's Derived/Test/ToyasCard.lean, 'card_holds'). Laid BY PROGRAM, IN A SANDBOX (cutbox-door.mjs). By AI agents, Wed Nov 11 2026. No macro, syntax, notation, axiom, sorry.
-/
import Derived.Test.YtcppbddjboobhahDoorRows
import GoSem.ClaimSeven
namespace Go.Proofs.YtcppbddjboobhahDoor
namespace Rows

/-- THE TIED CARD OF 'laws.FnExactVecHigh'. -/
def fnExactVecHighCard : Claim7 := { stood := { row := fnExactVecHighRow, standIns := [], harness := (true, "e744614b1b9b5528053e3697c57124cec3d308bf1961384b824efee9da7b76ce"), looks := false }, kinds := [], alts := [], laidByText := true, laidKinds := [.data], laidTests := true, laidLooks := .later }
def FnExactVecHighCardSaid : Prop := Claim7.holds Tryd.pinned (.plain (OpenSpec.ofChange fnExactVecHighSpec)) fnExactVecHighCard

/-- THE TIED CARD OF 'laws.FnExactVecCount'. -/
def fnExactVecCountCard : Claim7 := { stood := { row := fnExactVecCountRow, standIns := [], harness := (true, "e744614b1b9b5528053e3697c57124cec3d308bf1961384b824efee9da7b76ce"), looks := false }, kinds := [], alts := [], laidByText := true, laidKinds := [.data], laidTests := true, laidLooks := .later }
def FnExactVecCountCardSaid : Prop := Claim7.holds Tryd.pinned (.plain (OpenSpec.ofChange fnExactVecCountSpec)) fnExactVecCountCard

/-- THE TIED CARD OF 'laws.FnExactClassOf'. -/
def fnExactClassOfCard : Claim7 := { stood := { row := fnExactClassOfRow, standIns := [], harness := (true, "e744614b1b9b5528053e3697c57124cec3d308bf1961384b824efee9da7b76ce"), looks := false }, kinds := [], alts := [], laidByText := true, laidKinds := [.data], laidTests := true, laidLooks := .later }
def FnExactClassOfCardSaid : Prop := Claim7.holds Tryd.pinned (.plain (OpenSpec.ofChange fnExactClassOfSpec)) fnExactClassOfCard

/-- THE TIED CARD OF 'laws.FnExactClassSpan'. -/
def fnExactClassSpanCard : Claim7 := { stood := { row := fnExactClassSpanRow, standIns := [], harness := (true, "e744614b1b9b5528053e3697c57124cec3d308bf1961384b824efee9da7b76ce"), looks := false }, kinds := [], alts := [], laidByText := true, laidKinds := [.data], laidTests := true, laidLooks := .later }
def FnExactClassSpanCardSaid : Prop := Claim7.holds Tryd.pinned (.plain (OpenSpec.ofChange fnExactClassSpanSpec)) fnExactClassSpanCard

/-- THE TIED CARD OF 'laws.FnExactClassOr'. -/
def fnExactClassOrCard : Claim7 := { stood := { row := fnExactClassOrRow, standIns := [], harness := (true, "e744614b1b9b5528053e3697c57124cec3d308bf1961384b824efee9da7b76ce"), looks := false }, kinds := [], alts := [], laidByText := true, laidKinds := [.data], laidTests := true, laidLooks := .later }
def FnExactClassOrCardSaid : Prop := Claim7.holds Tryd.pinned (.plain (OpenSpec.ofChange fnExactClassOrSpec)) fnExactClassOrCard

/-- THE SECOND FORM's CARD OF 'laws.FnExactVecHigh'. -/
def fnExactVecHighUptoCard : Claim7 := { stood := { row := fnExactVecHighUptoRow, standIns := [], harness := (true, "e744614b1b9b5528053e3697c57124cec3d308bf1961384b824efee9da7b76ce"), looks := false }, kinds := [], alts := [], laidByText := true, laidKinds := [.data], laidTests := true, laidLooks := .later }
def FnExactVecHighUptoCardSaid : Prop := Claim7.holds Tryd.pinned (.plain (OpenSpec.upto fnExactVecHighSpec)) fnExactVecHighUptoCard

/-- THE SECOND FORM's CARD OF 'laws.FnExactVecCount'. -/
def fnExactVecCountUptoCard : Claim7 := { stood := { row := fnExactVecCountUptoRow, standIns := [], harness := (true, "e744614b1b9b5528053e3697c57124cec3d308bf1961384b824efee9da7b76ce"), looks := false }, kinds := [], alts := [], laidByText := true, laidKinds := [.data], laidTests := true, laidLooks := .later }
def FnExactVecCountUptoCardSaid : Prop := Claim7.holds Tryd.pinned (.plain (OpenSpec.upto fnExactVecCountSpec)) fnExactVecCountUptoCard

/-- THE SECOND FORM's CARD OF 'laws.FnExactClassOf'. -/
def fnExactClassOfUptoCard : Claim7 := { stood := { row := fnExactClassOfUptoRow, standIns := [], harness := (true, "e744614b1b9b5528053e3697c57124cec3d308bf1961384b824efee9da7b76ce"), looks := false }, kinds := [], alts := [], laidByText := true, laidKinds := [.data], laidTests := true, laidLooks := .later }
def FnExactClassOfUptoCardSaid : Prop := Claim7.holds Tryd.pinned (.plain (OpenSpec.upto fnExactClassOfSpec)) fnExactClassOfUptoCard

/-- THE SECOND FORM's CARD OF 'laws.FnExactClassSpan'. -/
def fnExactClassSpanUptoCard : Claim7 := { stood := { row := fnExactClassSpanUptoRow, standIns := [], harness := (true, "e744614b1b9b5528053e3697c57124cec3d308bf1961384b824efee9da7b76ce"), looks := false }, kinds := [], alts := [], laidByText := true, laidKinds := [.data], laidTests := true, laidLooks := .later }
def FnExactClassSpanUptoCardSaid : Prop := Claim7.holds Tryd.pinned (.plain (OpenSpec.upto fnExactClassSpanSpec)) fnExactClassSpanUptoCard

/-- THE SECOND FORM's CARD OF 'laws.FnExactClassOr'. -/
def fnExactClassOrUptoCard : Claim7 := { stood := { row := fnExactClassOrUptoRow, standIns := [], harness := (true, "e744614b1b9b5528053e3697c57124cec3d308bf1961384b824efee9da7b76ce"), looks := false }, kinds := [], alts := [], laidByText := true, laidKinds := [.data], laidTests := true, laidLooks := .later }
def FnExactClassOrUptoCardSaid : Prop := Claim7.holds Tryd.pinned (.plain (OpenSpec.upto fnExactClassOrSpec)) fnExactClassOrUptoCard
end Rows
end Go.Proofs.YtcppbddjboobhahDoor
