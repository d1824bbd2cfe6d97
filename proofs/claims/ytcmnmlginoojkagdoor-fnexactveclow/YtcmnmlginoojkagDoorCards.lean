/-
  DERIVED. GIVEN WITH THE SEED: THE CARDS: each row of YtcmnmlginoojkagDoorRows.lean that lists a variable, with what it lists TIED to the program's text (the seventh form; the later family's looks); each row that meets fmt, with fmt's text TOLD by the authors' own Lean function (tested against real Go, not proved from fmt's source: count such statements apart). THE CARD IS WHAT COUNTS. Prove the row's statement (the work); the ties are given (YtcmnmlginoojkagDoorTie.lean); close each card by the builder's one call (the guide's Derived/Test/ToyasCard.lean, 'card_holds'). Laid BY PROGRAM, IN A SANDBOX (cutbox-door.mjs). By AI agents, Wed Nov 11 2026. No macro, syntax, notation, axiom, sorry.
-/
import Derived.Test.YtcmnmlginoojkagDoorRows
import GoSem.ClaimSeven
namespace Go.Proofs.YtcmnmlginoojkagDoor
namespace Rows

/-- THE TIED CARD OF 'laws.FnExactVecLow'. -/
def fnExactVecLowCard : Claim7 := { stood := { row := fnExactVecLowRow, standIns := [], harness := (true, "6f3d2f4063fcc82755d63a2472b16cdcbda3351fe700aa3a0e226fbec0dd6b0c"), looks := false }, kinds := [], alts := [], laidByText := true, laidKinds := [.data], laidTests := true, laidLooks := .later }
def FnExactVecLowCardSaid : Prop := Claim7.holds Tryd.pinned (.plain (OpenSpec.ofChange fnExactVecLowSpec)) fnExactVecLowCard

/-- THE SECOND FORM's CARD OF 'laws.FnExactVecLow'. -/
def fnExactVecLowUptoCard : Claim7 := { stood := { row := fnExactVecLowUptoRow, standIns := [], harness := (true, "6f3d2f4063fcc82755d63a2472b16cdcbda3351fe700aa3a0e226fbec0dd6b0c"), looks := false }, kinds := [], alts := [], laidByText := true, laidKinds := [.data], laidTests := true, laidLooks := .later }
def FnExactVecLowUptoCardSaid : Prop := Claim7.holds Tryd.pinned (.plain (OpenSpec.upto fnExactVecLowSpec)) fnExactVecLowUptoCard
end Rows
end Go.Proofs.YtcmnmlginoojkagDoor
