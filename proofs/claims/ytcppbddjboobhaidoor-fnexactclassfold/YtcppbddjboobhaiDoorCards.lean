/-
  DERIVED. GIVEN WITH THE SEED: THE CARDS: each row of YtcppbddjboobhaiDoorRows.lean that lists a variable, with what it lists TIED to the program's text (the seventh form; the later family's looks); each row that meets fmt, with fmt's text TOLD by the authors' own Lean function (tested against real Go, not proved from fmt's source: count such statements apart). THE CARD IS WHAT COUNTS. Prove the row's statement (the work); the ties are given (YtcppbddjboobhaiDoorTie.lean); close each card by the builder's one call (the guide's Derived/Test/ToyasCard.lean, 'card_holds'). Laid BY PROGRAM, IN A SANDBOX (cutbox-door.mjs). By AI agents, Wed Nov 11 2026. No macro, syntax, notation, axiom, sorry.
-/
import Derived.Test.YtcppbddjboobhaiDoorRows
import GoSem.ClaimSeven
namespace Go.Proofs.YtcppbddjboobhaiDoor
namespace Rows

/-- THE TIED CARD OF 'laws.FnExactClassAnd'. -/
def fnExactClassAndCard : Claim7 := { stood := { row := fnExactClassAndRow, standIns := [], harness := (true, "113d3c8b6a0da74809278ef2821a90e8da2dc67f8ebd32d58c4c4d69d9a418ac"), looks := false }, kinds := [], alts := [], laidByText := true, laidKinds := [.data], laidTests := true, laidLooks := .later }
def FnExactClassAndCardSaid : Prop := Claim7.holds Tryd.pinned (.plain (OpenSpec.ofChange fnExactClassAndSpec)) fnExactClassAndCard

/-- THE TIED CARD OF 'laws.FnExactClassNot'. -/
def fnExactClassNotCard : Claim7 := { stood := { row := fnExactClassNotRow, standIns := [], harness := (true, "113d3c8b6a0da74809278ef2821a90e8da2dc67f8ebd32d58c4c4d69d9a418ac"), looks := false }, kinds := [], alts := [], laidByText := true, laidKinds := [.data], laidTests := true, laidLooks := .later }
def FnExactClassNotCardSaid : Prop := Claim7.holds Tryd.pinned (.plain (OpenSpec.ofChange fnExactClassNotSpec)) fnExactClassNotCard

/-- THE TIED CARD OF 'laws.FnExactClassFold'. -/
def fnExactClassFoldCard : Claim7 := { stood := { row := fnExactClassFoldRow, standIns := [], harness := (true, "113d3c8b6a0da74809278ef2821a90e8da2dc67f8ebd32d58c4c4d69d9a418ac"), looks := false }, kinds := [], alts := [], laidByText := true, laidKinds := [.data], laidTests := true, laidLooks := .later }
def FnExactClassFoldCardSaid : Prop := Claim7.holds Tryd.pinned (.plain (OpenSpec.ofChange fnExactClassFoldSpec)) fnExactClassFoldCard

/-- THE SECOND FORM's CARD OF 'laws.FnExactClassAnd'. -/
def fnExactClassAndUptoCard : Claim7 := { stood := { row := fnExactClassAndUptoRow, standIns := [], harness := (true, "113d3c8b6a0da74809278ef2821a90e8da2dc67f8ebd32d58c4c4d69d9a418ac"), looks := false }, kinds := [], alts := [], laidByText := true, laidKinds := [.data], laidTests := true, laidLooks := .later }
def FnExactClassAndUptoCardSaid : Prop := Claim7.holds Tryd.pinned (.plain (OpenSpec.upto fnExactClassAndSpec)) fnExactClassAndUptoCard

/-- THE SECOND FORM's CARD OF 'laws.FnExactClassNot'. -/
def fnExactClassNotUptoCard : Claim7 := { stood := { row := fnExactClassNotUptoRow, standIns := [], harness := (true, "113d3c8b6a0da74809278ef2821a90e8da2dc67f8ebd32d58c4c4d69d9a418ac"), looks := false }, kinds := [], alts := [], laidByText := true, laidKinds := [.data], laidTests := true, laidLooks := .later }
def FnExactClassNotUptoCardSaid : Prop := Claim7.holds Tryd.pinned (.plain (OpenSpec.upto fnExactClassNotSpec)) fnExactClassNotUptoCard

/-- THE SECOND FORM's CARD OF 'laws.FnExactClassFold'. -/
def fnExactClassFoldUptoCard : Claim7 := { stood := { row := fnExactClassFoldUptoRow, standIns := [], harness := (true, "113d3c8b6a0da74809278ef2821a90e8da2dc67f8ebd32d58c4c4d69d9a418ac"), looks := false }, kinds := [], alts := [], laidByText := true, laidKinds := [.data], laidTests := true, laidLooks := .later }
def FnExactClassFoldUptoCardSaid : Prop := Claim7.holds Tryd.pinned (.plain (OpenSpec.upto fnExactClassFoldSpec)) fnExactClassFoldUptoCard
end Rows
end Go.Proofs.YtcppbddjboobhaiDoor
