/-
  DERIVED. GIVEN WITH THE SEED: THE CARDS: each row of YtkkijmbpcffadajDoorRows.lean that lists a variable, with what it lists TIED to the program's text (the seventh form; the later family's looks); each row that meets fmt, with fmt's text TOLD by the authors' own Lean function (tested against real Go, not proved from fmt's source: count such statements apart). THE CARD IS WHAT COUNTS. Prove the row's statement (the work); the ties are given (YtkkijmbpcffadajDoorTie.lean); close each card by the builder's one call (the guide's Derived/Test/ToyasCard.lean, 'card_holds'). Laid BY PROGRAM, IN A SANDBOX (cutbox-door.mjs). By AI agents, Wed Nov 11 2026. No macro, syntax, notation, axiom, sorry.
-/
import Derived.Test.YtkkijmbpcffadajDoorRows
import GoSem.ClaimSeven
namespace Go.Proofs.YtkkijmbpcffadajDoor
namespace Rows

/-- THE TIED CARD OF 'laws.FnExactPatternText'. -/
def fnExactPatternTextCard : Claim7 := { stood := { row := fnExactPatternTextRow, standIns := [], harness := (true, "7595790e6a6e755ed3e2a3afb7cde6500f4736f67338f5d7acf2e18ff77844da"), looks := true }, kinds := [], alts := [], laidByText := true, laidKinds := [.data], laidTests := true, laidLooks := .later }
def FnExactPatternTextCardSaid : Prop := Claim7.holds Tryd.pinned (.plain (OpenSpec.ofChange fnExactPatternTextSpec)) fnExactPatternTextCard

/-- THE TIED CARD OF 'laws.FnExactPatternRead'. -/
def fnExactPatternReadCard : Claim7 := { stood := { row := fnExactPatternReadRow, standIns := [], harness := (true, "7595790e6a6e755ed3e2a3afb7cde6500f4736f67338f5d7acf2e18ff77844da"), looks := true }, kinds := [], alts := [], laidByText := true, laidKinds := [.data], laidTests := true, laidLooks := .later }
def FnExactPatternReadCardSaid : Prop := Claim7.holds Tryd.pinned (.plain (OpenSpec.ofChange fnExactPatternReadSpec)) fnExactPatternReadCard

/-- THE SECOND FORM's CARD OF 'laws.FnExactPatternText'. -/
def fnExactPatternTextUptoCard : Claim7 := { stood := { row := fnExactPatternTextUptoRow, standIns := [], harness := (true, "7595790e6a6e755ed3e2a3afb7cde6500f4736f67338f5d7acf2e18ff77844da"), looks := true }, kinds := [], alts := [], laidByText := true, laidKinds := [.data], laidTests := true, laidLooks := .later }
def FnExactPatternTextUptoCardSaid : Prop := Claim7.holds Tryd.pinned (.plain (OpenSpec.upto fnExactPatternTextSpec)) fnExactPatternTextUptoCard

/-- THE SECOND FORM's CARD OF 'laws.FnExactPatternRead'. -/
def fnExactPatternReadUptoCard : Claim7 := { stood := { row := fnExactPatternReadUptoRow, standIns := [], harness := (true, "7595790e6a6e755ed3e2a3afb7cde6500f4736f67338f5d7acf2e18ff77844da"), looks := true }, kinds := [], alts := [], laidByText := true, laidKinds := [.data], laidTests := true, laidLooks := .later }
def FnExactPatternReadUptoCardSaid : Prop := Claim7.holds Tryd.pinned (.plain (OpenSpec.upto fnExactPatternReadSpec)) fnExactPatternReadUptoCard
end Rows
end Go.Proofs.YtkkijmbpcffadajDoor
