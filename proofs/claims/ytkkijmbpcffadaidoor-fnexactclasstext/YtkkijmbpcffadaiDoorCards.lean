/-
  DERIVED. GIVEN WITH THE SEED: THE CARDS: each row of YtkkijmbpcffadaiDoorRows.lean that lists a variable, with what it lists TIED to the program's text (the seventh form; the later family's looks); each row that meets fmt, with fmt's text TOLD by the authors' own Lean function (tested against real Go, not proved from fmt's source: count such statements apart). THE CARD IS WHAT COUNTS. Prove the row's statement (the work); the ties are given (YtkkijmbpcffadaiDoorTie.lean); close each card by the builder's one call (the guide's Derived/Test/ToyasCard.lean, 'card_holds'). Laid BY PROGRAM, IN A SANDBOX (cutbox-door.mjs). By AI agents, Wed Nov 11 2026. No macro, syntax, notation, axiom, sorry.
-/
import Derived.Test.YtkkijmbpcffadaiDoorRows
import GoSem.ClaimSeven
namespace Go.Proofs.YtkkijmbpcffadaiDoor
namespace Rows

/-- THE TIED CARD OF 'laws.FnExactClassAnd'. -/
def fnExactClassAndCard : Claim7 := { stood := { row := fnExactClassAndRow, standIns := [], harness := (true, "cee8facd8852f40070cd47f14c4e2d9dd2daf3879eff557891a49d43c0e5040f"), looks := false }, kinds := [], alts := [], laidByText := true, laidKinds := [.data], laidTests := true, laidLooks := .later }
def FnExactClassAndCardSaid : Prop := Claim7.holds Tryd.pinned (.plain (OpenSpec.ofChange fnExactClassAndSpec)) fnExactClassAndCard

/-- THE TIED CARD OF 'laws.FnExactClassNot'. -/
def fnExactClassNotCard : Claim7 := { stood := { row := fnExactClassNotRow, standIns := [], harness := (true, "cee8facd8852f40070cd47f14c4e2d9dd2daf3879eff557891a49d43c0e5040f"), looks := false }, kinds := [], alts := [], laidByText := true, laidKinds := [.data], laidTests := true, laidLooks := .later }
def FnExactClassNotCardSaid : Prop := Claim7.holds Tryd.pinned (.plain (OpenSpec.ofChange fnExactClassNotSpec)) fnExactClassNotCard

/-- THE TIED CARD OF 'laws.FnExactClassFold'. -/
def fnExactClassFoldCard : Claim7 := { stood := { row := fnExactClassFoldRow, standIns := [], harness := (true, "cee8facd8852f40070cd47f14c4e2d9dd2daf3879eff557891a49d43c0e5040f"), looks := false }, kinds := [], alts := [], laidByText := true, laidKinds := [.data], laidTests := true, laidLooks := .later }
def FnExactClassFoldCardSaid : Prop := Claim7.holds Tryd.pinned (.plain (OpenSpec.ofChange fnExactClassFoldSpec)) fnExactClassFoldCard

/-- THE TIED CARD OF 'laws.FnExactClassText'. -/
def fnExactClassTextCard : Claim7 := { stood := { row := fnExactClassTextRow, standIns := [], harness := (true, "cee8facd8852f40070cd47f14c4e2d9dd2daf3879eff557891a49d43c0e5040f"), looks := false }, kinds := [], alts := [], laidByText := true, laidKinds := [.data], laidTests := true, laidLooks := .later }
def FnExactClassTextCardSaid : Prop := Claim7.holds Tryd.pinned (.plain (OpenSpec.ofChange fnExactClassTextSpec)) fnExactClassTextCard

/-- THE SECOND FORM's CARD OF 'laws.FnExactClassAnd'. -/
def fnExactClassAndUptoCard : Claim7 := { stood := { row := fnExactClassAndUptoRow, standIns := [], harness := (true, "cee8facd8852f40070cd47f14c4e2d9dd2daf3879eff557891a49d43c0e5040f"), looks := false }, kinds := [], alts := [], laidByText := true, laidKinds := [.data], laidTests := true, laidLooks := .later }
def FnExactClassAndUptoCardSaid : Prop := Claim7.holds Tryd.pinned (.plain (OpenSpec.upto fnExactClassAndSpec)) fnExactClassAndUptoCard

/-- THE SECOND FORM's CARD OF 'laws.FnExactClassNot'. -/
def fnExactClassNotUptoCard : Claim7 := { stood := { row := fnExactClassNotUptoRow, standIns := [], harness := (true, "cee8facd8852f40070cd47f14c4e2d9dd2daf3879eff557891a49d43c0e5040f"), looks := false }, kinds := [], alts := [], laidByText := true, laidKinds := [.data], laidTests := true, laidLooks := .later }
def FnExactClassNotUptoCardSaid : Prop := Claim7.holds Tryd.pinned (.plain (OpenSpec.upto fnExactClassNotSpec)) fnExactClassNotUptoCard

/-- THE SECOND FORM's CARD OF 'laws.FnExactClassFold'. -/
def fnExactClassFoldUptoCard : Claim7 := { stood := { row := fnExactClassFoldUptoRow, standIns := [], harness := (true, "cee8facd8852f40070cd47f14c4e2d9dd2daf3879eff557891a49d43c0e5040f"), looks := false }, kinds := [], alts := [], laidByText := true, laidKinds := [.data], laidTests := true, laidLooks := .later }
def FnExactClassFoldUptoCardSaid : Prop := Claim7.holds Tryd.pinned (.plain (OpenSpec.upto fnExactClassFoldSpec)) fnExactClassFoldUptoCard

/-- THE SECOND FORM's CARD OF 'laws.FnExactClassText'. -/
def fnExactClassTextUptoCard : Claim7 := { stood := { row := fnExactClassTextUptoRow, standIns := [], harness := (true, "cee8facd8852f40070cd47f14c4e2d9dd2daf3879eff557891a49d43c0e5040f"), looks := false }, kinds := [], alts := [], laidByText := true, laidKinds := [.data], laidTests := true, laidLooks := .later }
def FnExactClassTextUptoCardSaid : Prop := Claim7.holds Tryd.pinned (.plain (OpenSpec.upto fnExactClassTextSpec)) fnExactClassTextUptoCard
end Rows
end Go.Proofs.YtkkijmbpcffadaiDoor
