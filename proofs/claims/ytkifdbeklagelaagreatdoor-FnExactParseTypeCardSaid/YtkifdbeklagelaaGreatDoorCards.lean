/-
  DERIVED. GIVEN WITH THE SEED: THE CARDS: each row of YtkifdbeklagelaaGreatDoorRows.lean that lists a variable, with what it lists TIED to the program's text (the seventh form; the later family's looks); each row that meets fmt, with fmt's text TOLD by the authors' own Lean function (tested against real Go, not proved from fmt's source: count such statements apart). THE CARD IS WHAT COUNTS. Prove the row's statement (the work); the ties are given (YtkifdbeklagelaaGreatDoorTie.lean); close each card by the builder's one call (the guide's Derived/Test/ToyasCard.lean, 'card_holds'). Laid BY PROGRAM, IN A SANDBOX (cutbox-door.mjs). By AI agents, Wed Nov 11 2026. No macro, syntax, notation, axiom, sorry.
-/
import Derived.Test.YtkifdbeklagelaaGreatDoorRows
import GoSem.ClaimSeven
namespace Go.Proofs.YtkifdbeklagelaaGreatDoor
namespace Rows

/-- THE TIED CARD OF 'laws.FnExactFormatType'. -/
def fnExactFormatTypeCard : Claim7 := { stood := { row := fnExactFormatTypeRow, standIns := [], harness := (true, "744454d000fe2f3bac7bbb56c943b6c28c80a44e68175b3a81fae0599f21ac24"), looks := true }, kinds := [], alts := [], laidByText := true, laidKinds := [.data], laidTests := true, laidLooks := .later }
def FnExactFormatTypeCardSaid : Prop := Claim7.holds Tryz.pinned (.plain (OpenSpec.ofChange fnExactFormatTypeSpec)) fnExactFormatTypeCard

/-- THE TIED CARD OF 'laws.FnExactParseType'. -/
def fnExactParseTypeCard : Claim7 := { stood := { row := fnExactParseTypeRow, standIns := [], harness := (true, "744454d000fe2f3bac7bbb56c943b6c28c80a44e68175b3a81fae0599f21ac24"), looks := true }, kinds := [], alts := [], laidByText := true, laidKinds := [.data, .data, .pinned], laidTests := true, laidLooks := .later }
def FnExactParseTypeCardSaid : Prop := Claim7.holds Tryz.pinned (.plain (OpenSpec.ofChange fnExactParseTypeSpec)) fnExactParseTypeCard

/-- THE TIED CARD OF 'laws.FnExactParseExpr'. -/
def fnExactParseExprCard : Claim7 := { stood := { row := fnExactParseExprRow, standIns := [], harness := (true, "744454d000fe2f3bac7bbb56c943b6c28c80a44e68175b3a81fae0599f21ac24"), looks := true }, kinds := [], alts := [], laidByText := true, laidKinds := [.data, .data, .pinned], laidTests := true, laidLooks := .later }
def FnExactParseExprCardSaid : Prop := Claim7.holds Tryz.pinned (.plain (OpenSpec.ofChange fnExactParseExprSpec)) fnExactParseExprCard

/-- THE SECOND FORM's CARD OF 'laws.FnExactFormatType'. -/
def fnExactFormatTypeUptoCard : Claim7 := { stood := { row := fnExactFormatTypeUptoRow, standIns := [], harness := (true, "744454d000fe2f3bac7bbb56c943b6c28c80a44e68175b3a81fae0599f21ac24"), looks := true }, kinds := [], alts := [], laidByText := true, laidKinds := [.data], laidTests := true, laidLooks := .later }
def FnExactFormatTypeUptoCardSaid : Prop := Claim7.holds Tryz.pinned (.plain (OpenSpec.upto fnExactFormatTypeSpec)) fnExactFormatTypeUptoCard

/-- THE SECOND FORM's CARD OF 'laws.FnExactParseType'. -/
def fnExactParseTypeUptoCard : Claim7 := { stood := { row := fnExactParseTypeUptoRow, standIns := [], harness := (true, "744454d000fe2f3bac7bbb56c943b6c28c80a44e68175b3a81fae0599f21ac24"), looks := true }, kinds := [], alts := [], laidByText := true, laidKinds := [.data, .data, .pinned], laidTests := true, laidLooks := .later }
def FnExactParseTypeUptoCardSaid : Prop := Claim7.holds Tryz.pinned (.plain (OpenSpec.upto fnExactParseTypeSpec)) fnExactParseTypeUptoCard

/-- THE SECOND FORM's CARD OF 'laws.FnExactParseExpr'. -/
def fnExactParseExprUptoCard : Claim7 := { stood := { row := fnExactParseExprUptoRow, standIns := [], harness := (true, "744454d000fe2f3bac7bbb56c943b6c28c80a44e68175b3a81fae0599f21ac24"), looks := true }, kinds := [], alts := [], laidByText := true, laidKinds := [.data, .data, .pinned], laidTests := true, laidLooks := .later }
def FnExactParseExprUptoCardSaid : Prop := Claim7.holds Tryz.pinned (.plain (OpenSpec.upto fnExactParseExprSpec)) fnExactParseExprUptoCard
end Rows
end Go.Proofs.YtkifdbeklagelaaGreatDoor
