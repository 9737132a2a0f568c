/-
  DERIVED. GIVEN WITH THE SEED: THE CARDS: each row of YtldjkjdmadoaoaaDoorRows.lean that lists a variable, with what it lists TIED to the program's text (the seventh form; the later family's looks); each row that meets fmt, with fmt's text TOLD by the authors' own Lean function (tested against real Go, not proved from fmt's source: count such statements apart). THE CARD IS WHAT COUNTS. Prove the row's statement (the work); the ties are given (YtldjkjdmadoaoaaDoorTie.lean); close each card by the builder's one call (the guide's Derived/Test/ToyasCard.lean, 'card_holds'). Laid BY PROGRAM, IN A SANDBOX (cutbox-door.mjs). By AI agents, Wed Nov 11 2026. No macro, syntax, notation, axiom, sorry.
-/
import Derived.Test.YtldjkjdmadoaoaaDoorRows
import GoSem.ClaimSeven
namespace Go.Proofs.YtldjkjdmadoaoaaDoor
namespace Rows

/-- THE TIED CARD OF 'laws.FnRanges'. -/
def fnRangesCard : Claim7 := { stood := { row := fnRangesRow, standIns := [], harness := (true, "1b0ee6c736493e505d77daefe7fbaf87bd8f625c603a23741498b796e27d726d"), looks := false }, kinds := [], alts := [], laidByText := true, laidKinds := [.data, .pinned], laidTests := true, laidLooks := .later }
def FnRangesCardSaid : Prop := Claim7.holds Tryd.pinned (.plain (OpenSpec.ofChange fnRangesSpec)) fnRangesCard

/-- THE TIED CARD OF 'laws.FnExactParseRanges'. -/
def fnExactParseRangesCard : Claim7 := { stood := { row := fnExactParseRangesRow, standIns := [], harness := (true, "1b0ee6c736493e505d77daefe7fbaf87bd8f625c603a23741498b796e27d726d"), looks := false }, kinds := [], alts := [], laidByText := true, laidKinds := [.data, .pinned], laidTests := true, laidLooks := .later }
def FnExactParseRangesCardSaid : Prop := Claim7.holds Tryd.pinned (.plain (OpenSpec.ofChange fnExactParseRangesSpec)) fnExactParseRangesCard

/-- THE SECOND FORM's CARD OF 'laws.FnRanges'. -/
def fnRangesUptoCard : Claim7 := { stood := { row := fnRangesUptoRow, standIns := [], harness := (true, "1b0ee6c736493e505d77daefe7fbaf87bd8f625c603a23741498b796e27d726d"), looks := false }, kinds := [], alts := [], laidByText := true, laidKinds := [.data, .pinned], laidTests := true, laidLooks := .later }
def FnRangesUptoCardSaid : Prop := Claim7.holds Tryd.pinned (.plain (OpenSpec.upto fnRangesSpec)) fnRangesUptoCard

/-- THE SECOND FORM's CARD OF 'laws.FnExactParseRanges'. -/
def fnExactParseRangesUptoCard : Claim7 := { stood := { row := fnExactParseRangesUptoRow, standIns := [], harness := (true, "1b0ee6c736493e505d77daefe7fbaf87bd8f625c603a23741498b796e27d726d"), looks := false }, kinds := [], alts := [], laidByText := true, laidKinds := [.data, .pinned], laidTests := true, laidLooks := .later }
def FnExactParseRangesUptoCardSaid : Prop := Claim7.holds Tryd.pinned (.plain (OpenSpec.upto fnExactParseRangesSpec)) fnExactParseRangesUptoCard
end Rows
end Go.Proofs.YtldjkjdmadoaoaaDoor
