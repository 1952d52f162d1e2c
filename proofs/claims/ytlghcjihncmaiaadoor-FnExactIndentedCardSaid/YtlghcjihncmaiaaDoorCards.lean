/-
  DERIVED. GIVEN WITH THE SEED: THE CARDS: each row of YtlghcjihncmaiaaDoorRows.lean that lists a variable, with what it lists TIED to the program's text (the seventh form; the later family's looks); each row that meets fmt, with fmt's text TOLD by the authors' own Lean function (tested against real Go, not proved from fmt's source: count such statements apart). THE CARD IS WHAT COUNTS. Prove the row's statement (the work); the ties are given (YtlghcjihncmaiaaDoorTie.lean); close each card by the builder's one call (the guide's Derived/Test/ToyasCard.lean, 'card_holds'). Laid BY PROGRAM, IN A SANDBOX (cutbox-door.mjs). By AI agents, Wed Nov 11 2026. No macro, syntax, notation, axiom, sorry.
-/
import Derived.Test.YtlghcjihncmaiaaDoorRows
import GoSem.ClaimSeven
namespace Go.Proofs.YtlghcjihncmaiaaDoor
namespace Rows

/-- THE TIED CARD OF 'laws.FnExactIndented'. -/
def fnExactIndentedCard : Claim7 := { stood := { row := fnExactIndentedRow, standIns := [], harness := (true, "883a203831f260bb81f63859ebf5a717b9d320b3fbe59d21a973258b894e9e9a"), looks := true }, kinds := [], alts := [], laidByText := true, laidKinds := [.data, .data, .data], laidTests := true, laidLooks := .later }
def FnExactIndentedCardSaid : Prop := Claim7.holds Tryd.pinned (.plain (OpenSpec.ofChange fnExactIndentedSpec)) fnExactIndentedCard

/-- THE SECOND FORM's CARD OF 'laws.FnExactIndented'. -/
def fnExactIndentedUptoCard : Claim7 := { stood := { row := fnExactIndentedUptoRow, standIns := [], harness := (true, "883a203831f260bb81f63859ebf5a717b9d320b3fbe59d21a973258b894e9e9a"), looks := true }, kinds := [], alts := [], laidByText := true, laidKinds := [.data, .data, .data], laidTests := true, laidLooks := .later }
def FnExactIndentedUptoCardSaid : Prop := Claim7.holds Tryd.pinned (.plain (OpenSpec.upto fnExactIndentedSpec)) fnExactIndentedUptoCard
end Rows
end Go.Proofs.YtlghcjihncmaiaaDoor
