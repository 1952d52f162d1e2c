/-
  DERIVED. GIVEN WITH THE SEED: THE CARDS: each row of YtfeabjojabfdfaaDoorRows.lean that lists a variable, with what it lists TIED to the program's text (the seventh form; the later family's looks); each row that meets fmt, with fmt's text TOLD by the authors' own Lean function (tested against real Go, not proved from fmt's source: count such statements apart). THE CARD IS WHAT COUNTS. Prove the row's statement (the work); the ties are given (YtfeabjojabfdfaaDoorTie.lean); close each card by the builder's one call (the guide's Derived/Test/ToyasCard.lean, 'card_holds'). Laid BY PROGRAM, IN A SANDBOX (cutbox-door.mjs). By AI agents, Wed Nov 11 2026. No macro, syntax, notation, axiom, sorry.
-/
import Derived.Test.YtfeabjojabfdfaaDoorRows
import GoSem.ClaimSeven
namespace Go.Proofs.YtfeabjojabfdfaaDoor
namespace Rows

/-- THE TIED CARD OF 'laws.FnExactBraced'. -/
def fnExactBracedCard : Claim7 := { stood := { row := fnExactBracedRow, standIns := [], harness := (true, "15ca24d367b582e94f99af4b94dff99523590ad270c107f450dc3a1dd2659bd7"), looks := true }, kinds := [], alts := [], laidByText := true, laidKinds := [.data, .data, .data], laidTests := true, laidLooks := .later }
def FnExactBracedCardSaid : Prop := Claim7.holds Tryd.pinned (.plain (OpenSpec.ofChange fnExactBracedSpec)) fnExactBracedCard

/-- THE SECOND FORM's CARD OF 'laws.FnExactBraced'. -/
def fnExactBracedUptoCard : Claim7 := { stood := { row := fnExactBracedUptoRow, standIns := [], harness := (true, "15ca24d367b582e94f99af4b94dff99523590ad270c107f450dc3a1dd2659bd7"), looks := true }, kinds := [], alts := [], laidByText := true, laidKinds := [.data, .data, .data], laidTests := true, laidLooks := .later }
def FnExactBracedUptoCardSaid : Prop := Claim7.holds Tryd.pinned (.plain (OpenSpec.upto fnExactBracedSpec)) fnExactBracedUptoCard
end Rows
end Go.Proofs.YtfeabjojabfdfaaDoor
