/-
  DERIVED. GIVEN WITH THE SEED: THE CARDS: each row of YtmcjghhmcmkomaaGreatDoorRows.lean that lists a variable, with what it lists TIED to the program's text (the seventh form; the later family's looks); each row that meets fmt, with fmt's text TOLD by the authors' own Lean function (tested against real Go, not proved from fmt's source: count such statements apart). THE CARD IS WHAT COUNTS. Prove the row's statement (the work); the ties are given (YtmcjghhmcmkomaaGreatDoorTie.lean); close each card by the builder's one call (the guide's Derived/Test/ToyasCard.lean, 'card_holds'). Laid BY PROGRAM, IN A SANDBOX (cutbox-door.mjs). By AI agents, Wed Nov 11 2026. No macro, syntax, notation, axiom, sorry.
-/
import Derived.Test.YtmcjghhmcmkomaaGreatDoorRows
import GoSem.ClaimSeven
namespace Go.Proofs.YtmcjghhmcmkomaaGreatDoor
namespace Rows

/-- THE TIED CARD OF 'laws.FnBracedIsIndented'. -/
def fnBracedIsIndentedCard : Claim7 := { stood := { row := fnBracedIsIndentedRow, standIns := [], harness := (true, "74a4f06e0407ecc72272d4824d2f5cb0f58d68761370830fbe8a37e74988a25c"), looks := true }, kinds := [], alts := [], laidByText := true, laidKinds := [.data, .data, .data, .data, .handle, .sentinel, .pinned], laidTests := true, laidLooks := .later }
def FnBracedIsIndentedCardSaid : Prop := Claim7.holds Tryz.pinned (.plain (OpenSpec.ofChange fnBracedIsIndentedSpec)) fnBracedIsIndentedCard

/-- THE TIED CARD OF 'laws.FnBlanksTurnNothing'. -/
def fnBlanksTurnNothingCard : Claim7 := { stood := { row := fnBlanksTurnNothingRow, standIns := [], harness := (true, "74a4f06e0407ecc72272d4824d2f5cb0f58d68761370830fbe8a37e74988a25c"), looks := true }, kinds := [], alts := [], laidByText := true, laidKinds := [.data, .data, .data, .data, .handle, .sentinel, .pinned], laidTests := true, laidLooks := .later }
def FnBlanksTurnNothingCardSaid : Prop := Claim7.holds Tryz.pinned (.plain (OpenSpec.ofChange fnBlanksTurnNothingSpec)) fnBlanksTurnNothingCard

/-- THE SECOND FORM's CARD OF 'laws.FnBracedIsIndented'. -/
def fnBracedIsIndentedUptoCard : Claim7 := { stood := { row := fnBracedIsIndentedUptoRow, standIns := [], harness := (true, "74a4f06e0407ecc72272d4824d2f5cb0f58d68761370830fbe8a37e74988a25c"), looks := true }, kinds := [], alts := [], laidByText := true, laidKinds := [.data, .data, .data, .data, .handle, .sentinel, .pinned], laidTests := true, laidLooks := .later }
def FnBracedIsIndentedUptoCardSaid : Prop := Claim7.holds Tryz.pinned (.plain (OpenSpec.upto fnBracedIsIndentedSpec)) fnBracedIsIndentedUptoCard

/-- THE SECOND FORM's CARD OF 'laws.FnBlanksTurnNothing'. -/
def fnBlanksTurnNothingUptoCard : Claim7 := { stood := { row := fnBlanksTurnNothingUptoRow, standIns := [], harness := (true, "74a4f06e0407ecc72272d4824d2f5cb0f58d68761370830fbe8a37e74988a25c"), looks := true }, kinds := [], alts := [], laidByText := true, laidKinds := [.data, .data, .data, .data, .handle, .sentinel, .pinned], laidTests := true, laidLooks := .later }
def FnBlanksTurnNothingUptoCardSaid : Prop := Claim7.holds Tryz.pinned (.plain (OpenSpec.upto fnBlanksTurnNothingSpec)) fnBlanksTurnNothingUptoCard
end Rows
end Go.Proofs.YtmcjghhmcmkomaaGreatDoor
