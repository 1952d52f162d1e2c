/-
  DERIVED. GIVEN WITH THE SEED: THE CARDS: each row of YtfmkhogpnnobeaaGreatDoorRows.lean that lists a variable, with what it lists TIED to the program's text (the seventh form; the later family's looks); each row that meets fmt, with fmt's text TOLD by the authors' own Lean function (tested against real Go, not proved from fmt's source: count such statements apart). THE CARD IS WHAT COUNTS. Prove the row's statement (the work); the ties are given (YtfmkhogpnnobeaaGreatDoorTie.lean); close each card by the builder's one call (the guide's Derived/Test/ToyasCard.lean, 'card_holds'). Laid BY PROGRAM, IN A SANDBOX (cutbox-door.mjs). By AI agents, Wed Nov 11 2026. No macro, syntax, notation, axiom, sorry.
-/
import Derived.Test.YtfmkhogpnnobeaaGreatDoorRows
import GoSem.ClaimSeven
namespace Go.Proofs.YtfmkhogpnnobeaaGreatDoor
namespace Rows

/-- THE TIED CARD OF 'laws.FnExactMidTree'. -/
def fnExactMidTreeCard : Claim7 := { stood := { row := fnExactMidTreeRow, standIns := [], harness := (true, "20824f0db1c60730851969e0f832495991f583a5486da13c4d943cd422343393"), looks := true }, kinds := [], alts := [], laidByText := true, laidKinds := [.data, .data, .data], laidTests := true, laidLooks := .later }
def FnExactMidTreeCardSaid : Prop := Claim7.holds Tryz.pinned (.plain (OpenSpec.ofChange fnExactMidTreeSpec)) fnExactMidTreeCard

/-- THE TIED CARD OF 'laws.FnExactPlainTree'. -/
def fnExactPlainTreeCard : Claim7 := { stood := { row := fnExactPlainTreeRow, standIns := [], harness := (true, "20824f0db1c60730851969e0f832495991f583a5486da13c4d943cd422343393"), looks := true }, kinds := [], alts := [], laidByText := true, laidKinds := [.data, .data, .data], laidTests := true, laidLooks := .later }
def FnExactPlainTreeCardSaid : Prop := Claim7.holds Tryz.pinned (.plain (OpenSpec.ofChange fnExactPlainTreeSpec)) fnExactPlainTreeCard

/-- THE TIED CARD OF 'laws.FnExactShape'. -/
def fnExactShapeCard : Claim7 := { stood := { row := fnExactShapeRow, standIns := [], harness := (true, "20824f0db1c60730851969e0f832495991f583a5486da13c4d943cd422343393"), looks := true }, kinds := [], alts := [], laidByText := true, laidKinds := [.data, .data, .data], laidTests := true, laidLooks := .later }
def FnExactShapeCardSaid : Prop := Claim7.holds Tryz.pinned (.plain (OpenSpec.ofChange fnExactShapeSpec)) fnExactShapeCard

/-- THE SECOND FORM's CARD OF 'laws.FnExactMidTree'. -/
def fnExactMidTreeUptoCard : Claim7 := { stood := { row := fnExactMidTreeUptoRow, standIns := [], harness := (true, "20824f0db1c60730851969e0f832495991f583a5486da13c4d943cd422343393"), looks := true }, kinds := [], alts := [], laidByText := true, laidKinds := [.data, .data, .data], laidTests := true, laidLooks := .later }
def FnExactMidTreeUptoCardSaid : Prop := Claim7.holds Tryz.pinned (.plain (OpenSpec.upto fnExactMidTreeSpec)) fnExactMidTreeUptoCard

/-- THE SECOND FORM's CARD OF 'laws.FnExactPlainTree'. -/
def fnExactPlainTreeUptoCard : Claim7 := { stood := { row := fnExactPlainTreeUptoRow, standIns := [], harness := (true, "20824f0db1c60730851969e0f832495991f583a5486da13c4d943cd422343393"), looks := true }, kinds := [], alts := [], laidByText := true, laidKinds := [.data, .data, .data], laidTests := true, laidLooks := .later }
def FnExactPlainTreeUptoCardSaid : Prop := Claim7.holds Tryz.pinned (.plain (OpenSpec.upto fnExactPlainTreeSpec)) fnExactPlainTreeUptoCard

/-- THE SECOND FORM's CARD OF 'laws.FnExactShape'. -/
def fnExactShapeUptoCard : Claim7 := { stood := { row := fnExactShapeUptoRow, standIns := [], harness := (true, "20824f0db1c60730851969e0f832495991f583a5486da13c4d943cd422343393"), looks := true }, kinds := [], alts := [], laidByText := true, laidKinds := [.data, .data, .data], laidTests := true, laidLooks := .later }
def FnExactShapeUptoCardSaid : Prop := Claim7.holds Tryz.pinned (.plain (OpenSpec.upto fnExactShapeSpec)) fnExactShapeUptoCard
end Rows
end Go.Proofs.YtfmkhogpnnobeaaGreatDoor
