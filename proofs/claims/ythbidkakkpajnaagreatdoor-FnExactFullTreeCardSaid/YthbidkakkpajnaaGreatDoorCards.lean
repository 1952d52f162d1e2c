/-
  DERIVED. GIVEN WITH THE SEED: THE CARDS: each row of YthbidkakkpajnaaGreatDoorRows.lean that lists a variable, with what it lists TIED to the program's text (the seventh form; the later family's looks); each row that meets fmt, with fmt's text TOLD by the authors' own Lean function (tested against real Go, not proved from fmt's source: count such statements apart). THE CARD IS WHAT COUNTS. Prove the row's statement (the work); the ties are given (YthbidkakkpajnaaGreatDoorTie.lean); close each card by the builder's one call (the guide's Derived/Test/ToyasCard.lean, 'card_holds'). Laid BY PROGRAM, IN A SANDBOX (cutbox-door.mjs). By AI agents, Wed Nov 11 2026. No macro, syntax, notation, axiom, sorry.
-/
import Derived.Test.YthbidkakkpajnaaGreatDoorRows
import GoSem.ClaimSeven
namespace Go.Proofs.YthbidkakkpajnaaGreatDoor
namespace Rows

/-- THE TIED CARD OF 'laws.FnExactFullTree'. -/
def fnExactFullTreeCard : Claim7 := { stood := { row := fnExactFullTreeRow, standIns := [], harness := (true, "a6fe3de2b4b476f8a817f0478b467237b92add4fbbc14f9a47144474127b5fd7"), looks := true }, kinds := [], alts := [], laidByText := true, laidKinds := [.data, .data, .data], laidTests := true, laidLooks := .later }
def FnExactFullTreeCardSaid : Prop := Claim7.holds Tryz.pinned (.plain (OpenSpec.ofChange fnExactFullTreeSpec)) fnExactFullTreeCard

/-- THE TIED CARD OF 'laws.FnExactMidTree'. -/
def fnExactMidTreeCard : Claim7 := { stood := { row := fnExactMidTreeRow, standIns := [], harness := (true, "a6fe3de2b4b476f8a817f0478b467237b92add4fbbc14f9a47144474127b5fd7"), looks := true }, kinds := [], alts := [], laidByText := true, laidKinds := [.data, .data, .data], laidTests := true, laidLooks := .later }
def FnExactMidTreeCardSaid : Prop := Claim7.holds Tryz.pinned (.plain (OpenSpec.ofChange fnExactMidTreeSpec)) fnExactMidTreeCard

/-- THE SECOND FORM's CARD OF 'laws.FnExactFullTree'. -/
def fnExactFullTreeUptoCard : Claim7 := { stood := { row := fnExactFullTreeUptoRow, standIns := [], harness := (true, "a6fe3de2b4b476f8a817f0478b467237b92add4fbbc14f9a47144474127b5fd7"), looks := true }, kinds := [], alts := [], laidByText := true, laidKinds := [.data, .data, .data], laidTests := true, laidLooks := .later }
def FnExactFullTreeUptoCardSaid : Prop := Claim7.holds Tryz.pinned (.plain (OpenSpec.upto fnExactFullTreeSpec)) fnExactFullTreeUptoCard

/-- THE SECOND FORM's CARD OF 'laws.FnExactMidTree'. -/
def fnExactMidTreeUptoCard : Claim7 := { stood := { row := fnExactMidTreeUptoRow, standIns := [], harness := (true, "a6fe3de2b4b476f8a817f0478b467237b92add4fbbc14f9a47144474127b5fd7"), looks := true }, kinds := [], alts := [], laidByText := true, laidKinds := [.data, .data, .data], laidTests := true, laidLooks := .later }
def FnExactMidTreeUptoCardSaid : Prop := Claim7.holds Tryz.pinned (.plain (OpenSpec.upto fnExactMidTreeSpec)) fnExactMidTreeUptoCard
end Rows
end Go.Proofs.YthbidkakkpajnaaGreatDoor
