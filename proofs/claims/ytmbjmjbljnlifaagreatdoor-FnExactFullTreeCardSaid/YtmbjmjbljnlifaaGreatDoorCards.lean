/-
  DERIVED. GIVEN WITH THE SEED: THE CARDS: each row of YtmbjmjbljnlifaaGreatDoorRows.lean that lists a variable, with what it lists TIED to the program's text (the seventh form; the later family's looks); each row that meets fmt, with fmt's text TOLD by the authors' own Lean function (tested against real Go, not proved from fmt's source: count such statements apart). THE CARD IS WHAT COUNTS. Prove the row's statement (the work); the ties are given (YtmbjmjbljnlifaaGreatDoorTie.lean); close each card by the builder's one call (the guide's Derived/Test/ToyasCard.lean, 'card_holds'). Laid BY PROGRAM, IN A SANDBOX (cutbox-door.mjs). By AI agents, Wed Nov 11 2026. No macro, syntax, notation, axiom, sorry.
-/
import Derived.Test.YtmbjmjbljnlifaaGreatDoorRows
import GoSem.ClaimSeven
namespace Go.Proofs.YtmbjmjbljnlifaaGreatDoor
namespace Rows

/-- THE TIED CARD OF 'laws.FnExactFullTree'. -/
def fnExactFullTreeCard : Claim7 := { stood := { row := fnExactFullTreeRow, standIns := [], harness := (true, "c41ed0bfb22471d0afe8eac17c2b4c0f3b1e52c097fdede9045f08197be89212"), looks := false }, kinds := [], alts := [], laidByText := true, laidKinds := [.data, .data, .data], laidTests := true, laidLooks := .later }
def FnExactFullTreeCardSaid : Prop := Claim7.holds Tryz.pinned (.plain (OpenSpec.ofChange fnExactFullTreeSpec)) fnExactFullTreeCard

/-- THE SECOND FORM's CARD OF 'laws.FnExactFullTree'. -/
def fnExactFullTreeUptoCard : Claim7 := { stood := { row := fnExactFullTreeUptoRow, standIns := [], harness := (true, "c41ed0bfb22471d0afe8eac17c2b4c0f3b1e52c097fdede9045f08197be89212"), looks := false }, kinds := [], alts := [], laidByText := true, laidKinds := [.data, .data, .data], laidTests := true, laidLooks := .later }
def FnExactFullTreeUptoCardSaid : Prop := Claim7.holds Tryz.pinned (.plain (OpenSpec.upto fnExactFullTreeSpec)) fnExactFullTreeUptoCard
end Rows
end Go.Proofs.YtmbjmjbljnlifaaGreatDoor
