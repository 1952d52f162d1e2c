/-
  DERIVED. GIVEN WITH THE SEED: THE CARDS: each row of YtmbjmjbljnlifaaDoorRows.lean that lists a variable, with what it lists TIED to the program's text (the seventh form; the later family's looks); each row that meets fmt, with fmt's text TOLD by the authors' own Lean function (tested against real Go, not proved from fmt's source: count such statements apart). THE CARD IS WHAT COUNTS. Prove the row's statement (the work); the ties are given (YtmbjmjbljnlifaaDoorTie.lean); close each card by the builder's one call (the guide's Derived/Test/ToyasCard.lean, 'card_holds'). Laid BY PROGRAM, IN A SANDBOX (cutbox-door.mjs). By AI agents, Wed Nov 11 2026. No macro, syntax, notation, axiom, sorry.
-/
import Derived.Test.YtmbjmjbljnlifaaDoorRows
import GoSem.ClaimSeven
namespace Go.Proofs.YtmbjmjbljnlifaaDoor
namespace Rows

/-- THE TIED CARD OF 'laws.FnExactMetricTree'. -/
def fnExactMetricTreeCard : Claim7 := { stood := { row := fnExactMetricTreeRow, standIns := [], harness := (true, "41bd37af6a5816b8eff299d66964649c17f1a35fb4c933954c8b058504f6789c"), looks := false }, kinds := [], alts := [], laidByText := true, laidKinds := [.data, .data, .data], laidTests := true, laidLooks := .later }
def FnExactMetricTreeCardSaid : Prop := Claim7.holds Tryd.pinned (.plain (OpenSpec.ofChange fnExactMetricTreeSpec)) fnExactMetricTreeCard

/-- THE TIED CARD OF 'laws.FnExactPaceTree'. -/
def fnExactPaceTreeCard : Claim7 := { stood := { row := fnExactPaceTreeRow, standIns := [], harness := (true, "41bd37af6a5816b8eff299d66964649c17f1a35fb4c933954c8b058504f6789c"), looks := false }, kinds := [], alts := [], laidByText := true, laidKinds := [.data, .data, .data], laidTests := true, laidLooks := .later }
def FnExactPaceTreeCardSaid : Prop := Claim7.holds Tryd.pinned (.plain (OpenSpec.ofChange fnExactPaceTreeSpec)) fnExactPaceTreeCard

/-- THE SECOND FORM's CARD OF 'laws.FnExactMetricTree'. -/
def fnExactMetricTreeUptoCard : Claim7 := { stood := { row := fnExactMetricTreeUptoRow, standIns := [], harness := (true, "41bd37af6a5816b8eff299d66964649c17f1a35fb4c933954c8b058504f6789c"), looks := false }, kinds := [], alts := [], laidByText := true, laidKinds := [.data, .data, .data], laidTests := true, laidLooks := .later }
def FnExactMetricTreeUptoCardSaid : Prop := Claim7.holds Tryd.pinned (.plain (OpenSpec.upto fnExactMetricTreeSpec)) fnExactMetricTreeUptoCard

/-- THE SECOND FORM's CARD OF 'laws.FnExactPaceTree'. -/
def fnExactPaceTreeUptoCard : Claim7 := { stood := { row := fnExactPaceTreeUptoRow, standIns := [], harness := (true, "41bd37af6a5816b8eff299d66964649c17f1a35fb4c933954c8b058504f6789c"), looks := false }, kinds := [], alts := [], laidByText := true, laidKinds := [.data, .data, .data], laidTests := true, laidLooks := .later }
def FnExactPaceTreeUptoCardSaid : Prop := Claim7.holds Tryd.pinned (.plain (OpenSpec.upto fnExactPaceTreeSpec)) fnExactPaceTreeUptoCard
end Rows
end Go.Proofs.YtmbjmjbljnlifaaDoor
