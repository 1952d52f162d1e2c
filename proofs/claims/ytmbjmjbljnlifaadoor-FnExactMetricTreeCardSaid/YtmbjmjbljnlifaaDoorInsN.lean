/-
  What is proved: Go's slices.Insert of one element into a list of trees that a call owns: in its place where there is room, else in a new row.
-/
import Derived.Test.YtmbjmjbljnlifaaDoorIns
namespace Go.Proofs.YtmbjmjbljnlifaaDoor
open Go Go.RowKit

end Go.Proofs.YtmbjmjbljnlifaaDoor
