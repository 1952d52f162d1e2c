/-
  What is proved: for every int the program's IntOf answers as the model's IntOf does, in memory of its own; no condition.
-/
import Derived.Test.YtfeabjojabfdfaaDoorLeaf
namespace Go.Proofs.YtfeabjojabfdfaaDoor
open Go Go.RowKit

set_option maxHeartbeats 400000 in
theorem node_int (x : Int) (w : World) : Calls Tryd.prog 76 #[.int .i64 x] w fun e w' => e = .returned (.agg #[.int .i64 2, .int .i64 x, .string ⟨#[]⟩, .slice none 0 0, .slice none 0 0]) ∧ Below w.heap.size w w' := by
  go_enter Tryd.func76, Tryd.ntmps76
  go_wp2
  exact bodyPost_ret (ret_node Tryd.results76 rfl (heap_last w _)) rfl ⟨rfl, (Below.refl _ w).alloc (Nat.le_refl _) _⟩

end Go.Proofs.YtfeabjojabfdfaaDoor
