/-
  What is proved: for every int the program's IntOf answers as the model's IntOf does, in memory of its own; no condition.
-/
import Derived.Test.YtbcgkpkkhinkcaaLeaf
namespace Go.Proofs.Ytbcgkpkkhinkcaa
open Go Go.RowKit

set_option maxHeartbeats 400000 in
theorem node_int (x : Int) (w : World) : Calls Try.prog 78 #[.int .i64 x] w fun e w' => e = .returned (.agg #[.int .i64 2, .int .i64 x, .string ⟨#[]⟩, .slice none 0 0, .slice none 0 0]) ∧ Below w.heap.size w w' := by
  go_enter Try.func78, Try.ntmps78
  go_wp2
  exact bodyPost_ret (ret_node Try.results78 rfl (heap_last w _)) rfl ⟨rfl, (Below.refl _ w).alloc (Nat.le_refl _) _⟩

end Go.Proofs.Ytbcgkpkkhinkcaa
