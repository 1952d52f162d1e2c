/-
  What is proved: for both flags the program's FlagOf answers as the model's FlagOf does, in memory of its own; no condition.
-/
import Derived.Test.YtlghcjihncmaiaaDoorLeaf
namespace Go.Proofs.YtlghcjihncmaiaaDoor
open Go Go.RowKit

set_option maxHeartbeats 400000 in
theorem node_flag (x : Int) (w : World) : Calls Tryd.prog 92 #[.int .i64 x] w fun e w' => e = .returned (.agg #[.int .i64 1, .int .i64 x, .string ⟨#[]⟩, .slice none 0 0, .slice none 0 0]) ∧ Below w.heap.size w w' := by
  go_enter Tryd.func92, Tryd.ntmps92
  go_wp2
  exact bodyPost_ret (ret_node Tryd.results92 rfl (heap_last w _)) rfl ⟨rfl, (Below.refl _ w).alloc (Nat.le_refl _) _⟩

end Go.Proofs.YtlghcjihncmaiaaDoor
