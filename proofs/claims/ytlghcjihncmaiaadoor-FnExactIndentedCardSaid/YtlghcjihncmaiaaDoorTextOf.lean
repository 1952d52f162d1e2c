/-
  What is proved: for every text the program's TextOf answers as the model's TextOf does, in memory of its own; no condition.
-/
import Derived.Test.YtlghcjihncmaiaaDoorLeaf
namespace Go.Proofs.YtlghcjihncmaiaaDoor
open Go Go.RowKit

set_option maxHeartbeats 400000 in
theorem node_text (s : ByteArray) (w : World) : Calls Tryd.prog 94 #[.string s] w fun e w' => e = .returned (.agg #[.int .i64 3, .int .i64 0, .string s, .slice none 0 0, .slice none 0 0]) ∧ Below w.heap.size w w' := by
  go_enter Tryd.func94, Tryd.ntmps94
  go_wp2
  exact bodyPost_ret (ret_node Tryd.results94 rfl (heap_last w _)) rfl ⟨rfl, (Below.refl _ w).alloc (Nat.le_refl _) _⟩

end Go.Proofs.YtlghcjihncmaiaaDoor
