/-
  What is proved: for every text the program's TextOf answers as the model's TextOf does, in memory of its own; no condition.
-/
import Derived.Test.YtbcgkpkkhinkcaaLeaf
namespace Go.Proofs.Ytbcgkpkkhinkcaa
open Go Go.RowKit

set_option maxHeartbeats 400000 in
theorem node_text (s : ByteArray) (w : World) : Calls Try.prog 79 #[.string s] w fun e w' => e = .returned (.agg #[.int .i64 3, .int .i64 0, .string s, .slice none 0 0, .slice none 0 0]) ∧ Below w.heap.size w w' := by
  go_enter Try.func79, Try.ntmps79
  go_wp2
  exact bodyPost_ret (ret_node Try.results79 rfl (heap_last w _)) rfl ⟨rfl, (Below.refl _ w).alloc (Nat.le_refl _) _⟩

end Go.Proofs.Ytbcgkpkkhinkcaa
