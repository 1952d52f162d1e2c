/-
  What is proved: for every int the program's IntOf answers as the model's IntOf does, in memory of its own; no condition.
-/
import Derived.Test.YtmbjmjbljnlifaaDoorLeaf
namespace Go.Proofs.YtmbjmjbljnlifaaDoor
open Go Go.RowKit

set_option maxHeartbeats 400000 in
theorem node_int (x : Int) (w : World) : Calls Tryd.prog 39 #[.int .i64 x] w fun e w' => e = .returned (.agg #[.int .i64 2, .int .i64 x, .string ⟨#[]⟩, .slice none 0 0, .slice none 0 0]) ∧ Below w.heap.size w w' := by
  go_enter Tryd.func39, Tryd.ntmps39
  go_wp2
  exact bodyPost_ret (ret_node Tryd.results39 rfl (heap_last w _)) rfl ⟨rfl, (Below.refl _ w).alloc (Nat.le_refl _) _⟩

set_option maxHeartbeats 400000 in
theorem spec_intOf (x : Int) (w : World) : Calls Tryd.prog 29 #[.int .i64 x] w fun e w' => e = .returned (.agg #[.int .i64 2, .int .i64 x, .string ⟨#[]⟩, .slice none 0 0, .slice none 0 0]) ∧ Below w.heap.size w w' := by
  go_enter Tryd.func29, Tryd.ntmps29
  go_wp2
  exact bodyPost_ret (ret_node Tryd.results29 rfl (heap_last w _)) rfl ⟨rfl, (Below.refl _ w).alloc (Nat.le_refl _) _⟩

set_option maxHeartbeats 400000 in
theorem impl_intOf (x : Int) (w : World) : Calls Tryd.prog 31 #[.int .i64 x] w fun e w' => e = .returned (.agg #[.int .i64 2, .int .i64 x, .string ⟨#[]⟩, .slice none 0 0, .slice none 0 0]) ∧ Below w.heap.size w w' := by
  go_enter Tryd.func31, Tryd.ntmps31
  go_wp2_with (first
    | (go_at_call 39; refine (node_int _ _).mono ?_; rintro e w1 ⟨rfl, hb1⟩; obtain ⟨hh, hB⟩ := hand_on hb1; obtain ⟨g0, g1, g2, g3, g4, g5⟩ := five hh; have HH := Lib.hid (And.intro hh hB); clear hh hB hb1)
    | go_in)
  exact bodyPost_ret (ret_node Tryd.results31 rfl (set5_end HH.out.1 _ _ _ _ _)) rfl ⟨rfl, set5_below HH.out.2 (Nat.le_refl _) 0 _ _ _ _ _⟩


end Go.Proofs.YtmbjmjbljnlifaaDoor
