/-
  What is proved: for every text the program's TextOf answers as the model's TextOf does, in memory of its own; no condition.
-/
import Derived.Test.YtmbjmjbljnlifaaDoorLeaf
namespace Go.Proofs.YtmbjmjbljnlifaaDoor
open Go Go.RowKit

set_option maxHeartbeats 400000 in
theorem node_text (s : ByteArray) (w : World) : Calls Tryd.prog 36 #[.string s] w fun e w' => e = .returned (.agg #[.int .i64 3, .int .i64 0, .string s, .slice none 0 0, .slice none 0 0]) ∧ Below w.heap.size w w' := by
  go_enter Tryd.func36, Tryd.ntmps36
  go_wp2
  exact bodyPost_ret (ret_node Tryd.results36 rfl (heap_last w _)) rfl ⟨rfl, (Below.refl _ w).alloc (Nat.le_refl _) _⟩

set_option maxHeartbeats 400000 in
theorem spec_textOf (s : ByteArray) (w : World) : Calls Tryd.prog 16 #[.string s] w fun e w' => e = .returned (.agg #[.int .i64 3, .int .i64 0, .string s, .slice none 0 0, .slice none 0 0]) ∧ Below w.heap.size w w' := by
  go_enter Tryd.func16, Tryd.ntmps16
  go_wp2
  exact bodyPost_ret (ret_node Tryd.results16 rfl (heap_last w _)) rfl ⟨rfl, (Below.refl _ w).alloc (Nat.le_refl _) _⟩

set_option maxHeartbeats 400000 in
theorem impl_textOf (s : ByteArray) (w : World) : Calls Tryd.prog 19 #[.string s] w fun e w' => e = .returned (.agg #[.int .i64 3, .int .i64 0, .string s, .slice none 0 0, .slice none 0 0]) ∧ Below w.heap.size w w' := by
  go_enter Tryd.func19, Tryd.ntmps19
  go_wp2_with (first
    | (go_at_call 36; refine (node_text _ _).mono ?_; rintro e w1 ⟨rfl, hb1⟩; obtain ⟨hh, hB⟩ := hand_on hb1; obtain ⟨g0, g1, g2, g3, g4, g5⟩ := five hh; have HH := Lib.hid (And.intro hh hB); clear hh hB hb1)
    | go_in)
  exact bodyPost_ret (ret_node Tryd.results19 rfl (set5_end HH.out.1 _ _ _ _ _)) rfl ⟨rfl, set5_below HH.out.2 (Nat.le_refl _) 0 _ _ _ _ _⟩


end Go.Proofs.YtmbjmjbljnlifaaDoor
