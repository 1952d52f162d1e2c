/-
  What is proved: plain facts on trees without keys and kids.
-/
import Derived.Test.YtlghcjihncmaiaaDoorTreeHeldN
import Derived.Test.YtlghcjihncmaiaaDoorTreeEqN
import Derived.Test.YtlghcjihncmaiaaDoorTreeOpen
namespace Go.Proofs.YtlghcjihncmaiaaDoor
open Go Go.RowKit

/-- A node without keys and kids lies in no memory. -/
theorem leaf_lies (w : World) {k n : Int} {s : ByteArray} (hk : Fit k) (hn : Fit n) (hs : s.size ≤ maxLen) : Lies w (.node k n s [] []) (.slice none 0 0) (.slice none 0 0) [] :=
  Lies.into (FK := []) (FD := []) hk hn hs ⟨none, 0, 0, 0, rfl, Nat.le_refl _, Nat.zero_le _, fun h => absurd h (by simp), rfl, fun i hi => absurd hi (by simp), Room.nil _ _ _⟩
    ⟨none, 0, 0, 0, fun _ => [], fun _ => .bool true, fun _ => .bool true, rfl, Nat.le_refl _, Nat.zero_le _, fun h => absurd h (by simp), rfl, fun i hi => absurd hi (by simp), fun i hi => absurd hi (by simp), Room.nil _ _ _⟩

theorem But.below {w w' : World} (h : But [] w w') : Below w.heap.size w w' := ⟨h.os, h.tape, h.output, h.size, fun k hk => h.block k hk (by simp)⟩

/-- A function whose whole work is to hand on what another one answers, by a block of its own. -/
theorem hand_on {w w1 : World} {z0 z1 z2 z3 z4 : Value} {t : TypeId} (hb : Below (w.alloc (.cells #[z0, z1, z2, z3, z4] t)).heap.size (w.alloc (.cells #[z0, z1, z2, z3, z4] t)) w1) :
    w1.heap[w.heap.size]? = some (.cells #[z0, z1, z2, z3, z4] t (0, 0)) ∧ Below w.heap.size w w1 := by
  have h0 := (Below.refl _ w).alloc (Nat.le_refl _) (.cells #[z0, z1, z2, z3, z4] t)
  exact ⟨(hb.block _ (by simp)).trans (heap_last w _), h0.trans (hb.mono h0.size)⟩

end Go.Proofs.YtlghcjihncmaiaaDoor
