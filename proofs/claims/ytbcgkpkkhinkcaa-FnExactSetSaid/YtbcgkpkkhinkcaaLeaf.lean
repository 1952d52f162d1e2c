/-
  What is proved: plain facts on trees without keys and kids.
-/
import Derived.Test.YtbcgkpkkhinkcaaTreeHeldN
import Derived.Test.YtbcgkpkkhinkcaaTreeEqN
import Derived.Test.YtbcgkpkkhinkcaaTreeOpen
namespace Go.Proofs.Ytbcgkpkkhinkcaa
open Go Go.RowKit

/-- A node without keys and kids lies in no memory. -/
theorem leaf_lies (w : World) {k n : Int} {s : ByteArray} (hk : Fit k) (hn : Fit n) (hs : s.size ≤ maxLen) : Lies w (.node k n s [] []) (.slice none 0 0) (.slice none 0 0) [] :=
  Lies.into (FK := []) (FD := []) hk hn hs ⟨none, 0, 0, 0, rfl, Nat.le_refl _, Nat.zero_le _, fun h => absurd h (by simp), rfl, fun i hi => absurd hi (by simp), Room.nil _ _ _⟩
    ⟨none, 0, 0, 0, fun _ => [], fun _ => .bool true, fun _ => .bool true, rfl, Nat.le_refl _, Nat.zero_le _, fun h => absurd h (by simp), rfl, fun i hi => absurd hi (by simp), fun i hi => absurd hi (by simp), Room.nil _ _ _⟩

theorem But.below {w w' : World} (h : But [] w w') : Below w.heap.size w w' := ⟨h.os, h.tape, h.output, h.size, fun k hk => h.block k hk (by simp)⟩

theorem mark_node1 (T : RT) (w : World) (kv dv : Value) (F : List Nat) (hl : Lies w T kv dv F) (hnd : F.Nodup) (hfz : ∀ b ∈ F, ∀ o, w.frozen? ⟨b, o, none⟩ = false) (h1 : 1 + T.cnt ≤ 1000000000) :
    Calls Try.prog 10 #[.agg #[.int .i64 T.k, .int .i64 T.n, .string T.s, kv, dv], .int .i64 1] w fun e w' => e = .returned (.int .i64 (1 + T.cnt : Nat)) ∧ Lies w' (T.mark 1) kv dv F ∧ But F w w' :=
  mark_node T w kv dv F hl hnd hfz 1 (by omega) h1

theorem held_node1 (T : RT) (w : World) (kv dv : Value) (F : List Nat) (hl : Lies w (T.mark 1) kv dv F) (h1 : 1 + T.cnt ≤ 1000000000) :
    Calls Try.prog 11 #[.agg #[.int .i64 T.k, .int .i64 T.n, .string T.s, kv, dv], .int .i64 1] w fun e w' => e = .returned (.int .i64 (1 + T.cnt : Nat)) ∧ Below w.heap.size w w' :=
  held_node T w kv dv F 1 hl (by omega) h1

/-- A function whose whole work is to hand on what another one answers, by a block of its own. -/
theorem hand_on {w w1 : World} {z0 z1 z2 z3 z4 : Value} {t : TypeId} (hb : Below (w.alloc (.cells #[z0, z1, z2, z3, z4] t)).heap.size (w.alloc (.cells #[z0, z1, z2, z3, z4] t)) w1) :
    w1.heap[w.heap.size]? = some (.cells #[z0, z1, z2, z3, z4] t (0, 0)) ∧ Below w.heap.size w w1 := by
  have h0 := (Below.refl _ w).alloc (Nat.le_refl _) (.cells #[z0, z1, z2, z3, z4] t)
  exact ⟨(hb.block _ (by simp)).trans (heap_last w _), h0.trans (hb.mono h0.size)⟩

end Go.Proofs.Ytbcgkpkkhinkcaa
