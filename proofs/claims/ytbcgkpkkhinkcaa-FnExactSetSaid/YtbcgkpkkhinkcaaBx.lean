/-
  What is proved: plain facts on a block that a function laid, in every later world that has all earlier blocks as they were.
-/
import Derived.Test.YtbcgkpkkhinkcaaRows
import Derived.Below
import Derived.WalkKit
import Derived.WalkSpells
import Derived.Lib.Hide
import Derived.Deep.RegionHeld3
import Derived.Deep.Draws
import Derived.Deep.QuietTactic
import Derived.Deep.RegionWith
import Derived.BigQuiet
namespace Go.Proofs.Ytbcgkpkkhinkcaa
open Go Go.RowKit

/-- All that lay in w0 lies in wr; the block B bears these cells. -/
structure Bx (w0 wr : World) (B : Nat) (cs : Array Value) (t : TypeId) : Prop where
  below : Below w0.heap.size w0 wr
  blk : wr.heap[B]? = some (.cells cs t (0, 0))

theorem Bx.start (w : World) (cs : Array Value) (t : TypeId) : Bx w (w.alloc (.cells cs t)) w.heap.size cs t :=
  ⟨(Below.refl _ w).alloc (Nat.le_refl _) _, by show (w.heap.push _)[w.heap.size]? = _; simp⟩

theorem Bx.next {w0 wr w1 : World} {B : Nat} {cs : Array Value} {t : TypeId} (h : Bx w0 wr B cs t) (hb : Below wr.heap.size wr w1) : Bx w0 w1 B cs t :=
  ⟨h.below.trans (hb.mono h.below.size), (hb.block _ (Array.getElem?_eq_some_iff.1 h.blk).1).trans h.blk⟩

theorem Bx.cell {w0 wr : World} {B : Nat} {cs : Array Value} {t : TypeId} (h : Bx w0 wr B cs t) (o : Nat) : wr.cell? ⟨B, o, none⟩ = cs[o]? := by
  simp [World.cell?, h.blk]

/-- A further block. -/
theorem Bx.add {w0 wr : World} {B : Nat} {cs : Array Value} {t : TypeId} (h : Bx w0 wr B cs t) (cs' : Array Value) (t' : TypeId) : Bx w0 (wr.alloc (.cells cs' t')) wr.heap.size cs' t' :=
  ⟨h.below.trans (((Below.refl _ wr).alloc (Nat.le_refl _) _).mono h.below.size), by show (wr.heap.push _)[wr.heap.size]? = _; simp⟩

theorem Bx.alloc {w0 wr : World} {B : Nat} {cs : Array Value} {t : TypeId} (h : Bx w0 wr B cs t) (o : Obj) : Bx w0 (wr.alloc o) B cs t :=
  h.next ((Below.refl _ wr).alloc (Nat.le_refl _) _)

theorem Bx.drew {w0 wr : World} {B : Nat} {cs : Array Value} {t : TypeId} (h : Bx w0 wr B cs t) (n : Nat) : Bx w0 (wr.drewN n) B cs t :=
  h.next ((Below.refl _ wr).trans ⟨rfl, rfl, rfl, Nat.le_refl _, fun _ _ => rfl⟩)
end Go.Proofs.Ytbcgkpkkhinkcaa
