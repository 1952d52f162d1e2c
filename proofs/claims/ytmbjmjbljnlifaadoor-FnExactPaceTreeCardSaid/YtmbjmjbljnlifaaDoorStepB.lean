/-
  What is proved: a slice literal at a step of a region that draws its order: one new block, which holds what the literal has.
-/
import Derived.Test.YtmbjmjbljnlifaaDoorStepC
import Derived.Test.YtmbjmjbljnlifaaDoorTree
import Derived.Great.BuildSlice
namespace Go.Proofs.YtmbjmjbljnlifaaDoor
open Go Go.RowKit

theorem step_lits {P : Program} {ops : Array Oper} {o : Oper} {a : Act} {w : World} {K : Act → World → Prop} {Q : Exit → Act → World → Prop} {E : Prop} (hgd : o.guard = none) (t e : TypeId) (n : Nat) (es : Array (Nat × Operand))
    (ho : o.op = .buildSlice t n es) (us : Array (Nat × Value)) (hx : (es.map fun x => (x.1, a.eval x.2)) = us) {ie : TypeInfo} {z : Value} {sz : Nat} {cells : Array Value} (hu : P.underlying t = some (.slice e)) (hie : P.info? e = some ie) (hz : ie.zero = some z) (hsz : ie.size = sz)
    (hsmall : ¬ n * sz > 2 ^ 24) (hpos : ¬ n * sz = 0) (hf : Instr.fill (fun i => some (i * sz, sz)) ((Array.range (n * sz)).map (z.cells[· % z.cells.size]!)) us.toList = some cells)
    (h : ∀ w', Below w.heap.size w w' → w'.heap[w.heap.size]? = some (.cells cells e (0, 0)) → w'.heap.size = w.heap.size + 1 → K (a.put o.dst (.slice (some ⟨w.heap.size, 0, none⟩) n n)) w') : if Region.wanted o (yielded ops a.tmps) = true then Oper.wp P o a w K Q else E := by
  subst hsz
  have hw : Region.wanted o (yielded ops a.tmps) = true := by simp [Region.wanted, hgd]
  rw [if_pos hw]
  refine wp_buildSlice t e n es ho cells ie z hu hie hz hsmall hpos (by subst hx; exact hf) ?_
  exact h _ ((Below.refl _ w).alloc (Nat.le_refl _) _) (heap_last w _) (by simp)
end Go.Proofs.YtmbjmjbljnlifaaDoor
