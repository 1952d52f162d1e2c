/-
  What is proved: a call of a Go function at a step of a region that draws its order.
-/
import Derived.Test.YtbcgkpkkhinkcaaRows
import Derived.WalkKit
import Derived.Deep.RegionHeld3
namespace Go.Proofs.Ytbcgkpkkhinkcaa
open Go Go.RowKit

/-- A call, at a step of a region that draws its order. -/
theorem step_calls {P : Program} {ops : Array Oper} {o : Oper} {a : Act} {w : World} {K : Act → World → Prop} {Q : Exit → Act → World → Prop} {E : Prop} (hgd : o.guard = none) (f : Nat) (xs : Array Operand) (ts : Array TypeId)
    (ho : o.op = .call { callee := .value (.func f), args := xs, argTypes := ts }) (us : Array Value) (hx : (xs.map a.eval) = us) (he : ∀ us w, (callFunc f us).run P w = .ok (.enter f us) w) (hv : ∀ (a : Act) w, (Deferred.ofValue (a.eval (.func f)) us).run P w = .ok { target := .fn (.func f) #[], args := us } w) {R : Value → World → Prop}
    (hc : Calls P f us w fun e w' => ∃ v, e = .returned v ∧ R v w') (h : ∀ v w', R v w' → K (a.put o.dst v) w') : if Region.wanted o (yielded ops a.tmps) = true then Oper.wp P o a w K Q else E := by
  have hw : Region.wanted o (yielded ops a.tmps) = true := by simp [Region.wanted, hgd]
  rw [if_pos hw]
  unfold Oper.wp execOp
  simp only [ho, resolve, invoke, Sem.run_bind, hx]
  rw [hv, Result.andThen_ok]
  show Oper.upon P o a K Q ((callFunc f (us ++ #[])).run P w)
  rw [Array.append_empty, he, Oper.upon_enter]
  refine hc.mono ?_
  rintro e w' ⟨v, rfl, hR⟩
  exact h v w' hR

end Go.Proofs.Ytbcgkpkkhinkcaa
