/-
  What is proved: the program's PaceNew answers as the model's PaceNew does: the law returns true; no condition.
-/
import Derived.Test.YtjopjdidbkhmnaaMet
import Derived.Test.YtjopjdidbkhmnaaBx
namespace Go.Proofs.Ytjopjdidbkhmnaa
open Go Go.RowKit

set_option maxHeartbeats 1000000 in
theorem paceNew_walk (w : World) : Calls Try.prog 6 #[] w fun e w' => e = .returned (.bool true) ∧ Below w.heap.size w w' := by
  go_enter Try.func6, Try.ntmps6
  go_wp2_with (first
    | (go_at_call 18; refine (spec_paceNew _).mono ?_; rintro e w1 ⟨rfl, hb1⟩
       have HX := Lib.hid (Bx.start w1 #[.int .i64 0, .int .i64 0, .int .i64 0, .int .i64 300] 33))
    | (go_at_call 19; refine (impl_paceNew _).mono ?_; rintro e w2 ⟨rfl, hb2⟩
       replace HX := Lib.hid ((HX.out.next hb2).alloc (.cells #[.int .i64 0, .int .i64 0, .int .i64 0, .int .i64 300] 33))
       have d0 := HX.out.cell 0; have d1 := HX.out.cell 1; have d2 := HX.out.cell 2; have d3 := HX.out.cell 3)
    | (go_at_call 20; refine (eq_pace _ _ _ _ _).mono ?_; rintro e w4 ⟨rfl, hb⟩; replace HX := Lib.hid (HX.out.next hb); clear hb)
    | fail)
  go_ret
  exact ⟨rfl, hb1.trans (HX.out.below.mono hb1.size)⟩
end Go.Proofs.Ytjopjdidbkhmnaa
