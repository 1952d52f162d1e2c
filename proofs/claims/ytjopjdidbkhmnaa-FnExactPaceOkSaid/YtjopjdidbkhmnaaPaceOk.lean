/-
  What is proved: for any pace the program's PaceOk answers as the model's PaceOk does: the law returns true; no condition.
-/
import Derived.Test.YtjopjdidbkhmnaaMet
import Derived.Test.YtjopjdidbkhmnaaBx
namespace Go.Proofs.Ytjopjdidbkhmnaa
open Go Go.RowKit

set_option maxHeartbeats 1000000 in
theorem paceOk_walk (u d us ds : Int) (w : World) : Calls Try.prog 5 #[.agg #[.int .i64 u, .int .i64 d, .int .i64 us, .int .i64 ds]] w fun e w' => e = .returned (.bool true) ∧ Below w.heap.size w w' := by
  have h1 := Lib.hid (spec_paceOk u d us ds)
  have h2 := Lib.hid (impl_paceOk u d us ds)
  have h3 := Lib.hid (to_pace u d us ds)
  have HX := Lib.hid (Bx.start w #[.int .i64 u, .int .i64 d, .int .i64 us, .int .i64 ds] 31)
  generalize paceB u d us ds = b at *
  go_enter Try.func5, Try.ntmps5
  go_wp2_with (first
    | (go_at_call 16; refine (h3.out _).mono ?_; rintro e w2 ⟨rfl, hb⟩; replace HX := Lib.hid (HX.out.next hb); clear hb)
    | (go_at_call 15; refine (h1.out _).mono ?_; rintro e w3 ⟨rfl, hb⟩; replace HX := Lib.hid (HX.out.next hb)
       have d0 := HX.out.cell 0; have d1 := HX.out.cell 1; have d2 := HX.out.cell 2; have d3 := HX.out.cell 3
       clear hb)
    | (go_at_call 17; refine (h2.out _).mono ?_; rintro e w4 ⟨rfl, hb⟩; replace HX := Lib.hid (HX.out.next hb); clear hb)
    | fail)
  go_ret
  exact ⟨rfl, HX.out.below⟩
end Go.Proofs.Ytjopjdidbkhmnaa
