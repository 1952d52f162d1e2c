/-
  What is proved: for any metric the program's MetricOk answers as the model's MetricOk does: the law returns true; no condition.
-/
import Derived.Test.YtjopjdidbkhmnaaMet
import Derived.Test.YtjopjdidbkhmnaaBx
namespace Go.Proofs.Ytjopjdidbkhmnaa
open Go Go.RowKit

set_option maxHeartbeats 1000000 in
theorem metricOk_walk (s : ByteArray) (k g : Int) (ws : s.size ≤ maxLen) (w : World) : Calls Try.prog 4 #[.agg #[.string s, .int .i64 k, .int .i64 g]] w fun e w' => e = .returned (.bool true) ∧ Below w.heap.size w w' := by
  have h1 := Lib.hid (spec_metricOk s k g ws)
  have h2 := Lib.hid (impl_metricOk s k g ws)
  have h3 := Lib.hid (to_metric s k g)
  have h4 := Lib.hid (sz_metric s k g 1048576 ws (Nat.le_refl _))
  have HX := Lib.hid (Bx.start w #[.string s, .int .i64 k, .int .i64 g] 24)
  unfold maxLen at ws
  generalize metB s k g = b at *
  by_cases hs : s.size ≤ 1048576
  · rw [if_pos hs] at h4
    have hn : ¬ ((1048576 - s.size : Nat) : Int) < 0 := by omega
    generalize ((1048576 - s.size : Nat) : Int) = q at *
    go_enter Try.func4, Try.ntmps4
    go_wp2_with (first
      | (go_at_call 11; refine (h4.out _).mono ?_; rintro e w1 ⟨rfl, hb⟩
         replace HX := Lib.hid (HX.out.next hb)
         have c0 := HX.out.cell 0; have c1 := HX.out.cell 1; have c2 := HX.out.cell 2
         clear hb)
      | (go_at_call 13; refine (h3.out _).mono ?_; rintro e w2 ⟨rfl, hb⟩; replace HX := Lib.hid (HX.out.next hb); clear hb)
      | (go_at_call 12; refine (h1.out _).mono ?_; rintro e w3 ⟨rfl, hb⟩; replace HX := Lib.hid (HX.out.next hb)
         have d0 := HX.out.cell 0; have d1 := HX.out.cell 1; have d2 := HX.out.cell 2
         clear hb)
      | (go_at_call 14; refine (h2.out _).mono ?_; rintro e w4 ⟨rfl, hb⟩; replace HX := Lib.hid (HX.out.next hb); clear hb)
      | fail)
    go_ret
    exact ⟨rfl, HX.out.below⟩
  · rw [if_neg hs] at h4
    go_enter Try.func4, Try.ntmps4
    go_wp2_with (first
      | (go_at_call 11; refine (h4.out _).mono ?_; rintro e w1 ⟨rfl, hb⟩
         replace HX := Lib.hid (HX.out.next hb)
         clear hb)
      | fail)
    go_ret
    exact ⟨rfl, HX.out.below⟩
end Go.Proofs.Ytjopjdidbkhmnaa
