/-
  What is proved: for any text the program's PlainOk answers as the model's PlainOk does: the law returns true; no condition.
-/
import Derived.Test.YtlghcjihncmaiaaPlain
namespace Go.Proofs.Ytlghcjihncmaiaa
open Go Go.RowKit

theorem plainOk_walk (s : ByteArray) (ws : s.size ≤ maxLen) (w : World) : Calls Try.prog 3 #[.string s] w fun e w' => e = .returned (.bool true) ∧ Below w.heap.size w w' := by
  have h1 := Lib.hid (spec_plainOk s ws)
  have h2 := Lib.hid (impl_plainOk s ws)
  unfold maxLen at ws
  generalize plainB s = b at *
  by_cases hs : s.size ≤ 1048576
  · go_enter Try.func3, Try.ntmps3
    go_wp2_with (first
      | (go_at_call 4; refine (h1.out _).mono ?_; rintro e w1 ⟨rfl, e1⟩; subst e1)
      | (go_at_call 5; refine (h2.out _).mono ?_; rintro e w1 ⟨rfl, e1⟩; subst e1)
      | go_in)
    go_ret
    exact ⟨rfl, Below.refl _ _⟩
  · go_enter Try.func3, Try.ntmps3
    go_wp2
    go_ret
    exact ⟨rfl, Below.refl _ _⟩
end Go.Proofs.Ytlghcjihncmaiaa
