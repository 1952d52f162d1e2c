/-
  What is proved: for any text the program's NameOk answers as the model's NameOk does: the law returns true; no condition.
-/
import Derived.Test.YtjopjdidbkhmnaaNames
namespace Go.Proofs.Ytjopjdidbkhmnaa
open Go Go.RowKit

theorem nameOk_walk (s : ByteArray) (ws : s.size ≤ maxLen) (w : World) : Calls Try.prog 3 #[.string s] w fun e w' => e = .returned (.bool true) ∧ Below w.heap.size w w' := by
  have h1 := Lib.hid (spec_nameOk s ws)
  have h2 := Lib.hid (impl_nameOk s ws)
  unfold maxLen at ws
  generalize nameB s = b at *
  by_cases hs : s.size ≤ 1048576
  · go_enter Try.func3, Try.ntmps3
    go_wp2_with (first
      | (go_at_call 9; refine (h1.out _).mono ?_; rintro e w1 ⟨rfl, e1⟩; subst e1)
      | (go_at_call 10; refine (h2.out _).mono ?_; rintro e w1 ⟨rfl, e1⟩; subst e1)
      | go_in)
    go_ret
    exact ⟨rfl, Below.refl _ _⟩
  · go_enter Try.func3, Try.ntmps3
    go_wp2
    go_ret
    exact ⟨rfl, Below.refl _ _⟩
end Go.Proofs.Ytjopjdidbkhmnaa
