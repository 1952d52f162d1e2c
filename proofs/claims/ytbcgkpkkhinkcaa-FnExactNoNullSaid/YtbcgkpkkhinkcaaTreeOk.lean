/-
  What is proved: for any tree the program's TreeOk answers as the model's TreeOk does, and the law returns true with its argument as it was; no condition.
-/
import Derived.Test.YtbcgkpkkhinkcaaOkI
import Derived.Test.YtbcgkpkkhinkcaaTreeEqN
namespace Go.Proofs.Ytbcgkpkkhinkcaa
open Go Go.RowKit

theorem treeOk_fits (T : RT) : treeOk T = true ↔ FitsK T 8 200 := by
  unfold treeOk FitsK
  simp [Bool.and_eq_true, and_assoc]

set_option maxRecDepth 100000 in
set_option maxHeartbeats 400000 in
theorem impl_treeOk (T : RT) (w : World) (kv dv : Value) (F : List Nat) (hl : Lies w T kv dv F) :
    Calls Try.prog 31 #[.agg #[.int .i64 T.k, .int .i64 T.n, .string T.s, kv, dv]] w fun e w' => e = .returned (.bool (treeOk T)) ∧ Below w.heap.size w w' := by
  have HX := Lib.hid (Box.start w (.int .i64 T.k) (.int .i64 T.n) (.string T.s) kv dv 29)
  have HR := Lib.hid (impl_room T _ _ _ _ (hl.stay HX.out.below (Nat.le_refl _)) 8 200 (by omega) (by omega))
  clear hl
  go_enter Try.func31, Try.ntmps31
  go_wp2_with fail
  refine HR.out.mono ?_
  rintro e w1 ⟨hor, hb1⟩
  have HB := Lib.hid (HX.out.next hb1).below
  clear hb1
  rcases hor with ⟨hf, rfl⟩ | ⟨hf, rfl⟩
  · have HF := Lib.hid ((treeOk_fits T).2 hf)
    clear hf
    go_wp2
    go_ret
    exact ⟨by rw [HF.out]; rfl, HB.out⟩
  · have HF : Hid (treeOk T = false) := by
      show treeOk T = false
      rw [← Bool.not_eq_true, treeOk_fits]
      exact hf
    clear hf
    go_wp2
    go_ret
    exact ⟨by rw [HF.out]; rfl, HB.out⟩

end Go.Proofs.Ytbcgkpkkhinkcaa
