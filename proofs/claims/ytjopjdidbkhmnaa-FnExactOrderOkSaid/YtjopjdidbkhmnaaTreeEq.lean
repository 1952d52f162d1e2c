/-
  What is proved: the laws' eqStringS, eqNodeS and eqNode tell whether two lists of texts, two lists of trees, two trees are the same.
-/
import Derived.Test.YtjopjdidbkhmnaaTree
import Derived.Test.YtjopjdidbkhmnaaRows
import Derived.WalkKit
import Derived.WalkSpells
import Derived.Deep.QuietTactic
import Derived.Deep.RegionWith
import Derived.BigQuiet
namespace Go.Proofs.Ytjopjdidbkhmnaa
open Go Go.RowKit

noncomputable def same {α : Type} (a b : α) : Bool := @decide (a = b) (Classical.propDecidable _)
theorem same_yes {α : Type} {a b : α} (h : a = b) : same a b = true := @decide_eq_true _ (Classical.propDecidable _) h
theorem same_no {α : Type} {a b : α} (h : ¬ a = b) : same a b = false := @decide_eq_false _ (Classical.propDecidable _) h
theorem same_iff {α : Type} {a b : α} : same a b = true ↔ a = b := by
  constructor
  · intro h
    exact @of_decide_eq_true _ (Classical.propDecidable _) h
  · exact same_yes
theorem same_iff_no {α : Type} {a b : α} : same a b = false ↔ ¬ a = b := by
  constructor
  · intro h e
    rw [same_yes e] at h
    cases h
  · exact same_no

theorem below_drewN {B : Nat} {a w : World} (h : Below B a w) (n : Nat) : Below B a (w.drewN n) := h.trans ⟨rfl, rfl, rfl, Nat.le_refl _, fun _ _ => rfl⟩

theorem take_step {α : Type} {l l' : List α} {k : Nat} (h : l.take k = l'.take k) (h1 : k < l.length) (h2 : k < l'.length) (e : l[k] = l'[k]) : l.take (k + 1) = l'.take (k + 1) := by
  rw [List.take_succ_eq_append_getElem h1, List.take_succ_eq_append_getElem h2, h, e]

theorem take_end {α : Type} {l l' : List α} {k : Nat} (h : l.take k = l'.take k) (h1 : ¬ k < l.length) (h2 : l.length = l'.length) : l = l' := by
  rw [List.take_of_length_le (by omega), List.take_of_length_le (by omega)] at h
  exact h

theorem ne_at {α : Type} {l l' : List α} {k : Nat} (h1 : k < l.length) (h2 : k < l'.length) (e : ¬ l[k] = l'[k]) : ¬ l = l' := by
  intro h
  subst h
  exact e rfl

end Go.Proofs.Ytjopjdidbkhmnaa
