/-
  What is proved: how much of a room the laws take a list of texts, a list of trees, and a tree for: less what it holds, or -1 where that is more.
-/
import Derived.Test.YtmbjmjbljnlifaaDoorTree
import Derived.Test.YtmbjmjbljnlifaaDoorRows
import Derived.WalkKit
import Derived.WalkSpells
namespace Go.Proofs.YtmbjmjbljnlifaaDoor
open Go Go.RowKit

def strSz (ks : List ByteArray) : Nat := (ks.map ByteArray.size).sum

mutual
def RT.sz : RT → Nat
  | .node _ _ s keys kids => s.size + (keys.length + strSz keys) + (kids.length + szAll kids)
def szAll : List RT → Nat
  | [] => 0
  | t :: ts => t.sz + szAll ts
end

theorem szAll_sum (l : List RT) : szAll l = (l.map RT.sz).sum := by
  induction l with
  | nil => simp [szAll]
  | cons t l ih => simp [szAll, ih]

theorem sum_take {α : Type} (l : List α) (f : α → Nat) (i : Nat) (h : i < l.length) : ((l.take (i + 1)).map f).sum = ((l.take i).map f).sum + f l[i] := by
  rw [List.take_succ_eq_append_getElem h, List.map_append, List.sum_append]
  simp

theorem sum_take_le {α : Type} (l : List α) (f : α → Nat) (i : Nat) : ((l.take i).map f).sum ≤ (l.map f).sum := by
  have h := congrArg (fun x => (List.map f x).sum) (List.take_append_drop i l)
  simp only [List.map_append, List.sum_append] at h
  omega

/-- What is left of a room. -/
def left (room : Int) (n : Nat) : Int := if (n : Int) ≤ room then room - n else -1

theorem left_ok {r : Int} {n : Nat} (h : (n : Int) ≤ r) : left r n = r - n := by unfold left; rw [if_pos h]
theorem left_no {r : Int} {n : Nat} (h : ¬ (n : Int) ≤ r) : left r n = -1 := by unfold left; rw [if_neg h]

end Go.Proofs.YtmbjmjbljnlifaaDoor
