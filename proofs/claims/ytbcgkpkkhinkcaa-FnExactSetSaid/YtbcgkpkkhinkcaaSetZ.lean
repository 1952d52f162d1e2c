/-
  What is proved: how great a map is once a key has been set in it.
-/
import Derived.Test.YtbcgkpkkhinkcaaSetP
import Derived.Test.YtbcgkpkkhinkcaaOwn
namespace Go.Proofs.Ytbcgkpkkhinkcaa
open Go Go.RowKit

theorem cntAll_append (a b : List RT) : cntAll (a ++ b) = cntAll a + cntAll b := by
  induction a with
  | nil => simp [cntAll]
  | cons t l ih => simp only [List.cons_append, cntAll, ih]; omega

theorem szAll_append (a b : List RT) : szAll (a ++ b) = szAll a + szAll b := by
  induction a with
  | nil => simp [szAll]
  | cons t l ih => simp only [List.cons_append, szAll, ih]; omega

theorem strSz_append (a b : List ByteArray) : strSz (a ++ b) = strSz a + strSz b := by
  induction a with
  | nil => simp [strSz]
  | cons t l ih => simp only [strSz, List.cons_append, List.map_cons, List.sum_cons] at ih ⊢; omega

theorem cntAll_set (X : RT) : (l : List RT) → (i : Nat) → cntAll (l.set i X) ≤ cntAll l + 3 + X.cnt
  | [], _ => by simp [cntAll]
  | t :: l, 0 => by simp only [List.set_cons_zero, cntAll]; omega
  | t :: l, i + 1 => by
    have := cntAll_set X l i
    simp only [List.set_cons_succ, cntAll]; omega

theorem szAll_set (X : RT) : (l : List RT) → (i : Nat) → szAll (l.set i X) ≤ szAll l + X.sz
  | [], _ => by simp [szAll]
  | t :: l, 0 => by simp only [List.set_cons_zero, szAll]; omega
  | t :: l, i + 1 => by
    have := szAll_set X l i
    simp only [List.set_cons_succ, szAll]; omega

theorem setT_cnt (T X : RT) (key : ByteArray) : (setT T key X).cnt ≤ T.cnt + X.cnt + 4 := by
  obtain ⟨k, n, s, keys, kids⟩ := T
  unfold setT
  split
  · rename_i hm
    split
    · have := cntAll_set X kids (firstN keys key)
      simp only [RT.cnt, RT.kids, RT.keys]
      omega
    · have e := cntAll_append (kids.take (placeN keys key)) (kids.drop (placeN keys key))
      rw [List.take_append_drop] at e
      have hl := insAt_length key (placeN_le keys key)
      simp only [RT.cnt, RT.kids, RT.keys, hl]
      simp only [insAt, cntAll_append, cntAll]
      omega
  · omega

theorem setT_sz (T X : RT) (key : ByteArray) : (setT T key X).sz ≤ T.sz + X.sz + key.size + 2 := by
  obtain ⟨k, n, s, keys, kids⟩ := T
  unfold setT
  split
  · rename_i hm
    have hlen : keys.length = kids.length := hm.2
    split
    · have := szAll_set X kids (firstN keys key)
      simp only [RT.sz, RT.kids, RT.keys, RT.s, List.length_set]
      omega
    · have e := szAll_append (kids.take (placeN keys key)) (kids.drop (placeN keys key))
      rw [List.take_append_drop] at e
      have e2 := strSz_append (keys.take (placeN keys key)) (keys.drop (placeN keys key))
      rw [List.take_append_drop] at e2
      have hl := insAt_length key (placeN_le keys key)
      have hl2 := insAt_length (l := kids) X (show placeN keys key ≤ kids.length by have := placeN_le keys key; omega)
      simp only [RT.sz, RT.kids, RT.keys, RT.s, hl, hl2]
      have e3 : strSz (key :: keys.drop (placeN keys key)) = key.size + strSz (keys.drop (placeN keys key)) := by simp [strSz]
      simp only [insAt, szAll_append, strSz_append, szAll, e3]
      omega
  · omega
end Go.Proofs.Ytbcgkpkkhinkcaa
