/-
  What is proved: plain facts on one element that is put into a row that a call owns: Go's copy at any size of element, and what slices.Insert leaves of the row, in its place or in a new one.
-/
import Derived.Test.YtbcgkpkkhinkcaaCopy
import Derived.Laws.CopyRow
import Derived.Laws.NewBlocks
import Derived.Lib.Overlaps
import Derived.Lib.AppendZerosOnto
import Derived.Laws.Externs
import Derived.Shelf.Spec.SlicesInsert
namespace Go.Proofs.Ytbcgkpkkhinkcaa
open Go Go.RowKit

/-- copy(d, s) into a block that is known whole, at any size of element. -/
theorem run_copy_rowq (P : Program) (w : World) (dT sT ty elem : TypeId) (g o dLen dCap : Nat) (a : Addr) (sLen sCap q : Nat) (cur : Array Value) (t : TypeId) (cs : List Value)
    (hu : P.underlying dT = some (.slice elem)) (hs : (P.info? elem).map (·.size) = some q)
    (hg : w.heap[g]? = some (.cells cur t (0, 0))) (hn : cs.length = Nat.min sLen dLen * q)
    (hsrc : ∀ j v, cs[j]? = some v → w.cell? (a.add j) = some v) (hfit : o + cs.length ≤ cur.size) (h1 : ∀ v ∈ cs, v.oneCell' = true) :
    (Builtin.copy_ #[dT, sT] ty #[.slice (some ⟨g, o, none⟩) dLen dCap, .slice (some a) sLen sCap]).run P w =
      .ok (goInt (Nat.min sLen dLen)) (w.setRow g (cur.toList.take o ++ cs ++ cur.toList.drop (o + cs.length)).toArray) := by
  have hl := run_loadCells_list (P := P) w a cs hsrc
  have hst := run_storeCells_at P g o t cs 0 cur w hg (by simpa using hfit) h1
  cases hq : P.info? elem with
  | none => simp [hq] at hs
  | some i =>
    have hi : i.size = q := by simpa [hq] using hs
    rw [hn] at hl
    simp [Builtin.copy_, run_underlying hu, Builtin.lenOf, Builtin.firstCells, sizeOf, typeInfo, hq, hi, hl, hst]

/-- What a row is once cs stands in it from o on. -/
def over (cur : Array Value) (o : Nat) (cs : List Value) : Array Value := (cur.toList.take o ++ cs ++ cur.toList.drop (o + cs.length)).toArray

theorem over_size {cur : Array Value} {o : Nat} {cs : List Value} (h : o + cs.length ≤ cur.size) : (over cur o cs).size = cur.size := by
  simp only [over, List.size_toArray, List.length_append, List.length_take, List.length_drop, Array.length_toList]
  omega

theorem over_get {cur : Array Value} {o : Nat} {cs : List Value} (h : o + cs.length ≤ cur.size) (j : Nat) : (over cur o cs).toList[j]? = if j < o then cur.toList[j]? else if j < o + cs.length then cs[j - o]? else cur.toList[j]? := by
  have hl : (cur.toList.take o).length = o := by simp; omega
  simp only [over, List.toList_toArray]
  by_cases h1 : j < o
  · rw [if_pos h1, List.append_assoc, List.getElem?_append_left (by omega), List.getElem?_take_of_lt h1]
  · rw [if_neg h1, List.append_assoc, List.getElem?_append_right (by omega), hl]
    by_cases h2 : j < o + cs.length
    · rw [if_pos h2, List.getElem?_append_left (by omega)]
    · rw [if_neg h2, List.getElem?_append_right (by omega), List.getElem?_drop]
      congr 1
      omega

/-- Shifted, then put into its place. -/
theorem shift_row {cur : Array Value} {xs ys : List Value} {i n q cap : Nat} (hx : cur.toList.take (n * q) = xs) (hxl : xs.length = n * q) (hs : cur.size = cap * q) (hi : i < n) (hroom : n + 1 ≤ cap) (hy : ys.length = q) :
    (over (over cur ((i + 1) * q) (xs.drop (i * q))) (i * q) ys).size = cap * q ∧ (over (over cur ((i + 1) * q) (xs.drop (i * q))) (i * q) ys).toList.take ((n + 1) * q) = xs.take (i * q) ++ ys ++ xs.drop (i * q) := by
  have e1 : (i + 1) * q = i * q + q := Nat.succ_mul _ _
  have e2 : (n + 1) * q = n * q + q := Nat.succ_mul _ _
  have e3 : (n + 1) * q ≤ cap * q := Nat.mul_le_mul_right _ hroom
  have e4 : i * q ≤ n * q := Nat.mul_le_mul_right _ (by omega)
  have hd : (xs.drop (i * q)).length = n * q - i * q := by rw [List.length_drop, hxl]
  have b1 : (i + 1) * q + (xs.drop (i * q)).length ≤ cur.size := by rw [hd, hs]; omega
  have s1 := over_size b1
  have b2 : i * q + ys.length ≤ (over cur ((i + 1) * q) (xs.drop (i * q))).size := by rw [s1, hs, hy]; omega
  refine ⟨by rw [over_size b2, s1, hs], ?_⟩
  have ht : (xs.take (i * q)).length = i * q := by rw [List.length_take]; omega
  apply List.ext_getElem?
  intro j
  by_cases hj : j < (n + 1) * q
  · rw [List.getElem?_take_of_lt hj, over_get b2, List.append_assoc]
    by_cases h1 : j < i * q
    · rw [if_pos h1, over_get b1, if_pos (by omega), List.getElem?_append_left (by omega), List.getElem?_take_of_lt h1, ← hx, List.getElem?_take_of_lt (by omega)]
    · rw [if_neg h1, List.getElem?_append_right (by omega), ht]
      by_cases h2 : j < i * q + ys.length
      · rw [if_pos h2, List.getElem?_append_left (by omega)]
      · rw [if_neg h2, over_get b1, if_neg (by omega), if_pos (by omega), List.getElem?_append_right (by omega)]
        congr 1
        omega
  · rw [List.getElem?_eq_none (by rw [List.length_take]; omega), List.getElem?_eq_none]
    simp only [List.length_append, ht, hy, hd]
    omega

/-- A new row: what stood ahead, the new one, what stood behind. -/
theorem fresh_row {cur : Array Value} {xs ys : List Value} {i n q cap : Nat} (hx : cur.toList.take (i * q) = xs.take (i * q)) (hxl : xs.length = n * q) (hs : cur.size = cap * q) (hi : i < n) (hroom : n + 1 ≤ cap) (hy : ys.length = q) :
    (over (over cur (i * q) ys) ((i + 1) * q) (xs.drop (i * q))).size = cap * q ∧ (over (over cur (i * q) ys) ((i + 1) * q) (xs.drop (i * q))).toList.take ((n + 1) * q) = xs.take (i * q) ++ ys ++ xs.drop (i * q) := by
  have e1 : (i + 1) * q = i * q + q := Nat.succ_mul _ _
  have e2 : (n + 1) * q = n * q + q := Nat.succ_mul _ _
  have e3 : (n + 1) * q ≤ cap * q := Nat.mul_le_mul_right _ hroom
  have e4 : i * q ≤ n * q := Nat.mul_le_mul_right _ (by omega)
  have hd : (xs.drop (i * q)).length = n * q - i * q := by rw [List.length_drop, hxl]
  have b1 : i * q + ys.length ≤ cur.size := by rw [hs, hy]; omega
  have s1 := over_size b1
  have b2 : (i + 1) * q + (xs.drop (i * q)).length ≤ (over cur (i * q) ys).size := by rw [s1, hd, hs]; omega
  refine ⟨by rw [over_size b2, s1, hs], ?_⟩
  have ht : (xs.take (i * q)).length = i * q := by rw [List.length_take]; omega
  apply List.ext_getElem?
  intro j
  by_cases hj : j < (n + 1) * q
  · rw [List.getElem?_take_of_lt hj, over_get b2, List.append_assoc]
    by_cases h1 : j < i * q
    · rw [if_pos (by omega), over_get b1, if_pos h1, List.getElem?_append_left (by omega), ← hx, List.getElem?_take_of_lt h1]
    · rw [List.getElem?_append_right (by omega), ht]
      by_cases h2 : j < i * q + ys.length
      · rw [if_pos (by omega), over_get b1, if_neg h1, if_pos h2, List.getElem?_append_left (by omega)]
      · rw [if_neg (by omega), if_pos (by omega), List.getElem?_append_right (by omega)]
        congr 1
        omega
  · rw [List.getElem?_eq_none (by rw [List.length_take]; omega), List.getElem?_eq_none]
    simp only [List.length_append, ht, hy, hd]
    omega

/-- A world in which one block alone is another row. -/
theorem grown_of_row {w w' : World} {g : Nat} {cur cur' : Array Value} {t : TypeId} (hw : w.heap[g]? = some (.cells cur t (0, 0))) (he : w' = w.setRow g cur' ∨ w' = w.drew.setRow g cur' ∨ w' = (w.setRow g cur').drew ∨ w' = (w.drew.setRow g cur').drew) :
    w.grownBy w' (some g) ∧ w'.heap[g]? = some (.cells cur' t (0, 0)) := by
  have hs : (w.setRow g cur').heap.size = w.heap.size := by simp [World.setRow]
  have hb : ∀ k, k < w.heap.size → some k ≠ some g → (w.setRow g cur').heap[k]? = w.heap[k]? := fun k _ hk => setRow_other _ _ _ _ (fun e => hk (by rw [e]))
  have hh := setRow_heap w g cur cur' t (0, 0) hw
  rcases he with e | e | e | e <;> subst e <;> exact ⟨⟨rfl, rfl, rfl, Nat.le_of_eq hs.symm, hb⟩, hh⟩

theorem cell_row {w : World} {g : Nat} {cur : Array Value} {t : TypeId} (h : w.heap[g]? = some (.cells cur t (0, 0))) {o : Nat} {cs : List Value} (hc : ∀ j v, cs[j]? = some v → cur.toList[o + j]? = some v) : ∀ j v, cs[j]? = some v → w.cell? ((⟨g, o, none⟩ : Addr).add j) = some v := fun j v hj => by
  rw [Go.WideShapes.add_plain, cell_of h]
  simpa using hc j v hj

end Go.Proofs.Ytbcgkpkkhinkcaa
