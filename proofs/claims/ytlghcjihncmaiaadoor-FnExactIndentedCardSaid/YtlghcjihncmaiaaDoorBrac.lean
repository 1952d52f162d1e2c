/-
  What is proved: plain facts on the text that a tree is written as in braces: its parts, one behind the other, and how long it is at most.
-/
import Derived.Test.YtlghcjihncmaiaaDoorOkW
import Derived.Test.YtlghcjihncmaiaaDoorQuoteS
import Derived.Test.YtlghcjihncmaiaaDoorNum
import Derived.Lib.Join
namespace Go.Proofs.YtlghcjihncmaiaaDoor
open Go Go.RowKit

/-- A key, and what stands behind it. -/
def keyed (key : ByteArray) (p : List UInt8) : List UInt8 := (quoteT key).data.toList ++ ([58] ++ p)

mutual
/-- What a right tree is written as. -/
def RT.brac : RT → List UInt8
  | .node k n s keys kids =>
    if k = 0 then [110, 117, 108, 108]
    else if k = 1 then (if n = 1 then [116, 114, 117, 101] else [102, 97, 108, 115, 101])
    else if k = 2 then Lib.itoa n
    else if k = 3 then (quoteT s).data.toList
    else if k = 4 then [91] ++ (Lib.join (bracAll kids) [44] ++ [93])
    else [123] ++ (Lib.join (List.zipWith keyed keys (bracAll kids)) [44] ++ [125])
def bracAll : List RT → List (List UInt8)
  | [] => []
  | t :: ts => t.brac :: bracAll ts
end

theorem bracAll_length (l : List RT) : (bracAll l).length = l.length := by
  induction l with
  | nil => rfl
  | cons t l ih => simp [bracAll, ih]

theorem bracAll_get (l : List RT) (i : Nat) (h : i < l.length) : (bracAll l)[i]? = some l[i].brac := by
  induction l generalizing i with
  | nil => simp at h
  | cons t l ih =>
    cases i with
    | zero => simp [bracAll]
    | succ i => simpa [bracAll] using ih i (by simpa using h)

/-- The parts of a list, or of a map. -/
def partsOf (k : Int) (keys : List ByteArray) (kids : List RT) : List (List UInt8) := if k = 4 then bracAll kids else List.zipWith keyed keys (bracAll kids)

theorem partsOf_length {k : Int} {keys : List ByteArray} {kids : List RT} (h : k = 4 ∨ keys.length = kids.length) : (partsOf k keys kids).length = kids.length := by
  unfold partsOf
  split
  · exact bracAll_length _
  · rename_i h4
    rw [List.length_zipWith, bracAll_length]
    omega

theorem partsOf_list {keys : List ByteArray} {kids : List RT} (i : Nat) (h : i < kids.length) : (partsOf 4 keys kids)[i]? = some kids[i].brac := by
  unfold partsOf
  rw [if_pos rfl, bracAll_get kids i h]

theorem partsOf_map {keys : List ByteArray} {kids : List RT} (i : Nat) (h : i < kids.length) (hk : i < keys.length) : (partsOf 5 keys kids)[i]? = some (keyed keys[i] kids[i].brac) := by
  unfold partsOf
  rw [if_neg (by decide), List.getElem?_zipWith, bracAll_get kids i h, List.getElem?_eq_getElem hk]

theorem brac0 {n : Int} {s : ByteArray} {keys : List ByteArray} {kids : List RT} : (RT.node 0 n s keys kids).brac = [110, 117, 108, 108] := by simp [RT.brac]
theorem brac1 {n : Int} {s : ByteArray} {keys : List ByteArray} {kids : List RT} : (RT.node 1 n s keys kids).brac = if n = 1 then [116, 114, 117, 101] else [102, 97, 108, 115, 101] := by simp [RT.brac]
theorem brac2 {n : Int} {s : ByteArray} {keys : List ByteArray} {kids : List RT} : (RT.node 2 n s keys kids).brac = Lib.itoa n := by simp [RT.brac]
theorem brac3 {n : Int} {s : ByteArray} {keys : List ByteArray} {kids : List RT} : (RT.node 3 n s keys kids).brac = (quoteT s).data.toList := by simp [RT.brac]
theorem brac4 {n : Int} {s : ByteArray} {keys : List ByteArray} {kids : List RT} : (RT.node 4 n s keys kids).brac = [91] ++ (Lib.join (partsOf 4 keys kids) [44] ++ [93]) := by simp [RT.brac, partsOf]
theorem brac5 {n : Int} {s : ByteArray} {keys : List ByteArray} {kids : List RT} : (RT.node 5 n s keys kids).brac = [123] ++ (Lib.join (partsOf 5 keys kids) [44] ++ [125]) := by simp [RT.brac, partsOf]

/-- One part more. -/
theorem join_take_succ (xs : List (List UInt8)) (sep : List UInt8) (i : Nat) (y : List UInt8) (h : xs[i]? = some y) : Lib.join (xs.take (i + 1)) sep = Lib.join (xs.take i) sep ++ ((if i = 0 then [] else sep) ++ y) := by
  cases xs with
  | nil => simp at h
  | cons x r =>
    cases i with
    | zero =>
      simp at h
      subst h
      simp [Lib.join_one, Lib.join_nil]
    | succ i =>
      rw [List.take_succ_cons, List.take_succ_cons, Lib.join_cons, Lib.join_cons, Lib.joinTail_take_succ sep r i y (by simpa using h), if_neg (by omega)]
      simp

theorem join_take_end (xs : List (List UInt8)) (sep : List UInt8) (i : Nat) (h : xs.length ≤ i) : Lib.join (xs.take i) sep = Lib.join xs sep := by
  rw [List.take_of_length_le h]

/-! ### How long -/

theorem quoteT_length (s : ByteArray) : (quoteT s).data.toList.length ≤ 802 := by
  unfold quoteT
  split
  · rename_i h
    have h1 : s.size ≤ 400 := by
      unfold textOk at h
      simp only [Bool.and_eq_true, decide_eq_true_eq] at h
      exact h.1
    have h2 := escAll_length s.data.toList
    have h3 : s.data.toList.length = s.size := by simp
    simp only [quoteL, List.length_append, List.length_cons, List.length_nil]
    omega
  · simp

theorem keyed_length (key : ByteArray) (p : List UInt8) : (keyed key p).length ≤ 803 + p.length := by
  have := quoteT_length key
  simp only [keyed, List.length_append, List.length_cons, List.length_nil]
  omega

/-- Parts, none of them longer than their trees have it. -/
theorem join_parts_le (f : Nat) : (xs : List (List UInt8)) → (kids : List RT) → xs.length = kids.length → (∀ i (h : i < kids.length) y, xs[i]? = some y → y.length + 1 ≤ f * kids[i].size) → (Lib.joinTail [44] xs).length ≤ f * sizeAll kids
  | [], kids, _, _ => by simp [Lib.joinTail]
  | x :: xs, [], h, _ => by simp at h
  | x :: xs, t :: kids, h, hy => by
    have h1 := hy 0 (by simp) x rfl
    have h2 := join_parts_le f xs kids (by simpa using h) (fun i hi y hx => hy (i + 1) (by simpa using hi) y (by simpa using hx))
    simp only [List.getElem_cons_zero] at h1
    rw [Lib.joinTail_length] at h2 ⊢
    simp only [Lib.lens, List.map_cons, List.sum_cons, List.length_cons, List.length_nil, sizeAll, Nat.mul_add] at h2 ⊢
    omega

theorem join_le_tail (xs : List (List UInt8)) : (Lib.join xs [44]).length ≤ (Lib.joinTail [44] xs).length := by
  cases xs with
  | nil => simp [Lib.join_nil]
  | cons x r =>
    rw [Lib.join_length, Lib.joinTail_length]
    simp

theorem join_take_le (xs : List (List UInt8)) (i : Nat) : (Lib.join (xs.take i) [44]).length ≤ (Lib.joinTail [44] xs).length :=
  Nat.le_trans (join_le_tail _) (Lib.joinTail_take_le [44] xs i)

theorem right_out {T : RT} (h : T.right = true) : HeadOk T ∧ ∀ i (h : i < T.kids.length), T.kids[i].right = true := by
  obtain ⟨k, n, s, keys, kids⟩ := T
  rw [RT.right, Bool.and_eq_true] at h
  refine ⟨?_, (rightAll_iff kids).1 h.2⟩
  exact @of_decide_eq_true _ (Classical.propDecidable _) h.1

theorem parts_le {k : Int} {keys : List ByteArray} {kids : List RT} (hk : k = 4 ∨ (k = 5 ∧ keys.length = kids.length)) (ih : ∀ i (h : i < kids.length), kids[i].brac.length + 804 ≤ 1700 * kids[i].size) :
    (Lib.joinTail [44] (partsOf k keys kids)).length ≤ 1700 * sizeAll kids := by
  refine join_parts_le 1700 _ _ (partsOf_length (by rcases hk with h | h; exact .inl h; exact .inr h.2)) fun i hi y hy => ?_
  have h1 := ih i hi
  rcases hk with rfl | ⟨rfl, hl⟩
  · rw [partsOf_list i hi] at hy
    obtain rfl := Option.some.inj hy
    omega
  · rw [partsOf_map i hi (by omega)] at hy
    obtain rfl := Option.some.inj hy
    have := keyed_length (keys[i]'(by omega)) kids[i].brac
    omega

theorem brac_le (T : RT) : T.right = true → T.brac.length + 804 ≤ 1700 * T.size := by
  induction T using RT.ind with
  | h k n s keys kids ih =>
    intro hr
    obtain ⟨hh, hk⟩ := right_out hr
    have hs : (RT.node k n s keys kids).size = sizeAll kids + 1 := rfl
    have hi : ∀ i (h : i < kids.length), kids[i].brac.length + 804 ≤ 1700 * kids[i].size := fun i h => ih _ (List.getElem_mem h) (hk i h)
    rw [hs]
    simp only [HeadOk, RT.k, RT.n, RT.s, RT.keys, RT.kids] at hh
    rcases hh with ⟨rfl, h⟩ | ⟨rfl, h⟩ | ⟨rfl, h, -⟩ | ⟨rfl, h⟩ | ⟨rfl, h⟩ | ⟨rfl, h, h2, h3, h4⟩
    · rw [brac0]; simp; omega
    · rw [brac1]; split <;> simp <;> omega
    · rw [brac2]
      have := Num.itoa_length n (by omega) (by omega)
      omega
    · rw [brac3]
      have := quoteT_length s
      omega
    · rw [brac4]
      have h1 := parts_le (k := 4) (keys := keys) (.inl rfl) hi
      have h2 := join_le_tail (partsOf 4 keys kids)
      simp only [List.length_append, List.length_cons, List.length_nil]
      omega
    · rw [brac5]
      have h1 := parts_le (k := 5) (keys := keys) (.inr ⟨rfl, h3⟩) hi
      have h2 := join_le_tail (partsOf 5 keys kids)
      simp only [List.length_append, List.length_cons, List.length_nil]
      omega

/-- What has been written of a list or a map, up to a part. -/
theorem parts_take_le {k n : Int} {s : ByteArray} {keys : List ByteArray} {kids : List RT} (hr : (RT.node k n s keys kids).right = true) (hk : k = 4 ∨ k = 5) (i : Nat) : (Lib.join ((partsOf k keys kids).take i) [44]).length ≤ 1700 * sizeAll kids := by
  obtain ⟨hh, hkk⟩ := right_out hr
  refine Nat.le_trans (join_take_le _ i) (parts_le ?_ fun i h => brac_le _ (hkk i h))
  rcases hk with rfl | rfl
  · exact .inl rfl
  · simp only [HeadOk, RT.k, RT.n, RT.s, RT.keys, RT.kids] at hh
    exact .inr ⟨rfl, by omega⟩
end Go.Proofs.YtlghcjihncmaiaaDoor
