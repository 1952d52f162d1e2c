/-
  What is proved: plain facts on the lines that a tree is written as, and how long they are at most.
-/
import Derived.Test.YtlghcjihncmaiaaDoorBracS
import Derived.Test.YtlghcjihncmaiaaDoorPlainP
namespace Go.Proofs.YtlghcjihncmaiaaDoor
open Go Go.RowKit

/-- What Inline writes of a right tree. -/
def inlL (T : RT) : List UInt8 := if T.k = 3 ∧ plainB T.s = true then T.s.data.toList else T.brac
/-- What a Key is written as in lines. -/
def keyL (s : ByteArray) : List UInt8 := if plainB s = true then s.data.toList else (quoteT s).data.toList
/-- What stands ahead of a kid, behind the blanks. -/
def headL (k : Int) (key : ByteArray) : List UInt8 := if k = 5 then keyL key ++ [58] else [45]

mutual
/-- A block's lines, so many blanks in. -/
def RT.lines : RT → Nat → List UInt8
  | .node k _ _ keys kids, d => linesAll k keys kids d
def linesAll : Int → List ByteArray → List RT → Nat → List UInt8
  | _, _, [], _ => []
  | k, keys, t :: ts, d => (List.replicate d 32 ++ (headL k (keys.headD ⟨#[]⟩) ++ (if t.kids.length = 0 then [32] ++ (inlL t ++ [10]) else [10] ++ t.lines (d + 2)))) ++ linesAll k keys.tail ts d
end

/-- A kid's line, or its lines. -/
def lineOf (k : Int) (key : ByteArray) (t : RT) (d : Nat) : List UInt8 := List.replicate d 32 ++ (headL k key ++ (if t.kids.length = 0 then [32] ++ (inlL t ++ [10]) else [10] ++ t.lines (d + 2)))

theorem linesAll_take (k : Int) (d : Nat) : (keys : List ByteArray) → (kids : List RT) → (j : Nat) → (h : j < kids.length) → linesAll k keys (kids.take (j + 1)) d = linesAll k keys (kids.take j) d ++ lineOf k ((keys.drop j).headD ⟨#[]⟩) kids[j] d
  | keys, [], j, h => absurd h (by simp)
  | keys, t :: kids, 0, _ => by simp [linesAll, lineOf]
  | keys, t :: kids, j + 1, h => by
    have h1 := linesAll_take k d keys.tail kids j (by simpa using h)
    simp only [List.take_succ_cons, linesAll] at h1 ⊢
    rw [h1, List.append_assoc]
    simp

theorem key_at {keys : List ByteArray} {j : Nat} (h : j < keys.length) : (keys.drop j).headD ⟨#[]⟩ = keys[j] := by
  rw [List.drop_eq_getElem_cons h]; rfl

theorem lineOf_list (key key' : ByteArray) (t : RT) (d : Nat) : lineOf 4 key t d = lineOf 4 key' t d := rfl

theorem plainB_le {s : ByteArray} (h : plainB s = true) : s.size ≤ 60 := by
  unfold plainB at h
  simp only [Bool.and_eq_true, decide_eq_true_eq] at h
  exact h.1.1.2

theorem keyL_length (s : ByteArray) : (keyL s).length ≤ 802 := by
  unfold keyL
  split
  · rename_i h
    have := plainB_le h
    have e : s.data.toList.length = s.size := by simp
    omega
  · exact quoteT_length s

theorem headL_length (k : Int) (s : ByteArray) : (headL k s).length ≤ 803 := by
  unfold headL
  have := keyL_length s
  split
  · simp only [List.length_append, List.length_cons, List.length_nil]; omega
  · simp

theorem size_leaf {t : RT} (h : t.kids.length = 0) : t.size = 1 := by
  obtain ⟨k, n, s, keys, kids⟩ := t
  have : kids = [] := List.length_eq_zero_iff.1 h
  subst this
  rfl

theorem inlL_length {t : RT} (hr : t.right = true) : (inlL t).length + 804 ≤ 1700 * t.size := by
  unfold inlL
  split
  · rename_i h
    have h1 := plainB_le h.2
    have e : t.s.data.toList.length = t.s.size := by simp
    have : 1 ≤ t.size := by cases t; rw [RT.size]; omega
    omega
  · exact brac_le t hr

theorem linesAll_le (k : Int) (d : Nat) (hd : d ≤ 1000) : (keys : List ByteArray) → (kids : List RT) → (∀ t ∈ kids, t.right = true ∧ (t.lines (d + 2)).length + 4000 ≤ 4000 * t.size) → (linesAll k keys kids d).length ≤ 4000 * sizeAll kids
  | _, [], _ => by simp [linesAll]
  | keys, t :: kids, h => by
    have h1 := linesAll_le k d hd keys.tail kids (fun x hx => h x (List.mem_cons_of_mem _ hx))
    obtain ⟨hr, h2⟩ := h t (List.mem_cons_self ..)
    have h3 := headL_length k (keys.headD ⟨#[]⟩)
    have h4 := inlL_length hr
    simp only [linesAll, List.length_append, List.length_replicate, sizeAll, Nat.mul_add]
    split
    · rename_i hz
      have := size_leaf hz
      simp only [List.length_append, List.length_cons, List.length_nil]
      omega
    · simp only [List.length_append, List.length_cons, List.length_nil]
      omega

theorem kid_size_le {kids : List RT} {t : RT} (h : t ∈ kids) : t.size ≤ sizeAll kids := by
  induction kids with
  | nil => simp at h
  | cons x kids ih =>
    simp only [sizeAll]
    rcases List.mem_cons.1 h with rfl | h
    · omega
    · have := ih h; omega

theorem kid_deep_le {kids : List RT} {t : RT} (h : t ∈ kids) : t.deep ≤ deepAll kids := by
  induction kids with
  | nil => simp at h
  | cons x kids ih =>
    simp only [deepAll]
    rcases List.mem_cons.1 h with rfl | h
    · omega
    · have := ih h; omega

theorem kid_sz_le {kids : List RT} {t : RT} (h : t ∈ kids) : t.sz ≤ szAll kids := by
  rw [szAll_sum]
  induction kids with
  | nil => simp at h
  | cons x kids ih =>
    simp only [List.map_cons, List.sum_cons]
    rcases List.mem_cons.1 h with rfl | h
    · omega
    · have := ih h; omega

theorem right_kid {T t : RT} (hr : T.right = true) (h : t ∈ T.kids) : t.right = true := by
  obtain ⟨i, hi, rfl⟩ := List.getElem_of_mem h
  exact (right_out hr).2 i hi

theorem lines_le (T : RT) : ∀ d, T.right = true → d + 2 * T.size ≤ 1000 → (T.lines d).length + 4000 ≤ 4000 * T.size := by
  induction T using RT.ind with
  | h k n s keys kids ih =>
    intro d hr hd
    have hs : (RT.node k n s keys kids).size = sizeAll kids + 1 := rfl
    rw [hs] at hd ⊢
    have := linesAll_le k d (by omega) keys kids (fun t ht => by
      have hrt := right_kid hr (show t ∈ (RT.node k n s keys kids).kids from ht)
      have := kid_size_le ht
      exact ⟨hrt, ih t ht (d + 2) hrt (by omega)⟩)
    rw [RT.lines]
    omega

theorem lines_take_le {k n : Int} {s : ByteArray} {keys : List ByteArray} {kids : List RT} {d : Nat} (hr : (RT.node k n s keys kids).right = true) (hd : d + 2 * (RT.node k n s keys kids).size ≤ 1000) (j : Nat) : (linesAll k keys (kids.take j) d).length ≤ 4000 * sizeAll kids := by
  have hs : (RT.node k n s keys kids).size = sizeAll kids + 1 := rfl
  rw [hs] at hd
  refine Nat.le_trans (linesAll_le k d (by omega) keys (kids.take j) fun t ht => ?_) ?_
  · have ht' := List.mem_of_mem_take ht
    have hrt := right_kid hr (show t ∈ (RT.node k n s keys kids).kids from ht')
    have := kid_size_le ht'
    exact ⟨hrt, lines_le t (d + 2) hrt (by omega)⟩
  · have := sizeAll_take_le kids j
    omega

theorem treeOk_parts {T : RT} (h : treeOk T = true) : T.deep ≤ 8 ∧ T.size ≤ 200 ∧ T.right = true := by
  unfold treeOk at h
  simp only [Bool.and_eq_true, decide_eq_true_eq] at h
  exact ⟨h.1.1, h.1.2, h.2⟩

theorem treeOk_kid {T t : RT} (h : treeOk T = true) (ht : t ∈ T.kids) : treeOk t = true := by
  obtain ⟨h1, h2, h3⟩ := treeOk_parts h
  obtain ⟨k, n, s, keys, kids⟩ := T
  have e1 : (RT.node k n s keys kids).deep = deepAll kids + 1 := rfl
  have e2 : (RT.node k n s keys kids).size = sizeAll kids + 1 := rfl
  have k1 := kid_deep_le (show t ∈ kids from ht)
  have k2 := kid_size_le (show t ∈ kids from ht)
  unfold treeOk
  simp only [Bool.and_eq_true, decide_eq_true_eq]
  exact ⟨⟨by omega, by omega⟩, right_kid h3 ht⟩

theorem sz_kid {T t : RT} (ht : t ∈ T.kids) : t.sz ≤ T.sz := by
  obtain ⟨k, n, s, keys, kids⟩ := T
  have := kid_sz_le (show t ∈ kids from ht)
  rw [RT.sz]
  omega

/-- What has kids, and is right, is a list or a map. -/
theorem kind_of_kids {T : RT} (h : T.right = true) (h0 : T.kids.length ≠ 0) : T.k = 4 ∨ T.k = 5 := by
  obtain ⟨hh, -⟩ := right_out h
  unfold HeadOk at hh
  omega
end Go.Proofs.YtlghcjihncmaiaaDoor
