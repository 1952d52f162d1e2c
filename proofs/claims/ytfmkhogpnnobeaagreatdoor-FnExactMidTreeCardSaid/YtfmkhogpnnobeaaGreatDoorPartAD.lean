/-
  What is proved: plain facts on a tree that is put into a list of trees: in the place of one of them, or between two; and what a map is once a key has been set in it.; plain facts on lists of texts and of nodes that a literal lays: one block each; and on the map that comes of keys in any order.; a call of a Go function at a step of a region that draws its order.; a slice literal at a step of a region that draws its order: one new block, which holds what the literal has.; plain facts on lists of small structs as they lie in memory, and on metrics, notes, paces and orders.
-/
import Derived.Test.YtfmkhogpnnobeaaGreatDoorPartAC
import Derived.Test.YtfmkhogpnnobeaaGreatDoorPartAA
import Derived.Test.YtfmkhogpnnobeaaGreatDoorRows
import Derived.WalkKit
import Derived.Deep.RegionHeld3
import Derived.Great.BuildSlice
/- plain facts on a tree that is put into a list of trees: in the place of one of them, or between two; and what a map is once a key has been set in it. -/
namespace Go.Proofs.YtfmkhogpnnobeaaGreatDoor
open Go Go.RowKit

/-! ### What Set answers -/

/-- The first place of a key; how many keys there are, where it is none of them. -/
def firstN (ks : List ByteArray) (key : ByteArray) : Nat := (ks.takeWhile fun k => !(k.toList == key.toList)).length

theorem tw_unique {α : Type} {p : α → Bool} : ∀ (l : List α) (i : Nat), i ≤ l.length → (∀ j (h : j < l.length), j < i → p l[j] = true) → (∀ h : i < l.length, p l[i] = false) → (l.takeWhile p).length = i
  | [], i, hi, _, _ => by simp at hi; simp [hi]
  | x :: l, 0, _, _, h2 => by
    have := h2 (by simp)
    simp only [List.getElem_cons_zero] at this
    simp [this]
  | x :: l, i + 1, hi, h1, h2 => by
    have h0 := h1 0 (by simp) (by omega)
    simp only [List.getElem_cons_zero] at h0
    rw [List.takeWhile_cons, if_pos h0, List.length_cons]
    rw [tw_unique l i (by simpa using hi) (fun j hj hji => by have := h1 (j + 1) (by simpa using hj) (by omega); simpa using this) (fun h => by have := h2 (by simpa using h); simpa using this)]

theorem first_of {ks : List ByteArray} {key : ByteArray} {i : Nat} (h : FirstAt ks key i) : firstN ks key = i := by
  obtain ⟨hi, he, hn⟩ := h
  refine tw_unique ks i (by omega) (fun j hj hji => ?_) (fun _ => ?_)
  · rw [bytes_ne (hn j hji)]; rfl
  · rw [he]; simp

theorem first_none {ks : List ByteArray} {key : ByteArray} (h : Absent ks key) : firstN ks key = ks.length :=
  tw_unique ks _ (Nat.le_refl _) (fun j hj _ => by rw [bytes_ne (h j hj)]; rfl) (fun hh => absurd hh (by omega))

/-- A list with one more between its i-th and what stands ahead of it. -/
def insAt {α : Type} (l : List α) (i : Nat) (x : α) : List α := l.take i ++ (x :: l.drop i)

theorem insAt_length {α : Type} {l : List α} {i : Nat} (x : α) (h : i ≤ l.length) : (insAt l i x).length = l.length + 1 := by
  simp [insAt]; omega

theorem insAt_get {α : Type} {l : List α} {i : Nat} (x : α) (h : i ≤ l.length) (j : Nat) : (insAt l i x)[j]? = if j < i then l[j]? else if j = i then some x else l[j - 1]? := by
  have ht : (l.take i).length = i := by simp; omega
  unfold insAt
  by_cases h1 : j < i
  · rw [if_pos h1, List.getElem?_append_left (by omega), List.getElem?_take_of_lt h1]
  · rw [if_neg h1, List.getElem?_append_right (by omega), ht]
    by_cases h2 : j = i
    · subst h2; simp
    · rw [if_neg h2, show j - i = (j - i - 1) + 1 by omega, List.getElem?_cons_succ, List.getElem?_drop]
      congr 1; omega

theorem insAt_mem {α : Type} {l : List α} {i : Nat} {x y : α} (h : y ∈ insAt l i x) : y = x ∨ y ∈ l := by
  rcases List.mem_append.1 h with h | h
  · exact .inr (List.mem_of_mem_take h)
  · rcases List.mem_cons.1 h with h | h
    · exact .inl h
    · exact .inr (List.mem_of_mem_drop h)

def RT.isMap (T : RT) : Prop := T.k = 5 ∧ T.keys.length = T.kids.length

instance (T : RT) : Decidable T.isMap := by unfold RT.isMap; infer_instance

/-- The tree T with X at a key; T, where it is no map. -/
def setT (T : RT) (key : ByteArray) (X : RT) : RT :=
  if T.isMap then
    if firstN T.keys key < T.keys.length then .node T.k T.n T.s T.keys (T.kids.set (firstN T.keys key) X)
    else .node T.k T.n T.s (insAt T.keys (placeN T.keys key) key) (insAt T.kids (placeN T.keys key) X)
  else T

theorem setT_no {T X : RT} {key : ByteArray} (h : ¬ T.isMap) : setT T key X = T := if_neg h
theorem setT_put {T X : RT} {key : ByteArray} (h : T.isMap) {i : Nat} (hi : FirstAt T.keys key i) : setT T key X = .node T.k T.n T.s T.keys (T.kids.set i X) := by
  have h1 := first_of hi
  rw [setT, if_pos h, if_pos (by rw [h1]; exact hi.1), h1]
theorem setT_ins {T X : RT} {key : ByteArray} (h : T.isMap) (ha : Absent T.keys key) : setT T key X = .node T.k T.n T.s (insAt T.keys (placeN T.keys key) key) (insAt T.kids (placeN T.keys key) X) := by
  rw [setT, if_pos h, if_neg (by rw [first_none ha]; omega)]
theorem setT_kns (T X : RT) (key : ByteArray) : (setT T key X).k = T.k ∧ (setT T key X).n = T.n ∧ (setT T key X).s = T.s := by
  unfold setT
  split
  · split <;> exact ⟨rfl, rfl, rfl⟩
  · exact ⟨rfl, rfl, rfl⟩

/-! ### Rows with one more -/

def insF {α : Type} (i : Nat) (x : α) (f : Nat → α) : Nat → α := fun j => if j < i then f j else if j = i then x else f (j - 1)

theorem flat_cut {β : Type} (F : Nat → List β) {i n : Nat} (hi : i ≤ n) : (List.range n).flatMap F = (List.range i).flatMap F ++ (List.range (n - i)).flatMap (fun j => F (i + j)) := by
  obtain ⟨m, rfl⟩ : ∃ m, n = i + m := ⟨n - i, by omega⟩
  rw [List.range_add, List.flatMap_append, List.flatMap_map, Nat.add_sub_cancel_left]

theorem flat_ins {β : Type} (F : Nat → List β) (X : List β) {i n : Nat} (hi : i ≤ n) : (List.range (n + 1)).flatMap (insF i X F) = (List.range i).flatMap F ++ X ++ (List.range (n - i)).flatMap (fun j => F (i + j)) := by
  obtain ⟨m, rfl⟩ : ∃ m, n = i + m := ⟨n - i, by omega⟩
  rw [show i + m + 1 = i + 1 + m by omega, List.range_add, List.flatMap_append, List.flatMap_map, List.range_succ, List.flatMap_append, Nat.add_sub_cancel_left]
  congr 1
  · congr 1
    · exact Go.Deep.flatMap_congr_range fun j hj => by simp [insF, hj]
    · simp [insF]
  · exact Go.Deep.flatMap_congr_range fun j hj => by
      have e1 : ¬ (i + 1 + j < i) := by omega
      have e2 : ¬ (i + 1 + j = i) := by omega
      simp only [insF, e1, e2, if_false]
      congr 1; omega

theorem rows_ins {kids : List RT} {i : Nat} (hi : i ≤ kids.length) (KV DV : Nat → Value) (X : RT) (kx dx : Value) :
    rowsOf (insAt kids i X) (insF i kx KV) (insF i dx DV) (kids.length + 1) = (rowsOf kids KV DV kids.length).take (i * 5) ++ X.row kx dx ++ (rowsOf kids KV DV kids.length).drop (i * 5) := by
  have hl : ((List.range i).flatMap fun j => (kids.getD j default).row (KV j) (DV j)).length = i * 5 := rowsOf_length kids KV DV i
  have e : rowsOf (insAt kids i X) (insF i kx KV) (insF i dx DV) (kids.length + 1) = (List.range (kids.length + 1)).flatMap (insF i (X.row kx dx) fun j => (kids.getD j default).row (KV j) (DV j)) := by
    refine Go.Deep.flatMap_congr_range fun j hj => ?_
    have hg : (insAt kids i X).getD j default = if j < i then kids.getD j default else if j = i then X else kids.getD (j - 1) default := by
      rw [List.getD, insAt_get X hi]
      split
      · rfl
      · split <;> rfl
    rw [hg]
    unfold insF
    by_cases h1 : j < i
    · simp only [h1, if_true]
    · by_cases h2 : j = i
      · subst h2; simp only [h1, if_false, if_true]
      · simp only [h1, h2, if_false]
  rw [e, flat_ins _ _ hi]
  show _ = ((List.range kids.length).flatMap _).take _ ++ _ ++ ((List.range kids.length).flatMap _).drop _
  rw [flat_cut _ hi, List.take_append_of_le_length (by rw [hl]; exact Nat.le_refl _), List.take_of_length_le (by rw [hl]; exact Nat.le_refl _), List.drop_append_of_le_length (by rw [hl]; exact Nat.le_refl _), List.drop_of_length_le (by rw [hl]; exact Nat.le_refl _), List.nil_append]

theorem nodup_mid {A B X : List Nat} (h : (A ++ B).Nodup) (hX : X.Nodup) (hd : ∀ x ∈ X, x ∉ A ++ B) : (A ++ X ++ B).Nodup := by
  obtain ⟨hA, hB, hAB⟩ := List.nodup_append.1 h
  refine List.nodup_append.2 ⟨List.nodup_append.2 ⟨hA, hX, fun a ha b hb e => hd b hb (List.mem_append_left _ (e ▸ ha))⟩, hB, fun a ha b hb e => ?_⟩
  rcases List.mem_append.1 ha with ha | ha
  · exact hAB a ha b hb e
  · exact hd a ha (List.mem_append_right _ (e ▸ hb))

theorem Fresh.mid {w wf : World} {A B X : List Nat} (h : Fresh w wf (A ++ B)) (hX : Fresh w wf X) (hd : ∀ x ∈ X, x ∉ A ++ B) : Fresh w wf (A ++ X ++ B) := by
  have hm : ∀ x ∈ A ++ X ++ B, x ∈ A ++ B ∨ x ∈ X := fun x hx => by
    rcases List.mem_append.1 hx with hx | hx
    · rcases List.mem_append.1 hx with hx | hx
      · exact .inl (List.mem_append_left _ hx)
      · exact .inr hx
    · exact .inl (List.mem_append_right _ hx)
  refine ⟨nodup_mid h.nodup hX.nodup hd, fun x hx => ?_, fun x hx => ?_⟩
  · rcases hm x hx with h' | h'
    · exact h.old x h'
    · exact hX.old x h'
  · rcases hm x hx with h' | h'
    · exact h.free x h'
    · exact hX.free x h'

/-! ### Lists that a call owns -/

theorem owns_of_strs {w : World} {base : Nat} {t : TypeId} {v : Value} {ks : List ByteArray} {F : List Nat} (h : StrsAt w v ks F) (hw : Whole w base t 1 v) :
    w.ownsRow base t 1 v ks.length (ks.map .string) ∧ ∀ x, v.ownBlock = some x → x ∈ F := by
  obtain ⟨o, cap, b, off, rfl, h1, h2, h3, rfl, h4, -⟩ := h
  rcases hw with hv | ⟨g, n, cap', cur, hv, hn, hg, hh, hc, hcm, hsz⟩
  · injection hv with e1 e2 e3
    have e : ks = [] := List.length_eq_zero_iff.1 e2
    subst e e1 e3
    exact ⟨⟨rfl, .inl ⟨rfl, rfl⟩⟩, fun x hx => by simp [Value.ownBlock] at hx⟩
  · injection hv with e1 e2 e3
    have e4 := h3 (by omega)
    rw [e1] at e4
    injection e4 with e4
    injection e4 with e4 e5
    subst e1 e2 e3 e4 e5
    refine ⟨⟨by simp, .inr ⟨g, cap, cur, rfl, hg, hh, hc, hcm, hsz, ?_⟩⟩, fun x hx => ?_⟩
    · apply List.ext_getElem?
      intro i
      by_cases hi : i < ks.length
      · have hc := (h4 i hi).1
        rw [Nat.zero_add, cell_of hh] at hc
        rw [List.getElem?_take_of_lt (by omega), List.getElem?_map, List.getElem?_eq_getElem hi]
        simpa using hc
      · rw [List.getElem?_eq_none (by simp; omega), List.getElem?_eq_none (by simp; omega)]
    · rw [if_neg (by omega)]
      simpa [Value.ownBlock] using hx.symm

theorem owns_of_kids {w : World} {base : Nat} {t : TypeId} {v : Value} {kids : List RT} {F : List Nat} (h : KidsLie w v kids F) (hw : Whole w base t 5 v) :
    ∃ (KV DV : Nat → Value) (FF : Nat → List Nat) (G : List Nat), w.ownsRow base t 5 v kids.length (rowsOf kids KV DV kids.length) ∧ (∀ j (h : j < kids.length), Lies w kids[j] (KV j) (DV j) (FF j)) ∧ F = G ++ (List.range kids.length).flatMap FF ∧ ∀ x, v.ownBlock = some x → x ∈ G := by
  obtain ⟨o, cap, b, off, FF, KV, DV, rfl, h1, h2, h3, rfl, h4, h5, -⟩ := h
  refine ⟨KV, DV, FF, _, ?_, h5, rfl, ?_⟩
  · refine ⟨rowsOf_length _ _ _ _, ?_⟩
    rcases hw with hv | ⟨g, n, cap', cur, hv, hn, hg, hh, hc, hcm, hsz⟩
    · injection hv with e1 e2 e3
      rw [e1, e2, e3]
      exact .inl ⟨rfl, rfl⟩
    · injection hv with e1 e2 e3
      have e4 := h3 (by omega)
      rw [e1] at e4
      injection e4 with e4
      injection e4 with e4 e5
      subst e1 e2 e3 e4 e5
      refine .inr ⟨g, cap, cur, rfl, hg, hh, hc, hcm, hsz, ?_⟩
      apply List.ext_getElem?
      intro i
      by_cases hi : i < kids.length * 5
      · have hi5 : i / 5 < kids.length := by omega
        have hc := h4 (i / 5) hi5 (i % 5) (by omega)
        have hr := rowsOf_get kids KV DV kids.length (i / 5) (i % 5) hi5 (by omega)
        have e : i / 5 * 5 + i % 5 = i := by omega
        rw [e] at hr
        rw [Nat.zero_add, e, cell_of hh] at hc
        rw [List.getElem?_take_of_lt hi, hr]
        have e2 : kids.getD (i / 5) default = kids[i / 5] := by simp [List.getD, List.getElem?_eq_getElem hi5]
        rw [e2]
        simpa using hc
      · rw [List.getElem?_eq_none (by simp; omega), List.getElem?_eq_none (by rw [rowsOf_length]; omega)]
  · intro x hx
    rcases hw with hv | ⟨g, n, cap', cur, hv, hn, hg, hh, hc, hcm, hsz⟩
    · rw [hv] at hx; simp [Value.ownBlock] at hx
    · injection hv with e1 e2 e3
      have e4 := h3 (by omega)
      rw [e4] at hx
      rw [if_neg (by omega)]
      simpa [Value.ownBlock] using hx.symm

theorem strs_owned {w wf : World} {base : Nat} {t : TypeId} {v : Value} {ks : List ByteArray} (hown : wf.ownsRow base t 1 v ks.length (ks.map .string)) (hs : ∀ i (h : i < ks.length), ks[i].size ≤ maxLen) (hb : w.heap.size ≤ base) :
    ∃ F, StrsAt wf v ks F ∧ Fresh w wf F ∧ ∀ x ∈ F, v.ownBlock = some x := by
  rcases hown.2 with ⟨rfl, h0⟩ | ⟨g, cap, cur, rfl, hg, hh, hnc, hcm, hsz, htk⟩
  · have e : ks = [] := List.length_eq_zero_iff.1 h0
    subst e
    exact ⟨[], ⟨none, 0, 0, 0, rfl, Nat.le_refl _, Nat.zero_le _, fun h => absurd h (by simp), rfl, fun i hi => absurd hi (by simp), Room.nil _ _ _⟩, Fresh.nil _ _, fun x hx => absurd hx (by simp)⟩
  · refine ⟨if cap = 0 then [] else [g], ⟨_, cap, g, 0, rfl, hnc, hcm, fun _ => rfl, rfl, fun i hi => ⟨?_, hs i hi⟩, room_of hh (by omega)⟩, ?_, ?_⟩
    · rw [Nat.zero_add, cell_of hh]
      have h1 : (cur.toList.take (ks.length * 1))[i]? = (ks.map Value.string)[i]? := by rw [htk]
      rw [List.getElem?_take_of_lt (by omega), List.getElem?_map, List.getElem?_eq_getElem hi] at h1
      simpa using h1
    · split
      · exact Fresh.nil _ _
      · exact ⟨by simp, fun b hb' => by simp at hb'; omega, fun b hb' o => by simp at hb'; subst hb'; simp [World.frozen?, hh]⟩
    · intro x hx
      split at hx
      · simp at hx
      · simp at hx; subst hx; rfl

theorem kids_owned {w wf : World} {base : Nat} {t : TypeId} {v : Value} {kids : List RT} {KV DV : Nat → Value} {FF : Nat → List Nat} (hown : wf.ownsRow base t 5 v kids.length (rowsOf kids KV DV kids.length)) (hlie : ∀ j (h : j < kids.length), Lies wf kids[j] (KV j) (DV j) (FF j))
    (hf : Fresh w wf ((List.range kids.length).flatMap FF)) (hap : ∀ g, v.ownBlock = some g → g ∉ (List.range kids.length).flatMap FF) (hb : w.heap.size ≤ base) :
    ∃ F, KidsLie wf v kids F ∧ Fresh w wf F ∧ ∀ x ∈ F, v.ownBlock = some x ∨ x ∈ (List.range kids.length).flatMap FF := by
  rcases hown.2 with ⟨rfl, h0⟩ | ⟨g, cap, cur, rfl, hg, hh, hnc, hcm, hsz, htk⟩
  · have e : kids = [] := List.length_eq_zero_iff.1 h0
    subst e
    exact ⟨[], ⟨none, 0, 0, 0, fun _ => [], fun _ => .bool true, fun _ => .bool true, rfl, Nat.le_refl _, Nat.zero_le _, fun h => absurd h (by simp), rfl, fun i hi => absurd hi (by simp), fun i hi => absurd hi (by simp), Room.nil _ _ _⟩, Fresh.nil _ _, fun x hx => absurd hx (by simp)⟩
  · refine ⟨_, ⟨_, cap, g, 0, FF, KV, DV, rfl, hnc, hcm, fun _ => rfl, rfl, fun i hi j hj => ?_, hlie, room_of hh (by omega)⟩, ?_, ?_⟩
    · have hget := rowsOf_get kids KV DV kids.length i j hi hj
      rw [← htk, List.getElem?_take_of_lt (by omega)] at hget
      rw [Nat.zero_add, cell_of hh]
      have e2 : kids.getD i default = kids[i] := by simp [List.getD, List.getElem?_eq_getElem hi]
      rw [e2] at hget
      simpa using hget
    · split
      · simpa using hf
      · refine ⟨?_, ?_, ?_⟩
        · simp only [List.singleton_append, List.nodup_cons]
          exact ⟨hap g rfl, hf.nodup⟩
        · intro b hbF
          rcases List.mem_append.1 hbF with hbF | hbF
          · simp at hbF; omega
          · exact hf.old b hbF
        · intro b hbF o
          rcases List.mem_append.1 hbF with hbF | hbF
          · simp at hbF; subst hbF; simp [World.frozen?, hh]
          · exact hf.free b hbF o
    · intro x hx
      rcases List.mem_append.1 hx with hx | hx
      · split at hx
        · simp at hx
        · simp at hx; subst hx; exact .inl rfl
      · exact .inr hx

theorem insAt_lie {wf : World} {kids : List RT} {i : Nat} (hi : i ≤ kids.length) {X : RT} {KV DV : Nat → Value} {FF : Nat → List Nat} {kx dx : Value} {FX : List Nat} (hlie : ∀ j (h : j < kids.length), Lies wf kids[j] (KV j) (DV j) (FF j)) (hX : Lies wf X kx dx FX) :
    ∀ j (h : j < (insAt kids i X).length), Lies wf (insAt kids i X)[j] (insF i kx KV j) (insF i dx DV j) (insF i FX FF j) := fun j hj => by
  have hl := insAt_length X hi
  have hg := insAt_get X hi j
  rw [List.getElem?_eq_getElem hj] at hg
  unfold insF
  by_cases h1 : j < i
  · rw [if_pos h1, List.getElem?_eq_getElem (by omega)] at hg
    injection hg with hg
    simp only [h1, if_true]
    rw [hg]; exact hlie j (by omega)
  · by_cases h2 : j = i
    · subst h2
      rw [if_neg h1, if_pos rfl] at hg
      injection hg with hg
      simp only [h1, if_false, if_true]
      rw [hg]; exact hX
    · rw [if_neg h1, if_neg h2, List.getElem?_eq_getElem (by omega)] at hg
      injection hg with hg
      simp only [h1, h2, if_false]
      rw [hg]; exact hlie (j - 1) (by omega)

/-- One tree more in a list of trees that a call owns. -/
theorem kids_ins {w wf : World} {base : Nat} {t : TypeId} {v : Value} {kids : List RT} {KV DV : Nat → Value} {FF : Nat → List Nat} {X : RT} {kx dx : Value} {FX : List Nat} {i : Nat} (hi : i ≤ kids.length)
    (hown : wf.ownsRow base t 5 v (kids.length + 1) ((rowsOf kids KV DV kids.length).take (i * 5) ++ X.row kx dx ++ (rowsOf kids KV DV kids.length).drop (i * 5)))
    (hlie : ∀ j (h : j < kids.length), Lies wf kids[j] (KV j) (DV j) (FF j)) (hX : Lies wf X kx dx FX) (hf : Fresh w wf ((List.range kids.length).flatMap FF)) (hfX : Fresh w wf FX) (hd : ∀ x ∈ FX, x ∉ (List.range kids.length).flatMap FF)
    (hap : ∀ g, v.ownBlock = some g → g ∉ (List.range kids.length).flatMap FF ∧ g ∉ FX) (hb : w.heap.size ≤ base) :
    ∃ F, KidsLie wf v (insAt kids i X) F ∧ Fresh w wf F ∧ ∀ x ∈ F, v.ownBlock = some x ∨ x ∈ (List.range kids.length).flatMap FF ∨ x ∈ FX := by
  have hl := insAt_length X hi
  have hFF : (List.range (insAt kids i X).length).flatMap (insF i FX FF) = (List.range i).flatMap FF ++ FX ++ (List.range (kids.length - i)).flatMap (fun j => FF (i + j)) := by rw [hl, flat_ins FF FX hi]
  have hm : ∀ x ∈ (List.range i).flatMap FF ++ FX ++ (List.range (kids.length - i)).flatMap (fun j => FF (i + j)), x ∈ (List.range kids.length).flatMap FF ∨ x ∈ FX := fun x hx => by
    rw [flat_cut FF hi]
    rcases List.mem_append.1 hx with hx | hx
    · rcases List.mem_append.1 hx with hx | hx
      · exact .inl (List.mem_append_left _ hx)
      · exact .inr hx
    · exact .inl (List.mem_append_right _ hx)
  obtain ⟨F, h1, h2, h3⟩ := kids_owned (w := w) (wf := wf) (base := base) (t := t) (v := v) (kids := insAt kids i X) (KV := insF i kx KV) (DV := insF i dx DV) (FF := insF i FX FF) (by rw [hl, rows_ins hi]; exact hown) (insAt_lie hi hlie hX)
    (by rw [hFF]; rw [flat_cut FF hi] at hf hd; exact hf.mid hfX hd) (fun g hg hx => by
      rw [hFF] at hx
      rcases hm g hx with h | h
      · exact (hap g hg).1 h
      · exact (hap g hg).2 h) hb
  refine ⟨F, h1, h2, fun x hx => ?_⟩
  rcases h3 x hx with h | h
  · exact .inl h
  · rw [hFF] at h; exact .inr (hm x h)

/-! ### One tree in the place of another -/

theorem cell_far {w : World} {b x y : Nat} {v : Value} (h : x ≠ y) : (w.setCell ⟨b, x, none⟩ v).cell? ⟨b, y, none⟩ = w.cell? ⟨b, y, none⟩ := World.cell?_setCell_other _ _ _ _ (fun e => h (by injection e))
theorem cell_here {w : World} {a : Addr} {u v : Value} (h : w.cell? a = some u) : (w.setCell a v).cell? a = some v := World.cell?_setCell_same _ _ _ h

theorem cell_set5 {w : World} {b o : Nat} {v0 v1 v2 v3 v4 u0 u1 u2 u3 u4 : Value} (h0 : w.cell? ⟨b, o, none⟩ = some u0) (h1 : w.cell? ⟨b, o + 1, none⟩ = some u1) (h2 : w.cell? ⟨b, o + 2, none⟩ = some u2) (h3 : w.cell? ⟨b, o + 3, none⟩ = some u3) (h4 : w.cell? ⟨b, o + 4, none⟩ = some u4) :
    (∀ j, j < 5 → (set5 w b o v0 v1 v2 v3 v4).cell? ⟨b, o + j, none⟩ = [v0, v1, v2, v3, v4][j]?) ∧ (∀ j, (j < o ∨ o + 5 ≤ j) → (set5 w b o v0 v1 v2 v3 v4).cell? ⟨b, j, none⟩ = w.cell? ⟨b, j, none⟩) ∧ ∀ a, (set5 w b o v0 v1 v2 v3 v4).frozen? a = w.frozen? a := by
  refine ⟨fun j hj => ?_, fun j hj => ?_, fun a => ?_⟩
  · match j, hj with
    | 0, _ =>
      unfold set5
      rw [cell_far (by omega), cell_far (by omega), cell_far (by omega), cell_far (by omega)]
      exact cell_here h0
    | 1, _ =>
      unfold set5
      rw [cell_far (by omega), cell_far (by omega), cell_far (by omega)]
      exact cell_here ((cell_far (by omega)).trans h1)
    | 2, _ =>
      unfold set5
      rw [cell_far (by omega), cell_far (by omega)]
      exact cell_here ((cell_far (by omega)).trans ((cell_far (by omega)).trans h2))
    | 3, _ =>
      unfold set5
      rw [cell_far (by omega)]
      exact cell_here ((cell_far (by omega)).trans ((cell_far (by omega)).trans ((cell_far (by omega)).trans h3)))
    | 4, _ =>
      unfold set5
      exact cell_here ((cell_far (by omega)).trans ((cell_far (by omega)).trans ((cell_far (by omega)).trans ((cell_far (by omega)).trans h4))))
  · unfold set5
    rw [cell_far (by omega), cell_far (by omega), cell_far (by omega), cell_far (by omega), cell_far (by omega)]
  · simp [set5]

/-- A list of trees whose i-th is stored over. -/
theorem kids_put {w wr : World} {dv : Value} {kids : List RT} {FD : List Nat} (h : KidsLie wr dv kids FD) (hf : Fresh w wr FD) {X : RT} {kx dx : Value} {FX : List Nat} (hX : Lies wr X kx dx FX) (hfX : Fresh w wr FX) (hd : ∀ x ∈ FX, x ∉ FD) {i : Nat} (hi : i < kids.length) :
    ∃ b off cap u0 u1 u2 u3 u4, dv = .slice (some ⟨b, off, none⟩) kids.length cap ∧ kids.length ≤ cap ∧ cap ≤ maxLen ∧ b ∈ FD ∧ (∀ o, wr.frozen? ⟨b, o, none⟩ = false) ∧
      wr.cell? ⟨b, off + i * 5, none⟩ = some u0 ∧ wr.cell? ⟨b, off + i * 5 + 1, none⟩ = some u1 ∧ wr.cell? ⟨b, off + i * 5 + 2, none⟩ = some u2 ∧ wr.cell? ⟨b, off + i * 5 + 3, none⟩ = some u3 ∧ wr.cell? ⟨b, off + i * 5 + 4, none⟩ = some u4 ∧
      ∃ F, KidsLie (set5 wr b (off + i * 5) (.int .i64 X.k) (.int .i64 X.n) (.string X.s) kx dx) dv (kids.set i X) F ∧ Fresh w (set5 wr b (off + i * 5) (.int .i64 X.k) (.int .i64 X.n) (.string X.s) kx dx) F ∧ ∀ x ∈ F, x ∈ FD ∨ x ∈ FX := by
  obtain ⟨o, cap, b, off, FF, KV, DV, rfl, h1, h2, h3, hFD, h4, h5, h6⟩ := h
  have ho := h3 (by omega)
  subst ho
  rw [if_neg (by omega)] at hFD
  have hbF : b ∈ FD := by rw [hFD]; simp
  have hnd : b ∉ (List.range kids.length).flatMap FF := by
    have := hf.nodup
    rw [hFD] at this
    exact (List.nodup_cons.1 this).1
  have hfF : Fresh w wr ((List.range kids.length).flatMap FF) := by
    rw [hFD] at hf
    exact ⟨(List.nodup_append.1 hf.nodup).2.1, fun x hx => hf.old x (List.mem_append_right _ hx), fun x hx => hf.free x (List.mem_append_right _ hx)⟩
  obtain ⟨c0, c1, c2, c3, c4⟩ := kid_cells (h4 i hi) (Below.refl _ wr)
  have hbX : b ∉ FX := fun hx => hd b hx hbF
  obtain ⟨s1, s2, s3⟩ := cell_set5 (v0 := .int .i64 X.k) (v1 := .int .i64 X.n) (v2 := .string X.s) (v3 := kx) (v4 := dx) c0 c1 c2 c3 c4
  have hcut := flat_cut FF (i := i) (n := kids.length) (by omega)
  have hcut2 : (List.range (kids.length - i)).flatMap (fun j => FF (i + j)) = FF i ++ (List.range (kids.length - i - 1)).flatMap (fun j => FF (i + 1 + j)) := by
    obtain ⟨m, hm⟩ : ∃ m, kids.length - i = 1 + m := ⟨kids.length - i - 1, by omega⟩
    rw [hm, List.range_add, List.flatMap_append, List.flatMap_map, Nat.add_sub_cancel_left]
    congr 1
    · simp
    · exact Go.Deep.flatMap_congr_range fun j _ => by congr 1; omega
  have hnew : (List.range kids.length).flatMap (fun j => if j = i then FX else FF j) = (List.range i).flatMap FF ++ FX ++ (List.range (kids.length - i - 1)).flatMap (fun j => FF (i + 1 + j)) := by
    obtain ⟨m, hm⟩ : ∃ m, kids.length = i + 1 + m := ⟨kids.length - i - 1, by omega⟩
    rw [hm, List.range_add, List.flatMap_append, List.flatMap_map, List.range_succ, List.flatMap_append, show i + 1 + m - i - 1 = m by omega]
    congr 1
    · congr 1
      · exact Go.Deep.flatMap_congr_range fun j hj => by rw [if_neg (by omega)]
      · simp
    · exact Go.Deep.flatMap_congr_range fun j hj => by rw [if_neg (by omega)]
  have hsub : ∀ x ∈ (List.range i).flatMap FF ++ (List.range (kids.length - i - 1)).flatMap (fun j => FF (i + 1 + j)), x ∈ (List.range kids.length).flatMap FF := fun x hx => by
    rw [hcut, hcut2]
    rcases List.mem_append.1 hx with hx | hx
    · exact List.mem_append_left _ hx
    · exact List.mem_append_right _ (List.mem_append_right _ hx)
  have hfA : Fresh w wr ((List.range i).flatMap FF ++ (List.range (kids.length - i - 1)).flatMap (fun j => FF (i + 1 + j))) := by
    refine ⟨?_, fun x hx => hfF.old x (hsub x hx), fun x hx => hfF.free x (hsub x hx)⟩
    have hn := hfF.nodup
    rw [hcut, hcut2] at hn
    obtain ⟨n1, n2, n3⟩ := List.nodup_append.1 hn
    exact List.nodup_append.2 ⟨n1, (List.nodup_append.1 n2).2.1, fun a ha c hc => n3 a ha c (List.mem_append_right _ hc)⟩
  have hfN := hfA.mid hfX (fun x hx hx' => hd x hx (by rw [hFD]; exact List.mem_append_right _ (hsub x hx')))
  rw [← hnew] at hfN
  have hmem : ∀ x ∈ (List.range kids.length).flatMap (fun j => if j = i then FX else FF j), x ∈ (List.range kids.length).flatMap FF ∨ x ∈ FX := fun x hx => by
    rw [hnew] at hx
    rcases List.mem_append.1 hx with hx | hx
    · rcases List.mem_append.1 hx with hx | hx
      · exact .inl (hsub x (List.mem_append_left _ hx))
      · exact .inr hx
    · exact .inl (hsub x (List.mem_append_right _ hx))
  have hbN : b ∉ (List.range kids.length).flatMap (fun j => if j = i then FX else FF j) := fun hx => by
    rcases hmem b hx with h | h
    · exact hnd h
    · exact hbX h
  have keep : ∀ x ∈ (List.range kids.length).flatMap (fun j => if j = i then FX else FF j), (set5 wr b (off + i * 5) (.int .i64 X.k) (.int .i64 X.n) (.string X.s) kx dx).heap[x]? = wr.heap[x]? := fun x hx => set5_other _ _ _ _ _ _ _ _ _ (fun e => hbN (e ▸ hx))
  have hin : ∀ j, j < kids.length → ∀ x ∈ (if j = i then FX else FF j), x ∈ (List.range kids.length).flatMap (fun j => if j = i then FX else FF j) := fun j hj x hx => List.mem_flatMap.2 ⟨j, List.mem_range.2 hj, hx⟩
  refine ⟨b, off, cap, _, _, _, _, _, rfl, h1, h2, hbF, hf.free b hbF, c0, c1, c2, c3, c4, [b] ++ (List.range kids.length).flatMap (fun j => if j = i then FX else FF j), ?_, ?_, ?_⟩
  · refine ⟨_, cap, b, off, (fun j => if j = i then FX else FF j), (fun j => if j = i then kx else KV j), (fun j => if j = i then dx else DV j), by rw [List.length_set], by rw [List.length_set]; exact h1, h2, fun _ => rfl, ?_, fun j hj c hc => ?_, fun j hj => ?_, ((((h6.set _ _).set _ _).set _ _).set _ _).set _ _⟩
    · rw [List.length_set, if_neg (by omega)]
    · rw [List.length_set] at hj
      rw [List.getElem_set]
      by_cases e : j = i
      · subst e
        simp only [if_true]
        exact s1 c hc
      · simp only [e, if_false, if_neg (fun h => e h.symm : ¬ i = j)]
        rw [s2 (off + j * 5 + c) (by omega)]
        exact h4 j hj c hc
    · have hj' := hj
      rw [List.length_set] at hj'
      rw [List.getElem_set]
      by_cases e : j = i
      · subst e
        simp only [if_true]
        exact hX.carry fun x hx => keep x (hin j hj' x (by simpa using hx))
      · simp only [e, if_false, if_neg (fun h => e h.symm : ¬ i = j)]
        exact (h5 j hj').carry fun x hx => keep x (hin j hj' x (by simpa [e] using hx))
  · refine ⟨?_, fun x hx => ?_, fun x hx o => ?_⟩
    · simp only [List.singleton_append, List.nodup_cons]
      exact ⟨hbN, hfN.nodup⟩
    · rcases List.mem_append.1 hx with hx | hx
      · simp at hx; subst hx; exact hf.old x hbF
      · exact hfN.old x hx
    · rw [s3]
      rcases List.mem_append.1 hx with hx | hx
      · simp at hx; subst hx; exact hf.free x hbF o
      · exact hfN.free x hx o
  · intro x hx
    rcases List.mem_append.1 hx with hx | hx
    · simp at hx; subst hx; exact .inl hbF
    · rcases hmem x hx with h | h
      · left; rw [hFD]; exact List.mem_append_right _ h
      · exact .inr h
end Go.Proofs.YtfmkhogpnnobeaaGreatDoor

/- plain facts on lists of texts and of nodes that a literal lays: one block each; and on the map that comes of keys in any order. -/
namespace Go.Proofs.YtfmkhogpnnobeaaGreatDoor
open Go Go.RowKit

theorem strs_lit {w : World} {b : Nat} (ks : List ByteArray) {cs : Array Value} (h : w.heap[b]? = some (.cells cs 9 (0, 0))) (hc : cs.toList = ks.map .string) (hs : ∀ k ∈ ks, k.size ≤ maxLen) (hm : ks.length ≤ maxLen) (hn : 0 < ks.length) :
    StrsAt w (.slice (some ⟨b, 0, none⟩) ks.length ks.length) ks [b] := by
  have hsz : cs.size = ks.length := by have := congrArg List.length hc; simpa using this
  refine ⟨_, _, b, 0, rfl, Nat.le_refl _, hm, fun _ => rfl, by rw [if_neg (by omega)], fun i hi => ⟨?_, hs _ (List.getElem_mem hi)⟩, fun i hi => ?_⟩
  · rw [cell_of h, ← Array.getElem?_toList, hc]
    simp [hi]
  · rw [cell_of h]
    simp [hsz, hi]

/-- Nodes that a literal lays: the cells of each, one behind the other. -/
theorem kids_lit {w : World} {b : Nat} (kids : List RT) (KV DV : Nat → Value) (FF : Nat → List Nat) {cs : Array Value} (h : w.heap[b]? = some (.cells cs 32 (0, 0))) (hsz : cs.size = kids.length * 5)
    (hc : ∀ i (hi : i < kids.length), ∀ j, j < 5 → cs[i * 5 + j]? = (kids[i].row (KV i) (DV i))[j]?) (hl : ∀ i (hi : i < kids.length), Lies w kids[i] (KV i) (DV i) (FF i)) (hm : kids.length ≤ maxLen) (hn : 0 < kids.length) :
    KidsLie w (.slice (some ⟨b, 0, none⟩) kids.length kids.length) kids ([b] ++ (List.range kids.length).flatMap FF) := by
  refine ⟨_, _, b, 0, FF, KV, DV, rfl, Nat.le_refl _, hm, fun _ => rfl, by rw [if_neg (by omega)], fun i hi j hj => ?_, hl, fun i hi => ?_⟩
  · rw [cell_of h, Nat.zero_add]
    exact hc i hi j hj
  · rw [cell_of h]
    simp [hsz]
    omega

theorem below_cast {B : Nat} {X W' : World} (hb : Below B X W') (h : B = X.heap.size) : Below X.heap.size X W' := h ▸ hb

theorem blk_next {w w' : World} {b : Nat} {o : Obj} (h : w.heap[b]? = some o) (hb : Below w.heap.size w w') : w'.heap[b]? = some o :=
  (hb.block b (Array.getElem?_eq_some_iff.1 h).1).trans h

theorem two_blk (w : World) (a b : Obj) : ((w.alloc a).alloc b).heap[w.heap.size]? = some a ∧ ((w.alloc a).alloc b).heap[w.heap.size + 1]? = some b ∧ ((w.alloc a).alloc b).heap.size = w.heap.size + 2 ∧ Below w.heap.size w ((w.alloc a).alloc b) := by
  refine ⟨?_, ?_, by simp, ((Below.refl _ w).alloc (Nat.le_refl _) _).alloc (by simp) _⟩
  · rw [Below.heap_alloc _ _ _ (by simp), heap_last]
  · have := heap_last (w.alloc a) b
    simpa using this

/-- A block that was laid on the way. -/
structure One (w W : World) (b : Nat) (o : Obj) : Prop where
  at_ : W.heap[b]? = some o
  old : w.heap.size + 2 ≤ b

/-- Where a function stands whose parameter and whose result have a block each. -/
structure Two (w W : World) (a r : Obj) : Prop where
  below : Below w.heap.size w W
  arg : W.heap[w.heap.size]? = some a
  res : W.heap[w.heap.size + 1]? = some r
  size : w.heap.size + 2 ≤ W.heap.size

theorem Two.start (w : World) (a r : Obj) : Two w ((w.alloc a).alloc r) a r := by
  obtain ⟨h1, h2, h3, h4⟩ := two_blk w a r
  exact ⟨h4, h1, h2, Nat.le_of_eq h3.symm⟩
theorem below_drew1 (W : World) : Below W.heap.size W W.drew := ⟨rfl, rfl, rfl, Nat.le_refl _, fun _ _ => rfl⟩
theorem below_lit (W : World) (o : Obj) : Below W.heap.size W (W.alloc o).drew := ((Below.refl _ W).alloc (Nat.le_refl _) o).trans (B := W.heap.size) ⟨rfl, rfl, rfl, Nat.le_refl _, fun _ _ => rfl⟩
theorem Two.next {w W W' : World} {a r : Obj} (h : Two w W a r) (hb : Below W.heap.size W W') : Two w W' a r :=
  ⟨h.below.trans (hb.mono h.below.size), blk_next h.arg hb, blk_next h.res hb, Nat.le_trans h.size hb.size⟩

theorem Two.next1 {w W W' : World} {a r : Obj} (h : Two w W a r) (hb : Below W.drew.heap.size W.drew W') : Two w W' a r := (h.next (below_drew1 W)).next hb
theorem Two.lit {w W W' : World} {a r o : Obj} {B : Nat} (h : Two w W a r) (hb : Below B (W.alloc o).drew W') (hB : B = W.heap.size + 1) : Two w W' a r ∧ One w W' W.heap.size o := by
  have hb : Below (W.alloc o).drew.heap.size (W.alloc o).drew W' := below_cast hb (by subst hB; simp [World.drew])
  exact ⟨(h.next (below_lit W o)).next hb, blk_next (w := (W.alloc o).drew) (heap_last W o) hb, h.size⟩
theorem Two.lit1 {w W W' : World} {a r o : Obj} (h : Two w W a r) (hb : Below (W.alloc o).heap.size (W.alloc o) W') : Two w W' a r ∧ One w W' W.heap.size o :=
  ⟨(h.next ((Below.refl _ W).alloc (Nat.le_refl _) o)).next hb, blk_next (heap_last W o) hb, h.size⟩
theorem One.mv {w W : World} {b n : Nat} {o : Obj} (h : One w W b o) (e : b = n) : One w W n o := e ▸ h
theorem One.next {w W W' : World} {b : Nat} {o : Obj} (h : One w W b o) (hb : Below W.heap.size W W') : One w W' b o := ⟨blk_next h.at_ hb, h.old⟩

/-- A map that a literal has laid becomes the result. -/
theorem lit_fin {w W : World} {r bz bn : Nat} {ks : List ByteArray} {kids : List RT} {KV DV : Nat → Value} {FF : Nat → List Nat} {cz cn : Array Value} {z0 z1 z2 z3 z4 : Value} (hb : Below w.heap.size w W) (hr0 : w.heap.size ≤ r)
    (hr : W.heap[r]? = some (.cells #[z0, z1, z2, z3, z4] 32 (0, 0))) (hz : W.heap[bz]? = some (.cells cz 9 (0, 0))) (hz2 : w.heap.size ≤ bz) (hn : W.heap[bn]? = some (.cells cn 32 (0, 0))) (hn2 : w.heap.size ≤ bn) (hnr : bn ≠ r)
    (hcz : cz.toList = ks.map .string) (hks : ∀ k ∈ ks, k.size ≤ maxLen) (hk0 : 0 < ks.length) (hkm : ks.length ≤ maxLen) (hcn : cn.size = kids.length * 5) (hc : ∀ i (hi : i < kids.length), ∀ j, j < 5 → cn[i * 5 + j]? = (kids[i].row (KV i) (DV i))[j]?)
    (hl : ∀ i (hi : i < kids.length), Lies W kids[i] (KV i) (DV i) (FF i)) (hd0 : 0 < kids.length) (hdm : kids.length ≤ maxLen) (hF : Fresh w W ((List.range kids.length).flatMap FF))
    (hap : ∀ x ∈ (List.range kids.length).flatMap FF, x ≠ r ∧ x ≠ bz ∧ x ≠ bn) {W' : World} (hW : W' = set5 W r 0 (.int .i64 5) (.int .i64 0) (.string ⟨#[]⟩) (.slice (some ⟨bz, 0, none⟩) ks.length ks.length) (.slice (some ⟨bn, 0, none⟩) kids.length kids.length)) :
    W'.heap[r]? = some (.cells #[.int .i64 5, .int .i64 0, .string ⟨#[]⟩, .slice (some ⟨bz, 0, none⟩) ks.length ks.length, .slice (some ⟨bn, 0, none⟩) kids.length kids.length] 32 (0, 0)) ∧
    Lies W' (.node 5 0 ⟨#[]⟩ ks kids) (.slice (some ⟨bz, 0, none⟩) ks.length ks.length) (.slice (some ⟨bn, 0, none⟩) kids.length kids.length) ([bz] ++ ([bn] ++ (List.range kids.length).flatMap FF)) ∧
    Fresh w W' ([bz] ++ ([bn] ++ (List.range kids.length).flatMap FF)) ∧ Below w.heap.size w W' := by
  subst hW
  have hzr : bz ≠ r := fun e => by subst e; rw [hr] at hz; injection hz with hz; injection hz with _ hz; exact absurd hz (by decide)
  have hzn : bz ≠ bn := fun e => by subst e; rw [hn] at hz; injection hz with hz; injection hz with _ hz; exact absurd hz (by decide)
  have keep : ∀ x, x ≠ r → (set5 W r 0 (.int .i64 5) (.int .i64 0) (.string ⟨#[]⟩) (.slice (some ⟨bz, 0, none⟩) ks.length ks.length) (.slice (some ⟨bn, 0, none⟩) kids.length kids.length)).heap[x]? = W.heap[x]? := fun x hx => set5_other _ _ _ _ _ _ _ _ _ hx
  have hm : ∀ x ∈ [bz] ++ ([bn] ++ (List.range kids.length).flatMap FF), x ≠ r := fun x hx => by
    rcases List.mem_append.1 hx with hx | hx
    · simp at hx; subst hx; exact hzr
    rcases List.mem_append.1 hx with hx | hx
    · simp at hx; subst hx; exact hnr
    · exact (hap x hx).1
  have hLz := strs_lit ks hz hcz hks hkm hk0
  have hLn := kids_lit kids KV DV FF hn hcn hc hl hdm hd0
  have hL := Lies.into (k := 5) (n := 0) (s := ⟨#[]⟩) ⟨by decide, by decide⟩ ⟨by decide, by decide⟩ (by decide) hLz hLn
  have hFr : Fresh w W ([bz] ++ ([bn] ++ (List.range kids.length).flatMap FF)) := by
    refine ⟨?_, fun x hx => ?_, fun x hx => ?_⟩
    · refine List.nodup_append.2 ⟨by simp, List.nodup_append.2 ⟨by simp, hF.nodup, fun a ha b hb e => ?_⟩, fun a ha b hb e => ?_⟩
      · simp at ha; subst ha e; exact (hap _ hb).2.2 rfl
      · simp at ha; subst ha e
        rcases List.mem_append.1 hb with hb | hb
        · simp at hb; exact hzn hb
        · exact (hap _ hb).2.1 rfl
    · rcases List.mem_append.1 hx with hx | hx
      · simp at hx; omega
      rcases List.mem_append.1 hx with hx | hx
      · simp at hx; omega
      · exact hF.old x hx
    · rcases List.mem_append.1 hx with hx | hx
      · simp at hx; subst hx; exact fun k => by simp [World.frozen?, hz]
      rcases List.mem_append.1 hx with hx | hx
      · simp at hx; subst hx; exact fun k => by simp [World.frozen?, hn]
      · exact hF.free x hx
  exact ⟨set5_end hr _ _ _ _ _, hL.carry fun x hx => keep x (hm x hx), hFr.carry fun x hx => keep x (hm x hx), set5_below hb hr0 _ _ _ _ _ _⟩

theorem One.lit {w W W' : World} {b : Nat} {o o' : Obj} (h : One w W b o) {B : Nat} (hb : Below B (W.alloc o').drew W') (hB : B = W.heap.size + 1) : One w W' b o := by
  have hb : Below (W.alloc o').drew.heap.size (W.alloc o').drew W' := below_cast hb (by subst hB; simp [World.drew])
  exact (h.next (below_lit W o')).next hb
theorem One.lit1 {w W W' : World} {b : Nat} {o o' : Obj} (h : One w W b o) (hb : Below (W.alloc o').heap.size (W.alloc o') W') : One w W' b o := (h.next ((Below.refl _ W).alloc (Nat.le_refl _) o')).next hb
theorem Two.lits1 {w W W' : World} {a r o o' : Obj} (h : Two w W a r) (hb : Below ((W.alloc o).alloc o').heap.size ((W.alloc o).alloc o') W') : Two w W' a r ∧ One w W' W.heap.size o ∧ One w W' (W.heap.size + 1) o' := by
  obtain ⟨h1, h2, h3, h4⟩ := two_blk W o o'
  exact ⟨(h.next h4).next hb, ⟨blk_next h1 hb, h.size⟩, blk_next h2 hb, by have := h.size; omega⟩
/-- Two literals, one behind the other. -/
theorem Two.lits {w W W' : World} {a r o o' : Obj} {B : Nat} (h : Two w W a r) (hb : Below B ((W.alloc o).alloc o').drew W') (hB : B = W.heap.size + 2) : Two w W' a r ∧ One w W' W.heap.size o ∧ One w W' (W.heap.size + 1) o' := by
  have hb : Below ((W.alloc o).alloc o').drew.heap.size ((W.alloc o).alloc o').drew W' := below_cast hb (by subst hB; simp [World.drew])
  obtain ⟨h1, h2, h3, h4⟩ := two_blk W o o'
  have h5 : Below W.heap.size W ((W.alloc o).alloc o').drew := h4.trans (B := W.heap.size) ⟨rfl, rfl, rfl, Nat.le_refl _, fun _ _ => rfl⟩
  exact ⟨(h.next h5).next hb, ⟨blk_next (w := ((W.alloc o).alloc o').drew) h1 hb, h.size⟩, blk_next (w := ((W.alloc o).alloc o').drew) h2 hb, by have := h.size; omega⟩

theorem leaf_kid (W : World) (t : RT) (h : t.keys = [] ∧ t.kids = [] ∧ Fit t.k ∧ Fit t.n ∧ t.s.size ≤ maxLen) : Lies W t (.slice none 0 0) (.slice none 0 0) [] := by
  obtain ⟨h1, h2, h3, h4, h5⟩ := h
  rw [RT.eta t, h1, h2]
  exact leaf_lies W h3 h4 h5

theorem flat_none (n : Nat) : (List.range n).flatMap (fun _ => ([] : List Nat)) = [] := by simp

/-- The same, where each Kid is a leaf. -/
theorem lit_leaves {w W : World} {a : Obj} {z0 z1 z2 z3 z4 : Value} {bz bn : Nat} {cz cn : Array Value} (H2 : Two w W a (.cells #[z0, z1, z2, z3, z4] 32)) (HZ : One w W bz (.cells cz 9)) (HN : One w W bn (.cells cn 32)) (T : RT)
    (hT : T.k = 5 ∧ T.n = 0 ∧ T.s = ⟨#[]⟩) (hcz : cz.toList = T.keys.map .string) (hks : ∀ k ∈ T.keys, k.size ≤ maxLen) (hk0 : 0 < T.keys.length) (hkm : T.keys.length ≤ maxLen) (hcn : cn.toList = rowsOf T.kids (fun _ => .slice none 0 0) (fun _ => .slice none 0 0) T.kids.length)
    (hlf : ∀ t ∈ T.kids, t.keys = [] ∧ t.kids = [] ∧ Fit t.k ∧ Fit t.n ∧ t.s.size ≤ maxLen) (hd0 : 0 < T.kids.length) (hdm : T.kids.length ≤ maxLen) (n m : Nat) (hn : T.keys.length = n) (hm : T.kids.length = m) {W' : World}
    (hW : W' = set5 W (w.heap.size + 1) 0 (.int .i64 5) (.int .i64 0) (.string ⟨#[]⟩) (.slice (some ⟨bz, 0, none⟩) n n) (.slice (some ⟨bn, 0, none⟩) m m)) :
    W'.heap[w.heap.size + 1]? = some (.cells #[.int .i64 5, .int .i64 0, .string ⟨#[]⟩, .slice (some ⟨bz, 0, none⟩) n n, .slice (some ⟨bn, 0, none⟩) m m] 32 (0, 0)) ∧
    Lies W' T (.slice (some ⟨bz, 0, none⟩) n n) (.slice (some ⟨bn, 0, none⟩) m m) [bz, bn] ∧ Fresh w W' [bz, bn] ∧ Below w.heap.size w W' := by
  subst hn hm
  have hsz : cn.size = T.kids.length * 5 := by have := congrArg List.length hcn; rw [rowsOf_length] at this; simpa using this
  have h := lit_fin (ks := T.keys) (kids := T.kids) (KV := fun _ => .slice none 0 0) (DV := fun _ => .slice none 0 0) (FF := fun _ => []) H2.below (by omega) H2.res HZ.at_ (by have := HZ.old; omega) HN.at_ (by have := HN.old; omega) (by have := HN.old; omega) hcz hks hk0 hkm hsz
    (fun i hi j hj => by rw [← Array.getElem?_toList, hcn, rowsOf_get _ _ _ _ _ _ hi hj, List.getD_eq_getElem?_getD, List.getElem?_eq_getElem hi]; rfl)
    (fun i hi => leaf_kid W _ (hlf _ (List.getElem_mem hi))) hd0 hdm (by rw [flat_none]; exact Fresh.nil _ _) (by rw [flat_none]; exact fun x hx => absurd hx (by simp)) hW
  rw [flat_none] at h
  obtain ⟨h1, h2, h3, h4⟩ := h
  refine ⟨h1, ?_, h3, h4⟩
  have e : T = .node 5 0 ⟨#[]⟩ T.keys T.kids := by rw [← hT.1, ← hT.2.1, ← hT.2.2]; exact RT.eta T
  rw [e]
  exact h2
end Go.Proofs.YtfmkhogpnnobeaaGreatDoor

/- a call of a Go function at a step of a region that draws its order. -/
namespace Go.Proofs.YtfmkhogpnnobeaaGreatDoor
open Go Go.RowKit

/-- A call, at a step of a region that draws its order. -/
theorem step_calls {P : Program} {ops : Array Oper} {o : Oper} {a : Act} {w : World} {K : Act → World → Prop} {Q : Exit → Act → World → Prop} {E : Prop} (hgd : o.guard = none) (f : Nat) (xs : Array Operand) (ts : Array TypeId)
    (ho : o.op = .call { callee := .value (.func f), args := xs, argTypes := ts }) (us : Array Value) (hx : (xs.map a.eval) = us) (he : ∀ us w, (callFunc f us).run P w = .ok (.enter f us) w) (hv : ∀ (a : Act) w, (Deferred.ofValue (a.eval (.func f)) us).run P w = .ok { target := .fn (.func f) #[], args := us } w) {R : Value → World → Prop}
    (hc : Calls P f us w fun e w' => ∃ v, e = .returned v ∧ R v w') (h : ∀ v w', R v w' → K (a.put o.dst v) w') : if Region.wanted o (yielded ops a.tmps) = true then Oper.wp P o a w K Q else E := by
  have hw : Region.wanted o (yielded ops a.tmps) = true := by simp [Region.wanted, hgd]
  rw [if_pos hw]
  unfold Oper.wp execOp
  simp only [ho, resolve, invoke, Sem.run_bind, hx]
  rw [hv, Result.andThen_ok]
  show Oper.upon P o a K Q ((callFunc f (us ++ #[])).run P w)
  rw [Array.append_empty, he, Oper.upon_enter]
  refine hc.mono ?_
  rintro e w' ⟨v, rfl, hR⟩
  exact h v w' hR

end Go.Proofs.YtfmkhogpnnobeaaGreatDoor

/- a slice literal at a step of a region that draws its order: one new block, which holds what the literal has. -/
namespace Go.Proofs.YtfmkhogpnnobeaaGreatDoor
open Go Go.RowKit

theorem step_lits {P : Program} {ops : Array Oper} {o : Oper} {a : Act} {w : World} {K : Act → World → Prop} {Q : Exit → Act → World → Prop} {E : Prop} (hgd : o.guard = none) (t e : TypeId) (n : Nat) (es : Array (Nat × Operand))
    (ho : o.op = .buildSlice t n es) (us : Array (Nat × Value)) (hx : (es.map fun x => (x.1, a.eval x.2)) = us) {ie : TypeInfo} {z : Value} {sz : Nat} {cells : Array Value} (hu : P.underlying t = some (.slice e)) (hie : P.info? e = some ie) (hz : ie.zero = some z) (hsz : ie.size = sz)
    (hsmall : ¬ n * sz > 2 ^ 24) (hpos : ¬ n * sz = 0) (hf : Instr.fill (fun i => some (i * sz, sz)) ((Array.range (n * sz)).map (z.cells[· % z.cells.size]!)) us.toList = some cells)
    (h : ∀ w', Below w.heap.size w w' → w'.heap[w.heap.size]? = some (.cells cells e (0, 0)) → w'.heap.size = w.heap.size + 1 → K (a.put o.dst (.slice (some ⟨w.heap.size, 0, none⟩) n n)) w') : if Region.wanted o (yielded ops a.tmps) = true then Oper.wp P o a w K Q else E := by
  subst hsz
  have hw : Region.wanted o (yielded ops a.tmps) = true := by simp [Region.wanted, hgd]
  rw [if_pos hw]
  refine wp_buildSlice t e n es ho cells ie z hu hie hz hsmall hpos (by subst hx; exact hf) ?_
  exact h _ ((Below.refl _ w).alloc (Nat.le_refl _) _) (heap_last w _) (by simp)
end Go.Proofs.YtfmkhogpnnobeaaGreatDoor

/- plain facts on lists of small structs as they lie in memory, and on metrics, notes, paces and orders. -/
namespace Go.Proofs.YtfmkhogpnnobeaaGreatDoor
open Go Go.RowKit

/-- A list whose elements take k cells each, and the block it lies in, its spare room too. -/
def RowAt {α : Type} (enc : α → List Value) (ok : α → Prop) (k : Nat) (w : World) (v : Value) (xs : List α) (F : List Nat) : Prop :=
  ∃ (o : Option Addr) (cap b off : Nat), v = .slice o xs.length cap ∧ xs.length ≤ cap ∧ cap ≤ maxLen ∧ (0 < cap → o = some ⟨b, off, none⟩) ∧ F = (if cap = 0 then [] else [b]) ∧
    (∀ i (h : i < xs.length), ok xs[i] ∧ ∀ j, j < k → w.cell? ⟨b, off + i * k + j, none⟩ = (enc xs[i])[j]?) ∧ Room w b off (cap * k)

section
variable {α : Type} {enc : α → List Value} {ok : α → Prop} {k : Nat} {w w' : World} {v : Value} {xs : List α} {F : List Nat}

theorem RowAt.slice (h : RowAt enc ok k w v xs F) : ∃ o c, v = .slice o xs.length c ∧ xs.length ≤ maxLen := by
  obtain ⟨o', cap', _, _, rfl, h1, h2, _⟩ := h
  exact ⟨o', cap', rfl, Nat.le_trans h1 h2⟩

theorem RowAt.len (h : RowAt enc ok k w v xs F) : xs.length ≤ maxLen := by
  obtain ⟨o', cap', _, _, rfl, h1, h2, _⟩ := h
  exact Nat.le_trans h1 h2

theorem RowAt.every (h : RowAt enc ok k w v xs F) : ∀ x ∈ xs, ok x := by
  obtain ⟨o', cap', _, _, rfl, h1, h2, _, _, h3, _⟩ := h
  intro x hx
  obtain ⟨i, hi, rfl⟩ := List.getElem_of_mem hx
  exact (h3 i hi).1

theorem RowAt.carry (h : RowAt enc ok k w v xs F) (hF : ∀ b ∈ F, w'.heap[b]? = w.heap[b]?) : RowAt enc ok k w' v xs F := by
  obtain ⟨o, cap, b, off, rfl, h1, h2, h3, rfl, h4, h5⟩ := h
  have hb : 0 < cap → w'.heap[b]? = w.heap[b]? := fun hc => hF b (by rw [if_neg (by omega)]; simp)
  refine ⟨o, cap, b, off, rfl, h1, h2, h3, rfl, fun i hi => ⟨(h4 i hi).1, fun j hj => ?_⟩, fun i hi => ?_⟩
  · rw [World.cell?_of_block (w := w) (hb (by omega))]
    exact (h4 i hi).2 j hj
  · have : 0 < cap := by
      rcases Nat.eq_zero_or_pos cap with e | e
      · subst e; simp at hi
      · exact e
    rw [World.cell?_of_block (w := w) (a := ⟨b, off + i, none⟩) (hb this)]
    exact h5 i hi

theorem RowAt.lt (h : RowAt enc ok k w v xs F) (hk : 0 < k) : ∀ b ∈ F, b < w.heap.size := by
  obtain ⟨o, cap, b, off, rfl, h1, h2, h3, rfl, h4, h5⟩ := h
  intro c hc
  split at hc
  · simp at hc
  · simp at hc
    subst hc
    exact h5.lt (Nat.mul_pos (by omega) hk)

theorem RowAt.stay (h : RowAt enc ok k w v xs F) (hk : 0 < k) {B : Nat} (hb : Below B w w') (hB : w.heap.size ≤ B) : RowAt enc ok k w' v xs F :=
  h.carry fun b hF => hb.block b (Nat.lt_of_lt_of_le (h.lt hk b hF) hB)
end

structure Met where
  name : ByteArray
  kind : Int
  goal : Int
structure Not where
  key : ByteArray
  text : ByteArray
structure Pac where
  up : Int
  down : Int
  ups : Int
  downs : Int
structure Ord where
  name : ByteArray
  target : ByteArray
  low : Int
  high : Int
  mets : List Met
  pace : Pac
  notes : List Not

def Met.row (m : Met) : List Value := [.string m.name, .int .i64 m.kind, .int .i64 m.goal]
def Met.ok (m : Met) : Prop := m.name.size ≤ maxLen ∧ Fit m.kind ∧ Fit m.goal
def Not.row (m : Not) : List Value := [.string m.key, .string m.text]
def Not.ok (m : Not) : Prop := m.key.size ≤ maxLen ∧ m.text.size ≤ maxLen
def Pac.ok (p : Pac) : Prop := Fit p.up ∧ Fit p.down ∧ Fit p.ups ∧ Fit p.downs
def MetsAt := RowAt Met.row Met.ok 3
def NotsAt := RowAt Not.row Not.ok 2

/-- An order's ten cells, of which two lead on. -/
def Ord.row (o : Ord) (mv nv : Value) : List Value := [.string o.name, .string o.target, .int .i64 o.low, .int .i64 o.high, mv, .int .i64 o.pace.up, .int .i64 o.pace.down, .int .i64 o.pace.ups, .int .i64 o.pace.downs, nv]

/-- An order that lies in w behind these two lists, in the blocks F. -/
structure OrdAt (w : World) (o : Ord) (mv nv : Value) (FM FN : List Nat) : Prop where
  name : o.name.size ≤ maxLen
  target : o.target.size ≤ maxLen
  low : Fit o.low
  high : Fit o.high
  pace : o.pace.ok
  mets : MetsAt w mv o.mets FM
  notes : NotsAt w nv o.notes FN

theorem OrdAt.stay {w w' : World} {o : Ord} {mv nv : Value} {FM FN : List Nat} (h : OrdAt w o mv nv FM FN) {B : Nat} (hb : Below B w w') (hB : w.heap.size ≤ B) : OrdAt w' o mv nv FM FN :=
  ⟨h.name, h.target, h.low, h.high, h.pace, RowAt.stay h.mets (by decide) hb hB, RowAt.stay h.notes (by decide) hb hB⟩

theorem OrdAt.slices {w : World} {o : Ord} {mv nv : Value} {FM FN : List Nat} (h : OrdAt w o mv nv FM FN) : (∃ a c, mv = .slice a o.mets.length c) ∧ ∃ a c, nv = .slice a o.notes.length c := by
  obtain ⟨a, c, e, -⟩ := RowAt.slice h.mets
  obtain ⟨a', c', e', -⟩ := RowAt.slice h.notes
  exact ⟨⟨a, c, e⟩, a', c', e'⟩
end Go.Proofs.YtfmkhogpnnobeaaGreatDoor
