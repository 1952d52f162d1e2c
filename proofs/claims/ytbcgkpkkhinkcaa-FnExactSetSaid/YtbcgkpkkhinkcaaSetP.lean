/-
  What is proved: plain facts on a tree that is put into a list of trees: in the place of one of them, or between two; and what a map is once a key has been set in it.
-/
import Derived.Test.YtbcgkpkkhinkcaaCopy
import Derived.Test.YtbcgkpkkhinkcaaSetA
namespace Go.Proofs.Ytbcgkpkkhinkcaa
open Go Go.RowKit

/-! ### What Set answers -/

/-- The first place of a key; how many keys there are, where it is none of them. -/
def firstN (ks : List ByteArray) (key : ByteArray) : Nat := (ks.takeWhile fun k => !(k.toList == key.toList)).length

theorem tw_unique {α : Type} {p : α → Bool} : ∀ (l : List α) (i : Nat), i ≤ l.length → (∀ j (h : j < l.length), j < i → p l[j] = true) → (∀ h : i < l.length, p l[i] = false) → (l.takeWhile p).length = i
  | [], i, hi, _, _ => by simp at hi; simp [hi]
  | x :: l, 0, _, _, h2 => by
    have := h2 (by simp)
    simp only [List.getElem_cons_zero] at this
    simp [this]
  | x :: l, i + 1, hi, h1, h2 => by
    have h0 := h1 0 (by simp) (by omega)
    simp only [List.getElem_cons_zero] at h0
    rw [List.takeWhile_cons, if_pos h0, List.length_cons]
    rw [tw_unique l i (by simpa using hi) (fun j hj hji => by have := h1 (j + 1) (by simpa using hj) (by omega); simpa using this) (fun h => by have := h2 (by simpa using h); simpa using this)]

theorem first_of {ks : List ByteArray} {key : ByteArray} {i : Nat} (h : FirstAt ks key i) : firstN ks key = i := by
  obtain ⟨hi, he, hn⟩ := h
  refine tw_unique ks i (by omega) (fun j hj hji => ?_) (fun _ => ?_)
  · rw [bytes_ne (hn j hji)]; rfl
  · rw [he]; simp

theorem first_none {ks : List ByteArray} {key : ByteArray} (h : Absent ks key) : firstN ks key = ks.length :=
  tw_unique ks _ (Nat.le_refl _) (fun j hj _ => by rw [bytes_ne (h j hj)]; rfl) (fun hh => absurd hh (by omega))

/-- A list with one more between its i-th and what stands ahead of it. -/
def insAt {α : Type} (l : List α) (i : Nat) (x : α) : List α := l.take i ++ (x :: l.drop i)

theorem insAt_length {α : Type} {l : List α} {i : Nat} (x : α) (h : i ≤ l.length) : (insAt l i x).length = l.length + 1 := by
  simp [insAt]; omega

theorem insAt_get {α : Type} {l : List α} {i : Nat} (x : α) (h : i ≤ l.length) (j : Nat) : (insAt l i x)[j]? = if j < i then l[j]? else if j = i then some x else l[j - 1]? := by
  have ht : (l.take i).length = i := by simp; omega
  unfold insAt
  by_cases h1 : j < i
  · rw [if_pos h1, List.getElem?_append_left (by omega), List.getElem?_take_of_lt h1]
  · rw [if_neg h1, List.getElem?_append_right (by omega), ht]
    by_cases h2 : j = i
    · subst h2; simp
    · rw [if_neg h2, show j - i = (j - i - 1) + 1 by omega, List.getElem?_cons_succ, List.getElem?_drop]
      congr 1; omega

theorem insAt_mem {α : Type} {l : List α} {i : Nat} {x y : α} (h : y ∈ insAt l i x) : y = x ∨ y ∈ l := by
  rcases List.mem_append.1 h with h | h
  · exact .inr (List.mem_of_mem_take h)
  · rcases List.mem_cons.1 h with h | h
    · exact .inl h
    · exact .inr (List.mem_of_mem_drop h)

def RT.isMap (T : RT) : Prop := T.k = 5 ∧ T.keys.length = T.kids.length

instance (T : RT) : Decidable T.isMap := by unfold RT.isMap; infer_instance

/-- The tree T with X at a key; T, where it is no map. -/
def setT (T : RT) (key : ByteArray) (X : RT) : RT :=
  if T.isMap then
    if firstN T.keys key < T.keys.length then .node T.k T.n T.s T.keys (T.kids.set (firstN T.keys key) X)
    else .node T.k T.n T.s (insAt T.keys (placeN T.keys key) key) (insAt T.kids (placeN T.keys key) X)
  else T

theorem setT_no {T X : RT} {key : ByteArray} (h : ¬ T.isMap) : setT T key X = T := if_neg h
theorem setT_put {T X : RT} {key : ByteArray} (h : T.isMap) {i : Nat} (hi : FirstAt T.keys key i) : setT T key X = .node T.k T.n T.s T.keys (T.kids.set i X) := by
  have h1 := first_of hi
  rw [setT, if_pos h, if_pos (by rw [h1]; exact hi.1), h1]
theorem setT_ins {T X : RT} {key : ByteArray} (h : T.isMap) (ha : Absent T.keys key) : setT T key X = .node T.k T.n T.s (insAt T.keys (placeN T.keys key) key) (insAt T.kids (placeN T.keys key) X) := by
  rw [setT, if_pos h, if_neg (by rw [first_none ha]; omega)]
theorem setT_kns (T X : RT) (key : ByteArray) : (setT T key X).k = T.k ∧ (setT T key X).n = T.n ∧ (setT T key X).s = T.s := by
  unfold setT
  split
  · split <;> exact ⟨rfl, rfl, rfl⟩
  · exact ⟨rfl, rfl, rfl⟩

/-! ### Rows with one more -/

def insF {α : Type} (i : Nat) (x : α) (f : Nat → α) : Nat → α := fun j => if j < i then f j else if j = i then x else f (j - 1)

theorem flat_cut {β : Type} (F : Nat → List β) {i n : Nat} (hi : i ≤ n) : (List.range n).flatMap F = (List.range i).flatMap F ++ (List.range (n - i)).flatMap (fun j => F (i + j)) := by
  obtain ⟨m, rfl⟩ : ∃ m, n = i + m := ⟨n - i, by omega⟩
  rw [List.range_add, List.flatMap_append, List.flatMap_map, Nat.add_sub_cancel_left]

theorem flat_ins {β : Type} (F : Nat → List β) (X : List β) {i n : Nat} (hi : i ≤ n) : (List.range (n + 1)).flatMap (insF i X F) = (List.range i).flatMap F ++ X ++ (List.range (n - i)).flatMap (fun j => F (i + j)) := by
  obtain ⟨m, rfl⟩ : ∃ m, n = i + m := ⟨n - i, by omega⟩
  rw [show i + m + 1 = i + 1 + m by omega, List.range_add, List.flatMap_append, List.flatMap_map, List.range_succ, List.flatMap_append, Nat.add_sub_cancel_left]
  congr 1
  · congr 1
    · exact Go.Deep.flatMap_congr_range fun j hj => by simp [insF, hj]
    · simp [insF]
  · exact Go.Deep.flatMap_congr_range fun j hj => by
      have e1 : ¬ (i + 1 + j < i) := by omega
      have e2 : ¬ (i + 1 + j = i) := by omega
      simp only [insF, e1, e2, if_false]
      congr 1; omega

theorem rows_ins {kids : List RT} {i : Nat} (hi : i ≤ kids.length) (KV DV : Nat → Value) (X : RT) (kx dx : Value) :
    rowsOf (insAt kids i X) (insF i kx KV) (insF i dx DV) (kids.length + 1) = (rowsOf kids KV DV kids.length).take (i * 5) ++ X.row kx dx ++ (rowsOf kids KV DV kids.length).drop (i * 5) := by
  have hl : ((List.range i).flatMap fun j => (kids.getD j default).row (KV j) (DV j)).length = i * 5 := rowsOf_length kids KV DV i
  have e : rowsOf (insAt kids i X) (insF i kx KV) (insF i dx DV) (kids.length + 1) = (List.range (kids.length + 1)).flatMap (insF i (X.row kx dx) fun j => (kids.getD j default).row (KV j) (DV j)) := by
    refine Go.Deep.flatMap_congr_range fun j hj => ?_
    have hg : (insAt kids i X).getD j default = if j < i then kids.getD j default else if j = i then X else kids.getD (j - 1) default := by
      rw [List.getD, insAt_get X hi]
      split
      · rfl
      · split <;> rfl
    rw [hg]
    unfold insF
    by_cases h1 : j < i
    · simp only [h1, if_true]
    · by_cases h2 : j = i
      · subst h2; simp only [h1, if_false, if_true]
      · simp only [h1, h2, if_false]
  rw [e, flat_ins _ _ hi]
  show _ = ((List.range kids.length).flatMap _).take _ ++ _ ++ ((List.range kids.length).flatMap _).drop _
  rw [flat_cut _ hi, List.take_append_of_le_length (by rw [hl]; exact Nat.le_refl _), List.take_of_length_le (by rw [hl]; exact Nat.le_refl _), List.drop_append_of_le_length (by rw [hl]; exact Nat.le_refl _), List.drop_of_length_le (by rw [hl]; exact Nat.le_refl _), List.nil_append]

theorem nodup_mid {A B X : List Nat} (h : (A ++ B).Nodup) (hX : X.Nodup) (hd : ∀ x ∈ X, x ∉ A ++ B) : (A ++ X ++ B).Nodup := by
  obtain ⟨hA, hB, hAB⟩ := List.nodup_append.1 h
  refine List.nodup_append.2 ⟨List.nodup_append.2 ⟨hA, hX, fun a ha b hb e => hd b hb (List.mem_append_left _ (e ▸ ha))⟩, hB, fun a ha b hb e => ?_⟩
  rcases List.mem_append.1 ha with ha | ha
  · exact hAB a ha b hb e
  · exact hd a ha (List.mem_append_right _ (e ▸ hb))

theorem Fresh.mid {w wf : World} {A B X : List Nat} (h : Fresh w wf (A ++ B)) (hX : Fresh w wf X) (hd : ∀ x ∈ X, x ∉ A ++ B) : Fresh w wf (A ++ X ++ B) := by
  have hm : ∀ x ∈ A ++ X ++ B, x ∈ A ++ B ∨ x ∈ X := fun x hx => by
    rcases List.mem_append.1 hx with hx | hx
    · rcases List.mem_append.1 hx with hx | hx
      · exact .inl (List.mem_append_left _ hx)
      · exact .inr hx
    · exact .inl (List.mem_append_right _ hx)
  refine ⟨nodup_mid h.nodup hX.nodup hd, fun x hx => ?_, fun x hx => ?_⟩
  · rcases hm x hx with h' | h'
    · exact h.old x h'
    · exact hX.old x h'
  · rcases hm x hx with h' | h'
    · exact h.free x h'
    · exact hX.free x h'

/-! ### Lists that a call owns -/

theorem owns_of_strs {w : World} {base : Nat} {t : TypeId} {v : Value} {ks : List ByteArray} {F : List Nat} (h : StrsAt w v ks F) (hw : Whole w base t 1 v) :
    w.ownsRow base t 1 v ks.length (ks.map .string) ∧ ∀ x, v.ownBlock = some x → x ∈ F := by
  obtain ⟨o, cap, b, off, rfl, h1, h2, h3, rfl, h4, -⟩ := h
  rcases hw with hv | ⟨g, n, cap', cur, hv, hn, hg, hh, hc, hcm, hsz⟩
  · injection hv with e1 e2 e3
    have e : ks = [] := List.length_eq_zero_iff.1 e2
    subst e e1 e3
    exact ⟨⟨rfl, .inl ⟨rfl, rfl⟩⟩, fun x hx => by simp [Value.ownBlock] at hx⟩
  · injection hv with e1 e2 e3
    have e4 := h3 (by omega)
    rw [e1] at e4
    injection e4 with e4
    injection e4 with e4 e5
    subst e1 e2 e3 e4 e5
    refine ⟨⟨by simp, .inr ⟨g, cap, cur, rfl, hg, hh, hc, hcm, hsz, ?_⟩⟩, fun x hx => ?_⟩
    · apply List.ext_getElem?
      intro i
      by_cases hi : i < ks.length
      · have hc := (h4 i hi).1
        rw [Nat.zero_add, cell_of hh] at hc
        rw [List.getElem?_take_of_lt (by omega), List.getElem?_map, List.getElem?_eq_getElem hi]
        simpa using hc
      · rw [List.getElem?_eq_none (by simp; omega), List.getElem?_eq_none (by simp; omega)]
    · rw [if_neg (by omega)]
      simpa [Value.ownBlock] using hx.symm

theorem owns_of_kids {w : World} {base : Nat} {t : TypeId} {v : Value} {kids : List RT} {F : List Nat} (h : KidsLie w v kids F) (hw : Whole w base t 5 v) :
    ∃ (KV DV : Nat → Value) (FF : Nat → List Nat) (G : List Nat), w.ownsRow base t 5 v kids.length (rowsOf kids KV DV kids.length) ∧ (∀ j (h : j < kids.length), Lies w kids[j] (KV j) (DV j) (FF j)) ∧ F = G ++ (List.range kids.length).flatMap FF ∧ ∀ x, v.ownBlock = some x → x ∈ G := by
  obtain ⟨o, cap, b, off, FF, KV, DV, rfl, h1, h2, h3, rfl, h4, h5, -⟩ := h
  refine ⟨KV, DV, FF, _, ?_, h5, rfl, ?_⟩
  · refine ⟨rowsOf_length _ _ _ _, ?_⟩
    rcases hw with hv | ⟨g, n, cap', cur, hv, hn, hg, hh, hc, hcm, hsz⟩
    · injection hv with e1 e2 e3
      rw [e1, e2, e3]
      exact .inl ⟨rfl, rfl⟩
    · injection hv with e1 e2 e3
      have e4 := h3 (by omega)
      rw [e1] at e4
      injection e4 with e4
      injection e4 with e4 e5
      subst e1 e2 e3 e4 e5
      refine .inr ⟨g, cap, cur, rfl, hg, hh, hc, hcm, hsz, ?_⟩
      apply List.ext_getElem?
      intro i
      by_cases hi : i < kids.length * 5
      · have hi5 : i / 5 < kids.length := by omega
        have hc := h4 (i / 5) hi5 (i % 5) (by omega)
        have hr := rowsOf_get kids KV DV kids.length (i / 5) (i % 5) hi5 (by omega)
        have e : i / 5 * 5 + i % 5 = i := by omega
        rw [e] at hr
        rw [Nat.zero_add, e, cell_of hh] at hc
        rw [List.getElem?_take_of_lt hi, hr]
        have e2 : kids.getD (i / 5) default = kids[i / 5] := by simp [List.getD, List.getElem?_eq_getElem hi5]
        rw [e2]
        simpa using hc
      · rw [List.getElem?_eq_none (by simp; omega), List.getElem?_eq_none (by rw [rowsOf_length]; omega)]
  · intro x hx
    rcases hw with hv | ⟨g, n, cap', cur, hv, hn, hg, hh, hc, hcm, hsz⟩
    · rw [hv] at hx; simp [Value.ownBlock] at hx
    · injection hv with e1 e2 e3
      have e4 := h3 (by omega)
      rw [e4] at hx
      rw [if_neg (by omega)]
      simpa [Value.ownBlock] using hx.symm

theorem strs_owned {w wf : World} {base : Nat} {t : TypeId} {v : Value} {ks : List ByteArray} (hown : wf.ownsRow base t 1 v ks.length (ks.map .string)) (hs : ∀ i (h : i < ks.length), ks[i].size ≤ maxLen) (hb : w.heap.size ≤ base) :
    ∃ F, StrsAt wf v ks F ∧ Fresh w wf F ∧ ∀ x ∈ F, v.ownBlock = some x := by
  rcases hown.2 with ⟨rfl, h0⟩ | ⟨g, cap, cur, rfl, hg, hh, hnc, hcm, hsz, htk⟩
  · have e : ks = [] := List.length_eq_zero_iff.1 h0
    subst e
    exact ⟨[], ⟨none, 0, 0, 0, rfl, Nat.le_refl _, Nat.zero_le _, fun h => absurd h (by simp), rfl, fun i hi => absurd hi (by simp), Room.nil _ _ _⟩, Fresh.nil _ _, fun x hx => absurd hx (by simp)⟩
  · refine ⟨if cap = 0 then [] else [g], ⟨_, cap, g, 0, rfl, hnc, hcm, fun _ => rfl, rfl, fun i hi => ⟨?_, hs i hi⟩, room_of hh (by omega)⟩, ?_, ?_⟩
    · rw [Nat.zero_add, cell_of hh]
      have h1 : (cur.toList.take (ks.length * 1))[i]? = (ks.map Value.string)[i]? := by rw [htk]
      rw [List.getElem?_take_of_lt (by omega), List.getElem?_map, List.getElem?_eq_getElem hi] at h1
      simpa using h1
    · split
      · exact Fresh.nil _ _
      · exact ⟨by simp, fun b hb' => by simp at hb'; omega, fun b hb' o => by simp at hb'; subst hb'; simp [World.frozen?, hh]⟩
    · intro x hx
      split at hx
      · simp at hx
      · simp at hx; subst hx; rfl

theorem kids_owned {w wf : World} {base : Nat} {t : TypeId} {v : Value} {kids : List RT} {KV DV : Nat → Value} {FF : Nat → List Nat} (hown : wf.ownsRow base t 5 v kids.length (rowsOf kids KV DV kids.length)) (hlie : ∀ j (h : j < kids.length), Lies wf kids[j] (KV j) (DV j) (FF j))
    (hf : Fresh w wf ((List.range kids.length).flatMap FF)) (hap : ∀ g, v.ownBlock = some g → g ∉ (List.range kids.length).flatMap FF) (hb : w.heap.size ≤ base) :
    ∃ F, KidsLie wf v kids F ∧ Fresh w wf F ∧ ∀ x ∈ F, v.ownBlock = some x ∨ x ∈ (List.range kids.length).flatMap FF := by
  rcases hown.2 with ⟨rfl, h0⟩ | ⟨g, cap, cur, rfl, hg, hh, hnc, hcm, hsz, htk⟩
  · have e : kids = [] := List.length_eq_zero_iff.1 h0
    subst e
    exact ⟨[], ⟨none, 0, 0, 0, fun _ => [], fun _ => .bool true, fun _ => .bool true, rfl, Nat.le_refl _, Nat.zero_le _, fun h => absurd h (by simp), rfl, fun i hi => absurd hi (by simp), fun i hi => absurd hi (by simp), Room.nil _ _ _⟩, Fresh.nil _ _, fun x hx => absurd hx (by simp)⟩
  · refine ⟨_, ⟨_, cap, g, 0, FF, KV, DV, rfl, hnc, hcm, fun _ => rfl, rfl, fun i hi j hj => ?_, hlie, room_of hh (by omega)⟩, ?_, ?_⟩
    · have hget := rowsOf_get kids KV DV kids.length i j hi hj
      rw [← htk, List.getElem?_take_of_lt (by omega)] at hget
      rw [Nat.zero_add, cell_of hh]
      have e2 : kids.getD i default = kids[i] := by simp [List.getD, List.getElem?_eq_getElem hi]
      rw [e2] at hget
      simpa using hget
    · split
      · simpa using hf
      · refine ⟨?_, ?_, ?_⟩
        · simp only [List.singleton_append, List.nodup_cons]
          exact ⟨hap g rfl, hf.nodup⟩
        · intro b hbF
          rcases List.mem_append.1 hbF with hbF | hbF
          · simp at hbF; omega
          · exact hf.old b hbF
        · intro b hbF o
          rcases List.mem_append.1 hbF with hbF | hbF
          · simp at hbF; subst hbF; simp [World.frozen?, hh]
          · exact hf.free b hbF o
    · intro x hx
      rcases List.mem_append.1 hx with hx | hx
      · split at hx
        · simp at hx
        · simp at hx; subst hx; exact .inl rfl
      · exact .inr hx

theorem insAt_lie {wf : World} {kids : List RT} {i : Nat} (hi : i ≤ kids.length) {X : RT} {KV DV : Nat → Value} {FF : Nat → List Nat} {kx dx : Value} {FX : List Nat} (hlie : ∀ j (h : j < kids.length), Lies wf kids[j] (KV j) (DV j) (FF j)) (hX : Lies wf X kx dx FX) :
    ∀ j (h : j < (insAt kids i X).length), Lies wf (insAt kids i X)[j] (insF i kx KV j) (insF i dx DV j) (insF i FX FF j) := fun j hj => by
  have hl := insAt_length X hi
  have hg := insAt_get X hi j
  rw [List.getElem?_eq_getElem hj] at hg
  unfold insF
  by_cases h1 : j < i
  · rw [if_pos h1, List.getElem?_eq_getElem (by omega)] at hg
    injection hg with hg
    simp only [h1, if_true]
    rw [hg]; exact hlie j (by omega)
  · by_cases h2 : j = i
    · subst h2
      rw [if_neg h1, if_pos rfl] at hg
      injection hg with hg
      simp only [h1, if_false, if_true]
      rw [hg]; exact hX
    · rw [if_neg h1, if_neg h2, List.getElem?_eq_getElem (by omega)] at hg
      injection hg with hg
      simp only [h1, h2, if_false]
      rw [hg]; exact hlie (j - 1) (by omega)

/-- One tree more in a list of trees that a call owns. -/
theorem kids_ins {w wf : World} {base : Nat} {t : TypeId} {v : Value} {kids : List RT} {KV DV : Nat → Value} {FF : Nat → List Nat} {X : RT} {kx dx : Value} {FX : List Nat} {i : Nat} (hi : i ≤ kids.length)
    (hown : wf.ownsRow base t 5 v (kids.length + 1) ((rowsOf kids KV DV kids.length).take (i * 5) ++ X.row kx dx ++ (rowsOf kids KV DV kids.length).drop (i * 5)))
    (hlie : ∀ j (h : j < kids.length), Lies wf kids[j] (KV j) (DV j) (FF j)) (hX : Lies wf X kx dx FX) (hf : Fresh w wf ((List.range kids.length).flatMap FF)) (hfX : Fresh w wf FX) (hd : ∀ x ∈ FX, x ∉ (List.range kids.length).flatMap FF)
    (hap : ∀ g, v.ownBlock = some g → g ∉ (List.range kids.length).flatMap FF ∧ g ∉ FX) (hb : w.heap.size ≤ base) :
    ∃ F, KidsLie wf v (insAt kids i X) F ∧ Fresh w wf F ∧ ∀ x ∈ F, v.ownBlock = some x ∨ x ∈ (List.range kids.length).flatMap FF ∨ x ∈ FX := by
  have hl := insAt_length X hi
  have hFF : (List.range (insAt kids i X).length).flatMap (insF i FX FF) = (List.range i).flatMap FF ++ FX ++ (List.range (kids.length - i)).flatMap (fun j => FF (i + j)) := by rw [hl, flat_ins FF FX hi]
  have hm : ∀ x ∈ (List.range i).flatMap FF ++ FX ++ (List.range (kids.length - i)).flatMap (fun j => FF (i + j)), x ∈ (List.range kids.length).flatMap FF ∨ x ∈ FX := fun x hx => by
    rw [flat_cut FF hi]
    rcases List.mem_append.1 hx with hx | hx
    · rcases List.mem_append.1 hx with hx | hx
      · exact .inl (List.mem_append_left _ hx)
      · exact .inr hx
    · exact .inl (List.mem_append_right _ hx)
  obtain ⟨F, h1, h2, h3⟩ := kids_owned (w := w) (wf := wf) (base := base) (t := t) (v := v) (kids := insAt kids i X) (KV := insF i kx KV) (DV := insF i dx DV) (FF := insF i FX FF) (by rw [hl, rows_ins hi]; exact hown) (insAt_lie hi hlie hX)
    (by rw [hFF]; rw [flat_cut FF hi] at hf hd; exact hf.mid hfX hd) (fun g hg hx => by
      rw [hFF] at hx
      rcases hm g hx with h | h
      · exact (hap g hg).1 h
      · exact (hap g hg).2 h) hb
  refine ⟨F, h1, h2, fun x hx => ?_⟩
  rcases h3 x hx with h | h
  · exact .inl h
  · rw [hFF] at h; exact .inr (hm x h)

/-! ### One tree in the place of another -/

theorem cell_far {w : World} {b x y : Nat} {v : Value} (h : x ≠ y) : (w.setCell ⟨b, x, none⟩ v).cell? ⟨b, y, none⟩ = w.cell? ⟨b, y, none⟩ := World.cell?_setCell_other _ _ _ _ (fun e => h (by injection e))
theorem cell_here {w : World} {a : Addr} {u v : Value} (h : w.cell? a = some u) : (w.setCell a v).cell? a = some v := World.cell?_setCell_same _ _ _ h

theorem cell_set5 {w : World} {b o : Nat} {v0 v1 v2 v3 v4 u0 u1 u2 u3 u4 : Value} (h0 : w.cell? ⟨b, o, none⟩ = some u0) (h1 : w.cell? ⟨b, o + 1, none⟩ = some u1) (h2 : w.cell? ⟨b, o + 2, none⟩ = some u2) (h3 : w.cell? ⟨b, o + 3, none⟩ = some u3) (h4 : w.cell? ⟨b, o + 4, none⟩ = some u4) :
    (∀ j, j < 5 → (set5 w b o v0 v1 v2 v3 v4).cell? ⟨b, o + j, none⟩ = [v0, v1, v2, v3, v4][j]?) ∧ (∀ j, (j < o ∨ o + 5 ≤ j) → (set5 w b o v0 v1 v2 v3 v4).cell? ⟨b, j, none⟩ = w.cell? ⟨b, j, none⟩) ∧ ∀ a, (set5 w b o v0 v1 v2 v3 v4).frozen? a = w.frozen? a := by
  refine ⟨fun j hj => ?_, fun j hj => ?_, fun a => ?_⟩
  · match j, hj with
    | 0, _ =>
      unfold set5
      rw [cell_far (by omega), cell_far (by omega), cell_far (by omega), cell_far (by omega)]
      exact cell_here h0
    | 1, _ =>
      unfold set5
      rw [cell_far (by omega), cell_far (by omega), cell_far (by omega)]
      exact cell_here ((cell_far (by omega)).trans h1)
    | 2, _ =>
      unfold set5
      rw [cell_far (by omega), cell_far (by omega)]
      exact cell_here ((cell_far (by omega)).trans ((cell_far (by omega)).trans h2))
    | 3, _ =>
      unfold set5
      rw [cell_far (by omega)]
      exact cell_here ((cell_far (by omega)).trans ((cell_far (by omega)).trans ((cell_far (by omega)).trans h3)))
    | 4, _ =>
      unfold set5
      exact cell_here ((cell_far (by omega)).trans ((cell_far (by omega)).trans ((cell_far (by omega)).trans ((cell_far (by omega)).trans h4))))
  · unfold set5
    rw [cell_far (by omega), cell_far (by omega), cell_far (by omega), cell_far (by omega), cell_far (by omega)]
  · simp [set5]

/-- A list of trees whose i-th is stored over. -/
theorem kids_put {w wr : World} {dv : Value} {kids : List RT} {FD : List Nat} (h : KidsLie wr dv kids FD) (hf : Fresh w wr FD) {X : RT} {kx dx : Value} {FX : List Nat} (hX : Lies wr X kx dx FX) (hfX : Fresh w wr FX) (hd : ∀ x ∈ FX, x ∉ FD) {i : Nat} (hi : i < kids.length) :
    ∃ b off cap u0 u1 u2 u3 u4, dv = .slice (some ⟨b, off, none⟩) kids.length cap ∧ kids.length ≤ cap ∧ cap ≤ maxLen ∧ b ∈ FD ∧ (∀ o, wr.frozen? ⟨b, o, none⟩ = false) ∧
      wr.cell? ⟨b, off + i * 5, none⟩ = some u0 ∧ wr.cell? ⟨b, off + i * 5 + 1, none⟩ = some u1 ∧ wr.cell? ⟨b, off + i * 5 + 2, none⟩ = some u2 ∧ wr.cell? ⟨b, off + i * 5 + 3, none⟩ = some u3 ∧ wr.cell? ⟨b, off + i * 5 + 4, none⟩ = some u4 ∧
      ∃ F, KidsLie (set5 wr b (off + i * 5) (.int .i64 X.k) (.int .i64 X.n) (.string X.s) kx dx) dv (kids.set i X) F ∧ Fresh w (set5 wr b (off + i * 5) (.int .i64 X.k) (.int .i64 X.n) (.string X.s) kx dx) F ∧ ∀ x ∈ F, x ∈ FD ∨ x ∈ FX := by
  obtain ⟨o, cap, b, off, FF, KV, DV, rfl, h1, h2, h3, hFD, h4, h5, h6⟩ := h
  have ho := h3 (by omega)
  subst ho
  rw [if_neg (by omega)] at hFD
  have hbF : b ∈ FD := by rw [hFD]; simp
  have hnd : b ∉ (List.range kids.length).flatMap FF := by
    have := hf.nodup
    rw [hFD] at this
    exact (List.nodup_cons.1 this).1
  have hfF : Fresh w wr ((List.range kids.length).flatMap FF) := by
    rw [hFD] at hf
    exact ⟨(List.nodup_append.1 hf.nodup).2.1, fun x hx => hf.old x (List.mem_append_right _ hx), fun x hx => hf.free x (List.mem_append_right _ hx)⟩
  obtain ⟨c0, c1, c2, c3, c4⟩ := kid_cells (h4 i hi) (Below.refl _ wr)
  have hbX : b ∉ FX := fun hx => hd b hx hbF
  obtain ⟨s1, s2, s3⟩ := cell_set5 (v0 := .int .i64 X.k) (v1 := .int .i64 X.n) (v2 := .string X.s) (v3 := kx) (v4 := dx) c0 c1 c2 c3 c4
  have hcut := flat_cut FF (i := i) (n := kids.length) (by omega)
  have hcut2 : (List.range (kids.length - i)).flatMap (fun j => FF (i + j)) = FF i ++ (List.range (kids.length - i - 1)).flatMap (fun j => FF (i + 1 + j)) := by
    obtain ⟨m, hm⟩ : ∃ m, kids.length - i = 1 + m := ⟨kids.length - i - 1, by omega⟩
    rw [hm, List.range_add, List.flatMap_append, List.flatMap_map, Nat.add_sub_cancel_left]
    congr 1
    · simp
    · exact Go.Deep.flatMap_congr_range fun j _ => by congr 1; omega
  have hnew : (List.range kids.length).flatMap (fun j => if j = i then FX else FF j) = (List.range i).flatMap FF ++ FX ++ (List.range (kids.length - i - 1)).flatMap (fun j => FF (i + 1 + j)) := by
    obtain ⟨m, hm⟩ : ∃ m, kids.length = i + 1 + m := ⟨kids.length - i - 1, by omega⟩
    rw [hm, List.range_add, List.flatMap_append, List.flatMap_map, List.range_succ, List.flatMap_append, show i + 1 + m - i - 1 = m by omega]
    congr 1
    · congr 1
      · exact Go.Deep.flatMap_congr_range fun j hj => by rw [if_neg (by omega)]
      · simp
    · exact Go.Deep.flatMap_congr_range fun j hj => by rw [if_neg (by omega)]
  have hsub : ∀ x ∈ (List.range i).flatMap FF ++ (List.range (kids.length - i - 1)).flatMap (fun j => FF (i + 1 + j)), x ∈ (List.range kids.length).flatMap FF := fun x hx => by
    rw [hcut, hcut2]
    rcases List.mem_append.1 hx with hx | hx
    · exact List.mem_append_left _ hx
    · exact List.mem_append_right _ (List.mem_append_right _ hx)
  have hfA : Fresh w wr ((List.range i).flatMap FF ++ (List.range (kids.length - i - 1)).flatMap (fun j => FF (i + 1 + j))) := by
    refine ⟨?_, fun x hx => hfF.old x (hsub x hx), fun x hx => hfF.free x (hsub x hx)⟩
    have hn := hfF.nodup
    rw [hcut, hcut2] at hn
    obtain ⟨n1, n2, n3⟩ := List.nodup_append.1 hn
    exact List.nodup_append.2 ⟨n1, (List.nodup_append.1 n2).2.1, fun a ha c hc => n3 a ha c (List.mem_append_right _ hc)⟩
  have hfN := hfA.mid hfX (fun x hx hx' => hd x hx (by rw [hFD]; exact List.mem_append_right _ (hsub x hx')))
  rw [← hnew] at hfN
  have hmem : ∀ x ∈ (List.range kids.length).flatMap (fun j => if j = i then FX else FF j), x ∈ (List.range kids.length).flatMap FF ∨ x ∈ FX := fun x hx => by
    rw [hnew] at hx
    rcases List.mem_append.1 hx with hx | hx
    · rcases List.mem_append.1 hx with hx | hx
      · exact .inl (hsub x (List.mem_append_left _ hx))
      · exact .inr hx
    · exact .inl (hsub x (List.mem_append_right _ hx))
  have hbN : b ∉ (List.range kids.length).flatMap (fun j => if j = i then FX else FF j) := fun hx => by
    rcases hmem b hx with h | h
    · exact hnd h
    · exact hbX h
  have keep : ∀ x ∈ (List.range kids.length).flatMap (fun j => if j = i then FX else FF j), (set5 wr b (off + i * 5) (.int .i64 X.k) (.int .i64 X.n) (.string X.s) kx dx).heap[x]? = wr.heap[x]? := fun x hx => set5_other _ _ _ _ _ _ _ _ _ (fun e => hbN (e ▸ hx))
  have hin : ∀ j, j < kids.length → ∀ x ∈ (if j = i then FX else FF j), x ∈ (List.range kids.length).flatMap (fun j => if j = i then FX else FF j) := fun j hj x hx => List.mem_flatMap.2 ⟨j, List.mem_range.2 hj, hx⟩
  refine ⟨b, off, cap, _, _, _, _, _, rfl, h1, h2, hbF, hf.free b hbF, c0, c1, c2, c3, c4, [b] ++ (List.range kids.length).flatMap (fun j => if j = i then FX else FF j), ?_, ?_, ?_⟩
  · refine ⟨_, cap, b, off, (fun j => if j = i then FX else FF j), (fun j => if j = i then kx else KV j), (fun j => if j = i then dx else DV j), by rw [List.length_set], by rw [List.length_set]; exact h1, h2, fun _ => rfl, ?_, fun j hj c hc => ?_, fun j hj => ?_, ((((h6.set _ _).set _ _).set _ _).set _ _).set _ _⟩
    · rw [List.length_set, if_neg (by omega)]
    · rw [List.length_set] at hj
      rw [List.getElem_set]
      by_cases e : j = i
      · subst e
        simp only [if_true]
        exact s1 c hc
      · simp only [e, if_false, if_neg (fun h => e h.symm : ¬ i = j)]
        rw [s2 (off + j * 5 + c) (by omega)]
        exact h4 j hj c hc
    · have hj' := hj
      rw [List.length_set] at hj'
      rw [List.getElem_set]
      by_cases e : j = i
      · subst e
        simp only [if_true]
        exact hX.carry fun x hx => keep x (hin j hj' x (by simpa using hx))
      · simp only [e, if_false, if_neg (fun h => e h.symm : ¬ i = j)]
        exact (h5 j hj').carry fun x hx => keep x (hin j hj' x (by simpa [e] using hx))
  · refine ⟨?_, fun x hx => ?_, fun x hx o => ?_⟩
    · simp only [List.singleton_append, List.nodup_cons]
      exact ⟨hbN, hfN.nodup⟩
    · rcases List.mem_append.1 hx with hx | hx
      · simp at hx; subst hx; exact hf.old x hbF
      · exact hfN.old x hx
    · rw [s3]
      rcases List.mem_append.1 hx with hx | hx
      · simp at hx; subst hx; exact hf.free x hbF o
      · exact hfN.free x hx o
  · intro x hx
    rcases List.mem_append.1 hx with hx | hx
    · simp at hx; subst hx; exact .inl hbF
    · rcases hmem x hx with h | h
      · left; rw [hFD]; exact List.mem_append_right _ h
      · exact .inr h
end Go.Proofs.Ytbcgkpkkhinkcaa
