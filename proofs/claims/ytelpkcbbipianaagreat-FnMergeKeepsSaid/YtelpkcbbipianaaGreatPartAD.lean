/-
  What is proved: plain facts on a tree that is put into a list of trees: in the place of one of them, or between two; and what a map is once a key has been set in it.; the laws' markText tells a text of a number; markStringS, markNodeS and markNode write these texts and numbers into the lists of a tree, and into nothing else; heldStringS, heldNodeS and heldNode find them there.; plain facts on trees without keys and kids.; plain facts on a block that a function laid, in every later world that has all earlier blocks as they were.; how great a map is once a key has been set in it.; plain facts on changes of trees: what the model's Change and Changed make, as plain functions.; plain facts on what stands at a Key of a map: behind Set it is what was set there, and all else is as it was.; a call of a Go function at a step of a region that draws its order.; the program's Set answers the map with the tree at its key (the tree itself, where it is no map), in memory of its own.; the program's Get of a map that has the Key answers what stands there, in memory of its own, and true; no condition.
-/
import Derived.Test.YtelpkcbbipianaaGreatPartAB
import Derived.Test.YtelpkcbbipianaaGreatPartAA
import Derived.WalkLawsBesides
import Derived.ProofKit
import Derived.Laws.IdiomStrings
import Derived.Deep.RegionHeld3
import Derived.Test.YtelpkcbbipianaaGreatRows
import Derived.OpenShut
import Derived.Carry
import Derived.Deep.Strs
import Derived.Below
import Derived.WalkKit
import Derived.WalkSpells
import Derived.Lib.Hide
import Derived.Deep.Draws
import Derived.Deep.QuietTactic
import Derived.Deep.RegionWith
import Derived.BigQuiet
import Derived.Test.YtelpkcbbipianaaGreatPartAC
import Derived.Laws.CopyRow
import Derived.Laws.NewBlocks
import Derived.Lib.Overlaps
import Derived.Lib.AppendZerosOnto
import Derived.Laws.Externs
import Derived.Shelf.Spec.SlicesInsert
/- plain facts on a tree that is put into a list of trees: in the place of one of them, or between two; and what a map is once a key has been set in it. -/
namespace Go.Proofs.YtelpkcbbipianaaGreat
open Go Go.RowKit

/-! ### What Set answers -/

/-- The first place of a key; how many keys there are, where it is none of them. -/
def firstN (ks : List ByteArray) (key : ByteArray) : Nat := (ks.takeWhile fun k => !(k.toList == key.toList)).length

theorem tw_unique {α : Type} {p : α → Bool} : ∀ (l : List α) (i : Nat), i ≤ l.length → (∀ j (h : j < l.length), j < i → p l[j] = true) → (∀ h : i < l.length, p l[i] = false) → (l.takeWhile p).length = i
  | [], i, hi, _, _ => by simp at hi; simp [hi]
  | x :: l, 0, _, _, h2 => by
    have := h2 (by simp)
    simp only [List.getElem_cons_zero] at this
    simp [this]
  | x :: l, i + 1, hi, h1, h2 => by
    have h0 := h1 0 (by simp) (by omega)
    simp only [List.getElem_cons_zero] at h0
    rw [List.takeWhile_cons, if_pos h0, List.length_cons]
    rw [tw_unique l i (by simpa using hi) (fun j hj hji => by have := h1 (j + 1) (by simpa using hj) (by omega); simpa using this) (fun h => by have := h2 (by simpa using h); simpa using this)]

theorem first_of {ks : List ByteArray} {key : ByteArray} {i : Nat} (h : FirstAt ks key i) : firstN ks key = i := by
  obtain ⟨hi, he, hn⟩ := h
  refine tw_unique ks i (by omega) (fun j hj hji => ?_) (fun _ => ?_)
  · rw [bytes_ne (hn j hji)]; rfl
  · rw [he]; simp

theorem first_none {ks : List ByteArray} {key : ByteArray} (h : Absent ks key) : firstN ks key = ks.length :=
  tw_unique ks _ (Nat.le_refl _) (fun j hj _ => by rw [bytes_ne (h j hj)]; rfl) (fun hh => absurd hh (by omega))

/-- A list with one more between its i-th and what stands ahead of it. -/
def insAt {α : Type} (l : List α) (i : Nat) (x : α) : List α := l.take i ++ (x :: l.drop i)

theorem insAt_length {α : Type} {l : List α} {i : Nat} (x : α) (h : i ≤ l.length) : (insAt l i x).length = l.length + 1 := by
  simp [insAt]; omega

theorem insAt_get {α : Type} {l : List α} {i : Nat} (x : α) (h : i ≤ l.length) (j : Nat) : (insAt l i x)[j]? = if j < i then l[j]? else if j = i then some x else l[j - 1]? := by
  have ht : (l.take i).length = i := by simp; omega
  unfold insAt
  by_cases h1 : j < i
  · rw [if_pos h1, List.getElem?_append_left (by omega), List.getElem?_take_of_lt h1]
  · rw [if_neg h1, List.getElem?_append_right (by omega), ht]
    by_cases h2 : j = i
    · subst h2; simp
    · rw [if_neg h2, show j - i = (j - i - 1) + 1 by omega, List.getElem?_cons_succ, List.getElem?_drop]
      congr 1; omega

theorem insAt_mem {α : Type} {l : List α} {i : Nat} {x y : α} (h : y ∈ insAt l i x) : y = x ∨ y ∈ l := by
  rcases List.mem_append.1 h with h | h
  · exact .inr (List.mem_of_mem_take h)
  · rcases List.mem_cons.1 h with h | h
    · exact .inl h
    · exact .inr (List.mem_of_mem_drop h)

def RT.isMap (T : RT) : Prop := T.k = 5 ∧ T.keys.length = T.kids.length

instance (T : RT) : Decidable T.isMap := by unfold RT.isMap; infer_instance

/-- The tree T with X at a key; T, where it is no map. -/
def setT (T : RT) (key : ByteArray) (X : RT) : RT :=
  if T.isMap then
    if firstN T.keys key < T.keys.length then .node T.k T.n T.s T.keys (T.kids.set (firstN T.keys key) X)
    else .node T.k T.n T.s (insAt T.keys (placeN T.keys key) key) (insAt T.kids (placeN T.keys key) X)
  else T

theorem setT_no {T X : RT} {key : ByteArray} (h : ¬ T.isMap) : setT T key X = T := if_neg h
theorem setT_put {T X : RT} {key : ByteArray} (h : T.isMap) {i : Nat} (hi : FirstAt T.keys key i) : setT T key X = .node T.k T.n T.s T.keys (T.kids.set i X) := by
  have h1 := first_of hi
  rw [setT, if_pos h, if_pos (by rw [h1]; exact hi.1), h1]
theorem setT_ins {T X : RT} {key : ByteArray} (h : T.isMap) (ha : Absent T.keys key) : setT T key X = .node T.k T.n T.s (insAt T.keys (placeN T.keys key) key) (insAt T.kids (placeN T.keys key) X) := by
  rw [setT, if_pos h, if_neg (by rw [first_none ha]; omega)]
/-! ### Rows with one more -/

def insF {α : Type} (i : Nat) (x : α) (f : Nat → α) : Nat → α := fun j => if j < i then f j else if j = i then x else f (j - 1)

theorem flat_cut {β : Type} (F : Nat → List β) {i n : Nat} (hi : i ≤ n) : (List.range n).flatMap F = (List.range i).flatMap F ++ (List.range (n - i)).flatMap (fun j => F (i + j)) := by
  obtain ⟨m, rfl⟩ : ∃ m, n = i + m := ⟨n - i, by omega⟩
  rw [List.range_add, List.flatMap_append, List.flatMap_map, Nat.add_sub_cancel_left]

theorem flat_ins {β : Type} (F : Nat → List β) (X : List β) {i n : Nat} (hi : i ≤ n) : (List.range (n + 1)).flatMap (insF i X F) = (List.range i).flatMap F ++ X ++ (List.range (n - i)).flatMap (fun j => F (i + j)) := by
  obtain ⟨m, rfl⟩ : ∃ m, n = i + m := ⟨n - i, by omega⟩
  rw [show i + m + 1 = i + 1 + m by omega, List.range_add, List.flatMap_append, List.flatMap_map, List.range_succ, List.flatMap_append, Nat.add_sub_cancel_left]
  congr 1
  · congr 1
    · exact Go.Deep.flatMap_congr_range fun j hj => by simp [insF, hj]
    · simp [insF]
  · exact Go.Deep.flatMap_congr_range fun j hj => by
      have e1 : ¬ (i + 1 + j < i) := by omega
      have e2 : ¬ (i + 1 + j = i) := by omega
      simp only [insF, e1, e2, if_false]
      congr 1; omega

theorem rows_ins {kids : List RT} {i : Nat} (hi : i ≤ kids.length) (KV DV : Nat → Value) (X : RT) (kx dx : Value) :
    rowsOf (insAt kids i X) (insF i kx KV) (insF i dx DV) (kids.length + 1) = (rowsOf kids KV DV kids.length).take (i * 5) ++ X.row kx dx ++ (rowsOf kids KV DV kids.length).drop (i * 5) := by
  have hl : ((List.range i).flatMap fun j => (kids.getD j default).row (KV j) (DV j)).length = i * 5 := rowsOf_length kids KV DV i
  have e : rowsOf (insAt kids i X) (insF i kx KV) (insF i dx DV) (kids.length + 1) = (List.range (kids.length + 1)).flatMap (insF i (X.row kx dx) fun j => (kids.getD j default).row (KV j) (DV j)) := by
    refine Go.Deep.flatMap_congr_range fun j hj => ?_
    have hg : (insAt kids i X).getD j default = if j < i then kids.getD j default else if j = i then X else kids.getD (j - 1) default := by
      rw [List.getD, insAt_get X hi]
      split
      · rfl
      · split <;> rfl
    rw [hg]
    unfold insF
    by_cases h1 : j < i
    · simp only [h1, if_true]
    · by_cases h2 : j = i
      · subst h2; simp only [h1, if_false, if_true]
      · simp only [h1, h2, if_false]
  rw [e, flat_ins _ _ hi]
  show _ = ((List.range kids.length).flatMap _).take _ ++ _ ++ ((List.range kids.length).flatMap _).drop _
  rw [flat_cut _ hi, List.take_append_of_le_length (by rw [hl]; exact Nat.le_refl _), List.take_of_length_le (by rw [hl]; exact Nat.le_refl _), List.drop_append_of_le_length (by rw [hl]; exact Nat.le_refl _), List.drop_of_length_le (by rw [hl]; exact Nat.le_refl _), List.nil_append]

theorem nodup_mid {A B X : List Nat} (h : (A ++ B).Nodup) (hX : X.Nodup) (hd : ∀ x ∈ X, x ∉ A ++ B) : (A ++ X ++ B).Nodup := by
  obtain ⟨hA, hB, hAB⟩ := List.nodup_append.1 h
  refine List.nodup_append.2 ⟨List.nodup_append.2 ⟨hA, hX, fun a ha b hb e => hd b hb (List.mem_append_left _ (e ▸ ha))⟩, hB, fun a ha b hb e => ?_⟩
  rcases List.mem_append.1 ha with ha | ha
  · exact hAB a ha b hb e
  · exact hd a ha (List.mem_append_right _ (e ▸ hb))

theorem Fresh.mid {w wf : World} {A B X : List Nat} (h : Fresh w wf (A ++ B)) (hX : Fresh w wf X) (hd : ∀ x ∈ X, x ∉ A ++ B) : Fresh w wf (A ++ X ++ B) := by
  have hm : ∀ x ∈ A ++ X ++ B, x ∈ A ++ B ∨ x ∈ X := fun x hx => by
    rcases List.mem_append.1 hx with hx | hx
    · rcases List.mem_append.1 hx with hx | hx
      · exact .inl (List.mem_append_left _ hx)
      · exact .inr hx
    · exact .inl (List.mem_append_right _ hx)
  refine ⟨nodup_mid h.nodup hX.nodup hd, fun x hx => ?_, fun x hx => ?_⟩
  · rcases hm x hx with h' | h'
    · exact h.old x h'
    · exact hX.old x h'
  · rcases hm x hx with h' | h'
    · exact h.free x h'
    · exact hX.free x h'

theorem strs_owned {w wf : World} {base : Nat} {t : TypeId} {v : Value} {ks : List ByteArray} (hown : wf.ownsRow base t 1 v ks.length (ks.map .string)) (hs : ∀ i (h : i < ks.length), ks[i].size ≤ maxLen) (hb : w.heap.size ≤ base) :
    ∃ F, StrsAt wf v ks F ∧ Fresh w wf F ∧ ∀ x ∈ F, v.ownBlock = some x := by
  rcases hown.2 with ⟨rfl, h0⟩ | ⟨g, cap, cur, rfl, hg, hh, hnc, hcm, hsz, htk⟩
  · have e : ks = [] := List.length_eq_zero_iff.1 h0
    subst e
    exact ⟨[], ⟨none, 0, 0, 0, rfl, Nat.le_refl _, Nat.zero_le _, fun h => absurd h (by simp), rfl, fun i hi => absurd hi (by simp), Room.nil _ _ _⟩, Fresh.nil _ _, fun x hx => absurd hx (by simp)⟩
  · refine ⟨if cap = 0 then [] else [g], ⟨_, cap, g, 0, rfl, hnc, hcm, fun _ => rfl, rfl, fun i hi => ⟨?_, hs i hi⟩, room_of hh (by omega)⟩, ?_, ?_⟩
    · rw [Nat.zero_add, cell_of hh]
      have h1 : (cur.toList.take (ks.length * 1))[i]? = (ks.map Value.string)[i]? := by rw [htk]
      rw [List.getElem?_take_of_lt (by omega), List.getElem?_map, List.getElem?_eq_getElem hi] at h1
      simpa using h1
    · split
      · exact Fresh.nil _ _
      · exact ⟨by simp, fun b hb' => by simp at hb'; omega, fun b hb' o => by simp at hb'; subst hb'; simp [World.frozen?, hh]⟩
    · intro x hx
      split at hx
      · simp at hx
      · simp at hx; subst hx; rfl

theorem kids_owned {w wf : World} {base : Nat} {t : TypeId} {v : Value} {kids : List RT} {KV DV : Nat → Value} {FF : Nat → List Nat} (hown : wf.ownsRow base t 5 v kids.length (rowsOf kids KV DV kids.length)) (hlie : ∀ j (h : j < kids.length), Lies wf kids[j] (KV j) (DV j) (FF j))
    (hf : Fresh w wf ((List.range kids.length).flatMap FF)) (hap : ∀ g, v.ownBlock = some g → g ∉ (List.range kids.length).flatMap FF) (hb : w.heap.size ≤ base) :
    ∃ F, KidsLie wf v kids F ∧ Fresh w wf F ∧ ∀ x ∈ F, v.ownBlock = some x ∨ x ∈ (List.range kids.length).flatMap FF := by
  rcases hown.2 with ⟨rfl, h0⟩ | ⟨g, cap, cur, rfl, hg, hh, hnc, hcm, hsz, htk⟩
  · have e : kids = [] := List.length_eq_zero_iff.1 h0
    subst e
    exact ⟨[], ⟨none, 0, 0, 0, fun _ => [], fun _ => .bool true, fun _ => .bool true, rfl, Nat.le_refl _, Nat.zero_le _, fun h => absurd h (by simp), rfl, fun i hi => absurd hi (by simp), fun i hi => absurd hi (by simp), Room.nil _ _ _⟩, Fresh.nil _ _, fun x hx => absurd hx (by simp)⟩
  · refine ⟨_, ⟨_, cap, g, 0, FF, KV, DV, rfl, hnc, hcm, fun _ => rfl, rfl, fun i hi j hj => ?_, hlie, room_of hh (by omega)⟩, ?_, ?_⟩
    · have hget := rowsOf_get kids KV DV kids.length i j hi hj
      rw [← htk, List.getElem?_take_of_lt (by omega)] at hget
      rw [Nat.zero_add, cell_of hh]
      have e2 : kids.getD i default = kids[i] := by simp [List.getD, List.getElem?_eq_getElem hi]
      rw [e2] at hget
      simpa using hget
    · split
      · simpa using hf
      · refine ⟨?_, ?_, ?_⟩
        · simp only [List.singleton_append, List.nodup_cons]
          exact ⟨hap g rfl, hf.nodup⟩
        · intro b hbF
          rcases List.mem_append.1 hbF with hbF | hbF
          · simp at hbF; omega
          · exact hf.old b hbF
        · intro b hbF o
          rcases List.mem_append.1 hbF with hbF | hbF
          · simp at hbF; subst hbF; simp [World.frozen?, hh]
          · exact hf.free b hbF o
    · intro x hx
      rcases List.mem_append.1 hx with hx | hx
      · split at hx
        · simp at hx
        · simp at hx; subst hx; exact .inl rfl
      · exact .inr hx

theorem insAt_lie {wf : World} {kids : List RT} {i : Nat} (hi : i ≤ kids.length) {X : RT} {KV DV : Nat → Value} {FF : Nat → List Nat} {kx dx : Value} {FX : List Nat} (hlie : ∀ j (h : j < kids.length), Lies wf kids[j] (KV j) (DV j) (FF j)) (hX : Lies wf X kx dx FX) :
    ∀ j (h : j < (insAt kids i X).length), Lies wf (insAt kids i X)[j] (insF i kx KV j) (insF i dx DV j) (insF i FX FF j) := fun j hj => by
  have hl := insAt_length X hi
  have hg := insAt_get X hi j
  rw [List.getElem?_eq_getElem hj] at hg
  unfold insF
  by_cases h1 : j < i
  · rw [if_pos h1, List.getElem?_eq_getElem (by omega)] at hg
    injection hg with hg
    simp only [h1, if_true]
    rw [hg]; exact hlie j (by omega)
  · by_cases h2 : j = i
    · subst h2
      rw [if_neg h1, if_pos rfl] at hg
      injection hg with hg
      simp only [h1, if_false, if_true]
      rw [hg]; exact hX
    · rw [if_neg h1, if_neg h2, List.getElem?_eq_getElem (by omega)] at hg
      injection hg with hg
      simp only [h1, h2, if_false]
      rw [hg]; exact hlie (j - 1) (by omega)

/-- One tree more in a list of trees that a call owns. -/
theorem kids_ins {w wf : World} {base : Nat} {t : TypeId} {v : Value} {kids : List RT} {KV DV : Nat → Value} {FF : Nat → List Nat} {X : RT} {kx dx : Value} {FX : List Nat} {i : Nat} (hi : i ≤ kids.length)
    (hown : wf.ownsRow base t 5 v (kids.length + 1) ((rowsOf kids KV DV kids.length).take (i * 5) ++ X.row kx dx ++ (rowsOf kids KV DV kids.length).drop (i * 5)))
    (hlie : ∀ j (h : j < kids.length), Lies wf kids[j] (KV j) (DV j) (FF j)) (hX : Lies wf X kx dx FX) (hf : Fresh w wf ((List.range kids.length).flatMap FF)) (hfX : Fresh w wf FX) (hd : ∀ x ∈ FX, x ∉ (List.range kids.length).flatMap FF)
    (hap : ∀ g, v.ownBlock = some g → g ∉ (List.range kids.length).flatMap FF ∧ g ∉ FX) (hb : w.heap.size ≤ base) :
    ∃ F, KidsLie wf v (insAt kids i X) F ∧ Fresh w wf F ∧ ∀ x ∈ F, v.ownBlock = some x ∨ x ∈ (List.range kids.length).flatMap FF ∨ x ∈ FX := by
  have hl := insAt_length X hi
  have hFF : (List.range (insAt kids i X).length).flatMap (insF i FX FF) = (List.range i).flatMap FF ++ FX ++ (List.range (kids.length - i)).flatMap (fun j => FF (i + j)) := by rw [hl, flat_ins FF FX hi]
  have hm : ∀ x ∈ (List.range i).flatMap FF ++ FX ++ (List.range (kids.length - i)).flatMap (fun j => FF (i + j)), x ∈ (List.range kids.length).flatMap FF ∨ x ∈ FX := fun x hx => by
    rw [flat_cut FF hi]
    rcases List.mem_append.1 hx with hx | hx
    · rcases List.mem_append.1 hx with hx | hx
      · exact .inl (List.mem_append_left _ hx)
      · exact .inr hx
    · exact .inl (List.mem_append_right _ hx)
  obtain ⟨F, h1, h2, h3⟩ := kids_owned (w := w) (wf := wf) (base := base) (t := t) (v := v) (kids := insAt kids i X) (KV := insF i kx KV) (DV := insF i dx DV) (FF := insF i FX FF) (by rw [hl, rows_ins hi]; exact hown) (insAt_lie hi hlie hX)
    (by rw [hFF]; rw [flat_cut FF hi] at hf hd; exact hf.mid hfX hd) (fun g hg hx => by
      rw [hFF] at hx
      rcases hm g hx with h | h
      · exact (hap g hg).1 h
      · exact (hap g hg).2 h) hb
  refine ⟨F, h1, h2, fun x hx => ?_⟩
  rcases h3 x hx with h | h
  · exact .inl h
  · rw [hFF] at h; exact .inr (hm x h)

/-! ### One tree in the place of another -/

theorem cell_far {w : World} {b x y : Nat} {v : Value} (h : x ≠ y) : (w.setCell ⟨b, x, none⟩ v).cell? ⟨b, y, none⟩ = w.cell? ⟨b, y, none⟩ := World.cell?_setCell_other _ _ _ _ (fun e => h (by injection e))
theorem cell_here {w : World} {a : Addr} {u v : Value} (h : w.cell? a = some u) : (w.setCell a v).cell? a = some v := World.cell?_setCell_same _ _ _ h

theorem cell_set5 {w : World} {b o : Nat} {v0 v1 v2 v3 v4 u0 u1 u2 u3 u4 : Value} (h0 : w.cell? ⟨b, o, none⟩ = some u0) (h1 : w.cell? ⟨b, o + 1, none⟩ = some u1) (h2 : w.cell? ⟨b, o + 2, none⟩ = some u2) (h3 : w.cell? ⟨b, o + 3, none⟩ = some u3) (h4 : w.cell? ⟨b, o + 4, none⟩ = some u4) :
    (∀ j, j < 5 → (set5 w b o v0 v1 v2 v3 v4).cell? ⟨b, o + j, none⟩ = [v0, v1, v2, v3, v4][j]?) ∧ (∀ j, (j < o ∨ o + 5 ≤ j) → (set5 w b o v0 v1 v2 v3 v4).cell? ⟨b, j, none⟩ = w.cell? ⟨b, j, none⟩) ∧ ∀ a, (set5 w b o v0 v1 v2 v3 v4).frozen? a = w.frozen? a := by
  refine ⟨fun j hj => ?_, fun j hj => ?_, fun a => ?_⟩
  · match j, hj with
    | 0, _ =>
      unfold set5
      rw [cell_far (by omega), cell_far (by omega), cell_far (by omega), cell_far (by omega)]
      exact cell_here h0
    | 1, _ =>
      unfold set5
      rw [cell_far (by omega), cell_far (by omega), cell_far (by omega)]
      exact cell_here ((cell_far (by omega)).trans h1)
    | 2, _ =>
      unfold set5
      rw [cell_far (by omega), cell_far (by omega)]
      exact cell_here ((cell_far (by omega)).trans ((cell_far (by omega)).trans h2))
    | 3, _ =>
      unfold set5
      rw [cell_far (by omega)]
      exact cell_here ((cell_far (by omega)).trans ((cell_far (by omega)).trans ((cell_far (by omega)).trans h3)))
    | 4, _ =>
      unfold set5
      exact cell_here ((cell_far (by omega)).trans ((cell_far (by omega)).trans ((cell_far (by omega)).trans ((cell_far (by omega)).trans h4))))
  · unfold set5
    rw [cell_far (by omega), cell_far (by omega), cell_far (by omega), cell_far (by omega), cell_far (by omega)]
  · simp [set5]

/-- A list of trees whose i-th is stored over. -/
theorem kids_put {w wr : World} {dv : Value} {kids : List RT} {FD : List Nat} (h : KidsLie wr dv kids FD) (hf : Fresh w wr FD) {X : RT} {kx dx : Value} {FX : List Nat} (hX : Lies wr X kx dx FX) (hfX : Fresh w wr FX) (hd : ∀ x ∈ FX, x ∉ FD) {i : Nat} (hi : i < kids.length) :
    ∃ b off cap u0 u1 u2 u3 u4, dv = .slice (some ⟨b, off, none⟩) kids.length cap ∧ kids.length ≤ cap ∧ cap ≤ maxLen ∧ b ∈ FD ∧ (∀ o, wr.frozen? ⟨b, o, none⟩ = false) ∧
      wr.cell? ⟨b, off + i * 5, none⟩ = some u0 ∧ wr.cell? ⟨b, off + i * 5 + 1, none⟩ = some u1 ∧ wr.cell? ⟨b, off + i * 5 + 2, none⟩ = some u2 ∧ wr.cell? ⟨b, off + i * 5 + 3, none⟩ = some u3 ∧ wr.cell? ⟨b, off + i * 5 + 4, none⟩ = some u4 ∧
      ∃ F, KidsLie (set5 wr b (off + i * 5) (.int .i64 X.k) (.int .i64 X.n) (.string X.s) kx dx) dv (kids.set i X) F ∧ Fresh w (set5 wr b (off + i * 5) (.int .i64 X.k) (.int .i64 X.n) (.string X.s) kx dx) F ∧ ∀ x ∈ F, x ∈ FD ∨ x ∈ FX := by
  obtain ⟨o, cap, b, off, FF, KV, DV, rfl, h1, h2, h3, hFD, h4, h5, h6⟩ := h
  have ho := h3 (by omega)
  subst ho
  rw [if_neg (by omega)] at hFD
  have hbF : b ∈ FD := by rw [hFD]; simp
  have hnd : b ∉ (List.range kids.length).flatMap FF := by
    have := hf.nodup
    rw [hFD] at this
    exact (List.nodup_cons.1 this).1
  have hfF : Fresh w wr ((List.range kids.length).flatMap FF) := by
    rw [hFD] at hf
    exact ⟨(List.nodup_append.1 hf.nodup).2.1, fun x hx => hf.old x (List.mem_append_right _ hx), fun x hx => hf.free x (List.mem_append_right _ hx)⟩
  obtain ⟨c0, c1, c2, c3, c4⟩ := kid_cells (h4 i hi) (Below.refl _ wr)
  have hbX : b ∉ FX := fun hx => hd b hx hbF
  obtain ⟨s1, s2, s3⟩ := cell_set5 (v0 := .int .i64 X.k) (v1 := .int .i64 X.n) (v2 := .string X.s) (v3 := kx) (v4 := dx) c0 c1 c2 c3 c4
  have hcut := flat_cut FF (i := i) (n := kids.length) (by omega)
  have hcut2 : (List.range (kids.length - i)).flatMap (fun j => FF (i + j)) = FF i ++ (List.range (kids.length - i - 1)).flatMap (fun j => FF (i + 1 + j)) := by
    obtain ⟨m, hm⟩ : ∃ m, kids.length - i = 1 + m := ⟨kids.length - i - 1, by omega⟩
    rw [hm, List.range_add, List.flatMap_append, List.flatMap_map, Nat.add_sub_cancel_left]
    congr 1
    · simp
    · exact Go.Deep.flatMap_congr_range fun j _ => by congr 1; omega
  have hnew : (List.range kids.length).flatMap (fun j => if j = i then FX else FF j) = (List.range i).flatMap FF ++ FX ++ (List.range (kids.length - i - 1)).flatMap (fun j => FF (i + 1 + j)) := by
    obtain ⟨m, hm⟩ : ∃ m, kids.length = i + 1 + m := ⟨kids.length - i - 1, by omega⟩
    rw [hm, List.range_add, List.flatMap_append, List.flatMap_map, List.range_succ, List.flatMap_append, show i + 1 + m - i - 1 = m by omega]
    congr 1
    · congr 1
      · exact Go.Deep.flatMap_congr_range fun j hj => by rw [if_neg (by omega)]
      · simp
    · exact Go.Deep.flatMap_congr_range fun j hj => by rw [if_neg (by omega)]
  have hsub : ∀ x ∈ (List.range i).flatMap FF ++ (List.range (kids.length - i - 1)).flatMap (fun j => FF (i + 1 + j)), x ∈ (List.range kids.length).flatMap FF := fun x hx => by
    rw [hcut, hcut2]
    rcases List.mem_append.1 hx with hx | hx
    · exact List.mem_append_left _ hx
    · exact List.mem_append_right _ (List.mem_append_right _ hx)
  have hfA : Fresh w wr ((List.range i).flatMap FF ++ (List.range (kids.length - i - 1)).flatMap (fun j => FF (i + 1 + j))) := by
    refine ⟨?_, fun x hx => hfF.old x (hsub x hx), fun x hx => hfF.free x (hsub x hx)⟩
    have hn := hfF.nodup
    rw [hcut, hcut2] at hn
    obtain ⟨n1, n2, n3⟩ := List.nodup_append.1 hn
    exact List.nodup_append.2 ⟨n1, (List.nodup_append.1 n2).2.1, fun a ha c hc => n3 a ha c (List.mem_append_right _ hc)⟩
  have hfN := hfA.mid hfX (fun x hx hx' => hd x hx (by rw [hFD]; exact List.mem_append_right _ (hsub x hx')))
  rw [← hnew] at hfN
  have hmem : ∀ x ∈ (List.range kids.length).flatMap (fun j => if j = i then FX else FF j), x ∈ (List.range kids.length).flatMap FF ∨ x ∈ FX := fun x hx => by
    rw [hnew] at hx
    rcases List.mem_append.1 hx with hx | hx
    · rcases List.mem_append.1 hx with hx | hx
      · exact .inl (hsub x (List.mem_append_left _ hx))
      · exact .inr hx
    · exact .inl (hsub x (List.mem_append_right _ hx))
  have hbN : b ∉ (List.range kids.length).flatMap (fun j => if j = i then FX else FF j) := fun hx => by
    rcases hmem b hx with h | h
    · exact hnd h
    · exact hbX h
  have keep : ∀ x ∈ (List.range kids.length).flatMap (fun j => if j = i then FX else FF j), (set5 wr b (off + i * 5) (.int .i64 X.k) (.int .i64 X.n) (.string X.s) kx dx).heap[x]? = wr.heap[x]? := fun x hx => set5_other _ _ _ _ _ _ _ _ _ (fun e => hbN (e ▸ hx))
  have hin : ∀ j, j < kids.length → ∀ x ∈ (if j = i then FX else FF j), x ∈ (List.range kids.length).flatMap (fun j => if j = i then FX else FF j) := fun j hj x hx => List.mem_flatMap.2 ⟨j, List.mem_range.2 hj, hx⟩
  refine ⟨b, off, cap, _, _, _, _, _, rfl, h1, h2, hbF, hf.free b hbF, c0, c1, c2, c3, c4, [b] ++ (List.range kids.length).flatMap (fun j => if j = i then FX else FF j), ?_, ?_, ?_⟩
  · refine ⟨_, cap, b, off, (fun j => if j = i then FX else FF j), (fun j => if j = i then kx else KV j), (fun j => if j = i then dx else DV j), by rw [List.length_set], by rw [List.length_set]; exact h1, h2, fun _ => rfl, ?_, fun j hj c hc => ?_, fun j hj => ?_, ((((h6.set _ _).set _ _).set _ _).set _ _).set _ _⟩
    · rw [List.length_set, if_neg (by omega)]
    · rw [List.length_set] at hj
      rw [List.getElem_set]
      by_cases e : j = i
      · subst e
        simp only [if_true]
        exact s1 c hc
      · simp only [e, if_false, if_neg (fun h => e h.symm : ¬ i = j)]
        rw [s2 (off + j * 5 + c) (by omega)]
        exact h4 j hj c hc
    · have hj' := hj
      rw [List.length_set] at hj'
      rw [List.getElem_set]
      by_cases e : j = i
      · subst e
        simp only [if_true]
        exact hX.carry fun x hx => keep x (hin j hj' x (by simpa using hx))
      · simp only [e, if_false, if_neg (fun h => e h.symm : ¬ i = j)]
        exact (h5 j hj').carry fun x hx => keep x (hin j hj' x (by simpa [e] using hx))
  · refine ⟨?_, fun x hx => ?_, fun x hx o => ?_⟩
    · simp only [List.singleton_append, List.nodup_cons]
      exact ⟨hbN, hfN.nodup⟩
    · rcases List.mem_append.1 hx with hx | hx
      · simp at hx; subst hx; exact hf.old x hbF
      · exact hfN.old x hx
    · rw [s3]
      rcases List.mem_append.1 hx with hx | hx
      · simp at hx; subst hx; exact hf.free x hbF o
      · exact hfN.free x hx o
  · intro x hx
    rcases List.mem_append.1 hx with hx | hx
    · simp at hx; subst hx; exact .inl hbF
    · rcases hmem x hx with h | h
      · left; rw [hFD]; exact List.mem_append_right _ h
      · exact .inr h
end Go.Proofs.YtelpkcbbipianaaGreat

/- the laws' markText tells a text of a number; markStringS, markNodeS and markNode write these texts and numbers into the lists of a tree, and into nothing else; heldStringS, heldNodeS and heldNode find them there. -/
namespace Go.Proofs.YtelpkcbbipianaaGreat
open Go Go.RowKit

/-! ### What is written -/

/-- The blocks of F alone may have turned; all others that were there are as they were. -/
structure But (F : List Nat) (w w' : World) : Prop where
  os : w'.os = w.os
  tape : w'.tape = w.tape
  output : w'.output = w.output
  size : w.heap.size ≤ w'.heap.size
  block : ∀ k, k < w.heap.size → k ∉ F → w'.heap[k]? = w.heap[k]?
  free : ∀ k, k < w.heap.size → ∀ o, w'.frozen? ⟨k, o, none⟩ = w.frozen? ⟨k, o, none⟩
  room : ∀ k, k < w.heap.size → ∀ o, (w.cell? ⟨k, o, none⟩).isSome = true → (w'.cell? ⟨k, o, none⟩).isSome = true

theorem But.of_below {F : List Nat} {w w' : World} (h : Below w.heap.size w w') : But F w w' :=
  ⟨h.os, h.tape, h.output, h.size, fun k hk _ => h.block k hk, fun k hk _ => World.frozen?_of_block (w := w) (h.block k hk), fun k hk o ho => by rw [World.cell?_of_block (w := w) (a := ⟨k, o, none⟩) (h.block k hk)]; exact ho⟩

theorem But.refl (F : List Nat) (w : World) : But F w w := .of_below (Below.refl _ w)

theorem But.trans {F : List Nat} {a b c : World} (h : But F a b) (k : But F b c) : But F a c :=
  ⟨k.os.trans h.os, k.tape.trans h.tape, k.output.trans h.output, Nat.le_trans h.size k.size, fun i hi hF => (k.block i (Nat.lt_of_lt_of_le hi h.size) hF).trans (h.block i hi hF),
    fun i hi o => (k.free i (Nat.lt_of_lt_of_le hi h.size) o).trans (h.free i hi o), fun i hi o ho => k.room i (Nat.lt_of_lt_of_le hi h.size) o (h.room i hi o ho)⟩

theorem But.mono {F G : List Nat} {a b : World} (h : But F a b) (hs : ∀ x ∈ F, x ∈ G) : But G a b :=
  ⟨h.os, h.tape, h.output, h.size, fun i hi hG => h.block i hi (fun hF => hG (hs i hF)), h.free, h.room⟩

theorem But.cell {F : List Nat} {a b : World} (h : But F a b) {k : Nat} (hk : k < a.heap.size) (hF : k ∉ F) (o : Nat) : b.cell? ⟨k, o, none⟩ = a.cell? ⟨k, o, none⟩ :=
  World.cell?_of_block (w := a) (h.block k hk hF)

theorem frozen_set (w : World) (a : Addr) (v : Value) (k o : Nat) : (w.setCell a v).frozen? ⟨k, o, none⟩ = w.frozen? ⟨k, o, none⟩ := World.frozen?_setCell w a ⟨k, o, none⟩ v

theorem But.set {F : List Nat} {a w : World} (h : But F a w) {p : Addr} (hp : p.block ∈ F) (v : Value) : But F a (w.setCell p v) :=
  h.trans ⟨rfl, rfl, rfl, by simp [World.setCell], fun k _ hF => Below.heap_setCell _ _ _ _ (fun e => hF (e ▸ hp)), fun k _ o => frozen_set w p v k o, fun k _ o ho => by
    obtain ⟨u, hu⟩ := Option.isSome_iff_exists.1 ho
    obtain ⟨u', hu'⟩ := cell?_setCell_some (p := p) (x := v) hu
    rw [hu']; rfl⟩

end Go.Proofs.YtelpkcbbipianaaGreat

/- plain facts on trees without keys and kids. -/
namespace Go.Proofs.YtelpkcbbipianaaGreat
open Go Go.RowKit

/-- A node without keys and kids lies in no memory. -/
theorem leaf_lies (w : World) {k n : Int} {s : ByteArray} (hk : Fit k) (hn : Fit n) (hs : s.size ≤ maxLen) : Lies w (.node k n s [] []) (.slice none 0 0) (.slice none 0 0) [] :=
  Lies.into (FK := []) (FD := []) hk hn hs ⟨none, 0, 0, 0, rfl, Nat.le_refl _, Nat.zero_le _, fun h => absurd h (by simp), rfl, fun i hi => absurd hi (by simp), Room.nil _ _ _⟩
    ⟨none, 0, 0, 0, fun _ => [], fun _ => .bool true, fun _ => .bool true, rfl, Nat.le_refl _, Nat.zero_le _, fun h => absurd h (by simp), rfl, fun i hi => absurd hi (by simp), fun i hi => absurd hi (by simp), Room.nil _ _ _⟩

end Go.Proofs.YtelpkcbbipianaaGreat

/- plain facts on a block that a function laid, in every later world that has all earlier blocks as they were. -/
namespace Go.Proofs.YtelpkcbbipianaaGreat
open Go Go.RowKit

/-- All that lay in w0 lies in wr; the block B bears these cells. -/
structure Bx (w0 wr : World) (B : Nat) (cs : Array Value) (t : TypeId) : Prop where
  below : Below w0.heap.size w0 wr
  blk : wr.heap[B]? = some (.cells cs t (0, 0))

theorem Bx.start (w : World) (cs : Array Value) (t : TypeId) : Bx w (w.alloc (.cells cs t)) w.heap.size cs t :=
  ⟨(Below.refl _ w).alloc (Nat.le_refl _) _, by show (w.heap.push _)[w.heap.size]? = _; simp⟩

theorem Bx.next {w0 wr w1 : World} {B : Nat} {cs : Array Value} {t : TypeId} (h : Bx w0 wr B cs t) (hb : Below wr.heap.size wr w1) : Bx w0 w1 B cs t :=
  ⟨h.below.trans (hb.mono h.below.size), (hb.block _ (Array.getElem?_eq_some_iff.1 h.blk).1).trans h.blk⟩

theorem Bx.cell {w0 wr : World} {B : Nat} {cs : Array Value} {t : TypeId} (h : Bx w0 wr B cs t) (o : Nat) : wr.cell? ⟨B, o, none⟩ = cs[o]? := by
  simp [World.cell?, h.blk]

end Go.Proofs.YtelpkcbbipianaaGreat

/- how great a map is once a key has been set in it. -/
namespace Go.Proofs.YtelpkcbbipianaaGreat
open Go Go.RowKit

theorem szAll_append (a b : List RT) : szAll (a ++ b) = szAll a + szAll b := by
  induction a with
  | nil => simp [szAll]
  | cons t l ih => simp only [List.cons_append, szAll, ih]; omega

theorem strSz_append (a b : List ByteArray) : strSz (a ++ b) = strSz a + strSz b := by
  induction a with
  | nil => simp [strSz]
  | cons t l ih => simp only [strSz, List.cons_append, List.map_cons, List.sum_cons] at ih ⊢; omega

theorem szAll_set (X : RT) : (l : List RT) → (i : Nat) → szAll (l.set i X) ≤ szAll l + X.sz
  | [], _ => by simp [szAll]
  | t :: l, 0 => by simp only [List.set_cons_zero, szAll]; omega
  | t :: l, i + 1 => by
    have := szAll_set X l i
    simp only [List.set_cons_succ, szAll]; omega

theorem setT_sz (T X : RT) (key : ByteArray) : (setT T key X).sz ≤ T.sz + X.sz + key.size + 2 := by
  obtain ⟨k, n, s, keys, kids⟩ := T
  unfold setT
  split
  · rename_i hm
    have hlen : keys.length = kids.length := hm.2
    split
    · have := szAll_set X kids (firstN keys key)
      simp only [RT.sz, RT.kids, RT.keys, RT.s, List.length_set]
      omega
    · have e := szAll_append (kids.take (placeN keys key)) (kids.drop (placeN keys key))
      rw [List.take_append_drop] at e
      have e2 := strSz_append (keys.take (placeN keys key)) (keys.drop (placeN keys key))
      rw [List.take_append_drop] at e2
      have hl := insAt_length key (placeN_le keys key)
      have hl2 := insAt_length (l := kids) X (show placeN keys key ≤ kids.length by have := placeN_le keys key; omega)
      simp only [RT.sz, RT.kids, RT.keys, RT.s, hl, hl2]
      have e3 : strSz (key :: keys.drop (placeN keys key)) = key.size + strSz (keys.drop (placeN keys key)) := by simp [strSz]
      simp only [insAt, szAll_append, strSz_append, szAll, e3]
      omega
  · omega
end Go.Proofs.YtelpkcbbipianaaGreat

/- plain facts on changes of trees: what the model's Change and Changed make, as plain functions. -/
namespace Go.Proofs.YtelpkcbbipianaaGreat
open Go Go.RowKit

/-- What stands at a Key, where a map has it. -/
def RT.at (T : RT) (key : ByteArray) : Option RT := if T.k = 5 then ((T.keys.zip T.kids).find? fun x => decide (x.1 = key)).map (·.2) else none

theorem find_zip (key : ByteArray) : (keys : List ByteArray) → (kids : List RT) → (i : Nat) → (h : i < kids.length) → FirstAt keys key i → ((keys.zip kids).find? fun x => decide (x.1 = key)) = some (key, kids[i])
  | [], _, i, _, h => by obtain ⟨h1, -⟩ := h; exact absurd h1 (by simp)
  | _ :: _, [], i, h, _ => absurd h (by simp)
  | x :: keys, t :: kids, 0, _, h => by
    obtain ⟨_, h2, _⟩ := h
    have h2 : x = key := h2
    simp [List.zip_cons_cons, h2]
  | x :: keys, t :: kids, i + 1, hi, h => by
    obtain ⟨h1, h2, h3⟩ := h
    have h0 : ¬ x = key := h3 0 (by omega)
    rw [List.zip_cons_cons, List.find?_cons_of_neg (by simpa using h0)]
    exact find_zip key keys kids i (by simpa using hi) ⟨by simpa using h1, h2, fun j hj => h3 (j + 1) (by omega)⟩

theorem find_zip_no (key : ByteArray) : (keys : List ByteArray) → (kids : List RT) → (∀ i (h : i < keys.length), i < kids.length → ¬ keys[i] = key) → ((keys.zip kids).find? fun x => decide (x.1 = key)) = none
  | [], _, _ => by simp
  | _ :: _, [], _ => by simp
  | x :: keys, t :: kids, h => by
    have h0 : ¬ x = key := h 0 (by simp) (by simp)
    rw [List.zip_cons_cons, List.find?_cons_of_neg (by simpa using h0)]
    exact find_zip_no key keys kids fun i hi hk => h (i + 1) (by simpa using hi) (by simpa using hk)

theorem at_yes {T : RT} {key : ByteArray} {i : Nat} (h : HasAt T.k T.keys T.kids.length key i) : ∃ hi : i < T.kids.length, T.at key = some T.kids[i] := by
  obtain ⟨h1, h2, h3⟩ := h
  refine ⟨h2, ?_⟩
  unfold RT.at
  rw [if_pos h1, find_zip key _ _ i h2 h3]
  rfl

theorem at_no {T : RT} {key : ByteArray} (h : NoneAt T.k T.keys T.kids.length key) : T.at key = none := by
  unfold RT.at
  split
  · rename_i h5
    rw [find_zip_no key _ _ (h h5)]
    rfl
  · rfl

end Go.Proofs.YtelpkcbbipianaaGreat

/- plain facts on what stands at a Key of a map: behind Set it is what was set there, and all else is as it was. -/
namespace Go.Proofs.YtelpkcbbipianaaGreat
open Go Go.RowKit

theorem at_zip {T : RT} (h : T.isMap) (key : ByteArray) : T.at key = ((T.keys.zip T.kids).find? fun x => decide (x.1 = key)).map (·.2) := by
  unfold RT.at
  rw [if_pos h.1]

theorem first_or : (ks : List ByteArray) → (key : ByteArray) → (∃ i, FirstAt ks key i) ∨ Absent ks key
  | [], _ => .inr fun i hi => absurd hi (by simp)
  | x :: ks, key => by
    by_cases e : x = key
    · exact .inl ⟨0, by simp, e, fun j hj => absurd hj (by omega)⟩
    · rcases first_or ks key with ⟨i, h1, h2, h3⟩ | ha
      · refine .inl ⟨i + 1, by simpa using h1, by simpa using h2, fun j hj => ?_⟩
        cases j with
        | zero => exact e
        | succ j => simpa using h3 j (by omega)
      · refine .inr fun i hi => ?_
        cases i with
        | zero => exact e
        | succ i => simpa using ha i (by simpa using hi)

end Go.Proofs.YtelpkcbbipianaaGreat

/- a call of a Go function at a step of a region that draws its order. -/
namespace Go.Proofs.YtelpkcbbipianaaGreat
open Go Go.RowKit

/-- A call, at a step of a region that draws its order. -/
theorem step_calls {P : Program} {ops : Array Oper} {o : Oper} {a : Act} {w : World} {K : Act → World → Prop} {Q : Exit → Act → World → Prop} {E : Prop} (hgd : o.guard = none) (f : Nat) (xs : Array Operand) (ts : Array TypeId)
    (ho : o.op = .call { callee := .value (.func f), args := xs, argTypes := ts }) (us : Array Value) (hx : (xs.map a.eval) = us) (he : ∀ us w, (callFunc f us).run P w = .ok (.enter f us) w) (hv : ∀ (a : Act) w, (Deferred.ofValue (a.eval (.func f)) us).run P w = .ok { target := .fn (.func f) #[], args := us } w) {R : Value → World → Prop}
    (hc : Calls P f us w fun e w' => ∃ v, e = .returned v ∧ R v w') (h : ∀ v w', R v w' → K (a.put o.dst v) w') : if Region.wanted o (yielded ops a.tmps) = true then Oper.wp P o a w K Q else E := by
  have hw : Region.wanted o (yielded ops a.tmps) = true := by simp [Region.wanted, hgd]
  rw [if_pos hw]
  unfold Oper.wp execOp
  simp only [ho, resolve, invoke, Sem.run_bind, hx]
  rw [hv, Result.andThen_ok]
  show Oper.upon P o a K Q ((callFunc f (us ++ #[])).run P w)
  rw [Array.append_empty, he, Oper.upon_enter]
  refine hc.mono ?_
  rintro e w' ⟨v, rfl, hR⟩
  exact h v w' hR

end Go.Proofs.YtelpkcbbipianaaGreat

/- the program's Set answers the map with the tree at its key (the tree itself, where it is no map), in memory of its own. -/
namespace Go.Proofs.YtelpkcbbipianaaGreat
open Go Go.RowKit

/-- Where Set stands: the node that it was handed, the node to be set, and what it answers, each in its block. -/
structure SBox (w wr : World) (a b c d e a' b' c' d' e' : Value) : Prop where
  below : Below w.heap.size w wr
  size : w.heap.size + 3 ≤ wr.heap.size
  box : wr.heap[w.heap.size]? = some (.cells #[a, b, c, d, e] 27 (0, 0))
  bx : wr.heap[w.heap.size + 1]? = some (.cells #[a', b', c', d', e'] 27 (0, 0))
  res : wr.heap[w.heap.size + 1 + 1]? = some (.cells #[.int .i64 0, .int .i64 0, .string ⟨#[]⟩, .slice none 0 0, .slice none 0 0] 27 (0, 0))

section
variable {w wr w1 : World} {a b c d e a' b' c' d' e' : Value}

theorem SBox.start (w : World) (a b c d e a' b' c' d' e' : Value) :
    SBox w (((w.alloc (.cells #[a, b, c, d, e] 27)).alloc (.cells #[a', b', c', d', e'] 27)).alloc (.cells #[.int .i64 0, .int .i64 0, .string ⟨#[]⟩, .slice none 0 0, .slice none 0 0] 27)) a b c d e a' b' c' d' e' := by
  obtain ⟨h1, h2, h3, h4, h5⟩ := zero_blocks w (.cells #[a, b, c, d, e] 27) (.cells #[a', b', c', d', e'] 27) (.cells #[.int .i64 0, .int .i64 0, .string ⟨#[]⟩, .slice none 0 0, .slice none 0 0] 27)
  exact ⟨h4, by omega, h1, h2, h3⟩

theorem SBox.next (h : SBox w wr a b c d e a' b' c' d' e') (hb : Below wr.heap.size wr w1) : SBox w w1 a b c d e a' b' c' d' e' :=
  ⟨h.below.trans (hb.mono h.below.size), Nat.le_trans h.size hb.size, (hb.block _ (by have := h.size; omega)).trans h.box, (hb.block _ (by have := h.size; omega)).trans h.bx, (hb.block _ (by have := h.size; omega)).trans h.res⟩

theorem set5_size (w : World) (b o : Nat) (v0 v1 v2 v3 v4 : Value) : (set5 w b o v0 v1 v2 v3 v4).heap.size = w.heap.size := by simp [set5, World.setCell]

theorem SBox.far (h : SBox w wr a b c d e a' b' c' d' e') {x : Nat} (hx : w.heap.size + 3 ≤ x) (o : Nat) (v0 v1 v2 v3 v4 : Value) : SBox w (set5 wr x o v0 v1 v2 v3 v4) a b c d e a' b' c' d' e' :=
  ⟨set5_below h.below (by omega) _ _ _ _ _ _, by rw [set5_size]; exact h.size, (set5_other _ _ _ _ _ _ _ _ _ (by omega)).trans h.box, (set5_other _ _ _ _ _ _ _ _ _ (by omega)).trans h.bx, (set5_other _ _ _ _ _ _ _ _ _ (by omega)).trans h.res⟩

theorem SBox.grow (h : SBox w wr a b c d e a' b' c' d' e') {row : Option Nat} (hg : wr.grownBy w1 row) (hr : ∀ x, row = some x → w.heap.size + 3 ≤ x) : SBox w w1 a b c d e a' b' c' d' e' :=
  ⟨h.below.grown hg h.below.size (fun k e => by have := hr k e; omega), Nat.le_trans h.size hg.size, (hg.block _ (by have := h.size; omega) (fun e => by have := hr _ e.symm; omega)).trans h.box,
    (hg.block _ (by have := h.size; omega) (fun e => by have := hr _ e.symm; omega)).trans h.bx, (hg.block _ (by have := h.size; omega) (fun e => by have := hr _ e.symm; omega)).trans h.res⟩

end

section
variable {w wr w1 : World} {T X : RT} {kv dv kx dx : Value} {FK FD FX : List Nat}

/-- What is answered, stored into its block. -/
theorem set_fin {a b c d e a' b' c' d' e' : Value} (hx : SBox w wr a b c d e a' b' c' d' e') {R : RT} {kr dr : Value} {F : List Nat} (hl : Lies wr R kr dr F) (hf : Fresh w wr F) (hfar : ∀ y ∈ F, w.heap.size + 3 ≤ y) :
    (set5 wr (w.heap.size + 1 + 1) 0 (.int .i64 R.k) (.int .i64 R.n) (.string R.s) kr dr).heap[w.heap.size + 1 + 1]? = some (.cells #[.int .i64 R.k, .int .i64 R.n, .string R.s, kr, dr] 27 (0, 0)) ∧
    Lies (set5 wr (w.heap.size + 1 + 1) 0 (.int .i64 R.k) (.int .i64 R.n) (.string R.s) kr dr) R kr dr F ∧ Fresh w (set5 wr (w.heap.size + 1 + 1) 0 (.int .i64 R.k) (.int .i64 R.n) (.string R.s) kr dr) F ∧
    Below w.heap.size w (set5 wr (w.heap.size + 1 + 1) 0 (.int .i64 R.k) (.int .i64 R.n) (.string R.s) kr dr) := by
  have keep : ∀ x ∈ F, (set5 wr (w.heap.size + 1 + 1) 0 (.int .i64 R.k) (.int .i64 R.n) (.string R.s) kr dr).heap[x]? = wr.heap[x]? := fun x hxm => set5_other _ _ _ _ _ _ _ _ _ (by have := hfar x hxm; omega)
  exact ⟨set5_end hx.res _ _ _ _ _, hl.carry keep, hf.carry keep, set5_below hx.below (by omega) _ _ _ _ _ _⟩

end

theorem rows_one {wr : World} {kids : List RT} {KV DV : Nat → Value} {FF : Nat → List Nat} (h : ∀ j (h : j < kids.length), Lies wr kids[j] (KV j) (DV j) (FF j)) : ∀ u ∈ rowsOf kids KV DV kids.length, u.oneCell' = true := fun u hu => by
  obtain ⟨j, hj, hu⟩ := List.mem_flatMap.1 hu
  obtain ⟨⟨o1, q1, e1⟩, ⟨o2, q2, e2⟩⟩ := (h j (List.mem_range.1 hj)).slices
  rw [e1, e2] at hu
  simp only [RT.row, List.mem_cons, List.not_mem_nil, or_false] at hu
  rcases hu with h | h | h | h | h <;> rw [h] <;> rfl

theorem row_one (X : RT) (o1 o2 : Option Addr) (l1 l2 c1 c2 : Nat) : ∀ u ∈ X.row (.slice o1 l1 c1) (.slice o2 l2 c2), u.oneCell' = true := fun u hu => by
  simp only [RT.row, List.mem_cons, List.not_mem_nil, or_false] at hu
  rcases hu with h | h | h | h | h <;> rw [h] <;> rfl

theorem keys_le (T : RT) : T.keys.length ≤ T.sz ∧ T.kids.length ≤ T.sz := by
  cases T
  simp only [RT.keys, RT.kids, RT.sz]
  omega

theorem nodup_of {A B : List Nat} (h : (A ++ B).Nodup) : ∀ x ∈ A, x ∉ B := fun x hx hx' => (List.nodup_append.1 h).2.2 x hx x hx' rfl

end Go.Proofs.YtelpkcbbipianaaGreat

/- the program's Get of a map that has the Key answers what stands there, in memory of its own, and true; no condition. -/
namespace Go.Proofs.YtelpkcbbipianaaGreat
open Go Go.RowKit

theorem ret_nodeB {fn : Func} {i j : Nat} (hres : fn.results = #[ResultVar.cell i 27, ResultVar.tmp j]) {tmps : Array Value} {w : World} {b : Nat} {t : TypeId} {a0 a1 a2 a3 a4 v : Value}
    (ht : tmps[i]?.getD undef = .pointer (some ⟨b, 0, none⟩)) (hv : tmps[j]?.getD undef = v) (h : w.heap[b]? = some (.cells #[a0, a1, a2, a3, a4] t (0, 0))) : (results fn tmps).run Tryz.prog w = .ok (.tuple #[.agg #[a0, a1, a2, a3, a4], v]) w := by
  obtain ⟨c0, c1, c2, c3, c4, -⟩ := five h
  simp [results, hres, ht, hv, go_sem, c0, c1, c2, c3, c4]

theorem first_unique {ks : List ByteArray} {key : ByteArray} {i j : Nat} (hi : FirstAt ks key i) (hj : FirstAt ks key j) : i = j := (first_of hi).symm.trans (first_of hj)
theorem first_absent {ks : List ByteArray} {key : ByteArray} {i : Nat} (hi : FirstAt ks key i) (h : Absent ks key) : False := by
  obtain ⟨h1, h2, -⟩ := hi
  exact h i h1 h2

set_option maxRecDepth 100000 in
set_option maxHeartbeats 1600000 in
theorem impl_kidAt_yes (T X : RT) (key : ByteArray) (i : Nat) (hm : T.isMap) (hi : FirstAt T.keys key i) (hX : T.kids[i]? = some X) (w : World) (kv dv : Value) (F : List Nat) (hl : Lies w T kv dv F) :
    Calls Tryz.prog 18 #[.agg #[.int .i64 T.k, .int .i64 T.n, .string T.s, kv, dv], .string key] w fun e w' => ∃ kv' dv' F', e = .returned (.tuple #[.agg #[.int .i64 X.k, .int .i64 X.n, .string X.s, kv', dv'], .bool true]) ∧ Lies w' X kv' dv' F' ∧ Below w.heap.size w w' := by
  cases T with
  | node k n s keys kids =>
    obtain ⟨hk, hn, hs, FK, FD, hK, hD, -⟩ := hl.outn
    clear hl
    have h5 : k = 5 := hm.1
    have hlen : keys.length = kids.length := hm.2
    subst h5
    replace hX : kids[i]? = some X := hX
    replace hi : FirstAt keys key i := hi
    obtain ⟨hik, rfl⟩ := List.getElem?_eq_some_iff.1 hX
    have HX := Lib.hid (CBox.start w 27 (.int .i64 5) (.int .i64 n) (.string s) kv dv)
    have HIx : Hid (∀ wr, Below w.heap.size w wr → Calls Tryz.prog 34 #[kv, .string key] wr fun e w' => e = .returned (.int .i64 i) ∧ w' = wr) := fun wr hb => by
      refine (slices_index wr (hK.stay hb (Nat.le_refl _)) key).mono ?_
      rintro e w' ⟨⟨j, hj, rfl⟩ | ⟨ha, rfl⟩, rfl⟩
      · rw [first_unique hi hj]; exact ⟨rfl, rfl⟩
      · exact (first_absent hi ha).elim
    obtain ⟨ko, kc, rfl⟩ := hK.slice
    have HDec : Hid ((decide ((5 : Int) = 5) && decide (keys.length = kids.length)) = true) := Lib.hid (by simp [hlen])
    obtain ⟨o2, q2, b, off, FF, KV, DV, rfl, hlc2, hcm2, ho2, -, hcell2, hlies2, -⟩ := hD
    have HC := Lib.hid (fun (wx : World) (hb : Below w.heap.size w wx) => kid_cells (hcell2 i hik) hb)
    have HLi := Lib.hid (hlies2 i hik)
    have ho2 := ho2 (by omega)
    subst ho2
    obtain ⟨⟨os1, qs1, es1⟩, ⟨os2, qs2, es2⟩⟩ := (hlies2 i hik).slices
    have hj0 : (0 : Int) ≤ (i : Int) := by omega
    have hj1 : (i : Int) < (kids.length : Int) := by omega
    have hjn : ¬ ((i : Int) < 0) := by omega
    clear hcell2 hlies2 hX hi hm hK hlen
    generalize kids[i] = X at *
    generalize KV i = v1 at *
    generalize DV i = v2 at *
    subst es1 es2
    unfold maxLen at hcm2
    show Calls Tryz.prog 18 #[.agg #[.int .i64 5, .int .i64 n, .string s, .slice ko keys.length kc, .slice (some ⟨b, off, none⟩) kids.length q2], .string key] w _
    go_enter Tryz.func18, Tryz.ntmps18
    go_wp2_with (first
      | (go_at_call 31; refine (impl_isMap _ _ _ _ _ _ _ _ _ _).mono ?_; rintro e w1 ⟨rfl, hb⟩; rw [HDec.out]; replace HX := Lib.hid (HX.out.next hb); clear hb; obtain ⟨x0, x1, x2, x3, x4, -⟩ := five HX.out.box; obtain ⟨c0, c1, c2, c3, c4⟩ := HC.out w1 HX.out.below)
      | (go_at_call 34; refine (HIx.out _ HX.out.below).mono ?_; rintro e w2 ⟨rfl, e2⟩; subst e2; obtain ⟨z0, z1, z2, z3, z4, z5⟩ := five HX.out.res)
      | fail)
    have hb3 := set5_below HX.out.below (b := w.heap.size + 1) (by omega) 0 (.int .i64 X.k) (.int .i64 X.n) (.string X.s) (.slice os1 X.keys.length qs1) (.slice os2 X.kids.length qs2)
    exact bodyPost_ret (ret_nodeB Tryz.results18 rfl rfl (set5_end HX.out.res _ _ _ _ _)) rfl ⟨_, _, _, rfl, HLi.out.stay hb3 (Nat.le_refl _), hb3⟩

set_option maxRecDepth 100000 in
set_option maxHeartbeats 1600000 in
theorem impl_get_yes (T X : RT) (key : ByteArray) (i : Nat) (hm : T.isMap) (hi : FirstAt T.keys key i) (hX : T.kids[i]? = some X) (w : World) (kv dv : Value) (F : List Nat) (hl : Lies w T kv dv F) (hsz : T.sz ≤ 1048576) :
    Calls Tryz.prog 9 #[.agg #[.int .i64 T.k, .int .i64 T.n, .string T.s, kv, dv], .string key] w fun e w' => ∃ kv' dv' F', e = .returned (.tuple #[.agg #[.int .i64 X.k, .int .i64 X.n, .string X.s, kv', dv'], .bool true]) ∧ Lies w' X kv' dv' F' ∧ Fresh w w' F' ∧ Below w.heap.size w w' := by
  have HX := Lib.hid (CBox.start w 27 (.int .i64 T.k) (.int .i64 T.n) (.string T.s) kv dv)
  have HG := Lib.hid fun (wr : World) (hb : Below w.heap.size w wr) => impl_kidAt_yes T X key i hm hi hX wr kv dv F (hl.stay hb (Nat.le_refl _))
  have HSz : Hid (X.sz ≤ 1048576) := by
    cases T with
    | node k n s keys kids =>
      obtain ⟨hik, rfl⟩ := List.getElem?_eq_some_iff.1 (show kids[i]? = some X from hX)
      rw [RT.sz] at hsz
      exact Nat.le_trans (sz_take kids (List.getElem_mem hik)) (by omega)
  obtain ⟨⟨o1, q1, rfl⟩, ⟨o2, q2, rfl⟩⟩ := hl.slices
  clear hl hm hi hX hsz
  go_enter Tryz.func9, Tryz.ntmps9
  go_wp2_with fail
  refine (HG.out _ HX.out.below).mono ?_
  rintro e w1 ⟨kv1, dv1, F1, rfl, hl1, hb1⟩
  replace HX := Lib.hid (HX.out.next hb1)
  have HL1 := Lib.hid fun (wr : World) (hb : Below w1.heap.size w1 wr) => copy_node X wr kv1 dv1 F1 (hl1.stay hb (Nat.le_refl _)) HSz.out
  obtain ⟨⟨o3, q3, rfl⟩, ⟨o4, q4, rfl⟩⟩ := hl1.slices
  clear hl1 hb1
  go_wp2_with fail
  have hbA := (Below.refl _ w1).alloc (Nat.le_refl _) (.cells #[.int .i64 X.k, .int .i64 X.n, .string X.s, .slice o3 X.keys.length q3, .slice o4 X.kids.length q4] 27)
  refine (HL1.out _ hbA).mono ?_
  rintro e w3 ⟨kv3, dv3, F3, rfl, hl3, hf3, hb3, -, -⟩
  obtain ⟨⟨o5, q5, rfl⟩, ⟨o6, q6, rfl⟩⟩ := hl3.slices
  have hX3 := HX.out.next (hbA.trans (hb3.mono hbA.size))
  obtain ⟨z0, z1, z2, z3, z4, z5⟩ := five hX3.res
  have hfar : ∀ y ∈ F3, w.heap.size + 2 ≤ y := fun y hy => by
    have h1 := hf3.old y hy
    have h2 := HX.out.size
    have h3 := hbA.size
    omega
  have keep : ∀ y ∈ F3, (set5 w3 (w.heap.size + 1) 0 (.int .i64 X.k) (.int .i64 X.n) (.string X.s) (.slice o5 X.keys.length q5) (.slice o6 X.kids.length q6)).heap[y]? = w3.heap[y]? := fun y hy => set5_other _ _ _ _ _ _ _ _ _ (by have := hfar y hy; omega)
  have HE := Lib.hid (And.intro (set5_end hX3.res (.int .i64 X.k) (.int .i64 X.n) (.string X.s) (.slice o5 X.keys.length q5) (.slice o6 X.kids.length q6)) (And.intro (hl3.carry keep) (And.intro (show Fresh w _ F3 from ((hf3.carry keep).earlier (by have h2 := HX.out.below.size; have h3 := hbA.size; omega))) (set5_below hX3.below (b := w.heap.size + 1) (by omega) 0 (.int .i64 X.k) (.int .i64 X.n) (.string X.s) (.slice o5 X.keys.length q5) (.slice o6 X.kids.length q6)))))
  clear hl3 hf3 hb3 hbA hX3 keep hfar
  go_wp2
  exact bodyPost_ret (ret_nodeB Tryz.results9 rfl rfl HE.out.1) rfl ⟨_, _, _, rfl, HE.out.2⟩
end Go.Proofs.YtelpkcbbipianaaGreat
