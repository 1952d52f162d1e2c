/-
  What is proved: plain facts on lists of trees that are laid one behind the other by append.
-/
import Derived.Test.YtbcgkpkkhinkcaaTreeTo
import Derived.Test.YtbcgkpkkhinkcaaTreeOpen
import Derived.Deep.AppendLies
import Derived.Deep.RegionHeld3
import Derived.OwnWalk
import Derived.Deep.Upon
namespace Go.Proofs.Ytbcgkpkkhinkcaa
open Go Go.RowKit

/-- The cells of the first k of a list of trees. -/
def rowsOf (kids : List RT) (KV DV : Nat → Value) (k : Nat) : List Value := (List.range k).flatMap fun j => (kids.getD j default).row (KV j) (DV j)

theorem row_length (T : RT) (kv dv : Value) : (T.row kv dv).length = 5 := rfl

theorem rowsOf_succ (kids : List RT) (KV DV : Nat → Value) (k : Nat) : rowsOf kids KV DV (k + 1) = rowsOf kids KV DV k ++ (kids.getD k default).row (KV k) (DV k) := by
  unfold rowsOf
  rw [List.range_succ, List.flatMap_append]
  simp

theorem rowsOf_length (kids : List RT) (KV DV : Nat → Value) (k : Nat) : (rowsOf kids KV DV k).length = k * 5 := by
  induction k with
  | zero => rfl
  | succ k ih => rw [rowsOf_succ, List.length_append, ih, row_length]; omega

theorem rowsOf_get (kids : List RT) (KV DV : Nat → Value) (k i c : Nat) (hi : i < k) (hc : c < 5) : (rowsOf kids KV DV k)[i * 5 + c]? = ((kids.getD i default).row (KV i) (DV i))[c]? := by
  induction k with
  | zero => omega
  | succ k ih =>
    rw [rowsOf_succ]
    by_cases e : i < k
    · rw [List.getElem?_append_left (by rw [rowsOf_length]; omega)]
      exact ih e
    · have : i = k := by omega
      subst this
      rw [List.getElem?_append_right (by rw [rowsOf_length]; omega), rowsOf_length, Nat.add_sub_cancel_left]

theorem rowsOf_congr (kids : List RT) {KV DV KV' DV' : Nat → Value} {k : Nat} (h : ∀ j, j < k → KV j = KV' j ∧ DV j = DV' j) : rowsOf kids KV DV k = rowsOf kids KV' DV' k := by
  unfold rowsOf
  refine Go.Deep.flatMap_congr_range fun j hj => ?_
  rw [(h j hj).1, (h j hj).2]

theorem owns_below {w w' : World} {base : Nat} {e : TypeId} {size : Nat} {v : Value} {n : Nat} {xs : List Value} (h : w.ownsRow base e size v n xs) (hb : Below w.heap.size w w') : w'.ownsRow base e size v n xs := by
  refine ⟨h.1, ?_⟩
  rcases h.2 with h2 | ⟨g, cap, cur, hv, hg, hh, r⟩
  · exact .inl h2
  · have hlt : g < w.heap.size := (Array.getElem?_eq_some_iff.1 hh).1
    exact .inr ⟨g, cap, cur, hv, hg, (hb.block g hlt).trans hh, r⟩

/-- A list that a call owns: the whole of its block is its own; an empty one is nil. -/
def Whole (w : World) (base : Nat) (t : TypeId) (q : Nat) (v : Value) : Prop :=
  v = .slice none 0 0 ∨ ∃ g n cap cur, v = .slice (some ⟨g, 0, none⟩) n cap ∧ 0 < n ∧ base ≤ g ∧ w.heap[g]? = some (.cells cur t (0, 0)) ∧ n ≤ cap ∧ cap ≤ maxLen ∧ cur.size = cap * q

theorem Whole.carry {w w' : World} {base base' : Nat} {t : TypeId} {q : Nat} {v : Value} (h : Whole w base t q v) (hb : base' ≤ base) (hF : ∀ b, base ≤ b → b < w.heap.size → w'.heap[b]? = w.heap[b]?) : Whole w' base' t q v := by
  rcases h with h | ⟨g, n, cap, cur, h1, h2, h3, h4, h5⟩
  · exact .inl h
  · exact .inr ⟨g, n, cap, cur, h1, h2, by omega, (hF g h3 (Array.getElem?_eq_some_iff.1 h4).1).trans h4, h5⟩

theorem Whole.stay {w w' : World} {base : Nat} {t : TypeId} {q : Nat} {v : Value} (h : Whole w base t q v) (hb : Below w.heap.size w w') : Whole w' base t q v := h.carry (Nat.le_refl _) fun b _ hlt => hb.block b hlt

theorem Whole.of_owns {w : World} {base : Nat} {t : TypeId} {q : Nat} {v : Value} {n : Nat} {xs : List Value} (h : w.ownsRow base t q v n xs) (hn : n = 0 → v = .slice none 0 0) : Whole w base t q v := by
  rcases h.2 with ⟨h, _⟩ | ⟨g, cap, cur, h1, h2, h3, h4, h5, h6, -⟩
  · exact .inl h
  · by_cases h0 : n = 0
    · exact .inl (hn h0)
    · exact .inr ⟨g, n, cap, cur, h1, by omega, h2, h3, h4, h5, h6⟩

/-- The first k of a list of trees have been copied since w, and laid behind each other in the slice v; nothing has turned that lay there in w0. -/
structure LaidApp (t : TypeId) (w0 w wr : World) (kids : List RT) (k : Nat) (v : Value) (KV DV : Nat → Value) (FF : Nat → List Nat) : Prop where
  own : wr.ownsRow w.heap.size t 5 v k (rowsOf kids KV DV k)
  lie : ∀ j (h : j < kids.length), j < k → Lies wr kids[j] (KV j) (DV j) (FF j)
  fresh : Fresh w wr ((List.range k).flatMap FF)
  apart : ∀ g, v.ownBlock = some g → g ∉ (List.range k).flatMap FF
  below : Below w0.heap.size w0 wr
  size : w.heap.size ≤ wr.heap.size
  size0 : w0.heap.size ≤ w.heap.size
  nil : k = 0 → v = .slice none 0 0

theorem LaidApp.start (t : TypeId) {w0 w wr : World} (kids : List RT) (hb : Below w0.heap.size w0 wr) (hs : w.heap.size ≤ wr.heap.size) (h0 : w0.heap.size ≤ w.heap.size) : LaidApp t w0 w wr kids 0 (.slice none 0 0) (fun _ => .bool true) (fun _ => .bool true) (fun _ => []) :=
  ⟨⟨rfl, .inl ⟨rfl, rfl⟩⟩, fun _ _ h => absurd h (by omega), Fresh.nil _ _, fun _ h => by simp [Value.ownBlock] at h, hb, hs, h0, fun _ => rfl⟩

section
variable {t : TypeId} {w0 w wr w' : World} {kids : List RT} {k : Nat} {v : Value} {KV DV : Nat → Value} {FF : Nat → List Nat}

theorem LaidApp.lt (h : LaidApp t w0 w wr kids k v KV DV FF) (hk : k ≤ kids.length) : ∀ b ∈ (List.range k).flatMap FF, b < wr.heap.size := fun b hb => by
  obtain ⟨j, hj, hbj⟩ := List.mem_flatMap.1 hb
  have := List.mem_range.1 hj
  exact (h.lie j (by omega) this).lt b hbj

theorem LaidApp.ownlt (h : LaidApp t w0 w wr kids k v KV DV FF) : ∀ b, v.ownBlock = some b → w.heap.size ≤ b ∧ b < wr.heap.size := fun b e => by
  rcases h.own.2 with ⟨rfl, _⟩ | ⟨g', cap', cur, rfl, hg, hh, _⟩
  · simp [Value.ownBlock] at e
  · have : g' = b := by simpa [Value.ownBlock] using e
    subst this
    exact ⟨hg, (Array.getElem?_eq_some_iff.1 hh).1⟩

theorem LaidApp.slice (h : LaidApp t w0 w wr kids k v KV DV FF) : ∃ o c, v = .slice o k c := by
  rcases h.own.2 with ⟨rfl, e⟩ | ⟨g', cap', cur, rfl, hg, hh, _⟩
  · exact ⟨none, 0, by rw [e]⟩
  · exact ⟨_, _, rfl⟩

theorem LaidApp.stay (h : LaidApp t w0 w wr kids k v KV DV FF) (hk : k ≤ kids.length) (hb : Below wr.heap.size wr w') : LaidApp t w0 w w' kids k v KV DV FF :=
  ⟨owns_below h.own hb, fun j hj hjk => (h.lie j hj hjk).stay hb (Nat.le_refl _), h.fresh.carry fun b hbF => hb.block b (h.lt hk b hbF), h.apart, h.below.trans (hb.mono h.below.size), Nat.le_trans h.size hb.size, h.size0, h.nil⟩

/-- A store into a block that was there in w, but not in w0. -/
theorem LaidApp.set (h : LaidApp t w0 w wr kids k v KV DV FF) {p : Addr} (hp : p.block < w.heap.size) (hp0 : w0.heap.size ≤ p.block) (u : Value) : LaidApp t w0 w (wr.setCell p u) kids k v KV DV FF := by
  have keep : ∀ b, w.heap.size ≤ b → (wr.setCell p u).heap[b]? = wr.heap[b]? := fun b hb => Below.heap_setCell _ _ _ _ (by omega)
  refine ⟨⟨h.own.1, ?_⟩, fun j hj hjk => (h.lie j hj hjk).carry fun b hbF => keep b (h.fresh.old b (List.mem_flatMap.2 ⟨j, List.mem_range.2 hjk, hbF⟩)), h.fresh.carry fun b hbF => keep b (h.fresh.old b hbF), h.apart, h.below.setCell hp0 _, by simpa [World.setCell] using h.size, h.size0, h.nil⟩
  rcases h.own.2 with h2 | ⟨g, cap, cur, hv, hg, hh, r⟩
  · exact .inl h2
  · exact .inr ⟨g, cap, cur, hv, hg, (keep g hg).trans hh, r⟩
end

/-- One more: copied into w1, laid behind the others. -/
theorem LaidApp.step {t : TypeId} {w0 w wr w1 w2 w3 : World} {kids : List RT} {k : Nat} {v : Value} {KV DV : Nat → Value} {FF : Nat → List Nat} (h : LaidApp t w0 w wr kids k v KV DV FF) (hk : k < kids.length)
    (hb1 : Below wr.heap.size wr w1) {kv dv : Value} {F : List Nat} (hl : Lies w1 kids[k] kv dv F) (hf : Fresh wr w1 F) (hb2 : Below w1.heap.size w1 w2)
    {g cap : Nat} (hgrow : w2.grownBy w3 v.ownBlock) (hown : w3.ownsRow w.heap.size t 5 (.slice (some ⟨g, 0, none⟩) (k + 1) cap) (k + 1) (rowsOf kids KV DV k ++ kids[k].row kv dv)) (hat : v.ownBlock = some g ∨ g = w2.heap.size) :
    LaidApp t w0 w w3 kids (k + 1) (.slice (some ⟨g, 0, none⟩) (k + 1) cap) (fun j => if j = k then kv else KV j) (fun j => if j = k then dv else DV j) (fun j => if j = k then F else FF j) := by
  have hbw := hb1.trans (hb2.mono hb1.size)
  have hold := h.lt (by omega)
  have hvb : ∀ b, b < wr.heap.size → b ∈ (List.range k).flatMap FF → some b ≠ v.ownBlock := fun b _ hbF e => h.apart b e.symm hbF
  have keep : ∀ b ∈ (List.range k).flatMap FF, w3.heap[b]? = wr.heap[b]? := fun b hbF => by
    have hlt := hold b hbF
    rw [hgrow.block b (by have := hbw.size; omega) (hvb b hlt hbF), hbw.block b hlt]
  have keepN : ∀ b ∈ F, w3.heap[b]? = w1.heap[b]? := fun b hbF => by
    have hlt := hl.lt b hbF
    have hge := hf.old b hbF
    rw [hgrow.block b (by have := hb2.size; omega) (fun e => by have := (h.ownlt b e.symm).2; omega), hb2.block b hlt]
  refine ⟨?_, fun j hj hjk => ?_, ?_, fun g' hg' => ?_, ?_, ?_, h.size0, fun h0 => absurd h0 (by omega)⟩
  · rw [rowsOf_succ]
    have e1 : rowsOf kids (fun j => if j = k then kv else KV j) (fun j => if j = k then dv else DV j) k = rowsOf kids KV DV k := rowsOf_congr kids fun j hj => ⟨if_neg (by omega), if_neg (by omega)⟩
    have e2 : kids.getD k default = kids[k] := by simp [List.getD, List.getElem?_eq_getElem hk]
    rw [e1, e2]
    simp only [if_true]
    exact hown
  · by_cases e : j = k
    · subst e
      simp only [if_true]
      exact hl.carry keepN
    · simp only [e, if_false]
      exact (h.lie j hj (by omega)).carry fun b hbF => keep b (List.mem_flatMap.2 ⟨j, List.mem_range.2 (by omega), hbF⟩)
  · rw [flat_succ]
    exact (h.fresh.carry keep).append hold (hf.carry keepN) h.size
  · rw [flat_succ]
    have eg : g' = g := by simpa [Value.ownBlock] using hg'.symm
    subst eg
    intro hm
    rcases List.mem_append.1 hm with hm | hm
    · rcases hat with e | e
      · exact h.apart _ e hm
      · have := hold _ hm
        have := hbw.size
        omega
    · have h1 := hl.lt _ hm
      have h2 := hf.old _ hm
      rcases hat with e | e
      · have := (h.ownlt _ e).2; omega
      · have := hb2.size; omega
  · exact (h.below.trans (hbw.mono h.below.size)).grown hgrow (Nat.le_trans h.below.size hbw.size) (fun b e => Nat.le_trans h.size0 (h.ownlt b e).1)
  · exact Nat.le_trans h.size (Nat.le_trans hbw.size hgrow.size)

theorem LaidApp.whole {t : TypeId} {w0 w wr : World} {kids : List RT} {k : Nat} {v : Value} {KV DV : Nat → Value} {FF : Nat → List Nat} (h : LaidApp t w0 w wr kids k v KV DV FF) : Whole wr w.heap.size t 5 v := .of_owns h.own h.nil

theorem LaidApp.done {t : TypeId} {w0 w wr : World} {kids : List RT} {v : Value} {KV DV : Nat → Value} {FF : Nat → List Nat} (h : LaidApp t w0 w wr kids kids.length v KV DV FF) :
    ∃ F, KidsLie wr v kids F ∧ Fresh w wr F ∧ Below w0.heap.size w0 wr := by
  rcases h.own.2 with ⟨rfl, h0⟩ | ⟨g, cap, cur, rfl, hg, hh, hnc, hcm, hsz, htk⟩
  · have e : kids = [] := List.length_eq_zero_iff.1 h0
    subst e
    exact ⟨[], ⟨none, 0, 0, 0, fun _ => [], fun _ => .bool true, fun _ => .bool true, rfl, Nat.le_refl _, Nat.zero_le _, fun h => absurd h (by simp), rfl, fun i hi => absurd hi (by simp), fun i hi => absurd hi (by simp), Room.nil _ _ _⟩, Fresh.nil _ _, h.below⟩
  · refine ⟨_, ⟨_, cap, g, 0, FF, KV, DV, rfl, hnc, hcm, fun _ => rfl, rfl, fun i hi j hj => ?_, fun i hi => h.lie i hi hi, room_of hh (by omega)⟩, ?_, h.below⟩
    · have hget := rowsOf_get kids KV DV kids.length i j hi hj
      rw [← htk, List.getElem?_take_of_lt (by omega)] at hget
      rw [Nat.zero_add, cell_of hh]
      have e2 : kids.getD i default = kids[i] := by simp [List.getD, List.getElem?_eq_getElem hi]
      rw [e2] at hget
      simpa using hget
    · split
      · simpa using h.fresh
      · refine ⟨?_, ?_, ?_⟩
        · simp only [List.singleton_append, List.nodup_cons]
          exact ⟨h.apart g rfl, h.fresh.nodup⟩
        · intro b hbF
          rcases List.mem_append.1 hbF with hbF | hbF
          · simp at hbF; omega
          · exact h.fresh.old b hbF
        · intro b hbF o
          rcases List.mem_append.1 hbF with hbF | hbF
          · simp at hbF; subst hbF; simp [World.frozen?, hh]
          · exact h.fresh.free b hbF o

end Go.Proofs.Ytbcgkpkkhinkcaa
