/-
  What is proved: plain facts on the map of the Keys that were seen: which Keys stand in it; one that does not is not found; one more is put in.; plain facts on lists of trees that are laid one behind the other by append.; the program's copyTrees and copyTree lay the same trees into new memory.; plain facts on one element that is put into a row that a call owns: Go's copy at any size of element, and what slices.Insert leaves of the row, in its place or in a new one.
-/
import Derived.Test.YtmcjghhmcmkomaaGreatDoorPartAA
import Derived.MapKept
import Derived.Test.YtmcjghhmcmkomaaGreatDoorPartAC
import Derived.Deep.AppendLies
import Derived.Deep.RegionHeld3
import Derived.OwnWalk
import Derived.Deep.Upon
import Derived.Laws.CopyRow
import Derived.Laws.NewBlocks
import Derived.Lib.Overlaps
import Derived.Lib.AppendZerosOnto
import Derived.Laws.Externs
import Derived.Shelf.Spec.SlicesInsert
/- plain facts on the map of the Keys that were seen: which Keys stand in it; one that does not is not found; one more is put in. -/
namespace Go.Proofs.YtmcjghhmcmkomaaGreatDoor
open Go Go.RowKit Go.MapKept

/-- The map in this block has these Keys. -/
def Seen (w : World) (mb : Nat) (keys : List ByteArray) : Prop := ∃ (es : Array MapEntry) (clock : Nat), w.heap[mb]? = some (.map es clock) ∧ es.toList.map (·.key) = keys.map Value.string ∧ ∀ e ∈ es.toList, e.born < clock

theorem Seen.start (w : World) : Seen (w.alloc (.map #[] 0)) w.heap.size [] := ⟨#[], 0, by show (w.heap.push _)[w.heap.size]? = _; simp, rfl, fun e he => by simp at he⟩

theorem Seen.same {w w1 : World} {mb : Nat} {keys : List ByteArray} (h : Seen w mb keys) (hb : w1.heap[mb]? = w.heap[mb]?) : Seen w1 mb keys := by
  obtain ⟨es, c, h1, h2⟩ := h
  exact ⟨es, c, hb.trans h1, h2⟩

theorem Seen.lt {w : World} {mb : Nat} {keys : List ByteArray} (h : Seen w mb keys) : mb < w.heap.size := by
  obtain ⟨es, c, h1, -⟩ := h
  exact (Array.getElem?_eq_some_iff.1 h1).1

theorem find_no (key : ByteArray) : ∀ (l : List MapEntry) (keys : List ByteArray) (i : Nat), l.map (·.key) = keys.map Value.string → key ∉ keys → Instr.findNow .string (.string key) l i = some none
  | [], _, _, _, _ => rfl
  | e :: l, [], _, h, _ => by simp at h
  | e :: l, k :: keys, i, h, hn => by
    simp only [List.map_cons, List.cons.injEq] at h
    have hk : key ≠ k := fun e => hn (by rw [e]; exact List.mem_cons_self ..)
    have hb : (key == k) = false := by
      rw [Bool.eq_false_iff]
      intro h
      have h' : (key.data == k.data) = true := h
      exact hk (ByteArray.ext (eq_of_beq h'))
    unfold Instr.findNow
    rw [h.1]
    simp only [Instr.sameNow, hb]
    exact find_no key l keys (i + 1) h.2 (fun hm => hn (List.mem_cons_of_mem _ hm))

section
variable {w : World} {mb : Nat} {keys : List ByteArray} {key : ByteArray}

theorem seen_lookup (h : Seen w mb keys) (hn : key ∉ keys) : (Instr.lookup 138 (.map (some mb)) (.string key) true).run Tryz.prog w = .ok (.tuple #[.int .i64 0, .bool false]) w := by
  obtain ⟨es, c, h1, h2, -⟩ := h
  have hf := find_no key es.toList keys 0 h2 hn
  have hk : IsKey .string (.string key) := trivial
  simp [Instr.lookup, run_underlying Tryz.underlying138, Go.MapKept.run_getObj_map h1, Go.MapKept.run_checkKey Tryz.underlying9 hk, Go.MapKept.run_findKey Tryz.underlying9 hf, Tryz.zeroValue3, Result.andThen]

theorem seen_entry (h : Seen w mb keys) (hn : key ∉ keys) : ∃ (st : Int) (w1 : World), (Instr.mapEntry 138 (.map (some mb)) (.string key)).run Tryz.prog w = .ok (.tuple #[.int .i64 0, .int .i64 st]) w1 ∧ w.grownBy w1 (some mb) ∧
    ∀ (w2 : World) (x : Int), w2.heap[mb]? = w1.heap[mb]? → ∃ w3, (Instr.entryStore 138 (.map (some mb)) (.int .i64 st) (.int .i64 x)).run Tryz.prog w2 = .ok () w3 ∧ w2.grownBy w3 (some mb) ∧ Seen w3 mb (keys ++ [key]) := by
  obtain ⟨es, c, h1, h2, h3⟩ := h
  have hf := find_no key es.toList keys 0 h2 hn
  have hk : IsKey .string (.string key) := trivial
  refine ⟨(c : Int), { w with heap := w.heap.setIfInBounds mb (.map (es.push { key := .string key, val := .int .i64 0, born := c }) (c + 1)) }, ?_, ?_, ?_⟩
  · simp [Instr.mapEntry, run_underlying Tryz.underlying138, Go.MapKept.run_getObj_map h1, Go.MapKept.run_checkKey Tryz.underlying9 hk, Go.MapKept.run_findKey Tryz.underlying9 hf, Tryz.zeroValue3, Go.MapKept.run_setObj_map _ h1, Result.andThen, goInt]
  · refine ⟨rfl, rfl, rfl, by simp, fun k _ hk => ?_⟩
    show (w.heap.setIfInBounds mb _)[k]? = _
    rw [Array.getElem?_setIfInBounds_ne (by intro e; exact hk (by rw [e]))]
  · intro w2 x hw
    have hmb : mb < w.heap.size := (Array.getElem?_eq_some_iff.1 h1).1
    have h4 : w2.heap[mb]? = some (.map (es.push { key := .string key, val := .int .i64 0, born := c }) (c + 1)) := by
      rw [hw]
      show (w.heap.setIfInBounds mb _)[mb]? = _
      simp [hmb]
    have hmb2 : mb < w2.heap.size := (Array.getElem?_eq_some_iff.1 h4).1
    have hi : (es.push { key := .string key, val := .int .i64 0, born := c }).findIdx? (fun e => (e.born : Int) == (c : Int)) = some es.size := by
      rw [Array.findIdx?_push]
      have : es.findIdx? (fun e => (e.born : Int) == (c : Int)) = none := by
        rw [Array.findIdx?_eq_none_iff]
        intro e he
        have := h3 e (by simpa using he)
        simp; omega
      simp [this]
    refine ⟨{ w2 with heap := w2.heap.setIfInBounds mb (.map ((es.push { key := .string key, val := .int .i64 0, born := c }).modify es.size fun e => { e with val := .int .i64 x }) (c + 1)) }, ?_, ?_, ?_⟩
    · simp [Instr.entryStore, Go.MapKept.run_getObj_map h4, asInt, asIntOf, hi, Go.MapKept.run_setObj_map _ h4, Result.andThen]
    · refine ⟨rfl, rfl, rfl, by simp, fun k _ hk => ?_⟩
      show (w2.heap.setIfInBounds mb _)[k]? = _
      rw [Array.getElem?_setIfInBounds_ne (by intro e; exact hk (by rw [e]))]
    · have hl : ((es.push { key := .string key, val := .int .i64 0, born := c }).modify es.size fun e => { e with val := .int .i64 x }).toList = es.toList ++ [{ key := .string key, val := .int .i64 x, born := c }] := by
        apply List.ext_getElem?
        intro j
        rw [Array.getElem?_toList, Array.getElem?_modify, Array.getElem?_push]
        by_cases hj : j = es.size
        · subst hj
          simp
        · rw [if_neg (fun e => hj e.symm), if_neg hj]
          by_cases hlt : j < es.size
          · rw [List.getElem?_append_left (by simpa using hlt)]; simp
          · rw [Array.getElem?_eq_none (by omega), List.getElem?_eq_none (by simp; omega)]
      refine ⟨(es.push { key := .string key, val := .int .i64 0, born := c }).modify es.size fun e => { e with val := .int .i64 x }, c + 1, by show (w2.heap.setIfInBounds mb _)[mb]? = _; simp [hmb2], ?_, fun e he => ?_⟩
      · rw [hl]
        simp [h2]
      · rw [hl] at he
        rcases List.mem_append.1 he with he | he
        · have := h3 e he; omega
        · rw [List.mem_singleton] at he
          subst he
          exact Nat.lt_succ_self _
end
end Go.Proofs.YtmcjghhmcmkomaaGreatDoor

/- plain facts on lists of trees that are laid one behind the other by append. -/
namespace Go.Proofs.YtmcjghhmcmkomaaGreatDoor
open Go Go.RowKit

/-- The cells of the first k of a list of trees. -/
def rowsOf (kids : List RT) (KV DV : Nat → Value) (k : Nat) : List Value := (List.range k).flatMap fun j => (kids.getD j default).row (KV j) (DV j)

theorem row_length (T : RT) (kv dv : Value) : (T.row kv dv).length = 5 := rfl

theorem rowsOf_succ (kids : List RT) (KV DV : Nat → Value) (k : Nat) : rowsOf kids KV DV (k + 1) = rowsOf kids KV DV k ++ (kids.getD k default).row (KV k) (DV k) := by
  unfold rowsOf
  rw [List.range_succ, List.flatMap_append]
  simp

theorem rowsOf_length (kids : List RT) (KV DV : Nat → Value) (k : Nat) : (rowsOf kids KV DV k).length = k * 5 := by
  induction k with
  | zero => rfl
  | succ k ih => rw [rowsOf_succ, List.length_append, ih, row_length]; omega

theorem rowsOf_get (kids : List RT) (KV DV : Nat → Value) (k i c : Nat) (hi : i < k) (hc : c < 5) : (rowsOf kids KV DV k)[i * 5 + c]? = ((kids.getD i default).row (KV i) (DV i))[c]? := by
  induction k with
  | zero => omega
  | succ k ih =>
    rw [rowsOf_succ]
    by_cases e : i < k
    · rw [List.getElem?_append_left (by rw [rowsOf_length]; omega)]
      exact ih e
    · have : i = k := by omega
      subst this
      rw [List.getElem?_append_right (by rw [rowsOf_length]; omega), rowsOf_length, Nat.add_sub_cancel_left]

theorem rowsOf_congr (kids : List RT) {KV DV KV' DV' : Nat → Value} {k : Nat} (h : ∀ j, j < k → KV j = KV' j ∧ DV j = DV' j) : rowsOf kids KV DV k = rowsOf kids KV' DV' k := by
  unfold rowsOf
  refine Go.Deep.flatMap_congr_range fun j hj => ?_
  rw [(h j hj).1, (h j hj).2]

theorem owns_below {w w' : World} {base : Nat} {e : TypeId} {size : Nat} {v : Value} {n : Nat} {xs : List Value} (h : w.ownsRow base e size v n xs) (hb : Below w.heap.size w w') : w'.ownsRow base e size v n xs := by
  refine ⟨h.1, ?_⟩
  rcases h.2 with h2 | ⟨g, cap, cur, hv, hg, hh, r⟩
  · exact .inl h2
  · have hlt : g < w.heap.size := (Array.getElem?_eq_some_iff.1 hh).1
    exact .inr ⟨g, cap, cur, hv, hg, (hb.block g hlt).trans hh, r⟩

/-- A list that a call owns: the whole of its block is its own; an empty one is nil. -/
def Whole (w : World) (base : Nat) (t : TypeId) (q : Nat) (v : Value) : Prop :=
  v = .slice none 0 0 ∨ ∃ g n cap cur, v = .slice (some ⟨g, 0, none⟩) n cap ∧ 0 < n ∧ base ≤ g ∧ w.heap[g]? = some (.cells cur t (0, 0)) ∧ n ≤ cap ∧ cap ≤ maxLen ∧ cur.size = cap * q

theorem Whole.carry {w w' : World} {base base' : Nat} {t : TypeId} {q : Nat} {v : Value} (h : Whole w base t q v) (hb : base' ≤ base) (hF : ∀ b, base ≤ b → b < w.heap.size → w'.heap[b]? = w.heap[b]?) : Whole w' base' t q v := by
  rcases h with h | ⟨g, n, cap, cur, h1, h2, h3, h4, h5⟩
  · exact .inl h
  · exact .inr ⟨g, n, cap, cur, h1, h2, by omega, (hF g h3 (Array.getElem?_eq_some_iff.1 h4).1).trans h4, h5⟩

theorem Whole.stay {w w' : World} {base : Nat} {t : TypeId} {q : Nat} {v : Value} (h : Whole w base t q v) (hb : Below w.heap.size w w') : Whole w' base t q v := h.carry (Nat.le_refl _) fun b _ hlt => hb.block b hlt

theorem Whole.of_owns {w : World} {base : Nat} {t : TypeId} {q : Nat} {v : Value} {n : Nat} {xs : List Value} (h : w.ownsRow base t q v n xs) (hn : n = 0 → v = .slice none 0 0) : Whole w base t q v := by
  rcases h.2 with ⟨h, _⟩ | ⟨g, cap, cur, h1, h2, h3, h4, h5, h6, -⟩
  · exact .inl h
  · by_cases h0 : n = 0
    · exact .inl (hn h0)
    · exact .inr ⟨g, n, cap, cur, h1, by omega, h2, h3, h4, h5, h6⟩

/-- The first k of a list of trees have been copied since w, and laid behind each other in the slice v; nothing has turned that lay there in w0. -/
structure LaidApp (t : TypeId) (w0 w wr : World) (kids : List RT) (k : Nat) (v : Value) (KV DV : Nat → Value) (FF : Nat → List Nat) : Prop where
  own : wr.ownsRow w.heap.size t 5 v k (rowsOf kids KV DV k)
  lie : ∀ j (h : j < kids.length), j < k → Lies wr kids[j] (KV j) (DV j) (FF j)
  fresh : Fresh w wr ((List.range k).flatMap FF)
  apart : ∀ g, v.ownBlock = some g → g ∉ (List.range k).flatMap FF
  below : Below w0.heap.size w0 wr
  size : w.heap.size ≤ wr.heap.size
  size0 : w0.heap.size ≤ w.heap.size
  nil : k = 0 → v = .slice none 0 0

theorem LaidApp.start (t : TypeId) {w0 w wr : World} (kids : List RT) (hb : Below w0.heap.size w0 wr) (hs : w.heap.size ≤ wr.heap.size) (h0 : w0.heap.size ≤ w.heap.size) : LaidApp t w0 w wr kids 0 (.slice none 0 0) (fun _ => .bool true) (fun _ => .bool true) (fun _ => []) :=
  ⟨⟨rfl, .inl ⟨rfl, rfl⟩⟩, fun _ _ h => absurd h (by omega), Fresh.nil _ _, fun _ h => by simp [Value.ownBlock] at h, hb, hs, h0, fun _ => rfl⟩

section
variable {t : TypeId} {w0 w wr w' : World} {kids : List RT} {k : Nat} {v : Value} {KV DV : Nat → Value} {FF : Nat → List Nat}

theorem LaidApp.lt (h : LaidApp t w0 w wr kids k v KV DV FF) (hk : k ≤ kids.length) : ∀ b ∈ (List.range k).flatMap FF, b < wr.heap.size := fun b hb => by
  obtain ⟨j, hj, hbj⟩ := List.mem_flatMap.1 hb
  have := List.mem_range.1 hj
  exact (h.lie j (by omega) this).lt b hbj

theorem LaidApp.ownlt (h : LaidApp t w0 w wr kids k v KV DV FF) : ∀ b, v.ownBlock = some b → w.heap.size ≤ b ∧ b < wr.heap.size := fun b e => by
  rcases h.own.2 with ⟨rfl, _⟩ | ⟨g', cap', cur, rfl, hg, hh, _⟩
  · simp [Value.ownBlock] at e
  · have : g' = b := by simpa [Value.ownBlock] using e
    subst this
    exact ⟨hg, (Array.getElem?_eq_some_iff.1 hh).1⟩

theorem LaidApp.slice (h : LaidApp t w0 w wr kids k v KV DV FF) : ∃ o c, v = .slice o k c := by
  rcases h.own.2 with ⟨rfl, e⟩ | ⟨g', cap', cur, rfl, hg, hh, _⟩
  · exact ⟨none, 0, by rw [e]⟩
  · exact ⟨_, _, rfl⟩

theorem LaidApp.stay (h : LaidApp t w0 w wr kids k v KV DV FF) (hk : k ≤ kids.length) (hb : Below wr.heap.size wr w') : LaidApp t w0 w w' kids k v KV DV FF :=
  ⟨owns_below h.own hb, fun j hj hjk => (h.lie j hj hjk).stay hb (Nat.le_refl _), h.fresh.carry fun b hbF => hb.block b (h.lt hk b hbF), h.apart, h.below.trans (hb.mono h.below.size), Nat.le_trans h.size hb.size, h.size0, h.nil⟩

/-- A store into a block that was there in w, but not in w0. -/
theorem LaidApp.set (h : LaidApp t w0 w wr kids k v KV DV FF) {p : Addr} (hp : p.block < w.heap.size) (hp0 : w0.heap.size ≤ p.block) (u : Value) : LaidApp t w0 w (wr.setCell p u) kids k v KV DV FF := by
  have keep : ∀ b, w.heap.size ≤ b → (wr.setCell p u).heap[b]? = wr.heap[b]? := fun b hb => Below.heap_setCell _ _ _ _ (by omega)
  refine ⟨⟨h.own.1, ?_⟩, fun j hj hjk => (h.lie j hj hjk).carry fun b hbF => keep b (h.fresh.old b (List.mem_flatMap.2 ⟨j, List.mem_range.2 hjk, hbF⟩)), h.fresh.carry fun b hbF => keep b (h.fresh.old b hbF), h.apart, h.below.setCell hp0 _, by simpa [World.setCell] using h.size, h.size0, h.nil⟩
  rcases h.own.2 with h2 | ⟨g, cap, cur, hv, hg, hh, r⟩
  · exact .inl h2
  · exact .inr ⟨g, cap, cur, hv, hg, (keep g hg).trans hh, r⟩
end

/-- One more: copied into w1, laid behind the others. -/
theorem LaidApp.step {t : TypeId} {w0 w wr w1 w2 w3 : World} {kids : List RT} {k : Nat} {v : Value} {KV DV : Nat → Value} {FF : Nat → List Nat} (h : LaidApp t w0 w wr kids k v KV DV FF) (hk : k < kids.length)
    (hb1 : Below wr.heap.size wr w1) {kv dv : Value} {F : List Nat} (hl : Lies w1 kids[k] kv dv F) (hf : Fresh wr w1 F) (hb2 : Below w1.heap.size w1 w2)
    {g cap : Nat} (hgrow : w2.grownBy w3 v.ownBlock) (hown : w3.ownsRow w.heap.size t 5 (.slice (some ⟨g, 0, none⟩) (k + 1) cap) (k + 1) (rowsOf kids KV DV k ++ kids[k].row kv dv)) (hat : v.ownBlock = some g ∨ g = w2.heap.size) :
    LaidApp t w0 w w3 kids (k + 1) (.slice (some ⟨g, 0, none⟩) (k + 1) cap) (fun j => if j = k then kv else KV j) (fun j => if j = k then dv else DV j) (fun j => if j = k then F else FF j) := by
  have hbw := hb1.trans (hb2.mono hb1.size)
  have hold := h.lt (by omega)
  have hvb : ∀ b, b < wr.heap.size → b ∈ (List.range k).flatMap FF → some b ≠ v.ownBlock := fun b _ hbF e => h.apart b e.symm hbF
  have keep : ∀ b ∈ (List.range k).flatMap FF, w3.heap[b]? = wr.heap[b]? := fun b hbF => by
    have hlt := hold b hbF
    rw [hgrow.block b (by have := hbw.size; omega) (hvb b hlt hbF), hbw.block b hlt]
  have keepN : ∀ b ∈ F, w3.heap[b]? = w1.heap[b]? := fun b hbF => by
    have hlt := hl.lt b hbF
    have hge := hf.old b hbF
    rw [hgrow.block b (by have := hb2.size; omega) (fun e => by have := (h.ownlt b e.symm).2; omega), hb2.block b hlt]
  refine ⟨?_, fun j hj hjk => ?_, ?_, fun g' hg' => ?_, ?_, ?_, h.size0, fun h0 => absurd h0 (by omega)⟩
  · rw [rowsOf_succ]
    have e1 : rowsOf kids (fun j => if j = k then kv else KV j) (fun j => if j = k then dv else DV j) k = rowsOf kids KV DV k := rowsOf_congr kids fun j hj => ⟨if_neg (by omega), if_neg (by omega)⟩
    have e2 : kids.getD k default = kids[k] := by simp [List.getD, List.getElem?_eq_getElem hk]
    rw [e1, e2]
    simp only [if_true]
    exact hown
  · by_cases e : j = k
    · subst e
      simp only [if_true]
      exact hl.carry keepN
    · simp only [e, if_false]
      exact (h.lie j hj (by omega)).carry fun b hbF => keep b (List.mem_flatMap.2 ⟨j, List.mem_range.2 (by omega), hbF⟩)
  · rw [flat_succ]
    exact (h.fresh.carry keep).append hold (hf.carry keepN) h.size
  · rw [flat_succ]
    have eg : g' = g := by simpa [Value.ownBlock] using hg'.symm
    subst eg
    intro hm
    rcases List.mem_append.1 hm with hm | hm
    · rcases hat with e | e
      · exact h.apart _ e hm
      · have := hold _ hm
        have := hbw.size
        omega
    · have h1 := hl.lt _ hm
      have h2 := hf.old _ hm
      rcases hat with e | e
      · have := (h.ownlt _ e).2; omega
      · have := hb2.size; omega
  · exact (h.below.trans (hbw.mono h.below.size)).grown hgrow (Nat.le_trans h.below.size hbw.size) (fun b e => Nat.le_trans h.size0 (h.ownlt b e).1)
  · exact Nat.le_trans h.size (Nat.le_trans hbw.size hgrow.size)

theorem LaidApp.whole {t : TypeId} {w0 w wr : World} {kids : List RT} {k : Nat} {v : Value} {KV DV : Nat → Value} {FF : Nat → List Nat} (h : LaidApp t w0 w wr kids k v KV DV FF) : Whole wr w.heap.size t 5 v := .of_owns h.own h.nil

theorem LaidApp.done {t : TypeId} {w0 w wr : World} {kids : List RT} {v : Value} {KV DV : Nat → Value} {FF : Nat → List Nat} (h : LaidApp t w0 w wr kids kids.length v KV DV FF) :
    ∃ F, KidsLie wr v kids F ∧ Fresh w wr F ∧ Below w0.heap.size w0 wr := by
  rcases h.own.2 with ⟨rfl, h0⟩ | ⟨g, cap, cur, rfl, hg, hh, hnc, hcm, hsz, htk⟩
  · have e : kids = [] := List.length_eq_zero_iff.1 h0
    subst e
    exact ⟨[], ⟨none, 0, 0, 0, fun _ => [], fun _ => .bool true, fun _ => .bool true, rfl, Nat.le_refl _, Nat.zero_le _, fun h => absurd h (by simp), rfl, fun i hi => absurd hi (by simp), fun i hi => absurd hi (by simp), Room.nil _ _ _⟩, Fresh.nil _ _, h.below⟩
  · refine ⟨_, ⟨_, cap, g, 0, FF, KV, DV, rfl, hnc, hcm, fun _ => rfl, rfl, fun i hi j hj => ?_, fun i hi => h.lie i hi hi, room_of hh (by omega)⟩, ?_, h.below⟩
    · have hget := rowsOf_get kids KV DV kids.length i j hi hj
      rw [← htk, List.getElem?_take_of_lt (by omega)] at hget
      rw [Nat.zero_add, cell_of hh]
      have e2 : kids.getD i default = kids[i] := by simp [List.getD, List.getElem?_eq_getElem hi]
      rw [e2] at hget
      simpa using hget
    · split
      · simpa using h.fresh
      · refine ⟨?_, ?_, ?_⟩
        · simp only [List.singleton_append, List.nodup_cons]
          exact ⟨h.apart g rfl, h.fresh.nodup⟩
        · intro b hbF
          rcases List.mem_append.1 hbF with hbF | hbF
          · simp at hbF; omega
          · exact h.fresh.old b hbF
        · intro b hbF o
          rcases List.mem_append.1 hbF with hbF | hbF
          · simp at hbF; subst hbF; simp [World.frozen?, hh]
          · exact h.fresh.free b hbF o

end Go.Proofs.YtmcjghhmcmkomaaGreatDoor

/- the program's copyTrees and copyTree lay the same trees into new memory. -/
namespace Go.Proofs.YtmcjghhmcmkomaaGreatDoor
open Go Go.RowKit

/-! ### A node copied whole -/

/-- The block of what a function was handed, and the block of what it answers. -/
structure CBox (w wr : World) (t : TypeId) (a b c d e : Value) : Prop where
  below : Below w.heap.size w wr
  size : w.heap.size + 2 ≤ wr.heap.size
  box : wr.heap[w.heap.size]? = some (.cells #[a, b, c, d, e] t (0, 0))
  res : wr.heap[w.heap.size + 1]? = some (.cells #[.int .i64 0, .int .i64 0, .string ⟨#[]⟩, .slice none 0 0, .slice none 0 0] 27 (0, 0))

theorem CBox.start (w : World) (t : TypeId) (a b c d e : Value) : CBox w ((w.alloc (.cells #[a, b, c, d, e] t)).alloc (.cells #[.int .i64 0, .int .i64 0, .string ⟨#[]⟩, .slice none 0 0, .slice none 0 0] 27)) t a b c d e where
  below := ((Below.refl _ w).alloc (Nat.le_refl _) _).alloc (by simp) _
  size := by simp
  box := (Below.heap_alloc _ _ _ (by simp)).trans (heap_last w _)
  res := by
    have := heap_last (w.alloc (.cells #[a, b, c, d, e] t)) (.cells #[.int .i64 0, .int .i64 0, .string ⟨#[]⟩, .slice none 0 0, .slice none 0 0] 27)
    simpa using this

theorem CBox.next {w wr w1 : World} {t : TypeId} {a b c d e : Value} (h : CBox w wr t a b c d e) (hb : Below wr.heap.size wr w1) : CBox w w1 t a b c d e where
  below := h.below.trans (hb.mono h.below.size)
  size := Nat.le_trans h.size hb.size
  box := (hb.block _ (by have := h.size; omega)).trans h.box
  res := (hb.block _ (by have := h.size; omega)).trans h.res

theorem below_of_grown {w w' : World} (h : w.grownBy w' none) : Below w.heap.size w w' := ⟨h.os, h.tape, h.output, h.size, fun k hk => h.block k hk (by simp)⟩

/-- The texts that an append onto nothing has laid. -/
theorem strs_of_owns {w wr : World} {base g cap : Nat} {ks : List ByteArray} {t : TypeId} (hn : 0 < ks.length) (hs : ∀ i (h : i < ks.length), ks[i].size ≤ maxLen) (hb : w.heap.size ≤ base) (h : wr.ownsRow base t 1 (.slice (some ⟨g, 0, none⟩) (0 + ks.length) cap) (0 + ks.length) ([] ++ ks.map .string)) :
    StrsAt wr (.slice (some ⟨g, 0, none⟩) ks.length cap) ks [g] ∧ Fresh w wr [g] := by
  rcases h.2 with ⟨h0, _⟩ | ⟨g', cap', cur, hv, hg, hh, hnc, hcm, hsz, htk⟩
  · cases h0
  · injection hv with e1 e2 e3
    injection e1 with e1
    injection e1 with e1
    subst e1 e3
    refine ⟨⟨_, _, g, 0, rfl, by omega, hcm, fun _ => rfl, by rw [if_neg (by omega)], fun i hi => ⟨?_, hs i hi⟩, room_of hh (by omega)⟩, ⟨by simp, fun b hb' => by simp at hb'; omega, fun b hb' o => by simp at hb'; subst hb'; simp [World.frozen?, hh]⟩⟩
    rw [Nat.zero_add, cell_of hh]
    have h1 : (cur.toList.take ((0 + ks.length) * 1))[i]? = (([] ++ ks.map Value.string) : List Value)[i]? := by rw [htk]
    rw [List.getElem?_take_of_lt (by omega)] at h1
    simpa [List.getElem?_eq_getElem hi] using h1

theorem app_nothing_ty (ty : TypeId) (w : World) (bo ko : Option Addr) (bc kc : Nat) : (Builtin.append_ #[24, 24] ty #[.slice bo 0 bc, .slice ko 0 kc]).run Tryz.prog w = .ok (.slice bo 0 bc) w := by
  obtain ⟨i, hi, hzz⟩ := Option.map_eq_some_iff.1 info_string
  have hs : Src Tryz.prog i.size 24 (.slice ko 0 kc) 0 [] w := by
    cases ko with
    | none => exact Src.ofNil w Tryz.underlying24 kc
    | some a => exact Src.ofSlice w Tryz.underlying24 a 0 kc [] (by simp) (fun j u h => by simp at h) (fun u h => by simp at h)
  exact run_append_nothing w 24 24 ty 9 i Tryz.underlying24 hi bo 0 bc (Nat.zero_le _) _ hs

/-- Nothing is appended, at a step of a region that draws its order. -/
theorem step_append_nothing {ops : Array Oper} {o : Oper} {a : Act} {w : World} {K : Act → World → Prop} {Q : Exit → Act → World → Prop} {E : Prop} (hgd : o.guard = none) (s x : Operand)
    (ho : o.op = .call { callee := .builtin .append, args := #[s, x], argTypes := #[24, 24] }) (bo ko : Option Addr) (bc kc : Nat) (hs : a.eval s = .slice bo 0 bc) (hx : a.eval x = .slice ko 0 kc)
    (h : K (a.put o.dst (.slice bo 0 bc)) w) : if Region.wanted o (yielded ops a.tmps) = true then Oper.wp Tryz.prog o a w K Q else E := by
  have hw : Region.wanted o (yielded ops a.tmps) = true := by simp [Region.wanted, hgd]
  rw [if_pos hw]
  unfold Oper.wp execOp
  simp only [ho, resolve, invoke, builtin, Sem.run_bind, Sem.run_pure, Result.andThen_ok, List.map_toArray, List.map_cons, List.map_nil, hs, hx, app_nothing_ty]
  exact h

/-- What is answered: the node stored whole into its block. -/
theorem copy_fin {w wr : World} {t : TypeId} {a b c d e : Value} (hx : CBox w wr t a b c d e) {k n : Int} {s : ByteArray} {keys : List ByteArray} {kids : List RT} {kv dv : Value} {FK FD : List Nat} (hfit : Fit k ∧ Fit n ∧ s.size ≤ maxLen)
    (hK : StrsAt wr kv keys FK) (hD : KidsLie wr dv kids FD) (hf : Fresh w wr (FK ++ FD)) (h2 : ∀ x ∈ FK ++ FD, w.heap.size + 2 ≤ x) :
    (set5 wr (w.heap.size + 1) 0 (.int .i64 k) (.int .i64 n) (.string s) kv dv).heap[w.heap.size + 1]? = some (.cells #[.int .i64 k, .int .i64 n, .string s, kv, dv] 27 (0, 0)) ∧
    Lies (set5 wr (w.heap.size + 1) 0 (.int .i64 k) (.int .i64 n) (.string s) kv dv) (.node k n s keys kids) kv dv (FK ++ FD) ∧ Fresh w (set5 wr (w.heap.size + 1) 0 (.int .i64 k) (.int .i64 n) (.string s) kv dv) (FK ++ FD) ∧
    Below w.heap.size w (set5 wr (w.heap.size + 1) 0 (.int .i64 k) (.int .i64 n) (.string s) kv dv) := by
  have keep : ∀ x ∈ FK ++ FD, (set5 wr (w.heap.size + 1) 0 (.int .i64 k) (.int .i64 n) (.string s) kv dv).heap[x]? = wr.heap[x]? := fun x hxm => set5_other _ _ _ _ _ _ _ _ _ (by have := h2 x hxm; omega)
  exact ⟨set5_end hx.res _ _ _ _ _, Lies.into hfit.1 hfit.2.1 hfit.2.2 (hK.carry fun x hxm => keep x (List.mem_append_left _ hxm)) (hD.carry fun x hxm => keep x (List.mem_append_right _ hxm)), hf.carry keep, set5_below hx.below (by omega) _ _ _ _ _ _⟩

theorem whole_set5 {w wr : World} {t : TypeId} {q : Nat} {v : Value} (h : Whole wr (w.heap.size + 2) t q v) (a b c d e : Value) : Whole (set5 wr (w.heap.size + 1) 0 a b c d e) w.heap.size t q v :=
  h.carry (by omega) fun x hx _ => set5_other _ _ _ _ _ _ _ _ _ (by omega)

theorem strs_nil (w : World) (o : Option Addr) : StrsAt w (.slice o 0 0) [] [] := ⟨o, 0, 0, 0, rfl, Nat.zero_le _, Nat.zero_le _, fun h => absurd h (by simp), rfl, fun i hi => absurd hi (by simp), Room.nil _ _ _⟩

end Go.Proofs.YtmcjghhmcmkomaaGreatDoor

/- plain facts on one element that is put into a row that a call owns: Go's copy at any size of element, and what slices.Insert leaves of the row, in its place or in a new one. -/
namespace Go.Proofs.YtmcjghhmcmkomaaGreatDoor
open Go Go.RowKit

/-- copy(d, s) into a block that is known whole, at any size of element. -/
theorem run_copy_rowq (P : Program) (w : World) (dT sT ty elem : TypeId) (g o dLen dCap : Nat) (a : Addr) (sLen sCap q : Nat) (cur : Array Value) (t : TypeId) (cs : List Value)
    (hu : P.underlying dT = some (.slice elem)) (hs : (P.info? elem).map (·.size) = some q)
    (hg : w.heap[g]? = some (.cells cur t (0, 0))) (hn : cs.length = Nat.min sLen dLen * q)
    (hsrc : ∀ j v, cs[j]? = some v → w.cell? (a.add j) = some v) (hfit : o + cs.length ≤ cur.size) (h1 : ∀ v ∈ cs, v.oneCell' = true) :
    (Builtin.copy_ #[dT, sT] ty #[.slice (some ⟨g, o, none⟩) dLen dCap, .slice (some a) sLen sCap]).run P w =
      .ok (goInt (Nat.min sLen dLen)) (w.setRow g (cur.toList.take o ++ cs ++ cur.toList.drop (o + cs.length)).toArray) := by
  have hl := run_loadCells_list (P := P) w a cs hsrc
  have hst := run_storeCells_at P g o t cs 0 cur w hg (by simpa using hfit) h1
  cases hq : P.info? elem with
  | none => simp [hq] at hs
  | some i =>
    have hi : i.size = q := by simpa [hq] using hs
    rw [hn] at hl
    simp [Builtin.copy_, run_underlying hu, Builtin.lenOf, Builtin.firstCells, sizeOf, typeInfo, hq, hi, hl, hst]

/-- What a row is once cs stands in it from o on. -/
def over (cur : Array Value) (o : Nat) (cs : List Value) : Array Value := (cur.toList.take o ++ cs ++ cur.toList.drop (o + cs.length)).toArray

theorem over_size {cur : Array Value} {o : Nat} {cs : List Value} (h : o + cs.length ≤ cur.size) : (over cur o cs).size = cur.size := by
  simp only [over, List.size_toArray, List.length_append, List.length_take, List.length_drop, Array.length_toList]
  omega

theorem over_get {cur : Array Value} {o : Nat} {cs : List Value} (h : o + cs.length ≤ cur.size) (j : Nat) : (over cur o cs).toList[j]? = if j < o then cur.toList[j]? else if j < o + cs.length then cs[j - o]? else cur.toList[j]? := by
  have hl : (cur.toList.take o).length = o := by simp; omega
  simp only [over, List.toList_toArray]
  by_cases h1 : j < o
  · rw [if_pos h1, List.append_assoc, List.getElem?_append_left (by omega), List.getElem?_take_of_lt h1]
  · rw [if_neg h1, List.append_assoc, List.getElem?_append_right (by omega), hl]
    by_cases h2 : j < o + cs.length
    · rw [if_pos h2, List.getElem?_append_left (by omega)]
    · rw [if_neg h2, List.getElem?_append_right (by omega), List.getElem?_drop]
      congr 1
      omega

/-- Shifted, then put into its place. -/
theorem shift_row {cur : Array Value} {xs ys : List Value} {i n q cap : Nat} (hx : cur.toList.take (n * q) = xs) (hxl : xs.length = n * q) (hs : cur.size = cap * q) (hi : i < n) (hroom : n + 1 ≤ cap) (hy : ys.length = q) :
    (over (over cur ((i + 1) * q) (xs.drop (i * q))) (i * q) ys).size = cap * q ∧ (over (over cur ((i + 1) * q) (xs.drop (i * q))) (i * q) ys).toList.take ((n + 1) * q) = xs.take (i * q) ++ ys ++ xs.drop (i * q) := by
  have e1 : (i + 1) * q = i * q + q := Nat.succ_mul _ _
  have e2 : (n + 1) * q = n * q + q := Nat.succ_mul _ _
  have e3 : (n + 1) * q ≤ cap * q := Nat.mul_le_mul_right _ hroom
  have e4 : i * q ≤ n * q := Nat.mul_le_mul_right _ (by omega)
  have hd : (xs.drop (i * q)).length = n * q - i * q := by rw [List.length_drop, hxl]
  have b1 : (i + 1) * q + (xs.drop (i * q)).length ≤ cur.size := by rw [hd, hs]; omega
  have s1 := over_size b1
  have b2 : i * q + ys.length ≤ (over cur ((i + 1) * q) (xs.drop (i * q))).size := by rw [s1, hs, hy]; omega
  refine ⟨by rw [over_size b2, s1, hs], ?_⟩
  have ht : (xs.take (i * q)).length = i * q := by rw [List.length_take]; omega
  apply List.ext_getElem?
  intro j
  by_cases hj : j < (n + 1) * q
  · rw [List.getElem?_take_of_lt hj, over_get b2, List.append_assoc]
    by_cases h1 : j < i * q
    · rw [if_pos h1, over_get b1, if_pos (by omega), List.getElem?_append_left (by omega), List.getElem?_take_of_lt h1, ← hx, List.getElem?_take_of_lt (by omega)]
    · rw [if_neg h1, List.getElem?_append_right (by omega), ht]
      by_cases h2 : j < i * q + ys.length
      · rw [if_pos h2, List.getElem?_append_left (by omega)]
      · rw [if_neg h2, over_get b1, if_neg (by omega), if_pos (by omega), List.getElem?_append_right (by omega)]
        congr 1
        omega
  · rw [List.getElem?_eq_none (by rw [List.length_take]; omega), List.getElem?_eq_none]
    simp only [List.length_append, ht, hy, hd]
    omega

/-- A new row: what stood ahead, the new one, what stood behind. -/
theorem fresh_row {cur : Array Value} {xs ys : List Value} {i n q cap : Nat} (hx : cur.toList.take (i * q) = xs.take (i * q)) (hxl : xs.length = n * q) (hs : cur.size = cap * q) (hi : i < n) (hroom : n + 1 ≤ cap) (hy : ys.length = q) :
    (over (over cur (i * q) ys) ((i + 1) * q) (xs.drop (i * q))).size = cap * q ∧ (over (over cur (i * q) ys) ((i + 1) * q) (xs.drop (i * q))).toList.take ((n + 1) * q) = xs.take (i * q) ++ ys ++ xs.drop (i * q) := by
  have e1 : (i + 1) * q = i * q + q := Nat.succ_mul _ _
  have e2 : (n + 1) * q = n * q + q := Nat.succ_mul _ _
  have e3 : (n + 1) * q ≤ cap * q := Nat.mul_le_mul_right _ hroom
  have e4 : i * q ≤ n * q := Nat.mul_le_mul_right _ (by omega)
  have hd : (xs.drop (i * q)).length = n * q - i * q := by rw [List.length_drop, hxl]
  have b1 : i * q + ys.length ≤ cur.size := by rw [hs, hy]; omega
  have s1 := over_size b1
  have b2 : (i + 1) * q + (xs.drop (i * q)).length ≤ (over cur (i * q) ys).size := by rw [s1, hd, hs]; omega
  refine ⟨by rw [over_size b2, s1, hs], ?_⟩
  have ht : (xs.take (i * q)).length = i * q := by rw [List.length_take]; omega
  apply List.ext_getElem?
  intro j
  by_cases hj : j < (n + 1) * q
  · rw [List.getElem?_take_of_lt hj, over_get b2, List.append_assoc]
    by_cases h1 : j < i * q
    · rw [if_pos (by omega), over_get b1, if_pos h1, List.getElem?_append_left (by omega), ← hx, List.getElem?_take_of_lt h1]
    · rw [List.getElem?_append_right (by omega), ht]
      by_cases h2 : j < i * q + ys.length
      · rw [if_pos (by omega), over_get b1, if_neg h1, if_pos h2, List.getElem?_append_left (by omega)]
      · rw [if_neg (by omega), if_pos (by omega), List.getElem?_append_right (by omega)]
        congr 1
        omega
  · rw [List.getElem?_eq_none (by rw [List.length_take]; omega), List.getElem?_eq_none]
    simp only [List.length_append, ht, hy, hd]
    omega

/-- A world in which one block alone is another row. -/
theorem grown_of_row {w w' : World} {g : Nat} {cur cur' : Array Value} {t : TypeId} (hw : w.heap[g]? = some (.cells cur t (0, 0))) (he : w' = w.setRow g cur' ∨ w' = w.drew.setRow g cur' ∨ w' = (w.setRow g cur').drew ∨ w' = (w.drew.setRow g cur').drew) :
    w.grownBy w' (some g) ∧ w'.heap[g]? = some (.cells cur' t (0, 0)) := by
  have hs : (w.setRow g cur').heap.size = w.heap.size := by simp [World.setRow]
  have hb : ∀ k, k < w.heap.size → some k ≠ some g → (w.setRow g cur').heap[k]? = w.heap[k]? := fun k _ hk => setRow_other _ _ _ _ (fun e => hk (by rw [e]))
  have hh := setRow_heap w g cur cur' t (0, 0) hw
  rcases he with e | e | e | e <;> subst e <;> exact ⟨⟨rfl, rfl, rfl, Nat.le_of_eq hs.symm, hb⟩, hh⟩

theorem cell_row {w : World} {g : Nat} {cur : Array Value} {t : TypeId} (h : w.heap[g]? = some (.cells cur t (0, 0))) {o : Nat} {cs : List Value} (hc : ∀ j v, cs[j]? = some v → cur.toList[o + j]? = some v) : ∀ j v, cs[j]? = some v → w.cell? ((⟨g, o, none⟩ : Addr).add j) = some v := fun j v hj => by
  rw [Go.WideShapes.add_plain, cell_of h]
  simpa using hc j v hj

end Go.Proofs.YtmcjghhmcmkomaaGreatDoor
