/-
  What is proved: plain facts on lists of trees that are laid one behind the other by append.; the program's copyTrees and copyTree lay the same trees into new memory.
-/
import Derived.Test.YtelpkcbbipianaaGreatPartAA
import Derived.Test.YtelpkcbbipianaaGreatRows
import Derived.ProofKit
import Derived.OpenShut
import Derived.Carry
import Derived.Deep.Strs
import Derived.Deep.AppendLies
import Derived.Deep.RegionHeld3
import Derived.OwnWalk
import Derived.Deep.Upon
/- plain facts on lists of trees that are laid one behind the other by append. -/
namespace Go.Proofs.YtelpkcbbipianaaGreat
open Go Go.RowKit

/-- The cells of the first k of a list of trees. -/
def rowsOf (kids : List RT) (KV DV : Nat → Value) (k : Nat) : List Value := (List.range k).flatMap fun j => (kids.getD j default).row (KV j) (DV j)

theorem row_length (T : RT) (kv dv : Value) : (T.row kv dv).length = 5 := rfl

theorem rowsOf_succ (kids : List RT) (KV DV : Nat → Value) (k : Nat) : rowsOf kids KV DV (k + 1) = rowsOf kids KV DV k ++ (kids.getD k default).row (KV k) (DV k) := by
  unfold rowsOf
  rw [List.range_succ, List.flatMap_append]
  simp

theorem rowsOf_length (kids : List RT) (KV DV : Nat → Value) (k : Nat) : (rowsOf kids KV DV k).length = k * 5 := by
  induction k with
  | zero => rfl
  | succ k ih => rw [rowsOf_succ, List.length_append, ih, row_length]; omega

theorem rowsOf_get (kids : List RT) (KV DV : Nat → Value) (k i c : Nat) (hi : i < k) (hc : c < 5) : (rowsOf kids KV DV k)[i * 5 + c]? = ((kids.getD i default).row (KV i) (DV i))[c]? := by
  induction k with
  | zero => omega
  | succ k ih =>
    rw [rowsOf_succ]
    by_cases e : i < k
    · rw [List.getElem?_append_left (by rw [rowsOf_length]; omega)]
      exact ih e
    · have : i = k := by omega
      subst this
      rw [List.getElem?_append_right (by rw [rowsOf_length]; omega), rowsOf_length, Nat.add_sub_cancel_left]

theorem rowsOf_congr (kids : List RT) {KV DV KV' DV' : Nat → Value} {k : Nat} (h : ∀ j, j < k → KV j = KV' j ∧ DV j = DV' j) : rowsOf kids KV DV k = rowsOf kids KV' DV' k := by
  unfold rowsOf
  refine Go.Deep.flatMap_congr_range fun j hj => ?_
  rw [(h j hj).1, (h j hj).2]

theorem owns_below {w w' : World} {base : Nat} {e : TypeId} {size : Nat} {v : Value} {n : Nat} {xs : List Value} (h : w.ownsRow base e size v n xs) (hb : Below w.heap.size w w') : w'.ownsRow base e size v n xs := by
  refine ⟨h.1, ?_⟩
  rcases h.2 with h2 | ⟨g, cap, cur, hv, hg, hh, r⟩
  · exact .inl h2
  · have hlt : g < w.heap.size := (Array.getElem?_eq_some_iff.1 hh).1
    exact .inr ⟨g, cap, cur, hv, hg, (hb.block g hlt).trans hh, r⟩

/-- A list that a call owns: the whole of its block is its own; an empty one is nil. -/
def Whole (w : World) (base : Nat) (t : TypeId) (q : Nat) (v : Value) : Prop :=
  v = .slice none 0 0 ∨ ∃ g n cap cur, v = .slice (some ⟨g, 0, none⟩) n cap ∧ 0 < n ∧ base ≤ g ∧ w.heap[g]? = some (.cells cur t (0, 0)) ∧ n ≤ cap ∧ cap ≤ maxLen ∧ cur.size = cap * q

theorem Whole.carry {w w' : World} {base base' : Nat} {t : TypeId} {q : Nat} {v : Value} (h : Whole w base t q v) (hb : base' ≤ base) (hF : ∀ b, base ≤ b → b < w.heap.size → w'.heap[b]? = w.heap[b]?) : Whole w' base' t q v := by
  rcases h with h | ⟨g, n, cap, cur, h1, h2, h3, h4, h5⟩
  · exact .inl h
  · exact .inr ⟨g, n, cap, cur, h1, h2, by omega, (hF g h3 (Array.getElem?_eq_some_iff.1 h4).1).trans h4, h5⟩

theorem Whole.stay {w w' : World} {base : Nat} {t : TypeId} {q : Nat} {v : Value} (h : Whole w base t q v) (hb : Below w.heap.size w w') : Whole w' base t q v := h.carry (Nat.le_refl _) fun b _ hlt => hb.block b hlt

theorem Whole.of_owns {w : World} {base : Nat} {t : TypeId} {q : Nat} {v : Value} {n : Nat} {xs : List Value} (h : w.ownsRow base t q v n xs) (hn : n = 0 → v = .slice none 0 0) : Whole w base t q v := by
  rcases h.2 with ⟨h, _⟩ | ⟨g, cap, cur, h1, h2, h3, h4, h5, h6, -⟩
  · exact .inl h
  · by_cases h0 : n = 0
    · exact .inl (hn h0)
    · exact .inr ⟨g, n, cap, cur, h1, by omega, h2, h3, h4, h5, h6⟩

/-- The first k of a list of trees have been copied since w, and laid behind each other in the slice v; nothing has turned that lay there in w0. -/
structure LaidApp (t : TypeId) (w0 w wr : World) (kids : List RT) (k : Nat) (v : Value) (KV DV : Nat → Value) (FF : Nat → List Nat) : Prop where
  own : wr.ownsRow w.heap.size t 5 v k (rowsOf kids KV DV k)
  lie : ∀ j (h : j < kids.length), j < k → Lies wr kids[j] (KV j) (DV j) (FF j)
  fresh : Fresh w wr ((List.range k).flatMap FF)
  apart : ∀ g, v.ownBlock = some g → g ∉ (List.range k).flatMap FF
  below : Below w0.heap.size w0 wr
  size : w.heap.size ≤ wr.heap.size
  size0 : w0.heap.size ≤ w.heap.size
  nil : k = 0 → v = .slice none 0 0

theorem LaidApp.start (t : TypeId) {w0 w wr : World} (kids : List RT) (hb : Below w0.heap.size w0 wr) (hs : w.heap.size ≤ wr.heap.size) (h0 : w0.heap.size ≤ w.heap.size) : LaidApp t w0 w wr kids 0 (.slice none 0 0) (fun _ => .bool true) (fun _ => .bool true) (fun _ => []) :=
  ⟨⟨rfl, .inl ⟨rfl, rfl⟩⟩, fun _ _ h => absurd h (by omega), Fresh.nil _ _, fun _ h => by simp [Value.ownBlock] at h, hb, hs, h0, fun _ => rfl⟩

section
variable {t : TypeId} {w0 w wr w' : World} {kids : List RT} {k : Nat} {v : Value} {KV DV : Nat → Value} {FF : Nat → List Nat}

theorem LaidApp.lt (h : LaidApp t w0 w wr kids k v KV DV FF) (hk : k ≤ kids.length) : ∀ b ∈ (List.range k).flatMap FF, b < wr.heap.size := fun b hb => by
  obtain ⟨j, hj, hbj⟩ := List.mem_flatMap.1 hb
  have := List.mem_range.1 hj
  exact (h.lie j (by omega) this).lt b hbj

theorem LaidApp.ownlt (h : LaidApp t w0 w wr kids k v KV DV FF) : ∀ b, v.ownBlock = some b → w.heap.size ≤ b ∧ b < wr.heap.size := fun b e => by
  rcases h.own.2 with ⟨rfl, _⟩ | ⟨g', cap', cur, rfl, hg, hh, _⟩
  · simp [Value.ownBlock] at e
  · have : g' = b := by simpa [Value.ownBlock] using e
    subst this
    exact ⟨hg, (Array.getElem?_eq_some_iff.1 hh).1⟩

theorem LaidApp.slice (h : LaidApp t w0 w wr kids k v KV DV FF) : ∃ o c, v = .slice o k c := by
  rcases h.own.2 with ⟨rfl, e⟩ | ⟨g', cap', cur, rfl, hg, hh, _⟩
  · exact ⟨none, 0, by rw [e]⟩
  · exact ⟨_, _, rfl⟩

/-- A store into a block that was there in w, but not in w0. -/
theorem LaidApp.set (h : LaidApp t w0 w wr kids k v KV DV FF) {p : Addr} (hp : p.block < w.heap.size) (hp0 : w0.heap.size ≤ p.block) (u : Value) : LaidApp t w0 w (wr.setCell p u) kids k v KV DV FF := by
  have keep : ∀ b, w.heap.size ≤ b → (wr.setCell p u).heap[b]? = wr.heap[b]? := fun b hb => Below.heap_setCell _ _ _ _ (by omega)
  refine ⟨⟨h.own.1, ?_⟩, fun j hj hjk => (h.lie j hj hjk).carry fun b hbF => keep b (h.fresh.old b (List.mem_flatMap.2 ⟨j, List.mem_range.2 hjk, hbF⟩)), h.fresh.carry fun b hbF => keep b (h.fresh.old b hbF), h.apart, h.below.setCell hp0 _, by simpa [World.setCell] using h.size, h.size0, h.nil⟩
  rcases h.own.2 with h2 | ⟨g, cap, cur, hv, hg, hh, r⟩
  · exact .inl h2
  · exact .inr ⟨g, cap, cur, hv, hg, (keep g hg).trans hh, r⟩
end

/-- One more: copied into w1, laid behind the others. -/
theorem LaidApp.step {t : TypeId} {w0 w wr w1 w2 w3 : World} {kids : List RT} {k : Nat} {v : Value} {KV DV : Nat → Value} {FF : Nat → List Nat} (h : LaidApp t w0 w wr kids k v KV DV FF) (hk : k < kids.length)
    (hb1 : Below wr.heap.size wr w1) {kv dv : Value} {F : List Nat} (hl : Lies w1 kids[k] kv dv F) (hf : Fresh wr w1 F) (hb2 : Below w1.heap.size w1 w2)
    {g cap : Nat} (hgrow : w2.grownBy w3 v.ownBlock) (hown : w3.ownsRow w.heap.size t 5 (.slice (some ⟨g, 0, none⟩) (k + 1) cap) (k + 1) (rowsOf kids KV DV k ++ kids[k].row kv dv)) (hat : v.ownBlock = some g ∨ g = w2.heap.size) :
    LaidApp t w0 w w3 kids (k + 1) (.slice (some ⟨g, 0, none⟩) (k + 1) cap) (fun j => if j = k then kv else KV j) (fun j => if j = k then dv else DV j) (fun j => if j = k then F else FF j) := by
  have hbw := hb1.trans (hb2.mono hb1.size)
  have hold := h.lt (by omega)
  have hvb : ∀ b, b < wr.heap.size → b ∈ (List.range k).flatMap FF → some b ≠ v.ownBlock := fun b _ hbF e => h.apart b e.symm hbF
  have keep : ∀ b ∈ (List.range k).flatMap FF, w3.heap[b]? = wr.heap[b]? := fun b hbF => by
    have hlt := hold b hbF
    rw [hgrow.block b (by have := hbw.size; omega) (hvb b hlt hbF), hbw.block b hlt]
  have keepN : ∀ b ∈ F, w3.heap[b]? = w1.heap[b]? := fun b hbF => by
    have hlt := hl.lt b hbF
    have hge := hf.old b hbF
    rw [hgrow.block b (by have := hb2.size; omega) (fun e => by have := (h.ownlt b e.symm).2; omega), hb2.block b hlt]
  refine ⟨?_, fun j hj hjk => ?_, ?_, fun g' hg' => ?_, ?_, ?_, h.size0, fun h0 => absurd h0 (by omega)⟩
  · rw [rowsOf_succ]
    have e1 : rowsOf kids (fun j => if j = k then kv else KV j) (fun j => if j = k then dv else DV j) k = rowsOf kids KV DV k := rowsOf_congr kids fun j hj => ⟨if_neg (by omega), if_neg (by omega)⟩
    have e2 : kids.getD k default = kids[k] := by simp [List.getD, List.getElem?_eq_getElem hk]
    rw [e1, e2]
    simp only [if_true]
    exact hown
  · by_cases e : j = k
    · subst e
      simp only [if_true]
      exact hl.carry keepN
    · simp only [e, if_false]
      exact (h.lie j hj (by omega)).carry fun b hbF => keep b (List.mem_flatMap.2 ⟨j, List.mem_range.2 (by omega), hbF⟩)
  · rw [flat_succ]
    exact (h.fresh.carry keep).append hold (hf.carry keepN) h.size
  · rw [flat_succ]
    have eg : g' = g := by simpa [Value.ownBlock] using hg'.symm
    subst eg
    intro hm
    rcases List.mem_append.1 hm with hm | hm
    · rcases hat with e | e
      · exact h.apart _ e hm
      · have := hold _ hm
        have := hbw.size
        omega
    · have h1 := hl.lt _ hm
      have h2 := hf.old _ hm
      rcases hat with e | e
      · have := (h.ownlt _ e).2; omega
      · have := hb2.size; omega
  · exact (h.below.trans (hbw.mono h.below.size)).grown hgrow (Nat.le_trans h.below.size hbw.size) (fun b e => Nat.le_trans h.size0 (h.ownlt b e).1)
  · exact Nat.le_trans h.size (Nat.le_trans hbw.size hgrow.size)

theorem LaidApp.whole {t : TypeId} {w0 w wr : World} {kids : List RT} {k : Nat} {v : Value} {KV DV : Nat → Value} {FF : Nat → List Nat} (h : LaidApp t w0 w wr kids k v KV DV FF) : Whole wr w.heap.size t 5 v := .of_owns h.own h.nil

theorem LaidApp.done {t : TypeId} {w0 w wr : World} {kids : List RT} {v : Value} {KV DV : Nat → Value} {FF : Nat → List Nat} (h : LaidApp t w0 w wr kids kids.length v KV DV FF) :
    ∃ F, KidsLie wr v kids F ∧ Fresh w wr F ∧ Below w0.heap.size w0 wr := by
  rcases h.own.2 with ⟨rfl, h0⟩ | ⟨g, cap, cur, rfl, hg, hh, hnc, hcm, hsz, htk⟩
  · have e : kids = [] := List.length_eq_zero_iff.1 h0
    subst e
    exact ⟨[], ⟨none, 0, 0, 0, fun _ => [], fun _ => .bool true, fun _ => .bool true, rfl, Nat.le_refl _, Nat.zero_le _, fun h => absurd h (by simp), rfl, fun i hi => absurd hi (by simp), fun i hi => absurd hi (by simp), Room.nil _ _ _⟩, Fresh.nil _ _, h.below⟩
  · refine ⟨_, ⟨_, cap, g, 0, FF, KV, DV, rfl, hnc, hcm, fun _ => rfl, rfl, fun i hi j hj => ?_, fun i hi => h.lie i hi hi, room_of hh (by omega)⟩, ?_, h.below⟩
    · have hget := rowsOf_get kids KV DV kids.length i j hi hj
      rw [← htk, List.getElem?_take_of_lt (by omega)] at hget
      rw [Nat.zero_add, cell_of hh]
      have e2 : kids.getD i default = kids[i] := by simp [List.getD, List.getElem?_eq_getElem hi]
      rw [e2] at hget
      simpa using hget
    · split
      · simpa using h.fresh
      · refine ⟨?_, ?_, ?_⟩
        · simp only [List.singleton_append, List.nodup_cons]
          exact ⟨h.apart g rfl, h.fresh.nodup⟩
        · intro b hbF
          rcases List.mem_append.1 hbF with hbF | hbF
          · simp at hbF; omega
          · exact h.fresh.old b hbF
        · intro b hbF o
          rcases List.mem_append.1 hbF with hbF | hbF
          · simp at hbF; subst hbF; simp [World.frozen?, hh]
          · exact h.fresh.free b hbF o

end Go.Proofs.YtelpkcbbipianaaGreat

/- the program's copyTrees and copyTree lay the same trees into new memory. -/
namespace Go.Proofs.YtelpkcbbipianaaGreat
open Go Go.RowKit

/-- What the program's copyTree answers of one tree. -/
def CopyAt (T : RT) : Prop := ∀ (w : World) (kv dv : Value) (F : List Nat), Lies w T kv dv F → T.sz ≤ 1048576 →
  Calls Tryz.prog 17 #[T.val kv dv] w fun e w' => ∃ kv' dv' F', e = .returned (.agg #[.int .i64 T.k, .int .i64 T.n, .string T.s, kv', dv']) ∧ Lies w' T kv' dv' F' ∧ Fresh w w' F' ∧ Below w.heap.size w w' ∧ Whole w' w.heap.size 9 1 kv' ∧ Whole w' w.heap.size 27 5 dv'

set_option maxRecDepth 100000 in
set_option maxHeartbeats 1600000 in
theorem copy_kids {dv : Value} {kids : List RT} {F : List Nat} (ih : ∀ t ∈ kids, CopyAt t) (w : World) (hs : KidsLie w dv kids F) (h1 : kids.length + szAll kids ≤ 1048576) :
    Calls Tryz.prog 33 #[dv] w fun e w' => ∃ v' F', e = .returned v' ∧ KidsLie w' v' kids F' ∧ Fresh w w' F' ∧ Below w.heap.size w w' ∧ Whole w' w.heap.size 27 5 v' := by
  obtain ⟨o, cap, b, off, FF, KV, DV, rfl, hlc, hcm, ho, -, hcell, hlies, -⟩ := hs
  have HC := Lib.hid hcell
  have HO := Lib.hid ho
  have HL := Lib.hid hlies
  clear hcell ho hlies
  obtain ⟨i0, hi0, hz0, hz1, hz2⟩ := info_parts info_node
  go_enter Tryz.func33, Tryz.ntmps33
  go_wp2
  go_loopw [3, 8] (fun v i wr => ∃ (k : Nat) (KV' DV' : Nat → Value) (FF' : Nat → List Nat), k ≤ kids.length ∧ i = .int .i64 k ∧ Hid (LaidApp 27 w w wr kids k v KV' DV' FF')) (fun _ i _ => kids.length - (intOf i).toNat)
  case atStart => exact ⟨0, _, _, _, Nat.zero_le _, rfl, LaidApp.start _ kids (Below.refl _ _) (Nat.le_refl _) (Nat.le_refl _)⟩
  case round =>
    obtain ⟨k, KV', DV', FF', hk, rfl, hr⟩ := hrel
    by_cases hlt : k < kids.length
    · obtain ⟨c0, c1, c2, c3, c4⟩ := kid_cells (HC.out k hlt) hr.out.below
      have ho := HO.out (by omega)
      subst ho
      obtain ⟨⟨o1, q1, s1⟩, ⟨o2, q2, s2⟩⟩ := (HL.out k hlt).slices
      have hB1 : Hid (∀ ob, Below w.heap.size w (wr.alloc ob)) := fun ob => hr.out.below.alloc hr.out.below.size _
      have HI := Lib.hid (fun (w1 : World) (hb1 : Below w.heap.size w w1) => ih _ (List.getElem_mem hlt) w1 _ _ _ ((HL.out k hlt).stay hb1 (Nat.le_refl _)) (Nat.le_trans (sz_take kids (List.getElem_mem hlt)) (by omega)))
      generalize KV k = v1 at *
      generalize DV k = v2 at *
      subst s1 s2
      go_wp2_with fail
      refine (HI.out _ (hB1.out _)).mono ?_
      rintro e w1 ⟨kv1, dv1, F1, rfl, hl1, hf1, hb1, -, -⟩
      obtain ⟨⟨o3, q3, rfl⟩, ⟨o4, q4, rfl⟩⟩ := hl1.slices
      have hbw : Below wr.heap.size wr w1 := by
        have hx := (Below.refl _ wr).alloc (Nat.le_refl _) (.cells #[.int .i64 kids[k].k, .int .i64 kids[k].n, .string kids[k].s, .slice o1 kids[k].keys.length q1, .slice o2 kids[k].kids.length q2] 27)
        exact hx.trans (hb1.mono hx.size)
      have hf1' : Fresh wr w1 F1 := hf1.earlier (by simp)
      have HS := Lib.hid fun (w2 w3 : World) (g cap : Nat) => hr.out.step (w2 := w2) (w3 := w3) (g := g) (cap := cap) hlt hbw hl1 hf1'
      have HOwn := Lib.hid (owns_below (owns_below hr.out.own hbw) ((Below.refl _ w1).alloc (Nat.le_refl _) (.cells #[.int .i64 kids[k].k, .int .i64 kids[k].n, .string kids[k].s, .slice o3 kids[k].keys.length q3, .slice o4 kids[k].kids.length q4] 27)))
      have hbase : w.heap.size ≤ w1.heap.size + 1 := by have := hr.out.below.size; have := hbw.size; omega
      have HBase := Lib.hid hbase
      clear hl1 hf1 hb1 hbw hf1' hbase c0 c1 c2 c3 c4
      generalize hx : kids[k] = x at *
      clear hx
      rename_i u3
      go_wp2_with (first
        | (at_builtin; refine wpList_append_lies _ rfl (.tmp 12) (.tmp 15) 25 rfl w.heap.size 27 i0 _ 5 80 Tryz.underlying25 hi0 hz0 hz1 hz2 rfl (by decide) u3 k _ rfl HOwn.out ⟨w1.heap.size, 0, none⟩ 1 1 [.int .i64 x.k, .int .i64 x.n, .string x.s, .slice o3 x.keys.length q3, .slice o4 x.kids.length q4] rfl rfl (World.news_of_block (cs := #[.int .i64 x.k, .int .i64 x.n, .string x.s, .slice o3 x.keys.length q3, .slice o4 x.kids.length q4]) (t := 27) (fr := (0, 0)) (heap_last w1 _)) (by simp [Value.oneCell']) (by omega) (by unfold maxLen; omega) (by omega) (by simp; exact HBase.out) (w1.heap.size + 1) (by simp) ?_; intro g cap' w3 hown3 hgrow hat hltg; have H3 := Lib.hid (And.intro hown3 (And.intro hgrow hat)); clear hown3 hgrow hat hltg)
        | fail)
      exact ⟨⟨k + 1, _, _, _, by omega, by go_num, HS.out _ w3 g cap' ((Below.refl _ w1).alloc (Nat.le_refl _) _) H3.out.2.1 H3.out.1 (by simpa using H3.out.2.2)⟩, by simp [intOf]; omega⟩
    · have e : k = kids.length := by omega
      subst e
      have HD := Lib.hid (And.intro hr.out.done hr.out.whole)
      go_wp2
      go_ret
      obtain ⟨⟨F', g1, g2, g3⟩, g4⟩ := HD.out
      exact ⟨_, F', rfl, g1, g2, g3, g4⟩

/-! ### A node copied whole -/

/-- The block of what a function was handed, and the block of what it answers. -/
structure CBox (w wr : World) (t : TypeId) (a b c d e : Value) : Prop where
  below : Below w.heap.size w wr
  size : w.heap.size + 2 ≤ wr.heap.size
  box : wr.heap[w.heap.size]? = some (.cells #[a, b, c, d, e] t (0, 0))
  res : wr.heap[w.heap.size + 1]? = some (.cells #[.int .i64 0, .int .i64 0, .string ⟨#[]⟩, .slice none 0 0, .slice none 0 0] 27 (0, 0))

theorem CBox.start (w : World) (t : TypeId) (a b c d e : Value) : CBox w ((w.alloc (.cells #[a, b, c, d, e] t)).alloc (.cells #[.int .i64 0, .int .i64 0, .string ⟨#[]⟩, .slice none 0 0, .slice none 0 0] 27)) t a b c d e where
  below := ((Below.refl _ w).alloc (Nat.le_refl _) _).alloc (by simp) _
  size := by simp
  box := (Below.heap_alloc _ _ _ (by simp)).trans (heap_last w _)
  res := by
    have := heap_last (w.alloc (.cells #[a, b, c, d, e] t)) (.cells #[.int .i64 0, .int .i64 0, .string ⟨#[]⟩, .slice none 0 0, .slice none 0 0] 27)
    simpa using this

theorem CBox.next {w wr w1 : World} {t : TypeId} {a b c d e : Value} (h : CBox w wr t a b c d e) (hb : Below wr.heap.size wr w1) : CBox w w1 t a b c d e where
  below := h.below.trans (hb.mono h.below.size)
  size := Nat.le_trans h.size hb.size
  box := (hb.block _ (by have := h.size; omega)).trans h.box
  res := (hb.block _ (by have := h.size; omega)).trans h.res

theorem below_of_grown {w w' : World} (h : w.grownBy w' none) : Below w.heap.size w w' := ⟨h.os, h.tape, h.output, h.size, fun k hk => h.block k hk (by simp)⟩

/-- The texts that an append onto nothing has laid. -/
theorem strs_of_owns {w wr : World} {base g cap : Nat} {ks : List ByteArray} {t : TypeId} (hn : 0 < ks.length) (hs : ∀ i (h : i < ks.length), ks[i].size ≤ maxLen) (hb : w.heap.size ≤ base) (h : wr.ownsRow base t 1 (.slice (some ⟨g, 0, none⟩) (0 + ks.length) cap) (0 + ks.length) ([] ++ ks.map .string)) :
    StrsAt wr (.slice (some ⟨g, 0, none⟩) ks.length cap) ks [g] ∧ Fresh w wr [g] := by
  rcases h.2 with ⟨h0, _⟩ | ⟨g', cap', cur, hv, hg, hh, hnc, hcm, hsz, htk⟩
  · cases h0
  · injection hv with e1 e2 e3
    injection e1 with e1
    injection e1 with e1
    subst e1 e3
    refine ⟨⟨_, _, g, 0, rfl, by omega, hcm, fun _ => rfl, by rw [if_neg (by omega)], fun i hi => ⟨?_, hs i hi⟩, room_of hh (by omega)⟩, ⟨by simp, fun b hb' => by simp at hb'; omega, fun b hb' o => by simp at hb'; subst hb'; simp [World.frozen?, hh]⟩⟩
    rw [Nat.zero_add, cell_of hh]
    have h1 : (cur.toList.take ((0 + ks.length) * 1))[i]? = (([] ++ ks.map Value.string) : List Value)[i]? := by rw [htk]
    rw [List.getElem?_take_of_lt (by omega)] at h1
    simpa [List.getElem?_eq_getElem hi] using h1

theorem app_nothing_ty (ty : TypeId) (w : World) (bo ko : Option Addr) (bc kc : Nat) : (Builtin.append_ #[24, 24] ty #[.slice bo 0 bc, .slice ko 0 kc]).run Tryz.prog w = .ok (.slice bo 0 bc) w := by
  obtain ⟨i, hi, hzz⟩ := Option.map_eq_some_iff.1 info_string
  have hs : Src Tryz.prog i.size 24 (.slice ko 0 kc) 0 [] w := by
    cases ko with
    | none => exact Src.ofNil w Tryz.underlying24 kc
    | some a => exact Src.ofSlice w Tryz.underlying24 a 0 kc [] (by simp) (fun j u h => by simp at h) (fun u h => by simp at h)
  exact run_append_nothing w 24 24 ty 9 i Tryz.underlying24 hi bo 0 bc (Nat.zero_le _) _ hs

/-- Nothing is appended, at a step of a region that draws its order. -/
theorem step_append_nothing {ops : Array Oper} {o : Oper} {a : Act} {w : World} {K : Act → World → Prop} {Q : Exit → Act → World → Prop} {E : Prop} (hgd : o.guard = none) (s x : Operand)
    (ho : o.op = .call { callee := .builtin .append, args := #[s, x], argTypes := #[24, 24] }) (bo ko : Option Addr) (bc kc : Nat) (hs : a.eval s = .slice bo 0 bc) (hx : a.eval x = .slice ko 0 kc)
    (h : K (a.put o.dst (.slice bo 0 bc)) w) : if Region.wanted o (yielded ops a.tmps) = true then Oper.wp Tryz.prog o a w K Q else E := by
  have hw : Region.wanted o (yielded ops a.tmps) = true := by simp [Region.wanted, hgd]
  rw [if_pos hw]
  unfold Oper.wp execOp
  simp only [ho, resolve, invoke, builtin, Sem.run_bind, Sem.run_pure, Result.andThen_ok, List.map_toArray, List.map_cons, List.map_nil, hs, hx, app_nothing_ty]
  exact h

/-- What is answered: the node stored whole into its block. -/
theorem copy_fin {w wr : World} {t : TypeId} {a b c d e : Value} (hx : CBox w wr t a b c d e) {k n : Int} {s : ByteArray} {keys : List ByteArray} {kids : List RT} {kv dv : Value} {FK FD : List Nat} (hfit : Fit k ∧ Fit n ∧ s.size ≤ maxLen)
    (hK : StrsAt wr kv keys FK) (hD : KidsLie wr dv kids FD) (hf : Fresh w wr (FK ++ FD)) (h2 : ∀ x ∈ FK ++ FD, w.heap.size + 2 ≤ x) :
    (set5 wr (w.heap.size + 1) 0 (.int .i64 k) (.int .i64 n) (.string s) kv dv).heap[w.heap.size + 1]? = some (.cells #[.int .i64 k, .int .i64 n, .string s, kv, dv] 27 (0, 0)) ∧
    Lies (set5 wr (w.heap.size + 1) 0 (.int .i64 k) (.int .i64 n) (.string s) kv dv) (.node k n s keys kids) kv dv (FK ++ FD) ∧ Fresh w (set5 wr (w.heap.size + 1) 0 (.int .i64 k) (.int .i64 n) (.string s) kv dv) (FK ++ FD) ∧
    Below w.heap.size w (set5 wr (w.heap.size + 1) 0 (.int .i64 k) (.int .i64 n) (.string s) kv dv) := by
  have keep : ∀ x ∈ FK ++ FD, (set5 wr (w.heap.size + 1) 0 (.int .i64 k) (.int .i64 n) (.string s) kv dv).heap[x]? = wr.heap[x]? := fun x hxm => set5_other _ _ _ _ _ _ _ _ _ (by have := h2 x hxm; omega)
  exact ⟨set5_end hx.res _ _ _ _ _, Lies.into hfit.1 hfit.2.1 hfit.2.2 (hK.carry fun x hxm => keep x (List.mem_append_left _ hxm)) (hD.carry fun x hxm => keep x (List.mem_append_right _ hxm)), hf.carry keep, set5_below hx.below (by omega) _ _ _ _ _ _⟩

theorem whole_set5 {w wr : World} {t : TypeId} {q : Nat} {v : Value} (h : Whole wr (w.heap.size + 2) t q v) (a b c d e : Value) : Whole (set5 wr (w.heap.size + 1) 0 a b c d e) w.heap.size t q v :=
  h.carry (by omega) fun x hx _ => set5_other _ _ _ _ _ _ _ _ _ (by omega)

theorem strs_nil (w : World) (o : Option Addr) : StrsAt w (.slice o 0 0) [] [] := ⟨o, 0, 0, 0, rfl, Nat.zero_le _, Nat.zero_le _, fun h => absurd h (by simp), rfl, fun i hi => absurd hi (by simp), Room.nil _ _ _⟩

set_option maxRecDepth 100000 in
set_option maxHeartbeats 3200000 in
theorem copy_node (T : RT) : CopyAt T := by
  induction T using RT.ind with
  | h k n s keys kids ih =>
    intro w kv dv F hl hsz
    obtain ⟨hk, hn, hs, FK, FD, hK, hD, -⟩ := hl.outn
    clear hl
    rw [RT.sz] at hsz
    have HX := Lib.hid (CBox.start w 27 (.int .i64 k) (.int .i64 n) (.string s) kv dv)
    have HK := Lib.hid fun (wr : World) (hb : Below w.heap.size w wr) => copy_kids ih wr (hD.stay hb (Nat.le_refl _)) (by omega)
    have HF : Hid (Fit k ∧ Fit n ∧ s.size ≤ maxLen) := ⟨hk, hn, hs⟩
    obtain ⟨o2, q2, rfl⟩ := hD.slice
    obtain ⟨i0, hi0, hz0, hz1, hz2⟩ := info_parts info_string
    clear hD ih hk hn hs
    show Calls Tryz.prog 17 #[.agg #[.int .i64 k, .int .i64 n, .string s, kv, .slice o2 kids.length q2]] w fun e w' => ∃ kv' dv' F', e = .returned (.agg #[.int .i64 k, .int .i64 n, .string s, kv', dv']) ∧ Lies w' (.node k n s keys kids) kv' dv' F' ∧ Fresh w w' F' ∧ Below w.heap.size w w' ∧ Whole w' w.heap.size 9 1 kv' ∧ Whole w' w.heap.size 27 5 dv'
    by_cases hk0 : keys = []
    · subst hk0
      obtain ⟨ko, kc, rfl⟩ := hK.slice
      clear hK
      go_enter Tryz.func17, Tryz.ntmps17
      go_wp2_with fail
      have HD := Lib.hid (HX.out.next (below_drewN (Below.refl _ _) 1))
      obtain ⟨x0, x1, x2, x3, x4, -⟩ := five HX.out.box
      go_region_held3 (fun w' => w'.cell? ⟨w.heap.size, 0, none⟩ = some (.int .i64 k) ∧ w'.cell? ⟨w.heap.size, 1, none⟩ = some (.int .i64 n) ∧ w'.cell? ⟨w.heap.size, 2, none⟩ = some (.string s) ∧ w'.cell? ⟨w.heap.size, 3, none⟩ = some (.slice ko 0 kc) ∧ w'.cell? ⟨w.heap.size, 4, none⟩ = some (.slice o2 kids.length q2)) (go_keep)
        (first
          | (go_at_call 33; refine (HK.out _ HD.out.below).mono ?_; rintro e w3 ⟨dv3, F3, rfl, hk3, hf3, hb3, hw3⟩; obtain ⟨o3, q3, rfl⟩ := hk3.slice; have HX3 := Lib.hid (HD.out.next hb3); have H3 := Lib.hid (And.intro hk3 (And.intro hf3 hb3)); have HW3 := Lib.hid (hw3.carry (w' := w3) HD.out.size fun _ _ _ => rfl); obtain ⟨p0, p1, p2, p3, p4, -⟩ := five HX3.out.box; obtain ⟨r0, r1, r2, r3, r4, r5⟩ := five HX3.out.res; clear hk3 hf3 hb3 hw3)
          | (refine step_append_nothing (by rfl) _ _ (by rfl) none ko 0 kc (by rfl) (by rfl) ?_))
      all_goals go_wp2
      all_goals
        obtain ⟨hk3, hf3, hb3⟩ := H3.out
        have h2 : ∀ x ∈ [] ++ F3, w.heap.size + 2 ≤ x := fun x hxm => by
          have h1 := hf3.old x (by simpa using hxm)
          have h2 := HD.out.size
          omega
        have hfin := copy_fin HX3.out HF.out (strs_nil w3 none) hk3 (hf3.earlier (by have := HD.out.size; omega)) h2
        exact bodyPost_ret (ret_node Tryz.results17 rfl hfin.1) rfl ⟨_, _, _, rfl, hfin.2.1, hfin.2.2.1, hfin.2.2.2, .inl rfl, whole_set5 HW3.out _ _ _ _ _⟩
    · have hkl : 0 < keys.length := by rcases keys with _ | ⟨x, l⟩; exact absurd rfl hk0; simp
      obtain ⟨ko, kc, kb, kof, rfl, hlc, hcm, ho, -, hcell, -⟩ := hK
      have ho := ho (by omega)
      subst ho
      have HN : Hid (∀ wr, Below w.heap.size w wr → ∀ j u, (keys.map Value.string)[j]? = some u → wr.cell? ((⟨kb, kof, none⟩ : Addr).add j) = some u) := fun wr hb j u hu => by
        rw [List.getElem?_map] at hu
        obtain ⟨x, hx, rfl⟩ := Option.map_eq_some_iff.1 hu
        obtain ⟨hj, rfl⟩ := List.getElem?_eq_some_iff.1 hx
        rw [Go.WideShapes.add_plain, hb.cell (by exact World.block_lt_of_cell? _ _ (hcell j hj).1)]
        exact (hcell j hj).1
      have HSz : Hid (∀ i (h : i < keys.length), keys[i].size ≤ maxLen) := fun i hi => (hcell i hi).2
      clear hcell hk0
      go_enter Tryz.func17, Tryz.ntmps17
      go_wp2_with fail
      have HD := Lib.hid (HX.out.next (below_drewN (Below.refl _ _) 1))
      obtain ⟨x0, x1, x2, x3, x4, -⟩ := five HX.out.box
      go_region_held3 (fun w' => w'.cell? ⟨w.heap.size, 0, none⟩ = some (.int .i64 k) ∧ w'.cell? ⟨w.heap.size, 1, none⟩ = some (.int .i64 n) ∧ w'.cell? ⟨w.heap.size, 2, none⟩ = some (.string s) ∧ w'.cell? ⟨w.heap.size, 3, none⟩ = some (.slice (some ⟨kb, kof, none⟩) keys.length kc) ∧ w'.cell? ⟨w.heap.size, 4, none⟩ = some (.slice o2 kids.length q2)) (go_keep)
        (first
          | (go_at_call 33; refine (HK.out _ HD.out.below).mono ?_; rintro e w3 ⟨dv3, F3, rfl, hk3, hf3, hb3, hw3⟩; obtain ⟨o3, q3, rfl⟩ := hk3.slice; have HW3 := Lib.hid (hw3.carry (w' := w3) HD.out.size fun _ _ _ => rfl); clear hw3
             have H3 := Lib.hid (And.intro hk3 (And.intro hf3 (And.intro hb3 HD.out.size)))
             replace HD := Lib.hid (HD.out.next hb3)
             obtain ⟨p0, p1, p2, p3, p4, -⟩ := five HD.out.box; obtain ⟨r0, r1, r2, r3, r4, r5⟩ := five HD.out.res; clear hk3 hf3 hb3)
          | (refine step_append_lies _ (by rfl) _ _ _ (by rfl) (w.heap.size + 2) 9 i0 _ 1 16 Tryz.underlying24 hi0 hz0 hz1 hz2 rfl (by decide) (.slice none 0 0) 0 [] (by rfl) ⟨rfl, .inl ⟨rfl, rfl⟩⟩ ⟨kb, kof, none⟩ keys.length kc (keys.map Value.string) (by rfl) (by simp) (HN.out _ HD.out.below) (by simp [Value.oneCell']) hkl (by unfold maxLen; omega) (by omega) HD.out.size _ rfl ?_
             intro g cap' w4 hown4 hgrow4 hat4 hlt4
             have H4 := Lib.hid (And.intro hown4 (And.intro (below_of_grown hgrow4) (And.intro hat4 HD.out.size)))
             replace HD := Lib.hid (HD.out.next (below_of_grown hgrow4))
             obtain ⟨y0, y1, y2, y3, y4, -⟩ := five HD.out.box; obtain ⟨z0, z1, z2, z3, z4, z5⟩ := five HD.out.res
             clear hown4 hgrow4 hat4 hlt4))
      obtain ⟨hk3, hf3, hb3, hs3⟩ := H3.out
      obtain ⟨hown4, hb4, -, -⟩ := H4.out
      obtain ⟨hS, hSf⟩ := strs_of_owns (w := w) hkl HSz.out (by omega) hown4
      have hg2 : w.heap.size + 2 ≤ g := by
        rcases hown4.2 with ⟨h0, _⟩ | ⟨g', cap2, cur, hv, hg, _⟩
        · cases h0
        · injection hv with e1 e2 e3
          injection e1 with e1
          injection e1 with e1
          omega
      have h2 : ∀ x ∈ [g] ++ F3, w.heap.size + 2 ≤ x := fun x hxm => by
        rcases List.mem_append.1 hxm with h | h
        · simp at h; omega
        · have := hf3.old x h; omega
      have hfr : Fresh w w3 ([g] ++ F3) := (hSf.carry fun x hx => hb3.block x (hS.lt x hx)).append (fun x hx => hS.lt x hx) hf3 (by omega)
      have hfin := copy_fin HD.out HF.out (hS.stay hb3 (Nat.le_refl _)) hk3 hfr h2
      have hW4 := (Whole.of_owns hown4 (fun h0 => by omega)).stay hb3
      rw [Nat.zero_add] at hW4
      have Hfin := Lib.hid (And.intro hfin.1 (And.intro hfin.2.1 (And.intro hfin.2.2.1 (And.intro hfin.2.2.2 (And.intro (whole_set5 hW4 (.int .i64 k) (.int .i64 n) (.string s) (.slice (some ⟨g, 0, none⟩) keys.length cap') (.slice o3 kids.length q3)) (whole_set5 HW3.out (.int .i64 k) (.int .i64 n) (.string s) (.slice (some ⟨g, 0, none⟩) keys.length cap') (.slice o3 kids.length q3)))))))
      clear hW4 HW3
      clear hk3 hf3 hb3 hs3 hown4 hb4 hS hSf hg2 h2 hfr hfin x0 x1 x2 x3 x4 y0 y1 y2 y3 y4 z0 z1 z2 z3 z4 z5 p0 p1 p2 p3 p4 r0 r1 r2 r3 r4 r5
      go_wp2
      exact bodyPost_ret (ret_node Tryz.results17 rfl Hfin.out.1) rfl ⟨_, _, _, rfl, Hfin.out.2⟩
end Go.Proofs.YtelpkcbbipianaaGreat
