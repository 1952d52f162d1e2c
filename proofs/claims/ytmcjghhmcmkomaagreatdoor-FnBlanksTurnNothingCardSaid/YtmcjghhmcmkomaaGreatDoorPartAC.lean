/-
  What is proved: the laws' eqStringS, eqNodeS and eqNode tell whether two lists of texts, two lists of trees, two trees are the same.; how much of a room the laws take a list of texts, a list of trees, and a tree for: less what it holds, or -1 where that is more.; the laws' toStringS, toNodeS and toNode lay the same texts and trees into new memory.; the laws' markText tells a text of a number; markStringS, markNodeS and markNode write these texts and numbers into the lists of a tree, and into nothing else; heldStringS, heldNodeS and heldNode find them there.; the laws' markNodeS and markNode write their marks into the lists of a tree whose lists lie apart, and into nothing else.; the laws' markNode marks a whole tree; heldStringS, heldNodeS and heldNode find the marks where they are.; the laws' heldNodeS and heldNode find the marks of a tree where they are.; the laws' eqNode tells whether two trees are the same.; whatever reads as a tree of the laws' own type lies in memory as a tree does.; plain facts on trees without keys and kids.; the program's keysOk and the model's l3Keys answer the same of every list of texts: each is TextOk, and they ascend.; for both flags the program's FlagOf answers as the model's FlagOf does, in memory of its own; no condition.
-/
import Derived.Test.YtmcjghhmcmkomaaGreatDoorPartAB
import Derived.Test.YtmcjghhmcmkomaaGreatDoorRows
import Derived.WalkKit
import Derived.WalkSpells
import Derived.Deep.QuietTactic
import Derived.Deep.RegionWith
import Derived.BigQuiet
import Derived.Deep.OwnRows
import Derived.Deep.Slices
import Derived.WalkLawsBesides
import Derived.ProofKit
import Derived.Laws.IdiomStrings
import Derived.Deep.RegionHeld3
import Derived.OpenShut
import Derived.Carry
import Derived.Deep.Strs
import Derived.Test.YtmcjghhmcmkomaaGreatDoorPartAA
/- the laws' eqStringS, eqNodeS and eqNode tell whether two lists of texts, two lists of trees, two trees are the same. -/
namespace Go.Proofs.YtmcjghhmcmkomaaGreatDoor
open Go Go.RowKit

noncomputable def same {α : Type} (a b : α) : Bool := @decide (a = b) (Classical.propDecidable _)
theorem same_yes {α : Type} {a b : α} (h : a = b) : same a b = true := @decide_eq_true _ (Classical.propDecidable _) h
theorem same_no {α : Type} {a b : α} (h : ¬ a = b) : same a b = false := @decide_eq_false _ (Classical.propDecidable _) h
theorem same_iff {α : Type} {a b : α} : same a b = true ↔ a = b := by
  constructor
  · intro h
    exact @of_decide_eq_true _ (Classical.propDecidable _) h
  · exact same_yes
theorem same_iff_no {α : Type} {a b : α} : same a b = false ↔ ¬ a = b := by
  constructor
  · intro h e
    rw [same_yes e] at h
    cases h
  · exact same_no

theorem below_drewN {B : Nat} {a w : World} (h : Below B a w) (n : Nat) : Below B a (w.drewN n) := h.trans ⟨rfl, rfl, rfl, Nat.le_refl _, fun _ _ => rfl⟩

theorem take_step {α : Type} {l l' : List α} {k : Nat} (h : l.take k = l'.take k) (h1 : k < l.length) (h2 : k < l'.length) (e : l[k] = l'[k]) : l.take (k + 1) = l'.take (k + 1) := by
  rw [List.take_succ_eq_append_getElem h1, List.take_succ_eq_append_getElem h2, h, e]

theorem take_end {α : Type} {l l' : List α} {k : Nat} (h : l.take k = l'.take k) (h1 : ¬ k < l.length) (h2 : l.length = l'.length) : l = l' := by
  rw [List.take_of_length_le (by omega), List.take_of_length_le (by omega)] at h
  exact h

theorem ne_at {α : Type} {l l' : List α} {k : Nat} (h1 : k < l.length) (h2 : k < l'.length) (e : ¬ l[k] = l'[k]) : ¬ l = l' := by
  intro h
  subst h
  exact e rfl

end Go.Proofs.YtmcjghhmcmkomaaGreatDoor

/- how much of a room the laws take a list of texts, a list of trees, and a tree for: less what it holds, or -1 where that is more. -/
namespace Go.Proofs.YtmcjghhmcmkomaaGreatDoor
open Go Go.RowKit

def strSz (ks : List ByteArray) : Nat := (ks.map ByteArray.size).sum

mutual
def RT.sz : RT → Nat
  | .node _ _ s keys kids => s.size + (keys.length + strSz keys) + (kids.length + szAll kids)
def szAll : List RT → Nat
  | [] => 0
  | t :: ts => t.sz + szAll ts
end

theorem szAll_sum (l : List RT) : szAll l = (l.map RT.sz).sum := by
  induction l with
  | nil => simp [szAll]
  | cons t l ih => simp [szAll, ih]

theorem sum_take {α : Type} (l : List α) (f : α → Nat) (i : Nat) (h : i < l.length) : ((l.take (i + 1)).map f).sum = ((l.take i).map f).sum + f l[i] := by
  rw [List.take_succ_eq_append_getElem h, List.map_append, List.sum_append]
  simp

theorem sum_take_le {α : Type} (l : List α) (f : α → Nat) (i : Nat) : ((l.take i).map f).sum ≤ (l.map f).sum := by
  have h := congrArg (fun x => (List.map f x).sum) (List.take_append_drop i l)
  simp only [List.map_append, List.sum_append] at h
  omega

/-- What is left of a room. -/
def left (room : Int) (n : Nat) : Int := if (n : Int) ≤ room then room - n else -1

theorem left_ok {r : Int} {n : Nat} (h : (n : Int) ≤ r) : left r n = r - n := by unfold left; rw [if_pos h]
theorem left_no {r : Int} {n : Nat} (h : ¬ (n : Int) ≤ r) : left r n = -1 := by unfold left; rw [if_neg h]

end Go.Proofs.YtmcjghhmcmkomaaGreatDoor

/- the laws' toStringS, toNodeS and toNode lay the same texts and trees into new memory. -/
namespace Go.Proofs.YtmcjghhmcmkomaaGreatDoor
open Go Go.RowKit

/-- The blocks F were made since w, each once, and may be written in w'. -/
structure Fresh (w w' : World) (F : List Nat) : Prop where
  nodup : F.Nodup
  old : ∀ b ∈ F, w.heap.size ≤ b
  free : ∀ b ∈ F, ∀ o, w'.frozen? ⟨b, o, none⟩ = false

theorem Fresh.nil (w w' : World) : Fresh w w' [] := ⟨List.nodup_nil, fun b h => absurd h (by simp), fun b h => absurd h (by simp)⟩

theorem Fresh.carry {w w1 w2 : World} {F : List Nat} (h : Fresh w w1 F) (hF : ∀ b ∈ F, w2.heap[b]? = w1.heap[b]?) : Fresh w w2 F :=
  ⟨h.nodup, h.old, fun b hb o => by rw [World.frozen?_of_block (w := w1) (hF b hb)]; exact h.free b hb o⟩

theorem Fresh.earlier {w w1 w2 : World} {F : List Nat} (h : Fresh w1 w2 F) (hs : w.heap.size ≤ w1.heap.size) : Fresh w w2 F :=
  ⟨h.nodup, fun b hb => Nat.le_trans hs (h.old b hb), h.free⟩

/-- Two lots of blocks, the second made behind the first. -/
theorem Fresh.append {w w1 w2 : World} {F G : List Nat} (h : Fresh w w2 F) (hl : ∀ b ∈ F, b < w1.heap.size) (h' : Fresh w1 w2 G) (hs : w.heap.size ≤ w1.heap.size) : Fresh w w2 (F ++ G) := by
  refine ⟨List.nodup_append.2 ⟨h.nodup, h'.nodup, fun a ha b hb e => ?_⟩, fun b hb => ?_, fun b hb => ?_⟩
  · have := hl a ha
    have := h'.old b hb
    omega
  · rcases List.mem_append.1 hb with hb | hb
    · exact h.old b hb
    · exact Nat.le_trans hs (h'.old b hb)
  · rcases List.mem_append.1 hb with hb | hb
    · exact h.free b hb
    · exact h'.free b hb

theorem info_string : (Tryz.prog.info? 9).map (fun i => (i.zero, i.size, i.bytes)) = some (some (.string ⟨#[]⟩), 1, 16) := by kernel_rfl

/-- A row of texts that has been laid up to k. -/
def LaidStrs (w wr : World) (ks : List ByteArray) (k : Nat) : Prop :=
  ∃ f : Nat → Value, wr.rowIs w.heap.size 9 ks.length f ∧ (∀ j (h : j < ks.length), j < k → f j = .string ks[j]) ∧ Below w.heap.size w wr

theorem LaidStrs.start (w : World) (ks : List ByteArray) (z : Value) : LaidStrs w (w.alloc (.cells (madeCells #[z] ks.length) 9)) ks 0 :=
  ⟨_, World.rowIs_made w z ks.length 9, fun _ _ h => absurd h (by omega), (Below.refl _ w).alloc (Nat.le_refl _) _⟩

theorem LaidStrs.step {w wr : World} {ks : List ByteArray} {k : Nat} (h : LaidStrs w wr ks k) (hk : k < ks.length) : LaidStrs w (wr.setCell ⟨w.heap.size, k, none⟩ (.string ks[k])) ks (k + 1) := by
  obtain ⟨f, hr, hf, hb⟩ := h
  refine ⟨_, hr.set k _, fun j hj hjk => ?_, hb.setCell (Nat.le_refl _) _⟩
  by_cases e : j = k
  · subst e; simp
  · simp only [e, if_false]
    exact hf j hj (by omega)

theorem LaidStrs.done {w wr : World} {ks : List ByteArray} (h : LaidStrs w wr ks ks.length) (hm : ks.length ≤ maxLen) (hs : ∀ i (h : i < ks.length), ks[i].size ≤ maxLen) :
    ∃ F, StrsAt wr (.slice (some ⟨w.heap.size, 0, none⟩) ks.length ks.length) ks F ∧ Fresh w wr F ∧ (∀ b ∈ F, b = w.heap.size) := by
  obtain ⟨f, hr, hf, hb⟩ := h
  refine ⟨_, ⟨_, _, w.heap.size, 0, rfl, Nat.le_refl _, hm, fun _ => rfl, rfl, fun i hi => ⟨?_, hs i hi⟩, fun i hi => by rw [Nat.zero_add, hr.cell hi]; rfl⟩, ?_, ?_⟩
  · rw [Nat.zero_add, hr.cell hi, hf i hi hi]
  · split
    · exact Fresh.nil _ _
    · exact ⟨by simp, fun b h => by simp at h; omega, fun b h o => by simp at h; subst h; exact hr.frozen o⟩
  · split <;> simp

/-! ### Lists of trees -/

/-- The five cells of a node, stored. -/
def set5 (w : World) (b o : Nat) (v0 v1 v2 v3 v4 : Value) : World :=
  ((((w.setCell ⟨b, o, none⟩ v0).setCell ⟨b, o + 1, none⟩ v1).setCell ⟨b, o + 2, none⟩ v2).setCell ⟨b, o + 3, none⟩ v3).setCell ⟨b, o + 4, none⟩ v4

theorem set5_other (w : World) (b o : Nat) (v0 v1 v2 v3 v4 : Value) (k : Nat) (h : k ≠ b) : (set5 w b o v0 v1 v2 v3 v4).heap[k]? = w.heap[k]? := by
  unfold set5
  rw [Below.heap_setCell _ _ _ _ h, Below.heap_setCell _ _ _ _ h, Below.heap_setCell _ _ _ _ h, Below.heap_setCell _ _ _ _ h, Below.heap_setCell _ _ _ _ h]

theorem set5_below {B : Nat} {a w : World} (h : Below B a w) {b : Nat} (hb : B ≤ b) (o : Nat) (v0 v1 v2 v3 v4 : Value) : Below B a (set5 w b o v0 v1 v2 v3 v4) := by
  unfold set5
  exact ((((h.setCell hb _).setCell hb _).setCell hb _).setCell hb _).setCell hb _

theorem set5_row {w : World} {b : Nat} {t : TypeId} {N : Nat} {f : Nat → Value} (h : w.rowIs b t N f) (o : Nat) (T : RT) (kv dv : Value) :
    ∃ g, (set5 w b o (.int .i64 T.k) (.int .i64 T.n) (.string T.s) kv dv).rowIs b t N g ∧ (∀ c, c < 5 → some (g (o + c)) = (T.row kv dv)[c]?) ∧ ∀ j, (j < o ∨ o + 5 ≤ j) → g j = f j := by
  refine ⟨_, ((((h.set o _).set (o + 1) _).set (o + 2) _).set (o + 3) _).set (o + 4) _, fun c hc => ?_, fun j hj => ?_⟩
  · match c, hc with
    | 0, _ => simp [RT.row]
    | 1, _ => simp [RT.row]
    | 2, _ => simp [RT.row]
    | 3, _ => simp [RT.row]
    | 4, _ => simp [RT.row]
  · have e0 : ¬ j = o := by omega
    have e1 : ¬ j = o + 1 := by omega
    have e2 : ¬ j = o + 2 := by omega
    have e3 : ¬ j = o + 3 := by omega
    have e4 : ¬ j = o + 4 := by omega
    simp [e0, e1, e2, e3, e4]

theorem set5_end {w : World} {b : Nat} {t : TypeId} {a0 a1 a2 a3 a4 : Value} (h : w.heap[b]? = some (.cells #[a0, a1, a2, a3, a4] t (0, 0))) (v0 v1 v2 v3 v4 : Value) :
    (set5 w b 0 v0 v1 v2 v3 v4).heap[b]? = some (.cells #[v0, v1, v2, v3, v4] t (0, 0)) :=
  heap_set (heap_set (heap_set (heap_set (heap_set h 0 v0) 1 v1) 2 v2) 3 v3) 4 v4

/-- A row of trees that has been laid up to k. -/
def LaidKids (t : TypeId) (w wr : World) (kids : List RT) (k : Nat) : Prop :=
  ∃ (f : Nat → Value) (KV DV : Nat → Value) (FF : Nat → List Nat), wr.rowIs w.heap.size t (kids.length * 5) f ∧
    (∀ j (h : j < kids.length), j < k → (∀ c, c < 5 → some (f (j * 5 + c)) = (kids[j].row (KV j) (DV j))[c]?) ∧ Lies wr kids[j] (KV j) (DV j) (FF j)) ∧
    Fresh w wr ((List.range k).flatMap FF) ∧ (∀ b ∈ (List.range k).flatMap FF, w.heap.size < b) ∧ Below w.heap.size w wr

theorem LaidKids.start {t : TypeId} {w wr : World} {kids : List RT} {f : Nat → Value} (h : wr.rowIs w.heap.size t (kids.length * 5) f) (hb : Below w.heap.size w wr) : LaidKids t w wr kids 0 :=
  ⟨f, fun _ => .bool true, fun _ => .bool true, fun _ => [], h, fun _ _ h => absurd h (by omega), Fresh.nil _ _, fun b h => absurd h (by simp), hb⟩

theorem flat_succ (FF : Nat → List Nat) (k : Nat) (F : List Nat) : (List.range (k + 1)).flatMap (fun j => if j = k then F else FF j) = (List.range k).flatMap FF ++ F := by
  rw [List.range_succ, List.flatMap_append]
  congr 1
  · exact Go.Deep.flatMap_congr_range fun j hj => by rw [if_neg (by omega)]
  · simp

theorem LaidKids.step {t : TypeId} {w wr w1 : World} {kids : List RT} {k : Nat} (h : LaidKids t w wr kids k) (hk : k < kids.length) {kv dv : Value} {F : List Nat} (hb1 : Below wr.heap.size wr w1) (hl : Lies w1 kids[k] kv dv F) (hf : Fresh wr w1 F) :
    LaidKids t w (set5 w1 w.heap.size (k * 5) (.int .i64 kids[k].k) (.int .i64 kids[k].n) (.string kids[k].s) kv dv) kids (k + 1) := by
  obtain ⟨f, KV, DV, FF, hrow, hall, hfr, hgt, hb⟩ := h
  have hsz := hrow.lt
  have hrow1 := hrow.of_block (hb1.block _ hsz)
  obtain ⟨g, hg, hg1, hg2⟩ := set5_row hrow1 (k * 5) kids[k] kv dv
  have hlt : ∀ j (hj : j < kids.length), j < k → ∀ b ∈ FF j, b < wr.heap.size ∧ w.heap.size < b := fun j hj hjk b hbF => ⟨(hall j hj hjk).2.lt b hbF, hgt b (List.mem_flatMap.2 ⟨j, List.mem_range.2 hjk, hbF⟩)⟩
  have hold : ∀ b ∈ (List.range k).flatMap FF, b < wr.heap.size := fun b hbF => by
    obtain ⟨j, hj, hbj⟩ := List.mem_flatMap.1 hbF
    have hjk := List.mem_range.1 hj
    exact (hlt j (by omega) hjk b hbj).1
  have hcarry : ∀ b ∈ (List.range k).flatMap FF, (set5 w1 w.heap.size (k * 5) (.int .i64 kids[k].k) (.int .i64 kids[k].n) (.string kids[k].s) kv dv).heap[b]? = wr.heap[b]? := fun b hbF => by
    rw [set5_other _ _ _ _ _ _ _ _ _ (by have := hgt b hbF; omega), hb1.block b (hold b hbF)]
  have hcarry1 : ∀ b ∈ F, (set5 w1 w.heap.size (k * 5) (.int .i64 kids[k].k) (.int .i64 kids[k].n) (.string kids[k].s) kv dv).heap[b]? = w1.heap[b]? := fun b hbF => by
    rw [set5_other _ _ _ _ _ _ _ _ _ (by have := hf.old b hbF; omega)]
  refine ⟨g, fun j => if j = k then kv else KV j, fun j => if j = k then dv else DV j, fun j => if j = k then F else FF j, hg, fun j hj hjk => ?_, ?_, ?_, ?_⟩
  · by_cases e : j = k
    · subst e
      simp only [if_true]
      exact ⟨hg1, hl.carry hcarry1⟩
    · simp only [e, if_false]
      obtain ⟨q1, q2⟩ := hall j hj (by omega)
      refine ⟨fun c hc => ?_, q2.carry fun b hbF => hcarry b (List.mem_flatMap.2 ⟨j, List.mem_range.2 (by omega), hbF⟩)⟩
      rw [hg2 _ (by omega)]
      exact q1 c hc
  · rw [flat_succ]
    exact (hfr.carry hcarry).append hold (hf.carry hcarry1) hb.size
  · rw [flat_succ]
    intro b hbF
    rcases List.mem_append.1 hbF with hbF | hbF
    · exact hgt b hbF
    · have := hf.old b hbF; omega
  · exact set5_below (hb.trans (hb1.mono hb.size)) (Nat.le_refl _) _ _ _ _ _ _

theorem LaidKids.done {t : TypeId} {w wr : World} {kids : List RT} (h : LaidKids t w wr kids kids.length) (hm : kids.length ≤ maxLen) :
    ∃ F, KidsLie wr (.slice (some ⟨w.heap.size, 0, none⟩) kids.length kids.length) kids F ∧ Fresh w wr F ∧ Below w.heap.size w wr := by
  obtain ⟨f, KV, DV, FF, hrow, hall, hfr, hgt, hb⟩ := h
  refine ⟨_, ⟨_, _, w.heap.size, 0, FF, KV, DV, rfl, Nat.le_refl _, hm, fun _ => rfl, rfl, fun i hi j hj => ?_, fun i hi => (hall i hi hi).2, fun i hi => by rw [Nat.zero_add, hrow.cell hi]; rfl⟩, ?_, hb⟩
  · rw [Nat.zero_add, hrow.cell (by omega)]
    exact (hall i hi hi).1 j hj
  · split
    · simpa using hfr
    · refine ⟨?_, ?_, ?_⟩
      · simp only [List.singleton_append, List.nodup_cons]
        exact ⟨fun hm => by have := hgt _ hm; omega, hfr.nodup⟩
      · intro b hbF
        rcases List.mem_append.1 hbF with hbF | hbF
        · simp at hbF; omega
        · exact hfr.old b hbF
      · intro b hbF o
        rcases List.mem_append.1 hbF with hbF | hbF
        · simp at hbF; subst hbF; exact hrow.frozen o
        · exact hfr.free b hbF o


theorem info_node : (Tryz.prog.info? 27).map (fun i => (i.zero, i.size, i.bytes)) = some (some (.agg #[.int .i64 0, .int .i64 0, .string ⟨#[]⟩, .slice none 0 0, .slice none 0 0]), 5, 80) := by kernel_rfl

theorem run_make_nodes (n : Nat) (h : n ≤ 1048576) (w : World) :
    (Instr.makeSlice 25 (.int .i64 (n : Int)) (.int .i64 (n : Int))).run Tryz.prog w = .ok (.slice (some ⟨w.heap.size, 0, none⟩) n n) (w.alloc (.cells (madeCells #[.int .i64 0, .int .i64 0, .string ⟨#[]⟩, .slice none 0 0, .slice none 0 0] (n * 5)) 27)) := by
  obtain ⟨i, hi, hzz⟩ := Option.map_eq_some_iff.1 info_node
  simp only [Prod.mk.injEq] at hzz
  obtain ⟨hz, hs, hb⟩ := hzz
  have hr := run_make (P := Tryz.prog) w 25 27 i _ Tryz.underlying25 hi hz .i64 .i64 n n (by omega) (Int.le_refl _) (by rw [hb]; omega) (by omega)
  simp only [Int.toNat_natCast, hs] at hr
  exact hr

theorem rowIs_nodes (w : World) (z : Array Value) (n : Nat) (t : TypeId) : ∃ f, (w.alloc (.cells (madeCells z n) t)).rowIs w.heap.size t n f :=
  ⟨fun i => (madeCells z n)[i]?.getD default, by
    have := World.rowIs_alloc w (madeCells z n) t (fun i => (madeCells z n)[i]?.getD default) (fun i hi => by rw [Array.getElem?_eq_getElem hi]; rfl)
    rwa [size_madeCells] at this⟩

theorem sz_take (kids : List RT) {t : RT} (h : t ∈ kids) : t.sz ≤ szAll kids := by
  induction kids with
  | nil => simp at h
  | cons x l ih =>
    rw [szAll]
    rcases List.mem_cons.1 h with e | e
    · rw [e]; omega
    · have := ih e; omega

/-- A function that answers a node out of its own block. -/
theorem ret_node {fn : Func} {i : Nat} (hres : fn.results = #[ResultVar.cell i 27]) {tmps : Array Value} {w : World} {b : Nat} {t : TypeId} {a0 a1 a2 a3 a4 : Value}
    (ht : tmps[i]?.getD undef = .pointer (some ⟨b, 0, none⟩)) (h : w.heap[b]? = some (.cells #[a0, a1, a2, a3, a4] t (0, 0))) : (results fn tmps).run Tryz.prog w = .ok (.agg #[a0, a1, a2, a3, a4]) w := by
  obtain ⟨c0, c1, c2, c3, c4, -⟩ := five h
  simp [results, hres, ht, go_sem, c0, c1, c2, c3, c4]

/-- Three new blocks. -/
theorem zero_blocks (w : World) (a b c : Obj) : (((w.alloc a).alloc b).alloc c).heap[w.heap.size]? = some a ∧ (((w.alloc a).alloc b).alloc c).heap[w.heap.size + 1]? = some b ∧ (((w.alloc a).alloc b).alloc c).heap[w.heap.size + 1 + 1]? = some c ∧
    Below w.heap.size w (((w.alloc a).alloc b).alloc c) ∧ (((w.alloc a).alloc b).alloc c).heap.size = w.heap.size + 3 := by
  have e1 : (w.alloc a).heap.size = w.heap.size + 1 := by simp
  have e2 : ((w.alloc a).alloc b).heap.size = w.heap.size + 1 + 1 := by simp
  refine ⟨?_, ?_, ?_, ((((Below.refl _ w).alloc (Nat.le_refl _) _).alloc (by simp) _).alloc (by simp; omega) _), by simp⟩
  · rw [Below.heap_alloc _ _ _ (by simp; omega), Below.heap_alloc _ _ _ (by simp), heap_last]
  · rw [Below.heap_alloc _ _ _ (by simp), ← e1, heap_last]
  · rw [← e2, heap_last]

end Go.Proofs.YtmcjghhmcmkomaaGreatDoor

/- the laws' markText tells a text of a number; markStringS, markNodeS and markNode write these texts and numbers into the lists of a tree, and into nothing else; heldStringS, heldNodeS and heldNode find them there. -/
namespace Go.Proofs.YtmcjghhmcmkomaaGreatDoor
open Go Go.RowKit

/-- What markText makes of a number, ahead of what it has. -/
def mkGo (k : Nat) (out : ByteArray) : ByteArray :=
  if _h : k = 0 then out else mkGo (k / 10) ((ByteArray.mk #[48 + UInt8.ofNat (k % 10)]) ++ out)
termination_by k
decreasing_by omega

def markTxt (k : Nat) : ByteArray := (ByteArray.mk #[109]) ++ mkGo k ⟨#[]⟩

theorem mkGo_size (k : Nat) (out : ByteArray) : (mkGo k out).size ≤ k + out.size := by
  induction k using Nat.strongRecOn generalizing out with
  | _ k ih =>
    rw [mkGo]
    split
    · omega
    · have h := ih (k / 10) (by omega) ((ByteArray.mk #[48 + UInt8.ofNat (k % 10)]) ++ out)
      rw [ByteArray.size_append] at h
      have e : (ByteArray.mk #[48 + UInt8.ofNat (k % 10)]).size = 1 := rfl
      omega

theorem markTxt_size (k : Nat) (h : k ≤ 1000000000000) : (markTxt k).size ≤ maxLen := by
  unfold markTxt
  rw [ByteArray.size_append]
  have h1 := mkGo_size k ⟨#[]⟩
  have e : (ByteArray.mk #[109]).size = 1 := rfl
  have e2 : (ByteArray.mk #[]).size = 0 := rfl
  unfold maxLen
  omega

/-- 'string([]byte{x})' in the world in which that row has just been laid. -/
theorem mark_conv (w : World) (x : Int) : (convert 22 9 (.slice (some ⟨w.heap.size, 0, none⟩) 1 1)).run Tryz.prog (w.alloc (.cells #[.int .u8 x] 5)) = .ok (.string ⟨#[UInt8.ofNat x.toNat]⟩) (w.alloc (.cells #[.int .u8 x] 5)) := by
  rw [run_convert_bytes_string _ 22 9 5 _ 1 1 Tryz.underlying22 Tryz.underlying5 Tryz.underlying9]
  have hl := run_loadCells_list (P := Tryz.prog) (w.alloc (.cells #[.int .u8 x] 5)) ⟨w.heap.size, 0, none⟩ [Value.int .u8 x] (fun j v hj => by
    have h := World.cell?_alloc_mark w #[.int .u8 x] 5 (0, 0) j
    cases j with
    | zero => simp at hj; subst hj; simp [Addr.add]
    | succ j => simp at hj)
  rw [run_bytesToString _ _ 1 1 [x] hl]
  rfl

theorem few {q n : Nat} (h0 : 0 < q) (h : q * 10 ^ n ≤ 1000000000000) : n ≤ 12 := by
  have h1 : 10 ^ n ≤ 10 ^ 12 := by
    have : 1 * 10 ^ n ≤ q * 10 ^ n := Nat.mul_le_mul_right _ h0
    omega
  exact (Nat.pow_le_pow_iff_right (by decide)).1 h1

theorem fewer {q n : Nat} (h : q * 10 ^ n ≤ 1000000000000) : q / 10 * 10 ^ (n + 1) ≤ 1000000000000 := by
  have : q / 10 * 10 ^ (n + 1) = q / 10 * 10 * 10 ^ n := by rw [Nat.pow_succ, Nat.mul_assoc, Nat.mul_comm 10]
  rw [this]
  exact Nat.le_trans (Nat.mul_le_mul_right _ (by omega)) h

/-! ### What is written -/

/-- The blocks of F alone may have turned; all others that were there are as they were. -/
structure But (F : List Nat) (w w' : World) : Prop where
  os : w'.os = w.os
  tape : w'.tape = w.tape
  output : w'.output = w.output
  size : w.heap.size ≤ w'.heap.size
  block : ∀ k, k < w.heap.size → k ∉ F → w'.heap[k]? = w.heap[k]?
  free : ∀ k, k < w.heap.size → ∀ o, w'.frozen? ⟨k, o, none⟩ = w.frozen? ⟨k, o, none⟩
  room : ∀ k, k < w.heap.size → ∀ o, (w.cell? ⟨k, o, none⟩).isSome = true → (w'.cell? ⟨k, o, none⟩).isSome = true

theorem But.of_below {F : List Nat} {w w' : World} (h : Below w.heap.size w w') : But F w w' :=
  ⟨h.os, h.tape, h.output, h.size, fun k hk _ => h.block k hk, fun k hk _ => World.frozen?_of_block (w := w) (h.block k hk), fun k hk o ho => by rw [World.cell?_of_block (w := w) (a := ⟨k, o, none⟩) (h.block k hk)]; exact ho⟩

theorem But.refl (F : List Nat) (w : World) : But F w w := .of_below (Below.refl _ w)

theorem But.trans {F : List Nat} {a b c : World} (h : But F a b) (k : But F b c) : But F a c :=
  ⟨k.os.trans h.os, k.tape.trans h.tape, k.output.trans h.output, Nat.le_trans h.size k.size, fun i hi hF => (k.block i (Nat.lt_of_lt_of_le hi h.size) hF).trans (h.block i hi hF),
    fun i hi o => (k.free i (Nat.lt_of_lt_of_le hi h.size) o).trans (h.free i hi o), fun i hi o ho => k.room i (Nat.lt_of_lt_of_le hi h.size) o (h.room i hi o ho)⟩

theorem But.mono {F G : List Nat} {a b : World} (h : But F a b) (hs : ∀ x ∈ F, x ∈ G) : But G a b :=
  ⟨h.os, h.tape, h.output, h.size, fun i hi hG => h.block i hi (fun hF => hG (hs i hF)), h.free, h.room⟩

theorem But.cell {F : List Nat} {a b : World} (h : But F a b) {k : Nat} (hk : k < a.heap.size) (hF : k ∉ F) (o : Nat) : b.cell? ⟨k, o, none⟩ = a.cell? ⟨k, o, none⟩ :=
  World.cell?_of_block (w := a) (h.block k hk hF)

theorem frozen_set (w : World) (a : Addr) (v : Value) (k o : Nat) : (w.setCell a v).frozen? ⟨k, o, none⟩ = w.frozen? ⟨k, o, none⟩ := World.frozen?_setCell w a ⟨k, o, none⟩ v

theorem But.set {F : List Nat} {a w : World} (h : But F a w) {p : Addr} (hp : p.block ∈ F) (v : Value) : But F a (w.setCell p v) :=
  h.trans ⟨rfl, rfl, rfl, by simp [World.setCell], fun k _ hF => Below.heap_setCell _ _ _ _ (fun e => hF (e ▸ hp)), fun k _ o => frozen_set w p v k o, fun k _ o ho => by
    obtain ⟨u, hu⟩ := Option.isSome_iff_exists.1 ho
    obtain ⟨u', hu'⟩ := cell?_setCell_some (p := p) (x := v) hu
    rw [hu']; rfl⟩

theorem Room.but {F : List Nat} {w w' : World} {b off n : Nat} (h : Room w b off n) (hb : But F w w') : Room w' b off n := fun i hi => hb.room b (h.lt (by omega)) _ (h i hi)

/-- What lies outside F lies there still. -/
theorem Lies.but {w w' : World} {T : RT} {kv dv : Value} {F G : List Nat} (h : Lies w T kv dv F) (hb : But G w w') (hd : ∀ b ∈ F, b ∉ G) : Lies w' T kv dv F :=
  h.carry fun b hF => hb.block b (h.lt b hF) (hd b hF)

/-- The texts that markStringS writes. -/
def markStrs (n k : Nat) : List ByteArray := (List.range n).map fun i => markTxt (k + i)

theorem markStrs_length (n k : Nat) : (markStrs n k).length = n := by simp [markStrs]

mutual
/-- How many marks a tree takes; its head takes none. -/
def RT.cnt : RT → Nat
  | .node _ _ _ keys kids => keys.length + cntAll kids
def cntAll : List RT → Nat
  | [] => 0
  | t :: ts => 3 + t.cnt + cntAll ts
end

mutual
/-- A tree with its marks. -/
def RT.mark : RT → Nat → RT
  | .node a n s keys kids, k => .node a n s (markStrs keys.length k) (markAll kids (k + keys.length))
def markAll : List RT → Nat → List RT
  | [], _ => []
  | t :: ts, k => .node k (k + 1 : Nat) (markTxt (k + 2)) (t.mark (k + 3)).keys (t.mark (k + 3)).kids :: markAll ts (k + 3 + t.cnt)
end

theorem markAll_length (l : List RT) (k : Nat) : (markAll l k).length = l.length := by
  induction l generalizing k with
  | nil => rfl
  | cons t l ih => simp [markAll, ih]


theorem cntAll_take (l : List RT) (i : Nat) (h : i < l.length) : cntAll (l.take (i + 1)) = cntAll (l.take i) + (3 + l[i].cnt) := by
  induction l generalizing i with
  | nil => simp at h
  | cons t l ih =>
    cases i with
    | zero => simp [cntAll]
    | succ i =>
      have := ih i (by simpa using h)
      simp only [List.take_succ_cons, cntAll, List.getElem_cons_succ]
      omega

theorem cntAll_take_le (l : List RT) (i : Nat) : cntAll (l.take i) ≤ cntAll l := by
  induction l generalizing i with
  | nil => simp
  | cons t l ih =>
    cases i with
    | zero => simp [cntAll]
    | succ i =>
      have := ih i
      simp only [List.take_succ_cons, cntAll]
      omega

theorem cnt_node (T : RT) : T.cnt = T.keys.length + cntAll T.kids := by cases T; rfl

theorem mark_keys (T : RT) (k : Nat) : (T.mark k).keys = markStrs T.keys.length k := by cases T; rfl
theorem mark_kids (T : RT) (k : Nat) : (T.mark k).kids = markAll T.kids (k + T.keys.length) := by cases T; rfl

/-- The i-th of a list of trees with its marks. -/
def markOne (T : RT) (k : Nat) : RT := .node k (k + 1 : Nat) (markTxt (k + 2)) (markStrs T.keys.length (k + 3)) (markAll T.kids (k + 3 + T.keys.length))

theorem markAll_get (l : List RT) (k i : Nat) (h : i < l.length) : (markAll l k)[i]'(by rw [markAll_length]; exact h) = markOne l[i] (k + cntAll (l.take i)) := by
  induction l generalizing i k with
  | nil => simp at h
  | cons t l ih =>
    cases i with
    | zero => simp [markAll, markOne, cntAll, mark_keys, mark_kids]
    | succ i =>
      have := ih (k + 3 + t.cnt) i (by simpa using h)
      simp only [markAll, List.getElem_cons_succ, List.take_succ_cons, cntAll]
      rw [this]
      congr 1
      omega

theorem set_cell {w : World} {b o : Nat} {u : Value} (h : w.cell? ⟨b, o, none⟩ = some u) (v : Value) (o' : Nat) : (w.setCell ⟨b, o, none⟩ v).cell? ⟨b, o', none⟩ = if o' = o then some v else w.cell? ⟨b, o', none⟩ := by
  by_cases e : o' = o
  · subst e
    rw [if_pos rfl, World.cell?_setCell_same _ _ _ h]
  · rw [if_neg e, World.cell?_setCell_other _ _ _ _ (fun h => e (by injection h with _ h2; exact h2.symm))]

end Go.Proofs.YtmcjghhmcmkomaaGreatDoor

/- the laws' markNodeS and markNode write their marks into the lists of a tree whose lists lie apart, and into nothing else. -/
namespace Go.Proofs.YtmcjghhmcmkomaaGreatDoor
open Go Go.RowKit

theorem flat_apart {FF : Nat → List Nat} {n : Nat} (h : ((List.range n).flatMap FF).Nodup) : (∀ i, i < n → (FF i).Nodup) ∧ ∀ i j, i < n → j < n → i ≠ j → ∀ x ∈ FF i, x ∉ FF j := by
  induction n with
  | zero => exact ⟨fun i hi => absurd hi (by omega), fun i j hi => absurd hi (by omega)⟩
  | succ n ih =>
    rw [List.range_succ, List.flatMap_append] at h
    simp only [List.flatMap_cons, List.flatMap_nil, List.append_nil] at h
    obtain ⟨h1, h2, h3⟩ := List.nodup_append.1 h
    obtain ⟨i1, i2⟩ := ih h1
    have mem : ∀ i, i < n → ∀ x ∈ FF i, x ∈ (List.range n).flatMap FF := fun i hi x hx => List.mem_flatMap.2 ⟨i, List.mem_range.2 hi, hx⟩
    refine ⟨fun i hi => ?_, fun i j hi hj hij x hx hx' => ?_⟩
    · by_cases e : i = n
      · subst e; exact h2
      · exact i1 i (by omega)
    · by_cases e : i = n
      · subst e
        exact h3 x (mem j (by omega) x hx') x hx rfl
      · by_cases e2 : j = n
        · subst e2
          exact h3 x (mem i (by omega) x hx) x hx' rfl
        · exact i2 i j (by omega) (by omega) hij x hx hx'

/-- A row of trees, some of which have their marks: all that has turned lies in F. -/
structure MState (F : List Nat) (w wr : World) (b off n : Nat) (KV DV : Nat → Value) (FF : Nat → List Nat) (M : Nat → RT) : Prop where
  but : But F w wr
  row : ∀ j, j < n → ∀ c, c < 5 → wr.cell? ⟨b, off + j * 5 + c, none⟩ = ((M j).row (KV j) (DV j))[c]?
  lie : ∀ j, j < n → Lies wr (M j) (KV j) (DV j) (FF j)

theorem MState.step {F : List Nat} {w wr w' : World} {b off n : Nat} {KV DV : Nat → Value} {FF : Nat → List Nat} {M : Nat → RT} (h : MState F w wr b off n KV DV FF M) {i : Nat} (hi : i < n) (X : RT)
    (hbF : b ∈ F) (hbF' : ∀ j, j < n → b ∉ FF j) (hFF : ∀ x ∈ FF i, x ∈ F) (hap : ∀ j, j < n → j ≠ i → ∀ x ∈ FF j, x ∉ FF i)
    (hbut : But (b :: FF i) wr w') (hrow : ∀ c, c < 5 → w'.cell? ⟨b, off + i * 5 + c, none⟩ = (X.row (KV i) (DV i))[c]?)
    (hoth : ∀ j, j < n → j ≠ i → ∀ c, c < 5 → w'.cell? ⟨b, off + j * 5 + c, none⟩ = wr.cell? ⟨b, off + j * 5 + c, none⟩) (hl : Lies w' X (KV i) (DV i) (FF i)) :
    MState F w w' b off n KV DV FF (fun j => if j = i then X else M j) where
  but := h.but.trans (hbut.mono fun x hx => by
    rcases List.mem_cons.1 hx with e | e
    · rw [e]; exact hbF
    · exact hFF x e)
  row := fun j hj c hc => by
    by_cases e : j = i
    · subst e
      simp only [if_true]
      exact hrow c hc
    · simp only [e, if_false]
      rw [hoth j hj e c hc]
      exact h.row j hj c hc
  lie := fun j hj => by
    by_cases e : j = i
    · subst e
      simp only [if_true]
      exact hl
    · simp only [e, if_false]
      refine (h.lie j hj).but hbut fun x hx hx' => ?_
      rcases List.mem_cons.1 hx' with e' | e'
      · exact hbF' j hj (e' ▸ hx)
      · exact hap j hj e x hx e'

/-- The first three cells of a node, written, with a call between. -/
theorem mark_head {wr w1 : World} {b p : Nat} {x : RT} {kv dv : Value} (q : Nat) (hrow : ∀ c, c < 5 → wr.cell? ⟨b, p + c, none⟩ = (x.row kv dv)[c]?)
    (hb1 : Below ((wr.setCell ⟨b, p, none⟩ (.int .i64 (q : Nat))).setCell ⟨b, p + 1, none⟩ (.int .i64 (q + 1 : Nat))).heap.size ((wr.setCell ⟨b, p, none⟩ (.int .i64 (q : Nat))).setCell ⟨b, p + 1, none⟩ (.int .i64 (q + 1 : Nat))) w1) :
    But [b] wr (w1.setCell ⟨b, p + 2, none⟩ (.string (markTxt (q + 2)))) ∧ (∀ c, c < 5 → (w1.setCell ⟨b, p + 2, none⟩ (.string (markTxt (q + 2)))).cell? ⟨b, p + c, none⟩ = ((markOne x q).row kv dv)[c]?) ∧
    (∀ o, (o < p ∨ p + 5 ≤ o) → (w1.setCell ⟨b, p + 2, none⟩ (.string (markTxt (q + 2)))).cell? ⟨b, o, none⟩ = wr.cell? ⟨b, o, none⟩) ∧ w1.cell? ⟨b, p + 2, none⟩ = some (.string x.s) ∧ w1.cell? ⟨b, p + 3, none⟩ = some kv ∧ w1.cell? ⟨b, p + 4, none⟩ = some dv ∧ But [b] wr w1 := by
  have c0 : wr.cell? ⟨b, p, none⟩ = some (.int .i64 x.k) := hrow 0 (by omega)
  have c1 : wr.cell? ⟨b, p + 1, none⟩ = some (.int .i64 x.n) := hrow 1 (by omega)
  have c2 : wr.cell? ⟨b, p + 2, none⟩ = some (.string x.s) := hrow 2 (by omega)
  have c3 : wr.cell? ⟨b, p + 3, none⟩ = some kv := hrow 3 (by omega)
  have c4 : wr.cell? ⟨b, p + 4, none⟩ = some dv := hrow 4 (by omega)
  have hlt : b < wr.heap.size := World.block_lt_of_cell? _ _ c0
  have hA1 : (wr.setCell ⟨b, p, none⟩ (.int .i64 (q : Nat))).cell? ⟨b, p + 1, none⟩ = some (.int .i64 x.n) := by rw [set_cell c0, if_neg (by omega)]; exact c1
  have hA : ∀ o, ((wr.setCell ⟨b, p, none⟩ (.int .i64 (q : Nat))).setCell ⟨b, p + 1, none⟩ (.int .i64 (q + 1 : Nat))).cell? ⟨b, o, none⟩ = if o = p + 1 then some (.int .i64 (q + 1 : Nat)) else if o = p then some (.int .i64 (q : Nat)) else wr.cell? ⟨b, o, none⟩ := fun o => by
    rw [set_cell hA1, set_cell c0]
  have hw1 : ∀ o, w1.cell? ⟨b, o, none⟩ = if o = p + 1 then some (.int .i64 (q + 1 : Nat)) else if o = p then some (.int .i64 (q : Nat)) else wr.cell? ⟨b, o, none⟩ := fun o => by
    rw [hb1.cell (by simp [World.setCell]; exact hlt), hA]
  have h2 : w1.cell? ⟨b, p + 2, none⟩ = some (.string x.s) := by rw [hw1, if_neg (by omega), if_neg (by omega)]; exact c2
  have hbut : But [b] wr w1 := ((((But.refl [b] wr).set (p := ⟨b, p, none⟩) (by simp) _).set (p := ⟨b, p + 1, none⟩) (by simp) _).trans (But.of_below hb1))
  refine ⟨hbut.set (by simp) _, fun c hc => ?_, fun o ho => ?_, h2, ?_, ?_, hbut⟩
  · rw [set_cell h2, hw1]
    match c, hc with
    | 0, _ => rw [if_neg (by omega), if_neg (by omega), if_pos (by omega)]; rfl
    | 1, _ => rw [if_neg (by omega), if_pos rfl]; rfl
    | 2, _ => rw [if_pos rfl]; rfl
    | 3, _ => rw [if_neg (by omega), if_neg (by omega), if_neg (by omega)]; exact c3
    | 4, _ => rw [if_neg (by omega), if_neg (by omega), if_neg (by omega)]; exact c4
  · rw [set_cell h2, hw1, if_neg (by omega), if_neg (by omega), if_neg (by omega)]
  · rw [hw1, if_neg (by omega), if_neg (by omega)]; exact c3
  · rw [hw1, if_neg (by omega), if_neg (by omega)]; exact c4

end Go.Proofs.YtmcjghhmcmkomaaGreatDoor

/- the laws' markNode marks a whole tree; heldStringS, heldNodeS and heldNode find the marks where they are. -/
namespace Go.Proofs.YtmcjghhmcmkomaaGreatDoor
open Go Go.RowKit

theorem StrsAt.but {w w' : World} {v : Value} {ks : List ByteArray} {F G : List Nat} (h : StrsAt w v ks F) (hb : But G w w') (hd : ∀ b ∈ F, b ∉ G) : StrsAt w' v ks F :=
  h.carry fun b hF => hb.block b (h.lt b hF) (hd b hF)
theorem KidsLie.but {w w' : World} {v : Value} {ks : List RT} {F G : List Nat} (h : KidsLie w v ks F) (hb : But G w w') (hd : ∀ b ∈ F, b ∉ G) : KidsLie w' v ks F :=
  h.carry fun b hF => hb.block b (h.lt b hF) (hd b hF)

end Go.Proofs.YtmcjghhmcmkomaaGreatDoor

/- the laws' heldNodeS and heldNode find the marks of a tree where they are. -/
namespace Go.Proofs.YtmcjghhmcmkomaaGreatDoor
open Go Go.RowKit

end Go.Proofs.YtmcjghhmcmkomaaGreatDoor

/- the laws' eqNode tells whether two trees are the same. -/
namespace Go.Proofs.YtmcjghhmcmkomaaGreatDoor
open Go Go.RowKit

end Go.Proofs.YtmcjghhmcmkomaaGreatDoor

/- whatever reads as a tree of the laws' own type lies in memory as a tree does. -/
namespace Go.Proofs.YtmcjghhmcmkomaaGreatDoor
open Go Go.RowKit Go.ChangeShapes Go.WideShapes

section
variable {H : Type} {enc : TypeId × Value → H} {w : World} {base : Nat} {held : Bool}

theorem fit_of_wf {x : Int} (h : (Lit.int .i64 x).wf = true) : Fit x := bounds_i64 h

theorem cells_string : Tryz.prog.cellsOf 9 = 1 := by kernel_rfl
theorem cells_int : Tryz.prog.cellsOf 3 = 1 := by kernel_rfl
theorem cells_strs : Tryz.prog.cellsOf 24 = 1 := by kernel_rfl
/-- A list of texts that is read. -/
theorem open_strsAt {fuel : Nat} {cs : List Value} {x : DataW H × List MemPlace} (h : DataW.trod enc Tryz.prog w base (fun _ => true) held fuel 24 cs = some x) : ∃ v ks F, cs = [v] ∧ StrsAt w v ks F := by
  rcases Go.Deep.open_strs Tryz.underlying24 Tryz.underlying9 cells_string h with ⟨rfl, -⟩ | ⟨a, len, cap, m, Sx, rfl, hb, hl, hm, hmm, -, hx⟩
  · exact ⟨_, [], [], rfl, none, 0, 0, 0, rfl, Nat.le_refl _, Nat.zero_le _, fun h => absurd h (by simp), rfl, fun i hi => absurd hi (by simp), Room.nil _ _ _⟩
  · have hmc : m = cap := by simpa using hmm
    subst hmc
    obtain ⟨ab, aoff, aspot⟩ := a
    by_cases h0 : m = 0
    · subst h0
      obtain rfl : len = 0 := by omega
      exact ⟨_, [], _, rfl, _, 0, 0, 0, rfl, Nat.zero_le _, hm, fun h => absurd h (by simp), rfl, fun i hi => absurd hi (by simp), Room.nil _ _ _⟩
    · have hspot : aspot = none := by simpa [Addr.add] using World.cell?_spot (hx 0 (by omega)).1
      subst hspot
      refine ⟨_, (List.range len).map Sx, _, rfl, _, m, ab, aoff, by simp, by simpa using hl, hm, fun _ => rfl, rfl, fun i hi => ?_, fun i hi => ?_⟩
      · simp only [List.length_map, List.length_range] at hi
        have := hx i (by omega)
        rw [add_plain] at this
        simpa using this
      · have := (hx i hi).1
        rw [add_plain] at this
        rw [this]; rfl

end
end Go.Proofs.YtmcjghhmcmkomaaGreatDoor

/- plain facts on trees without keys and kids. -/
namespace Go.Proofs.YtmcjghhmcmkomaaGreatDoor
open Go Go.RowKit

/-- A node without keys and kids lies in no memory. -/
theorem leaf_lies (w : World) {k n : Int} {s : ByteArray} (hk : Fit k) (hn : Fit n) (hs : s.size ≤ maxLen) : Lies w (.node k n s [] []) (.slice none 0 0) (.slice none 0 0) [] :=
  Lies.into (FK := []) (FD := []) hk hn hs ⟨none, 0, 0, 0, rfl, Nat.le_refl _, Nat.zero_le _, fun h => absurd h (by simp), rfl, fun i hi => absurd hi (by simp), Room.nil _ _ _⟩
    ⟨none, 0, 0, 0, fun _ => [], fun _ => .bool true, fun _ => .bool true, rfl, Nat.le_refl _, Nat.zero_le _, fun h => absurd h (by simp), rfl, fun i hi => absurd hi (by simp), fun i hi => absurd hi (by simp), Room.nil _ _ _⟩

theorem But.below {w w' : World} (h : But [] w w') : Below w.heap.size w w' := ⟨h.os, h.tape, h.output, h.size, fun k hk => h.block k hk (by simp)⟩

/-- A function whose whole work is to hand on what another one answers, by a block of its own. -/
theorem hand_on {w w1 : World} {z0 z1 z2 z3 z4 : Value} {t : TypeId} (hb : Below (w.alloc (.cells #[z0, z1, z2, z3, z4] t)).heap.size (w.alloc (.cells #[z0, z1, z2, z3, z4] t)) w1) :
    w1.heap[w.heap.size]? = some (.cells #[z0, z1, z2, z3, z4] t (0, 0)) ∧ Below w.heap.size w w1 := by
  have h0 := (Below.refl _ w).alloc (Nat.le_refl _) (.cells #[z0, z1, z2, z3, z4] t)
  exact ⟨(hb.block _ (by simp)).trans (heap_last w _), h0.trans (hb.mono h0.size)⟩

end Go.Proofs.YtmcjghhmcmkomaaGreatDoor

/- the program's keysOk and the model's l3Keys answer the same of every list of texts: each is TextOk, and they ascend. -/
namespace Go.Proofs.YtmcjghhmcmkomaaGreatDoor
open Go Go.RowKit

theorem str_geq (t : TypeId) (a b : ByteArray) : binOp .geq t (.string a) (.string b) = pure (.bool !(Op.bytesLess a.toList b.toList)) := by simp [binOp, Op.stringOp]

/-- What is asked of the i-th key. -/
def KeyAt (ks : List ByteArray) (i : Nat) (h : i < ks.length) : Prop := textOk ks[i] = true ∧ (∀ _h : 0 < i, Op.bytesLess (ks[i - 1]'(by omega)).toList ks[i].toList = true)

/-- Keys that are TextOk and ascend. -/
noncomputable def keysOk (ks : List ByteArray) : Bool := @decide (∀ i (h : i < ks.length), KeyAt ks i h) (Classical.propDecidable _)

theorem keysOk_yes {ks : List ByteArray} (h : ∀ i (h : i < ks.length), KeyAt ks i h) : keysOk ks = true := @decide_eq_true _ (Classical.propDecidable _) h
theorem keysOk_no {ks : List ByteArray} {i : Nat} (h : i < ks.length) (hn : ¬ KeyAt ks i h) : keysOk ks = false := @decide_eq_false _ (Classical.propDecidable _) (fun h' => hn (h' i h))

set_option maxRecDepth 100000 in
set_option maxHeartbeats 800000 in
theorem impl_keysOk {v : Value} {ks : List ByteArray} {F : List Nat} (w : World) (hs : StrsAt w v ks F) :
    Calls Tryz.prog 125 #[v] w fun e w' => e = .returned (.bool (keysOk ks)) ∧ w' = w := by
  obtain ⟨o, cap, b, off, rfl, hlc, hcm, ho, -, hcell, -⟩ := hs
  have HC := Lib.hid hcell
  have HO := Lib.hid ho
  clear hcell ho
  unfold maxLen at hcm
  have hge := str_geq
  go_enter Tryz.func125, Tryz.ntmps125
  go_wp2
  go_loop [7] (fun i => ∃ k : Nat, k ≤ ks.length ∧ i = .int .i64 k ∧ Hid (∀ i (h : i < ks.length), i < k → KeyAt ks i h)) (fun i => ks.length - (intOf i).toNat)
  case atStart => exact ⟨0, Nat.zero_le _, rfl, fun i _ h => absurd h (by omega)⟩
  case round =>
    obtain ⟨k, hk, rfl, hr⟩ := hrel
    by_cases hlt : k < ks.length
    · have ho := HO.out (by omega)
      subst ho
      obtain ⟨c0, m0⟩ := HC.out k hlt
      have HT := Lib.hid (impl_textOk ks[k] m0)
      have HS : Hid (KeyAt ks k hlt → ∀ i (h : i < ks.length), i < k + 1 → KeyAt ks i h) := fun hk1 i h hi => by
        by_cases e : i = k
        · subst e; exact hk1
        · exact hr.out i h (by omega)
      by_cases ht : textOk ks[k] = true
      · rw [ht] at HT
        by_cases hp : 0 < k
        · obtain ⟨j, rfl⟩ : ∃ j, k = j + 1 := ⟨k - 1, by omega⟩
          obtain ⟨c1, m1⟩ := HC.out j (by omega)
          have e1 : (((j + 1 : Nat) : Int) - 1) = j := by omega
          by_cases hle : Op.bytesLess ks[j].toList ks[j + 1].toList = true
          · have HY := Lib.hid (HS.out ⟨ht, fun _ => hle⟩)
            clear HS ht m0 m1
            generalize ks[j] = y at *
            generalize ks[j + 1] = x at *
            go_wp2_with (first
              | (go_at_call 69; refine (HT.out _).mono ?_; rintro e w1 ⟨rfl, e1⟩; subst e1)
              | go_in)
            go_round
            case rel => exact ⟨j + 1 + 1, by omega, by go_num, HY.out⟩
            case measure => simp [intOf]; omega
          · have HN := Lib.hid (keysOk_no hlt (fun h => hle (h.2 hp)))
            have hle' : Op.bytesLess ks[j].toList ks[j + 1].toList = false := by simpa using hle
            clear HS ht m0 m1 hle
            generalize ks[j] = y at *
            generalize ks[j + 1] = x at *
            go_wp2_with (first
              | (go_at_call 69; refine (HT.out _).mono ?_; rintro e w1 ⟨rfl, e1⟩; subst e1)
              | go_in)
            go_ret
            exact ⟨by rw [HN.out]; rfl, rfl⟩
        · have e0 : k = 0 := by omega
          subst e0
          have HY := Lib.hid (HS.out ⟨ht, fun h => absurd h hp⟩)
          clear HS ht m0
          rw [Nat.add_zero] at c0
          generalize ks[0] = x at *
          go_wp2_with (first
            | (go_at_call 69; refine (HT.out _).mono ?_; rintro e w1 ⟨rfl, e1⟩; subst e1)
            | go_in)
          go_round
          case rel => exact ⟨1, by omega, by go_num, HY.out⟩
          case measure => simp [intOf]; omega
      · have HN := Lib.hid (keysOk_no hlt (fun h => ht h.1))
        have ht' : textOk ks[k] = false := by simpa using ht
        rw [ht'] at HT
        clear HS ht ht' m0
        generalize ks[k] = x at *
        go_wp2_with (first
          | (go_at_call 69; refine (HT.out _).mono ?_; rintro e w1 ⟨rfl, e1⟩; subst e1)
          | go_in)
        go_ret
        exact ⟨by rw [HN.out]; rfl, rfl⟩
    · have HY := Lib.hid (keysOk_yes (ks := ks) (fun i h => hr.out i h (by omega)))
      go_wp2
      go_ret
      exact ⟨by rw [HY.out]; rfl, rfl⟩

set_option maxRecDepth 100000 in
set_option maxHeartbeats 800000 in
theorem spec_keys {v : Value} {ks : List ByteArray} {F : List Nat} (w : World) (hs : StrsAt w v ks F) :
    Calls Tryz.prog 73 #[v] w fun e w' => e = .returned (.bool (keysOk ks)) ∧ Below w.heap.size w w' := by
  obtain ⟨o, cap, b, off, rfl, hlc, hcm, ho, -, hcell, -⟩ := hs
  have HC := Lib.hid hcell
  have HO := Lib.hid ho
  clear hcell ho
  unfold maxLen at hcm
  have hge := str_geq
  go_enter Tryz.func73, Tryz.ntmps73
  go_wp2
  go_loopw [3] (fun i wr => ∃ k : Nat, k ≤ ks.length ∧ i = .int .i64 k ∧ Hid (∀ i (h : i < ks.length), i < k → KeyAt ks i h) ∧ Hid (Below w.heap.size w wr)) (fun i _ => ks.length - (intOf i).toNat)
  case atStart => exact ⟨0, Nat.zero_le _, rfl, fun i _ h => absurd h (by omega), Below.refl _ _⟩
  case round =>
    obtain ⟨k, hk, rfl, hr, hb⟩ := hrel
    by_cases hlt : k < ks.length
    · have ho := HO.out (by omega)
      subst ho
      obtain ⟨cw, m0⟩ := HC.out k hlt
      have c0 : wr.cell? ⟨b, off + k, none⟩ = some (.string ks[k]) := by
        rw [hb.out.cell (by exact World.block_lt_of_cell? _ _ cw)]; exact cw
      clear cw
      have HT := Lib.hid (spec_textOk ks[k] m0)
      have hi0 : (0 : Int) ≤ (k : Int) := by omega
      have hi1 : (k : Int) < (ks.length : Int) := by omega
      have HS : Hid (KeyAt ks k hlt → ∀ i (h : i < ks.length), i < k + 1 → KeyAt ks i h) := fun hk1 i h hi => by
        by_cases e : i = k
        · subst e; exact hk1
        · exact hr.out i h (by omega)
      by_cases ht : textOk ks[k] = true
      · rw [ht] at HT
        by_cases hp : 0 < k
        · obtain ⟨j, rfl⟩ : ∃ j, k = j + 1 := ⟨k - 1, by omega⟩
          obtain ⟨cw, m1⟩ := HC.out j (by omega)
          have c1 : wr.cell? ⟨b, off + j, none⟩ = some (.string ks[j]) := by
            rw [hb.out.cell (by exact World.block_lt_of_cell? _ _ cw)]; exact cw
          clear cw
          have hi2 : (0 : Int) ≤ (j : Int) := by omega
          have hi3 : (j : Int) < (ks.length : Int) := by omega
          have e1 : (((j + 1 : Nat) : Int) - 1) = j := by omega
          by_cases hle : Op.bytesLess ks[j].toList ks[j + 1].toList = true
          · have HY := Lib.hid (HS.out ⟨ht, fun _ => hle⟩)
            clear HS ht m0 m1
            generalize ks[j] = y at *
            generalize ks[j + 1] = x at *
            go_wp2
            go_quiet (first | (go_at_call 74; exact Calls.quiet_of_same (HT.out _)))
            go_wp2
            exact ⟨⟨j + 1 + 1, by omega, by go_num, HY.out, below_drewN hb.out _⟩, by simp [intOf]; omega⟩
          · have HN := Lib.hid (keysOk_no hlt (fun h => hle (h.2 hp)))
            have hle' : Op.bytesLess ks[j].toList ks[j + 1].toList = false := by simpa using hle
            clear HS ht m0 m1 hle
            generalize ks[j] = y at *
            generalize ks[j + 1] = x at *
            go_wp2
            go_quiet (first | (go_at_call 74; exact Calls.quiet_of_same (HT.out _)))
            go_wp2
            go_ret
            exact ⟨by rw [HN.out]; rfl, below_drewN hb.out _⟩
        · have e0 : k = 0 := by omega
          subst e0
          have HY := Lib.hid (HS.out ⟨ht, fun h => absurd h hp⟩)
          clear HS ht m0
          rw [Nat.add_zero] at c0
          generalize ks[0] = x at *
          go_wp2
          go_quiet (first | (go_at_call 74; exact Calls.quiet_of_same (HT.out _)))
          go_wp2
          exact ⟨⟨1, by omega, by go_num, HY.out, below_drewN hb.out _⟩, by simp [intOf]; omega⟩
      · have HN := Lib.hid (keysOk_no hlt (fun h => ht h.1))
        have ht' : textOk ks[k] = false := by simpa using ht
        rw [ht'] at HT
        clear HS ht ht' m0
        generalize ks[k] = x at *
        go_wp2
        go_quiet (first | (go_at_call 74; exact Calls.quiet_of_same (HT.out _)))
        go_wp2
        go_ret
        exact ⟨by rw [HN.out]; rfl, below_drewN hb.out _⟩
    · have HY := Lib.hid (keysOk_yes (ks := ks) (fun i h => hr.out i h (by omega)))
      go_wp2
      go_ret
      exact ⟨by rw [HY.out]; rfl, hb.out⟩
end Go.Proofs.YtmcjghhmcmkomaaGreatDoor

/- for both flags the program's FlagOf answers as the model's FlagOf does, in memory of its own; no condition. -/
namespace Go.Proofs.YtmcjghhmcmkomaaGreatDoor
open Go Go.RowKit

set_option maxHeartbeats 400000 in
theorem node_flag (x : Int) (w : World) : Calls Tryz.prog 155 #[.int .i64 x] w fun e w' => e = .returned (.agg #[.int .i64 1, .int .i64 x, .string ⟨#[]⟩, .slice none 0 0, .slice none 0 0]) ∧ Below w.heap.size w w' := by
  go_enter Tryz.func155, Tryz.ntmps155
  go_wp2
  exact bodyPost_ret (ret_node Tryz.results155 rfl (heap_last w _)) rfl ⟨rfl, (Below.refl _ w).alloc (Nat.le_refl _) _⟩

set_option maxHeartbeats 400000 in
theorem spec_flagOf_true  (w : World) : Calls Tryz.prog 60 #[.bool true] w fun e w' => e = .returned (.agg #[.int .i64 1, .int .i64 1, .string ⟨#[]⟩, .slice none 0 0, .slice none 0 0]) ∧ Below w.heap.size w w' := by
  go_enter Tryz.func60, Tryz.ntmps60
  go_wp2
  exact bodyPost_ret (ret_node Tryz.results60 rfl (heap_last w _)) rfl ⟨rfl, (Below.refl _ w).alloc (Nat.le_refl _) _⟩

set_option maxHeartbeats 400000 in
theorem impl_flagOf_true  (w : World) : Calls Tryz.prog 140 #[.bool true] w fun e w' => e = .returned (.agg #[.int .i64 1, .int .i64 1, .string ⟨#[]⟩, .slice none 0 0, .slice none 0 0]) ∧ Below w.heap.size w w' := by
  go_enter Tryz.func140, Tryz.ntmps140
  go_wp2_with (first
    | (go_at_call 155; refine (node_flag _ _).mono ?_; rintro e w1 ⟨rfl, hb1⟩; obtain ⟨hh, hB⟩ := hand_on hb1; obtain ⟨g0, g1, g2, g3, g4, g5⟩ := five hh; have HH := Lib.hid (And.intro hh hB); clear hh hB hb1)
    | go_in)
  exact bodyPost_ret (ret_node Tryz.results140 rfl (set5_end HH.out.1 _ _ _ _ _)) rfl ⟨rfl, set5_below HH.out.2 (Nat.le_refl _) 0 _ _ _ _ _⟩

set_option maxHeartbeats 400000 in
theorem spec_flagOf_false  (w : World) : Calls Tryz.prog 60 #[.bool false] w fun e w' => e = .returned (.agg #[.int .i64 1, .int .i64 0, .string ⟨#[]⟩, .slice none 0 0, .slice none 0 0]) ∧ Below w.heap.size w w' := by
  go_enter Tryz.func60, Tryz.ntmps60
  go_wp2
  exact bodyPost_ret (ret_node Tryz.results60 rfl (heap_last w _)) rfl ⟨rfl, (Below.refl _ w).alloc (Nat.le_refl _) _⟩

set_option maxHeartbeats 400000 in
theorem impl_flagOf_false  (w : World) : Calls Tryz.prog 140 #[.bool false] w fun e w' => e = .returned (.agg #[.int .i64 1, .int .i64 0, .string ⟨#[]⟩, .slice none 0 0, .slice none 0 0]) ∧ Below w.heap.size w w' := by
  go_enter Tryz.func140, Tryz.ntmps140
  go_wp2_with (first
    | (go_at_call 155; refine (node_flag _ _).mono ?_; rintro e w1 ⟨rfl, hb1⟩; obtain ⟨hh, hB⟩ := hand_on hb1; obtain ⟨g0, g1, g2, g3, g4, g5⟩ := five hh; have HH := Lib.hid (And.intro hh hB); clear hh hB hb1)
    | go_in)
  exact bodyPost_ret (ret_node Tryz.results140 rfl (set5_end HH.out.1 _ _ _ _ _)) rfl ⟨rfl, set5_below HH.out.2 (Nat.le_refl _) 0 _ _ _ _ _⟩


end Go.Proofs.YtmcjghhmcmkomaaGreatDoor
