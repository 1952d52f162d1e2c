/-
  What is proved: plain facts on trees as they lie in memory: which blocks a tree lies in, and that it lies there still in every world that has these blocks as they were.; the laws' eqStringS, eqNodeS and eqNode tell whether two lists of texts, two lists of trees, two trees are the same.; how much of a room the laws take a list of texts, a list of trees, and a tree for: less what it holds, or -1 where that is more.; the laws' toStringS, toNodeS and toNode lay the same texts and trees into new memory.
-/
import Derived.Below
import Derived.Lib.Hide
import Derived.Laws.Strings
import Derived.Test.YtfmkhogpnnobeaaGreatDoorRows
import Derived.WalkKit
import Derived.WalkSpells
import Derived.Deep.QuietTactic
import Derived.Deep.RegionWith
import Derived.BigQuiet
import Derived.Deep.OwnRows
import Derived.Deep.Slices
/- plain facts on trees as they lie in memory: which blocks a tree lies in, and that it lies there still in every world that has these blocks as they were. -/
namespace Go.Proofs.YtfmkhogpnnobeaaGreatDoor
open Go Go.RowKit

/-- A tree: its kind, its number, its text, its keys, its kids. -/
inductive RT where
  | node (k n : Int) (s : ByteArray) (keys : List ByteArray) (kids : List RT)

instance : Inhabited RT := ⟨.node 0 0 ByteArray.empty [] []⟩

def RT.k : RT → Int | .node k _ _ _ _ => k
def RT.n : RT → Int | .node _ n _ _ _ => n
def RT.s : RT → ByteArray | .node _ _ s _ _ => s
def RT.keys : RT → List ByteArray | .node _ _ _ l _ => l
def RT.kids : RT → List RT | .node _ _ _ _ l => l

theorem RT.eta (T : RT) : T = .node T.k T.n T.s T.keys T.kids := by cases T; rfl

theorem RT.ext {A B : RT} (h1 : A.k = B.k) (h2 : A.n = B.n) (h3 : A.s = B.s) (h4 : A.keys = B.keys) (h5 : A.kids = B.kids) : A = B := by
  rw [RT.eta A, RT.eta B, h1, h2, h3, h4, h5]

mutual
theorem RT.ind_aux {p : RT → Prop} (h : ∀ k n s keys kids, (∀ t ∈ kids, p t) → p (.node k n s keys kids)) : (t : RT) → p t
  | .node k n s keys kids => h k n s keys kids (RT.ind_all h kids)
theorem RT.ind_all {p : RT → Prop} (h : ∀ k n s keys kids, (∀ t ∈ kids, p t) → p (.node k n s keys kids)) : (l : List RT) → ∀ t ∈ l, p t
  | [], _, ht => absurd ht (by simp)
  | x :: l, t, ht => by
    rcases List.mem_cons.1 ht with e | e
    · rw [e]; exact RT.ind_aux h x
    · exact RT.ind_all h l t e
end

theorem RT.ind {p : RT → Prop} (h : ∀ k n s keys kids, (∀ t ∈ kids, p t) → p (.node k n s keys kids)) (t : RT) : p t := RT.ind_aux h t

/-- A number of 64 bits. -/
def Fit (x : Int) : Prop := -9223372036854775808 ≤ x ∧ x ≤ 9223372036854775807

/-- A node's five cells, of which two lead on. -/
def RT.row (T : RT) (kv dv : Value) : List Value := [.int .i64 T.k, .int .i64 T.n, .string T.s, kv, dv]
/-- A node as one value. -/
def RT.val (T : RT) (kv dv : Value) : Value := .agg #[.int .i64 T.k, .int .i64 T.n, .string T.s, kv, dv]

/-- There are so many cells from here on. -/
def Room (w : World) (b off n : Nat) : Prop := ∀ i, i < n → (w.cell? ⟨b, off + i, none⟩).isSome = true

/-- The list of texts that v is, and the block it lies in, its spare room too. -/
def StrsAt (w : World) (v : Value) (ks : List ByteArray) (F : List Nat) : Prop :=
  ∃ (o : Option Addr) (cap b off : Nat), v = .slice o ks.length cap ∧ ks.length ≤ cap ∧ cap ≤ maxLen ∧ (0 < cap → o = some ⟨b, off, none⟩) ∧ F = (if cap = 0 then [] else [b]) ∧
    (∀ i (h : i < ks.length), w.cell? ⟨b, off + i, none⟩ = some (.string ks[i]) ∧ ks[i].size ≤ maxLen) ∧ Room w b off cap

/-- The tree T lies in w behind these two lists, in the blocks F. -/
inductive Lies (w : World) : RT → Value → Value → List Nat → Prop
  | mk (k n : Int) (s : ByteArray) (keys : List ByteArray) (kids : List RT) (kv : Value) (FK : List Nat) (o : Option Addr) (cap b off : Nat) (FF : Nat → List Nat) (KV DV : Nat → Value) :
    Fit k → Fit n → s.size ≤ maxLen → StrsAt w kv keys FK → kids.length ≤ cap → cap ≤ maxLen → (0 < cap → o = some ⟨b, off, none⟩) → Room w b off (cap * 5) →
    (∀ i (h : i < kids.length), ∀ j, j < 5 → w.cell? ⟨b, off + i * 5 + j, none⟩ = (kids[i].row (KV i) (DV i))[j]?) →
    (∀ i (h : i < kids.length), Lies w kids[i] (KV i) (DV i) (FF i)) →
    Lies w (.node k n s keys kids) kv (.slice o kids.length cap) (FK ++ ((if cap = 0 then [] else [b]) ++ (List.range kids.length).flatMap FF))

/-- A list of trees that lies in w. -/
def KidsLie (w : World) (dv : Value) (kids : List RT) (F : List Nat) : Prop :=
  ∃ (o : Option Addr) (cap b off : Nat) (FF : Nat → List Nat) (KV DV : Nat → Value), dv = .slice o kids.length cap ∧ kids.length ≤ cap ∧ cap ≤ maxLen ∧ (0 < cap → o = some ⟨b, off, none⟩) ∧
    F = (if cap = 0 then [] else [b]) ++ (List.range kids.length).flatMap FF ∧
    (∀ i (h : i < kids.length), ∀ j, j < 5 → w.cell? ⟨b, off + i * 5 + j, none⟩ = (kids[i].row (KV i) (DV i))[j]?) ∧
    (∀ i (h : i < kids.length), Lies w kids[i] (KV i) (DV i) (FF i)) ∧ Room w b off (cap * 5)

theorem Room.carry {w w' : World} {b off n : Nat} (h : Room w b off n) (hb : w'.heap[b]? = w.heap[b]?) : Room w' b off n := fun i hi => by
  rw [World.cell?_of_block (w := w) (a := ⟨b, off + i, none⟩) hb]; exact h i hi

theorem Room.lt {w : World} {b off n : Nat} (h : Room w b off n) (hn : 0 < n) : b < w.heap.size := by
  have := h 0 hn
  obtain ⟨u, hu⟩ := Option.isSome_iff_exists.1 this
  exact World.block_lt_of_cell? _ _ hu

theorem Room.nil (w : World) (b off : Nat) : Room w b off 0 := fun i hi => absurd hi (by omega)

theorem Lies.out {w : World} {T : RT} {kv dv : Value} {F : List Nat} (h : Lies w T kv dv F) :
    Fit T.k ∧ Fit T.n ∧ T.s.size ≤ maxLen ∧ ∃ FK FD, StrsAt w kv T.keys FK ∧ KidsLie w dv T.kids FD ∧ F = FK ++ FD := by
  cases h with
  | mk k n s keys kids kv FK o cap b off FF KV DV h1 h2 h3 h4 h5 h6 h7 hr h8 h9 => exact ⟨h1, h2, h3, FK, _, h4, ⟨o, cap, b, off, FF, KV, DV, rfl, h5, h6, h7, rfl, h8, h9, hr⟩, rfl⟩

theorem Lies.outn {w : World} {k n : Int} {s : ByteArray} {keys : List ByteArray} {kids : List RT} {kv dv : Value} {F : List Nat} (h : Lies w (.node k n s keys kids) kv dv F) :
    Fit k ∧ Fit n ∧ s.size ≤ maxLen ∧ ∃ FK FD, StrsAt w kv keys FK ∧ KidsLie w dv kids FD ∧ F = FK ++ FD := h.out

theorem StrsAt.slice {w : World} {v : Value} {ks : List ByteArray} {F : List Nat} (h : StrsAt w v ks F) : ∃ o c, v = .slice o ks.length c := by
  obtain ⟨o', cap', _, _, rfl, _⟩ := h
  exact ⟨o', cap', rfl⟩

theorem KidsLie.slice {w : World} {v : Value} {kids : List RT} {F : List Nat} (h : KidsLie w v kids F) : ∃ o c, v = .slice o kids.length c := by
  obtain ⟨o', cap', _, _, _, _, _, rfl, _⟩ := h
  exact ⟨o', cap', rfl⟩

theorem Lies.slices {w : World} {T : RT} {kv dv : Value} {F : List Nat} (h : Lies w T kv dv F) : (∃ o c, kv = .slice o T.keys.length c) ∧ ∃ o c, dv = .slice o T.kids.length c := by
  cases h with
  | mk k n s keys kids kv FK o cap b off FF KV DV h1 h2 h3 h4 h5 h6 h7 hr h8 h9 =>
    obtain ⟨o', cap', _, _, rfl, _⟩ := h4
    exact ⟨⟨o', cap', rfl⟩, o, cap, rfl⟩

theorem Lies.into {w : World} {k n : Int} {s : ByteArray} {keys : List ByteArray} {kids : List RT} {kv dv : Value} {FK FD : List Nat} (h1 : Fit k) (h2 : Fit n) (h3 : s.size ≤ maxLen)
    (h4 : StrsAt w kv keys FK) (h5 : KidsLie w dv kids FD) : Lies w (.node k n s keys kids) kv dv (FK ++ FD) := by
  obtain ⟨o, cap, b, off, FF, KV, DV, rfl, g1, g2, g3, rfl, g4, g5, g6⟩ := h5
  exact .mk k n s keys kids kv FK o cap b off FF KV DV h1 h2 h3 h4 g1 g2 g3 g6 g4 g5

theorem Lies.into' {w : World} {T : RT} {kv dv : Value} {FK FD : List Nat} (h1 : Fit T.k) (h2 : Fit T.n) (h3 : T.s.size ≤ maxLen)
    (h4 : StrsAt w kv T.keys FK) (h5 : KidsLie w dv T.kids FD) : Lies w T kv dv (FK ++ FD) := by
  rw [RT.eta T]; exact Lies.into h1 h2 h3 h4 h5

theorem ret_int {x y : Int} (h : x = y) : Ending.returned (.int .i64 x) = .returned (.int .i64 y) := by rw [h]
theorem ret_bool {x y : Bool} (h : x = y) : Ending.returned (.bool x) = .returned (.bool y) := by rw [h]

theorem bytes_ne {x y : ByteArray} (h : ¬ x = y) : (x.toList == y.toList) = false := by
  rw [beq_eq_false_iff_ne]
  intro e
  rw [ByteArray.toList_eq, ByteArray.toList_eq] at e
  exact h (ByteArray.ext (Array.toList_inj.1 e))

/-! ### From world to world -/

/-- The five cells of a node that lies in a row, read in a later world. -/
theorem kid_cells {w wr : World} {b o : Nat} {T : RT} {kv dv : Value} (hc : ∀ j, j < 5 → w.cell? ⟨b, o + j, none⟩ = (T.row kv dv)[j]?) (hb : Below w.heap.size w wr) :
    wr.cell? ⟨b, o, none⟩ = some (.int .i64 T.k) ∧ wr.cell? ⟨b, o + 1, none⟩ = some (.int .i64 T.n) ∧ wr.cell? ⟨b, o + 2, none⟩ = some (.string T.s) ∧ wr.cell? ⟨b, o + 3, none⟩ = some kv ∧ wr.cell? ⟨b, o + 4, none⟩ = some dv := by
  have h0 : w.cell? ⟨b, o + 0, none⟩ = some (.int .i64 T.k) := hc 0 (by omega)
  have hlt : b < w.heap.size := World.block_lt_of_cell? _ _ h0
  refine ⟨?_, ?_, ?_, ?_, ?_⟩
  · rw [hb.cell (by exact hlt)]; exact h0
  · rw [hb.cell (by exact hlt)]; exact hc 1 (by omega)
  · rw [hb.cell (by exact hlt)]; exact hc 2 (by omega)
  · rw [hb.cell (by exact hlt)]; exact hc 3 (by omega)
  · rw [hb.cell (by exact hlt)]; exact hc 4 (by omega)

theorem StrsAt.carry {w w' : World} {v : Value} {ks : List ByteArray} {F : List Nat} (h : StrsAt w v ks F) (hF : ∀ b ∈ F, w'.heap[b]? = w.heap[b]?) : StrsAt w' v ks F := by
  obtain ⟨o, cap, b, off, rfl, h1, h2, h3, rfl, h4, h5⟩ := h
  have hb : 0 < cap → w'.heap[b]? = w.heap[b]? := fun hc => hF b (by rw [if_neg (by omega)]; simp)
  refine ⟨o, cap, b, off, rfl, h1, h2, h3, rfl, fun i hi => ⟨?_, (h4 i hi).2⟩, fun i hi => ?_⟩
  · rw [World.cell?_of_block (w := w) (hb (by omega))]
    exact (h4 i hi).1
  · rw [World.cell?_of_block (w := w) (a := ⟨b, off + i, none⟩) (hb (by omega))]
    exact h5 i hi

theorem Lies.carry {w w' : World} {T : RT} {kv dv : Value} {F : List Nat} (h : Lies w T kv dv F) (hF : ∀ b ∈ F, w'.heap[b]? = w.heap[b]?) : Lies w' T kv dv F := by
  induction h with
  | mk k n s keys kids kv FK o cap b off FF KV DV h1 h2 h3 h4 h5 h6 h7 hr h8 h9 ih =>
    have hb : 0 < cap → w'.heap[b]? = w.heap[b]? := fun hc => hF b (by rw [if_neg (by omega)]; simp)
    refine .mk k n s keys kids kv FK o cap b off FF KV DV h1 h2 h3 (h4.carry fun c hc => hF c (by simp [hc])) h5 h6 h7 (fun i hi => ?_) (fun i hi j hj => ?_) (fun i hi => ih i hi fun c hc => hF c ?_)
    · rw [World.cell?_of_block (w := w) (a := ⟨b, off + i, none⟩) (hb (by omega))]
      exact hr i hi
    · rw [World.cell?_of_block (w := w) (hb (by omega))]
      exact h8 i hi j hj
    · exact List.mem_append_right _ (List.mem_append_right _ (List.mem_flatMap.2 ⟨i, List.mem_range.2 hi, hc⟩))

theorem KidsLie.carry {w w' : World} {dv : Value} {kids : List RT} {F : List Nat} (h : KidsLie w dv kids F) (hF : ∀ b ∈ F, w'.heap[b]? = w.heap[b]?) : KidsLie w' dv kids F := by
  obtain ⟨o, cap, b, off, FF, KV, DV, rfl, g1, g2, g3, rfl, g4, g5, g6⟩ := h
  have hb : 0 < cap → w'.heap[b]? = w.heap[b]? := fun hc => hF b (by rw [if_neg (by omega)]; simp)
  refine ⟨o, cap, b, off, FF, KV, DV, rfl, g1, g2, g3, rfl, fun i hi j hj => ?_, fun i hi => (g5 i hi).carry fun c hc => hF c ?_, fun i hi => ?_⟩
  · rw [World.cell?_of_block (w := w) (hb (by omega))]
    exact g4 i hi j hj
  · exact List.mem_append_right _ (List.mem_flatMap.2 ⟨i, List.mem_range.2 hi, hc⟩)
  · rw [World.cell?_of_block (w := w) (a := ⟨b, off + i, none⟩) (hb (by omega))]
    exact g6 i hi

theorem StrsAt.lt {w : World} {v : Value} {ks : List ByteArray} {F : List Nat} (h : StrsAt w v ks F) : ∀ b ∈ F, b < w.heap.size := by
  obtain ⟨o, cap, b, off, rfl, h1, h2, h3, rfl, h4, h5⟩ := h
  intro c hc
  split at hc
  · simp at hc
  · simp at hc
    subst hc
    exact h5.lt (by omega)

theorem Lies.lt {w : World} {T : RT} {kv dv : Value} {F : List Nat} (h : Lies w T kv dv F) : ∀ b ∈ F, b < w.heap.size := by
  induction h with
  | mk k n s keys kids kv FK o cap b off FF KV DV h1 h2 h3 h4 h5 h6 h7 hr h8 h9 ih =>
    intro c hc
    rcases List.mem_append.1 hc with hc | hc
    · exact h4.lt c hc
    · rcases List.mem_append.1 hc with hc | hc
      · split at hc
        · simp at hc
        · simp at hc
          subst hc
          exact hr.lt (by omega)
      · obtain ⟨i, hi, hc⟩ := List.mem_flatMap.1 hc
        exact ih i (List.mem_range.1 hi) c hc

theorem KidsLie.lt {w : World} {dv : Value} {kids : List RT} {F : List Nat} (h : KidsLie w dv kids F) : ∀ b ∈ F, b < w.heap.size := by
  have := (Lies.into (k := 0) (n := 0) (s := ByteArray.empty) (keys := []) (kv := .slice none 0 0) (FK := []) ⟨by decide, by decide⟩ ⟨by decide, by decide⟩ (by decide) ⟨none, 0, 0, 0, rfl, Nat.le_refl _, Nat.zero_le _, fun h => absurd h (by simp), rfl, fun i hi => absurd hi (by simp), Room.nil _ _ _⟩ h).lt
  simpa using this

theorem Lies.stay {w w' : World} {T : RT} {kv dv : Value} {F : List Nat} (h : Lies w T kv dv F) {B : Nat} (hb : Below B w w') (hB : w.heap.size ≤ B) : Lies w' T kv dv F :=
  h.carry fun b hF => hb.block b (Nat.lt_of_lt_of_le (h.lt b hF) hB)
theorem KidsLie.stay {w w' : World} {dv : Value} {kids : List RT} {F : List Nat} (h : KidsLie w dv kids F) {B : Nat} (hb : Below B w w') (hB : w.heap.size ≤ B) : KidsLie w' dv kids F :=
  h.carry fun b hF => hb.block b (Nat.lt_of_lt_of_le (h.lt b hF) hB)
theorem StrsAt.stay {w w' : World} {v : Value} {ks : List ByteArray} {F : List Nat} (h : StrsAt w v ks F) {B : Nat} (hb : Below B w w') (hB : w.heap.size ≤ B) : StrsAt w' v ks F :=
  h.carry fun b hF => hb.block b (Nat.lt_of_lt_of_le (h.lt b hF) hB)


/-! ### A node that a function was handed, in its block -/

theorem heap_last (w : World) (o : Obj) : (w.alloc o).heap[w.heap.size]? = some o := by
  show (w.heap.push o)[w.heap.size]? = _
  simp

theorem cell_of {w : World} {b : Nat} {cs : Array Value} {t : TypeId} {fz : Nat × Nat} (h : w.heap[b]? = some (.cells cs t fz)) (o : Nat) : w.cell? ⟨b, o, none⟩ = cs[o]? := by
  simp [World.cell?, h]

/-- A block of five cells, none frozen. -/
theorem five {w : World} {b : Nat} {t : TypeId} {a0 a1 a2 a3 a4 : Value} (h : w.heap[b]? = some (.cells #[a0, a1, a2, a3, a4] t (0, 0))) :
    w.cell? ⟨b, 0, none⟩ = some a0 ∧ w.cell? ⟨b, 1, none⟩ = some a1 ∧ w.cell? ⟨b, 2, none⟩ = some a2 ∧ w.cell? ⟨b, 3, none⟩ = some a3 ∧ w.cell? ⟨b, 4, none⟩ = some a4 ∧ ∀ o, w.frozen? ⟨b, o, none⟩ = false := by
  refine ⟨cell_of h 0, cell_of h 1, cell_of h 2, cell_of h 3, cell_of h 4, fun o => ?_⟩
  simp [World.frozen?, h]

theorem heap_set {w : World} {b : Nat} {cs : Array Value} {t : TypeId} {fz : Nat × Nat} (h : w.heap[b]? = some (.cells cs t fz)) (o : Nat) (v : Value) : (w.setCell ⟨b, o, none⟩ v).heap[b]? = some (.cells (cs.setIfInBounds o v) t fz) := by
  simp [World.setCell, Array.getElem?_modify, h]

theorem Room.set {w : World} {b off n : Nat} (h : Room w b off n) (a : Addr) (v : Value) : Room (w.setCell a v) b off n := fun i hi => by
  obtain ⟨u, hu⟩ := Option.isSome_iff_exists.1 (h i hi)
  obtain ⟨u', hu'⟩ := cell?_setCell_some (p := a) (x := v) hu
  rw [hu']; rfl

theorem Room.below {w w' : World} {b off n : Nat} (h : Room w b off n) (hb : Below w.heap.size w w') : Room w' b off n := fun i hi => by
  rw [hb.cell (by exact h.lt (by omega))]; exact h i hi

theorem room_of {w : World} {b n : Nat} {cs : Array Value} {t : TypeId} {fz : Nat × Nat} (h : w.heap[b]? = some (.cells cs t fz)) (hn : n ≤ cs.size) : Room w b 0 n := fun i hi => by
  rw [Nat.zero_add, cell_of h, Array.getElem?_eq_getElem (by omega)]; rfl

/-- The function's own copy of one node: the block behind w; w itself is as it was. -/
structure Box (w wr : World) (a b c d e : Value) : Prop where
  below : Below w.heap.size w wr
  lt : w.heap.size < wr.heap.size
  c0 : wr.cell? ⟨w.heap.size, 0, none⟩ = some a
  c1 : wr.cell? ⟨w.heap.size, 1, none⟩ = some b
  c2 : wr.cell? ⟨w.heap.size, 2, none⟩ = some c
  c3 : wr.cell? ⟨w.heap.size, 3, none⟩ = some d
  c4 : wr.cell? ⟨w.heap.size, 4, none⟩ = some e

theorem Box.start (w : World) (a b c d e : Value) (t : TypeId) : Box w (w.alloc (.cells #[a, b, c, d, e] t)) a b c d e where
  below := (Below.refl _ w).alloc (Nat.le_refl _) _
  lt := by simp
  c0 := (cell_of (heap_last w _) 0).trans rfl
  c1 := (cell_of (heap_last w _) 1).trans rfl
  c2 := (cell_of (heap_last w _) 2).trans rfl
  c3 := (cell_of (heap_last w _) 3).trans rfl
  c4 := (cell_of (heap_last w _) 4).trans rfl

theorem Box.next {w wr w1 : World} {a b c d e : Value} (h : Box w wr a b c d e) (hb : Below wr.heap.size wr w1) : Box w w1 a b c d e where
  below := h.below.trans (hb.mono h.below.size)
  lt := Nat.lt_of_lt_of_le h.lt hb.size
  c0 := by rw [hb.cell (by exact h.lt)]; exact h.c0
  c1 := by rw [hb.cell (by exact h.lt)]; exact h.c1
  c2 := by rw [hb.cell (by exact h.lt)]; exact h.c2
  c3 := by rw [hb.cell (by exact h.lt)]; exact h.c3
  c4 := by rw [hb.cell (by exact h.lt)]; exact h.c4

/-- Two nodes that a function was handed. -/
structure Box2 (w wr : World) (a b c d e a' b' c' d' e' : Value) : Prop where
  below : Below w.heap.size w wr
  lt : w.heap.size + 1 < wr.heap.size
  c0 : wr.cell? ⟨w.heap.size, 0, none⟩ = some a
  c1 : wr.cell? ⟨w.heap.size, 1, none⟩ = some b
  c2 : wr.cell? ⟨w.heap.size, 2, none⟩ = some c
  c3 : wr.cell? ⟨w.heap.size, 3, none⟩ = some d
  c4 : wr.cell? ⟨w.heap.size, 4, none⟩ = some e
  g0 : wr.cell? ⟨w.heap.size + 1, 0, none⟩ = some a'
  g1 : wr.cell? ⟨w.heap.size + 1, 1, none⟩ = some b'
  g2 : wr.cell? ⟨w.heap.size + 1, 2, none⟩ = some c'
  g3 : wr.cell? ⟨w.heap.size + 1, 3, none⟩ = some d'
  g4 : wr.cell? ⟨w.heap.size + 1, 4, none⟩ = some e'

theorem Box2.start (w : World) (a b c d e a' b' c' d' e' : Value) (t t' : TypeId) : Box2 w ((w.alloc (.cells #[a, b, c, d, e] t)).alloc (.cells #[a', b', c', d', e'] t')) a b c d e a' b' c' d' e' where
  below := ((Below.refl _ w).alloc (Nat.le_refl _) _).alloc (by simp) _
  lt := by simp
  c0 := (cell_of ((Below.heap_alloc _ _ _ (by simp)).trans (heap_last w _)) 0).trans rfl
  c1 := (cell_of ((Below.heap_alloc _ _ _ (by simp)).trans (heap_last w _)) 1).trans rfl
  c2 := (cell_of ((Below.heap_alloc _ _ _ (by simp)).trans (heap_last w _)) 2).trans rfl
  c3 := (cell_of ((Below.heap_alloc _ _ _ (by simp)).trans (heap_last w _)) 3).trans rfl
  c4 := (cell_of ((Below.heap_alloc _ _ _ (by simp)).trans (heap_last w _)) 4).trans rfl
  g0 := (cell_of (by have := heap_last (w.alloc (.cells #[a, b, c, d, e] t)) (.cells #[a', b', c', d', e'] t'); simpa using this) 0).trans rfl
  g1 := (cell_of (by have := heap_last (w.alloc (.cells #[a, b, c, d, e] t)) (.cells #[a', b', c', d', e'] t'); simpa using this) 1).trans rfl
  g2 := (cell_of (by have := heap_last (w.alloc (.cells #[a, b, c, d, e] t)) (.cells #[a', b', c', d', e'] t'); simpa using this) 2).trans rfl
  g3 := (cell_of (by have := heap_last (w.alloc (.cells #[a, b, c, d, e] t)) (.cells #[a', b', c', d', e'] t'); simpa using this) 3).trans rfl
  g4 := (cell_of (by have := heap_last (w.alloc (.cells #[a, b, c, d, e] t)) (.cells #[a', b', c', d', e'] t'); simpa using this) 4).trans rfl

theorem Box2.next {w wr w1 : World} {a b c d e a' b' c' d' e' : Value} (h : Box2 w wr a b c d e a' b' c' d' e') (hb : Below wr.heap.size wr w1) : Box2 w w1 a b c d e a' b' c' d' e' where
  below := h.below.trans (hb.mono h.below.size)
  lt := Nat.lt_of_lt_of_le h.lt hb.size
  c0 := by rw [hb.cell (by exact Nat.lt_of_succ_lt h.lt)]; exact h.c0
  c1 := by rw [hb.cell (by exact Nat.lt_of_succ_lt h.lt)]; exact h.c1
  c2 := by rw [hb.cell (by exact Nat.lt_of_succ_lt h.lt)]; exact h.c2
  c3 := by rw [hb.cell (by exact Nat.lt_of_succ_lt h.lt)]; exact h.c3
  c4 := by rw [hb.cell (by exact Nat.lt_of_succ_lt h.lt)]; exact h.c4
  g0 := by rw [hb.cell (by exact h.lt)]; exact h.g0
  g1 := by rw [hb.cell (by exact h.lt)]; exact h.g1
  g2 := by rw [hb.cell (by exact h.lt)]; exact h.g2
  g3 := by rw [hb.cell (by exact h.lt)]; exact h.g3
  g4 := by rw [hb.cell (by exact h.lt)]; exact h.g4

end Go.Proofs.YtfmkhogpnnobeaaGreatDoor

/- the laws' eqStringS, eqNodeS and eqNode tell whether two lists of texts, two lists of trees, two trees are the same. -/
namespace Go.Proofs.YtfmkhogpnnobeaaGreatDoor
open Go Go.RowKit

noncomputable def same {α : Type} (a b : α) : Bool := @decide (a = b) (Classical.propDecidable _)
theorem same_yes {α : Type} {a b : α} (h : a = b) : same a b = true := @decide_eq_true _ (Classical.propDecidable _) h
theorem same_no {α : Type} {a b : α} (h : ¬ a = b) : same a b = false := @decide_eq_false _ (Classical.propDecidable _) h
theorem same_iff {α : Type} {a b : α} : same a b = true ↔ a = b := by
  constructor
  · intro h
    exact @of_decide_eq_true _ (Classical.propDecidable _) h
  · exact same_yes
theorem same_iff_no {α : Type} {a b : α} : same a b = false ↔ ¬ a = b := by
  constructor
  · intro h e
    rw [same_yes e] at h
    cases h
  · exact same_no

theorem below_drewN {B : Nat} {a w : World} (h : Below B a w) (n : Nat) : Below B a (w.drewN n) := h.trans ⟨rfl, rfl, rfl, Nat.le_refl _, fun _ _ => rfl⟩

theorem take_step {α : Type} {l l' : List α} {k : Nat} (h : l.take k = l'.take k) (h1 : k < l.length) (h2 : k < l'.length) (e : l[k] = l'[k]) : l.take (k + 1) = l'.take (k + 1) := by
  rw [List.take_succ_eq_append_getElem h1, List.take_succ_eq_append_getElem h2, h, e]

theorem take_end {α : Type} {l l' : List α} {k : Nat} (h : l.take k = l'.take k) (h1 : ¬ k < l.length) (h2 : l.length = l'.length) : l = l' := by
  rw [List.take_of_length_le (by omega), List.take_of_length_le (by omega)] at h
  exact h

theorem ne_at {α : Type} {l l' : List α} {k : Nat} (h1 : k < l.length) (h2 : k < l'.length) (e : ¬ l[k] = l'[k]) : ¬ l = l' := by
  intro h
  subst h
  exact e rfl

set_option maxHeartbeats 400000 in
theorem eq_strs {v v' : Value} {ks ks' : List ByteArray} {F F' : List Nat} (w : World) (hs : StrsAt w v ks F) (hs' : StrsAt w v' ks' F') :
    Calls Tryz.prog 31 #[v, v'] w fun e w' => e = .returned (.bool (same ks ks')) ∧ Below w.heap.size w w' := by
  obtain ⟨o, cap, b, off, rfl, hlc, hcm, ho, -, hcell, -⟩ := hs
  obtain ⟨o', cap', b', off', rfl, hlc', hcm', ho', -, hcell', -⟩ := hs'
  have HC := Lib.hid hcell
  have HO := Lib.hid ho
  have HC' := Lib.hid hcell'
  have HO' := Lib.hid ho'
  clear hcell ho hcell' ho'
  unfold maxLen at hcm hcm'
  by_cases hl : ks.length = ks'.length
  · have HE := Lib.hid hl
    rw [← hl]
    clear hl
    rw [← HE.out] at hlc'
    go_enter Tryz.func31, Tryz.ntmps31
    go_wp2
    go_loopw [5] (fun i wr => ∃ k : Nat, k ≤ ks.length ∧ i = .int .i64 k ∧ Hid (ks.take k = ks'.take k) ∧ Below w.heap.size w wr) (fun i _ => ks.length - (intOf i).toNat)
    case atStart => exact ⟨0, Nat.zero_le _, rfl, rfl, Below.refl _ _⟩
    case round =>
      obtain ⟨k, hk, rfl, hr, hb⟩ := hrel
      have HB := Lib.hid hb
      by_cases hlt : k < ks.length
      · have l2 : k < ks'.length := by rw [← HE.out]; exact hlt
        have c0 : wr.cell? ⟨b, off + k, none⟩ = some (.string ks[k]) := by
          have := (HC.out k hlt).1
          rw [hb.cell (by exact World.block_lt_of_cell? _ _ this)]; exact this
        have c1 : wr.cell? ⟨b', off' + k, none⟩ = some (.string ks'[k]) := by
          have := (HC'.out k l2).1
          rw [hb.cell (by exact World.block_lt_of_cell? _ _ this)]; exact this
        have ho := HO.out (by omega)
        have ho' := HO'.out (by omega)
        subst ho ho'
        clear hb
        by_cases he : ks[k] = ks'[k]
        · have HR := Lib.hid (take_step hr.out hlt l2 he)
          rw [he] at c0
          clear he
          generalize hx : ks'[k] = x at *
          clear hx
          go_wp2
          go_quiet (fail)
          go_wp2
          exact ⟨⟨k + 1, by omega, by go_num, HR.out, below_drewN HB.out _⟩, by simp [intOf]; omega⟩
        · have HR := Lib.hid (ne_at hlt l2 he)
          have he' := bytes_ne he
          generalize hx : ks[k] = x at *
          generalize hy : ks'[k] = y at *
          clear hx hy
          go_wp2
          go_quiet (fail)
          go_wp2
          go_ret
          refine ⟨?_, below_drewN HB.out _⟩
          rw [same_no HR.out]
          rfl
      · have HR := Lib.hid (take_end hr.out hlt HE.out)
        go_wp2
        go_ret
        refine ⟨?_, HB.out⟩
        rw [same_yes HR.out]
        rfl
  · have hl' : ¬ ((ks.length : Int) = ks'.length) := by omega
    go_enter Tryz.func31, Tryz.ntmps31
    go_wp2
    go_ret
    refine ⟨?_, Below.refl _ _⟩
    rw [same_no (fun h => hl (by rw [h]))]
    rfl

/-- What the laws' eqNode answers of one tree, and of any other one. -/
def EqAt (T : RT) : Prop := ∀ (w : World) (kv dv : Value) (F : List Nat), Lies w T kv dv F → ∀ (T' : RT) (kv' dv' : Value) (F' : List Nat), Lies w T' kv' dv' F' →
  Calls Tryz.prog 10 #[T.val kv dv, T'.val kv' dv'] w fun e w' => e = .returned (.bool (same T T')) ∧ Below w.heap.size w w'

set_option maxHeartbeats 400000 in
theorem eq_kids {dv dv' : Value} {kids kids' : List RT} {F F' : List Nat} (ih : ∀ t ∈ kids, EqAt t) (w : World) (hs : KidsLie w dv kids F) (hs' : KidsLie w dv' kids' F') :
    Calls Tryz.prog 32 #[dv, dv'] w fun e w' => e = .returned (.bool (same kids kids')) ∧ Below w.heap.size w w' := by
  obtain ⟨o, cap, b, off, FF, KV, DV, rfl, hlc, hcm, ho, -, hcell, hlies, -⟩ := hs
  obtain ⟨o', cap', b', off', FF', KV', DV', rfl, hlc', hcm', ho', -, hcell', hlies', -⟩ := hs'
  have HC := Lib.hid hcell
  have HO := Lib.hid ho
  have HL := Lib.hid hlies
  have HC' := Lib.hid hcell'
  have HO' := Lib.hid ho'
  have HL' := Lib.hid hlies'
  clear hcell ho hcell' ho' hlies hlies'
  unfold maxLen at hcm hcm'
  by_cases hl : kids.length = kids'.length
  · have HE := Lib.hid hl
    rw [← hl]
    clear hl
    rw [← HE.out] at hlc'
    go_enter Tryz.func32, Tryz.ntmps32
    go_wp2
    go_loopw [5] (fun i wr => ∃ k : Nat, k ≤ kids.length ∧ i = .int .i64 k ∧ Hid (kids.take k = kids'.take k) ∧ Below w.heap.size w wr) (fun i _ => kids.length - (intOf i).toNat)
    case atStart => exact ⟨0, Nat.zero_le _, rfl, rfl, Below.refl _ _⟩
    case round =>
      obtain ⟨k, hk, rfl, hr, hb⟩ := hrel
      have HB := Lib.hid hb
      by_cases hlt : k < kids.length
      · have l2 : k < kids'.length := by rw [← HE.out]; exact hlt
        obtain ⟨c0, c1, c2, c3, c4⟩ := kid_cells (HC.out k hlt) hb
        obtain ⟨g0, g1, g2, g3, g4⟩ := kid_cells (HC'.out k l2) hb
        have ho := HO.out (by omega)
        have ho' := HO'.out (by omega)
        subst ho ho'
        have hih := Lib.hid (fun n => ih _ (List.getElem_mem hlt) (wr.drewN n) _ _ _ ((HL.out k hlt).stay (below_drewN hb n) (Nat.le_refl _)) _ _ _ _ ((HL'.out k l2).stay (below_drewN hb n) (Nat.le_refl _)))
        clear hb
        by_cases he : kids[k] = kids'[k]
        · have HR := Lib.hid (take_step hr.out hlt l2 he)
          rw [he] at c0 c1 c2
          rw [same_yes he, he] at hih
          clear he
          generalize hx : kids'[k] = x at *
          clear hx
          go_wp2
          go_region_with (first | (go_at_call 10; refine (hih.out 1).mono ?_; rintro e w1 ⟨rfl, hb1⟩))
          all_goals go_wp2
          all_goals exact ⟨⟨k + 1, by omega, by go_num, HR.out, (below_drewN HB.out 1).trans (hb1.mono (below_drewN HB.out 1).size)⟩, by simp [intOf]; omega⟩
        · have HR := Lib.hid (ne_at hlt l2 he)
          rw [same_no he] at hih
          clear he
          generalize hx : kids[k] = x at *
          clear hx
          generalize hx : kids'[k] = y at *
          clear hx
          go_wp2
          go_region_with (first | (go_at_call 10; refine (hih.out 1).mono ?_; rintro e w1 ⟨rfl, hb1⟩))
          all_goals go_wp2
          all_goals go_ret
          all_goals refine ⟨?_, (below_drewN HB.out 1).trans (hb1.mono (below_drewN HB.out 1).size)⟩
          all_goals rw [same_no HR.out]
          all_goals rfl
      · have HR := Lib.hid (take_end hr.out hlt HE.out)
        go_wp2
        go_ret
        refine ⟨?_, HB.out⟩
        rw [same_yes HR.out]
        rfl
  · have hl' : ¬ ((kids.length : Int) = kids'.length) := by omega
    go_enter Tryz.func32, Tryz.ntmps32
    go_wp2
    go_ret
    refine ⟨?_, Below.refl _ _⟩
    rw [same_no (fun h => hl (by rw [h]))]
    rfl

end Go.Proofs.YtfmkhogpnnobeaaGreatDoor

/- how much of a room the laws take a list of texts, a list of trees, and a tree for: less what it holds, or -1 where that is more. -/
namespace Go.Proofs.YtfmkhogpnnobeaaGreatDoor
open Go Go.RowKit

def strSz (ks : List ByteArray) : Nat := (ks.map ByteArray.size).sum

mutual
def RT.sz : RT → Nat
  | .node _ _ s keys kids => s.size + (keys.length + strSz keys) + (kids.length + szAll kids)
def szAll : List RT → Nat
  | [] => 0
  | t :: ts => t.sz + szAll ts
end

theorem szAll_sum (l : List RT) : szAll l = (l.map RT.sz).sum := by
  induction l with
  | nil => simp [szAll]
  | cons t l ih => simp [szAll, ih]

theorem sum_take {α : Type} (l : List α) (f : α → Nat) (i : Nat) (h : i < l.length) : ((l.take (i + 1)).map f).sum = ((l.take i).map f).sum + f l[i] := by
  rw [List.take_succ_eq_append_getElem h, List.map_append, List.sum_append]
  simp

theorem sum_take_le {α : Type} (l : List α) (f : α → Nat) (i : Nat) : ((l.take i).map f).sum ≤ (l.map f).sum := by
  have h := congrArg (fun x => (List.map f x).sum) (List.take_append_drop i l)
  simp only [List.map_append, List.sum_append] at h
  omega

/-- What is left of a room. -/
def left (room : Int) (n : Nat) : Int := if (n : Int) ≤ room then room - n else -1

theorem left_ok {r : Int} {n : Nat} (h : (n : Int) ≤ r) : left r n = r - n := by unfold left; rw [if_pos h]
theorem left_no {r : Int} {n : Nat} (h : ¬ (n : Int) ≤ r) : left r n = -1 := by unfold left; rw [if_neg h]

end Go.Proofs.YtfmkhogpnnobeaaGreatDoor

/- the laws' toStringS, toNodeS and toNode lay the same texts and trees into new memory. -/
namespace Go.Proofs.YtfmkhogpnnobeaaGreatDoor
open Go Go.RowKit

/-- The blocks F were made since w, each once, and may be written in w'. -/
structure Fresh (w w' : World) (F : List Nat) : Prop where
  nodup : F.Nodup
  old : ∀ b ∈ F, w.heap.size ≤ b
  free : ∀ b ∈ F, ∀ o, w'.frozen? ⟨b, o, none⟩ = false

theorem Fresh.nil (w w' : World) : Fresh w w' [] := ⟨List.nodup_nil, fun b h => absurd h (by simp), fun b h => absurd h (by simp)⟩

theorem Fresh.carry {w w1 w2 : World} {F : List Nat} (h : Fresh w w1 F) (hF : ∀ b ∈ F, w2.heap[b]? = w1.heap[b]?) : Fresh w w2 F :=
  ⟨h.nodup, h.old, fun b hb o => by rw [World.frozen?_of_block (w := w1) (hF b hb)]; exact h.free b hb o⟩

theorem Fresh.earlier {w w1 w2 : World} {F : List Nat} (h : Fresh w1 w2 F) (hs : w.heap.size ≤ w1.heap.size) : Fresh w w2 F :=
  ⟨h.nodup, fun b hb => Nat.le_trans hs (h.old b hb), h.free⟩

/-- Two lots of blocks, the second made behind the first. -/
theorem Fresh.append {w w1 w2 : World} {F G : List Nat} (h : Fresh w w2 F) (hl : ∀ b ∈ F, b < w1.heap.size) (h' : Fresh w1 w2 G) (hs : w.heap.size ≤ w1.heap.size) : Fresh w w2 (F ++ G) := by
  refine ⟨List.nodup_append.2 ⟨h.nodup, h'.nodup, fun a ha b hb e => ?_⟩, fun b hb => ?_, fun b hb => ?_⟩
  · have := hl a ha
    have := h'.old b hb
    omega
  · rcases List.mem_append.1 hb with hb | hb
    · exact h.old b hb
    · exact Nat.le_trans hs (h'.old b hb)
  · rcases List.mem_append.1 hb with hb | hb
    · exact h.free b hb
    · exact h'.free b hb

theorem info_string : (Tryz.prog.info? 9).map (fun i => (i.zero, i.size, i.bytes)) = some (some (.string ⟨#[]⟩), 1, 16) := by kernel_rfl

/-- A row of texts that has been laid up to k. -/
def LaidStrs (w wr : World) (ks : List ByteArray) (k : Nat) : Prop :=
  ∃ f : Nat → Value, wr.rowIs w.heap.size 9 ks.length f ∧ (∀ j (h : j < ks.length), j < k → f j = .string ks[j]) ∧ Below w.heap.size w wr

theorem LaidStrs.start (w : World) (ks : List ByteArray) (z : Value) : LaidStrs w (w.alloc (.cells (madeCells #[z] ks.length) 9)) ks 0 :=
  ⟨_, World.rowIs_made w z ks.length 9, fun _ _ h => absurd h (by omega), (Below.refl _ w).alloc (Nat.le_refl _) _⟩

theorem LaidStrs.step {w wr : World} {ks : List ByteArray} {k : Nat} (h : LaidStrs w wr ks k) (hk : k < ks.length) : LaidStrs w (wr.setCell ⟨w.heap.size, k, none⟩ (.string ks[k])) ks (k + 1) := by
  obtain ⟨f, hr, hf, hb⟩ := h
  refine ⟨_, hr.set k _, fun j hj hjk => ?_, hb.setCell (Nat.le_refl _) _⟩
  by_cases e : j = k
  · subst e; simp
  · simp only [e, if_false]
    exact hf j hj (by omega)

theorem LaidStrs.done {w wr : World} {ks : List ByteArray} (h : LaidStrs w wr ks ks.length) (hm : ks.length ≤ maxLen) (hs : ∀ i (h : i < ks.length), ks[i].size ≤ maxLen) :
    ∃ F, StrsAt wr (.slice (some ⟨w.heap.size, 0, none⟩) ks.length ks.length) ks F ∧ Fresh w wr F ∧ (∀ b ∈ F, b = w.heap.size) := by
  obtain ⟨f, hr, hf, hb⟩ := h
  refine ⟨_, ⟨_, _, w.heap.size, 0, rfl, Nat.le_refl _, hm, fun _ => rfl, rfl, fun i hi => ⟨?_, hs i hi⟩, fun i hi => by rw [Nat.zero_add, hr.cell hi]; rfl⟩, ?_, ?_⟩
  · rw [Nat.zero_add, hr.cell hi, hf i hi hi]
  · split
    · exact Fresh.nil _ _
    · exact ⟨by simp, fun b h => by simp at h; omega, fun b h o => by simp at h; subst h; exact hr.frozen o⟩
  · split <;> simp

/-! ### Lists of trees -/

/-- The five cells of a node, stored. -/
def set5 (w : World) (b o : Nat) (v0 v1 v2 v3 v4 : Value) : World :=
  ((((w.setCell ⟨b, o, none⟩ v0).setCell ⟨b, o + 1, none⟩ v1).setCell ⟨b, o + 2, none⟩ v2).setCell ⟨b, o + 3, none⟩ v3).setCell ⟨b, o + 4, none⟩ v4

theorem set5_other (w : World) (b o : Nat) (v0 v1 v2 v3 v4 : Value) (k : Nat) (h : k ≠ b) : (set5 w b o v0 v1 v2 v3 v4).heap[k]? = w.heap[k]? := by
  unfold set5
  rw [Below.heap_setCell _ _ _ _ h, Below.heap_setCell _ _ _ _ h, Below.heap_setCell _ _ _ _ h, Below.heap_setCell _ _ _ _ h, Below.heap_setCell _ _ _ _ h]

theorem set5_below {B : Nat} {a w : World} (h : Below B a w) {b : Nat} (hb : B ≤ b) (o : Nat) (v0 v1 v2 v3 v4 : Value) : Below B a (set5 w b o v0 v1 v2 v3 v4) := by
  unfold set5
  exact ((((h.setCell hb _).setCell hb _).setCell hb _).setCell hb _).setCell hb _

theorem set5_row {w : World} {b : Nat} {t : TypeId} {N : Nat} {f : Nat → Value} (h : w.rowIs b t N f) (o : Nat) (T : RT) (kv dv : Value) :
    ∃ g, (set5 w b o (.int .i64 T.k) (.int .i64 T.n) (.string T.s) kv dv).rowIs b t N g ∧ (∀ c, c < 5 → some (g (o + c)) = (T.row kv dv)[c]?) ∧ ∀ j, (j < o ∨ o + 5 ≤ j) → g j = f j := by
  refine ⟨_, ((((h.set o _).set (o + 1) _).set (o + 2) _).set (o + 3) _).set (o + 4) _, fun c hc => ?_, fun j hj => ?_⟩
  · match c, hc with
    | 0, _ => simp [RT.row]
    | 1, _ => simp [RT.row]
    | 2, _ => simp [RT.row]
    | 3, _ => simp [RT.row]
    | 4, _ => simp [RT.row]
  · have e0 : ¬ j = o := by omega
    have e1 : ¬ j = o + 1 := by omega
    have e2 : ¬ j = o + 2 := by omega
    have e3 : ¬ j = o + 3 := by omega
    have e4 : ¬ j = o + 4 := by omega
    simp [e0, e1, e2, e3, e4]

theorem set5_end {w : World} {b : Nat} {t : TypeId} {a0 a1 a2 a3 a4 : Value} (h : w.heap[b]? = some (.cells #[a0, a1, a2, a3, a4] t (0, 0))) (v0 v1 v2 v3 v4 : Value) :
    (set5 w b 0 v0 v1 v2 v3 v4).heap[b]? = some (.cells #[v0, v1, v2, v3, v4] t (0, 0)) :=
  heap_set (heap_set (heap_set (heap_set (heap_set h 0 v0) 1 v1) 2 v2) 3 v3) 4 v4

/-- A row of trees that has been laid up to k. -/
def LaidKids (t : TypeId) (w wr : World) (kids : List RT) (k : Nat) : Prop :=
  ∃ (f : Nat → Value) (KV DV : Nat → Value) (FF : Nat → List Nat), wr.rowIs w.heap.size t (kids.length * 5) f ∧
    (∀ j (h : j < kids.length), j < k → (∀ c, c < 5 → some (f (j * 5 + c)) = (kids[j].row (KV j) (DV j))[c]?) ∧ Lies wr kids[j] (KV j) (DV j) (FF j)) ∧
    Fresh w wr ((List.range k).flatMap FF) ∧ (∀ b ∈ (List.range k).flatMap FF, w.heap.size < b) ∧ Below w.heap.size w wr

theorem LaidKids.start {t : TypeId} {w wr : World} {kids : List RT} {f : Nat → Value} (h : wr.rowIs w.heap.size t (kids.length * 5) f) (hb : Below w.heap.size w wr) : LaidKids t w wr kids 0 :=
  ⟨f, fun _ => .bool true, fun _ => .bool true, fun _ => [], h, fun _ _ h => absurd h (by omega), Fresh.nil _ _, fun b h => absurd h (by simp), hb⟩

theorem flat_succ (FF : Nat → List Nat) (k : Nat) (F : List Nat) : (List.range (k + 1)).flatMap (fun j => if j = k then F else FF j) = (List.range k).flatMap FF ++ F := by
  rw [List.range_succ, List.flatMap_append]
  congr 1
  · exact Go.Deep.flatMap_congr_range fun j hj => by rw [if_neg (by omega)]
  · simp

theorem LaidKids.step {t : TypeId} {w wr w1 : World} {kids : List RT} {k : Nat} (h : LaidKids t w wr kids k) (hk : k < kids.length) {kv dv : Value} {F : List Nat} (hb1 : Below wr.heap.size wr w1) (hl : Lies w1 kids[k] kv dv F) (hf : Fresh wr w1 F) :
    LaidKids t w (set5 w1 w.heap.size (k * 5) (.int .i64 kids[k].k) (.int .i64 kids[k].n) (.string kids[k].s) kv dv) kids (k + 1) := by
  obtain ⟨f, KV, DV, FF, hrow, hall, hfr, hgt, hb⟩ := h
  have hsz := hrow.lt
  have hrow1 := hrow.of_block (hb1.block _ hsz)
  obtain ⟨g, hg, hg1, hg2⟩ := set5_row hrow1 (k * 5) kids[k] kv dv
  have hlt : ∀ j (hj : j < kids.length), j < k → ∀ b ∈ FF j, b < wr.heap.size ∧ w.heap.size < b := fun j hj hjk b hbF => ⟨(hall j hj hjk).2.lt b hbF, hgt b (List.mem_flatMap.2 ⟨j, List.mem_range.2 hjk, hbF⟩)⟩
  have hold : ∀ b ∈ (List.range k).flatMap FF, b < wr.heap.size := fun b hbF => by
    obtain ⟨j, hj, hbj⟩ := List.mem_flatMap.1 hbF
    have hjk := List.mem_range.1 hj
    exact (hlt j (by omega) hjk b hbj).1
  have hcarry : ∀ b ∈ (List.range k).flatMap FF, (set5 w1 w.heap.size (k * 5) (.int .i64 kids[k].k) (.int .i64 kids[k].n) (.string kids[k].s) kv dv).heap[b]? = wr.heap[b]? := fun b hbF => by
    rw [set5_other _ _ _ _ _ _ _ _ _ (by have := hgt b hbF; omega), hb1.block b (hold b hbF)]
  have hcarry1 : ∀ b ∈ F, (set5 w1 w.heap.size (k * 5) (.int .i64 kids[k].k) (.int .i64 kids[k].n) (.string kids[k].s) kv dv).heap[b]? = w1.heap[b]? := fun b hbF => by
    rw [set5_other _ _ _ _ _ _ _ _ _ (by have := hf.old b hbF; omega)]
  refine ⟨g, fun j => if j = k then kv else KV j, fun j => if j = k then dv else DV j, fun j => if j = k then F else FF j, hg, fun j hj hjk => ?_, ?_, ?_, ?_⟩
  · by_cases e : j = k
    · subst e
      simp only [if_true]
      exact ⟨hg1, hl.carry hcarry1⟩
    · simp only [e, if_false]
      obtain ⟨q1, q2⟩ := hall j hj (by omega)
      refine ⟨fun c hc => ?_, q2.carry fun b hbF => hcarry b (List.mem_flatMap.2 ⟨j, List.mem_range.2 (by omega), hbF⟩)⟩
      rw [hg2 _ (by omega)]
      exact q1 c hc
  · rw [flat_succ]
    exact (hfr.carry hcarry).append hold (hf.carry hcarry1) hb.size
  · rw [flat_succ]
    intro b hbF
    rcases List.mem_append.1 hbF with hbF | hbF
    · exact hgt b hbF
    · have := hf.old b hbF; omega
  · exact set5_below (hb.trans (hb1.mono hb.size)) (Nat.le_refl _) _ _ _ _ _ _

theorem LaidKids.done {t : TypeId} {w wr : World} {kids : List RT} (h : LaidKids t w wr kids kids.length) (hm : kids.length ≤ maxLen) :
    ∃ F, KidsLie wr (.slice (some ⟨w.heap.size, 0, none⟩) kids.length kids.length) kids F ∧ Fresh w wr F ∧ Below w.heap.size w wr := by
  obtain ⟨f, KV, DV, FF, hrow, hall, hfr, hgt, hb⟩ := h
  refine ⟨_, ⟨_, _, w.heap.size, 0, FF, KV, DV, rfl, Nat.le_refl _, hm, fun _ => rfl, rfl, fun i hi j hj => ?_, fun i hi => (hall i hi hi).2, fun i hi => by rw [Nat.zero_add, hrow.cell hi]; rfl⟩, ?_, hb⟩
  · rw [Nat.zero_add, hrow.cell (by omega)]
    exact (hall i hi hi).1 j hj
  · split
    · simpa using hfr
    · refine ⟨?_, ?_, ?_⟩
      · simp only [List.singleton_append, List.nodup_cons]
        exact ⟨fun hm => by have := hgt _ hm; omega, hfr.nodup⟩
      · intro b hbF
        rcases List.mem_append.1 hbF with hbF | hbF
        · simp at hbF; omega
        · exact hfr.old b hbF
      · intro b hbF o
        rcases List.mem_append.1 hbF with hbF | hbF
        · simp at hbF; subst hbF; exact hrow.frozen o
        · exact hfr.free b hbF o


theorem info_node : (Tryz.prog.info? 32).map (fun i => (i.zero, i.size, i.bytes)) = some (some (.agg #[.int .i64 0, .int .i64 0, .string ⟨#[]⟩, .slice none 0 0, .slice none 0 0]), 5, 80) := by kernel_rfl

theorem run_make_nodes (n : Nat) (h : n ≤ 1048576) (w : World) :
    (Instr.makeSlice 30 (.int .i64 (n : Int)) (.int .i64 (n : Int))).run Tryz.prog w = .ok (.slice (some ⟨w.heap.size, 0, none⟩) n n) (w.alloc (.cells (madeCells #[.int .i64 0, .int .i64 0, .string ⟨#[]⟩, .slice none 0 0, .slice none 0 0] (n * 5)) 32)) := by
  obtain ⟨i, hi, hzz⟩ := Option.map_eq_some_iff.1 info_node
  simp only [Prod.mk.injEq] at hzz
  obtain ⟨hz, hs, hb⟩ := hzz
  have hr := run_make (P := Tryz.prog) w 30 32 i _ Tryz.underlying30 hi hz .i64 .i64 n n (by omega) (Int.le_refl _) (by rw [hb]; omega) (by omega)
  simp only [Int.toNat_natCast, hs] at hr
  exact hr

theorem rowIs_nodes (w : World) (z : Array Value) (n : Nat) (t : TypeId) : ∃ f, (w.alloc (.cells (madeCells z n) t)).rowIs w.heap.size t n f :=
  ⟨fun i => (madeCells z n)[i]?.getD default, by
    have := World.rowIs_alloc w (madeCells z n) t (fun i => (madeCells z n)[i]?.getD default) (fun i hi => by rw [Array.getElem?_eq_getElem hi]; rfl)
    rwa [size_madeCells] at this⟩

theorem sz_take (kids : List RT) {t : RT} (h : t ∈ kids) : t.sz ≤ szAll kids := by
  induction kids with
  | nil => simp at h
  | cons x l ih =>
    rw [szAll]
    rcases List.mem_cons.1 h with e | e
    · rw [e]; omega
    · have := ih e; omega

/-- A function that answers a node out of its own block. -/
theorem ret_node {fn : Func} {i : Nat} (hres : fn.results = #[ResultVar.cell i 32]) {tmps : Array Value} {w : World} {b : Nat} {t : TypeId} {a0 a1 a2 a3 a4 : Value}
    (ht : tmps[i]?.getD undef = .pointer (some ⟨b, 0, none⟩)) (h : w.heap[b]? = some (.cells #[a0, a1, a2, a3, a4] t (0, 0))) : (results fn tmps).run Tryz.prog w = .ok (.agg #[a0, a1, a2, a3, a4]) w := by
  obtain ⟨c0, c1, c2, c3, c4, -⟩ := five h
  simp [results, hres, ht, go_sem, c0, c1, c2, c3, c4]

/-- Three new blocks. -/
theorem zero_blocks (w : World) (a b c : Obj) : (((w.alloc a).alloc b).alloc c).heap[w.heap.size]? = some a ∧ (((w.alloc a).alloc b).alloc c).heap[w.heap.size + 1]? = some b ∧ (((w.alloc a).alloc b).alloc c).heap[w.heap.size + 1 + 1]? = some c ∧
    Below w.heap.size w (((w.alloc a).alloc b).alloc c) ∧ (((w.alloc a).alloc b).alloc c).heap.size = w.heap.size + 3 := by
  have e1 : (w.alloc a).heap.size = w.heap.size + 1 := by simp
  have e2 : ((w.alloc a).alloc b).heap.size = w.heap.size + 1 + 1 := by simp
  refine ⟨?_, ?_, ?_, ((((Below.refl _ w).alloc (Nat.le_refl _) _).alloc (by simp) _).alloc (by simp; omega) _), by simp⟩
  · rw [Below.heap_alloc _ _ _ (by simp; omega), Below.heap_alloc _ _ _ (by simp), heap_last]
  · rw [Below.heap_alloc _ _ _ (by simp), ← e1, heap_last]
  · rw [← e2, heap_last]

end Go.Proofs.YtfmkhogpnnobeaaGreatDoor
