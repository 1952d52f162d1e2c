/-
  What is proved: plain facts on trees as they lie in memory: which blocks a tree lies in, and that it lies there still in every world that has these blocks as they were.
-/
import Derived.Below
import Derived.Lib.Hide
import Derived.Laws.Strings
namespace Go.Proofs.Ytbcgkpkkhinkcaa
open Go Go.RowKit

/-- A tree: its kind, its number, its text, its keys, its kids. -/
inductive RT where
  | node (k n : Int) (s : ByteArray) (keys : List ByteArray) (kids : List RT)

instance : Inhabited RT := ⟨.node 0 0 ByteArray.empty [] []⟩

def RT.k : RT → Int | .node k _ _ _ _ => k
def RT.n : RT → Int | .node _ n _ _ _ => n
def RT.s : RT → ByteArray | .node _ _ s _ _ => s
def RT.keys : RT → List ByteArray | .node _ _ _ l _ => l
def RT.kids : RT → List RT | .node _ _ _ _ l => l

theorem RT.eta (T : RT) : T = .node T.k T.n T.s T.keys T.kids := by cases T; rfl

theorem RT.ext {A B : RT} (h1 : A.k = B.k) (h2 : A.n = B.n) (h3 : A.s = B.s) (h4 : A.keys = B.keys) (h5 : A.kids = B.kids) : A = B := by
  rw [RT.eta A, RT.eta B, h1, h2, h3, h4, h5]

mutual
theorem RT.ind_aux {p : RT → Prop} (h : ∀ k n s keys kids, (∀ t ∈ kids, p t) → p (.node k n s keys kids)) : (t : RT) → p t
  | .node k n s keys kids => h k n s keys kids (RT.ind_all h kids)
theorem RT.ind_all {p : RT → Prop} (h : ∀ k n s keys kids, (∀ t ∈ kids, p t) → p (.node k n s keys kids)) : (l : List RT) → ∀ t ∈ l, p t
  | [], _, ht => absurd ht (by simp)
  | x :: l, t, ht => by
    rcases List.mem_cons.1 ht with e | e
    · rw [e]; exact RT.ind_aux h x
    · exact RT.ind_all h l t e
end

theorem RT.ind {p : RT → Prop} (h : ∀ k n s keys kids, (∀ t ∈ kids, p t) → p (.node k n s keys kids)) (t : RT) : p t := RT.ind_aux h t

/-- A number of 64 bits. -/
def Fit (x : Int) : Prop := -9223372036854775808 ≤ x ∧ x ≤ 9223372036854775807

/-- A node's five cells, of which two lead on. -/
def RT.row (T : RT) (kv dv : Value) : List Value := [.int .i64 T.k, .int .i64 T.n, .string T.s, kv, dv]
/-- A node as one value. -/
def RT.val (T : RT) (kv dv : Value) : Value := .agg #[.int .i64 T.k, .int .i64 T.n, .string T.s, kv, dv]

/-- There are so many cells from here on. -/
def Room (w : World) (b off n : Nat) : Prop := ∀ i, i < n → (w.cell? ⟨b, off + i, none⟩).isSome = true

/-- The list of texts that v is, and the block it lies in, its spare room too. -/
def StrsAt (w : World) (v : Value) (ks : List ByteArray) (F : List Nat) : Prop :=
  ∃ (o : Option Addr) (cap b off : Nat), v = .slice o ks.length cap ∧ ks.length ≤ cap ∧ cap ≤ maxLen ∧ (0 < cap → o = some ⟨b, off, none⟩) ∧ F = (if cap = 0 then [] else [b]) ∧
    (∀ i (h : i < ks.length), w.cell? ⟨b, off + i, none⟩ = some (.string ks[i]) ∧ ks[i].size ≤ maxLen) ∧ Room w b off cap

/-- The tree T lies in w behind these two lists, in the blocks F. -/
inductive Lies (w : World) : RT → Value → Value → List Nat → Prop
  | mk (k n : Int) (s : ByteArray) (keys : List ByteArray) (kids : List RT) (kv : Value) (FK : List Nat) (o : Option Addr) (cap b off : Nat) (FF : Nat → List Nat) (KV DV : Nat → Value) :
    Fit k → Fit n → s.size ≤ maxLen → StrsAt w kv keys FK → kids.length ≤ cap → cap ≤ maxLen → (0 < cap → o = some ⟨b, off, none⟩) → Room w b off (cap * 5) →
    (∀ i (h : i < kids.length), ∀ j, j < 5 → w.cell? ⟨b, off + i * 5 + j, none⟩ = (kids[i].row (KV i) (DV i))[j]?) →
    (∀ i (h : i < kids.length), Lies w kids[i] (KV i) (DV i) (FF i)) →
    Lies w (.node k n s keys kids) kv (.slice o kids.length cap) (FK ++ ((if cap = 0 then [] else [b]) ++ (List.range kids.length).flatMap FF))

/-- A list of trees that lies in w. -/
def KidsLie (w : World) (dv : Value) (kids : List RT) (F : List Nat) : Prop :=
  ∃ (o : Option Addr) (cap b off : Nat) (FF : Nat → List Nat) (KV DV : Nat → Value), dv = .slice o kids.length cap ∧ kids.length ≤ cap ∧ cap ≤ maxLen ∧ (0 < cap → o = some ⟨b, off, none⟩) ∧
    F = (if cap = 0 then [] else [b]) ++ (List.range kids.length).flatMap FF ∧
    (∀ i (h : i < kids.length), ∀ j, j < 5 → w.cell? ⟨b, off + i * 5 + j, none⟩ = (kids[i].row (KV i) (DV i))[j]?) ∧
    (∀ i (h : i < kids.length), Lies w kids[i] (KV i) (DV i) (FF i)) ∧ Room w b off (cap * 5)

theorem Room.carry {w w' : World} {b off n : Nat} (h : Room w b off n) (hb : w'.heap[b]? = w.heap[b]?) : Room w' b off n := fun i hi => by
  rw [World.cell?_of_block (w := w) (a := ⟨b, off + i, none⟩) hb]; exact h i hi

theorem Room.lt {w : World} {b off n : Nat} (h : Room w b off n) (hn : 0 < n) : b < w.heap.size := by
  have := h 0 hn
  obtain ⟨u, hu⟩ := Option.isSome_iff_exists.1 this
  exact World.block_lt_of_cell? _ _ hu

theorem Room.nil (w : World) (b off : Nat) : Room w b off 0 := fun i hi => absurd hi (by omega)

theorem Lies.out {w : World} {T : RT} {kv dv : Value} {F : List Nat} (h : Lies w T kv dv F) :
    Fit T.k ∧ Fit T.n ∧ T.s.size ≤ maxLen ∧ ∃ FK FD, StrsAt w kv T.keys FK ∧ KidsLie w dv T.kids FD ∧ F = FK ++ FD := by
  cases h with
  | mk k n s keys kids kv FK o cap b off FF KV DV h1 h2 h3 h4 h5 h6 h7 hr h8 h9 => exact ⟨h1, h2, h3, FK, _, h4, ⟨o, cap, b, off, FF, KV, DV, rfl, h5, h6, h7, rfl, h8, h9, hr⟩, rfl⟩

theorem Lies.outn {w : World} {k n : Int} {s : ByteArray} {keys : List ByteArray} {kids : List RT} {kv dv : Value} {F : List Nat} (h : Lies w (.node k n s keys kids) kv dv F) :
    Fit k ∧ Fit n ∧ s.size ≤ maxLen ∧ ∃ FK FD, StrsAt w kv keys FK ∧ KidsLie w dv kids FD ∧ F = FK ++ FD := h.out

theorem StrsAt.slice {w : World} {v : Value} {ks : List ByteArray} {F : List Nat} (h : StrsAt w v ks F) : ∃ o c, v = .slice o ks.length c := by
  obtain ⟨o', cap', _, _, rfl, _⟩ := h
  exact ⟨o', cap', rfl⟩

theorem KidsLie.slice {w : World} {v : Value} {kids : List RT} {F : List Nat} (h : KidsLie w v kids F) : ∃ o c, v = .slice o kids.length c := by
  obtain ⟨o', cap', _, _, _, _, _, rfl, _⟩ := h
  exact ⟨o', cap', rfl⟩

theorem Lies.slices {w : World} {T : RT} {kv dv : Value} {F : List Nat} (h : Lies w T kv dv F) : (∃ o c, kv = .slice o T.keys.length c) ∧ ∃ o c, dv = .slice o T.kids.length c := by
  cases h with
  | mk k n s keys kids kv FK o cap b off FF KV DV h1 h2 h3 h4 h5 h6 h7 hr h8 h9 =>
    obtain ⟨o', cap', _, _, rfl, _⟩ := h4
    exact ⟨⟨o', cap', rfl⟩, o, cap, rfl⟩

theorem Lies.into {w : World} {k n : Int} {s : ByteArray} {keys : List ByteArray} {kids : List RT} {kv dv : Value} {FK FD : List Nat} (h1 : Fit k) (h2 : Fit n) (h3 : s.size ≤ maxLen)
    (h4 : StrsAt w kv keys FK) (h5 : KidsLie w dv kids FD) : Lies w (.node k n s keys kids) kv dv (FK ++ FD) := by
  obtain ⟨o, cap, b, off, FF, KV, DV, rfl, g1, g2, g3, rfl, g4, g5, g6⟩ := h5
  exact .mk k n s keys kids kv FK o cap b off FF KV DV h1 h2 h3 h4 g1 g2 g3 g6 g4 g5

theorem Lies.into' {w : World} {T : RT} {kv dv : Value} {FK FD : List Nat} (h1 : Fit T.k) (h2 : Fit T.n) (h3 : T.s.size ≤ maxLen)
    (h4 : StrsAt w kv T.keys FK) (h5 : KidsLie w dv T.kids FD) : Lies w T kv dv (FK ++ FD) := by
  rw [RT.eta T]; exact Lies.into h1 h2 h3 h4 h5

theorem ret_int {x y : Int} (h : x = y) : Ending.returned (.int .i64 x) = .returned (.int .i64 y) := by rw [h]
theorem ret_bool {x y : Bool} (h : x = y) : Ending.returned (.bool x) = .returned (.bool y) := by rw [h]

theorem bytes_ne {x y : ByteArray} (h : ¬ x = y) : (x.toList == y.toList) = false := by
  rw [beq_eq_false_iff_ne]
  intro e
  rw [ByteArray.toList_eq, ByteArray.toList_eq] at e
  exact h (ByteArray.ext (Array.toList_inj.1 e))

/-! ### From world to world -/

/-- The five cells of a node that lies in a row, read in a later world. -/
theorem kid_cells {w wr : World} {b o : Nat} {T : RT} {kv dv : Value} (hc : ∀ j, j < 5 → w.cell? ⟨b, o + j, none⟩ = (T.row kv dv)[j]?) (hb : Below w.heap.size w wr) :
    wr.cell? ⟨b, o, none⟩ = some (.int .i64 T.k) ∧ wr.cell? ⟨b, o + 1, none⟩ = some (.int .i64 T.n) ∧ wr.cell? ⟨b, o + 2, none⟩ = some (.string T.s) ∧ wr.cell? ⟨b, o + 3, none⟩ = some kv ∧ wr.cell? ⟨b, o + 4, none⟩ = some dv := by
  have h0 : w.cell? ⟨b, o + 0, none⟩ = some (.int .i64 T.k) := hc 0 (by omega)
  have hlt : b < w.heap.size := World.block_lt_of_cell? _ _ h0
  refine ⟨?_, ?_, ?_, ?_, ?_⟩
  · rw [hb.cell (by exact hlt)]; exact h0
  · rw [hb.cell (by exact hlt)]; exact hc 1 (by omega)
  · rw [hb.cell (by exact hlt)]; exact hc 2 (by omega)
  · rw [hb.cell (by exact hlt)]; exact hc 3 (by omega)
  · rw [hb.cell (by exact hlt)]; exact hc 4 (by omega)

theorem StrsAt.carry {w w' : World} {v : Value} {ks : List ByteArray} {F : List Nat} (h : StrsAt w v ks F) (hF : ∀ b ∈ F, w'.heap[b]? = w.heap[b]?) : StrsAt w' v ks F := by
  obtain ⟨o, cap, b, off, rfl, h1, h2, h3, rfl, h4, h5⟩ := h
  have hb : 0 < cap → w'.heap[b]? = w.heap[b]? := fun hc => hF b (by rw [if_neg (by omega)]; simp)
  refine ⟨o, cap, b, off, rfl, h1, h2, h3, rfl, fun i hi => ⟨?_, (h4 i hi).2⟩, fun i hi => ?_⟩
  · rw [World.cell?_of_block (w := w) (hb (by omega))]
    exact (h4 i hi).1
  · rw [World.cell?_of_block (w := w) (a := ⟨b, off + i, none⟩) (hb (by omega))]
    exact h5 i hi

theorem Lies.carry {w w' : World} {T : RT} {kv dv : Value} {F : List Nat} (h : Lies w T kv dv F) (hF : ∀ b ∈ F, w'.heap[b]? = w.heap[b]?) : Lies w' T kv dv F := by
  induction h with
  | mk k n s keys kids kv FK o cap b off FF KV DV h1 h2 h3 h4 h5 h6 h7 hr h8 h9 ih =>
    have hb : 0 < cap → w'.heap[b]? = w.heap[b]? := fun hc => hF b (by rw [if_neg (by omega)]; simp)
    refine .mk k n s keys kids kv FK o cap b off FF KV DV h1 h2 h3 (h4.carry fun c hc => hF c (by simp [hc])) h5 h6 h7 (fun i hi => ?_) (fun i hi j hj => ?_) (fun i hi => ih i hi fun c hc => hF c ?_)
    · rw [World.cell?_of_block (w := w) (a := ⟨b, off + i, none⟩) (hb (by omega))]
      exact hr i hi
    · rw [World.cell?_of_block (w := w) (hb (by omega))]
      exact h8 i hi j hj
    · exact List.mem_append_right _ (List.mem_append_right _ (List.mem_flatMap.2 ⟨i, List.mem_range.2 hi, hc⟩))

theorem KidsLie.carry {w w' : World} {dv : Value} {kids : List RT} {F : List Nat} (h : KidsLie w dv kids F) (hF : ∀ b ∈ F, w'.heap[b]? = w.heap[b]?) : KidsLie w' dv kids F := by
  obtain ⟨o, cap, b, off, FF, KV, DV, rfl, g1, g2, g3, rfl, g4, g5, g6⟩ := h
  have hb : 0 < cap → w'.heap[b]? = w.heap[b]? := fun hc => hF b (by rw [if_neg (by omega)]; simp)
  refine ⟨o, cap, b, off, FF, KV, DV, rfl, g1, g2, g3, rfl, fun i hi j hj => ?_, fun i hi => (g5 i hi).carry fun c hc => hF c ?_, fun i hi => ?_⟩
  · rw [World.cell?_of_block (w := w) (hb (by omega))]
    exact g4 i hi j hj
  · exact List.mem_append_right _ (List.mem_flatMap.2 ⟨i, List.mem_range.2 hi, hc⟩)
  · rw [World.cell?_of_block (w := w) (a := ⟨b, off + i, none⟩) (hb (by omega))]
    exact g6 i hi

theorem StrsAt.lt {w : World} {v : Value} {ks : List ByteArray} {F : List Nat} (h : StrsAt w v ks F) : ∀ b ∈ F, b < w.heap.size := by
  obtain ⟨o, cap, b, off, rfl, h1, h2, h3, rfl, h4, h5⟩ := h
  intro c hc
  split at hc
  · simp at hc
  · simp at hc
    subst hc
    exact h5.lt (by omega)

theorem Lies.lt {w : World} {T : RT} {kv dv : Value} {F : List Nat} (h : Lies w T kv dv F) : ∀ b ∈ F, b < w.heap.size := by
  induction h with
  | mk k n s keys kids kv FK o cap b off FF KV DV h1 h2 h3 h4 h5 h6 h7 hr h8 h9 ih =>
    intro c hc
    rcases List.mem_append.1 hc with hc | hc
    · exact h4.lt c hc
    · rcases List.mem_append.1 hc with hc | hc
      · split at hc
        · simp at hc
        · simp at hc
          subst hc
          exact hr.lt (by omega)
      · obtain ⟨i, hi, hc⟩ := List.mem_flatMap.1 hc
        exact ih i (List.mem_range.1 hi) c hc

theorem KidsLie.lt {w : World} {dv : Value} {kids : List RT} {F : List Nat} (h : KidsLie w dv kids F) : ∀ b ∈ F, b < w.heap.size := by
  have := (Lies.into (k := 0) (n := 0) (s := ByteArray.empty) (keys := []) (kv := .slice none 0 0) (FK := []) ⟨by decide, by decide⟩ ⟨by decide, by decide⟩ (by decide) ⟨none, 0, 0, 0, rfl, Nat.le_refl _, Nat.zero_le _, fun h => absurd h (by simp), rfl, fun i hi => absurd hi (by simp), Room.nil _ _ _⟩ h).lt
  simpa using this

theorem Lies.stay {w w' : World} {T : RT} {kv dv : Value} {F : List Nat} (h : Lies w T kv dv F) {B : Nat} (hb : Below B w w') (hB : w.heap.size ≤ B) : Lies w' T kv dv F :=
  h.carry fun b hF => hb.block b (Nat.lt_of_lt_of_le (h.lt b hF) hB)
theorem KidsLie.stay {w w' : World} {dv : Value} {kids : List RT} {F : List Nat} (h : KidsLie w dv kids F) {B : Nat} (hb : Below B w w') (hB : w.heap.size ≤ B) : KidsLie w' dv kids F :=
  h.carry fun b hF => hb.block b (Nat.lt_of_lt_of_le (h.lt b hF) hB)
theorem StrsAt.stay {w w' : World} {v : Value} {ks : List ByteArray} {F : List Nat} (h : StrsAt w v ks F) {B : Nat} (hb : Below B w w') (hB : w.heap.size ≤ B) : StrsAt w' v ks F :=
  h.carry fun b hF => hb.block b (Nat.lt_of_lt_of_le (h.lt b hF) hB)


/-! ### A node that a function was handed, in its block -/

theorem heap_last (w : World) (o : Obj) : (w.alloc o).heap[w.heap.size]? = some o := by
  show (w.heap.push o)[w.heap.size]? = _
  simp

theorem cell_of {w : World} {b : Nat} {cs : Array Value} {t : TypeId} {fz : Nat × Nat} (h : w.heap[b]? = some (.cells cs t fz)) (o : Nat) : w.cell? ⟨b, o, none⟩ = cs[o]? := by
  simp [World.cell?, h]

/-- A block of five cells, none frozen. -/
theorem five {w : World} {b : Nat} {t : TypeId} {a0 a1 a2 a3 a4 : Value} (h : w.heap[b]? = some (.cells #[a0, a1, a2, a3, a4] t (0, 0))) :
    w.cell? ⟨b, 0, none⟩ = some a0 ∧ w.cell? ⟨b, 1, none⟩ = some a1 ∧ w.cell? ⟨b, 2, none⟩ = some a2 ∧ w.cell? ⟨b, 3, none⟩ = some a3 ∧ w.cell? ⟨b, 4, none⟩ = some a4 ∧ ∀ o, w.frozen? ⟨b, o, none⟩ = false := by
  refine ⟨cell_of h 0, cell_of h 1, cell_of h 2, cell_of h 3, cell_of h 4, fun o => ?_⟩
  simp [World.frozen?, h]

theorem heap_set {w : World} {b : Nat} {cs : Array Value} {t : TypeId} {fz : Nat × Nat} (h : w.heap[b]? = some (.cells cs t fz)) (o : Nat) (v : Value) : (w.setCell ⟨b, o, none⟩ v).heap[b]? = some (.cells (cs.setIfInBounds o v) t fz) := by
  simp [World.setCell, Array.getElem?_modify, h]

theorem Room.set {w : World} {b off n : Nat} (h : Room w b off n) (a : Addr) (v : Value) : Room (w.setCell a v) b off n := fun i hi => by
  obtain ⟨u, hu⟩ := Option.isSome_iff_exists.1 (h i hi)
  obtain ⟨u', hu'⟩ := cell?_setCell_some (p := a) (x := v) hu
  rw [hu']; rfl

theorem Room.below {w w' : World} {b off n : Nat} (h : Room w b off n) (hb : Below w.heap.size w w') : Room w' b off n := fun i hi => by
  rw [hb.cell (by exact h.lt (by omega))]; exact h i hi

theorem room_of {w : World} {b n : Nat} {cs : Array Value} {t : TypeId} {fz : Nat × Nat} (h : w.heap[b]? = some (.cells cs t fz)) (hn : n ≤ cs.size) : Room w b 0 n := fun i hi => by
  rw [Nat.zero_add, cell_of h, Array.getElem?_eq_getElem (by omega)]; rfl

/-- The function's own copy of one node: the block behind w; w itself is as it was. -/
structure Box (w wr : World) (a b c d e : Value) : Prop where
  below : Below w.heap.size w wr
  lt : w.heap.size < wr.heap.size
  c0 : wr.cell? ⟨w.heap.size, 0, none⟩ = some a
  c1 : wr.cell? ⟨w.heap.size, 1, none⟩ = some b
  c2 : wr.cell? ⟨w.heap.size, 2, none⟩ = some c
  c3 : wr.cell? ⟨w.heap.size, 3, none⟩ = some d
  c4 : wr.cell? ⟨w.heap.size, 4, none⟩ = some e

theorem Box.start (w : World) (a b c d e : Value) (t : TypeId) : Box w (w.alloc (.cells #[a, b, c, d, e] t)) a b c d e where
  below := (Below.refl _ w).alloc (Nat.le_refl _) _
  lt := by simp
  c0 := (cell_of (heap_last w _) 0).trans rfl
  c1 := (cell_of (heap_last w _) 1).trans rfl
  c2 := (cell_of (heap_last w _) 2).trans rfl
  c3 := (cell_of (heap_last w _) 3).trans rfl
  c4 := (cell_of (heap_last w _) 4).trans rfl

theorem Box.next {w wr w1 : World} {a b c d e : Value} (h : Box w wr a b c d e) (hb : Below wr.heap.size wr w1) : Box w w1 a b c d e where
  below := h.below.trans (hb.mono h.below.size)
  lt := Nat.lt_of_lt_of_le h.lt hb.size
  c0 := by rw [hb.cell (by exact h.lt)]; exact h.c0
  c1 := by rw [hb.cell (by exact h.lt)]; exact h.c1
  c2 := by rw [hb.cell (by exact h.lt)]; exact h.c2
  c3 := by rw [hb.cell (by exact h.lt)]; exact h.c3
  c4 := by rw [hb.cell (by exact h.lt)]; exact h.c4

/-- Two nodes that a function was handed. -/
structure Box2 (w wr : World) (a b c d e a' b' c' d' e' : Value) : Prop where
  below : Below w.heap.size w wr
  lt : w.heap.size + 1 < wr.heap.size
  c0 : wr.cell? ⟨w.heap.size, 0, none⟩ = some a
  c1 : wr.cell? ⟨w.heap.size, 1, none⟩ = some b
  c2 : wr.cell? ⟨w.heap.size, 2, none⟩ = some c
  c3 : wr.cell? ⟨w.heap.size, 3, none⟩ = some d
  c4 : wr.cell? ⟨w.heap.size, 4, none⟩ = some e
  g0 : wr.cell? ⟨w.heap.size + 1, 0, none⟩ = some a'
  g1 : wr.cell? ⟨w.heap.size + 1, 1, none⟩ = some b'
  g2 : wr.cell? ⟨w.heap.size + 1, 2, none⟩ = some c'
  g3 : wr.cell? ⟨w.heap.size + 1, 3, none⟩ = some d'
  g4 : wr.cell? ⟨w.heap.size + 1, 4, none⟩ = some e'

theorem Box2.start (w : World) (a b c d e a' b' c' d' e' : Value) (t t' : TypeId) : Box2 w ((w.alloc (.cells #[a, b, c, d, e] t)).alloc (.cells #[a', b', c', d', e'] t')) a b c d e a' b' c' d' e' where
  below := ((Below.refl _ w).alloc (Nat.le_refl _) _).alloc (by simp) _
  lt := by simp
  c0 := (cell_of ((Below.heap_alloc _ _ _ (by simp)).trans (heap_last w _)) 0).trans rfl
  c1 := (cell_of ((Below.heap_alloc _ _ _ (by simp)).trans (heap_last w _)) 1).trans rfl
  c2 := (cell_of ((Below.heap_alloc _ _ _ (by simp)).trans (heap_last w _)) 2).trans rfl
  c3 := (cell_of ((Below.heap_alloc _ _ _ (by simp)).trans (heap_last w _)) 3).trans rfl
  c4 := (cell_of ((Below.heap_alloc _ _ _ (by simp)).trans (heap_last w _)) 4).trans rfl
  g0 := (cell_of (by have := heap_last (w.alloc (.cells #[a, b, c, d, e] t)) (.cells #[a', b', c', d', e'] t'); simpa using this) 0).trans rfl
  g1 := (cell_of (by have := heap_last (w.alloc (.cells #[a, b, c, d, e] t)) (.cells #[a', b', c', d', e'] t'); simpa using this) 1).trans rfl
  g2 := (cell_of (by have := heap_last (w.alloc (.cells #[a, b, c, d, e] t)) (.cells #[a', b', c', d', e'] t'); simpa using this) 2).trans rfl
  g3 := (cell_of (by have := heap_last (w.alloc (.cells #[a, b, c, d, e] t)) (.cells #[a', b', c', d', e'] t'); simpa using this) 3).trans rfl
  g4 := (cell_of (by have := heap_last (w.alloc (.cells #[a, b, c, d, e] t)) (.cells #[a', b', c', d', e'] t'); simpa using this) 4).trans rfl

theorem Box2.next {w wr w1 : World} {a b c d e a' b' c' d' e' : Value} (h : Box2 w wr a b c d e a' b' c' d' e') (hb : Below wr.heap.size wr w1) : Box2 w w1 a b c d e a' b' c' d' e' where
  below := h.below.trans (hb.mono h.below.size)
  lt := Nat.lt_of_lt_of_le h.lt hb.size
  c0 := by rw [hb.cell (by exact Nat.lt_of_succ_lt h.lt)]; exact h.c0
  c1 := by rw [hb.cell (by exact Nat.lt_of_succ_lt h.lt)]; exact h.c1
  c2 := by rw [hb.cell (by exact Nat.lt_of_succ_lt h.lt)]; exact h.c2
  c3 := by rw [hb.cell (by exact Nat.lt_of_succ_lt h.lt)]; exact h.c3
  c4 := by rw [hb.cell (by exact Nat.lt_of_succ_lt h.lt)]; exact h.c4
  g0 := by rw [hb.cell (by exact h.lt)]; exact h.g0
  g1 := by rw [hb.cell (by exact h.lt)]; exact h.g1
  g2 := by rw [hb.cell (by exact h.lt)]; exact h.g2
  g3 := by rw [hb.cell (by exact h.lt)]; exact h.g3
  g4 := by rw [hb.cell (by exact h.lt)]; exact h.g4

end Go.Proofs.Ytbcgkpkkhinkcaa
