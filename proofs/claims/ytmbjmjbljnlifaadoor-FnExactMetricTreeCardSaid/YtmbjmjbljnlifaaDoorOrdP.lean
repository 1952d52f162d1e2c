/-
  What is proved: plain facts on lists of small structs as they lie in memory, and on metrics, notes, paces and orders.
-/
import Derived.Test.YtmbjmjbljnlifaaDoorTree
namespace Go.Proofs.YtmbjmjbljnlifaaDoor
open Go Go.RowKit

/-- A list whose elements take k cells each, and the block it lies in, its spare room too. -/
def RowAt {α : Type} (enc : α → List Value) (ok : α → Prop) (k : Nat) (w : World) (v : Value) (xs : List α) (F : List Nat) : Prop :=
  ∃ (o : Option Addr) (cap b off : Nat), v = .slice o xs.length cap ∧ xs.length ≤ cap ∧ cap ≤ maxLen ∧ (0 < cap → o = some ⟨b, off, none⟩) ∧ F = (if cap = 0 then [] else [b]) ∧
    (∀ i (h : i < xs.length), ok xs[i] ∧ ∀ j, j < k → w.cell? ⟨b, off + i * k + j, none⟩ = (enc xs[i])[j]?) ∧ Room w b off (cap * k)

section
variable {α : Type} {enc : α → List Value} {ok : α → Prop} {k : Nat} {w w' : World} {v : Value} {xs : List α} {F : List Nat}

theorem RowAt.slice (h : RowAt enc ok k w v xs F) : ∃ o c, v = .slice o xs.length c ∧ xs.length ≤ maxLen := by
  obtain ⟨o', cap', _, _, rfl, h1, h2, _⟩ := h
  exact ⟨o', cap', rfl, Nat.le_trans h1 h2⟩

theorem RowAt.len (h : RowAt enc ok k w v xs F) : xs.length ≤ maxLen := by
  obtain ⟨o', cap', _, _, rfl, h1, h2, _⟩ := h
  exact Nat.le_trans h1 h2

theorem RowAt.every (h : RowAt enc ok k w v xs F) : ∀ x ∈ xs, ok x := by
  obtain ⟨o', cap', _, _, rfl, h1, h2, _, _, h3, _⟩ := h
  intro x hx
  obtain ⟨i, hi, rfl⟩ := List.getElem_of_mem hx
  exact (h3 i hi).1

theorem RowAt.carry (h : RowAt enc ok k w v xs F) (hF : ∀ b ∈ F, w'.heap[b]? = w.heap[b]?) : RowAt enc ok k w' v xs F := by
  obtain ⟨o, cap, b, off, rfl, h1, h2, h3, rfl, h4, h5⟩ := h
  have hb : 0 < cap → w'.heap[b]? = w.heap[b]? := fun hc => hF b (by rw [if_neg (by omega)]; simp)
  refine ⟨o, cap, b, off, rfl, h1, h2, h3, rfl, fun i hi => ⟨(h4 i hi).1, fun j hj => ?_⟩, fun i hi => ?_⟩
  · rw [World.cell?_of_block (w := w) (hb (by omega))]
    exact (h4 i hi).2 j hj
  · have : 0 < cap := by
      rcases Nat.eq_zero_or_pos cap with e | e
      · subst e; simp at hi
      · exact e
    rw [World.cell?_of_block (w := w) (a := ⟨b, off + i, none⟩) (hb this)]
    exact h5 i hi

theorem RowAt.lt (h : RowAt enc ok k w v xs F) (hk : 0 < k) : ∀ b ∈ F, b < w.heap.size := by
  obtain ⟨o, cap, b, off, rfl, h1, h2, h3, rfl, h4, h5⟩ := h
  intro c hc
  split at hc
  · simp at hc
  · simp at hc
    subst hc
    exact h5.lt (Nat.mul_pos (by omega) hk)

theorem RowAt.stay (h : RowAt enc ok k w v xs F) (hk : 0 < k) {B : Nat} (hb : Below B w w') (hB : w.heap.size ≤ B) : RowAt enc ok k w' v xs F :=
  h.carry fun b hF => hb.block b (Nat.lt_of_lt_of_le (h.lt hk b hF) hB)
end

structure Met where
  name : ByteArray
  kind : Int
  goal : Int
structure Not where
  key : ByteArray
  text : ByteArray
structure Pac where
  up : Int
  down : Int
  ups : Int
  downs : Int
structure Ord where
  name : ByteArray
  target : ByteArray
  low : Int
  high : Int
  mets : List Met
  pace : Pac
  notes : List Not

def Met.row (m : Met) : List Value := [.string m.name, .int .i64 m.kind, .int .i64 m.goal]
def Met.ok (m : Met) : Prop := m.name.size ≤ maxLen ∧ Fit m.kind ∧ Fit m.goal
def Not.row (m : Not) : List Value := [.string m.key, .string m.text]
def Not.ok (m : Not) : Prop := m.key.size ≤ maxLen ∧ m.text.size ≤ maxLen
def Pac.ok (p : Pac) : Prop := Fit p.up ∧ Fit p.down ∧ Fit p.ups ∧ Fit p.downs
def MetsAt := RowAt Met.row Met.ok 3
def NotsAt := RowAt Not.row Not.ok 2

/-- An order's ten cells, of which two lead on. -/
def Ord.row (o : Ord) (mv nv : Value) : List Value := [.string o.name, .string o.target, .int .i64 o.low, .int .i64 o.high, mv, .int .i64 o.pace.up, .int .i64 o.pace.down, .int .i64 o.pace.ups, .int .i64 o.pace.downs, nv]

/-- An order that lies in w behind these two lists, in the blocks F. -/
structure OrdAt (w : World) (o : Ord) (mv nv : Value) (FM FN : List Nat) : Prop where
  name : o.name.size ≤ maxLen
  target : o.target.size ≤ maxLen
  low : Fit o.low
  high : Fit o.high
  pace : o.pace.ok
  mets : MetsAt w mv o.mets FM
  notes : NotsAt w nv o.notes FN

theorem OrdAt.stay {w w' : World} {o : Ord} {mv nv : Value} {FM FN : List Nat} (h : OrdAt w o mv nv FM FN) {B : Nat} (hb : Below B w w') (hB : w.heap.size ≤ B) : OrdAt w' o mv nv FM FN :=
  ⟨h.name, h.target, h.low, h.high, h.pace, RowAt.stay h.mets (by decide) hb hB, RowAt.stay h.notes (by decide) hb hB⟩

theorem OrdAt.slices {w : World} {o : Ord} {mv nv : Value} {FM FN : List Nat} (h : OrdAt w o mv nv FM FN) : (∃ a c, mv = .slice a o.mets.length c) ∧ ∃ a c, nv = .slice a o.notes.length c := by
  obtain ⟨a, c, e, -⟩ := RowAt.slice h.mets
  obtain ⟨a', c', e', -⟩ := RowAt.slice h.notes
  exact ⟨⟨a, c, e⟩, a', c', e'⟩
end Go.Proofs.YtmbjmjbljnlifaaDoor
