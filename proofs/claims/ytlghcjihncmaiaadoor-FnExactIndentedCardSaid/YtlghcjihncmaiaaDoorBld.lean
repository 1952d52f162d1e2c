/-
  What is proved: what a text's builder holds, and what WriteString and String make of it.
-/
import Derived.Test.YtlghcjihncmaiaaDoorBracI
namespace Go.Proofs.YtlghcjihncmaiaaDoor
open Go Go.RowKit Go.Shelf

/-- Since w0 a builder was made in the block b, which holds these bytes; what w0 has is as it was. -/
structure Bd (w0 : World) (b : Nat) (l : List UInt8) (w : World) : Prop where
  below : Below w0.heap.size w0 w
  bld : Lib.IsBuilderF 43 5 w0.heap.size b (Lib.byteCells l) w

/-- All but the builder, and rows of bytes, is as it was. -/
abbrev Kept (b : Nat) (w w' : World) : Prop := Lib.OthersKept 5 (some b) w w'

theorem kept_below {b : Nat} {w w1 : World} (hb : Below w.heap.size w w1) : Kept b w w1 := fun k _ hk _ _ =>
  (hb.block k (Array.getElem?_eq_some_iff.1 hk).1).trans hk

theorem Bd.lt {w0 w : World} {b : Nat} {l : List UInt8} (h : Bd w0 b l w) : b < w.heap.size := by
  rcases h.bld with h | h
  · exact h.lt
  · exact h.lt

theorem bld_on {B b : Nat} {p : Value} {bs : List Value} {w w1 : World} (h : Lib.BuilderAtF 43 5 B b p bs w) (hb : Below w.heap.size w w1) : Lib.BuilderAtF 43 5 B b p bs w1 := by
  have hlt := h.lt
  obtain ⟨h1, v, h2, h3, h4⟩ := h
  refine ⟨h1, v, (hb.block b hlt).trans h2, World.ownsRowF.kept (row := none) h3 ⟨hb.os, hb.tape, hb.output, hb.size, fun k hk _ => hb.block k hk⟩ ?_, h4⟩
  rcases v.ownBlock with _ | k
  · exact .inl rfl
  · exact .inr (by simp)

theorem Bd.on {w0 w w1 : World} {b : Nat} {l : List UInt8} (h : Bd w0 b l w) (hb : Below w.heap.size w w1) : Bd w0 b l w1 where
  below := h.below.trans (hb.mono h.below.size)
  bld := h.bld.elim (fun x => .inl (bld_on x hb)) (fun x => .inr (bld_on x hb))

theorem bld_write {w0 w : World} {b : Nat} {l : List UInt8} (h : Bd w0 b l w) (s : ByteArray) (hl : l.length + s.size ≤ 100000000000) :
    Calls Tryd.prog 32 #[.pointer (some ⟨b, 0, none⟩), .string s] w fun e w' => e = .returned (.tuple #[.int .i64 s.size, .nilIface]) ∧ Bd w0 b (l ++ s.data.toList) w' ∧ Kept b w w' := by
  refine (Any.Builder_WriteString_k (ρ := Tryd.lays156_ren) { Tryd.lays156 with } Tryd.Builder_Extra_156 w0.heap.size b (Lib.byteCells l) s w h.bld (by rw [Lib.byteCells_length]; omega) h.below.size).mono ?_
  rintro e w' ⟨rfl, h1, h2, h3⟩
  exact ⟨rfl, ⟨h.below.trans h2, .inr (by rw [Lib.byteCells_append, ← Lib.strCells_eq]; exact h1)⟩, h3⟩

theorem bld_string {w0 w : World} {b : Nat} {l : List UInt8} (h : Bd w0 b l w) :
    Calls Tryd.prog 20 #[.pointer (some ⟨b, 0, none⟩)] w fun e w' => e = .returned (.string ⟨l.toArray⟩) ∧ Below w0.heap.size w0 w' := by
  refine (Tryd.Builder_String_any_k w0.heap.size b l w h.bld h.below.size).mono ?_
  rintro e w' ⟨rfl, h1, h2, h3⟩
  exact ⟨rfl, h.below.trans h2⟩

/-- A node's block is kept. -/
theorem kept_node {b k : Nat} {w w' : World} {cs : Array Value} {fz : Nat × Nat} (h : Kept b w w') (hk : w.heap[k]? = some (.cells cs 30 fz)) (hb : k ≠ b) : w'.heap[k]? = some (.cells cs 30 fz) :=
  h k _ hk (by simpa using hb) (by intro c fz' e; injection e with _ e2 _; exact absurd e2 (by decide))

/-- A builder that was made just now. -/
theorem Bd.start (w0 w : World) (hb : Below w0.heap.size w0 w) : Bd w0 w.heap.size [] (w.alloc (.cells #[.pointer none, .slice none 0 0] 43)) where
  below := hb.alloc hb.size _
  bld := .inl ⟨hb.size, .slice none 0 0, heap_last _ _, World.ownsRowF_nil _ _ _ _, by simp [Value.ownBlock]⟩
end Go.Proofs.YtlghcjihncmaiaaDoor
