/-
  What is proved: plain facts on an order that is drawn: its block, and its two lists that grow by append, while nothing else turns but the cursor.; the model's drawing of an order: what is drawn is small, and lies in memory of its own; nothing turns but the cursor.
-/
import Derived.Test.YtelpkcbbipianaaGreatPartAO
/- plain facts on an order that is drawn: its block, and its two lists that grow by append, while nothing else turns but the cursor. -/
namespace Go.Proofs.YtelpkcbbipianaaGreat
open Go Go.RowKit

/-- A list of small structs that was laid by append, whole: it lies as such lists do, in a block of its own. -/
theorem rows_at {α : Type} {enc : α → List Value} {ok : α → Prop} {k : Nat} (hk : ∀ a, (enc a).length = k) {wf : World} {base : Nat} {t : TypeId} {v : Value} {xs : List α} (hown : wf.ownsRow base t k v xs.length (xs.flatMap enc)) (hok : ∀ x ∈ xs, ok x) :
    ∃ F, RowAt enc ok k wf v xs F ∧ ∀ x ∈ F, v.ownBlock = some x := by
  rcases hown.2 with ⟨rfl, h0⟩ | ⟨g, cap, cur, rfl, hbg, hg, hn, hc, hs, ht⟩
  · have e : xs = [] := List.eq_nil_of_length_eq_zero h0
    subst e
    exact ⟨[], ⟨none, 0, 0, 0, rfl, Nat.le_refl _, by decide, fun h => absurd h (by omega), by simp, fun i hi => absurd hi (by simp), fun i hi => absurd hi (by simp)⟩, fun x hx => absurd hx (by simp)⟩
  · refine ⟨if cap = 0 then [] else [g], ⟨some ⟨g, 0, none⟩, cap, g, 0, rfl, hn, hc, fun _ => rfl, rfl, fun i hi => ⟨hok _ (List.getElem_mem hi), fun j hj => ?_⟩, fun i hi => ?_⟩, ?_⟩
    · have hlt : i * k + j < xs.length * k := by
        have : (i + 1) * k ≤ xs.length * k := Nat.mul_le_mul_right k (by omega)
        rw [Nat.add_mul] at this
        omega
      have e1 : cur[i * k + j]? = (xs.flatMap enc)[i * k + j]? := by rw [← ht, List.getElem?_take_of_lt hlt, Array.getElem?_toList]
      rw [← flat_at hk xs i hi j hj, ← e1]
      simp [World.cell?, hg]
    · have hi' : i < cur.size := by rw [hs]; exact hi
      simp [World.cell?, hg, Array.getElem?_eq_getElem hi']
    · intro x hx
      split at hx
      · simp at hx
      · simp at hx; subst hx; rfl

def zeroOrd : Array Value := #[.string ⟨#[]⟩, .string ⟨#[]⟩, .int .i64 0, .int .i64 0, .slice none 0 0, .int .i64 0, .int .i64 0, .int .i64 0, .int .i64 0, .slice none 0 0]

/-- Where the drawing of an order stands: the order by now in block B. -/
structure OD (w wr : World) (p : Nat) (a : Option Addr) (len cap : Nat) (B : Nat) (O : Ord) (mv nv : Value) : Prop where
  dg : DG w wr p a len cap zeroOrd 66
  out : wr.heap[B]? = some (.cells (O.row mv nv).toArray 66 (0, 0))
  big : w.heap.size < B
  mets : wr.ownsRow (w.heap.size + 1) 96 3 mv O.mets.length (O.mets.flatMap Met.row)
  notes : wr.ownsRow (w.heap.size + 1) 99 2 nv O.notes.length (O.notes.flatMap Not.row)

section
variable {w wr w1 w2 w3 : World} {p : Nat} {a : Option Addr} {len cap : Nat} {B : Nat} {O : Ord} {mv nv : Value}

theorem OD.lt (h : OD w wr p a len cap B O mv nv) : B < wr.heap.size := (Array.getElem?_eq_some_iff.1 h.out).1

theorem OD.start (h : DG w wr p a len cap zeroOrd 66) (O : Ord) (hm : O.mets = []) (hn : O.notes = []) :
    OD w (wr.alloc (.cells (O.row (.slice none 0 0) (.slice none 0 0)).toArray 66)) p a len cap wr.heap.size O (.slice none 0 0) (.slice none 0 0) :=
  ⟨h.next ((Below.refl _ wr).alloc (Nat.le_refl _) _), heap_last wr _, h.lt, by rw [hm]; exact ⟨rfl, .inl ⟨rfl, rfl⟩⟩, by rw [hn]; exact ⟨rfl, .inl ⟨rfl, rfl⟩⟩⟩

theorem OD.draw (h : OD w wr p a len cap B O mv nv) (hp : p < w.heap.size) (hc : Cur w1 p a len cap) (hg : wr.grownBy w1 (some p)) : OD w w1 p a len cap B O mv nv :=
  ⟨h.dg.draw hp hc hg, (hg.block B h.lt (fun e => by injection e with e; have := h.big; omega)).trans h.out, h.big, owns_carry h.mets fun b hb => hg.block b (owns_blk h.mets hb).2.1 (fun e => by injection e with e; have := (owns_blk h.mets hb).1; omega),
    owns_carry h.notes fun b hb => hg.block b (owns_blk h.notes hb).2.1 (fun e => by injection e with e; have := (owns_blk h.notes hb).1; omega)⟩

theorem OD.next (h : OD w wr p a len cap B O mv nv) (hb : Below wr.heap.size wr w1) : OD w w1 p a len cap B O mv nv :=
  ⟨h.dg.next hb, (hb.block _ h.lt).trans h.out, h.big, owns_below h.mets hb, owns_below h.notes hb⟩

theorem typ_ne {w : World} {b : Nat} {t t' : TypeId} (hne : t ≠ t') {cs cs' : Array Value} (h : w.heap[b]? = some (.cells cs t (0, 0))) (h' : w.heap[b]? = some (.cells cs' t' (0, 0))) : False := by
  rw [h] at h'; injection h' with h'; injection h' with _ h'; exact hne h'

/-- Something that grew by append in a block of its own, and a cell of block B that has been stored. -/
theorem DG.app {cs : Array Value} {t : TypeId} (h : DG w wr p a len cap cs t) (h0 : Cur w p a len cap) {row : Option Nat} (hg : wr.grownBy w3 row) (hr : ∀ x, row = some x → w.heap.size + 1 ≤ x) (hB : w.heap.size < B) (o : Nat) (v : Value) : DG w (w3.setCell ⟨B, o, none⟩ v) p a len cap cs t := by
  have hp := h0.lt
  have hlt := h.lt
  have k1 : ∀ y, y ≤ w.heap.size → w3.heap[y]? = wr.heap[y]? := fun y hy => hg.block y (by omega) (fun e => by have := hr y e.symm; omega)
  have k2 : ∀ y, y ≤ w.heap.size → (w3.setCell ⟨B, o, none⟩ v).heap[y]? = wr.heap[y]? := fun y hy => (Below.heap_setCell _ _ _ _ (by show _ ≠ B; omega)).trans (k1 y hy)
  have hA : ∀ x, a = some x → len = 0 ∨ x.block < w.heap.size := fun x e => by
    obtain ⟨-, h1 | ⟨b, off, e', hlt', -⟩⟩ := h0.code
    · exact .inl h1
    · rw [e] at e'; injection e' with e'; subst e'; exact .inr hlt'
  refine ⟨⟨?_, ?_, h.cur.apart⟩, ⟨hg.os.trans h.grown.os, hg.tape.trans h.grown.tape, hg.output.trans h.grown.output, by have := h.grown.size; have := hg.size; simp [World.setCell]; omega, fun k hk hne => (k2 k (by omega)).trans (h.grown.block k hk hne)⟩, (k2 _ (Nat.le_refl _)).trans h.res⟩
  · obtain ⟨i, x, hi, hc⟩ := h.cur.cur
    exact ⟨i, x, hi, (k2 p (by omega)).trans hc⟩
  · obtain ⟨hl, h1 | ⟨b, off, rfl, hlt', hcc⟩⟩ := h.cur.code
    · exact ⟨hl, .inl h1⟩
    · rcases hA ⟨b, off, none⟩ rfl with h1 | hlt2
      · exact ⟨hl, .inl h1⟩
      have hlt2 : b < w.heap.size := hlt2
      refine ⟨hl, .inr ⟨b, off, rfl, by have := hg.size; simp [World.setCell]; omega, fun j hj => ?_⟩⟩
      obtain ⟨z, hz, hcell⟩ := hcc j hj
      exact ⟨z, hz, (World.cell?_of_block (w := wr) (a := ⟨b, off + j, none⟩) (k2 b (by omega))).trans hcell⟩

/-- One metric more. -/
theorem OD.met (h : OD w wr p a len cap B O mv nv) (h0 : Cur w p a len cap) (m : Met) {g c : Nat} (hg : wr.grownBy w3 mv.ownBlock) (hown : w3.ownsRow (w.heap.size + 1) 96 3 (.slice (some ⟨g, 0, none⟩) (O.mets.length + 1) c) (O.mets.length + 1) (O.mets.flatMap Met.row ++ m.row)) :
    w3.heap[B]? = some (.cells (O.row mv nv).toArray 66 (0, 0)) ∧ OD w (w3.setCell ⟨B, 4, none⟩ (.slice (some ⟨g, 0, none⟩) (O.mets.length + 1) c)) p a len cap B { O with mets := O.mets ++ [m] } (.slice (some ⟨g, 0, none⟩) (O.mets.length + 1) c) nv := by
  have hr : ∀ x, mv.ownBlock = some x → w.heap.size + 1 ≤ x := fun x e => (owns_blk h.mets e).1
  have hout : w3.heap[B]? = _ := (hg.block B h.lt (fun e => by obtain ⟨-, -, cs, e1⟩ := owns_blk h.mets e.symm; exact typ_ne (by decide) e1 h.out)).trans h.out
  refine ⟨hout, h.dg.app h0 hg hr h.big 4 _, ?_, h.big, ?_, ?_⟩
  · exact heap_set hout 4 _
  · have : (O.mets ++ [m]).flatMap Met.row = O.mets.flatMap Met.row ++ m.row := by simp
    show World.ownsRow _ _ _ _ _ (O.mets ++ [m]).length ((O.mets ++ [m]).flatMap Met.row)
    rw [this, List.length_append, List.length_singleton]
    refine owns_carry hown fun b hb => Below.heap_setCell _ _ _ _ ?_
    intro e
    have e : b = B := e
    subst e
    obtain ⟨-, -, cs, e1⟩ := owns_blk hown hb
    exact typ_ne (by decide) e1 hout
  · refine owns_carry h.notes fun b hb => (Below.heap_setCell _ _ _ _ ?_).trans (hg.block b (owns_blk h.notes hb).2.1 (fun e => ?_))
    · intro e
      have e : b = B := e
      subst e
      obtain ⟨-, -, cs, e1⟩ := owns_blk h.notes hb
      exact typ_ne (by decide) e1 h.out
    · obtain ⟨-, -, cs, e1⟩ := owns_blk h.notes hb
      obtain ⟨-, -, cs', e2⟩ := owns_blk h.mets e.symm
      exact typ_ne (by decide) e1 e2

/-- One note more. -/
theorem OD.note (h : OD w wr p a len cap B O mv nv) (h0 : Cur w p a len cap) (m : Not) {g c : Nat} (hg : wr.grownBy w3 nv.ownBlock) (hown : w3.ownsRow (w.heap.size + 1) 99 2 (.slice (some ⟨g, 0, none⟩) (O.notes.length + 1) c) (O.notes.length + 1) (O.notes.flatMap Not.row ++ m.row)) :
    w3.heap[B]? = some (.cells (O.row mv nv).toArray 66 (0, 0)) ∧ OD w (w3.setCell ⟨B, 9, none⟩ (.slice (some ⟨g, 0, none⟩) (O.notes.length + 1) c)) p a len cap B { O with notes := O.notes ++ [m] } mv (.slice (some ⟨g, 0, none⟩) (O.notes.length + 1) c) := by
  have hr : ∀ x, nv.ownBlock = some x → w.heap.size + 1 ≤ x := fun x e => (owns_blk h.notes e).1
  have hout : w3.heap[B]? = _ := (hg.block B h.lt (fun e => by obtain ⟨-, -, cs, e1⟩ := owns_blk h.notes e.symm; exact typ_ne (by decide) e1 h.out)).trans h.out
  refine ⟨hout, h.dg.app h0 hg hr h.big 9 _, ?_, h.big, ?_, ?_⟩
  · exact heap_set hout 9 _
  · refine owns_carry h.mets fun b hb => (Below.heap_setCell _ _ _ _ ?_).trans (hg.block b (owns_blk h.mets hb).2.1 (fun e => ?_))
    · intro e
      have e : b = B := e
      subst e
      obtain ⟨-, -, cs, e1⟩ := owns_blk h.mets hb
      exact typ_ne (by decide) e1 h.out
    · obtain ⟨-, -, cs, e1⟩ := owns_blk h.mets hb
      obtain ⟨-, -, cs', e2⟩ := owns_blk h.notes e.symm
      exact typ_ne (by decide) e1 e2
  · have : (O.notes ++ [m]).flatMap Not.row = O.notes.flatMap Not.row ++ m.row := by simp
    show World.ownsRow _ _ _ _ _ (O.notes ++ [m]).length ((O.notes ++ [m]).flatMap Not.row)
    rw [this, List.length_append, List.length_singleton]
    refine owns_carry hown fun b hb => Below.heap_setCell _ _ _ _ ?_
    intro e
    have e : b = B := e
    subst e
    obtain ⟨-, -, cs, e1⟩ := owns_blk hown hb
    exact typ_ne (by decide) e1 hout
end

/-- What is drawn of an order is within these bounds. -/
structure OkD (O : Ord) : Prop where
  name : O.name.size ≤ 5
  target : O.target.size ≤ 5
  low : 1 ≤ O.low ∧ O.low ≤ 4
  high : 1 ≤ O.high ∧ O.high ≤ 904
  pace : PacD O.pace
  mets : ∀ m ∈ O.mets, MetD m
  notes : ∀ m ∈ O.notes, m.key.size ≤ 5 ∧ m.text.size ≤ 12

/-- The same with a list of texts that is gone through, in block NB. -/
structure ON (w wr : World) (p : Nat) (a : Option Addr) (len cap : Nat) (B : Nat) (O : Ord) (mv nv : Value) (NB : Nat) (cs : Array Value) : Prop where
  od : OD w wr p a len cap B O mv nv
  nm : wr.heap[NB]? = some (.cells cs 9 (0, 0))
  nbig : w.heap.size < NB

section
variable {w wr w1 w2 w3 : World} {p : Nat} {a : Option Addr} {len cap : Nat} {B : Nat} {O : Ord} {mv nv : Value} {NB : Nat} {cs : Array Value}

theorem ON.lt (h : ON w wr p a len cap B O mv nv NB cs) : NB < wr.heap.size := (Array.getElem?_eq_some_iff.1 h.nm).1

theorem ON.draw (h : ON w wr p a len cap B O mv nv NB cs) (hp : p < w.heap.size) (hc : Cur w1 p a len cap) (hg : wr.grownBy w1 (some p)) : ON w w1 p a len cap B O mv nv NB cs :=
  ⟨h.od.draw hp hc hg, (hg.block NB h.lt (fun e => by injection e with e; have := h.nbig; omega)).trans h.nm, h.nbig⟩

theorem ON.next (h : ON w wr p a len cap B O mv nv NB cs) (hb : Below wr.heap.size wr w1) : ON w w1 p a len cap B O mv nv NB cs :=
  ⟨h.od.next hb, (hb.block _ h.lt).trans h.nm, h.nbig⟩

theorem ON.start (h : OD w wr p a len cap B O mv nv) (cs : Array Value) : ON w (wr.alloc (.cells cs 9)) p a len cap B O mv nv wr.heap.size cs :=
  ⟨h.next ((Below.refl _ wr).alloc (Nat.le_refl _) _), heap_last wr _, h.dg.lt⟩

theorem ON.met (h : ON w wr p a len cap B O mv nv NB cs) (h0 : Cur w p a len cap) (m : Met) {g c : Nat} (hg : wr.grownBy w3 mv.ownBlock) (hown : w3.ownsRow (w.heap.size + 1) 96 3 (.slice (some ⟨g, 0, none⟩) (O.mets.length + 1) c) (O.mets.length + 1) (O.mets.flatMap Met.row ++ m.row)) :
    w3.heap[B]? = some (.cells (O.row mv nv).toArray 66 (0, 0)) ∧ ON w (w3.setCell ⟨B, 4, none⟩ (.slice (some ⟨g, 0, none⟩) (O.mets.length + 1) c)) p a len cap B { O with mets := O.mets ++ [m] } (.slice (some ⟨g, 0, none⟩) (O.mets.length + 1) c) nv NB cs := by
  obtain ⟨h1, h2⟩ := h.od.met h0 m hg hown
  refine ⟨h1, h2, (Below.heap_setCell _ _ _ _ ?_).trans ((hg.block NB h.lt (fun e => ?_)).trans h.nm), h.nbig⟩
  · intro e
    have e : NB = B := e
    subst e
    exact typ_ne (by decide) h.nm h.od.out
  · obtain ⟨-, -, cs, e1⟩ := owns_blk h.od.mets e.symm
    exact typ_ne (by decide) e1 h.nm

theorem ON.note (h : ON w wr p a len cap B O mv nv NB cs) (h0 : Cur w p a len cap) (m : Not) {g c : Nat} (hg : wr.grownBy w3 nv.ownBlock) (hown : w3.ownsRow (w.heap.size + 1) 99 2 (.slice (some ⟨g, 0, none⟩) (O.notes.length + 1) c) (O.notes.length + 1) (O.notes.flatMap Not.row ++ m.row)) :
    w3.heap[B]? = some (.cells (O.row mv nv).toArray 66 (0, 0)) ∧ ON w (w3.setCell ⟨B, 9, none⟩ (.slice (some ⟨g, 0, none⟩) (O.notes.length + 1) c)) p a len cap B { O with notes := O.notes ++ [m] } mv (.slice (some ⟨g, 0, none⟩) (O.notes.length + 1) c) NB cs := by
  obtain ⟨h1, h2⟩ := h.od.note h0 m hg hown
  refine ⟨h1, h2, (Below.heap_setCell _ _ _ _ ?_).trans ((hg.block NB h.lt (fun e => ?_)).trans h.nm), h.nbig⟩
  · intro e
    have e : NB = B := e
    subst e
    exact typ_ne (by decide) h.nm h.od.out
  · obtain ⟨-, -, cs, e1⟩ := owns_blk h.od.notes e.symm
    exact typ_ne (by decide) e1 h.nm

/-- An order's ten cells, in a block. -/
theorem ten {w : World} {b : Nat} {t : TypeId} {a0 a1 a2 a3 a4 a5 a6 a7 a8 a9 : Value} (h : w.heap[b]? = some (.cells #[a0, a1, a2, a3, a4, a5, a6, a7, a8, a9] t (0, 0))) :
    w.cell? ⟨b, 0, none⟩ = some a0 ∧ w.cell? ⟨b, 1, none⟩ = some a1 ∧ w.cell? ⟨b, 2, none⟩ = some a2 ∧ w.cell? ⟨b, 3, none⟩ = some a3 ∧ w.cell? ⟨b, 4, none⟩ = some a4 ∧ w.cell? ⟨b, 5, none⟩ = some a5 ∧ w.cell? ⟨b, 6, none⟩ = some a6 ∧ w.cell? ⟨b, 7, none⟩ = some a7 ∧ w.cell? ⟨b, 8, none⟩ = some a8 ∧ w.cell? ⟨b, 9, none⟩ = some a9 ∧ ∀ o, w.frozen? ⟨b, o, none⟩ = false :=
  ⟨cell_of h 0, cell_of h 1, cell_of h 2, cell_of h 3, cell_of h 4, cell_of h 5, cell_of h 6, cell_of h 7, cell_of h 8, cell_of h 9, fun o => by simp [World.frozen?, h]⟩

/-- An order's two lists, each in a block of its own at b or behind it, laid by append. -/
structure OwnO (b : Nat) (wf : World) (O : Ord) (mv nv : Value) : Prop where
  mets : wf.ownsRow b 96 3 mv O.mets.length (O.mets.flatMap Met.row)
  notes : wf.ownsRow b 99 2 nv O.notes.length (O.notes.flatMap Not.row)

/-- An order of values that fit. -/
structure OkW (O : Ord) : Prop where
  name : O.name.size ≤ 100
  target : O.target.size ≤ 100
  low : Fit O.low
  high : Fit O.high
  pace : O.pace.ok
  mets : ∀ m ∈ O.mets, m.ok
  notes : ∀ m ∈ O.notes, m.ok

theorem OwnO.at {b : Nat} {wf : World} {O : Ord} {mv nv : Value} (h : OwnO b wf O mv nv) (hok : OkW O) : ∃ FM FN, OrdAt wf O mv nv FM FN ∧ ∀ y, y ∈ FM ∨ y ∈ FN → b ≤ y := by
  obtain ⟨FM, m1, m2⟩ := rows_at (enc := Met.row) (ok := Met.ok) (k := 3) (fun _ => rfl) h.mets hok.mets
  obtain ⟨FN, n1, n2⟩ := rows_at (enc := Not.row) (ok := Not.ok) (k := 2) (fun _ => rfl) h.notes hok.notes
  exact ⟨FM, FN, ⟨by have := hok.name; unfold maxLen; omega, by have := hok.target; unfold maxLen; omega, hok.low, hok.high, hok.pace, m1, n1⟩, fun y hy => by
    rcases hy with hy | hy
    · exact (owns_blk h.mets (m2 y hy)).1
    · exact (owns_blk h.notes (n2 y hy)).1⟩

theorem PacD.ok {q : Pac} (h : PacD q) : q.ok := by
  obtain ⟨⟨a1, a2⟩, ⟨b1, b2⟩, ⟨c1, c2⟩, d1, d2⟩ := h
  refine ⟨⟨?_, ?_⟩, ⟨?_, ?_⟩, ⟨?_, ?_⟩, ?_, ?_⟩ <;> omega

theorem OkD.okW {O : Ord} (hok : OkD O) : OkW O := by
  have hn := hok.name
  have ht := hok.target
  have hl := hok.low
  have hh := hok.high
  refine ⟨by omega, by omega, ⟨by omega, by omega⟩, ⟨by omega, by omega⟩, hok.pace.ok, fun m hm => ?_, fun m hm => ?_⟩
  · obtain ⟨k1, k2, k3, k4⟩ := hok.mets m hm
    exact ⟨by unfold maxLen; omega, ⟨by omega, by omega⟩, ⟨by omega, by omega⟩⟩
  · obtain ⟨k1, k2⟩ := hok.notes m hm
    exact ⟨by unfold maxLen; omega, by unfold maxLen; omega⟩

/-- The order is answered. -/
theorem OD.fin (h : OD w wr p a len cap B O mv nv) (h0 : Cur w p a len cap) :
    (setL wr w.heap.size 0 (O.row mv nv)).heap[w.heap.size]? = some (.cells (O.row mv nv).toArray 66 (0, 0)) ∧
    OwnO (w.heap.size + 1) (setL wr w.heap.size 0 (O.row mv nv)) O mv nv ∧ Cur (setL wr w.heap.size 0 (O.row mv nv)) p a len cap ∧ w.grownBy (setL wr w.heap.size 0 (O.row mv nv)) (some p) := by
  have g0 : DG w (wr.setCell ⟨w.heap.size, 0, none⟩ (.string O.name)) p a len cap #[(.string O.name), .string ⟨#[]⟩, .int .i64 0, .int .i64 0, .slice none 0 0, .int .i64 0, .int .i64 0, .int .i64 0, .int .i64 0, .slice none 0 0] 66 := h.dg.set h0 0 (.string O.name)
  have g1 : DG w ((wr.setCell ⟨w.heap.size, 0, none⟩ (.string O.name)).setCell ⟨w.heap.size, 1, none⟩ (.string O.target)) p a len cap #[(.string O.name), (.string O.target), .int .i64 0, .int .i64 0, .slice none 0 0, .int .i64 0, .int .i64 0, .int .i64 0, .int .i64 0, .slice none 0 0] 66 := g0.set h0 1 (.string O.target)
  have g2 : DG w (((wr.setCell ⟨w.heap.size, 0, none⟩ (.string O.name)).setCell ⟨w.heap.size, 1, none⟩ (.string O.target)).setCell ⟨w.heap.size, 2, none⟩ (.int .i64 O.low)) p a len cap #[(.string O.name), (.string O.target), (.int .i64 O.low), .int .i64 0, .slice none 0 0, .int .i64 0, .int .i64 0, .int .i64 0, .int .i64 0, .slice none 0 0] 66 := g1.set h0 2 (.int .i64 O.low)
  have g3 : DG w ((((wr.setCell ⟨w.heap.size, 0, none⟩ (.string O.name)).setCell ⟨w.heap.size, 1, none⟩ (.string O.target)).setCell ⟨w.heap.size, 2, none⟩ (.int .i64 O.low)).setCell ⟨w.heap.size, 3, none⟩ (.int .i64 O.high)) p a len cap #[(.string O.name), (.string O.target), (.int .i64 O.low), (.int .i64 O.high), .slice none 0 0, .int .i64 0, .int .i64 0, .int .i64 0, .int .i64 0, .slice none 0 0] 66 := g2.set h0 3 (.int .i64 O.high)
  have g4 : DG w (((((wr.setCell ⟨w.heap.size, 0, none⟩ (.string O.name)).setCell ⟨w.heap.size, 1, none⟩ (.string O.target)).setCell ⟨w.heap.size, 2, none⟩ (.int .i64 O.low)).setCell ⟨w.heap.size, 3, none⟩ (.int .i64 O.high)).setCell ⟨w.heap.size, 4, none⟩ mv) p a len cap #[(.string O.name), (.string O.target), (.int .i64 O.low), (.int .i64 O.high), mv, .int .i64 0, .int .i64 0, .int .i64 0, .int .i64 0, .slice none 0 0] 66 := g3.set h0 4 mv
  have g5 : DG w ((((((wr.setCell ⟨w.heap.size, 0, none⟩ (.string O.name)).setCell ⟨w.heap.size, 1, none⟩ (.string O.target)).setCell ⟨w.heap.size, 2, none⟩ (.int .i64 O.low)).setCell ⟨w.heap.size, 3, none⟩ (.int .i64 O.high)).setCell ⟨w.heap.size, 4, none⟩ mv).setCell ⟨w.heap.size, 5, none⟩ (.int .i64 O.pace.up)) p a len cap #[(.string O.name), (.string O.target), (.int .i64 O.low), (.int .i64 O.high), mv, (.int .i64 O.pace.up), .int .i64 0, .int .i64 0, .int .i64 0, .slice none 0 0] 66 := g4.set h0 5 (.int .i64 O.pace.up)
  have g6 : DG w (((((((wr.setCell ⟨w.heap.size, 0, none⟩ (.string O.name)).setCell ⟨w.heap.size, 1, none⟩ (.string O.target)).setCell ⟨w.heap.size, 2, none⟩ (.int .i64 O.low)).setCell ⟨w.heap.size, 3, none⟩ (.int .i64 O.high)).setCell ⟨w.heap.size, 4, none⟩ mv).setCell ⟨w.heap.size, 5, none⟩ (.int .i64 O.pace.up)).setCell ⟨w.heap.size, 6, none⟩ (.int .i64 O.pace.down)) p a len cap #[(.string O.name), (.string O.target), (.int .i64 O.low), (.int .i64 O.high), mv, (.int .i64 O.pace.up), (.int .i64 O.pace.down), .int .i64 0, .int .i64 0, .slice none 0 0] 66 := g5.set h0 6 (.int .i64 O.pace.down)
  have g7 : DG w ((((((((wr.setCell ⟨w.heap.size, 0, none⟩ (.string O.name)).setCell ⟨w.heap.size, 1, none⟩ (.string O.target)).setCell ⟨w.heap.size, 2, none⟩ (.int .i64 O.low)).setCell ⟨w.heap.size, 3, none⟩ (.int .i64 O.high)).setCell ⟨w.heap.size, 4, none⟩ mv).setCell ⟨w.heap.size, 5, none⟩ (.int .i64 O.pace.up)).setCell ⟨w.heap.size, 6, none⟩ (.int .i64 O.pace.down)).setCell ⟨w.heap.size, 7, none⟩ (.int .i64 O.pace.ups)) p a len cap #[(.string O.name), (.string O.target), (.int .i64 O.low), (.int .i64 O.high), mv, (.int .i64 O.pace.up), (.int .i64 O.pace.down), (.int .i64 O.pace.ups), .int .i64 0, .slice none 0 0] 66 := g6.set h0 7 (.int .i64 O.pace.ups)
  have g8 : DG w (((((((((wr.setCell ⟨w.heap.size, 0, none⟩ (.string O.name)).setCell ⟨w.heap.size, 1, none⟩ (.string O.target)).setCell ⟨w.heap.size, 2, none⟩ (.int .i64 O.low)).setCell ⟨w.heap.size, 3, none⟩ (.int .i64 O.high)).setCell ⟨w.heap.size, 4, none⟩ mv).setCell ⟨w.heap.size, 5, none⟩ (.int .i64 O.pace.up)).setCell ⟨w.heap.size, 6, none⟩ (.int .i64 O.pace.down)).setCell ⟨w.heap.size, 7, none⟩ (.int .i64 O.pace.ups)).setCell ⟨w.heap.size, 8, none⟩ (.int .i64 O.pace.downs)) p a len cap #[(.string O.name), (.string O.target), (.int .i64 O.low), (.int .i64 O.high), mv, (.int .i64 O.pace.up), (.int .i64 O.pace.down), (.int .i64 O.pace.ups), (.int .i64 O.pace.downs), .slice none 0 0] 66 := g7.set h0 8 (.int .i64 O.pace.downs)
  have g9 : DG w ((((((((((wr.setCell ⟨w.heap.size, 0, none⟩ (.string O.name)).setCell ⟨w.heap.size, 1, none⟩ (.string O.target)).setCell ⟨w.heap.size, 2, none⟩ (.int .i64 O.low)).setCell ⟨w.heap.size, 3, none⟩ (.int .i64 O.high)).setCell ⟨w.heap.size, 4, none⟩ mv).setCell ⟨w.heap.size, 5, none⟩ (.int .i64 O.pace.up)).setCell ⟨w.heap.size, 6, none⟩ (.int .i64 O.pace.down)).setCell ⟨w.heap.size, 7, none⟩ (.int .i64 O.pace.ups)).setCell ⟨w.heap.size, 8, none⟩ (.int .i64 O.pace.downs)).setCell ⟨w.heap.size, 9, none⟩ nv) p a len cap #[(.string O.name), (.string O.target), (.int .i64 O.low), (.int .i64 O.high), mv, (.int .i64 O.pace.up), (.int .i64 O.pace.down), (.int .i64 O.pace.ups), (.int .i64 O.pace.downs), nv] 66 := g8.set h0 9 nv
  have hd : DG w (setL wr w.heap.size 0 (O.row mv nv)) p a len cap (O.row mv nv).toArray 66 := by
    unfold Ord.row
    simp only [setL, Nat.zero_add, Nat.reduceAdd]
    exact g9
  have keep : ∀ b, w.heap.size + 1 ≤ b → (setL wr w.heap.size 0 (O.row mv nv)).heap[b]? = wr.heap[b]? := fun b hb => setL_other wr w.heap.size 0 _ b (by omega)
  exact ⟨hd.res, ⟨owns_carry h.mets fun b hb => keep b (owns_blk h.mets hb).1, owns_carry h.notes fun b hb => keep b (owns_blk h.notes hb).1⟩, hd.cur, hd.grown⟩

end
end Go.Proofs.YtelpkcbbipianaaGreat

/- the model's drawing of an order: what is drawn is small, and lies in memory of its own; nothing turns but the cursor. -/
namespace Go.Proofs.YtelpkcbbipianaaGreat
open Go Go.RowKit

def webs : List ByteArray := [⟨#[119, 101, 98]⟩, ⟨#[97, 112, 105]⟩, ⟨#[106, 111, 98, 45, 49]⟩]
def pools : List ByteArray := [⟨#[119, 101, 98]⟩, ⟨#[112, 111, 111, 108]⟩]
theorem name_at {j : Nat} (hj : j < 4) : ∃ x : ByteArray, x.size ≤ 5 ∧ (#[.string ⟨#[99, 112, 117]⟩, .string ⟨#[104, 105, 116, 115]⟩, .string ⟨#[109, 101, 109]⟩, .string ⟨#[113, 117, 101, 117, 101]⟩] : Array Value)[j]? = some (.string x) := by
  obtain rfl | rfl | rfl | rfl : j = 0 ∨ j = 1 ∨ j = 2 ∨ j = 3 := by omega
  · exact ⟨_, by decide, rfl⟩
  · exact ⟨_, by decide, rfl⟩
  · exact ⟨_, by decide, rfl⟩
  · exact ⟨_, by decide, rfl⟩

theorem key_at {j : Nat} (hj : j < 3) : ∃ x : ByteArray, x.size ≤ 5 ∧ (#[.string ⟨#[97]⟩, .string ⟨#[111, 119, 110, 101, 114]⟩, .string ⟨#[120, 47, 121]⟩] : Array Value)[j]? = some (.string x) := by
  obtain rfl | rfl | rfl : j = 0 ∨ j = 1 ∨ j = 2 := by omega
  · exact ⟨_, by decide, rfl⟩
  · exact ⟨_, by decide, rfl⟩
  · exact ⟨_, by decide, rfl⟩

set_option maxRecDepth 100000 in
set_option maxHeartbeats 3200000 in
theorem drawOrd_any (a : Option Addr) (len cap p : Nat) (w : World) (hc : Cur w p a len cap) :
    Calls Tryz.prog 38 #[.pointer (some ⟨p, 0, none⟩)] w fun e w' => ∃ (O : Ord) (mv nv : Value), e = .returned (.agg (O.row mv nv).toArray) ∧ OwnO (w.heap.size + 1) w' O mv nv ∧ OkD O ∧ O.mets.length ≤ 4 ∧ O.notes.length ≤ 3 ∧ Cur w' p a len cap ∧ w.grownBy w' (some p) := by
  have HC := Lib.hid hc
  have HD := Lib.hid (DG.start hc zeroOrd 66)
  have hp : Hid (p < w.heap.size) := hc.lt
  clear hc
  obtain ⟨i0, hi0, hz0, hz1, hz2⟩ := info_parts info_met
  obtain ⟨i1, hi1, hy0, hy1, hy2⟩ := info_parts info_not
  have t1 : True := trivial
  have t2 : True := trivial
  go_enter Tryz.func38, Tryz.ntmps38
  go_wp2_with (first
    | (go_at_call 24; clear t1; refine (below_any 4 (by omega) (by omega) a len cap p _ HD.out.cur.cur HD.out.cur.code HD.out.cur.apart).mono ?_; rintro e w1 ⟨⟨r, hr, rfl⟩, hc1, ho1⟩; replace HD := Lib.hid (HD.out.draw hp.out (HD.out.cur.only hc1 ho1) ho1.grown); clear hc1 ho1)
    | (go_at_call 44; clear t2; refine (pick_laid (fun v => v.size ≤ 5) webs _ rfl _ _ rfl (by decide) (by decide) (by decide) a len cap p _ (by simp) HD.out.cur).mono ?_; rintro e w2 ⟨⟨s1, hs1, rfl⟩, hc1, hg1⟩; replace HD := Lib.hid (HD.out.draw hp.out hc1 hg1); clear hc1 hg1)
    | (go_at_call 44; refine (pick_laid (fun v => v.size ≤ 5) pools _ rfl _ _ rfl (by decide) (by decide) (by decide) a len cap p _ (by simp) HD.out.cur).mono ?_; rintro e w3 ⟨⟨s2, hs2, rfl⟩, hc1, hg1⟩; replace HD := Lib.hid (HD.out.draw hp.out hc1 hg1); clear hc1 hg1)
    | (go_at_call 43; refine (pickInt_laid (fun v => 0 ≤ v ∧ v ≤ 900) [0, 3, 10, 900] _ rfl _ _ rfl (by decide) (by decide) (by decide) a len cap p _ (by simp) HD.out.cur).mono ?_; rintro e w4 ⟨⟨n1, hn1, rfl⟩, hc3, hg3⟩; replace HD := Lib.hid (HD.out.draw hp.out hc3 hg3); clear hc3 hg3)
    | (go_at_call 62; refine (drawPace_any a len cap p _ HD.out.cur).mono ?_; rintro e w5 ⟨q, hq, rfl, hc3, hg3⟩; replace HD := Lib.hid (HD.out.draw hp.out hc3 hg3); clear hc3 hg3)
    | fail)
  have hNB : (w5.alloc (.cells (Ord.row ⟨s1, s2, 1 + r, 1 + r + n1, [], q, []⟩ (.slice none 0 0) (.slice none 0 0)).toArray 66)).heap.size = w5.heap.size + 1 := by simp
  have HN : Hid _ := ON.start (OD.start HD.out ⟨s1, s2, 1 + r, 1 + r + n1, [], q, []⟩ rfl rfl) #[.string ⟨#[99, 112, 117]⟩, .string ⟨#[104, 105, 116, 115]⟩, .string ⟨#[109, 101, 109]⟩, .string ⟨#[113, 117, 101, 117, 101]⟩]
  rw [hNB] at HN
  have HOk : Hid (OkD ⟨s1, s2, 1 + r, 1 + r + n1, [], q, []⟩) := ⟨hs1, hs2, ⟨by show (1 : Int) ≤ 1 + r; omega, by show 1 + (r : Int) ≤ 4; omega⟩, ⟨by show (1 : Int) ≤ 1 + r + n1; omega, by show 1 + (r : Int) + n1 ≤ 904; omega⟩, hq, fun m hm => absurd hm (by simp), fun m hm => absurd hm (by simp)⟩
  clear HD hNB hs1 hs2 hq hn1
  go_loopw [6] (fun i wr => ∃ (j : Nat) (O : Ord) (mv nv : Value), j ≤ 4 ∧ i = .int .i64 j ∧ Hid (ON w wr p a len cap w5.heap.size O mv nv (w5.heap.size + 1) #[.string ⟨#[99, 112, 117]⟩, .string ⟨#[104, 105, 116, 115]⟩, .string ⟨#[109, 101, 109]⟩, .string ⟨#[113, 117, 101, 117, 101]⟩] ∧ OkD O ∧ O.mets.length ≤ j ∧ O.notes = [])) (fun i _ => 4 - (intOf i).toNat)
  case atStart => exact ⟨0, _, _, _, by omega, rfl, HN.out, HOk.out, Nat.le_refl _, rfl⟩
  case round =>
    obtain ⟨j, O, mv, nv, hj, rfl, hr⟩ := hrel
    by_cases hlt : j < 4
    · have hlt' : (j : Int) < 4 := by omega
      go_wp2_with fail
      refine (once_any 2 (by omega) (by omega) a len cap p _ hr.out.1.od.dg.cur).mono ?_
      rintro e w6 ⟨⟨b, rfl⟩, hc6, ho6⟩
      have H6 := Lib.hid (And.intro (hr.out.1.draw hp.out hc6 ho6.grown) hr.out.2)
      clear hc6 ho6
      cases b
      · go_wp2
        exact ⟨⟨j + 1, O, mv, nv, by omega, by go_num, H6.out.1, H6.out.2.1, by have := H6.out.2.2.1; omega, H6.out.2.2.2⟩, by simp [intOf]; omega⟩
      · go_wp2_with fail
        refine (drawMetric_any a len cap p _ H6.out.1.od.dg.cur).mono ?_
        rintro e w7 ⟨m, hm, rfl, hc7, hg7⟩
        have H7 := Lib.hid (And.intro (H6.out.1.draw hp.out hc7 hg7) H6.out.2)
        clear hc7 hg7
        go_upto_region 9 with fail
        obtain ⟨x, hx, hcx⟩ := name_at hlt
        have cx : (w7.alloc (.cells #[.string m.name, .int .i64 m.kind, .int .i64 m.goal] 96)).cell? ⟨w5.heap.size + 1, j, none⟩ = some (.string x) := (cell_of ((H7.out.1.next ((Below.refl _ w7).alloc (Nat.le_refl _) (.cells #[.string m.name, .int .i64 m.kind, .int .i64 m.goal] 96))).nm) j).trans hcx
        have hb8 : Below w7.heap.size w7 (w7.alloc (.cells #[.string x, .int .i64 m.kind, .int .i64 m.goal] 96)) := (Below.refl _ w7).alloc (Nat.le_refl _) _
        have hmb : (w7.alloc (.cells #[.string x, .int .i64 m.kind, .int .i64 m.goal] 96)).heap[w7.heap.size]? = some (.cells #[.string x, .int .i64 m.kind, .int .i64 m.goal] 96 (0, 0)) := heap_last w7 _
        have H8 := Lib.hid (And.intro (H7.out.1.next hb8) (And.intro hmb H7.out.2))
        clear hcx hb8 hmb
        go_upto_region 10 with fail
        generalize (w7.alloc (.cells #[.string x, .int .i64 m.kind, .int .i64 m.goal] 96)) = w8 at *
        clear cx H7 H6 hr
        generalize w7.heap.size = MB at *
        clear w7
        obtain ⟨om, cm, rfl⟩ := owns_form H8.out.1.od.mets
        obtain ⟨y0, y1, y2, -⟩ := three H8.out.2.1
        obtain ⟨-, -, -, -, x4, -, -, -, -, -, -⟩ := ten H8.out.1.od.out
        have HL := Lib.hid (And.intro H8.out.1.od.dg.lt (And.intro H8.out.1.od.dg.grown.size H8.out.2.2.2.1))
        have hbA := (Below.refl _ w8).alloc (Nat.le_refl _) (.cells #[.string x, .int .i64 m.kind, .int .i64 m.goal] 96)
        have H9 := Lib.hid (H8.out.1.next hbA)
        clear hbA
        go_wp2_with (first
          | (at_builtin; refine wpList_append_lies _ rfl (.tmp 45) (.tmp 47) 61 rfl (w.heap.size + 1) 96 i0 _ 3 32 Tryz.underlying61 hi0 hz0 hz1 hz2 rfl (by decide) (.slice om O.mets.length cm) O.mets.length _ rfl H9.out.od.mets ⟨w8.heap.size, 0, none⟩ 1 1 [.string x, .int .i64 m.kind, .int .i64 m.goal] rfl rfl (World.news_of_block (cs := #[.string x, .int .i64 m.kind, .int .i64 m.goal]) (t := 96) (fr := (0, 0)) (heap_last w8 _)) (by simp [Value.oneCell']) (by omega) (by have := HL.out.2.2; unfold maxLen; omega) (by have := HL.out.2.2; omega) (by have := HL.out.1; simp; omega) (w8.heap.size + 1) (by simp) ?_
             intro g cap' w9 hown9 hgrow hat hltg
             obtain ⟨hB9, hn9⟩ := H9.out.met HC.out ⟨x, m.kind, m.goal⟩ hgrow hown9
             have HN9 := Lib.hid hn9
             obtain ⟨-, -, -, -, u4, -, -, -, -, -, u5⟩ := ten hB9
             clear hown9 hgrow hat hltg hB9 hn9)
          | fail)
        refine ⟨⟨j + 1, _, _, _, by omega, by go_num, HN9.out, ?_, ?_, ?_⟩, by simp [intOf]; omega⟩
        · obtain ⟨k1, k2, k3, k4, k5, k6, k7⟩ := H8.out.2.2.1
          refine ⟨k1, k2, k3, k4, k5, fun y hy => ?_, k7⟩
          rcases List.mem_append.1 hy with hy | hy
          · exact k6 y hy
          · simp at hy
            subst hy
            exact ⟨hx, hm.2⟩
        · show (O.mets ++ [_]).length ≤ j + 1
          have := H8.out.2.2.2.1
          simp
          omega
        · exact H8.out.2.2.2.2
    · have e : ((j : Nat) : Int) = 4 := by omega
      have hj4 : j ≤ 4 := hj
      rw [e]
      clear e
      have HD2 := Lib.hid (And.intro hr.out.1.od hr.out.2)
      clear hr HN HOk
      go_wp2
      go_loopw [9] (fun i wq => ∃ (k : Nat) (O : Ord) (mv nv : Value), k ≤ 3 ∧ i = .int .i64 k ∧ Hid (ON w wq p a len cap w5.heap.size O mv nv wr.heap.size #[.string ⟨#[97]⟩, .string ⟨#[111, 119, 110, 101, 114]⟩, .string ⟨#[120, 47, 121]⟩] ∧ OkD O ∧ O.mets.length ≤ 4 ∧ O.notes.length ≤ k)) (fun i _ => 3 - (intOf i).toNat)
      case atStart => exact ⟨0, O, mv, nv, by omega, rfl, ON.start HD2.out.1 _, HD2.out.2.1, Nat.le_trans HD2.out.2.2.1 hj4, by rw [HD2.out.2.2.2]; exact Nat.le_refl _⟩
      case round =>
        clear HD2
        obtain ⟨k, O, mv, nv, hk, rfl, hr⟩ := hrel
        by_cases hlt : k < 3
        · have hlt' : (k : Int) < 3 := by omega
          go_wp2_with fail
          refine (once_any 3 (by omega) (by omega) a len cap p _ hr.out.1.od.dg.cur).mono ?_
          rintro e w6 ⟨⟨b, rfl⟩, hc6, ho6⟩
          have H6 := Lib.hid (And.intro (hr.out.1.draw hp.out hc6 ho6.grown) hr.out.2)
          clear hc6 ho6
          cases b
          · go_wp2
            go_roundw
            case rel => exact ⟨k + 1, O, mv, nv, by omega, by go_num, H6.out.1, H6.out.2.1, H6.out.2.2.1, by have := H6.out.2.2.2; omega⟩
            case measure => simp [intOf]; omega
          · obtain ⟨x, hx, hcx⟩ := key_at hlt
            have cx := (cell_of H6.out.1.nm k).trans hcx
            obtain ⟨on_, cn, rfl⟩ := owns_form H6.out.1.od.notes
            obtain ⟨-, -, -, -, -, -, -, -, -, x9, -⟩ := ten H6.out.1.od.out
            have HS := Lib.hid (H6.out.1.next (below_drewN (Below.refl _ w6) 1))
            have HTx : Hid (∀ W, Cur W p a len cap → Calls Tryz.prog 57 #[.pointer (some ⟨p, 0, none⟩)] W fun e w' => ∃ v, e = .returned v ∧ ∃ tx : ByteArray, v = .string tx ∧ tx.size ≤ 12 ∧ Cur w' p a len cap ∧ W.grownBy w' (some p)) := fun W hW => by
              refine (drawText_any a len cap p W hW).mono ?_
              rintro e w' ⟨⟨tx, htx, rfl⟩, h1, h2⟩
              exact ⟨_, rfl, tx, rfl, htx, h1, h2⟩
            go_wp2
            go_region_law (first
              | (refine step_calls (by rfl) 57 _ _ (by rfl) #[.pointer (some ⟨p, 0, none⟩)] (by first | (simp [Act.eval]; done) | simp [Act.eval, Act.put]) (by intros; simp [go_sem]) (fun _ _ => rfl) (HTx.out _ HS.out.od.dg.cur) ?_
                 rintro u w7 ⟨tx, rfl, htx, hc7, hg7⟩
                 have H7 := Lib.hid (HS.out.draw hp.out hc7 hg7)
                 have hbA := (Below.refl _ w7).alloc (Nat.le_refl _) (.cells #[.string x, .string tx] 99)
                 have H9 := Lib.hid (H7.out.next hbA)
                 have HL := Lib.hid (And.intro H7.out.od.dg.lt H6.out.2.2.2)
                 have cx' := (cell_of H7.out.nm k).trans hcx
                 obtain ⟨-, -, -, -, -, -, -, -, -, y9, -⟩ := ten H7.out.od.out
                 have y9' : ∀ ob, (w7.alloc ob).cell? ⟨w5.heap.size, 9, none⟩ = _ := fun ob => (World.cell?_alloc_lt w7 ob ⟨w5.heap.size, 9, none⟩ H7.out.od.lt).trans y9
                 clear hc7 hg7 hbA)
              | (refine step_append_lies _ (by rfl) _ _ _ (by rfl) (w.heap.size + 1) 99 i1 _ 2 32 Tryz.underlying64 hi1 hy0 hy1 hy2 rfl (by decide) (.slice on_ O.notes.length cn) O.notes.length _ (by rfl) H9.out.od.notes ⟨w7.heap.size, 0, none⟩ 1 1 [.string x, .string tx] (by rfl) (by rfl) (World.news_of_block (cs := #[.string x, .string tx]) (t := 99) (fr := (0, 0)) (heap_last w7 _)) (by simp [Value.oneCell']) (by omega) (by have := HL.out.2; unfold maxLen; omega) (by have := HL.out.2; omega) (by have := HL.out.1; simp; omega) (w7.heap.size + 1) (by simp) ?_
                 intro g cap' w9 hown9 hgrow hat hltg
                 obtain ⟨hB9, hn9⟩ := H9.out.note HC.out ⟨x, tx⟩ hgrow hown9
                 have HN9 := Lib.hid hn9
                 have HOK : Hid (OkD { O with notes := O.notes ++ [⟨x, tx⟩] } ∧ (O.notes ++ [(⟨x, tx⟩ : Not)]).length ≤ k + 1) := by
                   obtain ⟨k1, k2, k3, k4, k5, k6, k7⟩ := H6.out.2.1
                   refine ⟨⟨k1, k2, k3, k4, k5, k6, fun y hy => ?_⟩, ?_⟩
                   · rcases List.mem_append.1 hy with hy | hy
                     · exact k7 y hy
                     · simp at hy
                       subst hy
                       exact ⟨hx, htx⟩
                   · have := H6.out.2.2.2
                     simp
                     omega
                 obtain ⟨-, -, -, -, -, -, -, -, -, u9, uf⟩ := ten hB9
                 clear hown9 hgrow hat hltg hB9 hn9)
              | fail)
            all_goals
              go_wp2
              go_roundw
              case rel => exact ⟨k + 1, _, _, _, by omega, by go_num, HN9.out, HOK.out.1, H6.out.2.2.1, HOK.out.2⟩
              case measure => simp [intOf]; omega
        · have e : ((k : Nat) : Int) = 3 := by omega
          rw [e]
          clear e
          obtain ⟨om, cm, rfl⟩ := owns_form hr.out.1.od.mets
          obtain ⟨on_, cn, rfl⟩ := owns_form hr.out.1.od.notes
          have HE := Lib.hid (hr.out.1.od.fin HC.out)
          obtain ⟨x0, x1, x2, x3, x4, x5, x6, x7, x8, x9, -⟩ := ten hr.out.1.od.out
          obtain ⟨z0, z1, z2, z3, z4, z5, z6, z7, z8, z9, zf⟩ := ten hr.out.1.od.dg.res
          have ne1 : ¬ (w.heap.size = w5.heap.size) := by have := hr.out.1.od.big; omega
          have ne2 : ¬ (w5.heap.size = w.heap.size) := by omega
          go_wp2
          obtain ⟨h1, h2, h3, h4⟩ := HE.out
          exact bodyPost_ret (ret_order Tryz.results38 rfl h1) rfl ⟨O, _, _, rfl, h2, hr.out.2.1, hr.out.2.2.1, Nat.le_trans hr.out.2.2.2 hk, h3, h4⟩
end Go.Proofs.YtelpkcbbipianaaGreat
