/-
  What is proved: plain facts on all that a law holds on its way: nodes in blocks of its own, trees that lie in memory, trees in memory of their own; and that they stay as worlds go on.
-/
import Derived.Test.YtbcgkpkkhinkcaaOwn
namespace Go.Proofs.Ytbcgkpkkhinkcaa
open Go Go.RowKit

/-- One thing that a law holds: a block; a tree; a tree in memory of its own. -/
inductive Fc where
  | box (b : Nat) (cs : Array Value) (t : TypeId)
  | tree (T : RT) (kv dv : Value) (F : List Nat)
  | mine (T : RT) (kv dv : Value) (F : List Nat)

def Fc.blocks : Fc → List Nat
  | .box b _ _ => [b]
  | .tree _ _ _ F => F
  | .mine _ _ _ F => F

def Fc.ok (w : World) : Fc → Prop
  | .box b cs t => w.heap[b]? = some (.cells cs t (0, 0))
  | .tree T kv dv F => Lies w T kv dv F
  | .mine T kv dv F => Lies w T kv dv F ∧ F.Nodup ∧ ∀ b ∈ F, ∀ o, w.frozen? ⟨b, o, none⟩ = false

def HeldL (w : World) : List Fc → Prop
  | [] => True
  | f :: l => f.ok w ∧ HeldL w l

def Held (w wr : World) (L : List Fc) : Prop := Below w.heap.size w wr ∧ HeldL wr L

theorem Fc.lt {w : World} : {f : Fc} → f.ok w → ∀ y ∈ f.blocks, y < w.heap.size
  | .box b _ _, h, y, hy => by
    simp only [Fc.blocks, List.mem_singleton] at hy
    subst hy
    exact (Array.getElem?_eq_some_iff.1 h).1
  | .tree _ _ _ _, h, y, hy => Lies.lt h y hy
  | .mine _ _ _ _, h, y, hy => Lies.lt h.1 y hy

theorem Fc.carry {w w' : World} : {f : Fc} → f.ok w → (∀ y ∈ f.blocks, w'.heap[y]? = w.heap[y]?) → f.ok w'
  | .box b _ _, h, hk => (hk b (by simp [Fc.blocks])).trans h
  | .tree _ _ _ _, h, hk => Lies.carry h hk
  | .mine _ _ _ _, h, hk => ⟨Lies.carry h.1 hk, h.2.1, fun b hb o => (World.frozen?_of_block (w := w) (hk b hb)).trans (h.2.2 b hb o)⟩

theorem HeldL.carry {w w' : World} : {L : List Fc} → HeldL w L → (∀ y, (∃ f ∈ L, y ∈ f.blocks) → y < w.heap.size → w'.heap[y]? = w.heap[y]?) → HeldL w' L
  | [], _, _ => trivial
  | f :: _, h, hk => ⟨Fc.carry (f := f) h.1 fun y hy => hk y ⟨f, by simp, hy⟩ (Fc.lt (f := f) h.1 y hy), HeldL.carry h.2 fun y ⟨f', h1, h2⟩ hlt => hk y ⟨f', by simp [h1], h2⟩ hlt⟩

section
variable {w wr w1 : World} {L : List Fc}

theorem Held.next (h : Held w wr L) (hb : Below wr.heap.size wr w1) : Held w w1 L :=
  ⟨h.1.trans (hb.mono h.1.size), h.2.carry fun y _ hlt => hb.block y hlt⟩

theorem Held.add (h : Held w wr L) {f : Fc} (hf : f.ok wr) : Held w wr (f :: L) := ⟨h.1, hf, h.2⟩

theorem Held.box (h : Held w wr L) (cs : Array Value) (t : TypeId) : Held w (wr.alloc (.cells cs t)) (.box wr.heap.size cs t :: L) :=
  (h.next ((Below.refl _ wr).alloc (Nat.le_refl _) _)).add (heap_last wr _)

/-- Blocks of its own have been written; what is held lies elsewhere. -/
theorem Held.but {G : List Nat} (h : Held w wr L) (hb : But G wr w1) (hG : ∀ x ∈ G, w.heap.size ≤ x) (hap : ∀ f ∈ L, ∀ y ∈ f.blocks, y ∉ G) : Held w w1 L :=
  ⟨below_but h.1 hb hG, h.2.carry fun y ⟨f, h1, h2⟩ hlt => hb.block y hlt (hap f h1 y h2)⟩

theorem Held.start (w : World) : Held w w [] := ⟨Below.refl _ w, trivial⟩

theorem Held.fresh (h : Held w wr L) (hb : Below wr.heap.size wr w1) {T : RT} {kv dv : Value} {F : List Nat} (hl : Lies w1 T kv dv F) (hf : Fresh wr w1 F) : Held w w1 (.mine T kv dv F :: L) :=
  (h.next hb).add ⟨hl, hf.nodup, hf.free⟩
end

theorem HeldL.tail {w : World} {f : Fc} {L : List Fc} (h : HeldL w (f :: L)) : HeldL w L := h.2

theorem HeldL.lt {w : World} : {L : List Fc} → HeldL w L → ∀ f ∈ L, ∀ y ∈ f.blocks, y < w.heap.size
  | [], _, f, hf, _, _ => absurd hf (by simp)
  | g :: _, h, f, hf, y, hy => by
    rcases List.mem_cons.1 hf with e | e
    · subst e; exact Fc.lt (f := f) h.1 y hy
    · exact HeldL.lt h.2 f e y hy

/-- Where a law stands in 'v := F(to(a), .., to(b))': its two arguments' blocks; what it holds; the block of v, if it is made already. -/
structure RS (w W : World) (a b c d e a' b' c' d' e' : Value) (z : Option Nat) (L : List Fc) : Prop where
  box : Box2 w W a b c d e a' b' c' d' e'
  held : Held w W L
  zero : ∀ n, z = some n → W.heap[n]? = some (.cells #[.int .i64 0, .int .i64 0, .string ⟨#[]⟩, .slice none 0 0, .slice none 0 0] 29 (0, 0))
  far : ∀ n, z = some n → w.heap.size + 1 < n ∧ ∀ f ∈ L, n ∉ f.blocks

section
variable {w W W1 : World} {a b c d e a' b' c' d' e' : Value} {z : Option Nat} {L : List Fc}

theorem RS.start (hX : Box2 w W a b c d e a' b' c' d' e') (hL : Held w W L) : RS w (W.drewN 1) a b c d e a' b' c' d' e' none L :=
  ⟨hX.next (below_drewN (Below.refl _ _) 1), hL.next (below_drewN (Below.refl _ _) 1), fun n hn => (by cases hn), fun n hn => (by cases hn)⟩

theorem RS.next (h : RS w W a b c d e a' b' c' d' e' z L) (hb : Below W.heap.size W W1) : RS w W1 a b c d e a' b' c' d' e' z L :=
  ⟨h.box.next hb, h.held.next hb, fun n hn => (hb.block n (Array.getElem?_eq_some_iff.1 (h.zero n hn)).1).trans (h.zero n hn), h.far⟩

theorem RS.alloc (h : RS w W a b c d e a' b' c' d' e' none L) (n : Nat) (hn : W.heap.size = n) : RS w (W.alloc (.cells #[.int .i64 0, .int .i64 0, .string ⟨#[]⟩, .slice none 0 0, .slice none 0 0] 29)) a b c d e a' b' c' d' e' (some n) L :=
  have hb := (Below.refl _ W).alloc (Nat.le_refl _) (.cells #[.int .i64 0, .int .i64 0, .string ⟨#[]⟩, .slice none 0 0, .slice none 0 0] 29)
  ⟨h.box.next hb, h.held.next hb, fun m hm => by injection hm with hm; subst hm; rw [← hn]; exact heap_last W _, fun m hm => by
    injection hm with hm
    subst hm
    refine ⟨by have := h.box.lt; omega, fun f hf hx => ?_⟩
    have := h.held.2.lt f hf _ hx
    omega⟩

theorem RS.fresh (h : RS w W a b c d e a' b' c' d' e' z L) (hb : Below W.heap.size W W1) {T : RT} {kv dv : Value} {F : List Nat} (hl : Lies W1 T kv dv F) (hf : Fresh W W1 F) : RS w W1 a b c d e a' b' c' d' e' z (.mine T kv dv F :: L) :=
  ⟨(h.next hb).box, h.held.fresh hb hl hf, (h.next hb).zero, fun n hn => ⟨(h.far n hn).1, fun f hf' hx => by
    rcases List.mem_cons.1 hf' with e | e
    · subst e
      have := hf.old n hx
      have := (Array.getElem?_eq_some_iff.1 (h.zero n hn)).1
      omega
    · exact (h.far n hn).2 f e hx⟩⟩

/-- v's block is made last. -/
theorem RS.last {R : RT} {kv dv : Value} {F : List Nat} (h : RS w W a b c d e a' b' c' d' e' z (.mine R kv dv F :: L)) (cs : Array Value) (t : TypeId) :
    Box2 w (W.alloc (.cells cs t)) a b c d e a' b' c' d' e' ∧ Held w (W.alloc (.cells cs t)) (.box W.heap.size cs t :: .mine R kv dv F :: L) :=
  ⟨h.box.next ((Below.refl _ W).alloc (Nat.le_refl _) _), h.held.box cs t⟩

/-- v's block is there already. -/
theorem RS.store {n : Nat} (h : RS w W a b c d e a' b' c' d' e' (some n) L) (v0 v1 v2 v3 v4 : Value) :
    Box2 w (set5 W n 0 v0 v1 v2 v3 v4) a b c d e a' b' c' d' e' ∧ Held w (set5 W n 0 v0 v1 v2 v3 v4) (.box n #[v0, v1, v2, v3, v4] 29 :: L) := by
  have hn := (h.far n rfl).1
  have hx := h.box
  have e0 : ∀ o, (set5 W n 0 v0 v1 v2 v3 v4).cell? ⟨w.heap.size, o, none⟩ = W.cell? ⟨w.heap.size, o, none⟩ := fun o => World.cell?_of_block (set5_other _ _ _ _ _ _ _ _ _ (by show w.heap.size ≠ n; omega))
  have e1 : ∀ o, (set5 W n 0 v0 v1 v2 v3 v4).cell? ⟨w.heap.size + 1, o, none⟩ = W.cell? ⟨w.heap.size + 1, o, none⟩ := fun o => World.cell?_of_block (set5_other _ _ _ _ _ _ _ _ _ (by show w.heap.size + 1 ≠ n; omega))
  have hb : Below w.heap.size w (set5 W n 0 v0 v1 v2 v3 v4) := set5_below hx.below (by omega) _ _ _ _ _ _
  refine ⟨⟨hb, by have := hx.lt; simpa [set5, World.setCell] using this, (e0 0).trans hx.c0, (e0 1).trans hx.c1, (e0 2).trans hx.c2, (e0 3).trans hx.c3, (e0 4).trans hx.c4, (e1 0).trans hx.g0, (e1 1).trans hx.g1, (e1 2).trans hx.g2, (e1 3).trans hx.g3, (e1 4).trans hx.g4⟩, hb, set5_end (h.zero n rfl) _ _ _ _ _, ?_⟩
  exact h.held.2.carry fun y ⟨f, hf, hy⟩ _ => set5_other _ _ _ _ _ _ _ _ _ (fun e => (h.far n rfl).2 f hf (e ▸ hy))
end

/-- Blocks behind the two arguments' have been written. -/
theorem Box2.but {w wr w1 : World} {a b c d e a' b' c' d' e' : Value} {G : List Nat} (h : Box2 w wr a b c d e a' b' c' d' e') (hb : But G wr w1) (hG : ∀ y ∈ G, w.heap.size + 1 < y) : Box2 w w1 a b c d e a' b' c' d' e' := by
  have e0 : ∀ o, w1.cell? ⟨w.heap.size, o, none⟩ = wr.cell? ⟨w.heap.size, o, none⟩ := fun o => World.cell?_of_block (hb.block _ (by have := h.lt; show w.heap.size < _; omega) (fun hx => by have := hG _ hx; simp at this; omega))
  have e1 : ∀ o, w1.cell? ⟨w.heap.size + 1, o, none⟩ = wr.cell? ⟨w.heap.size + 1, o, none⟩ := fun o => World.cell?_of_block (hb.block _ (by have := h.lt; show w.heap.size + 1 < _; omega) (fun hx => by have := hG _ hx; simp at this))
  exact ⟨below_but h.below hb (fun x hx => by have := hG x hx; omega), Nat.lt_of_lt_of_le h.lt hb.size, (e0 0).trans h.c0, (e0 1).trans h.c1, (e0 2).trans h.c2, (e0 3).trans h.c3, (e0 4).trans h.c4, (e1 0).trans h.g0, (e1 1).trans h.g1, (e1 2).trans h.g2, (e1 3).trans h.g3, (e1 4).trans h.g4⟩

/-- A tree of its own has been marked. -/
theorem mine_marked {w w1 : World} {T TM : RT} {kv dv : Value} {F : List Nat} (h : Fc.ok w (.mine T kv dv F)) (hb : But F w w1) (hl : Lies w1 TM kv dv F) : Fc.ok w1 (.mine TM kv dv F) :=
  ⟨hl, h.2.1, fun b hbF o => (hb.free b (h.1.lt b hbF) o).trans (h.2.2 b hbF o)⟩
end Go.Proofs.Ytbcgkpkkhinkcaa
