/-
  What is proved: plain facts on where a law stands that holds what a function answered against what is wanted, marks it, and looks whether the marks are held.
-/
import Derived.Test.YtbcgkpkkhinkcaaLeaf
import Derived.Test.YtbcgkpkkhinkcaaTreeTo
import Derived.Test.YtbcgkpkkhinkcaaBx
namespace Go.Proofs.Ytbcgkpkkhinkcaa
open Go Go.RowKit

mutual
theorem cnt_sz : (T : RT) → T.cnt ≤ 3 * T.sz
  | .node _ _ _ keys kids => by
    have := cntAll_sz kids
    rw [RT.cnt, RT.sz]
    omega
theorem cntAll_sz : (l : List RT) → cntAll l ≤ 3 * (l.length + szAll l)
  | [] => by simp [cntAll]
  | t :: l => by
    have h1 := cnt_sz t
    have h2 := cntAll_sz l
    simp only [cntAll, szAll, List.length_cons]
    omega
end

theorem below_but {w wr w1 : World} {G : List Nat} (h : Below w.heap.size w wr) (hb : But G wr w1) (hG : ∀ x ∈ G, w.heap.size ≤ x) : Below w.heap.size w w1 :=
  ⟨hb.os.trans h.os, hb.tape.trans h.tape, hb.output.trans h.output, Nat.le_trans h.size hb.size, fun k hk => (hb.block k (Nat.lt_of_lt_of_le hk h.size) (fun hx => by have := hG k hx; omega)).trans (h.block k hk)⟩

theorem bx_but {w0 wr w1 : World} {B : Nat} {cs : Array Value} {t : TypeId} {G : List Nat} (h : Bx w0 wr B cs t) (hb : But G wr w1) (hB : B ∉ G) (hG : ∀ x ∈ G, w0.heap.size ≤ x) : Bx w0 w1 B cs t :=
  ⟨below_but h.below hb hG, (hb.block B (Array.getElem?_eq_some_iff.1 h.blk).1 hB).trans h.blk⟩

/-- What is wanted lies behind block Bw, what was answered behind block Bg, each in its own memory. -/
structure GState (w wr : World) (T TG : RT) (kW vW kG vG : Value) (Bw Bg : Nat) (FW FG : List Nat) : Prop where
  below : Below w.heap.size w wr
  boxW : wr.heap[Bw]? = some (.cells #[.int .i64 T.k, .int .i64 T.n, .string T.s, kW, vW] 29 (0, 0))
  boxG : wr.heap[Bg]? = some (.cells #[.int .i64 T.k, .int .i64 T.n, .string T.s, kG, vG] 29 (0, 0))
  lieW : Lies wr T kW vW FW
  lieG : Lies wr TG kG vG FG
  nodup : FG.Nodup
  free : ∀ b ∈ FG, ∀ o, wr.frozen? ⟨b, o, none⟩ = false
  apart : Bw ∉ FG ∧ Bg ∉ FG ∧ ∀ x ∈ FW, x ∉ FG
  old : ∀ x ∈ FG, w.heap.size ≤ x

section
variable {w wr w1 : World} {T TG : RT} {kW vW kG vG : Value} {Bw Bg : Nat} {FW FG G : List Nat}

theorem GState.ltW (h : GState w wr T TG kW vW kG vG Bw Bg FW FG) : Bw < wr.heap.size := (Array.getElem?_eq_some_iff.1 h.boxW).1
theorem GState.ltG (h : GState w wr T TG kW vW kG vG Bw Bg FW FG) : Bg < wr.heap.size := (Array.getElem?_eq_some_iff.1 h.boxG).1

theorem GState.next (h : GState w wr T TG kW vW kG vG Bw Bg FW FG) (hb : Below wr.heap.size wr w1) : GState w w1 T TG kW vW kG vG Bw Bg FW FG :=
  ⟨h.below.trans (hb.mono h.below.size), (hb.block _ h.ltW).trans h.boxW, (hb.block _ h.ltG).trans h.boxG, h.lieW.stay hb (Nat.le_refl _), h.lieG.stay hb (Nat.le_refl _), h.nodup,
    fun b hbF o => (hb.frozen (by exact h.lieG.lt b hbF)).trans (h.free b hbF o), h.apart, h.old⟩

/-- Something else has been written: neither of the two. -/
theorem GState.but (h : GState w wr T TG kW vW kG vG Bw Bg FW FG) (hb : But G wr w1) (hW : Bw ∉ G) (hG : Bg ∉ G) (hFW : ∀ x ∈ FW, x ∉ G) (hFG : ∀ x ∈ FG, x ∉ G) (hold : ∀ x ∈ G, w.heap.size ≤ x) : GState w w1 T TG kW vW kG vG Bw Bg FW FG :=
  ⟨below_but h.below hb hold, (hb.block _ h.ltW hW).trans h.boxW, (hb.block _ h.ltG hG).trans h.boxG, h.lieW.but hb hFW, h.lieG.but hb hFG, h.nodup, fun b hbF o => (hb.free b (h.lieG.lt b hbF) o).trans (h.free b hbF o), h.apart, h.old⟩

/-- What was answered has been marked. -/
theorem GState.mark (h : GState w wr T TG kW vW kG vG Bw Bg FW FG) (hb : But FG wr w1) {TM : RT} (hl : Lies w1 TM kG vG FG) : GState w w1 T TM kW vW kG vG Bw Bg FW FG :=
  ⟨below_but h.below hb h.old, (hb.block _ h.ltW h.apart.1).trans h.boxW, (hb.block _ h.ltG h.apart.2.1).trans h.boxG, h.lieW.but hb h.apart.2.2, hl, h.nodup, fun b hbF o => (hb.free b (h.lieG.lt b hbF) o).trans (h.free b hbF o), h.apart, h.old⟩
end
end Go.Proofs.Ytbcgkpkkhinkcaa
