/-
  What is proved: the model's drawing of a tree and two that were made of it: each lies in memory as a tree, and all that was there before is as it was; no condition.; the drawing of a base and two changes of it for the law: three trees lie in memory; all that was there before is as it was; no condition.
-/
import Derived.Test.YtelpkcbbipianaaGreatDrawDn
/- the model's drawing of a tree and two that were made of it: each lies in memory as a tree, and all that was there before is as it was; no condition. -/
namespace Go.Proofs.YtelpkcbbipianaaGreat
open Go Go.RowKit

/-- A tree that lies in w behind these two lists, none of it in block p, in one of those of bs or in one below low. -/
def Lain (low : Nat) (w : World) (p : Nat) (bs : List Nat) (T : RT) (kv dv : Value) : Prop := ∃ F, Lies w T kv dv F ∧ ∀ y ∈ F, y ≠ p ∧ y ∉ bs ∧ low ≤ y

/-- Where the drawing stands: the cursor, and boxes of nodes. -/
structure DM (w wr : World) (p : Nat) (a : Option Addr) (len cap : Nat) (bs : List (Nat × Array Value)) : Prop where
  cur : Cur wr p a len cap
  below : Below w.heap.size w wr
  pbig : w.heap.size ≤ p
  box : ∀ x ∈ bs, wr.heap[x.1]? = some (.cells x.2 27 (0, 0)) ∧ x.1 ≠ p ∧ w.heap.size ≤ x.1

section
variable {w wr w1 : World} {p : Nat} {a : Option Addr} {len cap : Nat} {bs : List (Nat × Array Value)}

theorem DM.lt (h : DM w wr p a len cap bs) {x : Nat × Array Value} (hx : x ∈ bs) : x.1 < wr.heap.size := (Array.getElem?_eq_some_iff.1 (h.box x hx).1).1

theorem DM.draw (h : DM w wr p a len cap bs) (hc : Cur w1 p a len cap) (hg : wr.grownBy w1 (some p)) : DM w w1 p a len cap bs :=
  ⟨hc, h.below.grown hg h.below.size (fun k e => by injection e with e; have := h.pbig; omega), h.pbig, fun x hx => ⟨(hg.block _ (h.lt hx) (fun e => by injection e with e; exact (h.box x hx).2.1 e)).trans (h.box x hx).1, (h.box x hx).2⟩⟩

theorem DM.next (h : DM w wr p a len cap bs) (hb : Below wr.heap.size wr w1) : DM w w1 p a len cap bs :=
  ⟨h.cur.on hb, h.below.trans (hb.mono h.below.size), h.pbig, fun x hx => ⟨(hb.block _ (h.lt hx)).trans (h.box x hx).1, (h.box x hx).2⟩⟩

theorem DM.add (h : DM w wr p a len cap bs) (cs : Array Value) : DM w (wr.alloc (.cells cs 27)) p a len cap ((wr.heap.size, cs) :: bs) := by
  have h1 := h.next ((Below.refl _ wr).alloc (Nat.le_refl _) (.cells cs 27))
  refine ⟨h1.cur, h1.below, h1.pbig, fun x hx => ?_⟩
  rcases List.mem_cons.1 hx with rfl | hx
  · exact ⟨heap_last wr _, by have := h.cur.lt; show wr.heap.size ≠ p; omega, h.below.size⟩
  · exact h1.box x hx

theorem Lain.draw {low : Nat} {T : RT} {kv dv : Value} {bs : List Nat} (h : Lain low wr p bs T kv dv) (hg : wr.grownBy w1 (some p)) : Lain low w1 p bs T kv dv := by
  obtain ⟨F, hl, hF⟩ := h
  exact ⟨F, hl.carry fun y hy => hg.block y (hl.lt y hy) (fun e => by injection e with e; exact (hF y hy).1 e), hF⟩

theorem Lain.add {low : Nat} {T : RT} {kv dv : Value} {bs : List Nat} (h : Lain low wr p bs T kv dv) (cs : Array Value) : Lain low (wr.alloc (.cells cs 27)) p (wr.heap.size :: bs) T kv dv := by
  obtain ⟨F, hl, hF⟩ := h
  refine ⟨F, hl.stay ((Below.refl _ wr).alloc (Nat.le_refl _) _) (Nat.le_refl _), fun y hy => ⟨(hF y hy).1, fun hm => ?_, (hF y hy).2.2⟩⟩
  rcases List.mem_cons.1 hm with e | hm
  · have := hl.lt y hy; omega
  · exact (hF y hy).2.1 hm

theorem Lain.over {low : Nat} {T : RT} {kv dv : Value} {bs : List Nat} (h : Lain low wr p bs T kv dv) {B : Nat} (hB : B ∈ bs) (o : Nat) (v0 v1 v2 v3 v4 : Value) : Lain low (set5 wr B o v0 v1 v2 v3 v4) p bs T kv dv := by
  obtain ⟨F, hl, hF⟩ := h
  exact ⟨F, hl.carry fun y hy => set5_other _ _ _ _ _ _ _ _ _ (fun e => (hF y hy).2.1 (e ▸ hB)), hF⟩

/-- A box is stored over; it stands ahead of the others, which are other blocks. -/
theorem DM.over (h : DM w wr p a len cap bs) (hA : ∀ B, w.heap.size ≤ B → Apart a len B) {B : Nat} {cs : Array Value} {pre post : List (Nat × Array Value)} (e : bs = pre ++ (B, cs) :: post) (hn : ∀ x ∈ pre ++ post, x.1 ≠ B) (h5 : cs.size = 5) (v0 v1 v2 v3 v4 : Value) :
    DM w (set5 wr B 0 v0 v1 v2 v3 v4) p a len cap (pre ++ (B, #[v0, v1, v2, v3, v4]) :: post) := by
  have hm : (B, cs) ∈ bs := by rw [e]; simp
  obtain ⟨hb, hbp, hbw⟩ := h.box _ hm
  have hcs : ∃ a0 a1 a2 a3 a4, cs = #[a0, a1, a2, a3, a4] := by
    obtain ⟨l⟩ := cs
    match l, h5 with
    | [a0, a1, a2, a3, a4], _ => exact ⟨a0, a1, a2, a3, a4, rfl⟩
  obtain ⟨a0, a1, a2, a3, a4, rfl⟩ := hcs
  refine ⟨h.cur.over hbp (hA B hbw) 0 _ _ _ _ _, set5_below h.below hbw 0 _ _ _ _ _, h.pbig, fun x hx => ?_⟩
  rcases List.mem_append.1 hx with hx' | hx'
  · obtain ⟨g1, g2, g3⟩ := h.box x (by rw [e]; exact List.mem_append_left _ hx')
    exact ⟨(set5_other _ _ _ _ _ _ _ _ _ (hn x (List.mem_append_left _ hx'))).trans g1, g2, g3⟩
  · rcases List.mem_cons.1 hx' with rfl | hx'
    · exact ⟨set5_end hb _ _ _ _ _, hbp, hbw⟩
    · obtain ⟨g1, g2, g3⟩ := h.box x (by rw [e]; exact List.mem_append_right _ (List.mem_cons_of_mem _ hx'))
      exact ⟨(set5_other _ _ _ _ _ _ _ _ _ (hn x (List.mem_append_right _ hx'))).trans g1, g2, g3⟩
end

theorem DM.start (w : World) (a : Option Addr) (len cap : Nat) (h : Int) (hcode : CodeAt w a len) :
    DM w ((((w.alloc (.cells #[.int .i64 0, .int .i64 0, .string ⟨#[]⟩, .slice none 0 0, .slice none 0 0] 27)).alloc (.cells #[.int .i64 0, .int .i64 0, .string ⟨#[]⟩, .slice none 0 0, .slice none 0 0] 27)).alloc (.cells #[.int .i64 0, .int .i64 0, .string ⟨#[]⟩, .slice none 0 0, .slice none 0 0] 27)).alloc (.cells #[.slice a len cap, .int .i64 0, .int .i64 h] 57)) (w.heap.size + 3) a len cap [(w.heap.size, #[.int .i64 0, .int .i64 0, .string ⟨#[]⟩, .slice none 0 0, .slice none 0 0]), (w.heap.size + 1, #[.int .i64 0, .int .i64 0, .string ⟨#[]⟩, .slice none 0 0, .slice none 0 0]), (w.heap.size + 1 + 1, #[.int .i64 0, .int .i64 0, .string ⟨#[]⟩, .slice none 0 0, .slice none 0 0])] := by
  obtain ⟨g1, g2, g3, g4, g5⟩ := zero_blocks w (.cells #[.int .i64 0, .int .i64 0, .string ⟨#[]⟩, .slice none 0 0, .slice none 0 0] 27) (.cells #[.int .i64 0, .int .i64 0, .string ⟨#[]⟩, .slice none 0 0, .slice none 0 0] 27) (.cells #[.int .i64 0, .int .i64 0, .string ⟨#[]⟩, .slice none 0 0, .slice none 0 0] 27)
  have hb := (Below.refl _ (((w.alloc (.cells #[.int .i64 0, .int .i64 0, .string ⟨#[]⟩, .slice none 0 0, .slice none 0 0] 27)).alloc (.cells #[.int .i64 0, .int .i64 0, .string ⟨#[]⟩, .slice none 0 0, .slice none 0 0] 27)).alloc (.cells #[.int .i64 0, .int .i64 0, .string ⟨#[]⟩, .slice none 0 0, .slice none 0 0] 27))).alloc (Nat.le_refl _) (.cells #[.slice a len cap, .int .i64 0, .int .i64 h] 57)
  have hb2 := g4.trans (hb.mono g4.size)
  have hcur := cur_new (((w.alloc (.cells #[.int .i64 0, .int .i64 0, .string ⟨#[]⟩, .slice none 0 0, .slice none 0 0] 27)).alloc (.cells #[.int .i64 0, .int .i64 0, .string ⟨#[]⟩, .slice none 0 0, .slice none 0 0] 27)).alloc (.cells #[.int .i64 0, .int .i64 0, .string ⟨#[]⟩, .slice none 0 0, .slice none 0 0] 27)) a len cap h
  rw [g5] at hcur
  refine ⟨⟨hcur, hcode.on hb2, hcode.apart (by omega)⟩, hb2, by omega, fun x hx => ?_⟩
  simp only [List.mem_cons, List.not_mem_nil, or_false] at hx
  rcases hx with rfl | rfl | rfl
  · exact ⟨(hb.block _ (by show w.heap.size < _; omega)).trans g1, by show w.heap.size ≠ _; omega, Nat.le_refl _⟩
  · exact ⟨(hb.block _ (by show w.heap.size + 1 < _; omega)).trans g2, by show w.heap.size + 1 ≠ _; omega, by show _ ≤ w.heap.size + 1; omega⟩
  · exact ⟨(hb.block _ (by show w.heap.size + 1 + 1 < _; omega)).trans g3, by show w.heap.size + 1 + 1 ≠ _; omega, by show _ ≤ w.heap.size + 1 + 1; omega⟩

theorem DM.fresh {w wr w1 : World} {p : Nat} {a : Option Addr} {len cap : Nat} {bs : List (Nat × Array Value)} (h : DM w wr p a len cap bs) {T : RT} {kv dv : Value} {F : List Nat} (hl : Lies w1 T kv dv F) (hF : ∀ y ∈ F, wr.heap.size ≤ y) : Lain w.heap.size w1 p (bs.map Prod.fst) T kv dv :=
  ⟨F, hl, fun y hy => ⟨by have := hF y hy; have := h.cur.lt; omega, fun hm => by
    obtain ⟨x, hx, e⟩ := List.mem_map.1 hm
    have h1 := h.lt hx
    have h2 := hF y hy
    omega, by have := hF y hy; have := h.below.size; omega⟩⟩

theorem tree_lain {w wr : World} {p : Nat} {a : Option Addr} {len cap : Nat} {bs : List (Nat × Array Value)} (h : DM w wr p a len cap bs) :
    Calls Tryz.prog 22 #[.pointer (some ⟨p, 0, none⟩)] wr fun e w' => ∃ (T : RT) (o1 : Option Addr) (q1 : Nat) (o2 : Option Addr) (q2 : Nat), e = .returned (.agg #[.int .i64 T.k, .int .i64 T.n, .string T.s, .slice o1 T.keys.length q1, .slice o2 T.kids.length q2]) ∧ Lain w.heap.size w' p (bs.map Prod.fst) T (.slice o1 T.keys.length q1) (.slice o2 T.kids.length q2) ∧ Cur w' p a len cap ∧ wr.grownBy w' (some p) ∧ T.sz ≤ 1000000 := by
  refine (drawTree_any a len cap p wr h.cur).mono ?_
  rintro e w' ⟨T, kv, dv, F, rfl, hl, hf, hc, hg, hz⟩
  obtain ⟨⟨o1, q1, rfl⟩, ⟨o2, q2, rfl⟩⟩ := hl.slices
  exact ⟨T, o1, q1, o2, q2, rfl, h.fresh hl hf.old, hc, hg, hz⟩

theorem any_lain {w wr : World} {p : Nat} {a : Option Addr} {len cap : Nat} {bs : List (Nat × Array Value)} (h : DM w wr p a len cap bs) :
    Calls Tryz.prog 25 #[.pointer (some ⟨p, 0, none⟩)] wr fun e w' => ∃ (T : RT) (o1 : Option Addr) (q1 : Nat) (o2 : Option Addr) (q2 : Nat), e = .returned (.agg #[.int .i64 T.k, .int .i64 T.n, .string T.s, .slice o1 T.keys.length q1, .slice o2 T.kids.length q2]) ∧ Lain w.heap.size w' p (bs.map Prod.fst) T (.slice o1 T.keys.length q1) (.slice o2 T.kids.length q2) ∧ Cur w' p a len cap ∧ wr.grownBy w' (some p) := by
  refine (draw_all a len cap p wr h.cur).mono ?_
  rintro e w' ⟨T, kv, dv, F, rfl, hl, hf, hc, hg, hz⟩
  obtain ⟨⟨o1, q1, rfl⟩, ⟨o2, q2, rfl⟩⟩ := hl.slices
  exact ⟨T, o1, q1, o2, q2, rfl, h.fresh hl hf.old, hc, hg⟩

theorem dent_lain {w wr : World} {p : Nat} {a : Option Addr} {len cap : Nat} {bs : List (Nat × Array Value)} (h : DM w wr p a len cap bs) {T : RT} {kv dv : Value} (hL : Lain w.heap.size wr p (bs.map Prod.fst) T kv dv) (hT : T.sz ≤ 1000000) :
    Calls Tryz.prog 23 #[.pointer (some ⟨p, 0, none⟩), .agg #[.int .i64 T.k, .int .i64 T.n, .string T.s, kv, dv]] wr fun e w' => ∃ (R : RT) (o1 : Option Addr) (q1 : Nat) (o2 : Option Addr) (q2 : Nat), e = .returned (.agg #[.int .i64 R.k, .int .i64 R.n, .string R.s, .slice o1 R.keys.length q1, .slice o2 R.kids.length q2]) ∧ Lain w.heap.size w' p (bs.map Prod.fst) R (.slice o1 R.keys.length q1) (.slice o2 R.kids.length q2) ∧ Cur w' p a len cap ∧ wr.grownBy w' (some p) := by
  obtain ⟨F, hl, hF⟩ := hL
  refine (dent_any a len cap p wr h.cur T kv dv F hl (fun y hy => (hF y hy).1) hT).mono ?_
  rintro e w' ⟨R, kr, dr, GR, rfl, hr, hG, hc, hg⟩
  obtain ⟨⟨o1, q1, rfl⟩, ⟨o2, q2, rfl⟩⟩ := hr.slices
  refine ⟨R, o1, q1, o2, q2, rfl, ⟨GR, hr, fun y hy => ?_⟩, hc, hg⟩
  rcases hG y hy with h1 | h1
  · exact hF y h1
  · exact ⟨by have := h.cur.lt; omega, fun hm => by
      obtain ⟨x, hx, e⟩ := List.mem_map.1 hm
      have h2 := h.lt hx
      omega, by have := h.below.size; omega⟩

/-- Three nodes are answered. -/
theorem fin3 {w wr : World} {p : Nat} {a : Option Addr} {len cap : Nat} {bs : List (Nat × Array Value)} (h : DM w wr p a len cap bs) (g0 : (w.heap.size, #[.int .i64 0, .int .i64 0, .string ⟨#[]⟩, .slice none 0 0, .slice none 0 0]) ∈ bs) (g1 : (w.heap.size + 1, #[.int .i64 0, .int .i64 0, .string ⟨#[]⟩, .slice none 0 0, .slice none 0 0]) ∈ bs) (g2 : (w.heap.size + 1 + 1, #[.int .i64 0, .int .i64 0, .string ⟨#[]⟩, .slice none 0 0, .slice none 0 0]) ∈ bs) (t0 t1 t2 t3 t4 a0 a1 a2 a3 a4 b0 b1 b2 b3 b4 : Value) :
    (set5 (set5 (set5 wr w.heap.size 0 t0 t1 t2 t3 t4) (w.heap.size + 1) 0 a0 a1 a2 a3 a4) (w.heap.size + 1 + 1) 0 b0 b1 b2 b3 b4).heap[w.heap.size]? = some (.cells #[t0, t1, t2, t3, t4] 27 (0, 0)) ∧
    (set5 (set5 (set5 wr w.heap.size 0 t0 t1 t2 t3 t4) (w.heap.size + 1) 0 a0 a1 a2 a3 a4) (w.heap.size + 1 + 1) 0 b0 b1 b2 b3 b4).heap[w.heap.size + 1]? = some (.cells #[a0, a1, a2, a3, a4] 27 (0, 0)) ∧
    (set5 (set5 (set5 wr w.heap.size 0 t0 t1 t2 t3 t4) (w.heap.size + 1) 0 a0 a1 a2 a3 a4) (w.heap.size + 1 + 1) 0 b0 b1 b2 b3 b4).heap[w.heap.size + 1 + 1]? = some (.cells #[b0, b1, b2, b3, b4] 27 (0, 0)) ∧
    Below w.heap.size w (set5 (set5 (set5 wr w.heap.size 0 t0 t1 t2 t3 t4) (w.heap.size + 1) 0 a0 a1 a2 a3 a4) (w.heap.size + 1 + 1) 0 b0 b1 b2 b3 b4) := by
  have z0 := (h.box _ g0).1
  have z1 := (h.box _ g1).1
  have z2 := (h.box _ g2).1
  have e0 := set5_end z0 t0 t1 t2 t3 t4
  have e1 := set5_end ((set5_other wr w.heap.size 0 t0 t1 t2 t3 t4 (w.heap.size + 1) (by omega)).trans z1) a0 a1 a2 a3 a4
  have e2 := set5_end ((set5_other (set5 wr w.heap.size 0 t0 t1 t2 t3 t4) (w.heap.size + 1) 0 a0 a1 a2 a3 a4 (w.heap.size + 1 + 1) (by omega)).trans ((set5_other wr w.heap.size 0 t0 t1 t2 t3 t4 (w.heap.size + 1 + 1) (by omega)).trans z2)) b0 b1 b2 b3 b4
  exact ⟨(set5_other _ _ _ _ _ _ _ _ _ (by omega)).trans ((set5_other _ _ _ _ _ _ _ _ _ (by omega)).trans e0), (set5_other _ _ _ _ _ _ _ _ _ (by omega)).trans e1, e2, set5_below (set5_below (set5_below h.below (Nat.le_refl _) 0 _ _ _ _ _) (by omega) 0 _ _ _ _ _) (by omega) 0 _ _ _ _ _⟩

theorem Lain.fin3 {w wr : World} {p : Nat} {bs : List Nat} {low : Nat} {T : RT} {kv dv : Value} (h : Lain low wr p bs T kv dv) (g0 : w.heap.size ∈ bs) (g1 : w.heap.size + 1 ∈ bs) (g2 : w.heap.size + 1 + 1 ∈ bs) (t0 t1 t2 t3 t4 a0 a1 a2 a3 a4 b0 b1 b2 b3 b4 : Value) :
    ∃ F, Lies (set5 (set5 (set5 wr w.heap.size 0 t0 t1 t2 t3 t4) (w.heap.size + 1) 0 a0 a1 a2 a3 a4) (w.heap.size + 1 + 1) 0 b0 b1 b2 b3 b4) T kv dv F ∧ ∀ y ∈ F, low ≤ y := by
  obtain ⟨F, hl, hF⟩ := ((h.over g0 0 t0 t1 t2 t3 t4).over g1 0 a0 a1 a2 a3 a4).over g2 0 b0 b1 b2 b3 b4
  exact ⟨F, hl, fun y hy => (hF y hy).2.2⟩

theorem ret_nodes3 {fn : Func} {i j k : Nat} (hres : fn.results = #[ResultVar.cell i 27, ResultVar.cell j 27, ResultVar.cell k 27]) {tmps : Array Value} {w : World} {b c d : Nat} {t : TypeId} {t0 t1 t2 t3 t4 a0 a1 a2 a3 a4 b0 b1 b2 b3 b4 : Value}
    (hi : tmps[i]?.getD undef = .pointer (some ⟨b, 0, none⟩)) (hj : tmps[j]?.getD undef = .pointer (some ⟨c, 0, none⟩)) (hk : tmps[k]?.getD undef = .pointer (some ⟨d, 0, none⟩)) (h1 : w.heap[b]? = some (.cells #[t0, t1, t2, t3, t4] t (0, 0))) (h2 : w.heap[c]? = some (.cells #[a0, a1, a2, a3, a4] t (0, 0))) (h3 : w.heap[d]? = some (.cells #[b0, b1, b2, b3, b4] t (0, 0))) :
    (results fn tmps).run Tryz.prog w = .ok (.tuple #[.agg #[t0, t1, t2, t3, t4], .agg #[a0, a1, a2, a3, a4], .agg #[b0, b1, b2, b3, b4]]) w := by
  obtain ⟨x0, x1, x2, x3, x4, -⟩ := five h1
  obtain ⟨y0, y1, y2, y3, y4, -⟩ := five h2
  obtain ⟨z0, z1, z2, z3, z4, -⟩ := five h3
  simp [results, hres, hi, hj, hk, go_sem, x0, x1, x2, x3, x4, y0, y1, y2, y3, y4, z0, z1, z2, z3, z4]

theorem end3 {fn : Func} {i j k : Nat} (hres : fn.results = #[ResultVar.cell i 27, ResultVar.cell j 27, ResultVar.cell k 27]) {tmps : Array Value} {w W : World} {b c d : Nat} {t : TypeId} {t0 t1 t2 t3 t4 a0 a1 a2 a3 a4 b0 b1 b2 b3 b4 : Value}
    (hi : tmps[i]?.getD undef = .pointer (some ⟨b, 0, none⟩)) (hj : tmps[j]?.getD undef = .pointer (some ⟨c, 0, none⟩)) (hk : tmps[k]?.getD undef = .pointer (some ⟨d, 0, none⟩)) (h : W.heap[b]? = some (.cells #[t0, t1, t2, t3, t4] t (0, 0)) ∧ W.heap[c]? = some (.cells #[a0, a1, a2, a3, a4] t (0, 0)) ∧ W.heap[d]? = some (.cells #[b0, b1, b2, b3, b4] t (0, 0)) ∧ Below w.heap.size w W) :
    (results fn tmps).run Tryz.prog (W.drewN 1) = .ok (.tuple #[.agg #[t0, t1, t2, t3, t4], .agg #[a0, a1, a2, a3, a4], .agg #[b0, b1, b2, b3, b4]]) (W.drewN 1) :=
  ret_nodes3 hres hi hj hk h.1 h.2.1 h.2.2.1

set_option maxRecDepth 100000 in
set_option maxHeartbeats 3200000 in
theorem draw3_any (a : Option Addr) (len cap : Nat) (w : World) (hcode : CodeAt w a len) :
    Calls Tryz.prog 11 #[.slice a len cap] w fun e w' => ∃ (A B C : RT) (kA dA kB dB kC dC : Value) (FA FB FC : List Nat), e = .returned (.tuple #[.agg #[.int .i64 A.k, .int .i64 A.n, .string A.s, kA, dA], .agg #[.int .i64 B.k, .int .i64 B.n, .string B.s, kB, dB], .agg #[.int .i64 C.k, .int .i64 C.n, .string C.s, kC, dC]]) ∧
      Lies w' A kA dA FA ∧ Lies w' B kB dB FB ∧ Lies w' C kC dC FC ∧ A.sz ≤ 1000000 ∧ Below w.heap.size w w' ∧ (∀ y ∈ FA, w.heap.size ≤ y) ∧ (∀ y ∈ FB, w.heap.size ≤ y) ∧ (∀ y ∈ FC, w.heap.size ≤ y) := by
  have HCode := Lib.hid hcode
  have HA : Hid (∀ B, w.heap.size ≤ B → Apart a len B) := fun B hB => hcode.apart hB
  clear hcode
  go_enter Tryz.func11, Tryz.ntmps11
  go_wp2_with fail
  have h5 := (zero_blocks w (.cells #[.int .i64 0, .int .i64 0, .string ⟨#[]⟩, .slice none 0 0, .slice none 0 0] 27) (.cells #[.int .i64 0, .int .i64 0, .string ⟨#[]⟩, .slice none 0 0, .slice none 0 0] 27) (.cells #[.int .i64 0, .int .i64 0, .string ⟨#[]⟩, .slice none 0 0, .slice none 0 0] 27)).2.2.2
  refine (new_any a len cap _ (HCode.out.on h5.1)).mono ?_
  rintro e w1 ⟨rfl, hh, e1⟩
  have hs1 := DM.start w a len cap hh HCode.out
  rw [← e1] at hs1
  rw [h5.2]
  have H1 := Lib.hid hs1
  clear hs1 e1 h5
  generalize w.heap.size + 3 = p at *
  go_wp2_with fail
  refine (tree_lain H1.out).mono ?_
  rintro e w2 ⟨T, o1, q1, o2, q2, rfl, hl, hc2, hg2, hz⟩
  have h2d := H1.out.draw hc2 hg2
  have hlt2 := Lib.hid (fun (x : Nat × Array Value) hx => h2d.lt (x := x) hx)
  have H2 := Lib.hid (h2d.add #[.int .i64 T.k, .int .i64 T.n, .string T.s, .slice o1 T.keys.length q1, .slice o2 T.kids.length q2])
  have LT := Lib.hid (And.intro (hl.add #[.int .i64 T.k, .int .i64 T.n, .string T.s, .slice o1 T.keys.length q1, .slice o2 T.kids.length q2]) hz)
  clear hl hc2 hg2 hz H1 h2d
  go_upto_region 3 with fail
  obtain ⟨x0, x1, x2, x3, x4, -⟩ := five (H2.out.box (w2.heap.size, #[.int .i64 T.k, .int .i64 T.n, .string T.s, .slice o1 T.keys.length q1, .slice o2 T.kids.length q2]) (by simp)).1
  generalize hw2 : w2.alloc (.cells #[.int .i64 T.k, .int .i64 T.n, .string T.s, .slice o1 T.keys.length q1, .slice o2 T.kids.length q2] 27) = w2a at *
  generalize w2.heap.size = bT at *
  clear w2 hw2
  go_wp2_with fail
  refine (dent_lain H2.out LT.out.1 LT.out.2).mono ?_
  rintro e w3 ⟨A, o3, q3, o4, q4, rfl, hlA, hc3, hg3⟩
  have h3d := H2.out.draw hc3 hg3
  have hlt3 := Lib.hid (fun (x : Nat × Array Value) hx => h3d.lt (x := x) hx)
  have H3 := Lib.hid (h3d.add #[.int .i64 A.k, .int .i64 A.n, .string A.s, .slice o3 A.keys.length q3, .slice o4 A.kids.length q4])
  have LA := Lib.hid (hlA.add #[.int .i64 A.k, .int .i64 A.n, .string A.s, .slice o3 A.keys.length q3, .slice o4 A.kids.length q4])
  have LT3 := Lib.hid (And.intro ((LT.out.1.draw hg3).add #[.int .i64 A.k, .int .i64 A.n, .string A.s, .slice o3 A.keys.length q3, .slice o4 A.kids.length q4]) LT.out.2)
  clear hlA hc3 hg3 h3d H2 LT x0 x1 x2 x3 x4
  go_upto_region 4 with fail
  obtain ⟨x0, x1, x2, x3, x4, -⟩ := five (H3.out.box (bT, #[.int .i64 T.k, .int .i64 T.n, .string T.s, .slice o1 T.keys.length q1, .slice o2 T.kids.length q2]) (by simp)).1
  have h3l : Hid (w3.heap.size < (w3.alloc (.cells #[.int .i64 A.k, .int .i64 A.n, .string A.s, .slice o3 A.keys.length q3, .slice o4 A.kids.length q4] 27)).heap.size) := by show _ < _; simp
  generalize hw3 : w3.alloc (.cells #[.int .i64 A.k, .int .i64 A.n, .string A.s, .slice o3 A.keys.length q3, .slice o4 A.kids.length q4] 27) = w3a at *
  generalize w3.heap.size = bA at *
  clear w3 hw3
  go_wp2_with fail
  refine (dent_lain H3.out LT3.out.1 LT3.out.2).mono ?_
  rintro e w4 ⟨B, o5, q5, o6, q6, rfl, hlB, hc4, hg4⟩
  have h4d := H3.out.draw hc4 hg4
  have hlt4 := Lib.hid (fun (x : Nat × Array Value) hx => h4d.lt (x := x) hx)
  have H4 := Lib.hid (h4d.add #[.int .i64 B.k, .int .i64 B.n, .string B.s, .slice o5 B.keys.length q5, .slice o6 B.kids.length q6])
  have LB := Lib.hid (hlB.add #[.int .i64 B.k, .int .i64 B.n, .string B.s, .slice o5 B.keys.length q5, .slice o6 B.kids.length q6])
  have LA4 := Lib.hid ((LA.out.draw hg4).add #[.int .i64 B.k, .int .i64 B.n, .string B.s, .slice o5 B.keys.length q5, .slice o6 B.kids.length q6])
  have LT4 := Lib.hid (And.intro ((LT3.out.1.draw hg4).add #[.int .i64 B.k, .int .i64 B.n, .string B.s, .slice o5 B.keys.length q5, .slice o6 B.kids.length q6]) LT3.out.2)
  clear hlB hc4 hg4 h4d H3 LT3 LA x0 x1 x2 x3 x4
  go_upto_region 5 with fail
  generalize hw4 : w4.alloc (.cells #[.int .i64 B.k, .int .i64 B.n, .string B.s, .slice o5 B.keys.length q5, .slice o6 B.kids.length q6] 27) = w4a at *
  generalize w4.heap.size = bB at *
  clear w4 hw4
  go_wp2_with fail
  refine (below_any 8 (by omega) (by omega) a len cap p _ H4.out.cur.cur H4.out.cur.code H4.out.cur.apart).mono ?_
  rintro e w5 ⟨⟨r, hr, rfl⟩, hc5, ho5⟩
  have H5 := Lib.hid (H4.out.draw (H4.out.cur.only hc5 ho5) ho5.grown)
  replace LT4 := Lib.hid (And.intro (LT4.out.1.draw ho5.grown) LT4.out.2)
  replace LA4 := Lib.hid (LA4.out.draw ho5.grown)
  replace LB := Lib.hid (LB.out.draw ho5.grown)
  have HN : Hid (bT ≠ bA ∧ bT ≠ bB ∧ bA ≠ bB ∧ w.heap.size + 1 + 1 < bT ∧ w.heap.size + 1 + 1 < bA ∧ w.heap.size + 1 + 1 < bB) := by
    have a1 := hlt3.out (bT, #[.int .i64 T.k, .int .i64 T.n, .string T.s, .slice o1 T.keys.length q1, .slice o2 T.kids.length q2]) (by simp)
    have a2 := hlt4.out (bT, #[.int .i64 T.k, .int .i64 T.n, .string T.s, .slice o1 T.keys.length q1, .slice o2 T.kids.length q2]) (by simp)
    have a3 := hlt4.out (bA, #[.int .i64 A.k, .int .i64 A.n, .string A.s, .slice o3 A.keys.length q3, .slice o4 A.kids.length q4]) (by simp)
    have a4 := hlt2.out (w.heap.size + 1 + 1, #[.int .i64 0, .int .i64 0, .string ⟨#[]⟩, .slice none 0 0, .slice none 0 0]) (by simp)
    simp only at a1 a2 a3 a4
    exact ⟨by omega, by omega, by omega, by omega, by omega, by omega⟩
  clear hc5 ho5 H4 hlt2 hlt3 hlt4
  obtain rfl | rfl | hbig : r = 0 ∨ r = 1 ∨ 2 ≤ r := by omega
  · go_wp2_with fail
    refine (any_lain H5.out).mono ?_
    rintro e w6 ⟨D, o7, q7, o8, q8, rfl, hlD, hc6, hg6⟩
    have H6 := Lib.hid (H5.out.draw hc6 hg6)
    replace LT4 := Lib.hid (And.intro (LT4.out.1.draw hg6) LT4.out.2)
    have LX := Lib.hid (LB.out.draw hg6)
    have LD := Lib.hid hlD
    clear hlD hc6 hg6 H5 LA4 LB
    obtain ⟨m1, m2, m3, m4, m5, m6⟩ := HN.out
    have qbT0 : ¬ (bT = w.heap.size) := by omega
    have qbT0' : ¬ (w.heap.size = bT) := by omega
    have qbT1 : ¬ (bT = w.heap.size + 1) := by omega
    have qbT1' : ¬ (w.heap.size + 1 = bT) := by omega
    have qbT2 : ¬ (bT = w.heap.size + 1 + 1) := by omega
    have qbT2' : ¬ (w.heap.size + 1 + 1 = bT) := by omega
    have qbA0 : ¬ (bA = w.heap.size) := by omega
    have qbA0' : ¬ (w.heap.size = bA) := by omega
    have qbA1 : ¬ (bA = w.heap.size + 1) := by omega
    have qbA1' : ¬ (w.heap.size + 1 = bA) := by omega
    have qbA2 : ¬ (bA = w.heap.size + 1 + 1) := by omega
    have qbA2' : ¬ (w.heap.size + 1 + 1 = bA) := by omega
    have qbB0 : ¬ (bB = w.heap.size) := by omega
    have qbB0' : ¬ (w.heap.size = bB) := by omega
    have qbB1 : ¬ (bB = w.heap.size + 1) := by omega
    have qbB1' : ¬ (w.heap.size + 1 = bB) := by omega
    have qbB2 : ¬ (bB = w.heap.size + 1 + 1) := by omega
    have qbB2' : ¬ (w.heap.size + 1 + 1 = bB) := by omega
    have qTA' : ¬ (bA = bT) := by omega
    have qTB' : ¬ (bB = bT) := by omega
    have qAB' : ¬ (bB = bA) := by omega
    have qTA : ¬ (bT = bA) := by omega
    have qTB : ¬ (bT = bB) := by omega
    have qAB : ¬ (bA = bB) := by omega
    obtain ⟨x0, x1, x2, x3, x4, -⟩ := five (H6.out.box (bT, #[.int .i64 T.k, .int .i64 T.n, .string T.s, .slice o1 T.keys.length q1, .slice o2 T.kids.length q2]) (by simp)).1
    obtain ⟨y0, y1, y2, y3, y4, yf⟩ := five (H6.out.box (bA, #[.int .i64 A.k, .int .i64 A.n, .string A.s, .slice o3 A.keys.length q3, .slice o4 A.kids.length q4]) (by simp)).1
    obtain ⟨z0, z1, z2, z3, z4, -⟩ := five (H6.out.box (bB, #[.int .i64 B.k, .int .i64 B.n, .string B.s, .slice o5 B.keys.length q5, .slice o6 B.kids.length q6]) (by simp)).1
    obtain ⟨u0, u1, u2, u3, u4, uf⟩ := five (H6.out.box (w.heap.size, #[.int .i64 0, .int .i64 0, .string ⟨#[]⟩, .slice none 0 0, .slice none 0 0]) (by simp)).1
    obtain ⟨v0, v1, v2, v3, v4, vf⟩ := five (H6.out.box (w.heap.size + 1, #[.int .i64 0, .int .i64 0, .string ⟨#[]⟩, .slice none 0 0, .slice none 0 0]) (by simp)).1
    obtain ⟨s0, s1, s2, s3, s4, sf⟩ := five (H6.out.box (w.heap.size + 1 + 1, #[.int .i64 0, .int .i64 0, .string ⟨#[]⟩, .slice none 0 0, .slice none 0 0]) (by simp)).1
    have H7 := H6.out.over HA.out (B := bA) (cs := #[.int .i64 A.k, .int .i64 A.n, .string A.s, .slice o3 A.keys.length q3, .slice o4 A.kids.length q4]) (pre := [(bB, #[.int .i64 B.k, .int .i64 B.n, .string B.s, .slice o5 B.keys.length q5, .slice o6 B.kids.length q6])]) (post := ((bT, #[.int .i64 T.k, .int .i64 T.n, .string T.s, .slice o1 T.keys.length q1, .slice o2 T.kids.length q2]) :: (w.heap.size, #[.int .i64 0, .int .i64 0, .string ⟨#[]⟩, .slice none 0 0, .slice none 0 0]) :: (w.heap.size + 1, #[.int .i64 0, .int .i64 0, .string ⟨#[]⟩, .slice none 0 0, .slice none 0 0]) :: (w.heap.size + 1 + 1, #[.int .i64 0, .int .i64 0, .string ⟨#[]⟩, .slice none 0 0, .slice none 0 0]) :: [])) rfl (by intro x hx; simp only [List.cons_append, List.nil_append, List.mem_cons, List.not_mem_nil, or_false] at hx; rcases hx with rfl | rfl | rfl | rfl | rfl <;> (show ¬ _ = _; omega)) rfl (.int .i64 D.k) (.int .i64 D.n) (.string D.s) (.slice o7 D.keys.length q7) (.slice o8 D.kids.length q8)
    have hE := fin3 H7 (by simp) (by simp) (by simp) (.int .i64 T.k) (.int .i64 T.n) (.string T.s) (.slice o1 T.keys.length q1) (.slice o2 T.kids.length q2) (.int .i64 D.k) (.int .i64 D.n) (.string D.s) (.slice o7 D.keys.length q7) (.slice o8 D.kids.length q8) (.int .i64 B.k) (.int .i64 B.n) (.string B.s) (.slice o5 B.keys.length q5) (.slice o6 B.kids.length q6)
    obtain ⟨FT, lT, nnT⟩ := (LT4.out.1.over (B := bA) (by simp) 0 (.int .i64 D.k) (.int .i64 D.n) (.string D.s) (.slice o7 D.keys.length q7) (.slice o8 D.kids.length q8)).fin3 (w := w) (by simp) (by simp) (by simp) (.int .i64 T.k) (.int .i64 T.n) (.string T.s) (.slice o1 T.keys.length q1) (.slice o2 T.kids.length q2) (.int .i64 D.k) (.int .i64 D.n) (.string D.s) (.slice o7 D.keys.length q7) (.slice o8 D.kids.length q8) (.int .i64 B.k) (.int .i64 B.n) (.string B.s) (.slice o5 B.keys.length q5) (.slice o6 B.kids.length q6)
    obtain ⟨FX, lX, nnX⟩ := (LX.out.over (B := bA) (by simp) 0 (.int .i64 D.k) (.int .i64 D.n) (.string D.s) (.slice o7 D.keys.length q7) (.slice o8 D.kids.length q8)).fin3 (w := w) (by simp) (by simp) (by simp) (.int .i64 T.k) (.int .i64 T.n) (.string T.s) (.slice o1 T.keys.length q1) (.slice o2 T.kids.length q2) (.int .i64 D.k) (.int .i64 D.n) (.string D.s) (.slice o7 D.keys.length q7) (.slice o8 D.kids.length q8) (.int .i64 B.k) (.int .i64 B.n) (.string B.s) (.slice o5 B.keys.length q5) (.slice o6 B.kids.length q6)
    obtain ⟨FD, lD, nnD⟩ := (LD.out.over (B := bA) (by simp) 0 (.int .i64 D.k) (.int .i64 D.n) (.string D.s) (.slice o7 D.keys.length q7) (.slice o8 D.kids.length q8)).fin3 (w := w) (by simp) (by simp) (by simp) (.int .i64 T.k) (.int .i64 T.n) (.string T.s) (.slice o1 T.keys.length q1) (.slice o2 T.kids.length q2) (.int .i64 D.k) (.int .i64 D.n) (.string D.s) (.slice o7 D.keys.length q7) (.slice o8 D.kids.length q8) (.int .i64 B.k) (.int .i64 B.n) (.string B.s) (.slice o5 B.keys.length q5) (.slice o6 B.kids.length q6)
    simp only [set5, Nat.zero_add] at hE lT lX lD
    have HE := Lib.hid (And.intro hE (And.intro lT (And.intro lX lD)))
    clear hE lT lX lD H7 m1 m2 m3 m4 m5 m6
    go_wp2
    go_region_law fail
    all_goals go_wp2
    all_goals exact bodyPost_ret (end3 Tryz.results11 rfl rfl rfl HE.out.1) rfl ⟨T, D, B, _, _, _, _, _, _, FT, FD, FX, rfl, HE.out.2.1.stay (below_drewN (Below.refl _ _) 1) (Nat.le_refl _), HE.out.2.2.2.stay (below_drewN (Below.refl _ _) 1) (Nat.le_refl _), HE.out.2.2.1.stay (below_drewN (Below.refl _ _) 1) (Nat.le_refl _), LT4.out.2, below_drewN HE.out.1.2.2.2 1, nnT, nnD, nnX⟩
  · go_wp2_with fail
    refine (tree_lain H5.out).mono ?_
    rintro e w6 ⟨D, o7, q7, o8, q8, rfl, hlD, hc6, hg6, -⟩
    have H6 := Lib.hid (H5.out.draw hc6 hg6)
    replace LT4 := Lib.hid (And.intro (LT4.out.1.draw hg6) LT4.out.2)
    have LX := Lib.hid (LA4.out.draw hg6)
    have LD := Lib.hid hlD
    clear hlD hc6 hg6 H5 LA4 LB
    obtain ⟨m1, m2, m3, m4, m5, m6⟩ := HN.out
    have qbT0 : ¬ (bT = w.heap.size) := by omega
    have qbT0' : ¬ (w.heap.size = bT) := by omega
    have qbT1 : ¬ (bT = w.heap.size + 1) := by omega
    have qbT1' : ¬ (w.heap.size + 1 = bT) := by omega
    have qbT2 : ¬ (bT = w.heap.size + 1 + 1) := by omega
    have qbT2' : ¬ (w.heap.size + 1 + 1 = bT) := by omega
    have qbA0 : ¬ (bA = w.heap.size) := by omega
    have qbA0' : ¬ (w.heap.size = bA) := by omega
    have qbA1 : ¬ (bA = w.heap.size + 1) := by omega
    have qbA1' : ¬ (w.heap.size + 1 = bA) := by omega
    have qbA2 : ¬ (bA = w.heap.size + 1 + 1) := by omega
    have qbA2' : ¬ (w.heap.size + 1 + 1 = bA) := by omega
    have qbB0 : ¬ (bB = w.heap.size) := by omega
    have qbB0' : ¬ (w.heap.size = bB) := by omega
    have qbB1 : ¬ (bB = w.heap.size + 1) := by omega
    have qbB1' : ¬ (w.heap.size + 1 = bB) := by omega
    have qbB2 : ¬ (bB = w.heap.size + 1 + 1) := by omega
    have qbB2' : ¬ (w.heap.size + 1 + 1 = bB) := by omega
    have qTA' : ¬ (bA = bT) := by omega
    have qTB' : ¬ (bB = bT) := by omega
    have qAB' : ¬ (bB = bA) := by omega
    have qTA : ¬ (bT = bA) := by omega
    have qTB : ¬ (bT = bB) := by omega
    have qAB : ¬ (bA = bB) := by omega
    obtain ⟨x0, x1, x2, x3, x4, -⟩ := five (H6.out.box (bT, #[.int .i64 T.k, .int .i64 T.n, .string T.s, .slice o1 T.keys.length q1, .slice o2 T.kids.length q2]) (by simp)).1
    obtain ⟨y0, y1, y2, y3, y4, -⟩ := five (H6.out.box (bA, #[.int .i64 A.k, .int .i64 A.n, .string A.s, .slice o3 A.keys.length q3, .slice o4 A.kids.length q4]) (by simp)).1
    obtain ⟨z0, z1, z2, z3, z4, zf⟩ := five (H6.out.box (bB, #[.int .i64 B.k, .int .i64 B.n, .string B.s, .slice o5 B.keys.length q5, .slice o6 B.kids.length q6]) (by simp)).1
    obtain ⟨u0, u1, u2, u3, u4, uf⟩ := five (H6.out.box (w.heap.size, #[.int .i64 0, .int .i64 0, .string ⟨#[]⟩, .slice none 0 0, .slice none 0 0]) (by simp)).1
    obtain ⟨v0, v1, v2, v3, v4, vf⟩ := five (H6.out.box (w.heap.size + 1, #[.int .i64 0, .int .i64 0, .string ⟨#[]⟩, .slice none 0 0, .slice none 0 0]) (by simp)).1
    obtain ⟨s0, s1, s2, s3, s4, sf⟩ := five (H6.out.box (w.heap.size + 1 + 1, #[.int .i64 0, .int .i64 0, .string ⟨#[]⟩, .slice none 0 0, .slice none 0 0]) (by simp)).1
    have H7 := H6.out.over HA.out (B := bB) (cs := #[.int .i64 B.k, .int .i64 B.n, .string B.s, .slice o5 B.keys.length q5, .slice o6 B.kids.length q6]) (pre := []) (post := ((bA, #[.int .i64 A.k, .int .i64 A.n, .string A.s, .slice o3 A.keys.length q3, .slice o4 A.kids.length q4]) :: (bT, #[.int .i64 T.k, .int .i64 T.n, .string T.s, .slice o1 T.keys.length q1, .slice o2 T.kids.length q2]) :: (w.heap.size, #[.int .i64 0, .int .i64 0, .string ⟨#[]⟩, .slice none 0 0, .slice none 0 0]) :: (w.heap.size + 1, #[.int .i64 0, .int .i64 0, .string ⟨#[]⟩, .slice none 0 0, .slice none 0 0]) :: (w.heap.size + 1 + 1, #[.int .i64 0, .int .i64 0, .string ⟨#[]⟩, .slice none 0 0, .slice none 0 0]) :: [])) rfl (by intro x hx; simp only [List.nil_append, List.mem_cons, List.not_mem_nil, or_false] at hx; rcases hx with rfl | rfl | rfl | rfl | rfl <;> (show ¬ _ = _; omega)) rfl (.int .i64 D.k) (.int .i64 D.n) (.string D.s) (.slice o7 D.keys.length q7) (.slice o8 D.kids.length q8)
    have hE := fin3 H7 (by simp) (by simp) (by simp) (.int .i64 T.k) (.int .i64 T.n) (.string T.s) (.slice o1 T.keys.length q1) (.slice o2 T.kids.length q2) (.int .i64 A.k) (.int .i64 A.n) (.string A.s) (.slice o3 A.keys.length q3) (.slice o4 A.kids.length q4) (.int .i64 D.k) (.int .i64 D.n) (.string D.s) (.slice o7 D.keys.length q7) (.slice o8 D.kids.length q8)
    obtain ⟨FT, lT, nnT⟩ := (LT4.out.1.over (B := bB) (by simp) 0 (.int .i64 D.k) (.int .i64 D.n) (.string D.s) (.slice o7 D.keys.length q7) (.slice o8 D.kids.length q8)).fin3 (w := w) (by simp) (by simp) (by simp) (.int .i64 T.k) (.int .i64 T.n) (.string T.s) (.slice o1 T.keys.length q1) (.slice o2 T.kids.length q2) (.int .i64 A.k) (.int .i64 A.n) (.string A.s) (.slice o3 A.keys.length q3) (.slice o4 A.kids.length q4) (.int .i64 D.k) (.int .i64 D.n) (.string D.s) (.slice o7 D.keys.length q7) (.slice o8 D.kids.length q8)
    obtain ⟨FX, lX, nnX⟩ := (LX.out.over (B := bB) (by simp) 0 (.int .i64 D.k) (.int .i64 D.n) (.string D.s) (.slice o7 D.keys.length q7) (.slice o8 D.kids.length q8)).fin3 (w := w) (by simp) (by simp) (by simp) (.int .i64 T.k) (.int .i64 T.n) (.string T.s) (.slice o1 T.keys.length q1) (.slice o2 T.kids.length q2) (.int .i64 A.k) (.int .i64 A.n) (.string A.s) (.slice o3 A.keys.length q3) (.slice o4 A.kids.length q4) (.int .i64 D.k) (.int .i64 D.n) (.string D.s) (.slice o7 D.keys.length q7) (.slice o8 D.kids.length q8)
    obtain ⟨FD, lD, nnD⟩ := (LD.out.over (B := bB) (by simp) 0 (.int .i64 D.k) (.int .i64 D.n) (.string D.s) (.slice o7 D.keys.length q7) (.slice o8 D.kids.length q8)).fin3 (w := w) (by simp) (by simp) (by simp) (.int .i64 T.k) (.int .i64 T.n) (.string T.s) (.slice o1 T.keys.length q1) (.slice o2 T.kids.length q2) (.int .i64 A.k) (.int .i64 A.n) (.string A.s) (.slice o3 A.keys.length q3) (.slice o4 A.kids.length q4) (.int .i64 D.k) (.int .i64 D.n) (.string D.s) (.slice o7 D.keys.length q7) (.slice o8 D.kids.length q8)
    simp only [set5, Nat.zero_add] at hE lT lX lD
    have HE := Lib.hid (And.intro hE (And.intro lT (And.intro lX lD)))
    clear hE lT lX lD H7 m1 m2 m3 m4 m5 m6
    go_wp2
    go_region_law fail
    all_goals go_wp2
    all_goals exact bodyPost_ret (end3 Tryz.results11 rfl rfl rfl HE.out.1) rfl ⟨T, A, D, _, _, _, _, _, _, FT, FX, FD, rfl, HE.out.2.1.stay (below_drewN (Below.refl _ _) 1) (Nat.le_refl _), HE.out.2.2.1.stay (below_drewN (Below.refl _ _) 1) (Nat.le_refl _), HE.out.2.2.2.stay (below_drewN (Below.refl _ _) 1) (Nat.le_refl _), LT4.out.2, below_drewN HE.out.1.2.2.2 1, nnT, nnX, nnD⟩
  · have n0 : ¬ ((r : Int) = 0) := by omega
    have n1 : ¬ ((r : Int) = 1) := by omega
    obtain ⟨x0, x1, x2, x3, x4, -⟩ := five (H5.out.box (bT, #[.int .i64 T.k, .int .i64 T.n, .string T.s, .slice o1 T.keys.length q1, .slice o2 T.kids.length q2]) (by simp)).1
    obtain ⟨y0, y1, y2, y3, y4, -⟩ := five (H5.out.box (bA, #[.int .i64 A.k, .int .i64 A.n, .string A.s, .slice o3 A.keys.length q3, .slice o4 A.kids.length q4]) (by simp)).1
    obtain ⟨z0, z1, z2, z3, z4, -⟩ := five (H5.out.box (bB, #[.int .i64 B.k, .int .i64 B.n, .string B.s, .slice o5 B.keys.length q5, .slice o6 B.kids.length q6]) (by simp)).1
    obtain ⟨u0, u1, u2, u3, u4, uf⟩ := five (H5.out.box (w.heap.size, #[.int .i64 0, .int .i64 0, .string ⟨#[]⟩, .slice none 0 0, .slice none 0 0]) (by simp)).1
    obtain ⟨v0, v1, v2, v3, v4, vf⟩ := five (H5.out.box (w.heap.size + 1, #[.int .i64 0, .int .i64 0, .string ⟨#[]⟩, .slice none 0 0, .slice none 0 0]) (by simp)).1
    obtain ⟨s0, s1, s2, s3, s4, sf⟩ := five (H5.out.box (w.heap.size + 1 + 1, #[.int .i64 0, .int .i64 0, .string ⟨#[]⟩, .slice none 0 0, .slice none 0 0]) (by simp)).1
    have hE := fin3 H5.out (by simp) (by simp) (by simp) (.int .i64 T.k) (.int .i64 T.n) (.string T.s) (.slice o1 T.keys.length q1) (.slice o2 T.kids.length q2) (.int .i64 A.k) (.int .i64 A.n) (.string A.s) (.slice o3 A.keys.length q3) (.slice o4 A.kids.length q4) (.int .i64 B.k) (.int .i64 B.n) (.string B.s) (.slice o5 B.keys.length q5) (.slice o6 B.kids.length q6)
    obtain ⟨FT, lT, nnT⟩ := LT4.out.1.fin3 (w := w) (by simp) (by simp) (by simp) (.int .i64 T.k) (.int .i64 T.n) (.string T.s) (.slice o1 T.keys.length q1) (.slice o2 T.kids.length q2) (.int .i64 A.k) (.int .i64 A.n) (.string A.s) (.slice o3 A.keys.length q3) (.slice o4 A.kids.length q4) (.int .i64 B.k) (.int .i64 B.n) (.string B.s) (.slice o5 B.keys.length q5) (.slice o6 B.kids.length q6)
    obtain ⟨FA, lA, nnA⟩ := LA4.out.fin3 (w := w) (by simp) (by simp) (by simp) (.int .i64 T.k) (.int .i64 T.n) (.string T.s) (.slice o1 T.keys.length q1) (.slice o2 T.kids.length q2) (.int .i64 A.k) (.int .i64 A.n) (.string A.s) (.slice o3 A.keys.length q3) (.slice o4 A.kids.length q4) (.int .i64 B.k) (.int .i64 B.n) (.string B.s) (.slice o5 B.keys.length q5) (.slice o6 B.kids.length q6)
    obtain ⟨FB, lB, nnB⟩ := LB.out.fin3 (w := w) (by simp) (by simp) (by simp) (.int .i64 T.k) (.int .i64 T.n) (.string T.s) (.slice o1 T.keys.length q1) (.slice o2 T.kids.length q2) (.int .i64 A.k) (.int .i64 A.n) (.string A.s) (.slice o3 A.keys.length q3) (.slice o4 A.kids.length q4) (.int .i64 B.k) (.int .i64 B.n) (.string B.s) (.slice o5 B.keys.length q5) (.slice o6 B.kids.length q6)
    simp only [set5, Nat.zero_add] at hE lT lA lB
    have HE := Lib.hid (And.intro hE (And.intro lT (And.intro lA lB)))
    clear hE lT lA lB
    obtain ⟨m1, m2, m3, m4, m5, m6⟩ := HN.out
    have qbT0 : ¬ (bT = w.heap.size) := by omega
    have qbT0' : ¬ (w.heap.size = bT) := by omega
    have qbT1 : ¬ (bT = w.heap.size + 1) := by omega
    have qbT1' : ¬ (w.heap.size + 1 = bT) := by omega
    have qbT2 : ¬ (bT = w.heap.size + 1 + 1) := by omega
    have qbT2' : ¬ (w.heap.size + 1 + 1 = bT) := by omega
    have qbA0 : ¬ (bA = w.heap.size) := by omega
    have qbA0' : ¬ (w.heap.size = bA) := by omega
    have qbA1 : ¬ (bA = w.heap.size + 1) := by omega
    have qbA1' : ¬ (w.heap.size + 1 = bA) := by omega
    have qbA2 : ¬ (bA = w.heap.size + 1 + 1) := by omega
    have qbA2' : ¬ (w.heap.size + 1 + 1 = bA) := by omega
    have qbB0 : ¬ (bB = w.heap.size) := by omega
    have qbB0' : ¬ (w.heap.size = bB) := by omega
    have qbB1 : ¬ (bB = w.heap.size + 1) := by omega
    have qbB1' : ¬ (w.heap.size + 1 = bB) := by omega
    have qbB2 : ¬ (bB = w.heap.size + 1 + 1) := by omega
    have qbB2' : ¬ (w.heap.size + 1 + 1 = bB) := by omega
    clear m1 m2 m3 m4 m5 m6
    go_wp2
    go_region_law fail
    all_goals go_wp2
    all_goals exact bodyPost_ret (end3 Tryz.results11 rfl rfl rfl HE.out.1) rfl ⟨T, A, B, _, _, _, _, _, _, FT, FA, FB, rfl, HE.out.2.1.stay (below_drewN (Below.refl _ _) 1) (Nat.le_refl _), HE.out.2.2.1.stay (below_drewN (Below.refl _ _) 1) (Nat.le_refl _), HE.out.2.2.2.stay (below_drewN (Below.refl _ _) 1) (Nat.le_refl _), LT4.out.2, below_drewN HE.out.1.2.2.2 1, nnT, nnA, nnB⟩
end Go.Proofs.YtelpkcbbipianaaGreat

/- the drawing of a base and two changes of it for the law: three trees lie in memory; all that was there before is as it was; no condition. -/
namespace Go.Proofs.YtelpkcbbipianaaGreat
open Go Go.RowKit

def S3 (w W : World) (t0 t1 t2 t3 t4 a0 a1 a2 a3 a4 b0 b1 b2 b3 b4 : Value) : World :=
  set5 (set5 (set5 W w.heap.size 0 t0 t1 t2 t3 t4) (w.heap.size + 1) 0 a0 a1 a2 a3 a4) (w.heap.size + 1 + 1) 0 b0 b1 b2 b3 b4

/-- Three nodes are answered out of three boxes; what is none of them stays. -/
theorem fin3b {w W : World} (z0 : W.heap[w.heap.size]? = some (.cells #[.int .i64 0, .int .i64 0, .string ⟨#[]⟩, .slice none 0 0, .slice none 0 0] 27 (0, 0))) (z1 : W.heap[w.heap.size + 1]? = some (.cells #[.int .i64 0, .int .i64 0, .string ⟨#[]⟩, .slice none 0 0, .slice none 0 0] 27 (0, 0))) (z2 : W.heap[w.heap.size + 1 + 1]? = some (.cells #[.int .i64 0, .int .i64 0, .string ⟨#[]⟩, .slice none 0 0, .slice none 0 0] 27 (0, 0))) (hb : Below w.heap.size w W) (t0 t1 t2 t3 t4 a0 a1 a2 a3 a4 b0 b1 b2 b3 b4 : Value) :
    (S3 w W t0 t1 t2 t3 t4 a0 a1 a2 a3 a4 b0 b1 b2 b3 b4).heap[w.heap.size]? = some (.cells #[t0, t1, t2, t3, t4] 27 (0, 0)) ∧
    (S3 w W t0 t1 t2 t3 t4 a0 a1 a2 a3 a4 b0 b1 b2 b3 b4).heap[w.heap.size + 1]? = some (.cells #[a0, a1, a2, a3, a4] 27 (0, 0)) ∧
    (S3 w W t0 t1 t2 t3 t4 a0 a1 a2 a3 a4 b0 b1 b2 b3 b4).heap[w.heap.size + 1 + 1]? = some (.cells #[b0, b1, b2, b3, b4] 27 (0, 0)) ∧
    Below w.heap.size w (S3 w W t0 t1 t2 t3 t4 a0 a1 a2 a3 a4 b0 b1 b2 b3 b4) := by
  have e0 := set5_end z0 t0 t1 t2 t3 t4
  have e1 := set5_end ((set5_other W w.heap.size 0 t0 t1 t2 t3 t4 (w.heap.size + 1) (by omega)).trans z1) a0 a1 a2 a3 a4
  have e2 := set5_end ((set5_other (set5 W w.heap.size 0 t0 t1 t2 t3 t4) (w.heap.size + 1) 0 a0 a1 a2 a3 a4 (w.heap.size + 1 + 1) (by omega)).trans ((set5_other W w.heap.size 0 t0 t1 t2 t3 t4 (w.heap.size + 1 + 1) (by omega)).trans z2)) b0 b1 b2 b3 b4
  exact ⟨(set5_other _ _ _ _ _ _ _ _ _ (by omega)).trans ((set5_other _ _ _ _ _ _ _ _ _ (by omega)).trans e0), (set5_other _ _ _ _ _ _ _ _ _ (by omega)).trans e1, e2, set5_below (set5_below (set5_below hb (Nat.le_refl _) 0 _ _ _ _ _) (by omega) 0 _ _ _ _ _) (by omega) 0 _ _ _ _ _⟩

theorem fin3b_other {w W : World} (t0 t1 t2 t3 t4 a0 a1 a2 a3 a4 b0 b1 b2 b3 b4 : Value) {T : RT} {kv dv : Value} {F : List Nat} (h : Lies W T kv dv F) (hF : ∀ y ∈ F, y ≠ w.heap.size ∧ y ≠ w.heap.size + 1 ∧ y ≠ w.heap.size + 1 + 1) : Lies (S3 w W t0 t1 t2 t3 t4 a0 a1 a2 a3 a4 b0 b1 b2 b3 b4) T kv dv F :=
  h.carry fun y hy => (set5_other _ _ _ _ _ _ _ _ _ (hF y hy).2.2).trans ((set5_other _ _ _ _ _ _ _ _ _ (hF y hy).2.1).trans (set5_other _ _ _ _ _ _ _ _ _ (hF y hy).1))

set_option maxRecDepth 100000 in
set_option maxHeartbeats 1600000 in
theorem drawMerge_any (a : Option Addr) (len cap : Nat) (w : World) (hcode : CodeAt w a len) :
    Calls Tryz.prog 5 #[.slice a len cap] w fun e w' => ∃ (A B C : RT) (kA dA kB dB kC dC : Value) (FA FB FC : List Nat), e = .returned (.tuple #[.agg #[.int .i64 A.k, .int .i64 A.n, .string A.s, kA, dA], .agg #[.int .i64 B.k, .int .i64 B.n, .string B.s, kB, dB], .agg #[.int .i64 C.k, .int .i64 C.n, .string C.s, kC, dC]]) ∧
      Lies w' A kA dA FA ∧ Lies w' B kB dB FB ∧ Lies w' C kC dC FC ∧ A.sz ≤ 1000000 ∧ Below w.heap.size w w' ∧ (∀ y ∈ FA, w.heap.size ≤ y) ∧ (∀ y ∈ FB, w.heap.size ≤ y) ∧ (∀ y ∈ FC, w.heap.size ≤ y) := by
  have HCode := Lib.hid hcode
  clear hcode
  go_enter Tryz.func5, Tryz.ntmps5
  go_wp2_with fail
  have h5 := (zero_blocks w (.cells #[.int .i64 0, .int .i64 0, .string ⟨#[]⟩, .slice none 0 0, .slice none 0 0] 27) (.cells #[.int .i64 0, .int .i64 0, .string ⟨#[]⟩, .slice none 0 0, .slice none 0 0] 27) (.cells #[.int .i64 0, .int .i64 0, .string ⟨#[]⟩, .slice none 0 0, .slice none 0 0] 27))
  refine (draw3_any a len cap _ (HCode.out.on h5.2.2.2.1)).mono ?_
  rintro e w1 ⟨A, B, C, kA, dA, kB, dB, kC, dC, FA, FB, FC, rfl, lA, lB, lC, hz, hb, fA, fB, fC⟩
  obtain ⟨⟨o1, q1, rfl⟩, ⟨o2, q2, rfl⟩⟩ := lA.slices
  obtain ⟨⟨o3, q3, rfl⟩, ⟨o4, q4, rfl⟩⟩ := lB.slices
  obtain ⟨⟨o5, q5, rfl⟩, ⟨o6, q6, rfl⟩⟩ := lC.slices
  have h0 := (hb.block _ (by rw [h5.2.2.2.2]; omega)).trans h5.1
  have h1 := (hb.block _ (by rw [h5.2.2.2.2]; omega)).trans h5.2.1
  have h2 := (hb.block _ (by rw [h5.2.2.2.2]; omega)).trans h5.2.2.1
  have hbb := h5.2.2.2.1.trans (hb.mono h5.2.2.2.1.size)
  have hsz : w.heap.size + 3 ≤ w1.heap.size := by have := hb.size; rw [h5.2.2.2.2] at this; exact this
  have HL := Lib.hid (And.intro lA (And.intro lB (And.intro lC hz)))
  have h5z := h5.2.2.2.2
  clear h5 hb lA lB lC hz
  have g := zero_blocks w1 (.cells #[.int .i64 A.k, .int .i64 A.n, .string A.s, .slice o1 A.keys.length q1, .slice o2 A.kids.length q2] 27) (.cells #[.int .i64 B.k, .int .i64 B.n, .string B.s, .slice o3 B.keys.length q3, .slice o4 B.kids.length q4] 27) (.cells #[.int .i64 C.k, .int .i64 C.n, .string C.s, .slice o5 C.keys.length q5, .slice o6 C.kids.length q6] 27)
  have k0 := (g.2.2.2.1.block _ (by omega)).trans h0
  have k1 := (g.2.2.2.1.block _ (by omega)).trans h1
  have k2 := (g.2.2.2.1.block _ (by omega)).trans h2
  have HB := Lib.hid (hbb.trans (g.2.2.2.1.mono hbb.size))
  have HL2 := Lib.hid (And.intro (HL.out.1.stay g.2.2.2.1 (Nat.le_refl _)) (And.intro (HL.out.2.1.stay g.2.2.2.1 (Nat.le_refl _)) (And.intro (HL.out.2.2.1.stay g.2.2.2.1 (Nat.le_refl _)) HL.out.2.2.2)))
  rw [h5z] at fA fB fC
  obtain ⟨x0, x1, x2, x3, x4, xf⟩ := five g.1
  obtain ⟨y0, y1, y2, y3, y4, yf⟩ := five g.2.1
  obtain ⟨z0, z1, z2, z3, z4, zf⟩ := five g.2.2.1
  obtain ⟨u0, u1, u2, u3, u4, uf⟩ := five k0
  obtain ⟨v0, v1, v2, v3, v4, vf⟩ := five k1
  obtain ⟨s0, s1, s2, s3, s4, sf⟩ := five k2
  have n0 : ¬ (w1.heap.size = w.heap.size) := by omega
  have n1 : ¬ (w1.heap.size = w.heap.size + 1) := by omega
  have n2 : ¬ (w1.heap.size = w.heap.size + 1 + 1) := by omega
  have n3 : ¬ (w1.heap.size + 1 = w.heap.size) := by omega
  have n4 : ¬ (w1.heap.size + 1 = w.heap.size + 1) := by omega
  have n5 : ¬ (w1.heap.size + 1 = w.heap.size + 1 + 1) := by omega
  have n6 : ¬ (w1.heap.size + 1 + 1 = w.heap.size) := by omega
  have n7 : ¬ (w1.heap.size + 1 + 1 = w.heap.size + 1) := by omega
  have n8 : ¬ (w1.heap.size + 1 + 1 = w.heap.size + 1 + 1) := by omega
  have m0 : ¬ (w.heap.size = w1.heap.size) := by omega
  have m1 : ¬ (w.heap.size + 1 = w1.heap.size) := by omega
  have m2 : ¬ (w.heap.size + 1 + 1 = w1.heap.size) := by omega
  have m3 : ¬ (w.heap.size = w1.heap.size + 1) := by omega
  have m4 : ¬ (w.heap.size + 1 = w1.heap.size + 1) := by omega
  have m5 : ¬ (w.heap.size + 1 + 1 = w1.heap.size + 1) := by omega
  have m6 : ¬ (w.heap.size = w1.heap.size + 1 + 1) := by omega
  have m7 : ¬ (w.heap.size + 1 = w1.heap.size + 1 + 1) := by omega
  have m8 : ¬ (w.heap.size + 1 + 1 = w1.heap.size + 1 + 1) := by omega
  have hE := fin3b k0 k1 k2 HB.out (.int .i64 A.k) (.int .i64 A.n) (.string A.s) (.slice o1 A.keys.length q1) (.slice o2 A.kids.length q2) (.int .i64 B.k) (.int .i64 B.n) (.string B.s) (.slice o3 B.keys.length q3) (.slice o4 B.kids.length q4) (.int .i64 C.k) (.int .i64 C.n) (.string C.s) (.slice o5 C.keys.length q5) (.slice o6 C.kids.length q6)
  have lA := fin3b_other (.int .i64 A.k) (.int .i64 A.n) (.string A.s) (.slice o1 A.keys.length q1) (.slice o2 A.kids.length q2) (.int .i64 B.k) (.int .i64 B.n) (.string B.s) (.slice o3 B.keys.length q3) (.slice o4 B.kids.length q4) (.int .i64 C.k) (.int .i64 C.n) (.string C.s) (.slice o5 C.keys.length q5) (.slice o6 C.kids.length q6) HL2.out.1 (w := w) (fun y hy => by have := fA y hy; exact ⟨by omega, by omega, by omega⟩)
  have lB := fin3b_other (.int .i64 A.k) (.int .i64 A.n) (.string A.s) (.slice o1 A.keys.length q1) (.slice o2 A.kids.length q2) (.int .i64 B.k) (.int .i64 B.n) (.string B.s) (.slice o3 B.keys.length q3) (.slice o4 B.kids.length q4) (.int .i64 C.k) (.int .i64 C.n) (.string C.s) (.slice o5 C.keys.length q5) (.slice o6 C.kids.length q6) HL2.out.2.1 (w := w) (fun y hy => by have := fB y hy; exact ⟨by omega, by omega, by omega⟩)
  have lC := fin3b_other (.int .i64 A.k) (.int .i64 A.n) (.string A.s) (.slice o1 A.keys.length q1) (.slice o2 A.kids.length q2) (.int .i64 B.k) (.int .i64 B.n) (.string B.s) (.slice o3 B.keys.length q3) (.slice o4 B.kids.length q4) (.int .i64 C.k) (.int .i64 C.n) (.string C.s) (.slice o5 C.keys.length q5) (.slice o6 C.kids.length q6) HL2.out.2.2.1 (w := w) (fun y hy => by have := fC y hy; exact ⟨by omega, by omega, by omega⟩)
  simp only [S3, set5, Nat.zero_add] at hE lA lB lC
  have HE := Lib.hid (And.intro hE (And.intro lA (And.intro lB lC)))
  have HF := Lib.hid (And.intro (fun y hy => Nat.le_trans (Nat.le_add_right w.heap.size 3) (fA y hy)) (And.intro (fun y hy => Nat.le_trans (Nat.le_add_right w.heap.size 3) (fB y hy)) (fun y hy => Nat.le_trans (Nat.le_add_right w.heap.size 3) (fC y hy))))
  have hz := HL2.out.2.2.2
  clear hE lA lB lC fA fB fC g k0 k1 k2 HL HL2 h0 h1 h2 hbb HB h5z
  go_wp2
  go_region_law fail
  all_goals go_wp2
  all_goals exact bodyPost_ret (end3 Tryz.results5 rfl rfl rfl HE.out.1) rfl ⟨A, B, C, _, _, _, _, _, _, FA, FB, FC, rfl, HE.out.2.1.stay (below_drewN (Below.refl _ _) 1) (Nat.le_refl _), HE.out.2.2.1.stay (below_drewN (Below.refl _ _) 1) (Nat.le_refl _), HE.out.2.2.2.stay (below_drewN (Below.refl _ _) 1) (Nat.le_refl _), hz, below_drewN HE.out.1.2.2.2 1, HF.out⟩
end Go.Proofs.YtelpkcbbipianaaGreat
