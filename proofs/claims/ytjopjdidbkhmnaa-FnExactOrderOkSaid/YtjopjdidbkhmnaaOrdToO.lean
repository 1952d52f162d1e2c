/-
  What is proved: the laws' toOrder lays the same order into new memory.
-/
import Derived.Test.YtjopjdidbkhmnaaOrdTo
namespace Go.Proofs.Ytjopjdidbkhmnaa
open Go Go.RowKit

/-- Three blocks that a function laid, one behind the other. -/
structure O3 (w wr : World) (c0 c1 c2 : Array Value) (t0 t1 : TypeId) : Prop where
  below : Below w.heap.size w wr
  b0 : wr.heap[w.heap.size]? = some (.cells c0 t0 (0, 0))
  b1 : wr.heap[w.heap.size + 1]? = some (.cells c1 t1 (0, 0))
  b2 : wr.heap[w.heap.size + 1 + 1]? = some (.cells c2 t1 (0, 0))
  size : w.heap.size + 3 ≤ wr.heap.size

theorem O3.start (w : World) (c0 c1 c2 : Array Value) (t0 t1 : TypeId) : O3 w (((w.alloc (.cells c0 t0)).alloc (.cells c1 t1)).alloc (.cells c2 t1)) c0 c1 c2 t0 t1 := by
  obtain ⟨h0, h1, h2, h3, h4⟩ := three_new w (.cells c0 t0) (.cells c1 t1) (.cells c2 t1)
  exact ⟨h3, h0, h1, h2, by omega⟩

theorem O3.next {w wr w1 : World} {c0 c1 c2 : Array Value} {t0 t1 : TypeId} (h : O3 w wr c0 c1 c2 t0 t1) (hb : Below wr.heap.size wr w1) : O3 w w1 c0 c1 c2 t0 t1 :=
  have hs := h.size
  ⟨h.below.trans (hb.mono h.below.size), (hb.block _ (by omega)).trans h.b0, (hb.block _ (by omega)).trans h.b1, (hb.block _ (by omega)).trans h.b2, Nat.le_trans hs hb.size⟩

theorem O3.put {w wr : World} {c0 c1 c2 : Array Value} {t0 t1 : TypeId} (h : O3 w wr c0 c1 c2 t0 t1) (o : Nat) (v : Value) : O3 w (wr.setCell ⟨w.heap.size + 1 + 1, o, none⟩ v) c0 c1 (c2.setIfInBounds o v) t0 t1 :=
  ⟨h.below.setCell (by show _ ≤ w.heap.size + 1 + 1; omega) _, (Below.heap_setCell _ _ _ _ (by show _ ≠ w.heap.size + 1 + 1; omega)).trans h.b0, (Below.heap_setCell _ _ _ _ (by show _ ≠ w.heap.size + 1 + 1; omega)).trans h.b1, heap_set h.b2 o v, by have := h.size; simpa [World.setCell] using this⟩

theorem O3.cell2 {w wr : World} {c0 c1 c2 : Array Value} {t0 t1 : TypeId} (h : O3 w wr c0 c1 c2 t0 t1) (o : Nat) : wr.cell? ⟨w.heap.size + 1 + 1, o, none⟩ = c2[o]? := cell_of h.b2 o
theorem O3.cell1 {w wr : World} {c0 c1 c2 : Array Value} {t0 t1 : TypeId} (h : O3 w wr c0 c1 c2 t0 t1) (o : Nat) : wr.cell? ⟨w.heap.size + 1, o, none⟩ = c1[o]? := cell_of h.b1 o
theorem O3.cell0 {w wr : World} {c0 c1 c2 : Array Value} {t0 t1 : TypeId} (h : O3 w wr c0 c1 c2 t0 t1) (o : Nat) : wr.cell? ⟨w.heap.size, o, none⟩ = c0[o]? := cell_of h.b0 o
theorem O3.free2 {w wr : World} {c0 c1 c2 : Array Value} {t0 t1 : TypeId} (h : O3 w wr c0 c1 c2 t0 t1) (o : Nat) : wr.frozen? ⟨w.heap.size + 1 + 1, o, none⟩ = false := by simp [World.frozen?, h.b2]
theorem O3.free1 {w wr : World} {c0 c1 c2 : Array Value} {t0 t1 : TypeId} (h : O3 w wr c0 c1 c2 t0 t1) (o : Nat) : wr.frozen? ⟨w.heap.size + 1, o, none⟩ = false := by simp [World.frozen?, h.b1]

theorem setL_end (w : World) (b : Nat) (t : TypeId) (fz : Nat × Nat) (vs : List Value) : ∀ (pre : List Value) (cs : Array Value), w.heap[b]? = some (.cells cs t fz) → cs.size = pre.length + vs.length → cs.toList.take pre.length = pre → (setL w b pre.length vs).heap[b]? = some (.cells (pre ++ vs).toArray t fz) := by
  induction vs generalizing w with
  | nil =>
    intro pre cs h hs hp
    rw [setL, h]
    have : cs = (pre ++ []).toArray := by
      rw [List.append_nil, ← hp, List.take_of_length_le (by simp at hs ⊢; omega)]
    rw [← this]
  | cons v vs ih =>
    intro pre cs h hs hp
    rw [setL]
    have := ih (w.setCell ⟨b, pre.length, none⟩ v) (pre ++ [v]) (cs.setIfInBounds pre.length v) (heap_set h _ _) (by simpa using hs.trans (by simp; omega)) ?_
    · rw [show pre.length + 1 = (pre ++ [v]).length by simp, this]; simp
    · simp only [List.length_append, List.length_singleton, Array.toList_setIfInBounds]
      have hl : pre.length < cs.toList.length := by simp at hs ⊢; omega
      rw [List.take_succ_eq_append_getElem (by simpa using hl), List.take_set_of_le (Nat.le_refl _), hp]
      simp

theorem ret_order {fn : Func} {i : Nat} (hres : fn.results = #[ResultVar.cell i 48]) {tmps : Array Value} {w : World} {b : Nat} {t : TypeId} {a0 a1 a2 a3 a4 a5 a6 a7 a8 a9 : Value}
    (ht : tmps[i]?.getD undef = .pointer (some ⟨b, 0, none⟩)) (h : w.heap[b]? = some (.cells #[a0, a1, a2, a3, a4, a5, a6, a7, a8, a9] t (0, 0))) : (results fn tmps).run Try.prog w = .ok (.agg #[a0, a1, a2, a3, a4, a5, a6, a7, a8, a9]) w := by
  have c0 : w.cell? ⟨b, 0, none⟩ = some a0 := cell_of h 0
  have c1 : w.cell? ⟨b, 1, none⟩ = some a1 := cell_of h 1
  have c2 : w.cell? ⟨b, 2, none⟩ = some a2 := cell_of h 2
  have c3 : w.cell? ⟨b, 3, none⟩ = some a3 := cell_of h 3
  have c4 : w.cell? ⟨b, 4, none⟩ = some a4 := cell_of h 4
  have c5 : w.cell? ⟨b, 5, none⟩ = some a5 := cell_of h 5
  have c6 : w.cell? ⟨b, 6, none⟩ = some a6 := cell_of h 6
  have c7 : w.cell? ⟨b, 7, none⟩ = some a7 := cell_of h 7
  have c8 : w.cell? ⟨b, 8, none⟩ = some a8 := cell_of h 8
  have c9 : w.cell? ⟨b, 9, none⟩ = some a9 := cell_of h 9
  simp [results, hres, ht, go_sem, c0, c1, c2, c3, c4, c5, c6, c7, c8, c9]

set_option maxHeartbeats 2000000 in
theorem to_order {O : Ord} {mv nv : Value} {FM FN : List Nat} (w : World) (ho : OrdAt w O mv nv FM FN) (h1 : O.sz ≤ 1048576) :
    Calls Try.prog 23 #[.agg #[.string O.name, .string O.target, .int .i64 O.low, .int .i64 O.high, mv, .int .i64 O.pace.up, .int .i64 O.pace.down, .int .i64 O.pace.ups, .int .i64 O.pace.downs, nv]] w fun e w' =>
      ∃ m n FM' FN', e = .returned (.agg #[.string O.name, .string O.target, .int .i64 O.low, .int .i64 O.high, .slice (some ⟨m, 0, none⟩) O.mets.length O.mets.length, .int .i64 O.pace.up, .int .i64 O.pace.down, .int .i64 O.pace.ups, .int .i64 O.pace.downs, .slice (some ⟨n, 0, none⟩) O.notes.length O.notes.length]) ∧
        OrdAt w' O (.slice (some ⟨m, 0, none⟩) O.mets.length O.mets.length) (.slice (some ⟨n, 0, none⟩) O.notes.length O.notes.length) FM' FN' ∧ Fresh w w' (FM' ++ FN') ∧ Below w.heap.size w w' := by
  have hlm : O.mets.length ≤ 1048576 := by unfold Ord.sz at h1; omega
  have hln : O.notes.length ≤ 1048576 := by unfold Ord.sz at h1; omega
  have HX := Lib.hid (O3.start w #[.string O.name, .string O.target, .int .i64 O.low, .int .i64 O.high, mv, .int .i64 O.pace.up, .int .i64 O.pace.down, .int .i64 O.pace.ups, .int .i64 O.pace.downs, nv] #[.string ⟨#[]⟩, .string ⟨#[]⟩, .int .i64 0, .int .i64 0, .slice none 0 0, .int .i64 0, .int .i64 0, .int .i64 0, .int .i64 0, .slice none 0 0] #[.string O.name, .string O.target, .int .i64 O.low, .int .i64 O.high, .slice none 0 0, .int .i64 0, .int .i64 0, .int .i64 0, .int .i64 0, .slice none 0 0] 42 48)
  have HM := Lib.hid fun wr (hb : Below w.heap.size w wr) => to_mets wr (RowAt.stay ho.mets (by decide) hb (Nat.le_refl _)) hlm
  have HN := Lib.hid fun wr (hb : Below w.heap.size w wr) => to_nots wr (RowAt.stay ho.notes (by decide) hb (Nat.le_refl _)) hln
  have HO := Lib.hid ho
  obtain ⟨⟨o1, c1, rfl⟩, o2, c2, rfl⟩ := ho.slices
  clear ho h1
  go_enter Try.func23, Try.ntmps23
  go_wp2_with (first
    | (go_at_call 36; refine (HM.out _ HX.out.below).mono ?_; rintro e w1 ⟨F1, rfl, hm1, hf1, hF1, hb1⟩
       replace HX := Lib.hid (HX.out.next hb1)
       have HM1 := Lib.hid (And.intro hm1 (And.intro hf1 (And.intro hF1 hb1)))
       have x5 := HX.out.cell0 5; have x6 := HX.out.cell0 6; have x7 := HX.out.cell0 7; have x8 := HX.out.cell0 8
       have y4 := HX.out.cell2 4; have z4 := HX.out.free2 4
       clear hm1 hf1 hF1 hb1)
    | (go_at_call 16; refine (to_pace _ _ _ _ _).mono ?_; rintro e w2 ⟨rfl, hb2⟩
       have HB2 := Lib.hid hb2
       have HXb := Lib.hid ((HX.out.put 4 _).next hb2)
       have HXc := Lib.hid ((((HXb.out.put 5 (.int .i64 O.pace.up)).put 6 (.int .i64 O.pace.down)).put 7 (.int .i64 O.pace.ups)).put 8 (.int .i64 O.pace.downs))
       have y5 := HXb.out.cell2 5; have y6 := HXb.out.cell2 6; have y7 := HXb.out.cell2 7; have y8 := HXb.out.cell2 8
       have z5 := HXb.out.free2 5; have z6 := HXb.out.free2 6; have z7 := HXb.out.free2 7; have z8 := HXb.out.free2 8
       have x9 := HXc.out.cell0 9
       clear hb2 x5 x6 x7 x8 y4 z4)
    | (go_at_call 37; refine (HN.out _ HXc.out.below).mono ?_; rintro e w3 ⟨F3, rfl, hm3, hf3, hF3, hb3⟩
       have HN3 := Lib.hid (And.intro hm3 (And.intro hf3 (And.intro hF3 hb3)))
       have HXd := Lib.hid (HXc.out.next hb3)
       clear hm3 hf3 hF3 hb3 x9 y5 y6 y7 y8 z5 z6 z7 z8
       have y0 := HXd.out.cell2 0; have y1 := HXd.out.cell2 1; have y2 := HXd.out.cell2 2; have y3 := HXd.out.cell2 3; have y4 := HXd.out.cell2 4; have y5 := HXd.out.cell2 5; have y6 := HXd.out.cell2 6; have y7 := HXd.out.cell2 7; have y8 := HXd.out.cell2 8; have y9 := HXd.out.cell2 9
       have z9 := HXd.out.free2 9
       have r0 := HXd.out.cell1 0; have r1 := HXd.out.cell1 1; have r2 := HXd.out.cell1 2; have r3 := HXd.out.cell1 3; have r4 := HXd.out.cell1 4; have r5 := HXd.out.cell1 5; have r6 := HXd.out.cell1 6; have r7 := HXd.out.cell1 7; have r8 := HXd.out.cell1 8; have r9 := HXd.out.cell1 9
       have f0 := HXd.out.free1 0; have f1 := HXd.out.free1 1; have f2 := HXd.out.free1 2; have f3 := HXd.out.free1 3; have f4 := HXd.out.free1 4; have f5 := HXd.out.free1 5; have f6 := HXd.out.free1 6; have f7 := HXd.out.free1 7; have f8 := HXd.out.free1 8; have f9 := HXd.out.free1 9)
    | fail)
  clear y0 y1 y2 y3 y4 y5 y6 y7 y8 y9 r0 r1 r2 r3 r4 r5 r6 r7 r8 r9 f0 f1 f2 f3 f4 f5 f6 f7 f8 f9 z9
  obtain ⟨hm1, hf1, hF1, hb1⟩ := HM1.out
  obtain ⟨hm3, hf3, hF3, hb3⟩ := HN3.out
  simp only [World.size_setCell, World.size_alloc] at hm1 hf1 hF1 hb1 hm3 hf3 hF3 hb3
  have hb2 := HB2.out
  simp only [World.size_setCell] at hb2
  have hO := HO.out
  generalize hvs : ([.string O.name, .string O.target, .int .i64 O.low, .int .i64 O.high, .slice (some ⟨w.heap.size + 1 + 1 + 1, 0, none⟩) O.mets.length O.mets.length, .int .i64 O.pace.up, .int .i64 O.pace.down, .int .i64 O.pace.ups, .int .i64 O.pace.downs, .slice (some ⟨w2.heap.size, 0, none⟩) O.notes.length O.notes.length] : List Value) = vs
  have hend : (setL (w3.setCell ⟨w.heap.size + 1 + 1, 9, none⟩ (.slice (some ⟨w2.heap.size, 0, none⟩) O.notes.length O.notes.length)) (w.heap.size + 1) 0 vs).heap[w.heap.size + 1]? = some (.cells vs.toArray 48 (0, 0)) :=
    setL_end _ _ _ _ vs [] _ ((Below.heap_setCell _ _ _ _ (by show _ ≠ w.heap.size + 1 + 1; omega)).trans HXd.out.b1) (by subst hvs; rfl) rfl
  have hkeep : ∀ b, b ≠ w.heap.size + 1 → b ≠ w.heap.size + 1 + 1 → (setL (w3.setCell ⟨w.heap.size + 1 + 1, 9, none⟩ (.slice (some ⟨w2.heap.size, 0, none⟩) O.notes.length O.notes.length)) (w.heap.size + 1) 0 vs).heap[b]? = w3.heap[b]? := fun b n1 n2 => by
    rw [setL_other _ _ _ _ _ n1, Below.heap_setCell _ _ _ _ n2]
  have hW : Below w.heap.size w (setL (w3.setCell ⟨w.heap.size + 1 + 1, 9, none⟩ (.slice (some ⟨w2.heap.size, 0, none⟩) O.notes.length O.notes.length)) (w.heap.size + 1) 0 vs) := setL_below (HXd.out.put 9 _).below (by omega) _ _
  have q1 := hb1.size
  have q2 := hb2.size
  have q3 := hb3.size
  simp only [World.size_setCell, World.size_alloc] at q1 q2 q3
  have lt1 := RowAt.lt hm1 (by decide)
  have k1 : ∀ b ∈ F1, (setL (w3.setCell ⟨w.heap.size + 1 + 1, 9, none⟩ (.slice (some ⟨w2.heap.size, 0, none⟩) O.notes.length O.notes.length)) (w.heap.size + 1) 0 vs).heap[b]? = w1.heap[b]? := fun b hb => by
    have e := hF1 b hb
    have l := lt1 b hb
    rw [hkeep b (by omega) (by omega), hb3.block b (by omega)]
    repeat rw [Below.heap_setCell _ _ _ _ (by show _ ≠ w.heap.size + 1 + 1; omega)]
    rw [hb2.block b (by omega), Below.heap_setCell _ _ _ _ (by show _ ≠ w.heap.size + 1 + 1; omega)]
  have k3 : ∀ b ∈ F3, (setL (w3.setCell ⟨w.heap.size + 1 + 1, 9, none⟩ (.slice (some ⟨w2.heap.size, 0, none⟩) O.notes.length O.notes.length)) (w.heap.size + 1) 0 vs).heap[b]? = w3.heap[b]? := fun b hb => by
    have e := hF3 b hb
    exact hkeep b (by omega) (by omega)
  subst hvs
  refine bodyPost_ret (ret_order (t := 48) Try.results23 rfl hend) rfl ⟨_, _, F1, F3, rfl, ⟨hO.name, hO.target, hO.low, hO.high, hO.pace, RowAt.carry hm1 k1, RowAt.carry hm3 k3⟩, ?_, hW⟩
  exact ((hf1.carry k1).earlier (by simp only [World.size_alloc]; omega)).append (w1 := w1) lt1 ((hf3.carry k3).earlier (by simp only [World.size_setCell]; omega)) (by omega)
end Go.Proofs.Ytjopjdidbkhmnaa
