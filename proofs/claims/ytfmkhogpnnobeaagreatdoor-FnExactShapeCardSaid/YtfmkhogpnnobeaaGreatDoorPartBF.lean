/-
  What is proved: the laws' toOrder lays the same order into new memory.; the laws' eqMetricS, eqNoteS and eqOrder answer true of two that are the same.; for any order the program's PlainTree answers as the model's PlainTree does, in memory of its own, and the law returns true with its argument as it was; condition: the library's table of powers of ten starts as the program's text lays it.
-/
import Derived.Test.YtfmkhogpnnobeaaGreatDoorPartAW
import Derived.Test.YtfmkhogpnnobeaaGreatDoorPartAD
import Derived.Test.YtfmkhogpnnobeaaGreatDoorPartAA
import Derived.Test.YtfmkhogpnnobeaaGreatDoorPartAJ
import Derived.Test.YtfmkhogpnnobeaaGreatDoorPartAF
import Derived.Test.YtfmkhogpnnobeaaGreatDoorPartBC
import Derived.Test.YtfmkhogpnnobeaaGreatDoorPartBE
/- the laws' toOrder lays the same order into new memory. -/
namespace Go.Proofs.YtfmkhogpnnobeaaGreatDoor
open Go Go.RowKit

/-- Three blocks that a function laid, one behind the other. -/
structure O3 (w wr : World) (c0 c1 c2 : Array Value) (t0 t1 : TypeId) : Prop where
  below : Below w.heap.size w wr
  b0 : wr.heap[w.heap.size]? = some (.cells c0 t0 (0, 0))
  b1 : wr.heap[w.heap.size + 1]? = some (.cells c1 t1 (0, 0))
  b2 : wr.heap[w.heap.size + 1 + 1]? = some (.cells c2 t1 (0, 0))
  size : w.heap.size + 3 ≤ wr.heap.size

theorem O3.start (w : World) (c0 c1 c2 : Array Value) (t0 t1 : TypeId) : O3 w (((w.alloc (.cells c0 t0)).alloc (.cells c1 t1)).alloc (.cells c2 t1)) c0 c1 c2 t0 t1 := by
  obtain ⟨h0, h1, h2, h3, h4⟩ := three_new w (.cells c0 t0) (.cells c1 t1) (.cells c2 t1)
  exact ⟨h3, h0, h1, h2, by omega⟩

theorem O3.next {w wr w1 : World} {c0 c1 c2 : Array Value} {t0 t1 : TypeId} (h : O3 w wr c0 c1 c2 t0 t1) (hb : Below wr.heap.size wr w1) : O3 w w1 c0 c1 c2 t0 t1 :=
  have hs := h.size
  ⟨h.below.trans (hb.mono h.below.size), (hb.block _ (by omega)).trans h.b0, (hb.block _ (by omega)).trans h.b1, (hb.block _ (by omega)).trans h.b2, Nat.le_trans hs hb.size⟩

theorem O3.put {w wr : World} {c0 c1 c2 : Array Value} {t0 t1 : TypeId} (h : O3 w wr c0 c1 c2 t0 t1) (o : Nat) (v : Value) : O3 w (wr.setCell ⟨w.heap.size + 1 + 1, o, none⟩ v) c0 c1 (c2.setIfInBounds o v) t0 t1 :=
  ⟨h.below.setCell (by show _ ≤ w.heap.size + 1 + 1; omega) _, (Below.heap_setCell _ _ _ _ (by show _ ≠ w.heap.size + 1 + 1; omega)).trans h.b0, (Below.heap_setCell _ _ _ _ (by show _ ≠ w.heap.size + 1 + 1; omega)).trans h.b1, heap_set h.b2 o v, by have := h.size; simpa [World.setCell] using this⟩

theorem O3.cell2 {w wr : World} {c0 c1 c2 : Array Value} {t0 t1 : TypeId} (h : O3 w wr c0 c1 c2 t0 t1) (o : Nat) : wr.cell? ⟨w.heap.size + 1 + 1, o, none⟩ = c2[o]? := cell_of h.b2 o
theorem O3.cell1 {w wr : World} {c0 c1 c2 : Array Value} {t0 t1 : TypeId} (h : O3 w wr c0 c1 c2 t0 t1) (o : Nat) : wr.cell? ⟨w.heap.size + 1, o, none⟩ = c1[o]? := cell_of h.b1 o
theorem O3.cell0 {w wr : World} {c0 c1 c2 : Array Value} {t0 t1 : TypeId} (h : O3 w wr c0 c1 c2 t0 t1) (o : Nat) : wr.cell? ⟨w.heap.size, o, none⟩ = c0[o]? := cell_of h.b0 o
theorem O3.free2 {w wr : World} {c0 c1 c2 : Array Value} {t0 t1 : TypeId} (h : O3 w wr c0 c1 c2 t0 t1) (o : Nat) : wr.frozen? ⟨w.heap.size + 1 + 1, o, none⟩ = false := by simp [World.frozen?, h.b2]
theorem O3.free1 {w wr : World} {c0 c1 c2 : Array Value} {t0 t1 : TypeId} (h : O3 w wr c0 c1 c2 t0 t1) (o : Nat) : wr.frozen? ⟨w.heap.size + 1, o, none⟩ = false := by simp [World.frozen?, h.b1]

theorem setL_end (w : World) (b : Nat) (t : TypeId) (fz : Nat × Nat) (vs : List Value) : ∀ (pre : List Value) (cs : Array Value), w.heap[b]? = some (.cells cs t fz) → cs.size = pre.length + vs.length → cs.toList.take pre.length = pre → (setL w b pre.length vs).heap[b]? = some (.cells (pre ++ vs).toArray t fz) := by
  induction vs generalizing w with
  | nil =>
    intro pre cs h hs hp
    rw [setL, h]
    have : cs = (pre ++ []).toArray := by
      rw [List.append_nil, ← hp, List.take_of_length_le (by simp at hs ⊢; omega)]
    rw [← this]
  | cons v vs ih =>
    intro pre cs h hs hp
    rw [setL]
    have := ih (w.setCell ⟨b, pre.length, none⟩ v) (pre ++ [v]) (cs.setIfInBounds pre.length v) (heap_set h _ _) (by simpa using hs.trans (by simp; omega)) ?_
    · rw [show pre.length + 1 = (pre ++ [v]).length by simp, this]; simp
    · simp only [List.length_append, List.length_singleton, Array.toList_setIfInBounds]
      have hl : pre.length < cs.toList.length := by simp at hs ⊢; omega
      rw [List.take_succ_eq_append_getElem (by simpa using hl), List.take_set_of_le (Nat.le_refl _), hp]
      simp

theorem ret_order {fn : Func} {i : Nat} (hres : fn.results = #[ResultVar.cell i 38]) {tmps : Array Value} {w : World} {b : Nat} {t : TypeId} {a0 a1 a2 a3 a4 a5 a6 a7 a8 a9 : Value}
    (ht : tmps[i]?.getD undef = .pointer (some ⟨b, 0, none⟩)) (h : w.heap[b]? = some (.cells #[a0, a1, a2, a3, a4, a5, a6, a7, a8, a9] t (0, 0))) : (results fn tmps).run Tryz.prog w = .ok (.agg #[a0, a1, a2, a3, a4, a5, a6, a7, a8, a9]) w := by
  have c0 : w.cell? ⟨b, 0, none⟩ = some a0 := cell_of h 0
  have c1 : w.cell? ⟨b, 1, none⟩ = some a1 := cell_of h 1
  have c2 : w.cell? ⟨b, 2, none⟩ = some a2 := cell_of h 2
  have c3 : w.cell? ⟨b, 3, none⟩ = some a3 := cell_of h 3
  have c4 : w.cell? ⟨b, 4, none⟩ = some a4 := cell_of h 4
  have c5 : w.cell? ⟨b, 5, none⟩ = some a5 := cell_of h 5
  have c6 : w.cell? ⟨b, 6, none⟩ = some a6 := cell_of h 6
  have c7 : w.cell? ⟨b, 7, none⟩ = some a7 := cell_of h 7
  have c8 : w.cell? ⟨b, 8, none⟩ = some a8 := cell_of h 8
  have c9 : w.cell? ⟨b, 9, none⟩ = some a9 := cell_of h 9
  simp [results, hres, ht, go_sem, c0, c1, c2, c3, c4, c5, c6, c7, c8, c9]

set_option maxHeartbeats 2000000 in
theorem to_order {O : Ord} {mv nv : Value} {FM FN : List Nat} (w : World) (ho : OrdAt w O mv nv FM FN) (h1 : O.sz ≤ 1048576) :
    Calls Tryz.prog 8 #[.agg #[.string O.name, .string O.target, .int .i64 O.low, .int .i64 O.high, mv, .int .i64 O.pace.up, .int .i64 O.pace.down, .int .i64 O.pace.ups, .int .i64 O.pace.downs, nv]] w fun e w' =>
      ∃ m n FM' FN', e = .returned (.agg #[.string O.name, .string O.target, .int .i64 O.low, .int .i64 O.high, .slice (some ⟨m, 0, none⟩) O.mets.length O.mets.length, .int .i64 O.pace.up, .int .i64 O.pace.down, .int .i64 O.pace.ups, .int .i64 O.pace.downs, .slice (some ⟨n, 0, none⟩) O.notes.length O.notes.length]) ∧
        OrdAt w' O (.slice (some ⟨m, 0, none⟩) O.mets.length O.mets.length) (.slice (some ⟨n, 0, none⟩) O.notes.length O.notes.length) FM' FN' ∧ Fresh w w' (FM' ++ FN') ∧ Below w.heap.size w w' := by
  have hlm : O.mets.length ≤ 1048576 := by unfold Ord.sz at h1; omega
  have hln : O.notes.length ≤ 1048576 := by unfold Ord.sz at h1; omega
  have HX := Lib.hid (O3.start w #[.string O.name, .string O.target, .int .i64 O.low, .int .i64 O.high, mv, .int .i64 O.pace.up, .int .i64 O.pace.down, .int .i64 O.pace.ups, .int .i64 O.pace.downs, nv] #[.string ⟨#[]⟩, .string ⟨#[]⟩, .int .i64 0, .int .i64 0, .slice none 0 0, .int .i64 0, .int .i64 0, .int .i64 0, .int .i64 0, .slice none 0 0] #[.string O.name, .string O.target, .int .i64 O.low, .int .i64 O.high, .slice none 0 0, .int .i64 0, .int .i64 0, .int .i64 0, .int .i64 0, .slice none 0 0] 27 38)
  have HM := Lib.hid fun wr (hb : Below w.heap.size w wr) => to_mets wr (RowAt.stay ho.mets (by decide) hb (Nat.le_refl _)) hlm
  have HN := Lib.hid fun wr (hb : Below w.heap.size w wr) => to_nots wr (RowAt.stay ho.notes (by decide) hb (Nat.le_refl _)) hln
  have HO := Lib.hid ho
  obtain ⟨⟨o1, c1, rfl⟩, o2, c2, rfl⟩ := ho.slices
  clear ho h1
  go_enter Tryz.func8, Tryz.ntmps8
  go_wp2_with (first
    | (go_at_call 26; refine (HM.out _ HX.out.below).mono ?_; rintro e w1 ⟨F1, rfl, hm1, hf1, hF1, hb1⟩
       replace HX := Lib.hid (HX.out.next hb1)
       have HM1 := Lib.hid (And.intro hm1 (And.intro hf1 (And.intro hF1 hb1)))
       have x5 := HX.out.cell0 5; have x6 := HX.out.cell0 6; have x7 := HX.out.cell0 7; have x8 := HX.out.cell0 8
       have y4 := HX.out.cell2 4; have z4 := HX.out.free2 4
       clear hm1 hf1 hF1 hb1)
    | (go_at_call 27; refine (to_pace _ _ _ _ _).mono ?_; rintro e w2 ⟨rfl, hb2⟩
       have HB2 := Lib.hid hb2
       have HXb := Lib.hid ((HX.out.put 4 _).next hb2)
       have HXc := Lib.hid ((((HXb.out.put 5 (.int .i64 O.pace.up)).put 6 (.int .i64 O.pace.down)).put 7 (.int .i64 O.pace.ups)).put 8 (.int .i64 O.pace.downs))
       have y5 := HXb.out.cell2 5; have y6 := HXb.out.cell2 6; have y7 := HXb.out.cell2 7; have y8 := HXb.out.cell2 8
       have z5 := HXb.out.free2 5; have z6 := HXb.out.free2 6; have z7 := HXb.out.free2 7; have z8 := HXb.out.free2 8
       have x9 := HXc.out.cell0 9
       clear hb2 x5 x6 x7 x8 y4 z4)
    | (go_at_call 28; refine (HN.out _ HXc.out.below).mono ?_; rintro e w3 ⟨F3, rfl, hm3, hf3, hF3, hb3⟩
       have HN3 := Lib.hid (And.intro hm3 (And.intro hf3 (And.intro hF3 hb3)))
       have HXd := Lib.hid (HXc.out.next hb3)
       clear hm3 hf3 hF3 hb3 x9 y5 y6 y7 y8 z5 z6 z7 z8
       have y0 := HXd.out.cell2 0; have y1 := HXd.out.cell2 1; have y2 := HXd.out.cell2 2; have y3 := HXd.out.cell2 3; have y4 := HXd.out.cell2 4; have y5 := HXd.out.cell2 5; have y6 := HXd.out.cell2 6; have y7 := HXd.out.cell2 7; have y8 := HXd.out.cell2 8; have y9 := HXd.out.cell2 9
       have z9 := HXd.out.free2 9
       have r0 := HXd.out.cell1 0; have r1 := HXd.out.cell1 1; have r2 := HXd.out.cell1 2; have r3 := HXd.out.cell1 3; have r4 := HXd.out.cell1 4; have r5 := HXd.out.cell1 5; have r6 := HXd.out.cell1 6; have r7 := HXd.out.cell1 7; have r8 := HXd.out.cell1 8; have r9 := HXd.out.cell1 9
       have f0 := HXd.out.free1 0; have f1 := HXd.out.free1 1; have f2 := HXd.out.free1 2; have f3 := HXd.out.free1 3; have f4 := HXd.out.free1 4; have f5 := HXd.out.free1 5; have f6 := HXd.out.free1 6; have f7 := HXd.out.free1 7; have f8 := HXd.out.free1 8; have f9 := HXd.out.free1 9)
    | fail)
  clear y0 y1 y2 y3 y4 y5 y6 y7 y8 y9 r0 r1 r2 r3 r4 r5 r6 r7 r8 r9 f0 f1 f2 f3 f4 f5 f6 f7 f8 f9 z9
  obtain ⟨hm1, hf1, hF1, hb1⟩ := HM1.out
  obtain ⟨hm3, hf3, hF3, hb3⟩ := HN3.out
  simp only [World.size_setCell, World.size_alloc] at hm1 hf1 hF1 hb1 hm3 hf3 hF3 hb3
  have hb2 := HB2.out
  simp only [World.size_setCell] at hb2
  have hO := HO.out
  generalize hvs : ([.string O.name, .string O.target, .int .i64 O.low, .int .i64 O.high, .slice (some ⟨w.heap.size + 1 + 1 + 1, 0, none⟩) O.mets.length O.mets.length, .int .i64 O.pace.up, .int .i64 O.pace.down, .int .i64 O.pace.ups, .int .i64 O.pace.downs, .slice (some ⟨w2.heap.size, 0, none⟩) O.notes.length O.notes.length] : List Value) = vs
  have hend : (setL (w3.setCell ⟨w.heap.size + 1 + 1, 9, none⟩ (.slice (some ⟨w2.heap.size, 0, none⟩) O.notes.length O.notes.length)) (w.heap.size + 1) 0 vs).heap[w.heap.size + 1]? = some (.cells vs.toArray 38 (0, 0)) :=
    setL_end _ _ _ _ vs [] _ ((Below.heap_setCell _ _ _ _ (by show _ ≠ w.heap.size + 1 + 1; omega)).trans HXd.out.b1) (by subst hvs; rfl) rfl
  have hkeep : ∀ b, b ≠ w.heap.size + 1 → b ≠ w.heap.size + 1 + 1 → (setL (w3.setCell ⟨w.heap.size + 1 + 1, 9, none⟩ (.slice (some ⟨w2.heap.size, 0, none⟩) O.notes.length O.notes.length)) (w.heap.size + 1) 0 vs).heap[b]? = w3.heap[b]? := fun b n1 n2 => by
    rw [setL_other _ _ _ _ _ n1, Below.heap_setCell _ _ _ _ n2]
  have hW : Below w.heap.size w (setL (w3.setCell ⟨w.heap.size + 1 + 1, 9, none⟩ (.slice (some ⟨w2.heap.size, 0, none⟩) O.notes.length O.notes.length)) (w.heap.size + 1) 0 vs) := setL_below (HXd.out.put 9 _).below (by omega) _ _
  have q1 := hb1.size
  have q2 := hb2.size
  have q3 := hb3.size
  simp only [World.size_setCell, World.size_alloc] at q1 q2 q3
  have lt1 := RowAt.lt hm1 (by decide)
  have k1 : ∀ b ∈ F1, (setL (w3.setCell ⟨w.heap.size + 1 + 1, 9, none⟩ (.slice (some ⟨w2.heap.size, 0, none⟩) O.notes.length O.notes.length)) (w.heap.size + 1) 0 vs).heap[b]? = w1.heap[b]? := fun b hb => by
    have e := hF1 b hb
    have l := lt1 b hb
    rw [hkeep b (by omega) (by omega), hb3.block b (by omega)]
    repeat rw [Below.heap_setCell _ _ _ _ (by show _ ≠ w.heap.size + 1 + 1; omega)]
    rw [hb2.block b (by omega), Below.heap_setCell _ _ _ _ (by show _ ≠ w.heap.size + 1 + 1; omega)]
  have k3 : ∀ b ∈ F3, (setL (w3.setCell ⟨w.heap.size + 1 + 1, 9, none⟩ (.slice (some ⟨w2.heap.size, 0, none⟩) O.notes.length O.notes.length)) (w.heap.size + 1) 0 vs).heap[b]? = w3.heap[b]? := fun b hb => by
    have e := hF3 b hb
    exact hkeep b (by omega) (by omega)
  subst hvs
  refine bodyPost_ret (ret_order (t := 38) Tryz.results8 rfl hend) rfl ⟨_, _, F1, F3, rfl, ⟨hO.name, hO.target, hO.low, hO.high, hO.pace, RowAt.carry hm1 k1, RowAt.carry hm3 k3⟩, ?_, hW⟩
  exact ((hf1.carry k1).earlier (by simp only [World.size_alloc]; omega)).append (w1 := w1) lt1 ((hf3.carry k3).earlier (by simp only [World.size_setCell]; omega)) (by omega)
end Go.Proofs.YtfmkhogpnnobeaaGreatDoor

/- the laws' eqMetricS, eqNoteS and eqOrder answer true of two that are the same. -/
namespace Go.Proofs.YtfmkhogpnnobeaaGreatDoor
open Go Go.RowKit


set_option maxHeartbeats 1000000 in
theorem eq_met (x : Met) (w : World) : Calls Tryz.prog 79 #[.agg #[.string x.name, .int .i64 x.kind, .int .i64 x.goal], .agg #[.string x.name, .int .i64 x.kind, .int .i64 x.goal]] w fun e w' => e = .returned (.bool true) ∧ Below w.heap.size w w' := by
  have HB : Hid (∀ o o', Below w.heap.size w ((w.alloc o).alloc o')) := fun o o' => ((Below.refl _ w).alloc (Nat.le_refl _) o).alloc (by simp) o'
  go_enter Tryz.func79, Tryz.ntmps79
  go_wp2
  go_ret
  exact ⟨rfl, HB.out _ _⟩

set_option maxHeartbeats 1000000 in
theorem eq_mets {v v' : Value} {xs : List Met} {F F' : List Nat} (w : World) (hs : MetsAt w v xs F) (hs' : MetsAt w v' xs F') :
    Calls Tryz.prog 33 #[v, v'] w fun e w' => e = .returned (.bool true) ∧ Below w.heap.size w w' := by
  obtain ⟨o, cap, b, off, rfl, hlc, hcm, ho, -, hcell, -⟩ := hs
  obtain ⟨o', cap', b', off', rfl, hlc', hcm', ho', -, hcell', -⟩ := hs'
  have HC := Lib.hid hcell
  have HO := Lib.hid ho
  have HC' := Lib.hid hcell'
  have HO' := Lib.hid ho'
  clear hcell ho hcell' ho'
  unfold maxLen at hcm hcm'
  go_enter Tryz.func33, Tryz.ntmps33
  go_wp2
  go_loopw [5] (fun i wr => ∃ k : Nat, k ≤ xs.length ∧ i = .int .i64 k ∧ Below w.heap.size w wr) (fun i _ => xs.length - (intOf i).toNat)
  case atStart => exact ⟨0, Nat.zero_le _, rfl, Below.refl _ _⟩
  case round =>
    obtain ⟨k, hk, rfl, hb⟩ := hrel
    have HB := Lib.hid hb
    by_cases hlt : k < xs.length
    · have ho := HO.out (by omega)
      have ho' := HO'.out (by omega)
      subst ho ho'
      have c0 : wr.cell? ⟨b, off + k * 3, none⟩ = some (.string xs[k].name) := by
        have := (HC.out k hlt).2 0 (by decide)
        rw [hb.cell (by exact World.block_lt_of_cell? _ _ this)]; exact this
      have c1 : wr.cell? ⟨b, off + k * 3 + 1, none⟩ = some (.int .i64 xs[k].kind) := by
        have := (HC.out k hlt).2 1 (by decide)
        rw [hb.cell (by exact World.block_lt_of_cell? _ _ this)]; exact this
      have c2 : wr.cell? ⟨b, off + k * 3 + 2, none⟩ = some (.int .i64 xs[k].goal) := by
        have := (HC.out k hlt).2 2 (by decide)
        rw [hb.cell (by exact World.block_lt_of_cell? _ _ this)]; exact this
      have d0 : wr.cell? ⟨b', off' + k * 3, none⟩ = some (.string xs[k].name) := by
        have := (HC'.out k hlt).2 0 (by decide)
        rw [hb.cell (by exact World.block_lt_of_cell? _ _ this)]; exact this
      have d1 : wr.cell? ⟨b', off' + k * 3 + 1, none⟩ = some (.int .i64 xs[k].kind) := by
        have := (HC'.out k hlt).2 1 (by decide)
        rw [hb.cell (by exact World.block_lt_of_cell? _ _ this)]; exact this
      have d2 : wr.cell? ⟨b', off' + k * 3 + 2, none⟩ = some (.int .i64 xs[k].goal) := by
        have := (HC'.out k hlt).2 2 (by decide)
        rw [hb.cell (by exact World.block_lt_of_cell? _ _ this)]; exact this
      clear hb
      generalize xs[k] = x at *
      go_wp2
      go_region_with (first | (go_at_call 79; refine (eq_met _ _).mono ?_; rintro e w1 ⟨rfl, hb1⟩))
      all_goals go_wp2
      all_goals exact ⟨⟨k + 1, by omega, by go_num, (below_drewN HB.out 1).trans (hb1.mono (below_drewN HB.out 1).size)⟩, by simp [intOf]; omega⟩
    · go_wp2
      go_ret
      exact ⟨rfl, HB.out⟩


set_option maxHeartbeats 1000000 in
theorem eq_not (x : Not) (w : World) : Calls Tryz.prog 80 #[.agg #[.string x.key, .string x.text], .agg #[.string x.key, .string x.text]] w fun e w' => e = .returned (.bool true) ∧ Below w.heap.size w w' := by
  have HB : Hid (∀ o o', Below w.heap.size w ((w.alloc o).alloc o')) := fun o o' => ((Below.refl _ w).alloc (Nat.le_refl _) o).alloc (by simp) o'
  go_enter Tryz.func80, Tryz.ntmps80
  go_wp2
  go_ret
  exact ⟨rfl, HB.out _ _⟩

set_option maxHeartbeats 1000000 in
theorem eq_nots {v v' : Value} {xs : List Not} {F F' : List Nat} (w : World) (hs : NotsAt w v xs F) (hs' : NotsAt w v' xs F') :
    Calls Tryz.prog 35 #[v, v'] w fun e w' => e = .returned (.bool true) ∧ Below w.heap.size w w' := by
  obtain ⟨o, cap, b, off, rfl, hlc, hcm, ho, -, hcell, -⟩ := hs
  obtain ⟨o', cap', b', off', rfl, hlc', hcm', ho', -, hcell', -⟩ := hs'
  have HC := Lib.hid hcell
  have HO := Lib.hid ho
  have HC' := Lib.hid hcell'
  have HO' := Lib.hid ho'
  clear hcell ho hcell' ho'
  unfold maxLen at hcm hcm'
  go_enter Tryz.func35, Tryz.ntmps35
  go_wp2
  go_loopw [5] (fun i wr => ∃ k : Nat, k ≤ xs.length ∧ i = .int .i64 k ∧ Below w.heap.size w wr) (fun i _ => xs.length - (intOf i).toNat)
  case atStart => exact ⟨0, Nat.zero_le _, rfl, Below.refl _ _⟩
  case round =>
    obtain ⟨k, hk, rfl, hb⟩ := hrel
    have HB := Lib.hid hb
    by_cases hlt : k < xs.length
    · have ho := HO.out (by omega)
      have ho' := HO'.out (by omega)
      subst ho ho'
      have c0 : wr.cell? ⟨b, off + k * 2, none⟩ = some (.string xs[k].key) := by
        have := (HC.out k hlt).2 0 (by decide)
        rw [hb.cell (by exact World.block_lt_of_cell? _ _ this)]; exact this
      have c1 : wr.cell? ⟨b, off + k * 2 + 1, none⟩ = some (.string xs[k].text) := by
        have := (HC.out k hlt).2 1 (by decide)
        rw [hb.cell (by exact World.block_lt_of_cell? _ _ this)]; exact this
      have d0 : wr.cell? ⟨b', off' + k * 2, none⟩ = some (.string xs[k].key) := by
        have := (HC'.out k hlt).2 0 (by decide)
        rw [hb.cell (by exact World.block_lt_of_cell? _ _ this)]; exact this
      have d1 : wr.cell? ⟨b', off' + k * 2 + 1, none⟩ = some (.string xs[k].text) := by
        have := (HC'.out k hlt).2 1 (by decide)
        rw [hb.cell (by exact World.block_lt_of_cell? _ _ this)]; exact this
      clear hb
      generalize xs[k] = x at *
      go_wp2
      go_region_with (first | (go_at_call 80; refine (eq_not _ _).mono ?_; rintro e w1 ⟨rfl, hb1⟩))
      all_goals go_wp2
      all_goals exact ⟨⟨k + 1, by omega, by go_num, (below_drewN HB.out 1).trans (hb1.mono (below_drewN HB.out 1).size)⟩, by simp [intOf]; omega⟩
    · go_wp2
      go_ret
      exact ⟨rfl, HB.out⟩


set_option maxHeartbeats 1000000 in
theorem eq_order {O : Ord} {mv nv mv' nv' : Value} {FM FN FM' FN' : List Nat} (w : World) (ho : OrdAt w O mv nv FM FN) (ho' : OrdAt w O mv' nv' FM' FN') :
    Calls Tryz.prog 11 #[.agg #[.string O.name, .string O.target, .int .i64 O.low, .int .i64 O.high, mv, .int .i64 O.pace.up, .int .i64 O.pace.down, .int .i64 O.pace.ups, .int .i64 O.pace.downs, nv], .agg #[.string O.name, .string O.target, .int .i64 O.low, .int .i64 O.high, mv', .int .i64 O.pace.up, .int .i64 O.pace.down, .int .i64 O.pace.ups, .int .i64 O.pace.downs, nv']] w fun e w' => e = .returned (.bool true) ∧ Below w.heap.size w w' := by
  have HX := Lib.hid ((Bx.start w #[.string O.name, .string O.target, .int .i64 O.low, .int .i64 O.high, mv, .int .i64 O.pace.up, .int .i64 O.pace.down, .int .i64 O.pace.ups, .int .i64 O.pace.downs, nv] 38).alloc (.cells #[.string O.name, .string O.target, .int .i64 O.low, .int .i64 O.high, mv', .int .i64 O.pace.up, .int .i64 O.pace.down, .int .i64 O.pace.ups, .int .i64 O.pace.downs, nv'] 38))
  have HY := Lib.hid ((Bx.start w #[.string O.name, .string O.target, .int .i64 O.low, .int .i64 O.high, mv, .int .i64 O.pace.up, .int .i64 O.pace.down, .int .i64 O.pace.ups, .int .i64 O.pace.downs, nv] 38).add #[.string O.name, .string O.target, .int .i64 O.low, .int .i64 O.high, mv', .int .i64 O.pace.up, .int .i64 O.pace.down, .int .i64 O.pace.ups, .int .i64 O.pace.downs, nv'] 38)
  have HM := Lib.hid fun wr (hb : Below w.heap.size w wr) => eq_mets wr (RowAt.stay ho.mets (by decide) hb (Nat.le_refl _)) (RowAt.stay ho'.mets (by decide) hb (Nat.le_refl _))
  have HN := Lib.hid fun wr (hb : Below w.heap.size w wr) => eq_nots wr (RowAt.stay ho.notes (by decide) hb (Nat.le_refl _)) (RowAt.stay ho'.notes (by decide) hb (Nat.le_refl _))
  obtain ⟨⟨o1, c1, rfl⟩, o2, c2, rfl⟩ := ho.slices
  obtain ⟨⟨o3, c3, rfl⟩, o4, c4, rfl⟩ := ho'.slices
  simp only [World.size_alloc] at HY
  clear ho ho'
  go_enter Tryz.func11, Tryz.ntmps11
  go_wp2_with (first
    | (go_at_call 33; refine (HM.out _ HX.out.below).mono ?_; rintro e w1 ⟨rfl, hb⟩
       replace HX := Lib.hid (HX.out.next hb); replace HY := Lib.hid (HY.out.next hb)
       have x5 := HX.out.cell 5; have x6 := HX.out.cell 6; have x7 := HX.out.cell 7; have x8 := HX.out.cell 8
       have y5 := HY.out.cell 5; have y6 := HY.out.cell 6; have y7 := HY.out.cell 7; have y8 := HY.out.cell 8
       clear hb)
    | (go_at_call 34; refine (eq_pace _ _ _ _ _).mono ?_; rintro e w2 ⟨rfl, hb⟩
       replace HX := Lib.hid (HX.out.next hb); replace HY := Lib.hid (HY.out.next hb)
       have x9 := HX.out.cell 9
       have y9 := HY.out.cell 9
       clear hb)
    | (go_at_call 35; refine (HN.out _ HX.out.below).mono ?_; rintro e w3 ⟨rfl, hb⟩
       replace HX := Lib.hid (HX.out.next hb)
       clear hb)
    | fail)
  go_ret
  exact ⟨rfl, HX.out.below⟩
end Go.Proofs.YtfmkhogpnnobeaaGreatDoor

/- for any order the program's PlainTree answers as the model's PlainTree does, in memory of its own, and the law returns true with its argument as it was; condition: the library's table of powers of ten starts as the program's text lays it. -/
namespace Go.Proofs.YtfmkhogpnnobeaaGreatDoor
open Go Go.RowKit

/-- What PlainTree answers. -/
noncomputable def ansP (O : Ord) : RT := if O.okB = true then plainT O else .node 0 0 ⟨#[]⟩ [] []

theorem ansP_sz {O : Ord} : (ansP O).sz ≤ 1000000 := by
  unfold ansP
  split
  · rename_i h
    have a := plainT_sz h
    omega
  · have k : (⟨#[]⟩ : ByteArray).size = 0 := rfl
    simp only [RT.sz, szAll, strSz, k, List.length_nil, List.map_nil, List.sum_nil]
    omega

theorem impl_plain_ {O : Ord} {mv nv : Value} {FM FN : List Nat} (w : World) (ho : OrdAt w O mv nv FM FN) (htab : Lib.TabIs Tryz.prog w "internal/strconv.uint64pow10" .u64 Lib.pow10Tab) :
    Calls Tryz.prog 16 #[.agg #[.string O.name, .string O.target, .int .i64 O.low, .int .i64 O.high, mv, .int .i64 O.pace.up, .int .i64 O.pace.down, .int .i64 O.pace.ups, .int .i64 O.pace.downs, nv]] w fun e w' => ∃ kv dv F, e = .returned (.agg #[.int .i64 (ansP O).k, .int .i64 (ansP O).n, .string (ansP O).s, kv, dv]) ∧ Lies w' (ansP O) kv dv F ∧ Fresh w w' F ∧ Below w.heap.size w w' := by
  by_cases hc : O.okB = true
  · have e : ansP O = plainT O := if_pos hc
    rw [e]
    exact impl_plainTree_yes w ho hc htab
  · have e : ansP O = .node 0 0 ⟨#[]⟩ [] [] := if_neg hc
    rw [e]
    refine (impl_plainTree_no w ho (by simpa using hc)).mono ?_
    rintro e w' ⟨rfl, hb⟩
    exact ⟨_, _, [], rfl, leaf_lies w' ⟨by decide, by decide⟩ ⟨by decide, by decide⟩ (by decide), Fresh.nil _ _, hb⟩

theorem spec_plain_ {O : Ord} {mv nv : Value} {FM FN : List Nat} (w : World) (ho : OrdAt w O mv nv FM FN) :
    Calls Tryz.prog 15 #[.agg #[.string O.name, .string O.target, .int .i64 O.low, .int .i64 O.high, mv, .int .i64 O.pace.up, .int .i64 O.pace.down, .int .i64 O.pace.ups, .int .i64 O.pace.downs, nv]] w fun e w' => ∃ kv dv F, e = .returned (.agg #[.int .i64 (ansP O).k, .int .i64 (ansP O).n, .string (ansP O).s, kv, dv]) ∧ Lies w' (ansP O) kv dv F ∧ Fresh w w' F ∧ Below w.heap.size w w' := by
  by_cases hc : O.okB = true
  · have e : ansP O = plainT O := if_pos hc
    rw [e]
    exact spec_plainTree_yes w ho hc
  · have e : ansP O = .node 0 0 ⟨#[]⟩ [] [] := if_neg hc
    rw [e]
    refine (spec_plainTree_no w ho (by simpa using hc)).mono ?_
    rintro e w' ⟨rfl, hb⟩
    exact ⟨_, _, [], rfl, leaf_lies w' ⟨by decide, by decide⟩ ⟨by decide, by decide⟩ (by decide), Fresh.nil _ _, hb⟩

set_option maxRecDepth 100000 in
set_option maxHeartbeats 16000000 in
theorem plainTree_walk (A : Ord) (mvA nvA : Value) (FMA FNA : List Nat) (w : World) (hA : OrdAt w A mvA nvA FMA FNA) (htab : Lib.TabIs Tryz.prog w "internal/strconv.uint64pow10" .u64 Lib.pow10Tab) :
    Calls Tryz.prog 4 #[.agg #[.string A.name, .string A.target, .int .i64 A.low, .int .i64 A.high, mvA, .int .i64 A.pace.up, .int .i64 A.pace.down, .int .i64 A.pace.ups, .int .i64 A.pace.downs, nvA]] w fun e w' => e = .returned (.bool true) ∧ Below w.heap.size w w' := by
  have SA := Lib.hid fun (wr : World) (hb : Below w.heap.size w wr) => sz_order wr (hA.stay hb (Nat.le_refl _)) 1048576 (by omega) (by omega)
  have HX := Lib.hid (Bx.start w #[.string A.name, .string A.target, .int .i64 A.low, .int .i64 A.high, mvA, .int .i64 A.pace.up, .int .i64 A.pace.down, .int .i64 A.pace.ups, .int .i64 A.pace.downs, nvA] 27)
  by_cases hsA : (A.sz : Int) ≤ 1048576
  case neg =>
    clear hA htab
    go_enter Tryz.func4, Tryz.ntmps4
    go_wp2_with (first
      | (go_at_call 6; refine (SA.out _ HX.out.below).mono ?_; rintro e w1 ⟨rfl, hb1⟩; rw [left_no hsA]; replace HX := Lib.hid (HX.out.next hb1); clear hb1)
      | fail)
    go_ret
    exact ⟨rfl, HX.out.below⟩
  have hsz : A.sz ≤ 1048576 := by omega
  have TA := Lib.hid fun (wr : World) (hb : Below w.heap.size w wr) => to_order wr (hA.stay hb (Nat.le_refl _)) hsz
  have HT := Lib.hid (Lib.tabBelow_of_tabIs htab)
  have HS : Hid (∀ (W : World) (m n : Value) (F F' : List Nat), OrdAt W A m n F F' → Calls Tryz.prog 15 #[.agg #[.string A.name, .string A.target, .int .i64 A.low, .int .i64 A.high, m, .int .i64 A.pace.up, .int .i64 A.pace.down, .int .i64 A.pace.ups, .int .i64 A.pace.downs, n]] W fun e w' => ∃ kv dv F, e = .returned (.agg #[.int .i64 (ansP A).k, .int .i64 (ansP A).n, .string (ansP A).s, kv, dv]) ∧ Lies w' (ansP A) kv dv F ∧ Fresh W w' F ∧ Below W.heap.size W w') := fun W m n F F' h => spec_plain_ W h
  have HI : Hid (∀ (W : World) (m n : Value) (F F' : List Nat), OrdAt W A m n F F' → Below w.heap.size w W → Calls Tryz.prog 16 #[.agg #[.string A.name, .string A.target, .int .i64 A.low, .int .i64 A.high, m, .int .i64 A.pace.up, .int .i64 A.pace.down, .int .i64 A.pace.ups, .int .i64 A.pace.downs, n]] W fun e w' => ∃ kv dv F, e = .returned (.agg #[.int .i64 (ansP A).k, .int .i64 (ansP A).n, .string (ansP A).s, kv, dv]) ∧ Lies w' (ansP A) kv dv F ∧ Fresh W w' F ∧ Below W.heap.size W w') := fun W m n F F' h hW => impl_plain_ W h (HT.out _ hW)
  have HLn : Hid (A.mets.length ≤ 1048576 ∧ A.notes.length ≤ 1048576) := by unfold Ord.sz at hsz; exact ⟨by omega, by omega⟩
  have hcnt : 1 + (ansP A).cnt ≤ 1000000000 := by have := cnt_sz (ansP A); have := @ansP_sz A; omega
  have HCn := Lib.hid hcnt
  generalize ansP A = T at *
  have hlo := left_ok hsA
  have hp : (0 : Int) ≤ 1048576 - (A.sz : Int) := by omega
  clear hA htab hcnt
  have t1 : True := trivial
  go_enter Tryz.func4, Tryz.ntmps4
  go_wp2_with fail
  refine (SA.out _ HX.out.below).mono ?_
  rintro e w1 ⟨rfl, hb⟩
  rw [hlo]
  replace HX := Lib.hid (HX.out.next hb)
  clear hb hlo
  generalize 1048576 - (A.sz : Int) = SS at *
  have x0 := HX.out.cell 0
  have x1 := HX.out.cell 1
  have x2 := HX.out.cell 2
  have x3 := HX.out.cell 3
  have x4 := HX.out.cell 4
  have x5 := HX.out.cell 5
  have x6 := HX.out.cell 6
  have x7 := HX.out.cell 7
  have x8 := HX.out.cell 8
  have x9 := HX.out.cell 9
  go_wp2_with fail
  refine (TA.out _ HX.out.below).mono ?_
  rintro e w2 ⟨m1, n1, F1, F1', rfl, hl1, -, hb⟩
  have HL1 := Lib.hid hl1
  replace HX := Lib.hid (HX.out.next hb)
  clear hl1 hb x0 x1 x2 x3 x4 x5 x6 x7 x8 x9
  go_wp2_with fail
  refine (HS.out _ _ _ _ _ HL1.out).mono ?_
  rintro e w3 ⟨kW, dW, FW, rfl, hlW, hfW, hb3⟩
  obtain ⟨⟨oW, cW, rfl⟩, ⟨pW, qW, rfl⟩⟩ := hlW.slices
  have hbx3 := (Below.refl _ w3).alloc (Nat.le_refl _) (.cells #[.int .i64 T.k, .int .i64 T.n, .string T.s, .slice oW T.keys.length cW, .slice pW T.kids.length qW] 32)
  have HW := Lib.hid (And.intro (hlW.stay hbx3 (Nat.le_refl _)) (And.intro (heap_last w3 (.cells #[.int .i64 T.k, .int .i64 T.n, .string T.s, .slice oW T.keys.length cW, .slice pW T.kids.length qW] 32)) hlW.lt))
  have HB03 : Hid (w.heap.size ≤ w3.heap.size) := (HX.out.next hb3).below.size
  replace HX := Lib.hid ((HX.out.next hb3).next hbx3)
  have x0 := HX.out.cell 0
  have x1 := HX.out.cell 1
  have x2 := HX.out.cell 2
  have x3 := HX.out.cell 3
  have x4 := HX.out.cell 4
  have x5 := HX.out.cell 5
  have x6 := HX.out.cell 6
  have x7 := HX.out.cell 7
  have x8 := HX.out.cell 8
  have x9 := HX.out.cell 9
  clear hlW hfW hb3 hbx3 HL1
  go_wp2_with fail
  refine (TA.out _ HX.out.below).mono ?_
  rintro e w4 ⟨m3, n3, F3, F3', rfl, hl3, hf3, hb⟩
  have hbx4 := (Below.refl _ w4).alloc (Nat.le_refl _) (.cells #[.string A.name, .string A.target, .int .i64 A.low, .int .i64 A.high, .slice (some ⟨m3, 0, none⟩) A.mets.length A.mets.length, .int .i64 A.pace.up, .int .i64 A.pace.down, .int .i64 A.pace.ups, .int .i64 A.pace.downs, .slice (some ⟨n3, 0, none⟩) A.notes.length A.notes.length] 38)
  have HL3 := Lib.hid (And.intro (hl3.stay hbx4 (Nat.le_refl _)) (fun b hb' o => (hbx4.frozen (by rcases List.mem_append.1 hb' with h | h; exact RowAt.lt hl3.mets (by decide) b h; exact RowAt.lt hl3.notes (by decide) b h)).trans (hf3.free b hb' o)))
  have HF3 : Hid ((∀ x ∈ F3 ++ F3', w3.heap.size < x ∧ x < w4.heap.size) ∧ (∀ b ∈ F3', b ∉ F3)) := by
    refine ⟨fun x hx => ⟨by have := hf3.old x hx; simp at this; omega, by rcases List.mem_append.1 hx with h | h; exact RowAt.lt hl3.mets (by decide) x h; exact RowAt.lt hl3.notes (by decide) x h⟩, fun b hb1 hb2 => (List.nodup_append.1 hf3.nodup).2.2 b hb2 b hb1 rfl⟩
  have X0 := Lib.hid (Bx.start w4 #[.string A.name, .string A.target, .int .i64 A.low, .int .i64 A.high, .slice (some ⟨m3, 0, none⟩) A.mets.length A.mets.length, .int .i64 A.pace.up, .int .i64 A.pace.down, .int .i64 A.pace.ups, .int .i64 A.pace.downs, .slice (some ⟨n3, 0, none⟩) A.notes.length A.notes.length] 38)
  have HW4 : Hid (Lies w4 T (.slice oW T.keys.length cW) (.slice pW T.kids.length qW) FW ∧ w4.heap[w3.heap.size]? = some (.cells #[.int .i64 T.k, .int .i64 T.n, .string T.s, .slice oW T.keys.length cW, .slice pW T.kids.length qW] 32 (0, 0)) ∧ (∀ x ∈ FW, x < w3.heap.size)) := ⟨HW.out.1.stay hb (Nat.le_refl _), (hb.block _ (by simp)).trans HW.out.2.1, HW.out.2.2⟩
  replace HX := Lib.hid ((HX.out.next hb).next hbx4)
  replace HW := Lib.hid (And.intro (HW4.out.1.stay hbx4 (Nat.le_refl _)) (And.intro (blk_next HW4.out.2.1 hbx4) HW4.out.2.2))
  clear hl3 hf3 hb hbx4 HW4 x0 x1 x2 x3 x4 x5 x6 x7 x8 x9
  go_wp2_with fail
  refine (HI.out _ _ _ _ _ HL3.out.1 HX.out.below).mono ?_
  rintro e w5 ⟨kG, dG, FG, rfl, hlG, hfG, hb5⟩
  obtain ⟨⟨oG, cG, rfl⟩, ⟨pG, qG, rfl⟩⟩ := hlG.slices
  have hbx5 := (Below.refl _ w5).alloc (Nat.le_refl _) (.cells #[.int .i64 T.k, .int .i64 T.n, .string T.s, .slice oG T.keys.length cG, .slice pG T.kids.length qG] 32)
  have hb45 := hb5.trans (hbx5.mono hb5.size)
  have hsz5 : w4.heap.size + 1 ≤ w5.heap.size := by have := hb5.size; simp at this; exact this
  have H5z := Lib.hid hsz5
  have hw34 : w3.heap.size < w4.heap.size + 1 := by have := (Array.getElem?_eq_some_iff.1 HW.out.2.1).1; simp at this; omega
  have hoG : ∀ x ∈ FG, w4.heap.size + 1 ≤ x := fun x hx => by have := hfG.old x hx; simp at this; exact this
  have HGS : Hid (GState w (w5.alloc (.cells #[.int .i64 T.k, .int .i64 T.n, .string T.s, .slice oG T.keys.length cG, .slice pG T.kids.length qG] 32)) T T (.slice oW T.keys.length cW) (.slice pW T.kids.length qW) (.slice oG T.keys.length cG) (.slice pG T.kids.length qG) w3.heap.size w5.heap.size FW FG) := by
    refine ⟨HX.out.below.trans (hb45.mono HX.out.below.size), (hb45.block _ (by simp; omega)).trans HW.out.2.1, heap_last w5 _, HW.out.1.stay hb45 (Nat.le_refl _), hlG.stay hbx5 (Nat.le_refl _), hfG.nodup, fun b hb o => (hbx5.frozen (by exact hlG.lt b hb)).trans (hfG.free b hb o), ⟨fun hx => ?_, fun hx => ?_, fun x hx hx' => ?_⟩, fun x hx => ?_⟩
    · have := hoG _ hx; omega
    · have := hlG.lt _ hx; omega
    · have := hoG _ hx'; have := HW.out.2.2 x hx; omega
    · have := hoG _ hx; have := HX.out.below.size; simp at this; omega
  have HXb : Hid (∀ x ∈ FG, x ≠ w.heap.size) := fun x hx e => by have := hoG x hx; have := (Array.getElem?_eq_some_iff.1 HX.out.blk).1; simp at this; omega
  have HAp : Hid (w3.heap.size ∉ F3 ++ F3' ∧ w5.heap.size ∉ F3 ++ F3' ∧ (∀ x ∈ FW, x ∉ F3 ++ F3') ∧ (∀ x ∈ FG, x ∉ F3 ++ F3') ∧ (∀ x ∈ F3 ++ F3', w.heap.size < x)) := by
    refine ⟨fun hx => ?_, fun hx => ?_, fun x hx hx' => ?_, fun x hx hx' => ?_, fun x hx => ?_⟩
    · have := (HF3.out.1 _ hx).1; omega
    · have := (HF3.out.1 _ hx).2; omega
    · have := (HF3.out.1 _ hx').1; have := HW.out.2.2 x hx; omega
    · have := (HF3.out.1 _ hx').2; have := hoG x hx; omega
    · have := (HF3.out.1 _ hx).1; have := HB03.out; omega
  replace HX := Lib.hid (HX.out.next hb45)
  replace X0 := Lib.hid (X0.out.next hb45)
  replace HL3 := Lib.hid (And.intro (HL3.out.1.stay hb45 (Nat.le_refl _)) (fun b hb o => (hb45.frozen (by have := (HF3.out.1 b hb).2; show b < _; simp; omega)).trans (HL3.out.2 b hb o)))
  clear hlG hfG hb5 hbx5 hb45 HW hsz5 hw34 hoG
  obtain ⟨g0, g1, g2, g3, g4, -⟩ := five HGS.out.boxW
  go_wp2_with fail
  refine (eq_node T _ _ _ _ HGS.out.lieG _ _ _ _ HGS.out.lieW).mono ?_
  rintro e w6 ⟨rfl, hb⟩
  rw [same_yes rfl]
  replace HGS := Lib.hid (HGS.out.next hb)
  replace HX := Lib.hid (HX.out.next hb)
  replace X0 := Lib.hid (X0.out.next hb)
  replace HL3 := Lib.hid (And.intro (HL3.out.1.stay hb (Nat.le_refl _)) (fun b hb' o => (hb.frozen (by have := (HF3.out.1 b hb').2; have := H5z.out; show b < _; simp; omega)).trans (HL3.out.2 b hb' o)))
  clear hb g0 g1 g2 g3 g4
  have x0 := HX.out.cell 0
  have x1 := HX.out.cell 1
  have x2 := HX.out.cell 2
  have x3 := HX.out.cell 3
  have x4 := HX.out.cell 4
  have x5 := HX.out.cell 5
  have x6 := HX.out.cell 6
  have x7 := HX.out.cell 7
  have x8 := HX.out.cell 8
  have x9 := HX.out.cell 9
  have z0 := X0.out.cell 0
  have z1 := X0.out.cell 1
  have z2 := X0.out.cell 2
  have z3 := X0.out.cell 3
  have z4 := X0.out.cell 4
  have z5 := X0.out.cell 5
  have z6 := X0.out.cell 6
  have z7 := X0.out.cell 7
  have z8 := X0.out.cell 8
  have z9 := X0.out.cell 9
  go_wp2_with fail
  replace HX := Lib.hid (HX.out.drew 1); replace X0 := Lib.hid (X0.out.drew 1)
  have hbd := below_drewO (Below.refl w6.heap.size w6) 1
  replace HGS := Lib.hid (HGS.out.next hbd)
  replace HL3 := Lib.hid (And.intro (HL3.out.1.stay hbd (Nat.le_refl _)) (fun b hb' o => HL3.out.2 b hb' o))
  clear hbd
  go_region_held3 (fun w' => w'.cell? ⟨w.heap.size, 0, none⟩ = some (.string A.name) ∧ w'.cell? ⟨w.heap.size, 1, none⟩ = some (.string A.target) ∧ w'.cell? ⟨w.heap.size, 2, none⟩ = some (.int .i64 A.low) ∧ w'.cell? ⟨w.heap.size, 3, none⟩ = some (.int .i64 A.high) ∧ w'.cell? ⟨w.heap.size, 4, none⟩ = some (mvA) ∧ w'.cell? ⟨w.heap.size, 5, none⟩ = some (.int .i64 A.pace.up) ∧ w'.cell? ⟨w.heap.size, 6, none⟩ = some (.int .i64 A.pace.down) ∧ w'.cell? ⟨w.heap.size, 7, none⟩ = some (.int .i64 A.pace.ups) ∧ w'.cell? ⟨w.heap.size, 8, none⟩ = some (.int .i64 A.pace.downs) ∧ w'.cell? ⟨w.heap.size, 9, none⟩ = some (nvA) ∧ w'.cell? ⟨w4.heap.size, 0, none⟩ = some (.string A.name) ∧ w'.cell? ⟨w4.heap.size, 1, none⟩ = some (.string A.target) ∧ w'.cell? ⟨w4.heap.size, 2, none⟩ = some (.int .i64 A.low) ∧ w'.cell? ⟨w4.heap.size, 3, none⟩ = some (.int .i64 A.high) ∧ w'.cell? ⟨w4.heap.size, 4, none⟩ = some (.slice (some ⟨m3, 0, none⟩) A.mets.length A.mets.length) ∧ w'.cell? ⟨w4.heap.size, 5, none⟩ = some (.int .i64 A.pace.up) ∧ w'.cell? ⟨w4.heap.size, 6, none⟩ = some (.int .i64 A.pace.down) ∧ w'.cell? ⟨w4.heap.size, 7, none⟩ = some (.int .i64 A.pace.ups) ∧ w'.cell? ⟨w4.heap.size, 8, none⟩ = some (.int .i64 A.pace.downs) ∧ w'.cell? ⟨w4.heap.size, 9, none⟩ = some (.slice (some ⟨n3, 0, none⟩) A.notes.length A.notes.length)) (go_keep)
    (first
      | (go_at_call 8; refine (TA.out _ HX.out.below).mono ?_; rintro e w7 ⟨m5, n5, F5, F5', rfl, hl5, -, hb⟩
         replace HX := Lib.hid (HX.out.next hb); replace X0 := Lib.hid (X0.out.next hb); replace HGS := Lib.hid (HGS.out.next hb)
         have HB7 := Lib.hid hb
         have HL6 := Lib.hid hl5; clear hl5 hb; clear x0 x1 x2 x3 x4 x5 x6 x7 x8 x9; clear z0 z1 z2 z3 z4 z5 z6 z7 z8 z9; have x0 := HX.out.cell 0; have x1 := HX.out.cell 1; have x2 := HX.out.cell 2; have x3 := HX.out.cell 3; have x4 := HX.out.cell 4; have x5 := HX.out.cell 5; have x6 := HX.out.cell 6; have x7 := HX.out.cell 7; have x8 := HX.out.cell 8; have x9 := HX.out.cell 9; have z0 := X0.out.cell 0; have z1 := X0.out.cell 1; have z2 := X0.out.cell 2; have z3 := X0.out.cell 3; have z4 := X0.out.cell 4; have z5 := X0.out.cell 5; have z6 := X0.out.cell 6; have z7 := X0.out.cell 7; have z8 := X0.out.cell 8; have z9 := X0.out.cell 9)
      | (go_at_call 11; refine (eq_order _ (HL3.out.1.stay HB7.out (Nat.le_refl _)) HL6.out).mono ?_; rintro e w8 ⟨rfl, hb⟩
         replace HX := Lib.hid (HX.out.next hb); replace X0 := Lib.hid (X0.out.next hb); replace HGS := Lib.hid (HGS.out.next hb)
         have HB8 := Lib.hid (HB7.out.trans (hb.mono HB7.out.size))
         clear hb; clear x0 x1 x2 x3 x4 x5 x6 x7 x8 x9; clear z0 z1 z2 z3 z4 z5 z6 z7 z8 z9; have x0 := HX.out.cell 0; have x1 := HX.out.cell 1; have x2 := HX.out.cell 2; have x3 := HX.out.cell 3; have x4 := HX.out.cell 4; have x5 := HX.out.cell 5; have x6 := HX.out.cell 6; have x7 := HX.out.cell 7; have x8 := HX.out.cell 8; have x9 := HX.out.cell 9; have z0 := X0.out.cell 0; have z1 := X0.out.cell 1; have z2 := X0.out.cell 2; have z3 := X0.out.cell 3; have z4 := X0.out.cell 4; have z5 := X0.out.cell 5; have z6 := X0.out.cell 6; have z7 := X0.out.cell 7; have z8 := X0.out.cell 8; have z9 := X0.out.cell 9))
  go_wp2_with fail
  refine (mark_order _ (HL3.out.1.stay HB8.out (Nat.le_refl _)) (fun b hb' o => (HB8.out.frozen (by exact RowAt.lt HL3.out.1.mets (by decide) b hb')).trans (HL3.out.2 b (List.mem_append_left _ hb') o)) (fun b hb' o => (HB8.out.frozen (by exact RowAt.lt HL3.out.1.notes (by decide) b hb')).trans (HL3.out.2 b (List.mem_append_right _ hb') o)) HF3.out.2 HLn.out.1 HLn.out.2).mono ?_
  rintro e w9 ⟨qk, rfl, hb⟩
  replace HGS := Lib.hid (HGS.out.but hb HAp.out.1 HAp.out.2.1 HAp.out.2.2.1 HAp.out.2.2.2.1 (fun x hx => Nat.le_of_lt (HAp.out.2.2.2.2 x hx)))
  replace HX := Lib.hid (bx_but HX.out hb (fun hx => by have := HAp.out.2.2.2.2 _ hx; omega) (fun x hx => Nat.le_of_lt (HAp.out.2.2.2.2 x hx)))
  have hqk : ¬ ((qk : Int) < 0) := by omega
  clear hb x0 x1 x2 x3 x4 x5 x6 x7 x8 x9 z0 z1 z2 z3 z4 z5 z6 z7 z8 z9
  obtain ⟨g0, g1, g2, g3, g4, -⟩ := five HGS.out.boxW
  obtain ⟨y0, y1, y2, y3, y4, -⟩ := five HGS.out.boxG
  go_wp2_with fail
  refine (eq_node T _ _ _ _ HGS.out.lieG _ _ _ _ HGS.out.lieW).mono ?_
  rintro e w10 ⟨rfl, hb⟩
  rw [same_yes rfl]
  replace HGS := Lib.hid (HGS.out.next hb)
  replace HX := Lib.hid (HX.out.next hb)
  clear hb g0 g1 g2 g3 g4 y0 y1 y2 y3 y4
  obtain ⟨y0, y1, y2, y3, y4, -⟩ := five HGS.out.boxG
  go_wp2_with fail
  refine (mark_node1 T _ _ _ _ HGS.out.lieG HGS.out.nodup HGS.out.free HCn.out).mono ?_
  rintro e w11 ⟨rfl, hl11, hb11⟩
  replace HX := Lib.hid (bx_but HX.out hb11 (fun hx => HXb.out _ hx rfl) HGS.out.old)
  replace HGS := Lib.hid (HGS.out.mark hb11 hl11)
  clear hb11 hl11 y0 y1 y2 y3 y4
  have hc0 : ¬ (((1 + T.cnt : Nat) : Int) < 0) := by omega
  generalize hm1 : ((1 + T.cnt : Nat) : Int) = mm at *
  have HM1 := Lib.hid hm1
  clear hm1
  obtain ⟨y0, y1, y2, y3, y4, -⟩ := five HGS.out.boxG
  go_wp2_with fail
  refine (held_node1 T _ _ _ _ HGS.out.lieG HCn.out).mono ?_
  rintro e w12 ⟨rfl, hb⟩
  rw [HM1.out]
  replace HGS := Lib.hid (HGS.out.next hb)
  replace HX := Lib.hid (HX.out.next hb)
  have x0 := HX.out.cell 0
  have x1 := HX.out.cell 1
  have x2 := HX.out.cell 2
  have x3 := HX.out.cell 3
  have x4 := HX.out.cell 4
  have x5 := HX.out.cell 5
  have x6 := HX.out.cell 6
  have x7 := HX.out.cell 7
  have x8 := HX.out.cell 8
  have x9 := HX.out.cell 9
  clear hb y0 y1 y2 y3 y4
  go_wp2_with fail
  refine (TA.out _ HX.out.below).mono ?_
  rintro e w13 ⟨m9, n9, F9, F9', rfl, hl9, -, hb⟩
  have HL9 := Lib.hid hl9
  replace HGS := Lib.hid (HGS.out.next hb)
  replace HX := Lib.hid (HX.out.next hb)
  clear hl9 hb x0 x1 x2 x3 x4 x5 x6 x7 x8 x9
  go_wp2_with fail
  refine (HI.out _ _ _ _ _ HL9.out HX.out.below).mono ?_
  rintro e w14 ⟨kH, dH, FH, rfl, hlH, hfH, hb14⟩
  obtain ⟨⟨oH, cH, rfl⟩, ⟨pH, qH, rfl⟩⟩ := hlH.slices
  have hbx14 := (Below.refl _ w14).alloc (Nat.le_refl _) (.cells #[.int .i64 T.k, .int .i64 T.n, .string T.s, .slice oH T.keys.length cH, .slice pH T.kids.length qH] 32)
  replace HGS := Lib.hid ((HGS.out.next hb14).next hbx14)
  have HL14 := Lib.hid (hlH.stay hbx14 (Nat.le_refl _))
  clear hlH hfH hb14 hbx14 HL9 HX
  obtain ⟨g0, g1, g2, g3, g4, -⟩ := five HGS.out.boxW
  go_wp2_with fail
  refine (eq_node T _ _ _ _ HL14.out _ _ _ _ HGS.out.lieW).mono ?_
  rintro e w15 ⟨rfl, hb⟩
  rw [same_yes rfl]
  replace HGS := Lib.hid (HGS.out.next hb)
  clear hb g0 g1 g2 g3 g4
  obtain ⟨y0, y1, y2, y3, y4, -⟩ := five HGS.out.boxG
  go_wp2_with fail
  refine (held_node1 T _ _ _ _ HGS.out.lieG HCn.out).mono ?_
  rintro e w16 ⟨rfl, hb⟩
  rw [HM1.out]
  replace HGS := Lib.hid (HGS.out.next hb)
  clear hb y0 y1 y2 y3 y4
  go_wp2
  go_ret
  exact ⟨rfl, HGS.out.below⟩
end Go.Proofs.YtfmkhogpnnobeaaGreatDoor
