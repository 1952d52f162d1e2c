/-
  What is proved: a law's marks in an order's lists: nothing turns but the blocks of these.; the laws' toOrder lays the same order into new memory.; the laws' eqMetricS, eqNoteS and eqOrder answer true of two that are the same.
-/
import Derived.Test.YtfmkhogpnnobeaaGreatDoorPartAD
import Derived.Test.YtfmkhogpnnobeaaGreatDoorPartAF
import Derived.Test.YtfmkhogpnnobeaaGreatDoorPartAB
import Derived.Test.YtfmkhogpnnobeaaGreatDoorPartAU
import Derived.Test.YtfmkhogpnnobeaaGreatDoorPartAA
import Derived.Test.YtfmkhogpnnobeaaGreatDoorPartAK
/- a law's marks in an order's lists: nothing turns but the blocks of these. -/
namespace Go.Proofs.YtfmkhogpnnobeaaGreatDoor
open Go Go.RowKit

theorem room_cell {w : World} {b off n : Nat} (h : Room w b off n) (i : Nat) (hi : i < n) : ∃ u, w.cell? ⟨b, off + i, none⟩ = some u := Option.isSome_iff_exists.1 (h i hi)

set_option maxRecDepth 100000 in
set_option maxHeartbeats 1600000 in
theorem mark_mets {v : Value} {xs : List Met} {F : List Nat} (w : World) (hs : MetsAt w v xs F) (hf : ∀ b ∈ F, ∀ o, w.frozen? ⟨b, o, none⟩ = false) (k : Nat) (h0 : 0 < k) (h1 : k + 3 * xs.length ≤ 1000000000) :
    Calls Tryz.prog 36 #[v, .int .i64 k] w fun e w' => e = .returned (.int .i64 (k + 3 * xs.length : Nat)) ∧ But F w w' := by
  obtain ⟨o, cap, b, off, rfl, hlc, hcm, ho, hFe, -, hroom⟩ := hs
  have HRm := Lib.hid hroom
  have HO := Lib.hid ho
  have HF := Lib.hid hf
  have HFe := Lib.hid hFe
  clear ho hf hFe hroom
  go_enter Tryz.func36, Tryz.ntmps36
  go_wp2
  go_loopw [1, 5] (fun l i wr => ∃ j : Nat, j ≤ xs.length ∧ i = .int .i64 j ∧ l = .int .i64 (k + 3 * j : Nat) ∧ Hid (But F w wr ∧ Room wr b off (cap * 3))) (fun _ i _ => xs.length - (intOf i).toNat)
  case atStart => exact ⟨0, Nat.zero_le _, rfl, rfl, But.refl _ _, HRm.out⟩
  case round =>
    obtain ⟨j, hj, rfl, rfl, hr⟩ := hrel
    by_cases hlt : j < xs.length
    · have ho := HO.out (by omega)
      subst ho
      have HT := Lib.hid (mark_text (k + 3 * j) (by omega) (by omega) wr)
      obtain ⟨u0, q0⟩ := room_cell hr.out.2 (j * 3) (by omega)
      obtain ⟨u1, q1⟩ := room_cell hr.out.2 (j * 3 + 1) (by omega)
      obtain ⟨u2, q2⟩ := room_cell hr.out.2 (j * 3 + 2) (by omega)
      have HW : Hid (b < wr.heap.size ∧ b < w.heap.size) := ⟨World.block_lt_of_cell? _ _ q0, HRm.out.lt (by omega)⟩
      have HFm : Hid (b ∈ F) := by show b ∈ F; rw [HFe.out, if_neg (by omega)]; simp
      have HQ := Lib.hid (And.intro q0 (And.intro q1 q2))
      clear q0 q1 q2
      go_wp2_with (first
        | (go_at_call 81; refine HT.out.mono ?_; rintro e w1 ⟨rfl, hb1⟩
           have hB := Lib.hid hb1
           have r0 : w1.cell? ⟨b, off + j * 3, none⟩ = _ := (hb1.cell (by exact HW.out.1)).trans HQ.out.1
           have r1 : w1.cell? ⟨b, off + j * 3 + 1, none⟩ = _ := (hb1.cell (by exact HW.out.1)).trans HQ.out.2.1
           have r2 : w1.cell? ⟨b, off + j * 3 + 2, none⟩ = _ := (hb1.cell (by exact HW.out.1)).trans HQ.out.2.2
           have r3 : ∀ o, w1.frozen? ⟨b, o, none⟩ = false := fun o => (hb1.frozen (by exact HW.out.1)).trans ((hr.out.1.free b HW.out.2 _).trans (HF.out b HFm.out _))
           clear hb1)
        | go_in)
      refine ⟨⟨j + 1, by omega, by go_num, by go_num, ((((hr.out.1.trans (But.of_below hB.out)).set HFm.out _).set HFm.out _).set HFm.out _), ((((hr.out.2.below hB.out).set _ _).set _ _).set _ _)⟩, by simp [intOf]; omega⟩
    · have e : j = xs.length := by omega
      subst e
      go_wp2
      go_ret
      exact ⟨rfl, hr.out.1⟩

set_option maxRecDepth 100000 in
set_option maxHeartbeats 1600000 in
theorem mark_nots {v : Value} {xs : List Not} {F : List Nat} (w : World) (hs : NotsAt w v xs F) (hf : ∀ b ∈ F, ∀ o, w.frozen? ⟨b, o, none⟩ = false) (k : Nat) (h0 : 0 < k) (h1 : k + 2 * xs.length ≤ 1000000000) :
    Calls Tryz.prog 37 #[v, .int .i64 k] w fun e w' => e = .returned (.int .i64 (k + 2 * xs.length : Nat)) ∧ But F w w' := by
  obtain ⟨o, cap, b, off, rfl, hlc, hcm, ho, hFe, -, hroom⟩ := hs
  have HRm := Lib.hid hroom
  have HO := Lib.hid ho
  have HF := Lib.hid hf
  have HFe := Lib.hid hFe
  clear ho hf hFe hroom
  go_enter Tryz.func37, Tryz.ntmps37
  go_wp2
  go_loopw [1, 5] (fun l i wr => ∃ j : Nat, j ≤ xs.length ∧ i = .int .i64 j ∧ l = .int .i64 (k + 2 * j : Nat) ∧ Hid (But F w wr ∧ Room wr b off (cap * 2))) (fun _ i _ => xs.length - (intOf i).toNat)
  case atStart => exact ⟨0, Nat.zero_le _, rfl, rfl, But.refl _ _, HRm.out⟩
  case round =>
    obtain ⟨j, hj, rfl, rfl, hr⟩ := hrel
    by_cases hlt : j < xs.length
    · have ho := HO.out (by omega)
      subst ho
      have HT := Lib.hid (mark_text (k + 2 * j) (by omega) (by omega) wr)
      have HT2 := Lib.hid fun W => mark_text (k + 2 * j + 1) (by omega) (by omega) W
      obtain ⟨u0, q0⟩ := room_cell hr.out.2 (j * 2) (by omega)
      obtain ⟨u1, q1⟩ := room_cell hr.out.2 (j * 2 + 1) (by omega)
      have HW : Hid (b < wr.heap.size ∧ b < w.heap.size) := ⟨World.block_lt_of_cell? _ _ q0, HRm.out.lt (by omega)⟩
      have HFm : Hid (b ∈ F) := by show b ∈ F; rw [HFe.out, if_neg (by omega)]; simp
      have HQ := Lib.hid (And.intro q0 q1)
      clear q0 q1
      have tt1 : True := trivial
      go_wp2_with (first
        | (go_at_call 81; clear tt1; refine HT.out.mono ?_; rintro e w1 ⟨rfl, hb1⟩
           have hB := Lib.hid hb1
           have r0 : w1.cell? ⟨b, off + j * 2, none⟩ = _ := (hb1.cell (by exact HW.out.1)).trans HQ.out.1
           have r3 : ∀ o, w1.frozen? ⟨b, o, none⟩ = false := fun o => (hb1.frozen (by exact HW.out.1)).trans ((hr.out.1.free b HW.out.2 _).trans (HF.out b HFm.out _))
           have HR3 := Lib.hid r3
           clear hb1)
        | (go_at_call 81; refine (HT2.out _).mono ?_; rintro e w2 ⟨rfl, hb2⟩
           have hB2 := Lib.hid hb2
           have r1 : w2.cell? ⟨b, off + j * 2 + 1, none⟩ = some u1 := by
             rw [hb2.cell (by have := HW.out.1; have := hB.out.size; show b < _; simp [World.setCell]; omega)]
             have h9 := (hB.out.cell (by exact HW.out.1)).trans HQ.out.2
             rw [set_cell r0, if_neg (by simp)]
             exact h9
           have r4 : ∀ o, w2.frozen? ⟨b, o, none⟩ = false := fun o => (hb2.frozen (by have := HW.out.1; have := hB.out.size; show b < _; simp [World.setCell]; omega)).trans (by rw [World.frozen?_setCell]; exact HR3.out o)
           clear r0 r3 hb2)
        | go_in)
      refine ⟨⟨j + 1, by omega, by go_num, by go_num, (((hr.out.1.trans (But.of_below hB.out)).set HFm.out _).trans (But.of_below hB2.out)).set HFm.out _, (((hr.out.2.below hB.out).set _ _).below hB2.out).set _ _⟩, by simp [intOf]; omega⟩
    · have e : j = xs.length := by omega
      subst e
      go_wp2
      go_ret
      exact ⟨rfl, hr.out.1⟩

theorem but_wide {F G : List Nat} {w w' : World} (h : But F w w') (hs : ∀ x ∈ F, x ∈ G) : But G w w' :=
  ⟨h.os, h.tape, h.output, h.size, fun k hk hx => h.block k hk (fun hx' => hx (hs k hx')), h.free, h.room⟩

set_option maxRecDepth 100000 in
set_option maxHeartbeats 1600000 in
theorem mark_order {O : Ord} {mv nv : Value} {FM FN : List Nat} (w : World) (ho : OrdAt w O mv nv FM FN) (hM : ∀ b ∈ FM, ∀ o, w.frozen? ⟨b, o, none⟩ = false) (hN : ∀ b ∈ FN, ∀ o, w.frozen? ⟨b, o, none⟩ = false) (hap : ∀ b ∈ FN, b ∉ FM) (h1 : O.mets.length ≤ 1048576) (h2 : O.notes.length ≤ 1048576) :
    Calls Tryz.prog 12 #[.agg #[.string O.name, .string O.target, .int .i64 O.low, .int .i64 O.high, mv, .int .i64 O.pace.up, .int .i64 O.pace.down, .int .i64 O.pace.ups, .int .i64 O.pace.downs, nv], .int .i64 1] w fun e w' => ∃ q : Nat, e = .returned (.int .i64 q) ∧ But (FM ++ FN) w w' := by
  have HX := Lib.hid (Bx.start w #[.string O.name, .string O.target, .int .i64 O.low, .int .i64 O.high, mv, .int .i64 O.pace.up, .int .i64 O.pace.down, .int .i64 O.pace.ups, .int .i64 O.pace.downs, nv] 38)
  have hlM : ∀ b ∈ FM, b < w.heap.size := RowAt.lt ho.mets (by decide)
  have hlN : ∀ b ∈ FN, b < w.heap.size := RowAt.lt ho.notes (by decide)
  have HMk := Lib.hid (mark_mets _ (RowAt.stay ho.mets (by decide) HX.out.below (Nat.le_refl _)) (fun b hb o => (HX.out.below.frozen (by exact hlM b hb)).trans (hM b hb o)) 1 (by omega) (by omega))
  have HN0 : Hid (∀ w1, But FM (w.alloc (.cells #[.string O.name, .string O.target, .int .i64 O.low, .int .i64 O.high, mv, .int .i64 O.pace.up, .int .i64 O.pace.down, .int .i64 O.pace.ups, .int .i64 O.pace.downs, nv] 38)) w1 → NotsAt w1 nv O.notes FN ∧ ∀ b ∈ FN, ∀ o, w1.frozen? ⟨b, o, none⟩ = false) := fun w1 hb1 => by
    have hs := HX.out.below.size
    refine ⟨RowAt.carry ho.notes fun b hb => (hb1.block b (by have := hlN b hb; omega) (hap b hb)).trans (HX.out.below.block b (hlN b hb)), fun b hb o => (hb1.free b (by have := hlN b hb; omega) o).trans ((HX.out.below.frozen (by exact hlN b hb)).trans (hN b hb o))⟩
  have HBx : Hid (∀ w1, But FM (w.alloc (.cells #[.string O.name, .string O.target, .int .i64 O.low, .int .i64 O.high, mv, .int .i64 O.pace.up, .int .i64 O.pace.down, .int .i64 O.pace.ups, .int .i64 O.pace.downs, nv] 38)) w1 → w1.cell? ⟨w.heap.size, 9, none⟩ = some nv) := fun w1 hb1 => by
    have hb9 := (hb1.block w.heap.size (by simp) (fun hx => by have := hlM _ hx; omega)).trans HX.out.blk
    exact cell_of hb9 9
  have HLn : Hid (O.mets.length ≤ 1048576 ∧ O.notes.length ≤ 1048576) := ⟨h1, h2⟩
  obtain ⟨⟨om, cm, rfl⟩, on_, cn, rfl⟩ := ho.slices
  clear ho hM hN hap hlM hlN
  go_enter Tryz.func12, Tryz.ntmps12
  go_wp2_with (first
    | (go_at_call 36; refine HMk.out.mono ?_; rintro e w1 ⟨rfl, hb1⟩; have HB1 := Lib.hid hb1; have x9 := HBx.out _ hb1; clear hb1)
    | (go_at_call 37; refine (mark_nots w1 (HN0.out _ HB1.out).1 (HN0.out _ HB1.out).2 (1 + 3 * O.mets.length) (by omega) (by have := HLn.out; omega)).mono ?_; rintro e w2 ⟨rfl, hb2⟩; have HB2 := Lib.hid hb2; clear hb2)
    | fail)
  go_ret
  exact ⟨_, rfl, ((But.of_below HX.out.below).trans (but_wide HB1.out fun x hx => List.mem_append_left _ hx)).trans (but_wide HB2.out fun x hx => List.mem_append_right _ hx)⟩
end Go.Proofs.YtfmkhogpnnobeaaGreatDoor

/- the laws' toOrder lays the same order into new memory. -/
namespace Go.Proofs.YtfmkhogpnnobeaaGreatDoor
open Go Go.RowKit

/-- Three blocks that a function laid, one behind the other. -/
structure O3 (w wr : World) (c0 c1 c2 : Array Value) (t0 t1 : TypeId) : Prop where
  below : Below w.heap.size w wr
  b0 : wr.heap[w.heap.size]? = some (.cells c0 t0 (0, 0))
  b1 : wr.heap[w.heap.size + 1]? = some (.cells c1 t1 (0, 0))
  b2 : wr.heap[w.heap.size + 1 + 1]? = some (.cells c2 t1 (0, 0))
  size : w.heap.size + 3 ≤ wr.heap.size

theorem O3.start (w : World) (c0 c1 c2 : Array Value) (t0 t1 : TypeId) : O3 w (((w.alloc (.cells c0 t0)).alloc (.cells c1 t1)).alloc (.cells c2 t1)) c0 c1 c2 t0 t1 := by
  obtain ⟨h0, h1, h2, h3, h4⟩ := three_new w (.cells c0 t0) (.cells c1 t1) (.cells c2 t1)
  exact ⟨h3, h0, h1, h2, by omega⟩

theorem O3.next {w wr w1 : World} {c0 c1 c2 : Array Value} {t0 t1 : TypeId} (h : O3 w wr c0 c1 c2 t0 t1) (hb : Below wr.heap.size wr w1) : O3 w w1 c0 c1 c2 t0 t1 :=
  have hs := h.size
  ⟨h.below.trans (hb.mono h.below.size), (hb.block _ (by omega)).trans h.b0, (hb.block _ (by omega)).trans h.b1, (hb.block _ (by omega)).trans h.b2, Nat.le_trans hs hb.size⟩

theorem O3.put {w wr : World} {c0 c1 c2 : Array Value} {t0 t1 : TypeId} (h : O3 w wr c0 c1 c2 t0 t1) (o : Nat) (v : Value) : O3 w (wr.setCell ⟨w.heap.size + 1 + 1, o, none⟩ v) c0 c1 (c2.setIfInBounds o v) t0 t1 :=
  ⟨h.below.setCell (by show _ ≤ w.heap.size + 1 + 1; omega) _, (Below.heap_setCell _ _ _ _ (by show _ ≠ w.heap.size + 1 + 1; omega)).trans h.b0, (Below.heap_setCell _ _ _ _ (by show _ ≠ w.heap.size + 1 + 1; omega)).trans h.b1, heap_set h.b2 o v, by have := h.size; simpa [World.setCell] using this⟩

theorem O3.cell2 {w wr : World} {c0 c1 c2 : Array Value} {t0 t1 : TypeId} (h : O3 w wr c0 c1 c2 t0 t1) (o : Nat) : wr.cell? ⟨w.heap.size + 1 + 1, o, none⟩ = c2[o]? := cell_of h.b2 o
theorem O3.cell1 {w wr : World} {c0 c1 c2 : Array Value} {t0 t1 : TypeId} (h : O3 w wr c0 c1 c2 t0 t1) (o : Nat) : wr.cell? ⟨w.heap.size + 1, o, none⟩ = c1[o]? := cell_of h.b1 o
theorem O3.cell0 {w wr : World} {c0 c1 c2 : Array Value} {t0 t1 : TypeId} (h : O3 w wr c0 c1 c2 t0 t1) (o : Nat) : wr.cell? ⟨w.heap.size, o, none⟩ = c0[o]? := cell_of h.b0 o
theorem O3.free2 {w wr : World} {c0 c1 c2 : Array Value} {t0 t1 : TypeId} (h : O3 w wr c0 c1 c2 t0 t1) (o : Nat) : wr.frozen? ⟨w.heap.size + 1 + 1, o, none⟩ = false := by simp [World.frozen?, h.b2]
theorem O3.free1 {w wr : World} {c0 c1 c2 : Array Value} {t0 t1 : TypeId} (h : O3 w wr c0 c1 c2 t0 t1) (o : Nat) : wr.frozen? ⟨w.heap.size + 1, o, none⟩ = false := by simp [World.frozen?, h.b1]

theorem setL_end (w : World) (b : Nat) (t : TypeId) (fz : Nat × Nat) (vs : List Value) : ∀ (pre : List Value) (cs : Array Value), w.heap[b]? = some (.cells cs t fz) → cs.size = pre.length + vs.length → cs.toList.take pre.length = pre → (setL w b pre.length vs).heap[b]? = some (.cells (pre ++ vs).toArray t fz) := by
  induction vs generalizing w with
  | nil =>
    intro pre cs h hs hp
    rw [setL, h]
    have : cs = (pre ++ []).toArray := by
      rw [List.append_nil, ← hp, List.take_of_length_le (by simp at hs ⊢; omega)]
    rw [← this]
  | cons v vs ih =>
    intro pre cs h hs hp
    rw [setL]
    have := ih (w.setCell ⟨b, pre.length, none⟩ v) (pre ++ [v]) (cs.setIfInBounds pre.length v) (heap_set h _ _) (by simpa using hs.trans (by simp; omega)) ?_
    · rw [show pre.length + 1 = (pre ++ [v]).length by simp, this]; simp
    · simp only [List.length_append, List.length_singleton, Array.toList_setIfInBounds]
      have hl : pre.length < cs.toList.length := by simp at hs ⊢; omega
      rw [List.take_succ_eq_append_getElem (by simpa using hl), List.take_set_of_le (Nat.le_refl _), hp]
      simp

theorem ret_order {fn : Func} {i : Nat} (hres : fn.results = #[ResultVar.cell i 38]) {tmps : Array Value} {w : World} {b : Nat} {t : TypeId} {a0 a1 a2 a3 a4 a5 a6 a7 a8 a9 : Value}
    (ht : tmps[i]?.getD undef = .pointer (some ⟨b, 0, none⟩)) (h : w.heap[b]? = some (.cells #[a0, a1, a2, a3, a4, a5, a6, a7, a8, a9] t (0, 0))) : (results fn tmps).run Tryz.prog w = .ok (.agg #[a0, a1, a2, a3, a4, a5, a6, a7, a8, a9]) w := by
  have c0 : w.cell? ⟨b, 0, none⟩ = some a0 := cell_of h 0
  have c1 : w.cell? ⟨b, 1, none⟩ = some a1 := cell_of h 1
  have c2 : w.cell? ⟨b, 2, none⟩ = some a2 := cell_of h 2
  have c3 : w.cell? ⟨b, 3, none⟩ = some a3 := cell_of h 3
  have c4 : w.cell? ⟨b, 4, none⟩ = some a4 := cell_of h 4
  have c5 : w.cell? ⟨b, 5, none⟩ = some a5 := cell_of h 5
  have c6 : w.cell? ⟨b, 6, none⟩ = some a6 := cell_of h 6
  have c7 : w.cell? ⟨b, 7, none⟩ = some a7 := cell_of h 7
  have c8 : w.cell? ⟨b, 8, none⟩ = some a8 := cell_of h 8
  have c9 : w.cell? ⟨b, 9, none⟩ = some a9 := cell_of h 9
  simp [results, hres, ht, go_sem, c0, c1, c2, c3, c4, c5, c6, c7, c8, c9]

set_option maxHeartbeats 2000000 in
theorem to_order {O : Ord} {mv nv : Value} {FM FN : List Nat} (w : World) (ho : OrdAt w O mv nv FM FN) (h1 : O.sz ≤ 1048576) :
    Calls Tryz.prog 8 #[.agg #[.string O.name, .string O.target, .int .i64 O.low, .int .i64 O.high, mv, .int .i64 O.pace.up, .int .i64 O.pace.down, .int .i64 O.pace.ups, .int .i64 O.pace.downs, nv]] w fun e w' =>
      ∃ m n FM' FN', e = .returned (.agg #[.string O.name, .string O.target, .int .i64 O.low, .int .i64 O.high, .slice (some ⟨m, 0, none⟩) O.mets.length O.mets.length, .int .i64 O.pace.up, .int .i64 O.pace.down, .int .i64 O.pace.ups, .int .i64 O.pace.downs, .slice (some ⟨n, 0, none⟩) O.notes.length O.notes.length]) ∧
        OrdAt w' O (.slice (some ⟨m, 0, none⟩) O.mets.length O.mets.length) (.slice (some ⟨n, 0, none⟩) O.notes.length O.notes.length) FM' FN' ∧ Fresh w w' (FM' ++ FN') ∧ Below w.heap.size w w' := by
  have hlm : O.mets.length ≤ 1048576 := by unfold Ord.sz at h1; omega
  have hln : O.notes.length ≤ 1048576 := by unfold Ord.sz at h1; omega
  have HX := Lib.hid (O3.start w #[.string O.name, .string O.target, .int .i64 O.low, .int .i64 O.high, mv, .int .i64 O.pace.up, .int .i64 O.pace.down, .int .i64 O.pace.ups, .int .i64 O.pace.downs, nv] #[.string ⟨#[]⟩, .string ⟨#[]⟩, .int .i64 0, .int .i64 0, .slice none 0 0, .int .i64 0, .int .i64 0, .int .i64 0, .int .i64 0, .slice none 0 0] #[.string O.name, .string O.target, .int .i64 O.low, .int .i64 O.high, .slice none 0 0, .int .i64 0, .int .i64 0, .int .i64 0, .int .i64 0, .slice none 0 0] 27 38)
  have HM := Lib.hid fun wr (hb : Below w.heap.size w wr) => to_mets wr (RowAt.stay ho.mets (by decide) hb (Nat.le_refl _)) hlm
  have HN := Lib.hid fun wr (hb : Below w.heap.size w wr) => to_nots wr (RowAt.stay ho.notes (by decide) hb (Nat.le_refl _)) hln
  have HO := Lib.hid ho
  obtain ⟨⟨o1, c1, rfl⟩, o2, c2, rfl⟩ := ho.slices
  clear ho h1
  go_enter Tryz.func8, Tryz.ntmps8
  go_wp2_with (first
    | (go_at_call 26; refine (HM.out _ HX.out.below).mono ?_; rintro e w1 ⟨F1, rfl, hm1, hf1, hF1, hb1⟩
       replace HX := Lib.hid (HX.out.next hb1)
       have HM1 := Lib.hid (And.intro hm1 (And.intro hf1 (And.intro hF1 hb1)))
       have x5 := HX.out.cell0 5; have x6 := HX.out.cell0 6; have x7 := HX.out.cell0 7; have x8 := HX.out.cell0 8
       have y4 := HX.out.cell2 4; have z4 := HX.out.free2 4
       clear hm1 hf1 hF1 hb1)
    | (go_at_call 27; refine (to_pace _ _ _ _ _).mono ?_; rintro e w2 ⟨rfl, hb2⟩
       have HB2 := Lib.hid hb2
       have HXb := Lib.hid ((HX.out.put 4 _).next hb2)
       have HXc := Lib.hid ((((HXb.out.put 5 (.int .i64 O.pace.up)).put 6 (.int .i64 O.pace.down)).put 7 (.int .i64 O.pace.ups)).put 8 (.int .i64 O.pace.downs))
       have y5 := HXb.out.cell2 5; have y6 := HXb.out.cell2 6; have y7 := HXb.out.cell2 7; have y8 := HXb.out.cell2 8
       have z5 := HXb.out.free2 5; have z6 := HXb.out.free2 6; have z7 := HXb.out.free2 7; have z8 := HXb.out.free2 8
       have x9 := HXc.out.cell0 9
       clear hb2 x5 x6 x7 x8 y4 z4)
    | (go_at_call 28; refine (HN.out _ HXc.out.below).mono ?_; rintro e w3 ⟨F3, rfl, hm3, hf3, hF3, hb3⟩
       have HN3 := Lib.hid (And.intro hm3 (And.intro hf3 (And.intro hF3 hb3)))
       have HXd := Lib.hid (HXc.out.next hb3)
       clear hm3 hf3 hF3 hb3 x9 y5 y6 y7 y8 z5 z6 z7 z8
       have y0 := HXd.out.cell2 0; have y1 := HXd.out.cell2 1; have y2 := HXd.out.cell2 2; have y3 := HXd.out.cell2 3; have y4 := HXd.out.cell2 4; have y5 := HXd.out.cell2 5; have y6 := HXd.out.cell2 6; have y7 := HXd.out.cell2 7; have y8 := HXd.out.cell2 8; have y9 := HXd.out.cell2 9
       have z9 := HXd.out.free2 9
       have r0 := HXd.out.cell1 0; have r1 := HXd.out.cell1 1; have r2 := HXd.out.cell1 2; have r3 := HXd.out.cell1 3; have r4 := HXd.out.cell1 4; have r5 := HXd.out.cell1 5; have r6 := HXd.out.cell1 6; have r7 := HXd.out.cell1 7; have r8 := HXd.out.cell1 8; have r9 := HXd.out.cell1 9
       have f0 := HXd.out.free1 0; have f1 := HXd.out.free1 1; have f2 := HXd.out.free1 2; have f3 := HXd.out.free1 3; have f4 := HXd.out.free1 4; have f5 := HXd.out.free1 5; have f6 := HXd.out.free1 6; have f7 := HXd.out.free1 7; have f8 := HXd.out.free1 8; have f9 := HXd.out.free1 9)
    | fail)
  clear y0 y1 y2 y3 y4 y5 y6 y7 y8 y9 r0 r1 r2 r3 r4 r5 r6 r7 r8 r9 f0 f1 f2 f3 f4 f5 f6 f7 f8 f9 z9
  obtain ⟨hm1, hf1, hF1, hb1⟩ := HM1.out
  obtain ⟨hm3, hf3, hF3, hb3⟩ := HN3.out
  simp only [World.size_setCell, World.size_alloc] at hm1 hf1 hF1 hb1 hm3 hf3 hF3 hb3
  have hb2 := HB2.out
  simp only [World.size_setCell] at hb2
  have hO := HO.out
  generalize hvs : ([.string O.name, .string O.target, .int .i64 O.low, .int .i64 O.high, .slice (some ⟨w.heap.size + 1 + 1 + 1, 0, none⟩) O.mets.length O.mets.length, .int .i64 O.pace.up, .int .i64 O.pace.down, .int .i64 O.pace.ups, .int .i64 O.pace.downs, .slice (some ⟨w2.heap.size, 0, none⟩) O.notes.length O.notes.length] : List Value) = vs
  have hend : (setL (w3.setCell ⟨w.heap.size + 1 + 1, 9, none⟩ (.slice (some ⟨w2.heap.size, 0, none⟩) O.notes.length O.notes.length)) (w.heap.size + 1) 0 vs).heap[w.heap.size + 1]? = some (.cells vs.toArray 38 (0, 0)) :=
    setL_end _ _ _ _ vs [] _ ((Below.heap_setCell _ _ _ _ (by show _ ≠ w.heap.size + 1 + 1; omega)).trans HXd.out.b1) (by subst hvs; rfl) rfl
  have hkeep : ∀ b, b ≠ w.heap.size + 1 → b ≠ w.heap.size + 1 + 1 → (setL (w3.setCell ⟨w.heap.size + 1 + 1, 9, none⟩ (.slice (some ⟨w2.heap.size, 0, none⟩) O.notes.length O.notes.length)) (w.heap.size + 1) 0 vs).heap[b]? = w3.heap[b]? := fun b n1 n2 => by
    rw [setL_other _ _ _ _ _ n1, Below.heap_setCell _ _ _ _ n2]
  have hW : Below w.heap.size w (setL (w3.setCell ⟨w.heap.size + 1 + 1, 9, none⟩ (.slice (some ⟨w2.heap.size, 0, none⟩) O.notes.length O.notes.length)) (w.heap.size + 1) 0 vs) := setL_below (HXd.out.put 9 _).below (by omega) _ _
  have q1 := hb1.size
  have q2 := hb2.size
  have q3 := hb3.size
  simp only [World.size_setCell, World.size_alloc] at q1 q2 q3
  have lt1 := RowAt.lt hm1 (by decide)
  have k1 : ∀ b ∈ F1, (setL (w3.setCell ⟨w.heap.size + 1 + 1, 9, none⟩ (.slice (some ⟨w2.heap.size, 0, none⟩) O.notes.length O.notes.length)) (w.heap.size + 1) 0 vs).heap[b]? = w1.heap[b]? := fun b hb => by
    have e := hF1 b hb
    have l := lt1 b hb
    rw [hkeep b (by omega) (by omega), hb3.block b (by omega)]
    repeat rw [Below.heap_setCell _ _ _ _ (by show _ ≠ w.heap.size + 1 + 1; omega)]
    rw [hb2.block b (by omega), Below.heap_setCell _ _ _ _ (by show _ ≠ w.heap.size + 1 + 1; omega)]
  have k3 : ∀ b ∈ F3, (setL (w3.setCell ⟨w.heap.size + 1 + 1, 9, none⟩ (.slice (some ⟨w2.heap.size, 0, none⟩) O.notes.length O.notes.length)) (w.heap.size + 1) 0 vs).heap[b]? = w3.heap[b]? := fun b hb => by
    have e := hF3 b hb
    exact hkeep b (by omega) (by omega)
  subst hvs
  refine bodyPost_ret (ret_order (t := 38) Tryz.results8 rfl hend) rfl ⟨_, _, F1, F3, rfl, ⟨hO.name, hO.target, hO.low, hO.high, hO.pace, RowAt.carry hm1 k1, RowAt.carry hm3 k3⟩, ?_, hW⟩
  exact ((hf1.carry k1).earlier (by simp only [World.size_alloc]; omega)).append (w1 := w1) lt1 ((hf3.carry k3).earlier (by simp only [World.size_setCell]; omega)) (by omega)
end Go.Proofs.YtfmkhogpnnobeaaGreatDoor

/- the laws' eqMetricS, eqNoteS and eqOrder answer true of two that are the same. -/
namespace Go.Proofs.YtfmkhogpnnobeaaGreatDoor
open Go Go.RowKit


set_option maxHeartbeats 1000000 in
theorem eq_met (x : Met) (w : World) : Calls Tryz.prog 79 #[.agg #[.string x.name, .int .i64 x.kind, .int .i64 x.goal], .agg #[.string x.name, .int .i64 x.kind, .int .i64 x.goal]] w fun e w' => e = .returned (.bool true) ∧ Below w.heap.size w w' := by
  have HB : Hid (∀ o o', Below w.heap.size w ((w.alloc o).alloc o')) := fun o o' => ((Below.refl _ w).alloc (Nat.le_refl _) o).alloc (by simp) o'
  go_enter Tryz.func79, Tryz.ntmps79
  go_wp2
  go_ret
  exact ⟨rfl, HB.out _ _⟩

set_option maxHeartbeats 1000000 in
theorem eq_mets {v v' : Value} {xs : List Met} {F F' : List Nat} (w : World) (hs : MetsAt w v xs F) (hs' : MetsAt w v' xs F') :
    Calls Tryz.prog 33 #[v, v'] w fun e w' => e = .returned (.bool true) ∧ Below w.heap.size w w' := by
  obtain ⟨o, cap, b, off, rfl, hlc, hcm, ho, -, hcell, -⟩ := hs
  obtain ⟨o', cap', b', off', rfl, hlc', hcm', ho', -, hcell', -⟩ := hs'
  have HC := Lib.hid hcell
  have HO := Lib.hid ho
  have HC' := Lib.hid hcell'
  have HO' := Lib.hid ho'
  clear hcell ho hcell' ho'
  unfold maxLen at hcm hcm'
  go_enter Tryz.func33, Tryz.ntmps33
  go_wp2
  go_loopw [5] (fun i wr => ∃ k : Nat, k ≤ xs.length ∧ i = .int .i64 k ∧ Below w.heap.size w wr) (fun i _ => xs.length - (intOf i).toNat)
  case atStart => exact ⟨0, Nat.zero_le _, rfl, Below.refl _ _⟩
  case round =>
    obtain ⟨k, hk, rfl, hb⟩ := hrel
    have HB := Lib.hid hb
    by_cases hlt : k < xs.length
    · have ho := HO.out (by omega)
      have ho' := HO'.out (by omega)
      subst ho ho'
      have c0 : wr.cell? ⟨b, off + k * 3, none⟩ = some (.string xs[k].name) := by
        have := (HC.out k hlt).2 0 (by decide)
        rw [hb.cell (by exact World.block_lt_of_cell? _ _ this)]; exact this
      have c1 : wr.cell? ⟨b, off + k * 3 + 1, none⟩ = some (.int .i64 xs[k].kind) := by
        have := (HC.out k hlt).2 1 (by decide)
        rw [hb.cell (by exact World.block_lt_of_cell? _ _ this)]; exact this
      have c2 : wr.cell? ⟨b, off + k * 3 + 2, none⟩ = some (.int .i64 xs[k].goal) := by
        have := (HC.out k hlt).2 2 (by decide)
        rw [hb.cell (by exact World.block_lt_of_cell? _ _ this)]; exact this
      have d0 : wr.cell? ⟨b', off' + k * 3, none⟩ = some (.string xs[k].name) := by
        have := (HC'.out k hlt).2 0 (by decide)
        rw [hb.cell (by exact World.block_lt_of_cell? _ _ this)]; exact this
      have d1 : wr.cell? ⟨b', off' + k * 3 + 1, none⟩ = some (.int .i64 xs[k].kind) := by
        have := (HC'.out k hlt).2 1 (by decide)
        rw [hb.cell (by exact World.block_lt_of_cell? _ _ this)]; exact this
      have d2 : wr.cell? ⟨b', off' + k * 3 + 2, none⟩ = some (.int .i64 xs[k].goal) := by
        have := (HC'.out k hlt).2 2 (by decide)
        rw [hb.cell (by exact World.block_lt_of_cell? _ _ this)]; exact this
      clear hb
      generalize xs[k] = x at *
      go_wp2
      go_region_with (first | (go_at_call 79; refine (eq_met _ _).mono ?_; rintro e w1 ⟨rfl, hb1⟩))
      all_goals go_wp2
      all_goals exact ⟨⟨k + 1, by omega, by go_num, (below_drewN HB.out 1).trans (hb1.mono (below_drewN HB.out 1).size)⟩, by simp [intOf]; omega⟩
    · go_wp2
      go_ret
      exact ⟨rfl, HB.out⟩


set_option maxHeartbeats 1000000 in
theorem eq_not (x : Not) (w : World) : Calls Tryz.prog 80 #[.agg #[.string x.key, .string x.text], .agg #[.string x.key, .string x.text]] w fun e w' => e = .returned (.bool true) ∧ Below w.heap.size w w' := by
  have HB : Hid (∀ o o', Below w.heap.size w ((w.alloc o).alloc o')) := fun o o' => ((Below.refl _ w).alloc (Nat.le_refl _) o).alloc (by simp) o'
  go_enter Tryz.func80, Tryz.ntmps80
  go_wp2
  go_ret
  exact ⟨rfl, HB.out _ _⟩

set_option maxHeartbeats 1000000 in
theorem eq_nots {v v' : Value} {xs : List Not} {F F' : List Nat} (w : World) (hs : NotsAt w v xs F) (hs' : NotsAt w v' xs F') :
    Calls Tryz.prog 35 #[v, v'] w fun e w' => e = .returned (.bool true) ∧ Below w.heap.size w w' := by
  obtain ⟨o, cap, b, off, rfl, hlc, hcm, ho, -, hcell, -⟩ := hs
  obtain ⟨o', cap', b', off', rfl, hlc', hcm', ho', -, hcell', -⟩ := hs'
  have HC := Lib.hid hcell
  have HO := Lib.hid ho
  have HC' := Lib.hid hcell'
  have HO' := Lib.hid ho'
  clear hcell ho hcell' ho'
  unfold maxLen at hcm hcm'
  go_enter Tryz.func35, Tryz.ntmps35
  go_wp2
  go_loopw [5] (fun i wr => ∃ k : Nat, k ≤ xs.length ∧ i = .int .i64 k ∧ Below w.heap.size w wr) (fun i _ => xs.length - (intOf i).toNat)
  case atStart => exact ⟨0, Nat.zero_le _, rfl, Below.refl _ _⟩
  case round =>
    obtain ⟨k, hk, rfl, hb⟩ := hrel
    have HB := Lib.hid hb
    by_cases hlt : k < xs.length
    · have ho := HO.out (by omega)
      have ho' := HO'.out (by omega)
      subst ho ho'
      have c0 : wr.cell? ⟨b, off + k * 2, none⟩ = some (.string xs[k].key) := by
        have := (HC.out k hlt).2 0 (by decide)
        rw [hb.cell (by exact World.block_lt_of_cell? _ _ this)]; exact this
      have c1 : wr.cell? ⟨b, off + k * 2 + 1, none⟩ = some (.string xs[k].text) := by
        have := (HC.out k hlt).2 1 (by decide)
        rw [hb.cell (by exact World.block_lt_of_cell? _ _ this)]; exact this
      have d0 : wr.cell? ⟨b', off' + k * 2, none⟩ = some (.string xs[k].key) := by
        have := (HC'.out k hlt).2 0 (by decide)
        rw [hb.cell (by exact World.block_lt_of_cell? _ _ this)]; exact this
      have d1 : wr.cell? ⟨b', off' + k * 2 + 1, none⟩ = some (.string xs[k].text) := by
        have := (HC'.out k hlt).2 1 (by decide)
        rw [hb.cell (by exact World.block_lt_of_cell? _ _ this)]; exact this
      clear hb
      generalize xs[k] = x at *
      go_wp2
      go_region_with (first | (go_at_call 80; refine (eq_not _ _).mono ?_; rintro e w1 ⟨rfl, hb1⟩))
      all_goals go_wp2
      all_goals exact ⟨⟨k + 1, by omega, by go_num, (below_drewN HB.out 1).trans (hb1.mono (below_drewN HB.out 1).size)⟩, by simp [intOf]; omega⟩
    · go_wp2
      go_ret
      exact ⟨rfl, HB.out⟩


set_option maxHeartbeats 1000000 in
theorem eq_order {O : Ord} {mv nv mv' nv' : Value} {FM FN FM' FN' : List Nat} (w : World) (ho : OrdAt w O mv nv FM FN) (ho' : OrdAt w O mv' nv' FM' FN') :
    Calls Tryz.prog 11 #[.agg #[.string O.name, .string O.target, .int .i64 O.low, .int .i64 O.high, mv, .int .i64 O.pace.up, .int .i64 O.pace.down, .int .i64 O.pace.ups, .int .i64 O.pace.downs, nv], .agg #[.string O.name, .string O.target, .int .i64 O.low, .int .i64 O.high, mv', .int .i64 O.pace.up, .int .i64 O.pace.down, .int .i64 O.pace.ups, .int .i64 O.pace.downs, nv']] w fun e w' => e = .returned (.bool true) ∧ Below w.heap.size w w' := by
  have HX := Lib.hid ((Bx.start w #[.string O.name, .string O.target, .int .i64 O.low, .int .i64 O.high, mv, .int .i64 O.pace.up, .int .i64 O.pace.down, .int .i64 O.pace.ups, .int .i64 O.pace.downs, nv] 38).alloc (.cells #[.string O.name, .string O.target, .int .i64 O.low, .int .i64 O.high, mv', .int .i64 O.pace.up, .int .i64 O.pace.down, .int .i64 O.pace.ups, .int .i64 O.pace.downs, nv'] 38))
  have HY := Lib.hid ((Bx.start w #[.string O.name, .string O.target, .int .i64 O.low, .int .i64 O.high, mv, .int .i64 O.pace.up, .int .i64 O.pace.down, .int .i64 O.pace.ups, .int .i64 O.pace.downs, nv] 38).add #[.string O.name, .string O.target, .int .i64 O.low, .int .i64 O.high, mv', .int .i64 O.pace.up, .int .i64 O.pace.down, .int .i64 O.pace.ups, .int .i64 O.pace.downs, nv'] 38)
  have HM := Lib.hid fun wr (hb : Below w.heap.size w wr) => eq_mets wr (RowAt.stay ho.mets (by decide) hb (Nat.le_refl _)) (RowAt.stay ho'.mets (by decide) hb (Nat.le_refl _))
  have HN := Lib.hid fun wr (hb : Below w.heap.size w wr) => eq_nots wr (RowAt.stay ho.notes (by decide) hb (Nat.le_refl _)) (RowAt.stay ho'.notes (by decide) hb (Nat.le_refl _))
  obtain ⟨⟨o1, c1, rfl⟩, o2, c2, rfl⟩ := ho.slices
  obtain ⟨⟨o3, c3, rfl⟩, o4, c4, rfl⟩ := ho'.slices
  simp only [World.size_alloc] at HY
  clear ho ho'
  go_enter Tryz.func11, Tryz.ntmps11
  go_wp2_with (first
    | (go_at_call 33; refine (HM.out _ HX.out.below).mono ?_; rintro e w1 ⟨rfl, hb⟩
       replace HX := Lib.hid (HX.out.next hb); replace HY := Lib.hid (HY.out.next hb)
       have x5 := HX.out.cell 5; have x6 := HX.out.cell 6; have x7 := HX.out.cell 7; have x8 := HX.out.cell 8
       have y5 := HY.out.cell 5; have y6 := HY.out.cell 6; have y7 := HY.out.cell 7; have y8 := HY.out.cell 8
       clear hb)
    | (go_at_call 34; refine (eq_pace _ _ _ _ _).mono ?_; rintro e w2 ⟨rfl, hb⟩
       replace HX := Lib.hid (HX.out.next hb); replace HY := Lib.hid (HY.out.next hb)
       have x9 := HX.out.cell 9
       have y9 := HY.out.cell 9
       clear hb)
    | (go_at_call 35; refine (HN.out _ HX.out.below).mono ?_; rintro e w3 ⟨rfl, hb⟩
       replace HX := Lib.hid (HX.out.next hb)
       clear hb)
    | fail)
  go_ret
  exact ⟨rfl, HX.out.below⟩
end Go.Proofs.YtfmkhogpnnobeaaGreatDoor
