/-
  What is proved: the model's l3Copy lays the same tree into new memory.; the model's l3At and Get at every tree: the first place of a Key that has a Kid; what stands there, in memory of its own.
-/
import Derived.Test.YtelpkcbbipianaaGreatPartAB
import Derived.Deep.DeepCutAuto
import Derived.Deep.RegionLaw
import Derived.Test.YtelpkcbbipianaaGreatPartAA
/- the model's l3Copy lays the same tree into new memory. -/
namespace Go.Proofs.YtelpkcbbipianaaGreat
open Go Go.RowKit

def SCopyAt (T : RT) : Prop := ∀ (w : World) (kv dv : Value) (F : List Nat), Lies w T kv dv F → T.sz ≤ 4000000 →
  Calls Tryz.prog 64 #[T.val kv dv] w fun e w' => ∃ kv' dv' F', e = .returned (.agg #[.int .i64 T.k, .int .i64 T.n, .string T.s, kv', dv']) ∧ Lies w' T kv' dv' F' ∧ Fresh w w' F' ∧ Below w.heap.size w w'

/-- Where l3Copy stands ahead of its loop: its own node in block B, the keys laid, the kids not yet. -/
structure SState (w wc : World) (a b c d e : Value) (B : Nat) (k n : Int) (s : ByteArray) (keys : List ByteArray) (kv : Value) (FK : List Nat) : Prop where
  cbox : CBox w wc 27 a b c d e
  out : wc.heap[B]? = some (.cells #[.int .i64 k, .int .i64 n, .string s, kv, .slice none 0 0] 27 (0, 0))
  big : w.heap.size + 2 ≤ B
  strs : StrsAt wc kv keys FK
  fresh : Fresh w wc FK
  far : ∀ x ∈ FK, w.heap.size + 2 ≤ x ∧ x ≠ B

/-- A call of l3Copy, at a step of a region that draws its order. -/
theorem step_call {ops : Array Oper} {o : Oper} {a : Act} {w : World} {K : Act → World → Prop} {Q : Exit → Act → World → Prop} {E : Prop} (hgd : o.guard = none) (x : Operand)
    (ho : o.op = .call { callee := .value (.func 64), args := #[x], argTypes := #[27] }) (u : Value) (hx : a.eval x = u) {R : Value → World → Prop}
    (hc : Calls Tryz.prog 64 #[u] w fun e w' => ∃ v, e = .returned v ∧ R v w') (h : ∀ v w', R v w' → K (a.put o.dst v) w') : if Region.wanted o (yielded ops a.tmps) = true then Oper.wp Tryz.prog o a w K Q else E := by
  have hw : Region.wanted o (yielded ops a.tmps) = true := by simp [Region.wanted, hgd]
  rw [if_pos hw]
  unfold Oper.wp execOp
  simp only [ho, resolve, invoke, Sem.run_bind, List.map_toArray, List.map_cons, List.map_nil, hx]
  have e1 : (Deferred.ofValue (a.eval (.func 64)) #[u]).run Tryz.prog w = .ok { target := .fn (.func 64) #[], args := #[u] } w := rfl
  rw [e1, Result.andThen_ok]
  have e2 : (callFunc 64 (#[u] ++ #[])).run Tryz.prog w = .ok (.enter 64 #[u]) w := by simp [go_sem]
  show Oper.upon Tryz.prog o a K Q ((callFunc 64 (#[u] ++ #[])).run Tryz.prog w)
  rw [e2, Oper.upon_enter]
  refine hc.mono ?_
  rintro e w' ⟨v, rfl, hR⟩
  exact h v w' hR

/-- Two more blocks, one behind the other. -/
theorem two_more (w2 : World) (x y : Obj) {n2 : Nat} (hn : w2.heap.size = n2) : ((w2.alloc x).alloc y).drew.heap[n2]? = some x ∧ ((w2.alloc x).alloc y).drew.heap[n2 + 1]? = some y ∧ ((w2.alloc x).alloc y).drew.heap.size = n2 + 2 ∧ Below w2.heap.size w2 ((w2.alloc x).alloc y).drew := by
  subst hn
  refine ⟨?_, ?_, ?_, (((Below.refl _ w2).alloc (Nat.le_refl _) _).alloc (by simp) _).drew⟩
  · show ((w2.alloc x).alloc y).heap[w2.heap.size]? = _
    rw [Below.heap_alloc _ _ _ (by simp), heap_last]
  · show ((w2.alloc x).alloc y).heap[w2.heap.size + 1]? = _
    have := heap_last (w2.alloc x) y
    simpa using this
  · show ((w2.alloc x).alloc y).heap.size = _
    simp

theorem one_more (w2 : World) (x : Obj) {n2 : Nat} (hn : w2.heap.size = n2) : (w2.alloc x).drew.heap[n2]? = some x ∧ (w2.alloc x).drew.heap.size = n2 + 1 ∧ Below w2.heap.size w2 (w2.alloc x).drew := by
  subst hn
  exact ⟨heap_last w2 x, by show (w2.alloc x).heap.size = _; simp, ((Below.refl _ w2).alloc (Nat.le_refl _) _).drew⟩

theorem owns_empty {w : World} {base b : Nat} {t : TypeId} (h : w.heap[b]? = some (.cells #[] t (0, 0))) (hb : base ≤ b) : w.ownsRow base t 1 (.slice (some ⟨b, 0, none⟩) 0 0) 0 [] :=
  ⟨rfl, .inr ⟨b, 0, #[], rfl, hb, h, Nat.le_refl _, Nat.zero_le _, rfl, rfl⟩⟩

theorem CBox.grow {w wr w1 : World} {t : TypeId} {a b c d e : Value} (h : CBox w wr t a b c d e) {g : Nat} (hg : wr.grownBy w1 (some g)) (hb : w.heap.size + 2 ≤ g) : CBox w w1 t a b c d e where
  below := h.below.grown hg h.below.size (fun k e => by injection e with e; omega)
  size := Nat.le_trans h.size hg.size
  box := (hg.block _ (by have := h.size; omega) (fun e => by injection e with e; omega)).trans h.box
  res := (hg.block _ (by have := h.size; omega) (fun e => by injection e with e; omega)).trans h.res

theorem CBox.put {w wr : World} {t : TypeId} {a b c d e : Value} (h : CBox w wr t a b c d e) {B : Nat} (hB : w.heap.size + 2 ≤ B) (o : Nat) (v0 v1 v2 v3 v4 : Value) : CBox w (set5 wr B o v0 v1 v2 v3 v4) t a b c d e where
  below := set5_below h.below (by omega) _ _ _ _ _ _
  size := by have := h.size; simpa [set5, World.setCell] using this
  box := (set5_other _ _ _ _ _ _ _ _ _ (by omega)).trans h.box
  res := (set5_other _ _ _ _ _ _ _ _ _ (by omega)).trans h.res

/-- The keys laid by an append onto an empty list. -/
theorem strs_of_owns2 {w wr : World} {base g cap : Nat} {ks : List ByteArray} {t : TypeId} (hn : 0 < ks.length) (hs : ∀ i (h : i < ks.length), ks[i].size ≤ maxLen) (hb : w.heap.size ≤ base) (h : wr.ownsRow base t 1 (.slice (some ⟨g, 0, none⟩) (0 + ks.length) cap) (0 + ks.length) ([] ++ ks.map .string)) :
    StrsAt wr (.slice (some ⟨g, 0, none⟩) ks.length cap) ks [g] ∧ Fresh w wr [g] ∧ base ≤ g ∧ g < wr.heap.size := by
  obtain ⟨h1, h2⟩ := strs_of_owns hn hs hb h
  refine ⟨h1, h2, ?_, h1.lt g (by simp)⟩
  rcases h.2 with ⟨h0, _⟩ | ⟨g', cap', cur, hv, hg, _⟩
  · cases h0
  · injection hv with e1 e2 e3
    injection e1 with e1
    injection e1 with e1
    omega

theorem sstate_alloc {w w4 : World} {a b c d e : Value} (hC : CBox w w4 27 a b c d e) {g cap : Nat} {keys : List ByteArray} {k n : Int} {s : ByteArray} (hn : 0 < keys.length) (hs : ∀ i (h : i < keys.length), keys[i].size ≤ maxLen)
    (h : w4.ownsRow (w.heap.size + 2) 9 1 (.slice (some ⟨g, 0, none⟩) (0 + keys.length) cap) (0 + keys.length) ([] ++ keys.map .string)) :
    SState w (w4.alloc (.cells #[.int .i64 k, .int .i64 n, .string s, .slice (some ⟨g, 0, none⟩) keys.length cap, .slice none 0 0] 27)) a b c d e w4.heap.size k n s keys (.slice (some ⟨g, 0, none⟩) keys.length cap) [g] := by
  obtain ⟨h1, h2, h3, h4⟩ := strs_of_owns2 (w := w) hn hs (by omega) h
  have hb := (Below.refl _ w4).alloc (Nat.le_refl _) (.cells #[.int .i64 k, .int .i64 n, .string s, .slice (some ⟨g, 0, none⟩) keys.length cap, .slice none 0 0] 27)
  exact ⟨hC.next hb, heap_last w4 _, hC.size, h1.stay hb (Nat.le_refl _), h2.carry (fun x hx => hb.block x (h1.lt x hx)), fun x hx => by simp at hx; subst hx; exact ⟨h3, by omega⟩⟩

theorem sstate_put {w w4 : World} {a b c d e : Value} (hC : CBox w w4 27 a b c d e) {g cap B : Nat} {keys : List ByteArray} {k n : Int} {s : ByteArray} (hn : 0 < keys.length) (hs : ∀ i (h : i < keys.length), keys[i].size ≤ maxLen)
    (h : w4.ownsRow (w.heap.size + 2) 9 1 (.slice (some ⟨g, 0, none⟩) (0 + keys.length) cap) (0 + keys.length) ([] ++ keys.map .string)) (hB : w.heap.size + 2 ≤ B) (hne : g ≠ B)
    {z0 z1 z2 z3 z4 : Value} (hz : w4.heap[B]? = some (.cells #[z0, z1, z2, z3, z4] 27 (0, 0))) :
    SState w (set5 w4 B 0 (.int .i64 k) (.int .i64 n) (.string s) (.slice (some ⟨g, 0, none⟩) keys.length cap) (.slice none 0 0)) a b c d e B k n s keys (.slice (some ⟨g, 0, none⟩) keys.length cap) [g] := by
  obtain ⟨h1, h2, h3, h4⟩ := strs_of_owns2 (w := w) hn hs (by omega) h
  have keep : ∀ x ∈ [g], (set5 w4 B 0 (.int .i64 k) (.int .i64 n) (.string s) (.slice (some ⟨g, 0, none⟩) keys.length cap) (.slice none 0 0)).heap[x]? = w4.heap[x]? := fun x hx => set5_other _ _ _ _ _ _ _ _ _ (by simp at hx; omega)
  exact ⟨hC.put hB _ _ _ _ _ _, set5_end hz _ _ _ _ _, hB, h1.carry keep, h2.carry keep, fun x hx => by simp at hx; subst hx; exact ⟨h3, hne⟩⟩

/-- Where l3Copy stands in its loop. -/
structure LState (w wc wr : World) (a b c d e : Value) (B : Nat) (k n : Int) (s : ByteArray) (keys : List ByteArray) (kv : Value) (FK : List Nat) (kids : List RT) (j : Nat) (v : Value) (KV DV : Nat → Value) (FF : Nat → List Nat) : Prop where
  cbox : CBox w wr 27 a b c d e
  out : wr.heap[B]? = some (.cells #[.int .i64 k, .int .i64 n, .string s, kv, v] 27 (0, 0))
  big : w.heap.size + 2 ≤ B
  blt : B < wc.heap.size
  strs : StrsAt wr kv keys FK
  fresh : Fresh w wr FK
  far : ∀ x ∈ FK, w.heap.size + 2 ≤ x ∧ x ≠ B ∧ x < wc.heap.size
  laid : LaidApp 27 w wc wr kids j v KV DV FF

theorem SState.loop {w wc : World} {a b c d e : Value} {B : Nat} {k n : Int} {s : ByteArray} {keys : List ByteArray} {kv : Value} {FK : List Nat} (h : SState w wc a b c d e B k n s keys kv FK) (kids : List RT) :
    LState w wc wc a b c d e B k n s keys kv FK kids 0 (.slice none 0 0) (fun _ => .bool true) (fun _ => .bool true) (fun _ => []) :=
  ⟨h.cbox, h.out, h.big, (Array.getElem?_eq_some_iff.1 h.out).1, h.strs, h.fresh, fun x hx => ⟨(h.far x hx).1, (h.far x hx).2, h.strs.lt x hx⟩, LaidApp.start _ kids h.cbox.below (Nat.le_refl _) h.cbox.below.size⟩

section
variable {w wc wr w1 w2 w3 : World} {a b c d e : Value} {B : Nat} {k n : Int} {s : ByteArray} {keys : List ByteArray} {kv : Value} {FK : List Nat} {kids : List RT} {j : Nat} {v : Value} {KV DV : Nat → Value} {FF : Nat → List Nat}

theorem LState.step (h : LState w wc wr a b c d e B k n s keys kv FK kids j v KV DV FF) (hj : j < kids.length) (hb1 : Below wr.heap.size wr w1) {kvx dvx : Value} {F : List Nat} (hl : Lies w1 kids[j] kvx dvx F) (hf : Fresh wr w1 F) (hb2 : Below w1.heap.size w1 w2)
    {g cap : Nat} (hgrow : w2.grownBy w3 v.ownBlock) (hown : w3.ownsRow wc.heap.size 27 5 (.slice (some ⟨g, 0, none⟩) (j + 1) cap) (j + 1) (rowsOf kids KV DV j ++ kids[j].row kvx dvx)) (hat : v.ownBlock = some g ∨ g = w2.heap.size) :
    LState w wc (w3.setCell ⟨B, 4, none⟩ (.slice (some ⟨g, 0, none⟩) (j + 1) cap)) a b c d e B k n s keys kv FK kids (j + 1) (.slice (some ⟨g, 0, none⟩) (j + 1) cap) (fun i => if i = j then kvx else KV i) (fun i => if i = j then dvx else DV i) (fun i => if i = j then F else FF i) := by
  have hbw := hb1.trans (hb2.mono hb1.size)
  have hwc := h.laid.size
  have keep : ∀ x, x < wc.heap.size → w3.heap[x]? = wr.heap[x]? := fun x hx => by
    rw [hgrow.block x (by have := hbw.size; omega) (fun e => by have := (h.laid.ownlt x e.symm).1; omega), hbw.block x (by omega)]
  have hout3 := (keep B h.blt).trans h.out
  have hl3 := h.laid.step hj hb1 hl hf hb2 hgrow hown hat
  have hsz := h.cbox.size
  have hcb := h.cbox
  have hwcs : w.heap.size + 2 ≤ wc.heap.size := by have := h.big; have := h.blt; omega
  refine ⟨⟨hl3.below.setCell (by have := h.big; show _ ≤ B; omega) _, ?_, ?_, ?_⟩, heap_set hout3 4 _, h.big, h.blt, ?_, ?_, h.far, hl3.set h.blt (by have := h.big; show _ ≤ B; omega) _⟩
  · have := Nat.le_trans hbw.size hgrow.size
    simp only [World.setCell, Array.size_modify]
    omega
  · rw [Below.heap_setCell _ _ _ _ (by have := h.big; show _ ≠ B; omega), keep _ (by omega)]; exact hcb.box
  · rw [Below.heap_setCell _ _ _ _ (by have := h.big; show _ ≠ B; omega), keep _ (by omega)]; exact hcb.res
  · exact h.strs.carry fun x hx => by rw [Below.heap_setCell _ _ _ _ (by show _ ≠ B; exact (h.far x hx).2.1), keep x (h.far x hx).2.2]
  · exact h.fresh.carry fun x hx => by rw [Below.heap_setCell _ _ _ _ (by show _ ≠ B; exact (h.far x hx).2.1), keep x (h.far x hx).2.2]

theorem LState.done (h : LState w wc wr a b c d e B k n s keys kv FK kids kids.length v KV DV FF) (hfit : Fit k ∧ Fit n ∧ s.size ≤ maxLen) :
    ∃ F, (set5 wr (w.heap.size + 1) 0 (.int .i64 k) (.int .i64 n) (.string s) kv v).heap[w.heap.size + 1]? = some (.cells #[.int .i64 k, .int .i64 n, .string s, kv, v] 27 (0, 0)) ∧
    Lies (set5 wr (w.heap.size + 1) 0 (.int .i64 k) (.int .i64 n) (.string s) kv v) (.node k n s keys kids) kv v F ∧ Fresh w (set5 wr (w.heap.size + 1) 0 (.int .i64 k) (.int .i64 n) (.string s) kv v) F ∧
    Below w.heap.size w (set5 wr (w.heap.size + 1) 0 (.int .i64 k) (.int .i64 n) (.string s) kv v) := by
  obtain ⟨F, hD, hf, -⟩ := h.laid.done
  have hb := h.big
  have hblt := h.blt
  exact ⟨FK ++ F, copy_fin h.cbox hfit h.strs hD (h.fresh.append (fun x hx => (h.far x hx).2.2) hf (by omega)) fun x hx => by
    rcases List.mem_append.1 hx with hx | hx
    · exact (h.far x hx).1
    · have := hf.old x hx; omega⟩
end

set_option maxRecDepth 100000 in
set_option maxHeartbeats 3200000 in
theorem scopy_node (T : RT) : SCopyAt T := by
  induction T using RT.ind with
  | h k n s keys kids ih =>
    intro w kv dv F hl hsz
    obtain ⟨hk, hn, hs, FK, FD, hK, hD, -⟩ := hl.outn
    clear hl
    rw [RT.sz] at hsz
    have HX := Lib.hid (CBox.start w 27 (.int .i64 k) (.int .i64 n) (.string s) kv dv)
    have HF : Hid (Fit k ∧ Fit n ∧ s.size ≤ maxLen) := ⟨hk, hn, hs⟩
    have HDk := Lib.hid hD
    obtain ⟨o2, q2, rfl⟩ := hD.slice
    have HKs := Lib.hid hK
    obtain ⟨ko, kc, rfl⟩ := hK.slice
    obtain ⟨i0, hi0, hz0, hz1, hz2⟩ := info_parts info_string
    clear hk hn hs hD hK
    show Calls Tryz.prog 64 #[.agg #[.int .i64 k, .int .i64 n, .string s, .slice ko keys.length kc, .slice o2 kids.length q2]] w fun e w' => ∃ kv' dv' F', e = .returned (.agg #[.int .i64 k, .int .i64 n, .string s, kv', dv']) ∧ Lies w' (.node k n s keys kids) kv' dv' F' ∧ Fresh w w' F' ∧ Below w.heap.size w w'
    go_enter Tryz.func64, Tryz.ntmps64
    go_upto_region 1 with fail
    go_cut [3] (fun p wc => ∃ (B : Nat) (o : Option Addr) (c : Nat) (FK' : List Nat), p = .pointer (some ⟨B, 0, none⟩) ∧ Hid (SState w wc (.int .i64 k) (.int .i64 n) (.string s) (.slice ko keys.length kc) (.slice o2 kids.length q2) B k n s keys (.slice o keys.length c) FK'))
    case first =>
      obtain ⟨x0, x1, x2, x3, x4, -⟩ := five HX.out.box
      by_cases hk0 : keys = []
      · subst hk0
        go_region_held3 (fun w' => w'.cell? ⟨w.heap.size, 0, none⟩ = some (.int .i64 k) ∧ w'.cell? ⟨w.heap.size, 1, none⟩ = some (.int .i64 n) ∧ w'.cell? ⟨w.heap.size, 2, none⟩ = some (.string s) ∧ w'.cell? ⟨w.heap.size, 3, none⟩ = some (.slice ko 0 kc)) (go_keep)
          (first
            | (refine step_append_nothing (by rfl) _ _ (by rfl) _ ko 0 kc (by rfl) (by rfl) ?_))
        all_goals go_wp2_with fail
        all_goals go_meet
        all_goals
          have e2 : ((w.alloc (Obj.cells #[.int .i64 k, .int .i64 n, .string s, .slice ko 0 kc, .slice o2 kids.length q2] 27)).alloc (Obj.cells #[.int .i64 0, .int .i64 0, .string ⟨#[]⟩, .slice none 0 0, .slice none 0 0] 27)).heap.size = w.heap.size + 1 + 1 := by simp
          have ta := two_more ((w.alloc (Obj.cells #[.int .i64 k, .int .i64 n, .string s, .slice ko 0 kc, .slice o2 kids.length q2] 27)).alloc (Obj.cells #[.int .i64 0, .int .i64 0, .string ⟨#[]⟩, .slice none 0 0, .slice none 0 0] 27)) (.cells #[] 9) (.cells #[.int .i64 k, .int .i64 n, .string s, .slice (some ⟨w.heap.size + 1 + 1, 0, none⟩) 0 0, .slice none 0 0] 27) e2
          have tb := two_more ((w.alloc (Obj.cells #[.int .i64 k, .int .i64 n, .string s, .slice ko 0 kc, .slice o2 kids.length q2] 27)).alloc (Obj.cells #[.int .i64 0, .int .i64 0, .string ⟨#[]⟩, .slice none 0 0, .slice none 0 0] 27)) (.cells #[.int .i64 k, .int .i64 n, .string s, .slice (some ⟨w.heap.size + 1 + 1 + 1, 0, none⟩) 0 0, .slice none 0 0] 27) (.cells #[] 9) e2
          first
            | exact ⟨_, _, _, [], rfl, ⟨HX.out.next ta.2.2.2, ta.2.1, by omega, strs_nil _ _, Fresh.nil _ _, fun x hx => absurd hx (by simp)⟩⟩
            | exact ⟨_, _, _, [], rfl, ⟨HX.out.next tb.2.2.2, tb.1, by omega, strs_nil _ _, Fresh.nil _ _, fun x hx => absurd hx (by simp)⟩⟩
      · have hkl : 0 < keys.length := by rcases keys with _ | ⟨x, l⟩; exact absurd rfl hk0; simp
        obtain ⟨ko', kc', kb, kof, hkv, hlc, hcm, ho, -, hcell, -⟩ := HKs.out
        injection hkv with hv1 hv2 hv3
        subst hv1 hv3
        have ho := ho (by omega)
        subst ho
        have HN : Hid (∀ wr, Below w.heap.size w wr → ∀ j u, (keys.map Value.string)[j]? = some u → wr.cell? ((⟨kb, kof, none⟩ : Addr).add j) = some u) := fun wr hb j u hu => by
          rw [List.getElem?_map] at hu
          obtain ⟨x, hx, rfl⟩ := Option.map_eq_some_iff.1 hu
          obtain ⟨hj, rfl⟩ := List.getElem?_eq_some_iff.1 hx
          rw [Go.WideShapes.add_plain, hb.cell (by exact World.block_lt_of_cell? _ _ (hcell j hj).1)]
          exact (hcell j hj).1
        have HSz : Hid (∀ i (h : i < keys.length), keys[i].size ≤ maxLen) := fun i hi => (hcell i hi).2
        have E2 : Hid (((w.alloc (Obj.cells #[.int .i64 k, .int .i64 n, .string s, .slice (some ⟨kb, kof, none⟩) keys.length kc, .slice o2 kids.length q2] 27)).alloc (Obj.cells #[.int .i64 0, .int .i64 0, .string ⟨#[]⟩, .slice none 0 0, .slice none 0 0] 27)).heap.size = w.heap.size + 1 + 1) := by show _ = _; simp
        clear hcell hk0 HKs
        generalize ((w.alloc (Obj.cells #[.int .i64 k, .int .i64 n, .string s, .slice (some ⟨kb, kof, none⟩) keys.length kc, .slice o2 kids.length q2] 27)).alloc (Obj.cells #[.int .i64 0, .int .i64 0, .string ⟨#[]⟩, .slice none 0 0, .slice none 0 0] 27)) = w2 at *
        have LE : Hid (w.heap.size + 2 ≤ w2.heap.size) := by show _ ≤ _; have := E2.out; omega
        have ne1 : ¬ (w.heap.size = w2.heap.size) := by have := LE.out; omega
        have ne2 : ¬ (w.heap.size = w2.heap.size + 1) := by have := LE.out; omega
        have ne3 : ¬ (w2.heap.size = w.heap.size) := by have := LE.out; omega
        have ne4 : ¬ (w2.heap.size + 1 = w.heap.size) := by have := LE.out; omega
        have O1 := Lib.hid (one_more w2 (.cells #[] 9) rfl)
        have O2 := Lib.hid (two_more w2 (.cells #[] 9) (.cells #[.int .i64 0, .int .i64 0, .string ⟨#[]⟩, .slice none 0 0, .slice none 0 0] 27) rfl)
        have O3 := Lib.hid (two_more w2 (.cells #[.int .i64 0, .int .i64 0, .string ⟨#[]⟩, .slice none 0 0, .slice none 0 0] 27) (.cells #[] 9) rfl)
        go_region_held3 (fun w' => w'.cell? ⟨w.heap.size, 0, none⟩ = some (.int .i64 k) ∧ w'.cell? ⟨w.heap.size, 1, none⟩ = some (.int .i64 n) ∧ w'.cell? ⟨w.heap.size, 2, none⟩ = some (.string s) ∧ w'.cell? ⟨w.heap.size, 3, none⟩ = some (.slice (some ⟨kb, kof, none⟩) keys.length kc)) (go_keep)
          (first
            | (refine step_append_lies _ (by rfl) _ _ _ (by rfl) (w.heap.size + 2) 9 i0 _ 1 16 Tryz.underlying24 hi0 hz0 hz1 hz2 rfl (by decide) (.slice (some ⟨w2.heap.size, 0, none⟩) 0 0) 0 [] (by rfl) (owns_empty O1.out.1 LE.out) ⟨kb, kof, none⟩ keys.length kc (keys.map Value.string) (by rfl) (by simp) (HN.out _ (HX.out.next O1.out.2.2).below) (by simp [Value.oneCell']) hkl (by unfold maxLen; omega) (by omega) (HX.out.next O1.out.2.2).size _ rfl ?_
               intro g cap' w4 hown4 hgrow4 hat4 hlt4
               replace hgrow4 := (show World.grownBy _ w4 (some (w2.heap.size)) from hgrow4)
               replace hat4 := (show (some (w2.heap.size) = some g) ∨ _ from hat4)
               have hC := CBox.grow (HX.out.next O1.out.2.2) hgrow4 LE.out
               obtain ⟨p0, p1, p2, p3, p4, -⟩ := five hC.box
               have H4 := Lib.hid (And.intro hC (And.intro hown4 hat4))
               clear hown4 hgrow4 hat4 hlt4 hC)
            | (refine step_append_lies _ (by rfl) _ _ _ (by rfl) (w.heap.size + 2) 9 i0 _ 1 16 Tryz.underlying24 hi0 hz0 hz1 hz2 rfl (by decide) (.slice (some ⟨w2.heap.size, 0, none⟩) 0 0) 0 [] (by rfl) (owns_empty O2.out.1 LE.out) ⟨kb, kof, none⟩ keys.length kc (keys.map Value.string) (by rfl) (by simp) (HN.out _ (HX.out.next O2.out.2.2.2).below) (by simp [Value.oneCell']) hkl (by unfold maxLen; omega) (by omega) (HX.out.next O2.out.2.2.2).size _ rfl ?_
               intro g cap' w4 hown4 hgrow4 hat4 hlt4
               replace hgrow4 := (show World.grownBy _ w4 (some (w2.heap.size)) from hgrow4)
               replace hat4 := (show (some (w2.heap.size) = some g) ∨ _ from hat4)
               have hC := CBox.grow (HX.out.next O2.out.2.2.2) hgrow4 LE.out
               obtain ⟨p0, p1, p2, p3, p4, -⟩ := five hC.box
               have hB := (hgrow4.block (w2.heap.size + 1) (by rw [O2.out.2.2.1]; omega) (fun e => by simp at e)).trans O2.out.2.1
               obtain ⟨z0, z1, z2, z3, z4, z5⟩ := five hB
               have HB4 := Lib.hid hB
               clear hB
               have H4 := Lib.hid (And.intro hC (And.intro hown4 hat4))
               clear hown4 hgrow4 hat4 hlt4 hC)
            | (refine step_append_lies _ (by rfl) _ _ _ (by rfl) (w.heap.size + 2) 9 i0 _ 1 16 Tryz.underlying24 hi0 hz0 hz1 hz2 rfl (by decide) (.slice (some ⟨w2.heap.size + 1, 0, none⟩) 0 0) 0 [] (by rfl) (owns_empty O3.out.2.1 (Nat.le_succ_of_le LE.out)) ⟨kb, kof, none⟩ keys.length kc (keys.map Value.string) (by rfl) (by simp) (HN.out _ (HX.out.next O3.out.2.2.2).below) (by simp [Value.oneCell']) hkl (by unfold maxLen; omega) (by omega) (HX.out.next O3.out.2.2.2).size _ rfl ?_
               intro g cap' w4 hown4 hgrow4 hat4 hlt4
               replace hgrow4 := (show World.grownBy _ w4 (some (w2.heap.size + 1)) from hgrow4)
               replace hat4 := (show (some (w2.heap.size + 1) = some g) ∨ _ from hat4)
               have hC := CBox.grow (HX.out.next O3.out.2.2.2) hgrow4 (Nat.le_succ_of_le LE.out)
               obtain ⟨p0, p1, p2, p3, p4, -⟩ := five hC.box
               have hB := (hgrow4.block (w2.heap.size) (by rw [O3.out.2.2.1]; omega) (fun e => by simp at e)).trans O3.out.1
               obtain ⟨z0, z1, z2, z3, z4, z5⟩ := five hB
               have HB4 := Lib.hid hB
               clear hB
               have H4 := Lib.hid (And.intro hC (And.intro hown4 hat4))
               clear hown4 hgrow4 hat4 hlt4 hC))
        all_goals go_wp2_with fail
        all_goals go_meet
        · obtain ⟨hC, hown4, -⟩ := H4.out
          exact ⟨_, _, _, _, rfl, sstate_alloc hC hkl HSz.out hown4⟩
        · obtain ⟨hC, hown4, hat4⟩ := H4.out
          refine ⟨_, _, _, _, rfl, sstate_put hC hkl HSz.out hown4 (by have := LE.out; omega) ?_ HB4.out⟩
          rcases hat4 with e | e
          · injection e with e; omega
          · rw [O2.out.2.2.1] at e; omega
        · obtain ⟨hC, hown4, hat4⟩ := H4.out
          refine ⟨_, _, _, _, rfl, sstate_put hC hkl HSz.out hown4 (by have := LE.out; omega) ?_ HB4.out⟩
          rcases hat4 with e | e
          · injection e with e; omega
          · rw [O3.out.2.2.1] at e; omega
    case rest =>
      obtain ⟨B, o, c, FK', rfl, hst⟩ := hcut
      obtain ⟨o2', cap, b, off, FF, KV, DV, hdv, hlc, hcm, ho, -, hcell, hlies, -⟩ := HDk.out
      injection hdv with hv1 hv2 hv3
      subst hv1 hv3
      have HC := Lib.hid hcell
      have HL := Lib.hid hlies
      have HO := Lib.hid ho
      clear hcell hlies ho HX HDk HKs
      unfold maxLen at hcm
      have hsk : kids.length + szAll kids ≤ 4000000 := by omega
      obtain ⟨j0, hj0, hy0, hy1, hy2⟩ := info_parts info_node
      go_wp2
      go_loopw [4] (fun i wr => ∃ (j : Nat) (v : Value) (KV' DV' : Nat → Value) (FF' : Nat → List Nat), j ≤ kids.length ∧ i = .int .i64 j ∧ Hid (LState w wc wr (.int .i64 k) (.int .i64 n) (.string s) (.slice ko keys.length kc) (.slice o2 kids.length q2) B k n s keys (.slice o keys.length c) FK' kids j v KV' DV' FF')) (fun i _ => kids.length - (intOf i).toNat)
      case atStart => exact ⟨0, _, _, _, _, Nat.zero_le _, rfl, hst.out.loop kids⟩
      case round =>
        obtain ⟨j, v, KV', DV', FF', hj, rfl, hr⟩ := hrel
        obtain ⟨x0, x1, x2, x3, x4, -⟩ := five hr.out.cbox.box
        obtain ⟨ov, cv, hvs⟩ := hr.out.laid.slice
        by_cases hlt : j < kids.length
        · have ho := HO.out (by omega)
          subst ho
          obtain ⟨y0, y1, y2, y3, y4, y5⟩ := five hr.out.out
          obtain ⟨c0, c1, c2, c3, c4⟩ := kid_cells (HC.out j hlt) hr.out.cbox.below
          have HI : Hid (∀ w1 : World, Below w.heap.size w w1 → Calls Tryz.prog 64 #[.agg #[.int .i64 kids[j].k, .int .i64 kids[j].n, .string kids[j].s, KV j, DV j]] w1 fun e w' => ∃ u, e = .returned u ∧ ∃ kv' dv' F', u = .agg #[.int .i64 kids[j].k, .int .i64 kids[j].n, .string kids[j].s, kv', dv'] ∧ Lies w' kids[j] kv' dv' F' ∧ Fresh w1 w' F' ∧ Below w1.heap.size w1 w') := fun w1 hb1 => by
            refine (ih _ (List.getElem_mem hlt) w1 _ _ _ ((HL.out j hlt).stay hb1 (Nat.le_refl _)) (Nat.le_trans (sz_take kids (List.getElem_mem hlt)) (by omega))).mono ?_
            rintro e w' ⟨kv', dv', F', rfl, g1, g2, g3⟩
            exact ⟨_, rfl, kv', dv', F', rfl, g1, g2, g3⟩
          have HS := Lib.hid fun (w1 w2 w3 : World) (kvx dvx : Value) (F : List Nat) (g cap : Nat) => hr.out.step (w1 := w1) (w2 := w2) (w3 := w3) (kvx := kvx) (dvx := dvx) (F := F) (g := g) (cap := cap) hlt
          have HBl : Hid (b < wr.heap.size ∧ B < wr.heap.size ∧ w.heap.size < wr.heap.size) := ⟨World.block_lt_of_cell? _ _ c0, World.block_lt_of_cell? _ _ y4, World.block_lt_of_cell? _ _ x4⟩
          have hi0 : (0 : Int) ≤ (j : Int) := by omega
          have hi1 : (j : Int) < (kids.length : Int) := by omega
          generalize hxe : kids[j] = x at *
          have HXe := Lib.hid hxe
          clear hxe
          subst hvs
          clear x0 x1 x2 x3 y0 y1 y2 y3
          go_wp2
          go_region_law (first
            | (refine step_call (by rfl) _ (by rfl) _ (by rfl) (HI.out _ (below_drewN hr.out.cbox.below 1)) ?_
               rintro u w1 ⟨kv1, dv1, F1, rfl, hl1, hf1, hb1⟩
               obtain ⟨⟨o3, q3, rfl⟩, ⟨o4, q4, rfl⟩⟩ := hl1.slices
               have hb01 := (below_drewN (Below.refl wr.heap.size wr) 1).trans (hb1.mono (Nat.le_refl _))
               have m1 : w1.cell? ⟨B, 4, none⟩ = _ := (hb01.cell (by exact HBl.out.2.1)).trans y4
               have m2 : ∀ ob, (w1.alloc ob).cell? ⟨B, 4, none⟩ = _ := fun ob => (World.cell?_alloc_lt w1 ob ⟨B, 4, none⟩ (Nat.lt_of_lt_of_le HBl.out.2.1 hb01.size)).trans m1
               have H1 := Lib.hid (And.intro hb01 (And.intro hl1 (hf1.earlier (w := wr) (Nat.le_refl _))))
               clear hl1 hf1 hb1 hb01)
            | (refine step_append_lies _ (by rfl) _ _ _ (by rfl) wc.heap.size 27 j0 _ 5 80 Tryz.underlying25 hj0 hy0 hy1 hy2 rfl (by decide) (.slice ov j cv) j (rowsOf kids KV' DV' j) (by rfl) (owns_below (owns_below hr.out.laid.own H1.out.1) ((Below.refl _ w1).alloc (Nat.le_refl _) _)) ⟨w1.heap.size, 0, none⟩ 1 1 [.int .i64 x.k, .int .i64 x.n, .string x.s, .slice o3 x.keys.length q3, .slice o4 x.kids.length q4] (by rfl) (by rfl) (World.news_of_block (cs := #[.int .i64 x.k, .int .i64 x.n, .string x.s, .slice o3 x.keys.length q3, .slice o4 x.kids.length q4]) (t := 27) (fr := (0, 0)) (heap_last w1 _)) (by simp [Value.oneCell']) (by omega) (by unfold maxLen; omega) (by omega) (by have := hr.out.laid.size; have := H1.out.1.size; simp; omega) _ rfl ?_
               intro g cap' w3 hown3 hgrow3 hat3 hlt3
               have hx3 := HS.out w1 _ w3 _ _ _ g cap' H1.out.1 H1.out.2.1 H1.out.2.2 ((Below.refl _ w1).alloc (Nat.le_refl _) _) hgrow3 hown3 hat3
               have hBf := hgrow3.block B (by have := H1.out.1.size; have := HBl.out.2.1; simp; omega) (fun e => by have := (hr.out.laid.ownlt B e.symm).1; have := hr.out.blt; omega)
               have k1 : w3.cell? ⟨B, 4, none⟩ = _ := (World.cell?_of_block (a := ⟨B, 4, none⟩) hBf).trans (m2 _)
               have k2 : w3.frozen? ⟨B, 4, none⟩ = false := (World.frozen?_of_block (a := ⟨B, 4, none⟩) hBf).trans (by rw [((Below.refl _ w1).alloc (Nat.le_refl _) _).frozen (by have := H1.out.1.size; have := HBl.out.2.1; show B < _; omega), H1.out.1.frozen (by exact HBl.out.2.1)]; exact y5 4)
               have H3 := Lib.hid hx3
               clear hown3 hgrow3 hat3 hlt3 hx3 hBf)
            | fail)
          all_goals go_wp2
          all_goals exact ⟨⟨j + 1, _, _, _, _, by omega, by go_num, H3.out⟩, by simp [intOf]; omega⟩
        · have e : j = kids.length := by omega
          subst e
          have HD := Lib.hid (hr.out.done HF.out)
          subst hvs
          obtain ⟨y0, y1, y2, y3, y4, -⟩ := five hr.out.out
          obtain ⟨z0, z1, z2, z3, z4, z5⟩ := five hr.out.cbox.res
          go_wp2
          obtain ⟨F', hfin⟩ := HD.out
          exact bodyPost_ret (ret_node Tryz.results64 rfl hfin.1) rfl ⟨_, _, _, rfl, hfin.2⟩
end Go.Proofs.YtelpkcbbipianaaGreat

/- the model's l3At and Get at every tree: the first place of a Key that has a Kid; what stands there, in memory of its own. -/
namespace Go.Proofs.YtelpkcbbipianaaGreat
open Go Go.RowKit

/-- A map's first such Key that has a Kid stands there. -/
def HasAt (k : Int) (keys : List ByteArray) (m : Nat) (key : ByteArray) (i : Nat) : Prop := k = 5 ∧ i < m ∧ FirstAt keys key i
def NoneAt (k : Int) (keys : List ByteArray) (m : Nat) (key : ByteArray) : Prop := k = 5 → ∀ i (h : i < keys.length), i < m → ¬ keys[i] = key

set_option maxRecDepth 100000 in
set_option maxHeartbeats 1600000 in
theorem spec_at_any (w : World) {kv : Value} {keys : List ByteArray} {FK : List Nat} (hK : StrsAt w kv keys FK) (k n : Int) (s : ByteArray) (o : Option Addr) (m q : Nat) (hm : m ≤ maxLen) (key : ByteArray) :
    Calls Tryz.prog 65 #[.agg #[.int .i64 k, .int .i64 n, .string s, kv, .slice o m q], .string key] w fun e w' => ((∃ i : Nat, HasAt k keys m key i ∧ e = .returned (.int .i64 i)) ∨ (NoneAt k keys m key ∧ e = .returned (.int .i64 (-1)))) ∧ Below w.heap.size w w' := by
  obtain ⟨ko, cap, b, off, rfl, hlc, hcm, ho, -, hcell, -⟩ := hK
  have HX := Lib.hid (Box.start w (.int .i64 k) (.int .i64 n) (.string s) (.slice ko keys.length cap) (.slice o m q) 27)
  have HC := Lib.hid fun i h => ((Below.refl _ w).alloc (Nat.le_refl _) (.cells #[.int .i64 k, .int .i64 n, .string s, .slice ko keys.length cap, .slice o m q] 27)).cell (p := ⟨b, off + i, none⟩) (World.block_lt_of_cell? _ _ (hcell i h).1) |>.trans (hcell i h).1
  have HO := Lib.hid ho
  clear hcell ho
  unfold maxLen at hcm hm
  go_enter Tryz.func65, Tryz.ntmps65
  go_wp2
  go_loop [5] (fun i => ∃ j : Nat, j ≤ keys.length ∧ i = .int .i64 j ∧ Hid (∀ i (h : i < keys.length), i < j → ¬ keys[i] = key)) (fun i => keys.length - (intOf i).toNat)
  case atStart => exact ⟨0, Nat.zero_le _, rfl, fun j _ h => absurd h (by omega)⟩
  case round =>
    obtain ⟨j, hj, rfl, hr⟩ := hrel
    by_cases hlt : j < keys.length
    · by_cases hm2 : j < m
      · by_cases h5 : k = 5
        · subst h5
          have ho := HO.out (by omega)
          subst ho
          have c0 := HC.out j hlt
          by_cases he : keys[j] = key
          · have HE : Hid (HasAt 5 keys m key j) := ⟨rfl, hm2, hlt, he, fun i hi => hr.out i (by omega) hi⟩
            rw [he] at c0
            clear he
            go_wp2
            go_ret
            exact ⟨.inl ⟨j, HE.out, rfl⟩, HX.out.below⟩
          · have HS : Hid (∀ i (h : i < keys.length), i < j + 1 → ¬ keys[i] = key) := fun i h hi => by
              by_cases e : i = j
              · subst e; exact he
              · exact hr.out i h (by omega)
            have he' := bytes_ne he
            clear he
            generalize keys[j] = x at *
            go_wp2
            go_round
            case rel => exact ⟨j + 1, by omega, by go_num, HS.out⟩
            case measure => simp [intOf]; omega
        · have e5 : (k == 5) = false := by simp [h5]
          have HA : Hid (NoneAt k keys m key) := fun h => absurd h h5
          clear h5
          go_wp2
          go_ret
          exact ⟨.inr ⟨HA.out, rfl⟩, HX.out.below⟩
      · have HA : Hid (NoneAt k keys m key) := fun _ i h hi => hr.out i h (by omega)
        go_wp2
        go_ret
        exact ⟨.inr ⟨HA.out, rfl⟩, HX.out.below⟩
    · have HA : Hid (NoneAt k keys m key) := fun _ i h _ => hr.out i h (by omega)
      go_wp2
      go_ret
      exact ⟨.inr ⟨HA.out, rfl⟩, HX.out.below⟩

theorem ret_nodeT {fn : Func} {i j : Nat} (hres : fn.results = #[ResultVar.cell i 27, ResultVar.tmp j]) {tmps : Array Value} {w : World} {b : Nat} {t : TypeId} {a0 a1 a2 a3 a4 v : Value}
    (ht : tmps[i]?.getD undef = .pointer (some ⟨b, 0, none⟩)) (hv : tmps[j]?.getD undef = v) (h : w.heap[b]? = some (.cells #[a0, a1, a2, a3, a4] t (0, 0))) : (results fn tmps).run Tryz.prog w = .ok (.tuple #[.agg #[a0, a1, a2, a3, a4], v]) w := by
  obtain ⟨c0, c1, c2, c3, c4, -⟩ := five h
  simp [results, hres, ht, hv, go_sem, c0, c1, c2, c3, c4]

theorem has_unique {k : Int} {keys : List ByteArray} {m : Nat} {key : ByteArray} {i j : Nat} (hi : HasAt k keys m key i) (hj : HasAt k keys m key j) : i = j := by
  obtain ⟨-, -, h1, h2, h3⟩ := hi
  obtain ⟨-, -, g1, g2, g3⟩ := hj
  rcases Nat.lt_trichotomy i j with h | h | h
  · exact absurd h2 (g3 i h)
  · exact h
  · exact absurd g2 (h3 j h)
theorem has_none {k : Int} {keys : List ByteArray} {m : Nat} {key : ByteArray} {i : Nat} (hi : HasAt k keys m key i) (h : NoneAt k keys m key) : False := by
  obtain ⟨h1, h2, h3, h4, -⟩ := hi
  exact h h1 i h3 h2 h4

set_option maxRecDepth 100000 in
set_option maxHeartbeats 1600000 in
theorem spec_get_yes (T : RT) (key : ByteArray) (i : Nat) (hi : HasAt T.k T.keys T.kids.length key i) (hik : i < T.kids.length) (w : World) (kv dv : Value) (F : List Nat) (hl : Lies w T kv dv F) (hsz : T.sz ≤ 1048576) :
    Calls Tryz.prog 41 #[.agg #[.int .i64 T.k, .int .i64 T.n, .string T.s, kv, dv], .string key] w fun e w' => ∃ kv' dv' F', e = .returned (.tuple #[.agg #[.int .i64 (T.kids[i]).k, .int .i64 (T.kids[i]).n, .string (T.kids[i]).s, kv', dv'], .bool true]) ∧ Lies w' T.kids[i] kv' dv' F' ∧ Fresh w w' F' ∧ Below w.heap.size w w' := by
  cases T with
  | node k n s keys kids =>
    obtain ⟨hk, hn, hs, FK, FD, hK, hD, -⟩ := hl.outn
    clear hl
    rw [RT.sz] at hsz
    replace hi : HasAt k keys kids.length key i := hi
    replace hik : i < kids.length := hik
    have HX := Lib.hid (CBox.start w 27 (.int .i64 k) (.int .i64 n) (.string s) kv dv)
    obtain ⟨o2, q2, b, off, FF, KV, DV, rfl, hlc2, hcm2, ho2, -, hcell2, hlies2, -⟩ := hD
    have HIx : Hid (∀ wr, Below w.heap.size w wr → Calls Tryz.prog 65 #[.agg #[.int .i64 k, .int .i64 n, .string s, kv, .slice o2 kids.length q2], .string key] wr fun e w' => e = .returned (.int .i64 i) ∧ Below wr.heap.size wr w') := fun wr hb => by
      refine (spec_at_any wr (hK.stay hb (Nat.le_refl _)) k n s o2 kids.length q2 (Nat.le_trans hlc2 hcm2) key).mono ?_
      rintro e w' ⟨⟨j, hj, rfl⟩ | ⟨ha, rfl⟩, hb'⟩
      · rw [has_unique hi hj]; exact ⟨rfl, hb'⟩
      · exact (has_none hi ha).elim
    obtain ⟨ko, kc, rfl⟩ := hK.slice
    have HC := Lib.hid (fun (wx : World) (hb : Below w.heap.size w wx) => kid_cells (hcell2 i hik) hb)
    have HCp := Lib.hid fun (w1 : World) (hb : Below w.heap.size w w1) => scopy_node kids[i] w1 _ _ _ ((hlies2 i hik).stay hb (Nat.le_refl _)) (Nat.le_trans (sz_take kids (List.getElem_mem hik)) (by omega))
    have ho2 := ho2 (by omega)
    subst ho2
    obtain ⟨⟨os1, qs1, es1⟩, ⟨os2, qs2, es2⟩⟩ := (hlies2 i hik).slices
    have hj0 : ¬ (i : Int) < 0 := by omega
    have hj00 : (0 : Int) ≤ (i : Int) := by omega
    have hj1 : (i : Int) < (kids.length : Int) := by omega
    clear hcell2 hlies2 hi hK
    show Calls Tryz.prog 41 #[.agg #[.int .i64 k, .int .i64 n, .string s, .slice ko keys.length kc, .slice (some ⟨b, off, none⟩) kids.length q2], .string key] w fun e w' => ∃ kv' dv' F', e = .returned (.tuple #[.agg #[.int .i64 (kids[i]).k, .int .i64 (kids[i]).n, .string (kids[i]).s, kv', dv'], .bool true]) ∧ Lies w' kids[i] kv' dv' F' ∧ Fresh w w' F' ∧ Below w.heap.size w w'
    generalize kids[i] = X at *
    generalize KV i = v1 at *
    generalize DV i = v2 at *
    subst es1 es2
    unfold maxLen at hcm2
    go_enter Tryz.func41, Tryz.ntmps41
    go_wp2_with (first
      | (go_at_call 65; refine (HIx.out _ HX.out.below).mono ?_; rintro e w1 ⟨rfl, hb⟩; replace HX := Lib.hid (HX.out.next hb); clear hb; obtain ⟨x0, x1, x2, x3, x4, -⟩ := five HX.out.box; obtain ⟨c0, c1, c2, c3, c4⟩ := HC.out w1 HX.out.below)
      | (go_at_call 64; refine (HCp.out _ HX.out.below).mono ?_; rintro e w3 ⟨kv3, dv3, F3, rfl, hl3, hf3, hb3⟩; obtain ⟨⟨o3, q3, rfl⟩, ⟨o4, q4, rfl⟩⟩ := hl3.slices; have H3 := Lib.hid (And.intro hl3 (And.intro hf3 (And.intro hb3 HX.out))); obtain ⟨z0, z1, z2, z3, z4, z5⟩ := five (HX.out.next hb3).res; clear hl3 hf3 hb3)
      | fail)
    obtain ⟨hl3, hf3, hb3, hX2⟩ := H3.out
    have hX3 := hX2.next hb3
    have keep : ∀ y ∈ F3, (set5 w3 (w.heap.size + 1) 0 (.int .i64 X.k) (.int .i64 X.n) (.string X.s) (.slice o3 X.keys.length q3) (.slice o4 X.kids.length q4)).heap[y]? = w3.heap[y]? := fun y hy => set5_other _ _ _ _ _ _ _ _ _ (by have := hf3.old y hy; have := hX2.size; omega)
    exact bodyPost_ret (ret_nodeT Tryz.results41 rfl rfl (set5_end hX3.res _ _ _ _ _)) rfl ⟨_, _, _, rfl, hl3.carry keep, (hf3.carry keep).earlier hX2.below.size, set5_below hX3.below (by omega) _ _ _ _ _ _⟩

set_option maxRecDepth 100000 in
set_option maxHeartbeats 1600000 in
theorem spec_get_no (T : RT) (key : ByteArray) (hi : NoneAt T.k T.keys T.kids.length key) (w : World) (kv dv : Value) (F : List Nat) (hl : Lies w T kv dv F) :
    Calls Tryz.prog 41 #[.agg #[.int .i64 T.k, .int .i64 T.n, .string T.s, kv, dv], .string key] w fun e w' => e = .returned (.tuple #[.agg #[.int .i64 0, .int .i64 0, .string ⟨#[]⟩, .slice none 0 0, .slice none 0 0], .bool false]) ∧ Below w.heap.size w w' := by
  cases T with
  | node k n s keys kids =>
    obtain ⟨hk, hn, hs, FK, FD, hK, hD, -⟩ := hl.outn
    clear hl
    replace hi : NoneAt k keys kids.length key := hi
    have HX := Lib.hid (CBox.start w 27 (.int .i64 k) (.int .i64 n) (.string s) kv dv)
    obtain ⟨o2, q2, b, off, FF, KV, DV, rfl, hlc2, hcm2, -⟩ := hD
    have HIx : Hid (∀ wr, Below w.heap.size w wr → Calls Tryz.prog 65 #[.agg #[.int .i64 k, .int .i64 n, .string s, kv, .slice o2 kids.length q2], .string key] wr fun e w' => e = .returned (.int .i64 (-1)) ∧ Below wr.heap.size wr w') := fun wr hb => by
      refine (spec_at_any wr (hK.stay hb (Nat.le_refl _)) k n s o2 kids.length q2 (Nat.le_trans hlc2 hcm2) key).mono ?_
      rintro e w' ⟨⟨j, hj, rfl⟩ | ⟨ha, rfl⟩, hb'⟩
      · exact (has_none hj hi).elim
      · exact ⟨rfl, hb'⟩
    obtain ⟨ko, kc, rfl⟩ := hK.slice
    clear hK hi
    show Calls Tryz.prog 41 #[.agg #[.int .i64 k, .int .i64 n, .string s, .slice ko keys.length kc, .slice o2 kids.length q2], .string key] w _
    go_enter Tryz.func41, Tryz.ntmps41
    go_wp2_with (first
      | (go_at_call 65; refine (HIx.out _ HX.out.below).mono ?_; rintro e w1 ⟨rfl, hb⟩; replace HX := Lib.hid (HX.out.next hb); clear hb; obtain ⟨z0, z1, z2, z3, z4, z5⟩ := five HX.out.res)
      | fail)
    exact bodyPost_ret (ret_nodeT Tryz.results41 rfl rfl (set5_end HX.out.res _ _ _ _ _)) rfl ⟨rfl, set5_below HX.out.below (by omega) _ _ _ _ _ _⟩
end Go.Proofs.YtelpkcbbipianaaGreat
