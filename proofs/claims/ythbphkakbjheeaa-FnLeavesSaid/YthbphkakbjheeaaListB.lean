/-
  What is proved: the program's ListOf and the model's ListOf lay the same list into new memory.
-/
import Derived.Test.YthbphkakbjheeaaCopyS
import Derived.Test.YthbphkakbjheeaaLeaf
import Derived.Test.YthbphkakbjheeaaOkN
namespace Go.Proofs.Ythbphkakbjheeaa
open Go Go.RowKit

/-- A list of trees, as one tree. -/
def listT (kids : List RT) : RT := .node 4 0 ⟨#[]⟩ [] kids

theorem list_lies {w : World} {kids : List RT} {dv : Value} {F : List Nat} (h : KidsLie w dv kids F) : Lies w (listT kids) (.slice none 0 0) dv F := by
  have := Lies.into (k := 4) (n := 0) (s := ⟨#[]⟩) (FK := []) ⟨by decide, by decide⟩ ⟨by decide, by decide⟩ (Nat.zero_le _) (strs_nil w none) h
  rw [List.nil_append] at this
  exact this

/-- Where the model's ListOf stands in its loop. -/
structure OState (w wc wr : World) (kids : List RT) (j : Nat) (v : Value) (KV DV : Nat → Value) (FF : Nat → List Nat) : Prop where
  below : Below w.heap.size w wr
  res : wr.heap[w.heap.size]? = some (.cells #[.int .i64 0, .int .i64 0, .string ⟨#[]⟩, .slice none 0 0, .slice none 0 0] 30 (0, 0))
  out : wr.heap[w.heap.size + 1]? = some (.cells #[.int .i64 4, .int .i64 0, .string ⟨#[]⟩, .slice none 0 0, v] 30 (0, 0))
  big : w.heap.size + 2 ≤ wc.heap.size
  laid : LaidApp 30 w wc wr kids j v KV DV FF

theorem OState.start (w : World) (kids : List RT) :
    OState w ((w.alloc (.cells #[.int .i64 0, .int .i64 0, .string ⟨#[]⟩, .slice none 0 0, .slice none 0 0] 30)).alloc (.cells #[.int .i64 4, .int .i64 0, .string ⟨#[]⟩, .slice none 0 0, .slice none 0 0] 30))
      ((w.alloc (.cells #[.int .i64 0, .int .i64 0, .string ⟨#[]⟩, .slice none 0 0, .slice none 0 0] 30)).alloc (.cells #[.int .i64 4, .int .i64 0, .string ⟨#[]⟩, .slice none 0 0, .slice none 0 0] 30)) kids 0 (.slice none 0 0) (fun _ => .bool true) (fun _ => .bool true) (fun _ => []) := by
  have hb : Below w.heap.size w ((w.alloc (.cells #[.int .i64 0, .int .i64 0, .string ⟨#[]⟩, .slice none 0 0, .slice none 0 0] 30)).alloc (.cells #[.int .i64 4, .int .i64 0, .string ⟨#[]⟩, .slice none 0 0, .slice none 0 0] 30)) := ((Below.refl _ w).alloc (Nat.le_refl _) _).alloc (by simp) _
  refine ⟨hb, (Below.heap_alloc _ _ _ (by simp)).trans (heap_last w _), ?_, by simp, LaidApp.start _ kids hb (Nat.le_refl _) hb.size⟩
  have := heap_last (w.alloc (.cells #[.int .i64 0, .int .i64 0, .string ⟨#[]⟩, .slice none 0 0, .slice none 0 0] 30)) (.cells #[.int .i64 4, .int .i64 0, .string ⟨#[]⟩, .slice none 0 0, .slice none 0 0] 30)
  simpa using this

theorem OState.step {w wc wr w1 w2 w3 : World} {kids : List RT} {j : Nat} {v : Value} {KV DV : Nat → Value} {FF : Nat → List Nat} (h : OState w wc wr kids j v KV DV FF) (hj : j < kids.length) (hb1 : Below wr.heap.size wr w1) {kvx dvx : Value} {F : List Nat} (hl : Lies w1 kids[j] kvx dvx F) (hf : Fresh wr w1 F) (hb2 : Below w1.heap.size w1 w2)
    {g cap : Nat} (hgrow : w2.grownBy w3 v.ownBlock) (hown : w3.ownsRow wc.heap.size 30 5 (.slice (some ⟨g, 0, none⟩) (j + 1) cap) (j + 1) (rowsOf kids KV DV j ++ kids[j].row kvx dvx)) (hat : v.ownBlock = some g ∨ g = w2.heap.size) :
    OState w wc (w3.setCell ⟨w.heap.size + 1, 4, none⟩ (.slice (some ⟨g, 0, none⟩) (j + 1) cap)) kids (j + 1) (.slice (some ⟨g, 0, none⟩) (j + 1) cap) (fun i => if i = j then kvx else KV i) (fun i => if i = j then dvx else DV i) (fun i => if i = j then F else FF i) := by
  have hbw := hb1.trans (hb2.mono hb1.size)
  have hwc := h.laid.size
  have hbig := h.big
  have keep : ∀ x, x < wc.heap.size → w3.heap[x]? = wr.heap[x]? := fun x hx => by
    rw [hgrow.block x (by have := hbw.size; omega) (fun e => by have := (h.laid.ownlt x e.symm).1; omega), hbw.block x (by omega)]
  have hl3 := h.laid.step hj hb1 hl hf hb2 hgrow hown hat
  refine ⟨hl3.below.setCell (by show _ ≤ w.heap.size + 1; omega) _, ?_, heap_set ((keep _ (by omega)).trans h.out) 4 _, h.big, hl3.set (by show w.heap.size + 1 < _; omega) (by show _ ≤ w.heap.size + 1; omega) _⟩
  rw [Below.heap_setCell _ _ _ _ (by show _ ≠ w.heap.size + 1; omega), keep _ (by omega)]
  exact h.res

theorem OState.done {w wc wr : World} {kids : List RT} {v : Value} {KV DV : Nat → Value} {FF : Nat → List Nat} (h : OState w wc wr kids kids.length v KV DV FF) :
    ∃ F, (set5 wr w.heap.size 0 (.int .i64 4) (.int .i64 0) (.string ⟨#[]⟩) (.slice none 0 0) v).heap[w.heap.size]? = some (.cells #[.int .i64 4, .int .i64 0, .string ⟨#[]⟩, .slice none 0 0, v] 30 (0, 0)) ∧
    Lies (set5 wr w.heap.size 0 (.int .i64 4) (.int .i64 0) (.string ⟨#[]⟩) (.slice none 0 0) v) (listT kids) (.slice none 0 0) v F ∧ Fresh w (set5 wr w.heap.size 0 (.int .i64 4) (.int .i64 0) (.string ⟨#[]⟩) (.slice none 0 0) v) F ∧
    Below w.heap.size w (set5 wr w.heap.size 0 (.int .i64 4) (.int .i64 0) (.string ⟨#[]⟩) (.slice none 0 0) v) := by
  obtain ⟨F, hD, hf, -⟩ := h.laid.done
  have hbig := h.big
  have keep : ∀ x ∈ F, (set5 wr w.heap.size 0 (.int .i64 4) (.int .i64 0) (.string ⟨#[]⟩) (.slice none 0 0) v).heap[x]? = wr.heap[x]? := fun x hx => set5_other _ _ _ _ _ _ _ _ _ (by have := hf.old x hx; omega)
  exact ⟨F, set5_end h.res _ _ _ _ _, list_lies (hD.carry keep), (hf.carry keep).earlier (by omega), set5_below h.below (Nat.le_refl _) _ _ _ _ _ _⟩

set_option maxRecDepth 100000 in
set_option maxHeartbeats 3200000 in
theorem spec_listOf (kids : List RT) (w : World) (dv : Value) (F : List Nat) (hD : KidsLie w dv kids F) (hsz : kids.length + szAll kids ≤ 1048576) :
    Calls Try.prog 25 #[dv] w fun e w' => ∃ dv' F', e = .returned (.agg #[.int .i64 4, .int .i64 0, .string ⟨#[]⟩, .slice none 0 0, dv']) ∧ Lies w' (listT kids) (.slice none 0 0) dv' F' ∧ Fresh w w' F' ∧ Below w.heap.size w w' := by
  obtain ⟨o2, q2, b, off, FF, KV, DV, rfl, hlc, hcm, ho, -, hcell, hlies, -⟩ := hD
  have HC := Lib.hid hcell
  have HL := Lib.hid hlies
  have HO := Lib.hid ho
  clear hcell hlies ho
  unfold maxLen at hcm
  have HST := Lib.hid (OState.start w kids)
  obtain ⟨j0, hj0, hy0, hy1, hy2⟩ := info_parts info_node
  go_enter Try.func25, Try.ntmps25
  go_wp2
  generalize ((w.alloc (Obj.cells #[.int .i64 0, .int .i64 0, .string ⟨#[]⟩, .slice none 0 0, .slice none 0 0] 30)).alloc (Obj.cells #[.int .i64 4, .int .i64 0, .string ⟨#[]⟩, .slice none 0 0, .slice none 0 0] 30)) = wc at *
  go_loopw [4] (fun i wr => ∃ (j : Nat) (v : Value) (KV' DV' : Nat → Value) (FF' : Nat → List Nat), j ≤ kids.length ∧ i = .int .i64 j ∧ Hid (OState w wc wr kids j v KV' DV' FF')) (fun i _ => kids.length - (intOf i).toNat)
  case atStart => exact ⟨0, _, _, _, _, Nat.zero_le _, rfl, HST.out⟩
  case round =>
    obtain ⟨j, v, KV', DV', FF', hj, rfl, hr⟩ := hrel
    obtain ⟨ov, cv, hvs⟩ := hr.out.laid.slice
    by_cases hlt : j < kids.length
    · have ho := HO.out (by omega)
      subst ho
      obtain ⟨y0, y1, y2, y3, y4, y5⟩ := five hr.out.out
      obtain ⟨c0, c1, c2, c3, c4⟩ := kid_cells (HC.out j hlt) hr.out.below
      have HI : Hid (∀ w1 : World, Below w.heap.size w w1 → Calls Try.prog 55 #[.agg #[.int .i64 kids[j].k, .int .i64 kids[j].n, .string kids[j].s, KV j, DV j]] w1 fun e w' => ∃ u, e = .returned u ∧ ∃ kv' dv' F', u = .agg #[.int .i64 kids[j].k, .int .i64 kids[j].n, .string kids[j].s, kv', dv'] ∧ Lies w' kids[j] kv' dv' F' ∧ Fresh w1 w' F' ∧ Below w1.heap.size w1 w') := fun w1 hb1 => by
        refine (scopy_node kids[j] w1 _ _ _ ((HL.out j hlt).stay hb1 (Nat.le_refl _)) (Nat.le_trans (sz_take kids (List.getElem_mem hlt)) (by omega))).mono ?_
        rintro e w' ⟨kv', dv', F', rfl, g1, g2, g3⟩
        exact ⟨_, rfl, kv', dv', F', rfl, g1, g2, g3⟩
      have HS := Lib.hid fun (w1 w2 w3 : World) (kvx dvx : Value) (F : List Nat) (g cap : Nat) => hr.out.step (w1 := w1) (w2 := w2) (w3 := w3) (kvx := kvx) (dvx := dvx) (F := F) (g := g) (cap := cap) hlt
      have HBl : Hid (b < wr.heap.size ∧ w.heap.size + 1 < wr.heap.size) := ⟨World.block_lt_of_cell? _ _ c0, World.block_lt_of_cell? _ _ y4⟩
      have hi0 : (0 : Int) ≤ (j : Int) := by omega
      have hi1 : (j : Int) < (kids.length : Int) := by omega
      generalize kids[j] = x at *
      subst hvs
      clear y0 y1 y2 y3
      go_wp2
      go_region_law (first
        | (refine step_call (by rfl) _ (by rfl) _ (by rfl) (HI.out _ (below_drewN hr.out.below 1)) ?_
           rintro u w1 ⟨kv1, dv1, F1, rfl, hl1, hf1, hb1⟩
           obtain ⟨⟨o3, q3, rfl⟩, ⟨o4, q4, rfl⟩⟩ := hl1.slices
           have hb01 := (below_drewN (Below.refl wr.heap.size wr) 1).trans (hb1.mono (Nat.le_refl _))
           have m1 : w1.cell? ⟨w.heap.size + 1, 4, none⟩ = _ := (hb01.cell (by exact HBl.out.2)).trans y4
           have m2 : ∀ ob, (w1.alloc ob).cell? ⟨w.heap.size + 1, 4, none⟩ = _ := fun ob => (World.cell?_alloc_lt w1 ob ⟨w.heap.size + 1, 4, none⟩ (Nat.lt_of_lt_of_le HBl.out.2 hb01.size)).trans m1
           have H1 := Lib.hid (And.intro hb01 (And.intro hl1 (hf1.earlier (w := wr) (Nat.le_refl _))))
           clear hl1 hf1 hb1 hb01)
        | (refine step_append_lies _ (by rfl) _ _ _ (by rfl) wc.heap.size 30 j0 _ 5 80 Try.underlying26 hj0 hy0 hy1 hy2 rfl (by decide) (.slice ov j cv) j (rowsOf kids KV' DV' j) (by rfl) (owns_below (owns_below hr.out.laid.own H1.out.1) ((Below.refl _ w1).alloc (Nat.le_refl _) _)) ⟨w1.heap.size, 0, none⟩ 1 1 [.int .i64 x.k, .int .i64 x.n, .string x.s, .slice o3 x.keys.length q3, .slice o4 x.kids.length q4] (by rfl) (by rfl) (World.news_of_block (cs := #[.int .i64 x.k, .int .i64 x.n, .string x.s, .slice o3 x.keys.length q3, .slice o4 x.kids.length q4]) (t := 30) (fr := (0, 0)) (heap_last w1 _)) (by simp [Value.oneCell']) (by omega) (by unfold maxLen; omega) (by omega) (by have := hr.out.laid.size; have := H1.out.1.size; simp; omega) _ rfl ?_
           intro g cap' w3 hown3 hgrow3 hat3 hlt3
           have hx3 := HS.out w1 _ w3 _ _ _ g cap' H1.out.1 H1.out.2.1 H1.out.2.2 ((Below.refl _ w1).alloc (Nat.le_refl _) _) hgrow3 hown3 hat3
           have hBf := hgrow3.block (w.heap.size + 1) (by have := H1.out.1.size; have := HBl.out.2; simp; omega) (fun e => by have := (hr.out.laid.ownlt (w.heap.size + 1) e.symm).1; have := hr.out.big; omega)
           have k1 : w3.cell? ⟨w.heap.size + 1, 4, none⟩ = _ := (World.cell?_of_block (a := ⟨w.heap.size + 1, 4, none⟩) hBf).trans (m2 _)
           have k2 : w3.frozen? ⟨w.heap.size + 1, 4, none⟩ = false := (World.frozen?_of_block (a := ⟨w.heap.size + 1, 4, none⟩) hBf).trans (by rw [((Below.refl _ w1).alloc (Nat.le_refl _) _).frozen (by have := H1.out.1.size; have := HBl.out.2; show w.heap.size + 1 < _; omega), H1.out.1.frozen (by exact HBl.out.2)]; exact y5 4)
           have H3 := Lib.hid hx3
           clear hown3 hgrow3 hat3 hlt3 hx3 hBf)
        | fail)
      all_goals go_wp2
      all_goals exact ⟨⟨j + 1, _, _, _, _, by omega, by go_num, H3.out⟩, by simp [intOf]; omega⟩
    · have e : j = kids.length := by omega
      subst e
      have HD := Lib.hid hr.out.done
      subst hvs
      obtain ⟨y0, y1, y2, y3, y4, -⟩ := five hr.out.out
      obtain ⟨z0, z1, z2, z3, z4, z5⟩ := five hr.out.res
      go_wp2
      obtain ⟨F', hfin⟩ := HD.out
      exact bodyPost_ret (ret_node Try.results25 rfl hfin.1) rfl ⟨_, _, rfl, hfin.2⟩

set_option maxRecDepth 100000 in
set_option maxHeartbeats 800000 in
theorem impl_listOf (kids : List RT) (w : World) (dv : Value) (F : List Nat) (hD : KidsLie w dv kids F) (hsz : kids.length + szAll kids ≤ 1048576) :
    Calls Try.prog 20 #[dv] w fun e w' => ∃ dv' F', e = .returned (.agg #[.int .i64 4, .int .i64 0, .string ⟨#[]⟩, .slice none 0 0, dv']) ∧ Lies w' (listT kids) (.slice none 0 0) dv' F' ∧ Fresh w w' F' ∧ Below w.heap.size w w' := by
  have HK := Lib.hid fun (wr : World) (hb : Below w.heap.size w wr) => copy_kids (fun t _ => copy_node t) wr (hD.stay hb (Nat.le_refl _)) hsz
  clear hD
  go_enter Try.func20, Try.ntmps20
  go_wp2_with fail
  refine (HK.out _ ((Below.refl _ w).alloc (Nat.le_refl _) _)).mono ?_
  rintro e w1 ⟨dv1, F1, rfl, hk1, hf1, hb1, -⟩
  obtain ⟨o1, q1, rfl⟩ := hk1.slice
  obtain ⟨hh, hB⟩ := hand_on hb1
  have H1 := Lib.hid (And.intro hk1 (And.intro hf1 (And.intro hh hB)))
  clear hk1 hf1 hh hB hb1
  go_wp2_with fail
  refine (node_list o1 _ q1 w1).mono ?_
  rintro e w2 ⟨rfl, hb2⟩
  obtain ⟨hk1, hf1, hh, hB⟩ := H1.out
  have hh2 := (hb2.block _ (Array.getElem?_eq_some_iff.1 hh).1).trans hh
  obtain ⟨g0, g1, g2, g3, g4, g5⟩ := five hh2
  have hB2 := hB.trans (hb2.mono hB.size)
  have hk2 := hk1.stay hb2 (Nat.le_refl _)
  have hf2 := hf1.carry fun x hx => hb2.block x (hk1.lt x hx)
  have keep : ∀ x ∈ F1, (set5 w2 w.heap.size 0 (.int .i64 4) (.int .i64 0) (.string ⟨#[]⟩) (.slice none 0 0) (.slice o1 kids.length q1)).heap[x]? = w2.heap[x]? := fun x hx => set5_other _ _ _ _ _ _ _ _ _ (by have := hf1.old x hx; simp at this; omega)
  have HE := Lib.hid (And.intro (set5_end hh2 (.int .i64 4) (.int .i64 0) (.string ⟨#[]⟩) (.slice none 0 0) (.slice o1 kids.length q1)) (And.intro (list_lies (hk2.carry keep)) (And.intro ((hf2.carry keep).earlier (w := w) (by simp)) (set5_below hB2 (Nat.le_refl _) 0 (.int .i64 4) (.int .i64 0) (.string ⟨#[]⟩) (.slice none 0 0) (.slice o1 kids.length q1)))))
  clear hk1 hf1 hh hB hh2 hB2 hk2 hf2 keep hb2
  go_wp2
  exact bodyPost_ret (ret_node Try.results20 rfl HE.out.1) rfl ⟨_, _, rfl, HE.out.2⟩
end Go.Proofs.Ythbphkakbjheeaa
