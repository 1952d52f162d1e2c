/-
  What is proved: the model's tree of a list of metrics: a list of their trees, in memory of its own; no condition but how long names are.; the model's tree of a list of notes whose Keys ascend: a map of their Texts, in memory of its own; no condition but how long they are.; plain facts on a literal of eight Kids three of which have memory of their own: where all of it lies apart, it is the tree of an order in the full shape.
-/
import Derived.Test.YtelpkcbbipianaaGreatPartAI
import Derived.Test.YtelpkcbbipianaaGreatPartAQ
import Derived.Test.YtelpkcbbipianaaGreatPartAB
import Derived.Test.YtelpkcbbipianaaGreatPartAC
import Derived.Test.YtelpkcbbipianaaGreatPartAJ
import Derived.Test.YtelpkcbbipianaaGreatPartAH
/- the model's tree of a list of metrics: a list of their trees, in memory of its own; no condition but how long names are. -/
namespace Go.Proofs.YtelpkcbbipianaaGreat
open Go Go.RowKit

/-- Where l7Metrics starts: the result's block and the list's. -/
def W2 (w : World) (k : Int) : World := (w.alloc (.cells #[.int .i64 0, .int .i64 0, .string ⟨#[]⟩, .slice none 0 0, .slice none 0 0] 27)).alloc (.cells #[.int .i64 k, .int .i64 0, .string ⟨#[]⟩, .slice none 0 0, .slice none 0 0] 27)

structure LN (w wr : World) (kids : List RT) (j : Nat) (v : Value) (KV DV : Nat → Value) (FF : Nat → List Nat) : Prop where
  res : wr.heap[w.heap.size]? = some (.cells #[.int .i64 0, .int .i64 0, .string ⟨#[]⟩, .slice none 0 0, .slice none 0 0] 27 (0, 0))
  out : wr.heap[w.heap.size + 1]? = some (.cells #[.int .i64 4, .int .i64 0, .string ⟨#[]⟩, .slice none 0 0, v] 27 (0, 0))
  laid : LaidApp 27 w (W2 w 4) wr kids j v KV DV FF

section
variable {w wr w1 w2 w3 : World} {kids : List RT} {j : Nat} {v : Value} {KV DV : Nat → Value} {FF : Nat → List Nat}

theorem w2_size (w : World) (k : Int) : (W2 w k).heap.size = w.heap.size + 2 := by simp [W2]

theorem LN.start (w : World) (kids : List RT) : LN w (W2 w 4) kids 0 (.slice none 0 0) (fun _ => .bool true) (fun _ => .bool true) (fun _ => []) := by
  obtain ⟨h1, h2, h3, h4⟩ := two_blk w (.cells #[.int .i64 0, .int .i64 0, .string ⟨#[]⟩, .slice none 0 0, .slice none 0 0] 27) (.cells #[.int .i64 4, .int .i64 0, .string ⟨#[]⟩, .slice none 0 0, .slice none 0 0] 27)
  exact ⟨h1, h2, LaidApp.start _ kids h4 (Nat.le_refl _) h4.size⟩

theorem LN.step (h : LN w wr kids j v KV DV FF) (hj : j < kids.length) (hb1 : Below wr.heap.size wr w1) {kvx dvx : Value} {F : List Nat} (hl : Lies w1 kids[j] kvx dvx F) (hf : Fresh wr w1 F) (hb2 : Below w1.heap.size w1 w2)
    {g cap : Nat} (hgrow : w2.grownBy w3 v.ownBlock) (hown : w3.ownsRow (W2 w 4).heap.size 27 5 (.slice (some ⟨g, 0, none⟩) (j + 1) cap) (j + 1) (rowsOf kids KV DV j ++ kids[j].row kvx dvx)) (hat : v.ownBlock = some g ∨ g = w2.heap.size) :
    LN w (w3.setCell ⟨w.heap.size + 1, 4, none⟩ (.slice (some ⟨g, 0, none⟩) (j + 1) cap)) kids (j + 1) (.slice (some ⟨g, 0, none⟩) (j + 1) cap) (fun i => if i = j then kvx else KV i) (fun i => if i = j then dvx else DV i) (fun i => if i = j then F else FF i) := by
  have hbw := hb1.trans (hb2.mono hb1.size)
  have hwc := h.laid.size
  have hsz := w2_size w 4
  have keep : ∀ x, x < w.heap.size + 2 → w3.heap[x]? = wr.heap[x]? := fun x hx => by
    rw [hgrow.block x (by have := hbw.size; omega) (fun e => by have := (h.laid.ownlt x e.symm).1; omega), hbw.block x (by omega)]
  have hl3 := h.laid.step hj hb1 hl hf hb2 hgrow hown hat
  refine ⟨?_, heap_set ((keep _ (by omega)).trans h.out) 4 _, hl3.set (by rw [hsz]; show w.heap.size + 1 < _; omega) (by show _ ≤ w.heap.size + 1; omega) _⟩
  rw [Below.heap_setCell _ _ _ _ (by show _ ≠ w.heap.size + 1; omega), keep _ (by omega)]; exact h.res

theorem LN.done (h : LN w wr kids kids.length v KV DV FF) :
    ∃ F, (set5 wr w.heap.size 0 (.int .i64 4) (.int .i64 0) (.string ⟨#[]⟩) (.slice none 0 0) v).heap[w.heap.size]? = some (.cells #[.int .i64 4, .int .i64 0, .string ⟨#[]⟩, .slice none 0 0, v] 27 (0, 0)) ∧
    Lies (set5 wr w.heap.size 0 (.int .i64 4) (.int .i64 0) (.string ⟨#[]⟩) (.slice none 0 0) v) (.node 4 0 ⟨#[]⟩ [] kids) (.slice none 0 0) v F ∧ Fresh w (set5 wr w.heap.size 0 (.int .i64 4) (.int .i64 0) (.string ⟨#[]⟩) (.slice none 0 0) v) F ∧
    Below w.heap.size w (set5 wr w.heap.size 0 (.int .i64 4) (.int .i64 0) (.string ⟨#[]⟩) (.slice none 0 0) v) := by
  obtain ⟨F, hD, hf, -⟩ := h.laid.done
  have hsz := w2_size w 4
  have keep : ∀ x ∈ F, (set5 wr w.heap.size 0 (.int .i64 4) (.int .i64 0) (.string ⟨#[]⟩) (.slice none 0 0) v).heap[x]? = wr.heap[x]? := fun x hx => set5_other _ _ _ _ _ _ _ _ _ (by have := hf.old x hx; omega)
  have hL := Lies.into (k := 4) (n := 0) (s := ⟨#[]⟩) (FK := []) ⟨by decide, by decide⟩ ⟨by decide, by decide⟩ (by decide) (strs_nil wr none) hD
  exact ⟨[] ++ F, set5_end h.res _ _ _ _ _, hL.carry (by simpa using keep), (hf.carry (by simpa using keep)).earlier (by omega), set5_below h.laid.below (Nat.le_refl _) _ _ _ _ _ _⟩
end

set_option maxRecDepth 100000 in
set_option maxHeartbeats 3200000 in
theorem spec_l7Metrics {mv : Value} {xs : List Met} {F : List Nat} (w : World) (hs : MetsAt w mv xs F) (h1 : xs.length ≤ 1000000) (hn : ∀ m ∈ xs, m.name.size ≤ 1048576) :
    Calls Tryz.prog 73 #[mv] w fun e w' => ∃ dv G, e = .returned (.agg #[.int .i64 4, .int .i64 0, .string ⟨#[]⟩, .slice none 0 0, dv]) ∧ Lies w' (metsT xs) (.slice none 0 0) dv G ∧ Fresh w w' G ∧ Below w.heap.size w w' := by
  have HOK := Lib.hid (RowAt.every hs)
  have HNm := Lib.hid hn
  obtain ⟨o, cap, b, off, rfl, hlc, hcm, ho, -, hcell, -⟩ := hs
  have HC := Lib.hid hcell
  have HO := Lib.hid ho
  have HM := Lib.hid (LN.start w (xs.map metT))
  have HLn : Hid ((xs.map metT).length = xs.length) := List.length_map _
  clear hcell ho hn
  obtain ⟨j0, hj0, hy0, hy1, hy2⟩ := info_parts info_node
  go_enter Tryz.func73, Tryz.ntmps73
  go_wp2
  go_loopw [4] (fun i wr => ∃ (j : Nat) (v : Value) (KV' DV' : Nat → Value) (FF' : Nat → List Nat), j ≤ xs.length ∧ i = .int .i64 j ∧ Hid (LN w wr (xs.map metT) j v KV' DV' FF')) (fun i _ => xs.length - (intOf i).toNat)
  case atStart => exact ⟨0, _, _, _, _, Nat.zero_le _, rfl, HM.out⟩
  case round =>
    obtain ⟨j, v, KV', DV', FF', hj, rfl, hr⟩ := hrel
    obtain ⟨ov, cv, hvs⟩ := hr.out.laid.slice
    by_cases hlt : j < xs.length
    · have ho := HO.out (by omega)
      subst ho
      have hjk : j < (xs.map metT).length := by have := HLn.out; omega
      obtain ⟨y0, y1, y2, y3, y4, y5⟩ := five hr.out.out
      have hbel := hr.out.laid.below
      have c0 : wr.cell? ⟨b, off + j * 3, none⟩ = some (.string xs[j].name) := by
        have := (HC.out j hlt).2 0 (by decide)
        rw [hbel.cell (by exact World.block_lt_of_cell? _ _ this)]; exact this
      have c1 : wr.cell? ⟨b, off + j * 3 + 1, none⟩ = some (.int .i64 xs[j].kind) := by
        have := (HC.out j hlt).2 1 (by decide)
        rw [hbel.cell (by exact World.block_lt_of_cell? _ _ this)]; exact this
      have c2 : wr.cell? ⟨b, off + j * 3 + 2, none⟩ = some (.int .i64 xs[j].goal) := by
        have := (HC.out j hlt).2 2 (by decide)
        rw [hbel.cell (by exact World.block_lt_of_cell? _ _ this)]; exact this
      have hok := HOK.out _ (List.getElem_mem hlt)
      have HI : Hid (∀ w1 : World, Calls Tryz.prog 88 #[.agg #[.string xs[j].name, .int .i64 xs[j].kind, .int .i64 xs[j].goal]] w1 fun e w' => ∃ u, e = .returned u ∧ ∃ kv' dv' F', u = .agg #[.int .i64 (metT xs[j]).k, .int .i64 (metT xs[j]).n, .string (metT xs[j]).s, kv', dv'] ∧ Lies w' (metT xs[j]) kv' dv' F' ∧ Fresh w1 w' F' ∧ Below w1.heap.size w1 w') := fun w1 => by
        refine (spec_metricTree xs[j].name xs[j].kind xs[j].goal hok.1 hok.2.1 hok.2.2 (HNm.out _ (List.getElem_mem hlt)) w1).mono ?_
        rintro e w' ⟨kv', dv', F', rfl, g1, g2, g3⟩
        exact ⟨_, rfl, kv', dv', F', rfl, g1, g2, g3⟩
      have HS := Lib.hid fun (w1 w2 w3 : World) (kvx dvx : Value) (F : List Nat) (g cap : Nat) => hr.out.step (w1 := w1) (w2 := w2) (w3 := w3) (kvx := kvx) (dvx := dvx) (F := F) (g := g) (cap := cap) hjk
      have HBl : Hid (b < wr.heap.size ∧ w.heap.size + 1 < wr.heap.size ∧ w.heap.size + 2 ≤ wr.heap.size) := ⟨World.block_lt_of_cell? _ _ c0, World.block_lt_of_cell? _ _ y4, by have := hr.out.laid.size; have := w2_size w 4; omega⟩
      have HW2 := Lib.hid (w2_size w 4)
      have hi0 : (0 : Int) ≤ (j : Int) := by omega
      have hi1 : (j : Int) < (xs.length : Int) := by omega
      have e1 : (xs.map metT)[j] = metT xs[j] := List.getElem_map _
      rw [e1] at HS
      generalize hxe : metT xs[j] = T at *
      have HXe := Lib.hid hxe
      generalize xs[j] = x at *
      clear hxe hok e1 hbel
      subst hvs
      clear y0 y1 y2 y3
      go_wp2
      go_region_law (first
        | (refine step_calls (by rfl) 88 _ _ (by rfl) #[.agg #[.string x.name, .int .i64 x.kind, .int .i64 x.goal]] (by simp [Act.eval]) (by intros; simp [go_sem]) (fun _ _ => rfl) (HI.out _) ?_
           rintro u w1 ⟨kv1, dv1, F1, rfl, hl1, hf1, hb1⟩
           obtain ⟨⟨o3, q3, rfl⟩, ⟨o4, q4, rfl⟩⟩ := hl1.slices
           have hb01 := (below_drewN (Below.refl wr.heap.size wr) 1).trans (hb1.mono (Nat.le_refl _))
           have m1 : w1.cell? ⟨w.heap.size + 1, 4, none⟩ = _ := (hb01.cell (by exact HBl.out.2.1)).trans y4
           have m2 : ∀ ob, (w1.alloc ob).cell? ⟨w.heap.size + 1, 4, none⟩ = _ := fun ob => (World.cell?_alloc_lt w1 ob ⟨w.heap.size + 1, 4, none⟩ (Nat.lt_of_lt_of_le HBl.out.2.1 hb01.size)).trans m1
           have H1 := Lib.hid (And.intro hb01 (And.intro hl1 (hf1.earlier (w := wr) (Nat.le_refl _))))
           clear hl1 hf1 hb1 hb01)
        | (refine step_append_lies _ (by rfl) _ _ _ (by rfl) (W2 w 4).heap.size 27 j0 _ 5 80 Tryz.underlying25 hj0 hy0 hy1 hy2 rfl (by decide) (.slice ov j cv) j (rowsOf (xs.map metT) KV' DV' j) (by rfl) (owns_below (owns_below hr.out.laid.own H1.out.1) ((Below.refl _ w1).alloc (Nat.le_refl _) _)) ⟨w1.heap.size, 0, none⟩ 1 1 [.int .i64 T.k, .int .i64 T.n, .string T.s, .slice o3 T.keys.length q3, .slice o4 T.kids.length q4] (by rfl) (by rfl) (World.news_of_block (cs := #[.int .i64 T.k, .int .i64 T.n, .string T.s, .slice o3 T.keys.length q3, .slice o4 T.kids.length q4]) (t := 27) (fr := (0, 0)) (heap_last w1 _)) (by simp [Value.oneCell']) (by omega) (by unfold maxLen; omega) (by omega) (by have := hr.out.laid.size; have := H1.out.1.size; simp; omega) _ rfl ?_
           intro g cap' w3 hown3 hgrow3 hat3 hlt3
           have hx3 := HS.out w1 _ w3 _ _ _ g cap' H1.out.1 H1.out.2.1 H1.out.2.2 ((Below.refl _ w1).alloc (Nat.le_refl _) _) hgrow3 hown3 hat3
           have hBf := hgrow3.block (w.heap.size + 1) (by have := H1.out.1.size; have := HBl.out.2.1; simp; omega) (fun e => by have := (hr.out.laid.ownlt (w.heap.size + 1) e.symm).1; have := HW2.out; omega)
           have k1 : w3.cell? ⟨w.heap.size + 1, 4, none⟩ = _ := (World.cell?_of_block (a := ⟨w.heap.size + 1, 4, none⟩) hBf).trans (m2 _)
           have k2 : w3.frozen? ⟨w.heap.size + 1, 4, none⟩ = false := (World.frozen?_of_block (a := ⟨w.heap.size + 1, 4, none⟩) hBf).trans (by rw [((Below.refl _ w1).alloc (Nat.le_refl _) _).frozen (by have := H1.out.1.size; have := HBl.out.2.1; show w.heap.size + 1 < _; omega), H1.out.1.frozen (by exact HBl.out.2.1)]; exact y5 4)
           have H3 := Lib.hid hx3
           clear hown3 hgrow3 hat3 hlt3 hx3 hBf)
        | fail)
      all_goals go_wp2
      all_goals exact ⟨⟨j + 1, _, _, _, _, by omega, by go_num, H3.out⟩, by simp [intOf]; omega⟩
    · have e : j = xs.length := by omega
      subst e
      have hr' := hr.out
      rw [← HLn.out] at hr'
      have HD := Lib.hid hr'.done
      clear hr'
      subst hvs
      obtain ⟨y0, y1, y2, y3, y4, -⟩ := five hr.out.out
      obtain ⟨z0, z1, z2, z3, z4, z5⟩ := five hr.out.res
      go_wp2
      obtain ⟨F', hfin⟩ := HD.out
      exact bodyPost_ret (ret_node Tryz.results73 rfl hfin.1) rfl ⟨_, _, rfl, hfin.2⟩
end Go.Proofs.YtelpkcbbipianaaGreat

/- the model's tree of a list of notes whose Keys ascend: a map of their Texts, in memory of its own; no condition but how long they are. -/
namespace Go.Proofs.YtelpkcbbipianaaGreat
open Go Go.RowKit

set_option maxRecDepth 100000 in
set_option maxHeartbeats 8000000 in
theorem spec_l7Notes {nv : Value} {xs : List Not} {F : List Nat} (w : World) (hs : NotsAt w nv xs F) (h1 : xs.length ≤ 1000000) (ha : AscK (xs.map (·.key))) (hz : szAll (xs.map noteK) + strSz (xs.map (·.key)) + 2 * xs.length ≤ 1000000) :
    Calls Tryz.prog 75 #[nv] w fun e w' => ∃ kv dv G, e = .returned (.agg #[.int .i64 (notesT xs).k, .int .i64 (notesT xs).n, .string (notesT xs).s, kv, dv]) ∧ Lies w' (notesT xs) kv dv G ∧ Fresh w w' G ∧ Below w.heap.size w w' := by
  have HOK := Lib.hid (RowAt.every hs)
  obtain ⟨o, cap, b, off, rfl, hlc, hcm, ho, -, hcell, -⟩ := hs
  have HC := Lib.hid hcell
  have HO := Lib.hid ho
  have HM := Lib.hid (LM.start w 5 ⟨by decide, by decide⟩)
  have HLn : Hid ((xs.map (·.key)).length = xs.length ∧ (xs.map noteK).length = xs.length) := ⟨List.length_map _, List.length_map _⟩
  have HZ : Hid (∀ j ≤ xs.length, (mapN (xs.map (·.key)) (xs.map noteK) j).sz ≤ 4000000) := fun j hj => by
    have := mapN_le (xs.map (·.key)) (xs.map noteK) (by rw [HLn.out.1, HLn.out.2]) (j := j) (by rw [HLn.out.1]; exact hj)
    rw [HLn.out.1] at this
    omega
  have HE : Hid (mapN (xs.map (·.key)) (xs.map noteK) xs.length = notesT xs) := by
    have := mapN_asc (xs.map (·.key)) (xs.map noteK) (by rw [HLn.out.1, HLn.out.2]) ha xs.length (by rw [HLn.out.1]; exact Nat.le_refl _)
    rw [List.take_of_length_le (by rw [HLn.out.1]; exact Nat.le_refl _), List.take_of_length_le (by rw [HLn.out.2]; exact Nat.le_refl _)] at this
    exact this
  have HX : Hid (∀ n ∈ xs, (noteK n).sz ≤ 4000000) := fun n hn => by
    have := sz_take (xs.map noteK) (List.mem_map_of_mem (f := noteK) hn)
    omega
  clear hcell ho ha hz
  go_enter Tryz.func75, Tryz.ntmps75
  go_wp2
  go_loopw [4] (fun i wr => ∃ (j : Nat) (kv dv : Value) (F : List Nat), j ≤ xs.length ∧ i = .int .i64 j ∧ Hid (LM w wr (mapN (xs.map (·.key)) (xs.map noteK) j) kv dv F)) (fun i _ => xs.length - (intOf i).toNat)
  case atStart => exact ⟨0, _, _, _, Nat.zero_le _, rfl, HM.out⟩
  case round =>
    obtain ⟨j, kv, dv, F, hj, rfl, hr⟩ := hrel
    obtain ⟨⟨o3, q3, rfl⟩, ⟨o4, q4, rfl⟩⟩ := hr.out.lie.slices
    by_cases hlt : j < xs.length
    · have ho := HO.out (by omega)
      subst ho
      obtain ⟨y0, y1, y2, y3, y4, -⟩ := five hr.out.out
      have hbel := hr.out.below
      have c0 : wr.cell? ⟨b, off + j * 2, none⟩ = some (.string xs[j].key) := by
        have := (HC.out j hlt).2 0 (by decide)
        rw [hbel.cell (by exact World.block_lt_of_cell? _ _ this)]; exact this
      have c1 : wr.cell? ⟨b, off + j * 2 + 1, none⟩ = some (.string xs[j].text) := by
        have := (HC.out j hlt).2 1 (by decide)
        rw [hbel.cell (by exact World.block_lt_of_cell? _ _ this)]; exact this
      have hset : setT (mapN (xs.map (·.key)) (xs.map noteK) j) xs[j].key (noteK xs[j]) = mapN (xs.map (·.key)) (xs.map noteK) (j + 1) := by
        rw [mapN_succ _ _ (by rw [HLn.out.1]; exact hlt) (by rw [HLn.out.2]; exact hlt), List.getElem_map, List.getElem_map]
      have hzj := HZ.out j (by omega)
      have hxj := HX.out _ (List.getElem_mem hlt)
      have hokj := HOK.out _ (List.getElem_mem hlt)
      have hi0 : (0 : Int) ≤ (j : Int) := by omega
      have hi1 : (j : Int) < (xs.length : Int) := by omega
      have hla : Hid (w.heap.size + 1 < wr.heap.size) := hr.out.lt
      clear hbel
      generalize xs[j] = x at *
      obtain ⟨T, hT⟩ : ∃ T, mapN (xs.map (·.key)) (xs.map noteK) j = T := ⟨_, rfl⟩
      obtain ⟨R1, hR1⟩ : ∃ R, mapN (xs.map (·.key)) (xs.map noteK) (j + 1) = R := ⟨_, rfl⟩
      rw [hT] at hr y0 y1 y2 y3 y4 hset hzj
      rw [hR1] at hset
      have HRe := Lib.hid hR1
      clear hT hR1
      have hnk : noteK x = .node 3 0 x.text [] [] := rfl
      rw [hnk] at hset hxj
      have HSt : Hid (∀ W, Below wr.heap.size wr W → Calls Tryz.prog 40 #[.agg #[.int .i64 T.k, .int .i64 T.n, .string T.s, .slice o3 T.keys.length q3, .slice o4 T.kids.length q4], .string x.key, .agg #[.int .i64 3, .int .i64 0, .string x.text, .slice none 0 0, .slice none 0 0]] W fun e w' => ∃ v, e = .returned v ∧ ∃ kr dr G, v = .agg #[.int .i64 R1.k, .int .i64 R1.n, .string R1.s, kr, dr] ∧ Lies w' R1 kr dr G ∧ Fresh W w' G ∧ Below W.heap.size W w') := fun W hW => by
        have hq := spec_set T (.node 3 0 x.text [] []) x.key W _ _ _ _ _ _ (hr.out.lie.stay hW (Nat.le_refl _)) (leaf_lies W ⟨by decide, by decide⟩ ⟨by decide, by decide⟩ hokj.2) hzj hxj hokj.1
        rw [hset] at hq
        refine hq.mono ?_
        rintro e w' ⟨kr, dr, G, rfl, g1, g2, g3⟩
        exact ⟨_, rfl, kr, dr, G, rfl, g1, g2, g3⟩
      clear hset hzj hxj hokj hnk
      have HTx : Hid (∀ W, Calls Tryz.prog 56 #[.string x.text] W fun e w' => ∃ u, e = .returned u ∧ (u = .agg #[.int .i64 3, .int .i64 0, .string x.text, .slice none 0 0, .slice none 0 0] ∧ Below W.heap.size W w')) := fun W => by
        refine (spec_textOf x.text W).mono ?_
        rintro e w' ⟨rfl, h⟩
        exact ⟨_, rfl, rfl, h⟩
      go_wp2
      have HB := Lib.hid (below_drewN (Below.refl wr.heap.size wr) 1)
      go_region_law (first
        | (refine step_calls (by rfl) 56 _ _ (by rfl) #[.string x.text] (by simp [Act.eval]) (by intros; simp [go_sem]) (fun _ _ => rfl) (HTx.out _) ?_
           rintro u w5 ⟨rfl, hb5⟩
           replace HB := Lib.hid (HB.out.trans (hb5.mono (Nat.le_refl _)))
           clear y0 y1 y2 y3 y4
           obtain ⟨y0, y1, y2, y3, y4, -⟩ := five (hr.out.next HB.out).out
           have c0 := (HB.out.cell (by exact World.block_lt_of_cell? _ _ c0)).trans c0
           have c1 := (HB.out.cell (by exact World.block_lt_of_cell? _ _ c1)).trans c1
           clear hb5)
        | (refine step_calls (by rfl) 40 _ _ (by rfl) #[.agg #[.int .i64 T.k, .int .i64 T.n, .string T.s, .slice o3 T.keys.length q3, .slice o4 T.kids.length q4], .string x.key, .agg #[.int .i64 3, .int .i64 0, .string x.text, .slice none 0 0, .slice none 0 0]] (by simp [Act.eval]) (by intros; simp [go_sem]) (fun _ _ => rfl) (HSt.out _ HB.out) ?_
           rintro u w6 ⟨kr, dr, G, rfl, hl6, hf6, hb6⟩
           obtain ⟨⟨o5, q5, rfl⟩, ⟨o6, q6, rfl⟩⟩ := hl6.slices
           have hb06 := HB.out.trans (hb6.mono HB.out.size)
           obtain ⟨m0, m1, m2, m3, m4, m5⟩ := five (hr.out.next hb06).out
           have H7 := Lib.hid (hr.out.put hb06 hl6 (hf6.earlier (w := wr) HB.out.size))
           clear hl6 hf6 hb6 hb06)
        | fail)
      all_goals
        go_wp2
        go_roundw
        case rel => exact ⟨j + 1, _, _, G, by omega, by go_num, by rw [HRe.out]; exact H7.out⟩
        case measure => simp [intOf]; omega
    · have e : j = xs.length := by omega
      subst e
      have hr := hr.out
      rw [HE.out] at hr
      have hr := Lib.hid hr
      have HD := Lib.hid hr.out.fin
      obtain ⟨y0, y1, y2, y3, y4, -⟩ := five hr.out.out
      obtain ⟨z0, z1, z2, z3, z4, z5⟩ := five hr.out.res
      go_wp2
      exact bodyPost_ret (ret_node Tryz.results75 rfl HD.out.1) rfl ⟨_, _, _, rfl, HD.out.2.1, HD.out.2.2.1, HD.out.2.2.2⟩
end Go.Proofs.YtelpkcbbipianaaGreat

/- plain facts on a literal of eight Kids three of which have memory of their own: where all of it lies apart, it is the tree of an order in the full shape. -/
namespace Go.Proofs.YtelpkcbbipianaaGreat
open Go Go.RowKit

/-- A tree that was laid between two sizes of the heap. -/
structure KidAt (W : World) (T : RT) (kv dv : Value) (G : List Nat) (lo hi : Nat) : Prop where
  lie : Lies W T kv dv G
  nodup : G.Nodup
  free : ∀ b ∈ G, ∀ o, W.frozen? ⟨b, o, none⟩ = false
  span : ∀ x ∈ G, lo ≤ x ∧ x < hi

theorem KidAt.next {W W' : World} {T : RT} {kv dv : Value} {G : List Nat} {lo hi : Nat} (h : KidAt W T kv dv G lo hi) (hb : Below W.heap.size W W') : KidAt W' T kv dv G lo hi :=
  ⟨h.lie.stay hb (Nat.le_refl _), h.nodup, fun b hbG o => (hb.frozen (by exact h.lie.lt b hbG)).trans (h.free b hbG o), h.span⟩

theorem kid_at0 {w W X W' : World} {a r : Obj} {T : RT} {kv dv : Value} {G : List Nat} (_ : Two w W a r) (hl : Lies W' T kv dv G) (hf : Fresh X W' G) (hX : X.heap.size = W.heap.size) : KidAt W' T kv dv G W.heap.size W'.heap.size :=
  ⟨hl, hf.nodup, hf.free, fun x hx => ⟨by rw [← hX]; exact hf.old x hx, hl.lt x hx⟩⟩
theorem kid_at1 {w W X W' : World} {a r : Obj} {T : RT} {kv dv : Value} {G : List Nat} (_ : Two w W a r) (hl : Lies W' T kv dv G) (hf : Fresh X W' G) (hX : X.heap.size = W.heap.size + 1) : KidAt W' T kv dv G (W.heap.size + 1) W'.heap.size :=
  ⟨hl, hf.nodup, hf.free, fun x hx => ⟨by rw [← hX]; exact hf.old x hx, hl.lt x hx⟩⟩

theorem stepA {w W W' : World} {a r : Obj} (h : Two w W a r) (hb : Below W.heap.size W W') : Two w W' a r ∧ Below W.heap.size W W' := ⟨h.next hb, hb⟩
theorem stepB {w W W' : World} {a r : Obj} (h : Two w W a r) (hb : Below W.drew.heap.size W.drew W') : Two w W' a r ∧ Below W.heap.size W W' := ⟨h.next1 hb, (below_drew1 W).trans hb⟩
theorem stepC {w W W' : World} {a r o : Obj} {B : Nat} (h : Two w W a r) (hb : Below B (W.alloc o).drew W') (hB : B = W.heap.size + 1) : Two w W' a r ∧ Below W.heap.size W W' ∧ One w W' W.heap.size o ∧ W.heap.size + 1 ≤ W'.heap.size := by
  have h1 := h.lit hb hB
  have hb' : Below (W.alloc o).drew.heap.size (W.alloc o).drew W' := below_cast hb (by subst hB; simp [World.drew])
  exact ⟨h1.1, (below_lit W o).trans (hb'.mono (below_lit W o).size), h1.2, (Array.getElem?_eq_some_iff.1 h1.2.at_).1⟩
theorem stepD {w W W' : World} {a r o : Obj} (h : Two w W a r) (hb : Below (W.alloc o).heap.size (W.alloc o) W') : Two w W' a r ∧ Below W.heap.size W W' ∧ One w W' W.heap.size o ∧ W.heap.size + 1 ≤ W'.heap.size := by
  have h1 := h.lit1 hb
  have hba := (Below.refl _ W).alloc (Nat.le_refl _) o
  exact ⟨h1.1, hba.trans (hb.mono hba.size), h1.2, (Array.getElem?_eq_some_iff.1 h1.2.at_).1⟩
end Go.Proofs.YtelpkcbbipianaaGreat
