/-
  What is proved: OrderOk of the model, and of the program, tells of an order whether it is right.; cmp.Compare of two texts; the closures by which metrics and notes are ordered, and told alike, answer by their names.; plain facts on lists that are ordered by names: the order is one; what is in order stays as it is when it is sorted by insertion; what is sorted, and has no two of one name side by side, ascends.; slices.SortStableFunc of at most four metrics, or notes, sorts them by insertion.; plain facts on a row of small structs that a function may write; clear of a part of it.
-/
import Derived.Test.YtfgfgmbifdojcaaGreatDoorOrdOkN
import Derived.Test.YtfgfgmbifdojcaaGreatDoorPartAI
import Derived.Sort.Grow
import Derived.Test.YtfgfgmbifdojcaaGreatDoorOrdOkS
import Derived.Test.YtfgfgmbifdojcaaGreatDoorSort
import Derived.Sort.Walk0
import Derived.Sort.LotA
import Derived.Sort.WalkA
import Derived.Laws.IdiomCopy
import Derived.Deep.Upon
import Derived.Shelf.SlSortFuncK.RowK2
/- OrderOk of the model, and of the program, tells of an order whether it is right. -/
namespace Go.Proofs.YtfgfgmbifdojcaaGreatDoor
open Go Go.RowKit

noncomputable def Ord.okB (O : Ord) : Bool := (((((nameB O.name && nameB O.target) && inB O.low 1 O.high) && decide (O.high ≤ 1000)) && dec (Els Met.name Met.okB O.mets)) && paceB O.pace.up O.pace.down O.pace.ups O.pace.downs) && dec (Els Not.key Not.okB O.notes)


set_option maxRecDepth 100000 in
set_option maxHeartbeats 4000000 in
theorem spec_orderOk {O : Ord} {mv nv : Value} {FM FN : List Nat} (w : World) (ho : OrdAt w O mv nv FM FN) :
    Calls Tryz.prog 24 #[.agg #[.string O.name, .string O.target, .int .i64 O.low, .int .i64 O.high, mv, .int .i64 O.pace.up, .int .i64 O.pace.down, .int .i64 O.pace.ups, .int .i64 O.pace.downs, nv]] w fun e w' => e = .returned (.bool O.okB) ∧ Below w.heap.size w w' := by
  have HX := Lib.hid (Bx.start w #[.string O.name, .string O.target, .int .i64 O.low, .int .i64 O.high, mv, .int .i64 O.pace.up, .int .i64 O.pace.down, .int .i64 O.pace.ups, .int .i64 O.pace.downs, nv] 38)
  have h1 := ho.name
  have h2 := ho.target
  have HM := Lib.hid fun wr (hb : Below w.heap.size w wr) => spec_mets wr (RowAt.stay ho.mets (by decide) hb (Nat.le_refl _))
  have HN := Lib.hid fun wr (hb : Below w.heap.size w wr) => spec_nots wr (RowAt.stay ho.notes (by decide) hb (Nat.le_refl _))
  obtain ⟨⟨o1, c1, rfl⟩, o2, c2, rfl⟩ := ho.slices
  clear ho
  unfold Ord.okB
  rcases b1 : nameB O.name
  · go_enter Tryz.func24, Tryz.ntmps24
    go_wp2_with (first
      | (go_at_call 56; refine (spec_nameOk _ (by assumption) _).mono ?_; rintro e w1 ⟨rfl, e1⟩; subst e1; first | rw [b1] | rw [b2])
      | fail)
    go_ret
    exact ⟨rfl, HX.out.below⟩
  rcases b2 : nameB O.target
  · go_enter Tryz.func24, Tryz.ntmps24
    go_wp2_with (first
      | (go_at_call 56; refine (spec_nameOk _ (by assumption) _).mono ?_; rintro e w1 ⟨rfl, e1⟩; subst e1; first | rw [b1] | rw [b2])
      | fail)
    go_ret
    exact ⟨rfl, HX.out.below⟩
  rcases b3 : inB O.low 1 O.high
  · go_enter Tryz.func24, Tryz.ntmps24
    go_wp2_with (first
      | (go_at_call 56; refine (spec_nameOk _ (by assumption) _).mono ?_; rintro e w1 ⟨rfl, e1⟩; subst e1; first | rw [b1] | rw [b2])
      | (go_at_call 57; refine (spec_inB _ _ _ _).mono ?_; rintro e w1 ⟨rfl, e1⟩; subst e1; rw [b3])
      | fail)
    go_ret
    exact ⟨rfl, HX.out.below⟩
  rcases b4 : decide (O.high ≤ 1000)
  · go_enter Tryz.func24, Tryz.ntmps24
    go_wp2_with (first
      | (go_at_call 56; refine (spec_nameOk _ (by assumption) _).mono ?_; rintro e w1 ⟨rfl, e1⟩; subst e1; first | rw [b1] | rw [b2])
      | (go_at_call 57; refine (spec_inB _ _ _ _).mono ?_; rintro e w1 ⟨rfl, e1⟩; subst e1; rw [b3])
      | fail)
    go_ret
    exact ⟨rfl, HX.out.below⟩
  rcases b5 : dec (Els Met.name Met.okB O.mets)
  · go_enter Tryz.func24, Tryz.ntmps24
    go_wp2_with (first
      | (go_at_call 56; refine (spec_nameOk _ (by assumption) _).mono ?_; rintro e w1 ⟨rfl, e1⟩; subst e1; first | rw [b1] | rw [b2])
      | (go_at_call 57; refine (spec_inB _ _ _ _).mono ?_; rintro e w1 ⟨rfl, e1⟩; subst e1; rw [b3])
      | (go_at_call 58; refine (HM.out _ HX.out.below).mono ?_; rintro e w1 ⟨rfl, hb⟩; rw [b5]; replace HX := Lib.hid (HX.out.next hb); clear hb; have c5 := HX.out.cell 5; have c6 := HX.out.cell 6; have c7 := HX.out.cell 7; have c8 := HX.out.cell 8)
      | fail)
    go_ret
    exact ⟨rfl, HX.out.below⟩
  rcases b6 : paceB O.pace.up O.pace.down O.pace.ups O.pace.downs
  · go_enter Tryz.func24, Tryz.ntmps24
    go_wp2_with (first
      | (go_at_call 56; refine (spec_nameOk _ (by assumption) _).mono ?_; rintro e w1 ⟨rfl, e1⟩; subst e1; first | rw [b1] | rw [b2])
      | (go_at_call 57; refine (spec_inB _ _ _ _).mono ?_; rintro e w1 ⟨rfl, e1⟩; subst e1; rw [b3])
      | (go_at_call 58; refine (HM.out _ HX.out.below).mono ?_; rintro e w1 ⟨rfl, hb⟩; rw [b5]; replace HX := Lib.hid (HX.out.next hb); clear hb; have c5 := HX.out.cell 5; have c6 := HX.out.cell 6; have c7 := HX.out.cell 7; have c8 := HX.out.cell 8)
      | (go_at_call 59; refine (spec_paceOk _ _ _ _ _).mono ?_; rintro e w2 ⟨rfl, hb⟩; rw [b6]; replace HX := Lib.hid (HX.out.next hb); clear hb; have c9 := HX.out.cell 9)
      | fail)
    go_ret
    exact ⟨rfl, HX.out.below⟩
  rcases b7 : dec (Els Not.key Not.okB O.notes)
  · go_enter Tryz.func24, Tryz.ntmps24
    go_wp2_with (first
      | (go_at_call 56; refine (spec_nameOk _ (by assumption) _).mono ?_; rintro e w1 ⟨rfl, e1⟩; subst e1; first | rw [b1] | rw [b2])
      | (go_at_call 57; refine (spec_inB _ _ _ _).mono ?_; rintro e w1 ⟨rfl, e1⟩; subst e1; rw [b3])
      | (go_at_call 58; refine (HM.out _ HX.out.below).mono ?_; rintro e w1 ⟨rfl, hb⟩; rw [b5]; replace HX := Lib.hid (HX.out.next hb); clear hb; have c5 := HX.out.cell 5; have c6 := HX.out.cell 6; have c7 := HX.out.cell 7; have c8 := HX.out.cell 8)
      | (go_at_call 59; refine (spec_paceOk _ _ _ _ _).mono ?_; rintro e w2 ⟨rfl, hb⟩; rw [b6]; replace HX := Lib.hid (HX.out.next hb); clear hb; have c9 := HX.out.cell 9)
      | (go_at_call 60; refine (HN.out _ HX.out.below).mono ?_; rintro e w3 ⟨rfl, hb⟩; rw [b7]; replace HX := Lib.hid (HX.out.next hb); clear hb)
      | fail)
    go_ret
    exact ⟨rfl, HX.out.below⟩
  go_enter Tryz.func24, Tryz.ntmps24
  go_wp2_with (first
    | (go_at_call 56; refine (spec_nameOk _ (by assumption) _).mono ?_; rintro e w1 ⟨rfl, e1⟩; subst e1; first | rw [b1] | rw [b2])
    | (go_at_call 57; refine (spec_inB _ _ _ _).mono ?_; rintro e w1 ⟨rfl, e1⟩; subst e1; rw [b3])
    | (go_at_call 58; refine (HM.out _ HX.out.below).mono ?_; rintro e w1 ⟨rfl, hb⟩; rw [b5]; replace HX := Lib.hid (HX.out.next hb); clear hb; have c5 := HX.out.cell 5; have c6 := HX.out.cell 6; have c7 := HX.out.cell 7; have c8 := HX.out.cell 8)
    | (go_at_call 59; refine (spec_paceOk _ _ _ _ _).mono ?_; rintro e w2 ⟨rfl, hb⟩; rw [b6]; replace HX := Lib.hid (HX.out.next hb); clear hb; have c9 := HX.out.cell 9)
    | (go_at_call 60; refine (HN.out _ HX.out.below).mono ?_; rintro e w3 ⟨rfl, hb⟩; rw [b7]; replace HX := Lib.hid (HX.out.next hb); clear hb)
    | fail)
  go_ret
  exact ⟨rfl, HX.out.below⟩

end Go.Proofs.YtfgfgmbifdojcaaGreatDoor

/- cmp.Compare of two texts; the closures by which metrics and notes are ordered, and told alike, answer by their names. -/
namespace Go.Proofs.YtfgfgmbifdojcaaGreatDoor
open Go Go.RowKit Go.Sort

theorem str_gtrO (t : TypeId) (a b : ByteArray) : binOp .gtr t (.string a) (.string b) = pure (.bool !(Op.bytesLess a.toList b.toList || a.toList == b.toList)) := by simp [binOp, Op.stringOp]

/-- Below, alike, above. -/
def cmpS (a b : ByteArray) : Int := if Op.bytesLess a.toList b.toList = true then -1 else if (a.toList == b.toList) = true then 0 else 1

theorem nan_str (a : ByteArray) (w : World) : Calls Tryz.prog 173 #[.string a] w fun e w' => e = .returned (.bool false) ∧ w' = w := by
  go_enter Tryz.func173, Tryz.ntmps173
  go_wp2
  go_ret
  exact ⟨rfl, rfl⟩

set_option maxHeartbeats 1000000 in
theorem cmp_str (a b : ByteArray) (w : World) : Calls Tryz.prog 155 #[.string a, .string b] w fun e w' => e = .returned (.int .i64 (cmpS a b)) ∧ w' = w := by
  have hg := str_gtrO
  unfold cmpS
  by_cases h1 : Op.bytesLess a.toList b.toList = true
  · rw [if_pos h1]
    go_enter Tryz.func155, Tryz.ntmps155
    go_wp2_with (first | (go_at_call 173; refine (nan_str _ _).mono ?_; rintro e w1 ⟨rfl, e1⟩; subst e1) | fail)
    go_ret
    exact ⟨rfl, rfl⟩
  · have h1' : Op.bytesLess a.toList b.toList = false := by simpa using h1
    rw [if_neg h1]
    by_cases h2 : (a.toList == b.toList) = true
    · rw [if_pos h2]
      clear h1
      go_enter Tryz.func155, Tryz.ntmps155
      go_wp2_with (first | (go_at_call 173; refine (nan_str _ _).mono ?_; rintro e w1 ⟨rfl, e1⟩; subst e1) | fail)
      go_ret
      exact ⟨rfl, rfl⟩
    · have h2' : (a.toList == b.toList) = false := by simpa using h2
      rw [if_neg h2]
      clear h1 h2
      go_enter Tryz.func155, Tryz.ntmps155
      go_wp2_with (first | (go_at_call 173; refine (nan_str _ _).mono ?_; rintro e w1 ⟨rfl, e1⟩; subst e1) | fail)
      go_ret
      exact ⟨rfl, rfl⟩

/-- Draws and new blocks alone. -/
def Gr (W w' : World) : Prop := ∃ q os, w' = grow (W.drewN q) os
theorem Gr.refl (W : World) : Gr W W := ⟨0, #[], by simp [grow, World.drewN]⟩
theorem Gr.alloc {W w' : World} (h : Gr W w') (o : Obj) : Gr W (w'.alloc o) := by
  obtain ⟨q, os, rfl⟩ := h
  exact ⟨q, os ++ #[o], by rw [alloc_eq_grow, grow_grow]⟩
theorem Gr.drew {W w' : World} (h : Gr W w') (n : Nat) : Gr W (w'.drewN n) := by
  obtain ⟨q, os, rfl⟩ := h
  exact ⟨q + n, os, by simp [grow, World.drewN, Nat.add_assoc]⟩
theorem Gr.trans {W w' w'' : World} (h : Gr W w') (h' : Gr w' w'') : Gr W w'' := by
  obtain ⟨q, os, rfl⟩ := h
  obtain ⟨q', os', rfl⟩ := h'
  exact ⟨q + q', os ++ os', by rw [← grow_grow]; simp [grow, World.drewN, Nat.add_assoc]⟩
theorem Gr.below {W w' : World} (h : Gr W w') : Below W.heap.size W w' := by
  obtain ⟨q, os, rfl⟩ := h
  exact ⟨rfl, rfl, rfl, by simp [grow, World.drewN], fun k hk => by simp only [grow, World.drewN]; exact Array.getElem?_append_left hk⟩

/-- A world that was gone on from by draws and new blocks; a block that bears these cells. -/
structure Bg (w0 wr : World) (B : Nat) (cs : Array Value) (t : TypeId) : Prop where
  gr : Gr w0 wr
  blk : wr.heap[B]? = some (.cells cs t (0, 0))
theorem Bg.next {w0 wr w1 : World} {B : Nat} {cs : Array Value} {t : TypeId} (h : Bg w0 wr B cs t) (hb : Gr wr w1) : Bg w0 w1 B cs t :=
  ⟨h.gr.trans hb, (hb.below.block _ (Array.getElem?_eq_some_iff.1 h.blk).1).trans h.blk⟩
theorem Bg.cell {w0 wr : World} {B : Nat} {cs : Array Value} {t : TypeId} (h : Bg w0 wr B cs t) (o : Nat) : wr.cell? ⟨B, o, none⟩ = cs[o]? := by
  simp [World.cell?, h.blk]
theorem Bg.start (w : World) (cs cs' : Array Value) (t t' : TypeId) : Bg w ((w.alloc (.cells cs t)).alloc (.cells cs' t')) w.heap.size cs t ∧ Bg w ((w.alloc (.cells cs t)).alloc (.cells cs' t')) (w.heap.size + 1) cs' t' :=
  ⟨⟨((Gr.refl w).alloc _).alloc _, by rw [Below.heap_alloc _ _ _ (by simp)]; show (w.heap.push _)[w.heap.size]? = _; simp⟩,
   ⟨((Gr.refl w).alloc _).alloc _, by have := heap_last (w.alloc (.cells cs t)) (.cells cs' t'); rwa [World.size_alloc] at this⟩⟩


set_option maxHeartbeats 1000000 in
theorem name_met (x : Met) (w : World) : Calls Tryz.prog 104 #[.agg #[.string x.name, .int .i64 x.kind, .int .i64 x.goal]] w fun e w' => e = .returned (.string x.name) ∧ Gr w w' := by
  have HG : Hid (∀ o, Gr w (w.alloc o)) := fun o => (Gr.refl w).alloc o
  go_enter Tryz.func104, Tryz.ntmps104
  go_wp2
  go_ret
  exact ⟨rfl, HG.out _⟩


set_option maxRecDepth 100000 in
set_option maxHeartbeats 2000000 in
theorem clo1_met (x y : Met) (B : Nat) (w : World) (hB : w.cell? ⟨B, 0, none⟩ = some (.func (.func 104) #[] #[])) :
    Calls Tryz.prog 154 #[.agg #[.string x.name, .int .i64 x.kind, .int .i64 x.goal], .agg #[.string y.name, .int .i64 y.kind, .int .i64 y.goal], .pointer (some ⟨B, 0, none⟩)] w fun e w' => e = .returned (.int .i64 (cmpS x.name y.name)) ∧ Gr w w' := by
  have hlt : B < w.heap.size := World.block_lt_of_cell? _ _ hB
  have HX := Lib.hid (Bg.start w #[.string x.name, .int .i64 x.kind, .int .i64 x.goal] #[.string y.name, .int .i64 y.kind, .int .i64 y.goal] 95 95)
  go_enter Tryz.func154, Tryz.ntmps154
  go_wp2
  have x0 := HX.out.1.cell 0; have x1 := HX.out.1.cell 1; have x2 := HX.out.1.cell 2; have y0 := HX.out.2.cell 0; have y1 := HX.out.2.cell 1; have y2 := HX.out.2.cell 2; have z0 := (HX.out.1.gr.below.cell (p := ⟨B, 0, none⟩) (by exact hlt)).trans hB
  replace HX := Lib.hid (And.intro (HX.out.1.next ((Gr.refl _).drew 1)) (HX.out.2.next ((Gr.refl _).drew 1)))
  go_region_held3 (fun w' => w'.cell? ⟨B, 0, none⟩ = some (.func (.func 104) #[] #[]) ∧ w'.cell? ⟨w.heap.size, 0, none⟩ = some (.string x.name) ∧ w'.cell? ⟨w.heap.size, 1, none⟩ = some (.int .i64 x.kind) ∧ w'.cell? ⟨w.heap.size, 2, none⟩ = some (.int .i64 x.goal) ∧ w'.cell? ⟨w.heap.size + 1, 0, none⟩ = some (.string y.name) ∧ w'.cell? ⟨w.heap.size + 1, 1, none⟩ = some (.int .i64 y.kind) ∧ w'.cell? ⟨w.heap.size + 1, 2, none⟩ = some (.int .i64 y.goal)) (go_keep)
    (first
      | (go_at_call 104; refine (name_met _ _).mono ?_; rintro e w1 ⟨rfl, hg⟩; replace HX := Lib.hid (And.intro (HX.out.1.next hg) (HX.out.2.next hg)); clear hg; clear x0 x1 x2 y0 y1 y2 z0; have x0 := HX.out.1.cell 0; have x1 := HX.out.1.cell 1; have x2 := HX.out.1.cell 2; have y0 := HX.out.2.cell 0; have y1 := HX.out.2.cell 1; have y2 := HX.out.2.cell 2; have z0 := (HX.out.1.gr.below.cell (p := ⟨B, 0, none⟩) (by exact hlt)).trans hB)
      | (go_at_call 155; refine (cmp_str _ _ _).mono ?_; rintro e w1 ⟨rfl, e1⟩; subst e1))
  go_wp2
  go_ret
  exact ⟨rfl, HX.out.1.gr⟩


set_option maxRecDepth 100000 in
set_option maxHeartbeats 2000000 in
theorem clo2_met (x y : Met) (B : Nat) (w : World) (hB : w.cell? ⟨B, 0, none⟩ = some (.func (.func 104) #[] #[])) :
    Calls Tryz.prog 157 #[.agg #[.string x.name, .int .i64 x.kind, .int .i64 x.goal], .agg #[.string y.name, .int .i64 y.kind, .int .i64 y.goal], .pointer (some ⟨B, 0, none⟩)] w fun e w' => e = .returned (.bool (x.name.toList == y.name.toList)) ∧ Gr w w' := by
  have hlt : B < w.heap.size := World.block_lt_of_cell? _ _ hB
  have HX := Lib.hid (Bg.start w #[.string x.name, .int .i64 x.kind, .int .i64 x.goal] #[.string y.name, .int .i64 y.kind, .int .i64 y.goal] 95 95)
  go_enter Tryz.func157, Tryz.ntmps157
  go_wp2
  have x0 := HX.out.1.cell 0; have x1 := HX.out.1.cell 1; have x2 := HX.out.1.cell 2; have y0 := HX.out.2.cell 0; have y1 := HX.out.2.cell 1; have y2 := HX.out.2.cell 2; have z0 := (HX.out.1.gr.below.cell (p := ⟨B, 0, none⟩) (by exact hlt)).trans hB
  replace HX := Lib.hid (And.intro (HX.out.1.next ((Gr.refl _).drew 1)) (HX.out.2.next ((Gr.refl _).drew 1)))
  go_region_held3 (fun w' => w'.cell? ⟨B, 0, none⟩ = some (.func (.func 104) #[] #[]) ∧ w'.cell? ⟨w.heap.size, 0, none⟩ = some (.string x.name) ∧ w'.cell? ⟨w.heap.size, 1, none⟩ = some (.int .i64 x.kind) ∧ w'.cell? ⟨w.heap.size, 2, none⟩ = some (.int .i64 x.goal) ∧ w'.cell? ⟨w.heap.size + 1, 0, none⟩ = some (.string y.name) ∧ w'.cell? ⟨w.heap.size + 1, 1, none⟩ = some (.int .i64 y.kind) ∧ w'.cell? ⟨w.heap.size + 1, 2, none⟩ = some (.int .i64 y.goal)) (go_keep)
    (first
      | (go_at_call 104; refine (name_met _ _).mono ?_; rintro e w1 ⟨rfl, hg⟩; replace HX := Lib.hid (And.intro (HX.out.1.next hg) (HX.out.2.next hg)); clear hg; clear x0 x1 x2 y0 y1 y2 z0; have x0 := HX.out.1.cell 0; have x1 := HX.out.1.cell 1; have x2 := HX.out.1.cell 2; have y0 := HX.out.2.cell 0; have y1 := HX.out.2.cell 1; have y2 := HX.out.2.cell 2; have z0 := (HX.out.1.gr.below.cell (p := ⟨B, 0, none⟩) (by exact hlt)).trans hB))
  go_wp2
  go_ret
  exact ⟨rfl, HX.out.1.gr⟩


set_option maxHeartbeats 1000000 in
theorem name_not (x : Not) (w : World) : Calls Tryz.prog 107 #[.agg #[.string x.key, .string x.text]] w fun e w' => e = .returned (.string x.key) ∧ Gr w w' := by
  have HG : Hid (∀ o, Gr w (w.alloc o)) := fun o => (Gr.refl w).alloc o
  go_enter Tryz.func107, Tryz.ntmps107
  go_wp2
  go_ret
  exact ⟨rfl, HG.out _⟩


set_option maxRecDepth 100000 in
set_option maxHeartbeats 2000000 in
theorem clo1_not (x y : Not) (B : Nat) (w : World) (hB : w.cell? ⟨B, 0, none⟩ = some (.func (.func 107) #[] #[])) :
    Calls Tryz.prog 162 #[.agg #[.string x.key, .string x.text], .agg #[.string y.key, .string y.text], .pointer (some ⟨B, 0, none⟩)] w fun e w' => e = .returned (.int .i64 (cmpS x.key y.key)) ∧ Gr w w' := by
  have hlt : B < w.heap.size := World.block_lt_of_cell? _ _ hB
  have HX := Lib.hid (Bg.start w #[.string x.key, .string x.text] #[.string y.key, .string y.text] 97 97)
  go_enter Tryz.func162, Tryz.ntmps162
  go_wp2
  have x0 := HX.out.1.cell 0; have x1 := HX.out.1.cell 1; have y0 := HX.out.2.cell 0; have y1 := HX.out.2.cell 1; have z0 := (HX.out.1.gr.below.cell (p := ⟨B, 0, none⟩) (by exact hlt)).trans hB
  replace HX := Lib.hid (And.intro (HX.out.1.next ((Gr.refl _).drew 1)) (HX.out.2.next ((Gr.refl _).drew 1)))
  go_region_held3 (fun w' => w'.cell? ⟨B, 0, none⟩ = some (.func (.func 107) #[] #[]) ∧ w'.cell? ⟨w.heap.size, 0, none⟩ = some (.string x.key) ∧ w'.cell? ⟨w.heap.size, 1, none⟩ = some (.string x.text) ∧ w'.cell? ⟨w.heap.size + 1, 0, none⟩ = some (.string y.key) ∧ w'.cell? ⟨w.heap.size + 1, 1, none⟩ = some (.string y.text)) (go_keep)
    (first
      | (go_at_call 107; refine (name_not _ _).mono ?_; rintro e w1 ⟨rfl, hg⟩; replace HX := Lib.hid (And.intro (HX.out.1.next hg) (HX.out.2.next hg)); clear hg; clear x0 x1 y0 y1 z0; have x0 := HX.out.1.cell 0; have x1 := HX.out.1.cell 1; have y0 := HX.out.2.cell 0; have y1 := HX.out.2.cell 1; have z0 := (HX.out.1.gr.below.cell (p := ⟨B, 0, none⟩) (by exact hlt)).trans hB)
      | (go_at_call 155; refine (cmp_str _ _ _).mono ?_; rintro e w1 ⟨rfl, e1⟩; subst e1))
  go_wp2
  go_ret
  exact ⟨rfl, HX.out.1.gr⟩


set_option maxRecDepth 100000 in
set_option maxHeartbeats 2000000 in
theorem clo2_not (x y : Not) (B : Nat) (w : World) (hB : w.cell? ⟨B, 0, none⟩ = some (.func (.func 107) #[] #[])) :
    Calls Tryz.prog 164 #[.agg #[.string x.key, .string x.text], .agg #[.string y.key, .string y.text], .pointer (some ⟨B, 0, none⟩)] w fun e w' => e = .returned (.bool (x.key.toList == y.key.toList)) ∧ Gr w w' := by
  have hlt : B < w.heap.size := World.block_lt_of_cell? _ _ hB
  have HX := Lib.hid (Bg.start w #[.string x.key, .string x.text] #[.string y.key, .string y.text] 97 97)
  go_enter Tryz.func164, Tryz.ntmps164
  go_wp2
  have x0 := HX.out.1.cell 0; have x1 := HX.out.1.cell 1; have y0 := HX.out.2.cell 0; have y1 := HX.out.2.cell 1; have z0 := (HX.out.1.gr.below.cell (p := ⟨B, 0, none⟩) (by exact hlt)).trans hB
  replace HX := Lib.hid (And.intro (HX.out.1.next ((Gr.refl _).drew 1)) (HX.out.2.next ((Gr.refl _).drew 1)))
  go_region_held3 (fun w' => w'.cell? ⟨B, 0, none⟩ = some (.func (.func 107) #[] #[]) ∧ w'.cell? ⟨w.heap.size, 0, none⟩ = some (.string x.key) ∧ w'.cell? ⟨w.heap.size, 1, none⟩ = some (.string x.text) ∧ w'.cell? ⟨w.heap.size + 1, 0, none⟩ = some (.string y.key) ∧ w'.cell? ⟨w.heap.size + 1, 1, none⟩ = some (.string y.text)) (go_keep)
    (first
      | (go_at_call 107; refine (name_not _ _).mono ?_; rintro e w1 ⟨rfl, hg⟩; replace HX := Lib.hid (And.intro (HX.out.1.next hg) (HX.out.2.next hg)); clear hg; clear x0 x1 y0 y1 z0; have x0 := HX.out.1.cell 0; have x1 := HX.out.1.cell 1; have y0 := HX.out.2.cell 0; have y1 := HX.out.2.cell 1; have z0 := (HX.out.1.gr.below.cell (p := ⟨B, 0, none⟩) (by exact hlt)).trans hB))
  go_wp2
  go_ret
  exact ⟨rfl, HX.out.1.gr⟩

end Go.Proofs.YtfgfgmbifdojcaaGreatDoor

/- plain facts on lists that are ordered by names: the order is one; what is in order stays as it is when it is sorted by insertion; what is sorted, and has no two of one name side by side, ascends. -/
namespace Go.Proofs.YtfgfgmbifdojcaaGreatDoor
open Go Go.RowKit Go.Sort

section
variable {α : Type} (nm : α → ByteArray)

def cmpN (x y : α) : Int := cmpS (nm x) (nm y)

theorem ltN (x y : α) : ltOf (cmpN nm) x y = Op.bytesLess (nm x).toList (nm y).toList := by
  unfold ltOf cmpN cmpS
  by_cases h : Op.bytesLess (nm x).toList (nm y).toList = true
  · simp [h]
  · have h' : Op.bytesLess (nm x).toList (nm y).toList = false := by simpa using h
    rw [if_neg h, h']
    split <;> simp

theorem less_irrefl (l : List UInt8) : Op.bytesLess l l = false := by
  rw [bytesLess_eq]; simp
theorem less_trans {a b c : List UInt8} (h1 : Op.bytesLess a b = true) (h2 : Op.bytesLess b c = true) : Op.bytesLess a c = true := by
  rw [bytesLess_eq] at *
  simp only [decide_eq_true_eq] at *
  exact List.lt_trans h1 h2
theorem less_ntrans {a b c : List UInt8} (h1 : Op.bytesLess a b = false) (h2 : Op.bytesLess b c = false) : Op.bytesLess a c = false := by
  rw [bytesLess_eq] at *
  simp only [decide_eq_false_iff_not, List.not_lt] at *
  exact List.le_trans h2 h1
theorem less_alike {a b : List UInt8} (h1 : Op.bytesLess a b = false) (h2 : Op.bytesLess b a = false) : a = b := by
  rw [bytesLess_eq] at *
  simp only [decide_eq_false_iff_not, List.not_lt] at *
  exact List.le_antisymm h2 h1

theorem swoN : SWO (ltOf (cmpN nm)) where
  irrefl x := by rw [ltN]; exact less_irrefl _
  trans x y z h1 h2 := by rw [ltN] at *; exact less_trans h1 h2
  ntrans x y z h1 h2 := by rw [ltN] at *; exact less_ntrans h1 h2

end

section
variable {α : Type} [Inhabited α] (nm : α → ByteArray)

theorem ins_stays (lt : α → α → Bool) (d : Array α) (b : Nat) (h : ∀ i, 0 < i → i < b → lt d[i]! d[i - 1]! = false) : ∀ (n i : Nat), b - i = n → 0 < i → insOuter lt 0 b i d = d := by
  intro n
  induction n with
  | zero => intro i hn hi; exact insOuter_stop lt 0 b i d (by omega)
  | succ n ih =>
    intro i hn hi
    rw [insOuter_go lt 0 b i d (by omega), insInner_stop lt 0 i d (.inr (h i hi (by omega)))]
    exact ih (i + 1) (by omega) (by omega)

/-- Names ascending. -/
def Asc (xs : List α) : Prop := ∀ i (h : i < xs.length), 0 < i → Op.bytesLess (nm (xs[i - 1]'(by omega))).toList (nm xs[i]).toList = true

theorem get!_toArray (xs : List α) {i : Nat} (h : i < xs.length) : xs.toArray[i]! = xs[i] := by
  simp [h]

theorem ins_asc {xs : List α} (h : Asc nm xs) : insertionSort (ltOf (cmpN nm)) xs.toArray 0 xs.length = xs.toArray := by
  refine ins_stays _ _ _ (fun i h0 hi => ?_) _ _ rfl (by decide)
  rw [ltN, get!_toArray _ hi, get!_toArray _ (by omega : i - 1 < xs.length)]
  have h1 := h i hi h0
  rcases Bool.eq_false_or_eq_true (Op.bytesLess (nm xs[i]).toList (nm (xs[i - 1]'(by omega))).toList) with h2 | h2
  · have := less_trans h1 h2
    rw [less_irrefl] at this
    cases this
  · exact h2

theorem ins_size (d : Array α) : (insertionSort (ltOf (cmpN nm)) d 0 d.size).size = d.size := (insertionSort_holds (swoN nm) d 0 d.size (Nat.zero_le _) (Nat.le_refl _)).1.1

/-- What is sorted, and has no two of one name side by side, ascends. -/
theorem asc_of_sorted {d : Array α} (hd : SortedIn (ltOf (cmpN nm)) 0 d.size d) (hn : ∀ i (h : i < d.size), 0 < i → ¬ (nm d[i]).toList = (nm (d[i - 1]'(by omega))).toList) : Asc nm d.toList := fun i h h0 => by
  have h' : i < d.size := by simpa using h
  have hs := hd (i - 1) i (Nat.zero_le _) (by omega) h'
  rw [ltN, getElem!_pos d i h', getElem!_pos d (i - 1) (by omega)] at hs
  rcases Bool.eq_false_or_eq_true (Op.bytesLess (nm (d[i - 1]'(by omega))).toList (nm d[i]).toList) with h2 | h2
  · simpa using h2
  · exact absurd (less_alike hs h2) (hn i h' h0)
end

theorem els_iff {α : Type} (nm : α → ByteArray) (ok : α → Bool) (xs : List α) : Els nm ok xs ↔ (xs.length ≤ 4 ∧ (∀ x ∈ xs, ok x = true) ∧ Asc nm xs) := by
  constructor
  · intro h
    refine ⟨h.2, fun x hx => ?_, fun i hi h0 => (h.1 i hi).2 h0⟩
    obtain ⟨i, hi, rfl⟩ := List.getElem_of_mem hx
    exact (h.1 i hi).1
  · rintro ⟨h1, h2, h3⟩
    exact ⟨fun i hi => ⟨h2 _ (List.getElem_mem hi), fun h0 => h3 i hi h0⟩, h1⟩
end Go.Proofs.YtfgfgmbifdojcaaGreatDoor

/- slices.SortStableFunc of at most four metrics, or notes, sorts them by insertion. -/
namespace Go.Proofs.YtfgfgmbifdojcaaGreatDoor
open Go Go.RowKit Go.Sort

instance metInh : Inhabited Met := ⟨⟨⟨#[]⟩, 0, 0⟩⟩
instance notInh : Inhabited Not := ⟨⟨⟨#[]⟩, ⟨#[]⟩⟩⟩


theorem lays_met {B blk : Nat} {w : World} (size : Nat) (hB : w.cell? ⟨B, 0, none⟩ = some (.func (.func 104) #[] #[])) (hne : B ≠ blk) :
    CmpLays Tryz.prog 154 #[.pointer (some ⟨B, 0, none⟩)] Met.row 3 (cmpN Met.name) blk 0 size w := fun m os dk _ x y => by
  have hlt : B < w.heap.size := World.block_lt_of_cell? _ _ hB
  have hc : (sortWorldK Met.row 3 w blk 0 m dk os).cell? ⟨B, 0, none⟩ = some (.func (.func 104) #[] #[]) := by
    unfold sortWorldK
    rw [cell?_grow _ _ _ (by rw [size_putRowK]; exact hlt), cell?_putRowK_other _ _ _ _ _ _ _ (by exact hne)]
    exact hB
  exact clo1_met x y B _ hc

set_option maxRecDepth 100000 in
set_option maxHeartbeats 2000000 in
theorem ins_met {B blk cap : Nat} (d : Array Met) (w : World) (hB : w.cell? ⟨B, 0, none⟩ = some (.func (.func 104) #[] #[])) (hne : B ≠ blk) (hH : HoldsK Met.row 3 w blk 0 d) (hblk : blk < w.heap.size) (h4 : d.size ≤ 4) :
    Calls Tryz.prog 182 #[.slice (some ⟨blk, 0, none⟩) d.size cap, .int .i64 0, .int .i64 d.size, .func (.func 154) #[] #[.pointer (some ⟨B, 0, none⟩)]] w fun e w' =>
      e = .returned (.tuple #[]) ∧ ∃ n os, w' = sortWorldK Met.row 3 w blk 0 n (Sort.insertionSort (ltOf (cmpN Met.name)) d 0 d.size) os := by
  have eg : ∀ args w, (callFunc 154 args).run Tryz.prog w = .ok (.enter 154 args) w := enters_of Tryz.func154 (by kernel_rfl) rfl
  have h := AnyQ.insertionSortCmpFunc Tryz.insMet 3 Tryz.isAgg95 Tryz.sizeOf95 Met.row (fun _ => rfl) (fun x v hv => by simp [Met.row] at hv; rcases hv with rfl | rfl | rfl <;> rfl) (cmpN Met.name) 154 #[.pointer (some ⟨B, 0, none⟩)] blk 0 cap 0 d.size d w eg (lays_met d.size hB hne) hH hblk (Nat.zero_le _) (Nat.le_refl _) (by omega)
  exact h

set_option maxRecDepth 100000 in
set_option maxHeartbeats 2000000 in
theorem stable_met {B blk cap : Nat} (d : Array Met) (w : World) (hB : w.cell? ⟨B, 0, none⟩ = some (.func (.func 104) #[] #[])) (hne : B ≠ blk) (hH : HoldsK Met.row 3 w blk 0 d) (hblk : blk < w.heap.size) (h4 : d.size ≤ 4) :
    Calls Tryz.prog 172 #[.slice (some ⟨blk, 0, none⟩) d.size cap, .int .i64 d.size, .func (.func 154) #[] #[.pointer (some ⟨B, 0, none⟩)]] w fun e w' =>
      e = .returned (.tuple #[]) ∧ ∃ n os, w' = sortWorldK Met.row 3 w blk 0 n (Sort.insertionSort (ltOf (cmpN Met.name)) d 0 d.size) os := by
  have hi := Lib.hid (ins_met (cap := cap) d w hB hne hH hblk h4)
  clear hH hB
  generalize Sort.insertionSort (ltOf (cmpN Met.name)) d 0 d.size = r at *
  have h5 : ¬ (20 : Int) ≤ d.size := by omega
  have h6 : ¬ (20 : Int) < d.size := by omega
  go_enter Tryz.func172, Tryz.ntmps172
  go_wp2
  refine wp_loop_rounds 1 ?_
  rw [rounds_succ]
  go_wp2_with (first | (go_at_call 182; refine hi.out.mono ?_; rintro e w1 ⟨rfl, n, os, rfl⟩) | fail)
  refine wp_loop_rounds 1 ?_
  rw [rounds_succ]
  go_wp2
  go_end0
  exact ⟨rfl, n, os, rfl⟩

set_option maxRecDepth 100000 in
set_option maxHeartbeats 2000000 in
theorem sort_met {B blk cap : Nat} (d : Array Met) (w : World) (hB : w.cell? ⟨B, 0, none⟩ = some (.func (.func 104) #[] #[])) (hne : B ≠ blk) (hH : HoldsK Met.row 3 w blk 0 d) (hblk : blk < w.heap.size) (h4 : d.size ≤ 4) :
    Calls Tryz.prog 153 #[.slice (some ⟨blk, 0, none⟩) d.size cap, .func (.func 154) #[] #[.pointer (some ⟨B, 0, none⟩)]] w fun e w' =>
      e = .returned (.tuple #[]) ∧ ∃ n os, w' = sortWorldK Met.row 3 w blk 0 n (Sort.insertionSort (ltOf (cmpN Met.name)) d 0 d.size) os := by
  have hi := Lib.hid (stable_met (cap := cap) d w hB hne hH hblk h4)
  clear hH hB
  generalize Sort.insertionSort (ltOf (cmpN Met.name)) d 0 d.size = r at *
  go_enter Tryz.func153, Tryz.ntmps153
  go_wp2_with (first | (go_at_call 172; refine hi.out.mono ?_; rintro e w1 ⟨rfl, n, os, rfl⟩) | fail)
  go_end0
  exact ⟨rfl, n, os, rfl⟩


theorem lays_not {B blk : Nat} {w : World} (size : Nat) (hB : w.cell? ⟨B, 0, none⟩ = some (.func (.func 107) #[] #[])) (hne : B ≠ blk) :
    CmpLays Tryz.prog 162 #[.pointer (some ⟨B, 0, none⟩)] Not.row 2 (cmpN Not.key) blk 0 size w := fun m os dk _ x y => by
  have hlt : B < w.heap.size := World.block_lt_of_cell? _ _ hB
  have hc : (sortWorldK Not.row 2 w blk 0 m dk os).cell? ⟨B, 0, none⟩ = some (.func (.func 107) #[] #[]) := by
    unfold sortWorldK
    rw [cell?_grow _ _ _ (by rw [size_putRowK]; exact hlt), cell?_putRowK_other _ _ _ _ _ _ _ (by exact hne)]
    exact hB
  exact clo1_not x y B _ hc

set_option maxRecDepth 100000 in
set_option maxHeartbeats 2000000 in
theorem ins_not {B blk cap : Nat} (d : Array Not) (w : World) (hB : w.cell? ⟨B, 0, none⟩ = some (.func (.func 107) #[] #[])) (hne : B ≠ blk) (hH : HoldsK Not.row 2 w blk 0 d) (hblk : blk < w.heap.size) (h4 : d.size ≤ 4) :
    Calls Tryz.prog 185 #[.slice (some ⟨blk, 0, none⟩) d.size cap, .int .i64 0, .int .i64 d.size, .func (.func 162) #[] #[.pointer (some ⟨B, 0, none⟩)]] w fun e w' =>
      e = .returned (.tuple #[]) ∧ ∃ n os, w' = sortWorldK Not.row 2 w blk 0 n (Sort.insertionSort (ltOf (cmpN Not.key)) d 0 d.size) os := by
  have eg : ∀ args w, (callFunc 162 args).run Tryz.prog w = .ok (.enter 162 args) w := enters_of Tryz.func162 (by kernel_rfl) rfl
  have h := AnyQ.insertionSortCmpFunc Tryz.insNot 2 Tryz.isAgg97 Tryz.sizeOf97 Not.row (fun _ => rfl) (fun x v hv => by simp [Not.row] at hv; rcases hv with rfl | rfl <;> rfl) (cmpN Not.key) 162 #[.pointer (some ⟨B, 0, none⟩)] blk 0 cap 0 d.size d w eg (lays_not d.size hB hne) hH hblk (Nat.zero_le _) (Nat.le_refl _) (by omega)
  exact h

set_option maxRecDepth 100000 in
set_option maxHeartbeats 2000000 in
theorem stable_not {B blk cap : Nat} (d : Array Not) (w : World) (hB : w.cell? ⟨B, 0, none⟩ = some (.func (.func 107) #[] #[])) (hne : B ≠ blk) (hH : HoldsK Not.row 2 w blk 0 d) (hblk : blk < w.heap.size) (h4 : d.size ≤ 4) :
    Calls Tryz.prog 175 #[.slice (some ⟨blk, 0, none⟩) d.size cap, .int .i64 d.size, .func (.func 162) #[] #[.pointer (some ⟨B, 0, none⟩)]] w fun e w' =>
      e = .returned (.tuple #[]) ∧ ∃ n os, w' = sortWorldK Not.row 2 w blk 0 n (Sort.insertionSort (ltOf (cmpN Not.key)) d 0 d.size) os := by
  have hi := Lib.hid (ins_not (cap := cap) d w hB hne hH hblk h4)
  clear hH hB
  generalize Sort.insertionSort (ltOf (cmpN Not.key)) d 0 d.size = r at *
  have h5 : ¬ (20 : Int) ≤ d.size := by omega
  have h6 : ¬ (20 : Int) < d.size := by omega
  go_enter Tryz.func175, Tryz.ntmps175
  go_wp2
  refine wp_loop_rounds 1 ?_
  rw [rounds_succ]
  go_wp2_with (first | (go_at_call 185; refine hi.out.mono ?_; rintro e w1 ⟨rfl, n, os, rfl⟩) | fail)
  refine wp_loop_rounds 1 ?_
  rw [rounds_succ]
  go_wp2
  go_end0
  exact ⟨rfl, n, os, rfl⟩

set_option maxRecDepth 100000 in
set_option maxHeartbeats 2000000 in
theorem sort_not {B blk cap : Nat} (d : Array Not) (w : World) (hB : w.cell? ⟨B, 0, none⟩ = some (.func (.func 107) #[] #[])) (hne : B ≠ blk) (hH : HoldsK Not.row 2 w blk 0 d) (hblk : blk < w.heap.size) (h4 : d.size ≤ 4) :
    Calls Tryz.prog 161 #[.slice (some ⟨blk, 0, none⟩) d.size cap, .func (.func 162) #[] #[.pointer (some ⟨B, 0, none⟩)]] w fun e w' =>
      e = .returned (.tuple #[]) ∧ ∃ n os, w' = sortWorldK Not.row 2 w blk 0 n (Sort.insertionSort (ltOf (cmpN Not.key)) d 0 d.size) os := by
  have hi := Lib.hid (stable_not (cap := cap) d w hB hne hH hblk h4)
  clear hH hB
  generalize Sort.insertionSort (ltOf (cmpN Not.key)) d 0 d.size = r at *
  go_enter Tryz.func161, Tryz.ntmps161
  go_wp2_with (first | (go_at_call 175; refine hi.out.mono ?_; rintro e w1 ⟨rfl, n, os, rfl⟩) | fail)
  go_end0
  exact ⟨rfl, n, os, rfl⟩

end Go.Proofs.YtfgfgmbifdojcaaGreatDoor

/- plain facts on a row of small structs that a function may write; clear of a part of it. -/
namespace Go.Proofs.YtfgfgmbifdojcaaGreatDoor
open Go Go.RowKit Go.Sort

/-- The block blk bears these structs, of k cells each; nothing else that lay in w has turned. -/
structure Rw {α : Type} (enc : α → List Value) (k : Nat) (w wr : World) (blk : Nat) (es : List α) : Prop where
  cell : ∀ i (h : i < es.length) j, j < k → wr.cell? ⟨blk, i * k + j, none⟩ = (enc es[i])[j]?
  free : ∀ o, wr.frozen? ⟨blk, o, none⟩ = false
  gr : w.grownBy wr (some blk)

section
variable {α : Type} {enc : α → List Value} {k : Nat} {w wr w1 : World} {blk : Nat} {es : List α}

theorem grw_trans {a b c : World} {r : Option Nat} (h : a.grownBy b r) (h' : b.grownBy c r) : a.grownBy c r :=
  ⟨h'.os.trans h.os, h'.tape.trans h.tape, h'.output.trans h.output, Nat.le_trans h.size h'.size, fun k hk hr => (h'.block k (Nat.lt_of_lt_of_le hk h.size) hr).trans (h.block k hk hr)⟩
theorem grw_of_below {a b : World} {r : Option Nat} (h : Below a.heap.size a b) : a.grownBy b r := ⟨h.os, h.tape, h.output, h.size, fun k hk _ => h.block k hk⟩

theorem Rw.next (h : Rw enc k w wr blk es) (hg : Gr wr w1) (hb : blk < wr.heap.size) : Rw enc k w w1 blk es :=
  ⟨fun i hi j hj => by rw [hg.below.cell (by exact hb)]; exact h.cell i hi j hj, fun o => by rw [World.frozen?_of_block (w := wr) (hg.below.block _ hb)]; exact h.free o, grw_trans h.gr (grw_of_below hg.below)⟩

theorem grw_setCells (w : World) (b o : Nat) (vs : List Value) : w.grownBy (w.setCells b o vs) (some b) := by
  induction vs generalizing w o with
  | nil => exact ⟨rfl, rfl, rfl, Nat.le_refl _, fun _ _ _ => rfl⟩
  | cons v vs ih =>
    have h1 : w.grownBy (w.setCell ⟨b, o, none⟩ v) (some b) := ⟨rfl, rfl, rfl, by simp, fun k hk hr => Below.heap_setCell w ⟨b, o, none⟩ v k (by show k ≠ b; simpa using hr)⟩
    exact grw_trans h1 (ih (w.setCell ⟨b, o, none⟩ v) (o + 1))

theorem Rw.put (hk : ∀ a, (enc a).length = k) (h : Rw enc k w wr blk es) {i : Nat} (hi : i < es.length) (x : α) : Rw enc k w (wr.setCells blk (i * k) (enc x)) blk (es.set i x) := by
  refine ⟨fun i' hi' j hj => ?_, fun o => ?_, grw_trans h.gr (grw_setCells _ _ _ _)⟩
  · have hi2 : i' < es.length := by simpa using hi'
    by_cases e : i' = i
    · subst e
      have := World.cell?_setCells_in blk (enc x) (i' * k) wr (fun j hj => by rw [h.cell i' hi2 j (by rw [← hk x]; exact hj), List.getElem?_eq_getElem (by rw [hk, ← hk x]; exact hj)]; rfl) j (by rw [hk]; exact hj)
      rw [this]
      simp only [List.getElem_set_self]
      rw [List.getElem?_eq_getElem (by rw [hk]; exact hj)]
    · rw [World.cell?_setCells_out blk (enc x) (i * k) wr _ (fun _ _ => by
        simp only [hk]
        rcases Nat.lt_or_gt_of_ne e with h1 | h1
        · left
          have : (i' + 1) * k ≤ i * k := Nat.mul_le_mul_right k h1
          rw [Nat.add_mul] at this
          omega
        · right
          have : (i + 1) * k ≤ i' * k := Nat.mul_le_mul_right k h1
          rw [Nat.add_mul] at this
          omega)]
      rw [h.cell i' hi2 j hj]
      simp [Ne.symm e]
  · rw [World.frozen?_setCells]; exact h.free o

theorem zero_mem {cs : Array Value} {n : Nat} (h0 : 0 < cs.size) : ∀ v ∈ (Builtin.zeroCells cs n).toList, v ∈ cs := by
  intro v hv
  simp only [Builtin.zeroCells, Array.toList_map, List.mem_map] at hv
  obtain ⟨i, _, rfl⟩ := hv
  rw [getElem!_pos cs (i % cs.size) (Nat.mod_lt _ h0)]
  exact Array.getElem_mem _

/-- 'clear(s)', s a slice of n > 0 structs. -/
theorem clear_run {P : Program} (w : World) (t e ty : TypeId) (cs : Array Value) (ht : P.underlying t = some (.slice e)) (hv : ∀ w, (zeroValue e).run P w = .ok (.agg cs) w) (h0 : 0 < cs.size) (h1 : ∀ v ∈ cs, v.oneCell' = true) (b o n c : Nat) (hn : 0 < n)
    (hc : ∀ j, j < n * cs.size → (w.cell? ⟨b, o + j, none⟩).isSome = true) (hf : ∀ j, j < n * cs.size → w.frozen? ⟨b, o + j, none⟩ = false) :
    (Builtin.clear_ #[t] ty #[.slice (some ⟨b, o, none⟩) n c]).run P w = .ok (.tuple #[]) (w.setCells b o (Builtin.zeroCells cs n).toList) := by
  have hst := run_storeCells_cells (P := P) b o (Builtin.zeroCells cs n).toList 0 w (by simpa [size_zeroCells] using hc) (by simpa [size_zeroCells] using hf) (fun v hv' => h1 v (zero_mem h0 v hv'))
  simp only [Nat.add_zero] at hst
  have hz : (Value.agg cs).cells = cs := rfl
  obtain ⟨m, rfl⟩ : ∃ m, n = m + 1 := ⟨n - 1, by omega⟩
  simp [Builtin.clear_, run_underlying ht, hv, hz, hst]
end
end Go.Proofs.YtfgfgmbifdojcaaGreatDoor
