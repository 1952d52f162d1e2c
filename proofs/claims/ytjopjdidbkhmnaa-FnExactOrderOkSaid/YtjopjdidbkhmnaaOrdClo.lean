/-
  What is proved: cmp.Compare of two texts; the closures by which metrics and notes are ordered, and told alike, answer by their names.
-/
import Derived.Test.YtjopjdidbkhmnaaOrdEq
import Derived.Sort.Grow
namespace Go.Proofs.Ytjopjdidbkhmnaa
open Go Go.RowKit Go.Sort

theorem str_gtrO (t : TypeId) (a b : ByteArray) : binOp .gtr t (.string a) (.string b) = pure (.bool !(Op.bytesLess a.toList b.toList || a.toList == b.toList)) := by simp [binOp, Op.stringOp]

/-- Below, alike, above. -/
def cmpS (a b : ByteArray) : Int := if Op.bytesLess a.toList b.toList = true then -1 else if (a.toList == b.toList) = true then 0 else 1

theorem nan_str (a : ByteArray) (w : World) : Calls Try.prog 76 #[.string a] w fun e w' => e = .returned (.bool false) ∧ w' = w := by
  go_enter Try.func76, Try.ntmps76
  go_wp2
  go_ret
  exact ⟨rfl, rfl⟩

set_option maxHeartbeats 1000000 in
theorem cmp_str (a b : ByteArray) (w : World) : Calls Try.prog 65 #[.string a, .string b] w fun e w' => e = .returned (.int .i64 (cmpS a b)) ∧ w' = w := by
  have hg := str_gtrO
  unfold cmpS
  by_cases h1 : Op.bytesLess a.toList b.toList = true
  · rw [if_pos h1]
    go_enter Try.func65, Try.ntmps65
    go_wp2_with (first | (go_at_call 76; refine (nan_str _ _).mono ?_; rintro e w1 ⟨rfl, e1⟩; subst e1) | fail)
    go_ret
    exact ⟨rfl, rfl⟩
  · have h1' : Op.bytesLess a.toList b.toList = false := by simpa using h1
    rw [if_neg h1]
    by_cases h2 : (a.toList == b.toList) = true
    · rw [if_pos h2]
      clear h1
      go_enter Try.func65, Try.ntmps65
      go_wp2_with (first | (go_at_call 76; refine (nan_str _ _).mono ?_; rintro e w1 ⟨rfl, e1⟩; subst e1) | fail)
      go_ret
      exact ⟨rfl, rfl⟩
    · have h2' : (a.toList == b.toList) = false := by simpa using h2
      rw [if_neg h2]
      clear h1 h2
      go_enter Try.func65, Try.ntmps65
      go_wp2_with (first | (go_at_call 76; refine (nan_str _ _).mono ?_; rintro e w1 ⟨rfl, e1⟩; subst e1) | fail)
      go_ret
      exact ⟨rfl, rfl⟩

/-- Draws and new blocks alone. -/
def Gr (W w' : World) : Prop := ∃ q os, w' = grow (W.drewN q) os
theorem Gr.refl (W : World) : Gr W W := ⟨0, #[], by simp [grow, World.drewN]⟩
theorem Gr.alloc {W w' : World} (h : Gr W w') (o : Obj) : Gr W (w'.alloc o) := by
  obtain ⟨q, os, rfl⟩ := h
  exact ⟨q, os ++ #[o], by rw [alloc_eq_grow, grow_grow]⟩
theorem Gr.drew {W w' : World} (h : Gr W w') (n : Nat) : Gr W (w'.drewN n) := by
  obtain ⟨q, os, rfl⟩ := h
  exact ⟨q + n, os, by simp [grow, World.drewN, Nat.add_assoc]⟩
theorem Gr.trans {W w' w'' : World} (h : Gr W w') (h' : Gr w' w'') : Gr W w'' := by
  obtain ⟨q, os, rfl⟩ := h
  obtain ⟨q', os', rfl⟩ := h'
  exact ⟨q + q', os ++ os', by rw [← grow_grow]; simp [grow, World.drewN, Nat.add_assoc]⟩
theorem Gr.below {W w' : World} (h : Gr W w') : Below W.heap.size W w' := by
  obtain ⟨q, os, rfl⟩ := h
  exact ⟨rfl, rfl, rfl, by simp [grow, World.drewN], fun k hk => by simp only [grow, World.drewN]; exact Array.getElem?_append_left hk⟩

/-- A world that was gone on from by draws and new blocks; a block that bears these cells. -/
structure Bg (w0 wr : World) (B : Nat) (cs : Array Value) (t : TypeId) : Prop where
  gr : Gr w0 wr
  blk : wr.heap[B]? = some (.cells cs t (0, 0))
theorem Bg.next {w0 wr w1 : World} {B : Nat} {cs : Array Value} {t : TypeId} (h : Bg w0 wr B cs t) (hb : Gr wr w1) : Bg w0 w1 B cs t :=
  ⟨h.gr.trans hb, (hb.below.block _ (Array.getElem?_eq_some_iff.1 h.blk).1).trans h.blk⟩
theorem Bg.cell {w0 wr : World} {B : Nat} {cs : Array Value} {t : TypeId} (h : Bg w0 wr B cs t) (o : Nat) : wr.cell? ⟨B, o, none⟩ = cs[o]? := by
  simp [World.cell?, h.blk]
theorem Bg.start (w : World) (cs cs' : Array Value) (t t' : TypeId) : Bg w ((w.alloc (.cells cs t)).alloc (.cells cs' t')) w.heap.size cs t ∧ Bg w ((w.alloc (.cells cs t)).alloc (.cells cs' t')) (w.heap.size + 1) cs' t' :=
  ⟨⟨((Gr.refl w).alloc _).alloc _, by rw [Below.heap_alloc _ _ _ (by simp)]; show (w.heap.push _)[w.heap.size]? = _; simp⟩,
   ⟨((Gr.refl w).alloc _).alloc _, by have := heap_last (w.alloc (.cells cs t)) (.cells cs' t'); rwa [World.size_alloc] at this⟩⟩


set_option maxHeartbeats 1000000 in
theorem name_met (x : Met) (w : World) : Calls Try.prog 51 #[.agg #[.string x.name, .int .i64 x.kind, .int .i64 x.goal]] w fun e w' => e = .returned (.string x.name) ∧ Gr w w' := by
  have HG : Hid (∀ o, Gr w (w.alloc o)) := fun o => (Gr.refl w).alloc o
  go_enter Try.func51, Try.ntmps51
  go_wp2
  go_ret
  exact ⟨rfl, HG.out _⟩


set_option maxRecDepth 100000 in
set_option maxHeartbeats 2000000 in
theorem clo1_met (x y : Met) (B : Nat) (w : World) (hB : w.cell? ⟨B, 0, none⟩ = some (.func (.func 51) #[] #[])) :
    Calls Try.prog 64 #[.agg #[.string x.name, .int .i64 x.kind, .int .i64 x.goal], .agg #[.string y.name, .int .i64 y.kind, .int .i64 y.goal], .pointer (some ⟨B, 0, none⟩)] w fun e w' => e = .returned (.int .i64 (cmpS x.name y.name)) ∧ Gr w w' := by
  have hlt : B < w.heap.size := World.block_lt_of_cell? _ _ hB
  have HX := Lib.hid (Bg.start w #[.string x.name, .int .i64 x.kind, .int .i64 x.goal] #[.string y.name, .int .i64 y.kind, .int .i64 y.goal] 27 27)
  go_enter Try.func64, Try.ntmps64
  go_wp2
  have x0 := HX.out.1.cell 0; have x1 := HX.out.1.cell 1; have x2 := HX.out.1.cell 2; have y0 := HX.out.2.cell 0; have y1 := HX.out.2.cell 1; have y2 := HX.out.2.cell 2; have z0 := (HX.out.1.gr.below.cell (p := ⟨B, 0, none⟩) (by exact hlt)).trans hB
  replace HX := Lib.hid (And.intro (HX.out.1.next ((Gr.refl _).drew 1)) (HX.out.2.next ((Gr.refl _).drew 1)))
  go_region_held3 (fun w' => w'.cell? ⟨B, 0, none⟩ = some (.func (.func 51) #[] #[]) ∧ w'.cell? ⟨w.heap.size, 0, none⟩ = some (.string x.name) ∧ w'.cell? ⟨w.heap.size, 1, none⟩ = some (.int .i64 x.kind) ∧ w'.cell? ⟨w.heap.size, 2, none⟩ = some (.int .i64 x.goal) ∧ w'.cell? ⟨w.heap.size + 1, 0, none⟩ = some (.string y.name) ∧ w'.cell? ⟨w.heap.size + 1, 1, none⟩ = some (.int .i64 y.kind) ∧ w'.cell? ⟨w.heap.size + 1, 2, none⟩ = some (.int .i64 y.goal)) (go_keep)
    (first
      | (go_at_call 51; refine (name_met _ _).mono ?_; rintro e w1 ⟨rfl, hg⟩; replace HX := Lib.hid (And.intro (HX.out.1.next hg) (HX.out.2.next hg)); clear hg; clear x0 x1 x2 y0 y1 y2 z0; have x0 := HX.out.1.cell 0; have x1 := HX.out.1.cell 1; have x2 := HX.out.1.cell 2; have y0 := HX.out.2.cell 0; have y1 := HX.out.2.cell 1; have y2 := HX.out.2.cell 2; have z0 := (HX.out.1.gr.below.cell (p := ⟨B, 0, none⟩) (by exact hlt)).trans hB)
      | (go_at_call 65; refine (cmp_str _ _ _).mono ?_; rintro e w1 ⟨rfl, e1⟩; subst e1))
  go_wp2
  go_ret
  exact ⟨rfl, HX.out.1.gr⟩


set_option maxRecDepth 100000 in
set_option maxHeartbeats 2000000 in
theorem clo2_met (x y : Met) (B : Nat) (w : World) (hB : w.cell? ⟨B, 0, none⟩ = some (.func (.func 51) #[] #[])) :
    Calls Try.prog 67 #[.agg #[.string x.name, .int .i64 x.kind, .int .i64 x.goal], .agg #[.string y.name, .int .i64 y.kind, .int .i64 y.goal], .pointer (some ⟨B, 0, none⟩)] w fun e w' => e = .returned (.bool (x.name.toList == y.name.toList)) ∧ Gr w w' := by
  have hlt : B < w.heap.size := World.block_lt_of_cell? _ _ hB
  have HX := Lib.hid (Bg.start w #[.string x.name, .int .i64 x.kind, .int .i64 x.goal] #[.string y.name, .int .i64 y.kind, .int .i64 y.goal] 27 27)
  go_enter Try.func67, Try.ntmps67
  go_wp2
  have x0 := HX.out.1.cell 0; have x1 := HX.out.1.cell 1; have x2 := HX.out.1.cell 2; have y0 := HX.out.2.cell 0; have y1 := HX.out.2.cell 1; have y2 := HX.out.2.cell 2; have z0 := (HX.out.1.gr.below.cell (p := ⟨B, 0, none⟩) (by exact hlt)).trans hB
  replace HX := Lib.hid (And.intro (HX.out.1.next ((Gr.refl _).drew 1)) (HX.out.2.next ((Gr.refl _).drew 1)))
  go_region_held3 (fun w' => w'.cell? ⟨B, 0, none⟩ = some (.func (.func 51) #[] #[]) ∧ w'.cell? ⟨w.heap.size, 0, none⟩ = some (.string x.name) ∧ w'.cell? ⟨w.heap.size, 1, none⟩ = some (.int .i64 x.kind) ∧ w'.cell? ⟨w.heap.size, 2, none⟩ = some (.int .i64 x.goal) ∧ w'.cell? ⟨w.heap.size + 1, 0, none⟩ = some (.string y.name) ∧ w'.cell? ⟨w.heap.size + 1, 1, none⟩ = some (.int .i64 y.kind) ∧ w'.cell? ⟨w.heap.size + 1, 2, none⟩ = some (.int .i64 y.goal)) (go_keep)
    (first
      | (go_at_call 51; refine (name_met _ _).mono ?_; rintro e w1 ⟨rfl, hg⟩; replace HX := Lib.hid (And.intro (HX.out.1.next hg) (HX.out.2.next hg)); clear hg; clear x0 x1 x2 y0 y1 y2 z0; have x0 := HX.out.1.cell 0; have x1 := HX.out.1.cell 1; have x2 := HX.out.1.cell 2; have y0 := HX.out.2.cell 0; have y1 := HX.out.2.cell 1; have y2 := HX.out.2.cell 2; have z0 := (HX.out.1.gr.below.cell (p := ⟨B, 0, none⟩) (by exact hlt)).trans hB))
  go_wp2
  go_ret
  exact ⟨rfl, HX.out.1.gr⟩


set_option maxHeartbeats 1000000 in
theorem name_not (x : Not) (w : World) : Calls Try.prog 54 #[.agg #[.string x.key, .string x.text]] w fun e w' => e = .returned (.string x.key) ∧ Gr w w' := by
  have HG : Hid (∀ o, Gr w (w.alloc o)) := fun o => (Gr.refl w).alloc o
  go_enter Try.func54, Try.ntmps54
  go_wp2
  go_ret
  exact ⟨rfl, HG.out _⟩


set_option maxRecDepth 100000 in
set_option maxHeartbeats 2000000 in
theorem clo1_not (x y : Not) (B : Nat) (w : World) (hB : w.cell? ⟨B, 0, none⟩ = some (.func (.func 54) #[] #[])) :
    Calls Try.prog 72 #[.agg #[.string x.key, .string x.text], .agg #[.string y.key, .string y.text], .pointer (some ⟨B, 0, none⟩)] w fun e w' => e = .returned (.int .i64 (cmpS x.key y.key)) ∧ Gr w w' := by
  have hlt : B < w.heap.size := World.block_lt_of_cell? _ _ hB
  have HX := Lib.hid (Bg.start w #[.string x.key, .string x.text] #[.string y.key, .string y.text] 64 64)
  go_enter Try.func72, Try.ntmps72
  go_wp2
  have x0 := HX.out.1.cell 0; have x1 := HX.out.1.cell 1; have y0 := HX.out.2.cell 0; have y1 := HX.out.2.cell 1; have z0 := (HX.out.1.gr.below.cell (p := ⟨B, 0, none⟩) (by exact hlt)).trans hB
  replace HX := Lib.hid (And.intro (HX.out.1.next ((Gr.refl _).drew 1)) (HX.out.2.next ((Gr.refl _).drew 1)))
  go_region_held3 (fun w' => w'.cell? ⟨B, 0, none⟩ = some (.func (.func 54) #[] #[]) ∧ w'.cell? ⟨w.heap.size, 0, none⟩ = some (.string x.key) ∧ w'.cell? ⟨w.heap.size, 1, none⟩ = some (.string x.text) ∧ w'.cell? ⟨w.heap.size + 1, 0, none⟩ = some (.string y.key) ∧ w'.cell? ⟨w.heap.size + 1, 1, none⟩ = some (.string y.text)) (go_keep)
    (first
      | (go_at_call 54; refine (name_not _ _).mono ?_; rintro e w1 ⟨rfl, hg⟩; replace HX := Lib.hid (And.intro (HX.out.1.next hg) (HX.out.2.next hg)); clear hg; clear x0 x1 y0 y1 z0; have x0 := HX.out.1.cell 0; have x1 := HX.out.1.cell 1; have y0 := HX.out.2.cell 0; have y1 := HX.out.2.cell 1; have z0 := (HX.out.1.gr.below.cell (p := ⟨B, 0, none⟩) (by exact hlt)).trans hB)
      | (go_at_call 65; refine (cmp_str _ _ _).mono ?_; rintro e w1 ⟨rfl, e1⟩; subst e1))
  go_wp2
  go_ret
  exact ⟨rfl, HX.out.1.gr⟩


set_option maxRecDepth 100000 in
set_option maxHeartbeats 2000000 in
theorem clo2_not (x y : Not) (B : Nat) (w : World) (hB : w.cell? ⟨B, 0, none⟩ = some (.func (.func 54) #[] #[])) :
    Calls Try.prog 74 #[.agg #[.string x.key, .string x.text], .agg #[.string y.key, .string y.text], .pointer (some ⟨B, 0, none⟩)] w fun e w' => e = .returned (.bool (x.key.toList == y.key.toList)) ∧ Gr w w' := by
  have hlt : B < w.heap.size := World.block_lt_of_cell? _ _ hB
  have HX := Lib.hid (Bg.start w #[.string x.key, .string x.text] #[.string y.key, .string y.text] 64 64)
  go_enter Try.func74, Try.ntmps74
  go_wp2
  have x0 := HX.out.1.cell 0; have x1 := HX.out.1.cell 1; have y0 := HX.out.2.cell 0; have y1 := HX.out.2.cell 1; have z0 := (HX.out.1.gr.below.cell (p := ⟨B, 0, none⟩) (by exact hlt)).trans hB
  replace HX := Lib.hid (And.intro (HX.out.1.next ((Gr.refl _).drew 1)) (HX.out.2.next ((Gr.refl _).drew 1)))
  go_region_held3 (fun w' => w'.cell? ⟨B, 0, none⟩ = some (.func (.func 54) #[] #[]) ∧ w'.cell? ⟨w.heap.size, 0, none⟩ = some (.string x.key) ∧ w'.cell? ⟨w.heap.size, 1, none⟩ = some (.string x.text) ∧ w'.cell? ⟨w.heap.size + 1, 0, none⟩ = some (.string y.key) ∧ w'.cell? ⟨w.heap.size + 1, 1, none⟩ = some (.string y.text)) (go_keep)
    (first
      | (go_at_call 54; refine (name_not _ _).mono ?_; rintro e w1 ⟨rfl, hg⟩; replace HX := Lib.hid (And.intro (HX.out.1.next hg) (HX.out.2.next hg)); clear hg; clear x0 x1 y0 y1 z0; have x0 := HX.out.1.cell 0; have x1 := HX.out.1.cell 1; have y0 := HX.out.2.cell 0; have y1 := HX.out.2.cell 1; have z0 := (HX.out.1.gr.below.cell (p := ⟨B, 0, none⟩) (by exact hlt)).trans hB))
  go_wp2
  go_ret
  exact ⟨rfl, HX.out.1.gr⟩

end Go.Proofs.Ytjopjdidbkhmnaa
