/-
  What is proved: Go's slices.Insert of one element into a list of trees that a call owns: in its place where there is room, else in a new row.
-/
import Derived.Test.YtfmkhogpnnobeaaGreatDoorPartAG
namespace Go.Proofs.YtfmkhogpnnobeaaGreatDoor
open Go Go.RowKit

set_option maxRecDepth 100000 in
set_option maxHeartbeats 4000000 in
theorem insert_node_end (w : World) (base : Nat) (v : Value) (n : Nat) (xs ys : List Value) (hown : w.ownsRow base 32 5 v n xs) (hn : n ≤ 1048576) (vb : Nat) (tv : TypeId) (hvb : w.heap[vb]? = some (.cells ys.toArray tv (0, 0))) (hy : ys.length = 5) (h1y : ∀ u ∈ ys, u.oneCell' = true) (hbase : base ≤ w.heap.size) :
    Calls Tryz.prog 139 #[v, .int .i64 n, .slice (some ⟨vb, 0, none⟩) 1 1] w fun e w' => ∃ g cap, e = .returned (.slice (some ⟨g, 0, none⟩) (n + 1) cap) ∧ w'.ownsRow base 32 5 (.slice (some ⟨g, 0, none⟩) (n + 1) cap) (n + 1) (xs ++ ys) ∧ w.grownBy w' v.ownBlock ∧ (v.ownBlock = some g ∨ g = w.heap.size) := by
  obtain ⟨i0, hi0, hz0, hz1, hz2⟩ := info_parts info_node
  have HOwn := Lib.hid hown
  obtain ⟨o, c, rfl, hc⟩ : ∃ o c, v = .slice o n c ∧ n ≤ c := by
    rcases hown.2 with ⟨rfl, rfl⟩ | ⟨g, cap, cur, rfl, -, -, h, -⟩
    · exact ⟨none, 0, rfl, Nat.le_refl _⟩
    · exact ⟨_, _, rfl, h⟩
  clear hown
  generalize hOB : (Value.slice o n c).ownBlock = OB
  have HB := Lib.hid hOB
  clear hOB
  go_enter Tryz.func139, Tryz.ntmps139
  go_wp2_with (first
    | (at_builtin; refine wpList_append_lies _ rfl _ _ 30 rfl base 32 i0 _ 5 80 Tryz.underlying30 hi0 hz0 hz1 hz2 rfl (by decide) (.slice o n c) n xs rfl HOwn.out ⟨vb, 0, none⟩ 1 1 ys rfl (by rw [hy]) (World.news_of_block hvb) h1y (by omega) (by unfold maxLen; omega) (by omega) hbase w.heap.size rfl ?_; intro g cap' w3 hown3 hgrow hat hltg; rw [HB.out] at hgrow hat; have H3 := Lib.hid (And.intro hown3 (And.intro hgrow hat)); clear hown3 hgrow hat hltg)
    | fail)
  all_goals go_ret
  all_goals exact ⟨_, _, rfl, H3.out⟩

set_option maxRecDepth 100000 in
set_option maxHeartbeats 4000000 in
theorem insert_node_shift (w : World) (g cap n i : Nat) (cur : Array Value) (xs ys : List Value) (hg : w.heap[g]? = some (.cells cur 32 (0, 0))) (hsz : cur.size = cap * 5) (hx : cur.toList.take (n * 5) = xs) (h1x : ∀ u ∈ xs, u.oneCell' = true)
    (hi : i < n) (hroom : n + 1 ≤ cap) (hcap : cap ≤ maxLen) (vb : Nat) (tv : TypeId) (hvb : w.heap[vb]? = some (.cells ys.toArray tv (0, 0))) (hy : ys.length = 5) (h1y : ∀ u ∈ ys, u.oneCell' = true) (hne : vb ≠ g) :
    Calls Tryz.prog 139 #[.slice (some ⟨g, 0, none⟩) n cap, .int .i64 i, .slice (some ⟨vb, 0, none⟩) 1 1] w fun e w' => e = .returned (.slice (some ⟨g, 0, none⟩) (n + 1) cap) ∧ w.grownBy w' (some g) ∧ w'.heap[g]? = some (.cells (over (over cur ((i + 1) * 5) (xs.drop (i * 5))) (i * 5) ys) 32 (0, 0)) := by
  have e4 : i * 5 ≤ n * 5 := Nat.mul_le_mul_right _ (by omega)
  have e3 : (n + 1) * 5 ≤ cap * 5 := Nat.mul_le_mul_right _ hroom
  have hxl : xs.length = n * 5 := by rw [← hx, List.length_take]; simp; omega
  have hd : (xs.drop (i * 5)).length = n * 5 - i * 5 := by rw [List.length_drop, hxl]
  have hsize : (Tryz.prog.info? 32).map (·.size) = some 5 := by
    obtain ⟨i0, hi0, hz0, hz1, hz2⟩ := info_parts info_node
    rw [hi0]; simp [hz1]
  have hzz : ∀ w, (Go.sizeOf 32).run Tryz.prog w = .ok 5 w := fun w => by
    obtain ⟨i0, hi0, hz0, hz1, hz2⟩ := info_parts info_node
    simp [Go.sizeOf, typeInfo, hi0, hz1]
  have hov : ∀ o lb cb, (callFunc 166 #[.slice (some ⟨vb, 0, none⟩) 1 1, .slice (some ⟨g, o, none⟩) lb cb]).run Tryz.prog w = .ok (.value (.bool false)) w := fun o lb cb => by
    rw [run_callFunc_extern Tryz.func166 (by kernel_rfl) (by kernel_rfl) (by kernel_rfl) (e := Extern.SlicesOverlaps.overlaps #[30, 30] #[4]) (by kernel_rfl),
      Lib.run_overlaps_apart w 30 4 32 Tryz.underlying30 5 hzz ⟨vb, 0, none⟩ ⟨g, o, none⟩ 1 1 lb cb hne tv 32 ys.toArray.size cur.size (by simp [World.shape?, hvb]) (by simp [World.shape?, hg]) (by omega) (by simp [World.frozen?, hvb]) (by simp [World.frozen?, hvb])]
    rfl
  have HOv := Lib.hid hov
  have hcp1 : ∀ ty o1 dl dc o0 sl sc, o1 = (i + 1) * 5 → o0 = i * 5 → dl = n - i → sl = n + 1 - i → (Builtin.copy_ #[30, 30] ty #[.slice (some ⟨g, o1, none⟩) dl dc, .slice (some ⟨g, o0, none⟩) sl sc]).run Tryz.prog w.drew = .ok (goInt (Nat.min (n + 1 - i) (n - i))) (w.drew.setRow g (over cur ((i + 1) * 5) (xs.drop (i * 5)))) := fun ty o1 dl dc o0 sl sc g1 g0 e1 e2 => by
    subst e1 e2 g1 g0
    have h := run_copy_rowq Tryz.prog w.drew 30 30 ty 32 g ((i + 1) * 5) (n - i) dc ⟨g, i * 5, none⟩ (n + 1 - i) sc 5 cur 32 (xs.drop (i * 5)) Tryz.underlying30 hsize hg (by rw [hd]; have : Nat.min (n + 1 - i) (n - i) = n - i := Nat.min_eq_right (by omega); rw [this]; omega)
      (cell_row hg fun j v hj => by rw [List.getElem?_drop] at hj; rw [← hx, List.getElem?_take] at hj; split at hj; exact hj; cases hj) (by rw [hd, hsz]; omega) (fun v hv => h1x v (List.mem_of_mem_drop hv))
    exact h
  have HC1 := Lib.hid hcp1
  have hr1 := grown_of_row (cur' := over cur ((i + 1) * 5) (xs.drop (i * 5))) hg (.inr (.inl rfl))
  have hs1 : (over cur ((i + 1) * 5) (xs.drop (i * 5))).size = cap * 5 := by rw [over_size (by rw [hd, hsz]; omega), hsz]
  have hv1 : (w.drew.setRow g (over cur ((i + 1) * 5) (xs.drop (i * 5)))).heap[vb]? = some (.cells ys.toArray tv (0, 0)) := (setRow_other _ _ _ _ hne).trans hvb
  have hcp2 : ∀ ty o0 dl dc, o0 = i * 5 → dl = n + 1 - i → (Builtin.copy_ #[30, 30] ty #[.slice (some ⟨g, o0, none⟩) dl dc, .slice (some ⟨vb, 0, none⟩) 1 1]).run Tryz.prog (w.drew.setRow g (over cur ((i + 1) * 5) (xs.drop (i * 5)))) = .ok (goInt (Nat.min 1 (n + 1 - i))) ((w.drew.setRow g (over cur ((i + 1) * 5) (xs.drop (i * 5)))).setRow g (over (over cur ((i + 1) * 5) (xs.drop (i * 5))) (i * 5) ys)) := fun ty o0 dl dc g0 e1 => by
    subst e1 g0
    have h := run_copy_rowq Tryz.prog (w.drew.setRow g (over cur ((i + 1) * 5) (xs.drop (i * 5)))) 30 30 ty 32 g (i * 5) (n + 1 - i) dc ⟨vb, 0, none⟩ 1 1 5 _ 32 ys Tryz.underlying30 hsize hr1.2 (by rw [hy]; have : Nat.min 1 (n + 1 - i) = 1 := Nat.min_eq_left (by omega); rw [this])
      (World.news_of_block hv1) (by rw [hs1, hy]; omega) h1y
    exact h
  have HC2 := Lib.hid hcp2
  have HE := Lib.hid (show w.grownBy ((w.drew.setRow g (over cur ((i + 1) * 5) (xs.drop (i * 5)))).setRow g (over (over cur ((i + 1) * 5) (xs.drop (i * 5))) (i * 5) ys)) (some g) ∧ ((w.drew.setRow g (over cur ((i + 1) * 5) (xs.drop (i * 5)))).setRow g (over (over cur ((i + 1) * 5) (xs.drop (i * 5))) (i * 5) ys)).heap[g]? = some (.cells (over (over cur ((i + 1) * 5) (xs.drop (i * 5))) (i * 5) ys) 32 (0, 0)) by
    rw [setRow_setRow]; exact grown_of_row hg (.inr (.inl rfl)))
  generalize over (over cur ((i + 1) * 5) (xs.drop (i * 5))) (i * 5) ys = R2 at *
  generalize over cur ((i + 1) * 5) (xs.drop (i * 5)) = R1 at *
  unfold maxLen at hcap
  have hb2 : ¬ (cap = i + 1) := by omega
  have hb4 : ¬ (cap = i) := by omega
  clear e4 e3 hd hsize hzz hov hx hxl h1x h1y hy hvb hsz hg hcp1 hcp2 hr1 hs1 hv1
  go_enter Tryz.func139, Tryz.ntmps139
  go_wp2_with fail
  rw [HOv.out]
  go_wp2_with fail
  have hw1 : IntKind.i64.wrap ((i : Int) + 1) = (i : Int) + 1 := by rw [IntKind.wrap_i64]; omega
  have hb1 : (0 : Int) ≤ (i : Int) + 1 := by omega
  have hin : i ≤ n := by omega
  have htn : ((i : Int) + 1).toNat = i + 1 := by omega
  have hb3 : (i : Int) ≤ (n : Int) + 1 := by omega
  have hb5 : (i : Int) + 1 ≤ (n : Int) + 1 := by omega
  go_region_law (refine Go.Proofs.step_copy_runI (by rfl) _ _ 30 30 (by rfl) (.slice (some ⟨g, (i + 1) * 5, none⟩) (n - i) (cap - (i + 1))) (.slice (some ⟨g, i * 5, none⟩) (n + 1 - i) (cap - i)) (by simp [Act.eval, Act.put]) (by simp [Act.eval, Act.put]) (HC1.out _ _ _ _ _ _ _ (by omega) (by omega) rfl rfl) ?_)
  all_goals clear hw1 htn
  all_goals go_wp2_with fail
  all_goals rw [HC2.out _ _ _ _ (by omega) rfl]
  all_goals go_wp2
  all_goals go_ret
  all_goals exact ⟨rfl, HE.out⟩

set_option maxRecDepth 100000 in
set_option maxHeartbeats 4000000 in
theorem insert_node_grow (w : World) (g cap n i : Nat) (cur : Array Value) (xs ys : List Value) (hg : w.heap[g]? = some (.cells cur 32 (0, 0))) (hsz : cur.size = cap * 5) (hx : cur.toList.take (n * 5) = xs) (h1x : ∀ u ∈ xs, u.oneCell' = true)
    (hi : i < n) (hnc : n ≤ cap) (hroom : cap < n + 1) (hn : n ≤ 1048576) (vb : Nat) (tv : TypeId) (hvb : w.heap[vb]? = some (.cells ys.toArray tv (0, 0))) (hy : ys.length = 5) (h1y : ∀ u ∈ ys, u.oneCell' = true) :
    Calls Tryz.prog 139 #[.slice (some ⟨g, 0, none⟩) n cap, .int .i64 i, .slice (some ⟨vb, 0, none⟩) 1 1] w fun e w' => ∃ cap', e = .returned (.slice (some ⟨w.heap.size, 0, none⟩) (n + 1) cap') ∧ w.grownBy w' none ∧ n + 1 ≤ cap' ∧ cap' ≤ maxLen ∧ ∃ row, row.size = cap' * 5 ∧ row.toList.take ((n + 1) * 5) = xs.take (i * 5) ++ ys ++ xs.drop (i * 5) ∧ w'.heap[w.heap.size]? = some (.cells row 32 (0, 0)) := by
  have e4 : i * 5 ≤ n * 5 := Nat.mul_le_mul_right _ (by omega)
  have e3 : n * 5 ≤ cap * 5 := Nat.mul_le_mul_right _ hnc
  have hxl : xs.length = n * 5 := by rw [← hx, List.length_take]; simp; omega
  have hd : (xs.drop (i * 5)).length = n * 5 - i * 5 := by rw [List.length_drop, hxl]
  have htl : (xs.take (i * 5)).length = i * 5 := by rw [List.length_take, hxl]; omega
  obtain ⟨i0, hi0, hz0, hz1, hz2⟩ := info_parts info_node
  have hsize : (Tryz.prog.info? 32).map (·.size) = some 5 := by rw [hi0]; simp [hz1]
  have hgl : g < w.heap.size := (Array.getElem?_eq_some_iff.1 hg).1
  have hvl : vb < w.heap.size := (Array.getElem?_eq_some_iff.1 hvb).1
  have hold : (Builtin.firstCells i0.size i (.slice (some ⟨g, 0, none⟩) i cap)).run Tryz.prog w.drew = .ok (xs.take (i * 5)).toArray w.drew := by
    rw [hz1]
    exact run_firstCells_some w.drew 5 i ⟨g, 0, none⟩ i cap (xs.take (i * 5)) htl (fun j v hj => by
      refine cell_row (w := w.drew) hg (o := 0) (cs := xs) (fun j v hj => ?_) j v ?_
      · rw [← hx, List.getElem?_take] at hj
        split at hj
        · rw [Nat.zero_add]; exact hj
        · cases hj
      · rw [List.getElem?_take] at hj
        split at hj
        · exact hj
        · cases hj)
  have hik : i + (n + 1 - i) = n + 1 := by omega
  have hkk : (n : Int) + 1 - (i : Int) = ((n + 1 - i : Nat) : Int) := by omega
  have hG1 := grownCap_ge w (n + 1) cap 32
  have hG2 := grownCap_le_maxLen w (n + 1) cap 32 (by unfold maxLen; omega)
  have hrz : ∀ ty, ∃ row0 : Array Value, row0.size = grownCap w (n + 1) cap 32 * 5 ∧ row0.toList.take (i * 5) = xs.take (i * 5) ∧ (Builtin.append_ #[30, 3] ty #[.slice (some ⟨g, 0, none⟩) i cap, .int .i64 ((n : Int) + 1 - (i : Int))]).run Tryz.prog w =
      .ok (.slice (some ⟨w.heap.size, 0, none⟩) (n + 1) (grownCap w (n + 1) cap 32)) (w.drew.alloc (.cells row0 32)) := fun ty => by
    have h := Lib.run_append_grow_zeros w 30 3 ty 32 i0 _ .i64 .i64 Tryz.underlying30 Tryz.underlying3 hi0 hz0 (some ⟨g, 0, none⟩) i cap (xs.take (i * 5)) hold (n + 1 - i) (by omega) (by omega) (by omega) (by omega) (by rw [hz2]; omega) (by rw [hz2, hik]; exact growslice_fits hroom (by omega))
    rw [hik] at h
    rw [hkk]
    refine ⟨_, ?_, ?_, h⟩
    · have h1 : (xs.take (i * 5)).toArray.size = i * 5 := by rw [List.size_toArray, htl]
      simp only [Array.size_append, h1]
      simp [Builtin.zeroCells, Value.cells]
      omega
    · rw [Array.toList_append, Array.toList_append, List.append_assoc, List.take_append_of_le_length (by show _ ≤ (xs.take (i * 5)).length; rw [htl]; exact Nat.le_refl _)]
      simp only [List.take_take, Nat.min_self]
  obtain ⟨row0, hr0, hr1, hrun⟩ := hrz 30
  have HRun := Lib.hid hrun
  generalize grownCap w (n + 1) cap 32 = G at *
  have e5 : (n + 1) * 5 ≤ G * 5 := Nat.mul_le_mul_right _ hG1
  have hb2 : ¬ (G = i + 1) := by omega
  have hb4 : ¬ (G = i) := by omega
  have hb6 : ¬ (cap = i) := by omega
  have hs1 : (over row0 (i * 5) ys).size = G * 5 := by rw [over_size (by rw [hr0, hy]; omega), hr0]
  have HA : Hid (∀ (W : World), W.heap[w.heap.size]? = some (.cells row0 32 (0, 0)) → W.heap[vb]? = some (.cells ys.toArray tv (0, 0)) → ∀ ty o0 dl dc, o0 = i * 5 → dl = n + 1 - i → (Builtin.copy_ #[30, 30] ty #[.slice (some ⟨w.heap.size, o0, none⟩) dl dc, .slice (some ⟨vb, 0, none⟩) 1 1]).run Tryz.prog W = .ok (goInt (Nat.min 1 (n + 1 - i))) (W.setRow w.heap.size (over row0 (i * 5) ys))) := fun W hW hWv ty o0 dl dc g0 e1 => by
    subst g0 e1
    exact run_copy_rowq Tryz.prog W 30 30 ty 32 w.heap.size (i * 5) (n + 1 - i) dc ⟨vb, 0, none⟩ 1 1 5 row0 32 ys Tryz.underlying30 hsize hW (by rw [hy]; have : Nat.min 1 (n + 1 - i) = 1 := Nat.min_eq_left (by omega); rw [this]) (World.news_of_block hWv) (by rw [hr0, hy]; omega) h1y
  have HB : Hid (∀ (W : World), W.heap[w.heap.size]? = some (.cells (over row0 (i * 5) ys) 32 (0, 0)) → W.heap[g]? = some (.cells cur 32 (0, 0)) → ∀ ty o1 dl dc o0 sl sc, o1 = (i + 1) * 5 → o0 = i * 5 → dl = n - i → sl = n - i → (Builtin.copy_ #[30, 30] ty #[.slice (some ⟨w.heap.size, o1, none⟩) dl dc, .slice (some ⟨g, o0, none⟩) sl sc]).run Tryz.prog W = .ok (goInt (Nat.min (n - i) (n - i))) (W.setRow w.heap.size (over (over row0 (i * 5) ys) ((i + 1) * 5) (xs.drop (i * 5))))) := fun W hW hWg ty o1 dl dc o0 sl sc g1 g0 e1 e2 => by
    subst g1 g0 e1 e2
    exact run_copy_rowq Tryz.prog W 30 30 ty 32 w.heap.size ((i + 1) * 5) (n - i) dc ⟨g, i * 5, none⟩ (n - i) sc 5 _ 32 (xs.drop (i * 5)) Tryz.underlying30 hsize hW (by rw [hd]; have : Nat.min (n - i) (n - i) = n - i := Nat.min_self _; rw [this]; omega)
      (cell_row hWg fun j v hj => by rw [List.getElem?_drop] at hj; rw [← hx, List.getElem?_take] at hj; split at hj; exact hj; cases hj) (by rw [hd, hs1]; omega) (fun v hv => h1x v (List.mem_of_mem_drop hv))
  have HF := Lib.hid (fresh_row hr1 hxl hr0 hi hG1 hy)
  have HW : Hid (w.drew.heap[g]? = some (.cells cur 32 (0, 0)) ∧ w.drew.heap[vb]? = some (.cells ys.toArray tv (0, 0)) ∧ g < w.drew.heap.size ∧ vb < w.drew.heap.size) := ⟨hg, hvb, hgl, hvl⟩
  have HG2 := Lib.hid hG2
  generalize over (over row0 (i * 5) ys) ((i + 1) * 5) (xs.drop (i * 5)) = R2 at *
  generalize over row0 (i * 5) ys = R1 at *
  unfold maxLen at hG2
  clear e4 e3 e5 hd hx hxl htl hvb hsz hg hold hik hkk hz0 hz1 hz2 hi0 hrz hsize hgl hvl hrun hs1 hr0 hr1 h1x h1y hy
  go_enter Tryz.func139, Tryz.ntmps139
  go_wp2_with (at_builtin; refine Lib.wpList_append_run _ rfl _ _ 30 3 rfl (.slice (some ⟨g, 0, none⟩) i cap) (.int .i64 ((n : Int) + 1 - (i : Int))) rfl rfl _ _ HRun.out ?_)
  have a1 : (w.alloc (.cells row0 32)).drew.heap[w.heap.size]? = some (.cells row0 32 (0, 0)) := heap_last w _
  have a2 : (w.alloc (.cells row0 32)).drew.heap[vb]? = some (.cells ys.toArray tv (0, 0)) := (Below.heap_alloc w _ _ HW.out.2.2.2).trans HW.out.2.1
  have a3 : (w.alloc (.cells row0 32)).drew.heap[g]? = some (.cells cur 32 (0, 0)) := (Below.heap_alloc w _ _ HW.out.2.2.1).trans HW.out.1
  rw [HA.out _ a1 a2 _ _ _ _ (by omega) rfl]
  have b1 := setRow_heap _ _ _ R1 _ _ a1
  have b3 := (setRow_other (w.alloc (.cells row0 32)).drew w.heap.size g R1 (by have := HW.out.2.2.1; exact Nat.ne_of_lt this)).trans a3
  have b4 : w.grownBy ((w.alloc (.cells row0 32)).drew.setRow w.heap.size R1) none := ⟨rfl, rfl, rfl, by simp [World.setRow], fun k hk _ => (setRow_other _ _ _ _ (Nat.ne_of_lt hk)).trans (Below.heap_alloc w _ _ hk)⟩
  have b5 : w.heap.size < ((w.alloc (.cells row0 32)).drew.setRow w.heap.size R1).heap.size := by simp [World.setRow]
  have HB1 := Lib.hid (And.intro b1 (And.intro b3 (And.intro b4 b5)))
  clear a1 a2 a3 b1 b3 b4 b5 HA HW HRun
  generalize (w.alloc (.cells row0 32)).drew.setRow w.heap.size R1 = W2 at *
  go_wp2_with fail
  have hw1 : IntKind.i64.wrap ((i : Int) + 1) = (i : Int) + 1 := by rw [IntKind.wrap_i64]; omega
  have hb1 : (0 : Int) ≤ (i : Int) + 1 := by omega
  have hin : i ≤ n := by omega
  have htn : ((i : Int) + 1).toNat = i + 1 := by omega
  have hb3 : (i : Int) ≤ (n : Int) + 1 := by omega
  have hb5 : (i : Int) + 1 ≤ (n : Int) + 1 := by omega
  go_region_law (refine Go.Proofs.step_copy_runI (by rfl) _ _ 30 30 (by rfl) (.slice (some ⟨w.heap.size, (i + 1) * 5, none⟩) (n - i) (G - (i + 1))) (.slice (some ⟨g, i * 5, none⟩) (n - i) (cap - i)) (by simp [Act.eval, Act.put]) (by simp [Act.eval, Act.put]) (HB.out W2.drew HB1.out.1 HB1.out.2.1 _ _ _ _ _ _ _ (by omega) (by omega) rfl rfl) ?_)
  all_goals clear hw1 htn
  all_goals go_wp2
  all_goals go_ret
  all_goals
    obtain ⟨b1, b3, b4, b5⟩ := HB1.out
    have h2 := setRow_heap W2.drew _ _ R2 _ _ b1
    refine ⟨G, rfl, ⟨b4.os, b4.tape, b4.output, Nat.le_trans b4.size (by simp [World.setRow]), fun k hk hn => (setRow_other W2.drew _ _ _ (Nat.ne_of_lt hk)).trans (b4.block k hk hn)⟩, hG1, HG2.out, R2, HF.out.1, HF.out.2, h2⟩

/-- One element is put into a list that a call owns. -/
theorem insert_node (w : World) (base : Nat) (v : Value) (n i : Nat) (xs ys : List Value) (hown : w.ownsRow base 32 5 v n xs) (h1x : ∀ u ∈ xs, u.oneCell' = true) (hi : i ≤ n) (hn : n ≤ 1048576) (vb : Nat) (tv : TypeId) (hvb : w.heap[vb]? = some (.cells ys.toArray tv (0, 0))) (hne : v.ownBlock ≠ some vb) (hy : ys.length = 5) (h1y : ∀ u ∈ ys, u.oneCell' = true) (hbase : base ≤ w.heap.size) :
    Calls Tryz.prog 139 #[v, .int .i64 i, .slice (some ⟨vb, 0, none⟩) 1 1] w fun e w' => ∃ g cap, e = .returned (.slice (some ⟨g, 0, none⟩) (n + 1) cap) ∧ w'.ownsRow base 32 5 (.slice (some ⟨g, 0, none⟩) (n + 1) cap) (n + 1) (xs.take (i * 5) ++ ys ++ xs.drop (i * 5)) ∧ w.grownBy w' v.ownBlock ∧ (v.ownBlock = some g ∨ g = w.heap.size) := by
  have hxl := hown.1
  by_cases hin : i = n
  · subst hin
    refine (insert_node_end w base v i xs ys hown hn vb tv hvb hy h1y hbase).mono ?_
    rintro e w' ⟨g, cap, rfl, h1, h2, h3⟩
    refine ⟨g, cap, rfl, ?_, h2, h3⟩
    rw [List.take_of_length_le (by omega), List.drop_eq_nil_of_le (by omega), List.append_nil]
    exact h1
  · rcases hown.2 with ⟨rfl, rfl⟩ | ⟨g, cap, cur, rfl, hb, hg, hnc, hcm, hsz, hx⟩
    · omega
    · have hil : i < n := by omega
      have hfin : (xs.take (i * 5) ++ ys ++ xs.drop (i * 5)).length = (n + 1) * 5 := by
        simp only [List.length_append, List.length_take, List.length_drop]
        omega
      by_cases hroom : n + 1 ≤ cap
      · refine (insert_node_shift w g cap n i cur xs ys hg hsz hx h1x hil hroom hcm vb tv hvb hy h1y (fun e => hne (by rw [e]; rfl))).mono ?_
        rintro e w' ⟨rfl, h1, h2⟩
        have hr := shift_row hx hxl hsz hil hroom hy
        exact ⟨g, cap, rfl, ⟨hfin, .inr ⟨g, cap, _, rfl, hb, h2, hroom, hcm, hr.1, hr.2⟩⟩, h1, .inl rfl⟩
      · refine (insert_node_grow w g cap n i cur xs ys hg hsz hx h1x hil hnc (by omega) hn vb tv hvb hy h1y).mono ?_
        rintro e w' ⟨cap', rfl, h1, h2, h3, row, h4, h5, h6⟩
        exact ⟨_, cap', rfl, ⟨hfin, .inr ⟨_, cap', row, rfl, hbase, h6, h2, h3, h4, h5⟩⟩, ⟨h1.os, h1.tape, h1.output, h1.size, fun k hk _ => h1.block k hk (by simp)⟩, .inr rfl⟩
end Go.Proofs.YtfmkhogpnnobeaaGreatDoor
