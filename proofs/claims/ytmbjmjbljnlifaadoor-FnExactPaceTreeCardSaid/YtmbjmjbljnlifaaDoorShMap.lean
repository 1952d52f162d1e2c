/-
  What is proved: the model's l7Map makes of keys and trees the map that comes of setting each in its turn, in memory of its own; the kinds' words; no condition but how great the trees are.
-/
import Derived.Test.YtmbjmjbljnlifaaDoorSetS
import Derived.Test.YtmbjmjbljnlifaaDoorStepC
import Derived.Test.YtmbjmjbljnlifaaDoorShP
import Derived.Test.YtmbjmjbljnlifaaDoorSetZ
import Derived.Test.YtmbjmjbljnlifaaDoorOwn
import Derived.Test.YtmbjmjbljnlifaaDoorLeaf
import Derived.Deep.DeepCutAuto
namespace Go.Proofs.YtmbjmjbljnlifaaDoor
open Go Go.RowKit

/-- The map that comes of setting the first j of these in their turn. -/
def mapN (ks : List ByteArray) (ds : List RT) (j : Nat) : RT := ((ks.zip ds).take j).foldl (fun T p => setT T p.1 p.2) (.node 5 0 ⟨#[]⟩ [] [])

theorem mapN_succ (ks : List ByteArray) (ds : List RT) {j : Nat} (h : j < ks.length) (h' : j < ds.length) : mapN ks ds (j + 1) = setT (mapN ks ds j) ks[j] ds[j] := by
  unfold mapN
  rw [List.take_succ_eq_append_getElem (by rw [List.length_zip]; omega), List.foldl_append]
  simp

theorem setT_new {n : Int} {s : ByteArray} {keys : List ByteArray} {kids : List RT} {key : ByteArray} {X : RT} {p : Nat} (hl : keys.length = kids.length) (hf : firstN keys key = keys.length) (hp : placeN keys key = p) :
    setT (.node 5 n s keys kids) key X = .node 5 n s (insAt keys p key) (insAt kids p X) := by
  subst hp
  have h1 : (RT.node 5 n s keys kids).isMap := ⟨rfl, hl⟩
  have h2 : ¬ firstN (RT.node 5 n s keys kids).keys key < (RT.node 5 n s keys kids).keys.length := by show ¬ firstN keys key < keys.length; omega
  rw [setT, if_pos h1, if_neg h2]
  rfl

theorem mapN_sz (ks : List ByteArray) (ds : List RT) (hlen : ks.length = ds.length) : ∀ j, j ≤ ks.length → (mapN ks ds j).sz ≤ szAll (ds.take j) + strSz (ks.take j) + 2 * j
  | 0, _ => by
    have e : mapN ks ds 0 = .node 5 0 ⟨#[]⟩ [] [] := rfl
    rw [e]
    have k : (⟨#[]⟩ : ByteArray).size = 0 := rfl
    simp only [RT.sz, k, szAll, strSz, List.length_nil, List.map_nil, List.sum_nil]
    omega
  | j + 1, h => by
    have ih := mapN_sz ks ds hlen j (by omega)
    have h1 := setT_sz (mapN ks ds j) ds[j] ks[j]
    rw [mapN_succ ks ds (by omega) (by omega), List.take_succ_eq_append_getElem (by omega : j < ds.length), List.take_succ_eq_append_getElem (by omega : j < ks.length), szAll_append, strSz_append]
    have e1 : szAll [ds[j]] = ds[j].sz := by simp [szAll]
    have e2 : strSz [ks[j]] = ks[j].size := by simp [strSz]
    omega

theorem mapN_le (ks : List ByteArray) (ds : List RT) (hlen : ks.length = ds.length) {j : Nat} (hj : j ≤ ks.length) : (mapN ks ds j).sz ≤ szAll ds + strSz ks + 2 * ks.length := by
  have h1 := mapN_sz ks ds hlen j hj
  have h2 := szAll_append (ds.take j) (ds.drop j)
  have h3 := strSz_append (ks.take j) (ks.drop j)
  rw [List.take_append_drop] at h2 h3
  omega

/-- A node in a block of its own: the result's block, the node's, what it holds. -/
structure LM (w wr : World) (T : RT) (kv dv : Value) (F : List Nat) : Prop where
  below : Below w.heap.size w wr
  res : wr.heap[w.heap.size]? = some (.cells #[.int .i64 0, .int .i64 0, .string ⟨#[]⟩, .slice none 0 0, .slice none 0 0] 28 (0, 0))
  out : wr.heap[w.heap.size + 1]? = some (.cells #[.int .i64 T.k, .int .i64 T.n, .string T.s, kv, dv] 28 (0, 0))
  lie : Lies wr T kv dv F
  fresh : Fresh w wr F
  far : ∀ y ∈ F, w.heap.size + 2 ≤ y

section
variable {w wr w1 : World} {T : RT} {kv dv : Value} {F : List Nat}

theorem LM.lt (h : LM w wr T kv dv F) : w.heap.size + 1 < wr.heap.size := (Array.getElem?_eq_some_iff.1 h.out).1

theorem LM.start (w : World) (k : Int) (hk : Fit k) :
    LM w ((w.alloc (.cells #[.int .i64 0, .int .i64 0, .string ⟨#[]⟩, .slice none 0 0, .slice none 0 0] 28)).alloc (.cells #[.int .i64 k, .int .i64 0, .string ⟨#[]⟩, .slice none 0 0, .slice none 0 0] 28)) (.node k 0 ⟨#[]⟩ [] []) (.slice none 0 0) (.slice none 0 0) [] := by
  refine ⟨((Below.refl _ w).alloc (Nat.le_refl _) _).alloc (by simp) _, ?_, ?_, leaf_lies _ hk ⟨by decide, by decide⟩ (by decide), Fresh.nil _ _, fun y hy => absurd hy (by simp)⟩
  · exact (((Below.refl _ _).alloc (Nat.le_refl _) _).block w.heap.size (by simp)).trans (heap_last w _)
  · exact (two_blk w _ _).2.1

theorem LM.next (h : LM w wr T kv dv F) (hb : Below wr.heap.size wr w1) : LM w w1 T kv dv F :=
  ⟨h.below.trans (hb.mono h.below.size), (hb.block _ (by have := h.lt; omega)).trans h.res, (hb.block _ h.lt).trans h.out, h.lie.stay hb (Nat.le_refl _), h.fresh.carry fun y hy => hb.block y (h.lie.lt y hy), h.far⟩

/-- The node has become another one, whose lists are new. -/
theorem LM.put (h : LM w wr T kv dv F) (hb : Below wr.heap.size wr w1) {R : RT} {kr dr : Value} {G : List Nat} (hl : Lies w1 R kr dr G) (hf : Fresh wr w1 G) :
    LM w (set5 w1 (w.heap.size + 1) 0 (.int .i64 R.k) (.int .i64 R.n) (.string R.s) kr dr) R kr dr G := by
  have h1 := h.next hb
  have hlt := h.lt
  have hfar : ∀ y ∈ G, w.heap.size + 2 ≤ y := fun y hy => by have := hf.old y hy; omega
  have keep : ∀ y, y ≠ w.heap.size + 1 → (set5 w1 (w.heap.size + 1) 0 (.int .i64 R.k) (.int .i64 R.n) (.string R.s) kr dr).heap[y]? = w1.heap[y]? := fun y hy => set5_other _ _ _ _ _ _ _ _ _ hy
  have hf0 : Fresh w w1 G := hf.earlier (by omega)
  exact ⟨set5_below h1.below (by omega) _ _ _ _ _ _, (keep _ (by omega)).trans h1.res, set5_end h1.out _ _ _ _ _, hl.carry fun y hy => keep y (by have := hfar y hy; omega), hf0.carry fun y hy => keep y (by have := hfar y hy; omega), hfar⟩

/-- The node is the result. -/
theorem LM.fin (h : LM w wr T kv dv F) : (set5 wr w.heap.size 0 (.int .i64 T.k) (.int .i64 T.n) (.string T.s) kv dv).heap[w.heap.size]? = some (.cells #[.int .i64 T.k, .int .i64 T.n, .string T.s, kv, dv] 28 (0, 0)) ∧
    Lies (set5 wr w.heap.size 0 (.int .i64 T.k) (.int .i64 T.n) (.string T.s) kv dv) T kv dv F ∧ Fresh w (set5 wr w.heap.size 0 (.int .i64 T.k) (.int .i64 T.n) (.string T.s) kv dv) F ∧ Below w.heap.size w (set5 wr w.heap.size 0 (.int .i64 T.k) (.int .i64 T.n) (.string T.s) kv dv) := by
  have keep : ∀ y ∈ F, (set5 wr w.heap.size 0 (.int .i64 T.k) (.int .i64 T.n) (.string T.s) kv dv).heap[y]? = wr.heap[y]? := fun y hy => set5_other _ _ _ _ _ _ _ _ _ (by have := h.far y hy; omega)
  exact ⟨set5_end h.res _ _ _ _ _, h.lie.carry keep, h.fresh.carry keep, set5_below h.below (Nat.le_refl _) _ _ _ _ _ _⟩
end

set_option maxRecDepth 100000 in
set_option maxHeartbeats 2000000 in
theorem spec_l7Map (ks : List ByteArray) (ds : List RT) (hlen : ks.length = ds.length) (w : World) (kv dv : Value) (FK FD : List Nat) (hK : StrsAt w kv ks FK) (hD : KidsLie w dv ds FD)
    (hz : ∀ j ≤ ks.length, (mapN ks ds j).sz ≤ 1200000) (hx : ∀ p ∈ ds, p.sz ≤ 1200000) (hP : ks.length ≤ 1000000) (R : RT) (hR : mapN ks ds ks.length = R) :
    Calls Tryd.prog 15 #[kv, dv] w fun e w' => ∃ kv' dv' F', e = .returned (R.val kv' dv') ∧ Lies w' R kv' dv' F' ∧ Fresh w w' F' ∧ Below w.heap.size w w' := by
  obtain ⟨ko, kc, kb, koff, rfl, hkl, hkm, hko, -, hkey, -⟩ := hK
  obtain ⟨o, c, b, off, FF, KV, DV, rfl, hl, hm, ho, -, hcell, hlies, -⟩ := hD
  have HM := Lib.hid (LM.start w 5 ⟨by decide, by decide⟩)
  have HZ := Lib.hid hz
  have HXs := Lib.hid hx
  have HKey := Lib.hid hkey
  have HC := Lib.hid hcell
  have HL := Lib.hid hlies
  have HKo := Lib.hid hko
  have HO := Lib.hid ho
  clear hz hx hkey hcell hlies hko ho
  have hpl : ks.length ≤ 1000000 := hP
  have HR := Lib.hid hR
  obtain ⟨m, hma⟩ : ∃ m, ks.length = m := ⟨_, rfl⟩
  have hmb : ds.length = m := by omega
  have HLn := Lib.hid (And.intro hma hmb)
  rw [hma] at hpl hkl
  rw [hmb] at hl
  rw [hma, hmb]
  clear hkm hm hP hR hma hmb hlen
  go_enter Tryd.func15, Tryd.ntmps15
  go_wp2
  go_loopw [6] (fun i wr => ∃ (j : Nat) (kv dv : Value) (F : List Nat), j ≤ m ∧ i = .int .i64 j ∧ Hid (LM w wr (mapN ks ds j) kv dv F)) (fun i _ => m - (intOf i).toNat)
  case atStart => exact ⟨0, _, _, _, Nat.zero_le _, rfl, HM.out⟩
  case round =>
    obtain ⟨j, kv, dv, F, hj, rfl, hr⟩ := hrel
    obtain ⟨⟨o3, q3, rfl⟩, ⟨o4, q4, rfl⟩⟩ := hr.out.lie.slices
    by_cases hltm : j < m
    · have hlt : j < ks.length := by have := HLn.out.1; omega
      have hlt' : j < ds.length := by have := HLn.out.2; omega
      have hko := HKo.out (by omega)
      have ho := HO.out (by omega)
      subst hko ho
      obtain ⟨y0, y1, y2, y3, y4, -⟩ := five hr.out.out
      have hkc : wr.cell? ⟨kb, koff + j, none⟩ = _ := (hr.out.below.cell (by exact World.block_lt_of_cell? _ _ (HKey.out j hlt).1)).trans (HKey.out j hlt).1
      obtain ⟨c0, c1, c2, c3, c4⟩ := kid_cells (HC.out j (by omega)) hr.out.below
      have hlj := (HL.out j (by omega)).stay hr.out.below (Nat.le_refl _)
      have HSt : Hid (∀ W, Below wr.heap.size wr W → Calls Tryd.prog 33 #[.agg #[.int .i64 (mapN ks ds j).k, .int .i64 (mapN ks ds j).n, .string (mapN ks ds j).s, .slice o3 (mapN ks ds j).keys.length q3, .slice o4 (mapN ks ds j).kids.length q4], .string ks[j], .agg #[.int .i64 ds[j].k, .int .i64 ds[j].n, .string ds[j].s, KV j, DV j]] W fun e w' => ∃ v, e = .returned v ∧ ∃ kr dr G, v = .agg #[.int .i64 (mapN ks ds (j + 1)).k, .int .i64 (mapN ks ds (j + 1)).n, .string (mapN ks ds (j + 1)).s, kr, dr] ∧ Lies w' (mapN ks ds (j + 1)) kr dr G ∧ Fresh W w' G ∧ Below W.heap.size W w') := fun W hW => by
        refine (spec_set (mapN ks ds j) ds[j] ks[j] W _ _ _ _ _ _ (hr.out.lie.stay hW (Nat.le_refl _)) (hlj.stay hW (Nat.le_refl _)) (HZ.out j (by omega)) (HXs.out _ (List.getElem_mem (by omega))) (HKey.out j hlt).2).mono ?_
        rintro e w' ⟨kr, dr, G, rfl, g1, g2, g3⟩
        have e : setT (mapN ks ds j) ks[j] ds[j] = mapN ks ds (j + 1) := (mapN_succ ks ds hlt (by omega)).symm
        rw [e] at g1 ⊢
        exact ⟨_, rfl, kr, dr, G, rfl, g1, g2, g3⟩
      have hi0 : (0 : Int) ≤ (j : Int) := by omega
      have hi1 : (j : Int) < (m : Int) := by omega
      have hla : Hid (w.heap.size + 1 < wr.heap.size) := hr.out.lt
      clear hlj
      generalize ks[j] = key at *
      generalize ds[j] = X at *
      clear hlt hlt'
      obtain ⟨T, hT⟩ : ∃ T, mapN ks ds j = T := ⟨_, rfl⟩
      obtain ⟨R1, hR1⟩ : ∃ R, mapN ks ds (j + 1) = R := ⟨_, rfl⟩
      rw [hT] at hr y0 y1 y2 y3 y4 HSt
      rw [hR1] at HSt
      have HRe := Lib.hid hR1
      clear hT hR1
      go_wp2
      have HB := Lib.hid (below_drewN (Below.refl wr.heap.size wr) 1)
      go_region_law (first
        | (refine step_calls (by rfl) 33 _ _ (by rfl) #[.agg #[.int .i64 T.k, .int .i64 T.n, .string T.s, .slice o3 T.keys.length q3, .slice o4 T.kids.length q4], .string key, .agg #[.int .i64 X.k, .int .i64 X.n, .string X.s, KV j, DV j]] (by simp [Act.eval]) (by intros; simp [go_sem]) (fun _ _ => rfl) (HSt.out _ HB.out) ?_
           rintro u w6 ⟨kr, dr, G, rfl, hl6, hf6, hb6⟩
           obtain ⟨⟨o5, q5, rfl⟩, ⟨o6, q6, rfl⟩⟩ := hl6.slices
           have hb06 := HB.out.trans (hb6.mono (Nat.le_refl _))
           obtain ⟨m0, m1, m2, m3, m4, m5⟩ := five (hr.out.next hb06).out
           have H7 := Lib.hid (hr.out.put hb06 hl6 (hf6.earlier (w := wr) (Nat.le_refl _)))
           clear hl6 hf6 hb6 hb06)
        | fail)
      all_goals
        go_wp2
        go_roundw
        case rel => exact ⟨j + 1, _, _, G, by omega, by go_num, by rw [HRe.out]; exact H7.out⟩
        case measure => simp [intOf]; omega
    · have e : j = m := by omega
      subst e
      have hr := hr.out
      rw [← HLn.out.1, HR.out] at hr
      have hr := Lib.hid hr
      have HD := Lib.hid hr.out.fin
      obtain ⟨y0, y1, y2, y3, y4, -⟩ := five hr.out.out
      obtain ⟨z0, z1, z2, z3, z4, z5⟩ := five hr.out.res
      go_wp2
      exact bodyPost_ret (ret_node Tryd.results15 rfl HD.out.1) rfl ⟨_, _, _, rfl, HD.out.2.1, HD.out.2.2.1, HD.out.2.2.2⟩
end Go.Proofs.YtmbjmjbljnlifaaDoor
