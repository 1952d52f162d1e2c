/-
  What is proved: the program's copyTrees and copyTree lay the same trees into new memory.; plain facts on one element that is put into a row that a call owns: Go's copy at any size of element, and what slices.Insert leaves of the row, in its place or in a new one.; Go's slices.Insert of one element into a list of texts that a call owns: in its place where there is room, else in a new row.
-/
import Derived.Test.YtfmkhogpnnobeaaGreatDoorPartAC
import Derived.Laws.CopyRow
import Derived.Laws.NewBlocks
import Derived.Lib.Overlaps
import Derived.Lib.AppendZerosOnto
import Derived.Laws.Externs
import Derived.Shelf.Spec.SlicesInsert
/- the program's copyTrees and copyTree lay the same trees into new memory. -/
namespace Go.Proofs.YtfmkhogpnnobeaaGreatDoor
open Go Go.RowKit

/-- What the program's copyTree answers of one tree. -/
def CopyAt (T : RT) : Prop := ∀ (w : World) (kv dv : Value) (F : List Nat), Lies w T kv dv F → T.sz ≤ 1048576 →
  Calls Tryz.prog 104 #[T.val kv dv] w fun e w' => ∃ kv' dv' F', e = .returned (.agg #[.int .i64 T.k, .int .i64 T.n, .string T.s, kv', dv']) ∧ Lies w' T kv' dv' F' ∧ Fresh w w' F' ∧ Below w.heap.size w w' ∧ Whole w' w.heap.size 9 1 kv' ∧ Whole w' w.heap.size 32 5 dv'

set_option maxRecDepth 100000 in
set_option maxHeartbeats 1600000 in
theorem copy_kids {dv : Value} {kids : List RT} {F : List Nat} (ih : ∀ t ∈ kids, CopyAt t) (w : World) (hs : KidsLie w dv kids F) (h1 : kids.length + szAll kids ≤ 1048576) :
    Calls Tryz.prog 135 #[dv] w fun e w' => ∃ v' F', e = .returned v' ∧ KidsLie w' v' kids F' ∧ Fresh w w' F' ∧ Below w.heap.size w w' ∧ Whole w' w.heap.size 32 5 v' := by
  obtain ⟨o, cap, b, off, FF, KV, DV, rfl, hlc, hcm, ho, -, hcell, hlies, -⟩ := hs
  have HC := Lib.hid hcell
  have HO := Lib.hid ho
  have HL := Lib.hid hlies
  clear hcell ho hlies
  obtain ⟨i0, hi0, hz0, hz1, hz2⟩ := info_parts info_node
  go_enter Tryz.func135, Tryz.ntmps135
  go_wp2
  go_loopw [3, 8] (fun v i wr => ∃ (k : Nat) (KV' DV' : Nat → Value) (FF' : Nat → List Nat), k ≤ kids.length ∧ i = .int .i64 k ∧ Hid (LaidApp 32 w w wr kids k v KV' DV' FF')) (fun _ i _ => kids.length - (intOf i).toNat)
  case atStart => exact ⟨0, _, _, _, Nat.zero_le _, rfl, LaidApp.start _ kids (Below.refl _ _) (Nat.le_refl _) (Nat.le_refl _)⟩
  case round =>
    obtain ⟨k, KV', DV', FF', hk, rfl, hr⟩ := hrel
    by_cases hlt : k < kids.length
    · obtain ⟨c0, c1, c2, c3, c4⟩ := kid_cells (HC.out k hlt) hr.out.below
      have ho := HO.out (by omega)
      subst ho
      obtain ⟨⟨o1, q1, s1⟩, ⟨o2, q2, s2⟩⟩ := (HL.out k hlt).slices
      have hB1 : Hid (∀ ob, Below w.heap.size w (wr.alloc ob)) := fun ob => hr.out.below.alloc hr.out.below.size _
      have HI := Lib.hid (fun (w1 : World) (hb1 : Below w.heap.size w w1) => ih _ (List.getElem_mem hlt) w1 _ _ _ ((HL.out k hlt).stay hb1 (Nat.le_refl _)) (Nat.le_trans (sz_take kids (List.getElem_mem hlt)) (by omega)))
      generalize KV k = v1 at *
      generalize DV k = v2 at *
      subst s1 s2
      go_wp2_with fail
      refine (HI.out _ (hB1.out _)).mono ?_
      rintro e w1 ⟨kv1, dv1, F1, rfl, hl1, hf1, hb1, -, -⟩
      obtain ⟨⟨o3, q3, rfl⟩, ⟨o4, q4, rfl⟩⟩ := hl1.slices
      have hbw : Below wr.heap.size wr w1 := by
        have hx := (Below.refl _ wr).alloc (Nat.le_refl _) (.cells #[.int .i64 kids[k].k, .int .i64 kids[k].n, .string kids[k].s, .slice o1 kids[k].keys.length q1, .slice o2 kids[k].kids.length q2] 32)
        exact hx.trans (hb1.mono hx.size)
      have hf1' : Fresh wr w1 F1 := hf1.earlier (by simp)
      have HS := Lib.hid fun (w2 w3 : World) (g cap : Nat) => hr.out.step (w2 := w2) (w3 := w3) (g := g) (cap := cap) hlt hbw hl1 hf1'
      have HOwn := Lib.hid (owns_below (owns_below hr.out.own hbw) ((Below.refl _ w1).alloc (Nat.le_refl _) (.cells #[.int .i64 kids[k].k, .int .i64 kids[k].n, .string kids[k].s, .slice o3 kids[k].keys.length q3, .slice o4 kids[k].kids.length q4] 32)))
      have hbase : w.heap.size ≤ w1.heap.size + 1 := by have := hr.out.below.size; have := hbw.size; omega
      have HBase := Lib.hid hbase
      clear hl1 hf1 hb1 hbw hf1' hbase c0 c1 c2 c3 c4
      generalize hx : kids[k] = x at *
      clear hx
      rename_i u3
      go_wp2_with (first
        | (at_builtin; refine wpList_append_lies _ rfl (.tmp 12) (.tmp 15) 30 rfl w.heap.size 32 i0 _ 5 80 Tryz.underlying30 hi0 hz0 hz1 hz2 rfl (by decide) u3 k _ rfl HOwn.out ⟨w1.heap.size, 0, none⟩ 1 1 [.int .i64 x.k, .int .i64 x.n, .string x.s, .slice o3 x.keys.length q3, .slice o4 x.kids.length q4] rfl rfl (World.news_of_block (cs := #[.int .i64 x.k, .int .i64 x.n, .string x.s, .slice o3 x.keys.length q3, .slice o4 x.kids.length q4]) (t := 32) (fr := (0, 0)) (heap_last w1 _)) (by simp [Value.oneCell']) (by omega) (by unfold maxLen; omega) (by omega) (by simp; exact HBase.out) (w1.heap.size + 1) (by simp) ?_; intro g cap' w3 hown3 hgrow hat hltg; have H3 := Lib.hid (And.intro hown3 (And.intro hgrow hat)); clear hown3 hgrow hat hltg)
        | fail)
      exact ⟨⟨k + 1, _, _, _, by omega, by go_num, HS.out _ w3 g cap' ((Below.refl _ w1).alloc (Nat.le_refl _) _) H3.out.2.1 H3.out.1 (by simpa using H3.out.2.2)⟩, by simp [intOf]; omega⟩
    · have e : k = kids.length := by omega
      subst e
      have HD := Lib.hid (And.intro hr.out.done hr.out.whole)
      go_wp2
      go_ret
      obtain ⟨⟨F', g1, g2, g3⟩, g4⟩ := HD.out
      exact ⟨_, F', rfl, g1, g2, g3, g4⟩

/-! ### A node copied whole -/

/-- The block of what a function was handed, and the block of what it answers. -/
structure CBox (w wr : World) (t : TypeId) (a b c d e : Value) : Prop where
  below : Below w.heap.size w wr
  size : w.heap.size + 2 ≤ wr.heap.size
  box : wr.heap[w.heap.size]? = some (.cells #[a, b, c, d, e] t (0, 0))
  res : wr.heap[w.heap.size + 1]? = some (.cells #[.int .i64 0, .int .i64 0, .string ⟨#[]⟩, .slice none 0 0, .slice none 0 0] 32 (0, 0))

theorem CBox.start (w : World) (t : TypeId) (a b c d e : Value) : CBox w ((w.alloc (.cells #[a, b, c, d, e] t)).alloc (.cells #[.int .i64 0, .int .i64 0, .string ⟨#[]⟩, .slice none 0 0, .slice none 0 0] 32)) t a b c d e where
  below := ((Below.refl _ w).alloc (Nat.le_refl _) _).alloc (by simp) _
  size := by simp
  box := (Below.heap_alloc _ _ _ (by simp)).trans (heap_last w _)
  res := by
    have := heap_last (w.alloc (.cells #[a, b, c, d, e] t)) (.cells #[.int .i64 0, .int .i64 0, .string ⟨#[]⟩, .slice none 0 0, .slice none 0 0] 32)
    simpa using this

theorem CBox.next {w wr w1 : World} {t : TypeId} {a b c d e : Value} (h : CBox w wr t a b c d e) (hb : Below wr.heap.size wr w1) : CBox w w1 t a b c d e where
  below := h.below.trans (hb.mono h.below.size)
  size := Nat.le_trans h.size hb.size
  box := (hb.block _ (by have := h.size; omega)).trans h.box
  res := (hb.block _ (by have := h.size; omega)).trans h.res

theorem below_of_grown {w w' : World} (h : w.grownBy w' none) : Below w.heap.size w w' := ⟨h.os, h.tape, h.output, h.size, fun k hk => h.block k hk (by simp)⟩

/-- The texts that an append onto nothing has laid. -/
theorem strs_of_owns {w wr : World} {base g cap : Nat} {ks : List ByteArray} {t : TypeId} (hn : 0 < ks.length) (hs : ∀ i (h : i < ks.length), ks[i].size ≤ maxLen) (hb : w.heap.size ≤ base) (h : wr.ownsRow base t 1 (.slice (some ⟨g, 0, none⟩) (0 + ks.length) cap) (0 + ks.length) ([] ++ ks.map .string)) :
    StrsAt wr (.slice (some ⟨g, 0, none⟩) ks.length cap) ks [g] ∧ Fresh w wr [g] := by
  rcases h.2 with ⟨h0, _⟩ | ⟨g', cap', cur, hv, hg, hh, hnc, hcm, hsz, htk⟩
  · cases h0
  · injection hv with e1 e2 e3
    injection e1 with e1
    injection e1 with e1
    subst e1 e3
    refine ⟨⟨_, _, g, 0, rfl, by omega, hcm, fun _ => rfl, by rw [if_neg (by omega)], fun i hi => ⟨?_, hs i hi⟩, room_of hh (by omega)⟩, ⟨by simp, fun b hb' => by simp at hb'; omega, fun b hb' o => by simp at hb'; subst hb'; simp [World.frozen?, hh]⟩⟩
    rw [Nat.zero_add, cell_of hh]
    have h1 : (cur.toList.take ((0 + ks.length) * 1))[i]? = (([] ++ ks.map Value.string) : List Value)[i]? := by rw [htk]
    rw [List.getElem?_take_of_lt (by omega)] at h1
    simpa [List.getElem?_eq_getElem hi] using h1

theorem app_nothing_ty (ty : TypeId) (w : World) (bo ko : Option Addr) (bc kc : Nat) : (Builtin.append_ #[29, 29] ty #[.slice bo 0 bc, .slice ko 0 kc]).run Tryz.prog w = .ok (.slice bo 0 bc) w := by
  obtain ⟨i, hi, hzz⟩ := Option.map_eq_some_iff.1 info_string
  have hs : Src Tryz.prog i.size 29 (.slice ko 0 kc) 0 [] w := by
    cases ko with
    | none => exact Src.ofNil w Tryz.underlying29 kc
    | some a => exact Src.ofSlice w Tryz.underlying29 a 0 kc [] (by simp) (fun j u h => by simp at h) (fun u h => by simp at h)
  exact run_append_nothing w 29 29 ty 9 i Tryz.underlying29 hi bo 0 bc (Nat.zero_le _) _ hs

/-- Nothing is appended, at a step of a region that draws its order. -/
theorem step_append_nothing {ops : Array Oper} {o : Oper} {a : Act} {w : World} {K : Act → World → Prop} {Q : Exit → Act → World → Prop} {E : Prop} (hgd : o.guard = none) (s x : Operand)
    (ho : o.op = .call { callee := .builtin .append, args := #[s, x], argTypes := #[29, 29] }) (bo ko : Option Addr) (bc kc : Nat) (hs : a.eval s = .slice bo 0 bc) (hx : a.eval x = .slice ko 0 kc)
    (h : K (a.put o.dst (.slice bo 0 bc)) w) : if Region.wanted o (yielded ops a.tmps) = true then Oper.wp Tryz.prog o a w K Q else E := by
  have hw : Region.wanted o (yielded ops a.tmps) = true := by simp [Region.wanted, hgd]
  rw [if_pos hw]
  unfold Oper.wp execOp
  simp only [ho, resolve, invoke, builtin, Sem.run_bind, Sem.run_pure, Result.andThen_ok, List.map_toArray, List.map_cons, List.map_nil, hs, hx, app_nothing_ty]
  exact h

/-- What is answered: the node stored whole into its block. -/
theorem copy_fin {w wr : World} {t : TypeId} {a b c d e : Value} (hx : CBox w wr t a b c d e) {k n : Int} {s : ByteArray} {keys : List ByteArray} {kids : List RT} {kv dv : Value} {FK FD : List Nat} (hfit : Fit k ∧ Fit n ∧ s.size ≤ maxLen)
    (hK : StrsAt wr kv keys FK) (hD : KidsLie wr dv kids FD) (hf : Fresh w wr (FK ++ FD)) (h2 : ∀ x ∈ FK ++ FD, w.heap.size + 2 ≤ x) :
    (set5 wr (w.heap.size + 1) 0 (.int .i64 k) (.int .i64 n) (.string s) kv dv).heap[w.heap.size + 1]? = some (.cells #[.int .i64 k, .int .i64 n, .string s, kv, dv] 32 (0, 0)) ∧
    Lies (set5 wr (w.heap.size + 1) 0 (.int .i64 k) (.int .i64 n) (.string s) kv dv) (.node k n s keys kids) kv dv (FK ++ FD) ∧ Fresh w (set5 wr (w.heap.size + 1) 0 (.int .i64 k) (.int .i64 n) (.string s) kv dv) (FK ++ FD) ∧
    Below w.heap.size w (set5 wr (w.heap.size + 1) 0 (.int .i64 k) (.int .i64 n) (.string s) kv dv) := by
  have keep : ∀ x ∈ FK ++ FD, (set5 wr (w.heap.size + 1) 0 (.int .i64 k) (.int .i64 n) (.string s) kv dv).heap[x]? = wr.heap[x]? := fun x hxm => set5_other _ _ _ _ _ _ _ _ _ (by have := h2 x hxm; omega)
  exact ⟨set5_end hx.res _ _ _ _ _, Lies.into hfit.1 hfit.2.1 hfit.2.2 (hK.carry fun x hxm => keep x (List.mem_append_left _ hxm)) (hD.carry fun x hxm => keep x (List.mem_append_right _ hxm)), hf.carry keep, set5_below hx.below (by omega) _ _ _ _ _ _⟩

theorem whole_set5 {w wr : World} {t : TypeId} {q : Nat} {v : Value} (h : Whole wr (w.heap.size + 2) t q v) (a b c d e : Value) : Whole (set5 wr (w.heap.size + 1) 0 a b c d e) w.heap.size t q v :=
  h.carry (by omega) fun x hx _ => set5_other _ _ _ _ _ _ _ _ _ (by omega)

theorem strs_nil (w : World) (o : Option Addr) : StrsAt w (.slice o 0 0) [] [] := ⟨o, 0, 0, 0, rfl, Nat.zero_le _, Nat.zero_le _, fun h => absurd h (by simp), rfl, fun i hi => absurd hi (by simp), Room.nil _ _ _⟩

set_option maxRecDepth 100000 in
set_option maxHeartbeats 3200000 in
theorem copy_node (T : RT) : CopyAt T := by
  induction T using RT.ind with
  | h k n s keys kids ih =>
    intro w kv dv F hl hsz
    obtain ⟨hk, hn, hs, FK, FD, hK, hD, -⟩ := hl.outn
    clear hl
    rw [RT.sz] at hsz
    have HX := Lib.hid (CBox.start w 32 (.int .i64 k) (.int .i64 n) (.string s) kv dv)
    have HK := Lib.hid fun (wr : World) (hb : Below w.heap.size w wr) => copy_kids ih wr (hD.stay hb (Nat.le_refl _)) (by omega)
    have HF : Hid (Fit k ∧ Fit n ∧ s.size ≤ maxLen) := ⟨hk, hn, hs⟩
    obtain ⟨o2, q2, rfl⟩ := hD.slice
    obtain ⟨i0, hi0, hz0, hz1, hz2⟩ := info_parts info_string
    clear hD ih hk hn hs
    show Calls Tryz.prog 104 #[.agg #[.int .i64 k, .int .i64 n, .string s, kv, .slice o2 kids.length q2]] w fun e w' => ∃ kv' dv' F', e = .returned (.agg #[.int .i64 k, .int .i64 n, .string s, kv', dv']) ∧ Lies w' (.node k n s keys kids) kv' dv' F' ∧ Fresh w w' F' ∧ Below w.heap.size w w' ∧ Whole w' w.heap.size 9 1 kv' ∧ Whole w' w.heap.size 32 5 dv'
    by_cases hk0 : keys = []
    · subst hk0
      obtain ⟨ko, kc, rfl⟩ := hK.slice
      clear hK
      go_enter Tryz.func104, Tryz.ntmps104
      go_wp2_with fail
      have HD := Lib.hid (HX.out.next (below_drewN (Below.refl _ _) 1))
      obtain ⟨x0, x1, x2, x3, x4, -⟩ := five HX.out.box
      go_region_held3 (fun w' => w'.cell? ⟨w.heap.size, 0, none⟩ = some (.int .i64 k) ∧ w'.cell? ⟨w.heap.size, 1, none⟩ = some (.int .i64 n) ∧ w'.cell? ⟨w.heap.size, 2, none⟩ = some (.string s) ∧ w'.cell? ⟨w.heap.size, 3, none⟩ = some (.slice ko 0 kc) ∧ w'.cell? ⟨w.heap.size, 4, none⟩ = some (.slice o2 kids.length q2)) (go_keep)
        (first
          | (go_at_call 135; refine (HK.out _ HD.out.below).mono ?_; rintro e w3 ⟨dv3, F3, rfl, hk3, hf3, hb3, hw3⟩; obtain ⟨o3, q3, rfl⟩ := hk3.slice; have HX3 := Lib.hid (HD.out.next hb3); have H3 := Lib.hid (And.intro hk3 (And.intro hf3 hb3)); have HW3 := Lib.hid (hw3.carry (w' := w3) HD.out.size fun _ _ _ => rfl); obtain ⟨p0, p1, p2, p3, p4, -⟩ := five HX3.out.box; obtain ⟨r0, r1, r2, r3, r4, r5⟩ := five HX3.out.res; clear hk3 hf3 hb3 hw3)
          | (refine step_append_nothing (by rfl) _ _ (by rfl) none ko 0 kc (by rfl) (by rfl) ?_))
      all_goals go_wp2
      all_goals
        obtain ⟨hk3, hf3, hb3⟩ := H3.out
        have h2 : ∀ x ∈ [] ++ F3, w.heap.size + 2 ≤ x := fun x hxm => by
          have h1 := hf3.old x (by simpa using hxm)
          have h2 := HD.out.size
          omega
        have hfin := copy_fin HX3.out HF.out (strs_nil w3 none) hk3 (hf3.earlier (by have := HD.out.size; omega)) h2
        exact bodyPost_ret (ret_node Tryz.results104 rfl hfin.1) rfl ⟨_, _, _, rfl, hfin.2.1, hfin.2.2.1, hfin.2.2.2, .inl rfl, whole_set5 HW3.out _ _ _ _ _⟩
    · have hkl : 0 < keys.length := by rcases keys with _ | ⟨x, l⟩; exact absurd rfl hk0; simp
      obtain ⟨ko, kc, kb, kof, rfl, hlc, hcm, ho, -, hcell, -⟩ := hK
      have ho := ho (by omega)
      subst ho
      have HN : Hid (∀ wr, Below w.heap.size w wr → ∀ j u, (keys.map Value.string)[j]? = some u → wr.cell? ((⟨kb, kof, none⟩ : Addr).add j) = some u) := fun wr hb j u hu => by
        rw [List.getElem?_map] at hu
        obtain ⟨x, hx, rfl⟩ := Option.map_eq_some_iff.1 hu
        obtain ⟨hj, rfl⟩ := List.getElem?_eq_some_iff.1 hx
        rw [Go.WideShapes.add_plain, hb.cell (by exact World.block_lt_of_cell? _ _ (hcell j hj).1)]
        exact (hcell j hj).1
      have HSz : Hid (∀ i (h : i < keys.length), keys[i].size ≤ maxLen) := fun i hi => (hcell i hi).2
      clear hcell hk0
      go_enter Tryz.func104, Tryz.ntmps104
      go_wp2_with fail
      have HD := Lib.hid (HX.out.next (below_drewN (Below.refl _ _) 1))
      obtain ⟨x0, x1, x2, x3, x4, -⟩ := five HX.out.box
      go_region_held3 (fun w' => w'.cell? ⟨w.heap.size, 0, none⟩ = some (.int .i64 k) ∧ w'.cell? ⟨w.heap.size, 1, none⟩ = some (.int .i64 n) ∧ w'.cell? ⟨w.heap.size, 2, none⟩ = some (.string s) ∧ w'.cell? ⟨w.heap.size, 3, none⟩ = some (.slice (some ⟨kb, kof, none⟩) keys.length kc) ∧ w'.cell? ⟨w.heap.size, 4, none⟩ = some (.slice o2 kids.length q2)) (go_keep)
        (first
          | (go_at_call 135; refine (HK.out _ HD.out.below).mono ?_; rintro e w3 ⟨dv3, F3, rfl, hk3, hf3, hb3, hw3⟩; obtain ⟨o3, q3, rfl⟩ := hk3.slice; have HW3 := Lib.hid (hw3.carry (w' := w3) HD.out.size fun _ _ _ => rfl); clear hw3
             have H3 := Lib.hid (And.intro hk3 (And.intro hf3 (And.intro hb3 HD.out.size)))
             replace HD := Lib.hid (HD.out.next hb3)
             obtain ⟨p0, p1, p2, p3, p4, -⟩ := five HD.out.box; obtain ⟨r0, r1, r2, r3, r4, r5⟩ := five HD.out.res; clear hk3 hf3 hb3)
          | (refine step_append_lies _ (by rfl) _ _ _ (by rfl) (w.heap.size + 2) 9 i0 _ 1 16 Tryz.underlying29 hi0 hz0 hz1 hz2 rfl (by decide) (.slice none 0 0) 0 [] (by rfl) ⟨rfl, .inl ⟨rfl, rfl⟩⟩ ⟨kb, kof, none⟩ keys.length kc (keys.map Value.string) (by rfl) (by simp) (HN.out _ HD.out.below) (by simp [Value.oneCell']) hkl (by unfold maxLen; omega) (by omega) HD.out.size _ rfl ?_
             intro g cap' w4 hown4 hgrow4 hat4 hlt4
             have H4 := Lib.hid (And.intro hown4 (And.intro (below_of_grown hgrow4) (And.intro hat4 HD.out.size)))
             replace HD := Lib.hid (HD.out.next (below_of_grown hgrow4))
             obtain ⟨y0, y1, y2, y3, y4, -⟩ := five HD.out.box; obtain ⟨z0, z1, z2, z3, z4, z5⟩ := five HD.out.res
             clear hown4 hgrow4 hat4 hlt4))
      obtain ⟨hk3, hf3, hb3, hs3⟩ := H3.out
      obtain ⟨hown4, hb4, -, -⟩ := H4.out
      obtain ⟨hS, hSf⟩ := strs_of_owns (w := w) hkl HSz.out (by omega) hown4
      have hg2 : w.heap.size + 2 ≤ g := by
        rcases hown4.2 with ⟨h0, _⟩ | ⟨g', cap2, cur, hv, hg, _⟩
        · cases h0
        · injection hv with e1 e2 e3
          injection e1 with e1
          injection e1 with e1
          omega
      have h2 : ∀ x ∈ [g] ++ F3, w.heap.size + 2 ≤ x := fun x hxm => by
        rcases List.mem_append.1 hxm with h | h
        · simp at h; omega
        · have := hf3.old x h; omega
      have hfr : Fresh w w3 ([g] ++ F3) := (hSf.carry fun x hx => hb3.block x (hS.lt x hx)).append (fun x hx => hS.lt x hx) hf3 (by omega)
      have hfin := copy_fin HD.out HF.out (hS.stay hb3 (Nat.le_refl _)) hk3 hfr h2
      have hW4 := (Whole.of_owns hown4 (fun h0 => by omega)).stay hb3
      rw [Nat.zero_add] at hW4
      have Hfin := Lib.hid (And.intro hfin.1 (And.intro hfin.2.1 (And.intro hfin.2.2.1 (And.intro hfin.2.2.2 (And.intro (whole_set5 hW4 (.int .i64 k) (.int .i64 n) (.string s) (.slice (some ⟨g, 0, none⟩) keys.length cap') (.slice o3 kids.length q3)) (whole_set5 HW3.out (.int .i64 k) (.int .i64 n) (.string s) (.slice (some ⟨g, 0, none⟩) keys.length cap') (.slice o3 kids.length q3)))))))
      clear hW4 HW3
      clear hk3 hf3 hb3 hs3 hown4 hb4 hS hSf hg2 h2 hfr hfin x0 x1 x2 x3 x4 y0 y1 y2 y3 y4 z0 z1 z2 z3 z4 z5 p0 p1 p2 p3 p4 r0 r1 r2 r3 r4 r5
      go_wp2
      exact bodyPost_ret (ret_node Tryz.results104 rfl Hfin.out.1) rfl ⟨_, _, _, rfl, Hfin.out.2⟩
end Go.Proofs.YtfmkhogpnnobeaaGreatDoor

/- plain facts on one element that is put into a row that a call owns: Go's copy at any size of element, and what slices.Insert leaves of the row, in its place or in a new one. -/
namespace Go.Proofs.YtfmkhogpnnobeaaGreatDoor
open Go Go.RowKit

/-- copy(d, s) into a block that is known whole, at any size of element. -/
theorem run_copy_rowq (P : Program) (w : World) (dT sT ty elem : TypeId) (g o dLen dCap : Nat) (a : Addr) (sLen sCap q : Nat) (cur : Array Value) (t : TypeId) (cs : List Value)
    (hu : P.underlying dT = some (.slice elem)) (hs : (P.info? elem).map (·.size) = some q)
    (hg : w.heap[g]? = some (.cells cur t (0, 0))) (hn : cs.length = Nat.min sLen dLen * q)
    (hsrc : ∀ j v, cs[j]? = some v → w.cell? (a.add j) = some v) (hfit : o + cs.length ≤ cur.size) (h1 : ∀ v ∈ cs, v.oneCell' = true) :
    (Builtin.copy_ #[dT, sT] ty #[.slice (some ⟨g, o, none⟩) dLen dCap, .slice (some a) sLen sCap]).run P w =
      .ok (goInt (Nat.min sLen dLen)) (w.setRow g (cur.toList.take o ++ cs ++ cur.toList.drop (o + cs.length)).toArray) := by
  have hl := run_loadCells_list (P := P) w a cs hsrc
  have hst := run_storeCells_at P g o t cs 0 cur w hg (by simpa using hfit) h1
  cases hq : P.info? elem with
  | none => simp [hq] at hs
  | some i =>
    have hi : i.size = q := by simpa [hq] using hs
    rw [hn] at hl
    simp [Builtin.copy_, run_underlying hu, Builtin.lenOf, Builtin.firstCells, sizeOf, typeInfo, hq, hi, hl, hst]

/-- What a row is once cs stands in it from o on. -/
def over (cur : Array Value) (o : Nat) (cs : List Value) : Array Value := (cur.toList.take o ++ cs ++ cur.toList.drop (o + cs.length)).toArray

theorem over_size {cur : Array Value} {o : Nat} {cs : List Value} (h : o + cs.length ≤ cur.size) : (over cur o cs).size = cur.size := by
  simp only [over, List.size_toArray, List.length_append, List.length_take, List.length_drop, Array.length_toList]
  omega

theorem over_get {cur : Array Value} {o : Nat} {cs : List Value} (h : o + cs.length ≤ cur.size) (j : Nat) : (over cur o cs).toList[j]? = if j < o then cur.toList[j]? else if j < o + cs.length then cs[j - o]? else cur.toList[j]? := by
  have hl : (cur.toList.take o).length = o := by simp; omega
  simp only [over, List.toList_toArray]
  by_cases h1 : j < o
  · rw [if_pos h1, List.append_assoc, List.getElem?_append_left (by omega), List.getElem?_take_of_lt h1]
  · rw [if_neg h1, List.append_assoc, List.getElem?_append_right (by omega), hl]
    by_cases h2 : j < o + cs.length
    · rw [if_pos h2, List.getElem?_append_left (by omega)]
    · rw [if_neg h2, List.getElem?_append_right (by omega), List.getElem?_drop]
      congr 1
      omega

/-- Shifted, then put into its place. -/
theorem shift_row {cur : Array Value} {xs ys : List Value} {i n q cap : Nat} (hx : cur.toList.take (n * q) = xs) (hxl : xs.length = n * q) (hs : cur.size = cap * q) (hi : i < n) (hroom : n + 1 ≤ cap) (hy : ys.length = q) :
    (over (over cur ((i + 1) * q) (xs.drop (i * q))) (i * q) ys).size = cap * q ∧ (over (over cur ((i + 1) * q) (xs.drop (i * q))) (i * q) ys).toList.take ((n + 1) * q) = xs.take (i * q) ++ ys ++ xs.drop (i * q) := by
  have e1 : (i + 1) * q = i * q + q := Nat.succ_mul _ _
  have e2 : (n + 1) * q = n * q + q := Nat.succ_mul _ _
  have e3 : (n + 1) * q ≤ cap * q := Nat.mul_le_mul_right _ hroom
  have e4 : i * q ≤ n * q := Nat.mul_le_mul_right _ (by omega)
  have hd : (xs.drop (i * q)).length = n * q - i * q := by rw [List.length_drop, hxl]
  have b1 : (i + 1) * q + (xs.drop (i * q)).length ≤ cur.size := by rw [hd, hs]; omega
  have s1 := over_size b1
  have b2 : i * q + ys.length ≤ (over cur ((i + 1) * q) (xs.drop (i * q))).size := by rw [s1, hs, hy]; omega
  refine ⟨by rw [over_size b2, s1, hs], ?_⟩
  have ht : (xs.take (i * q)).length = i * q := by rw [List.length_take]; omega
  apply List.ext_getElem?
  intro j
  by_cases hj : j < (n + 1) * q
  · rw [List.getElem?_take_of_lt hj, over_get b2, List.append_assoc]
    by_cases h1 : j < i * q
    · rw [if_pos h1, over_get b1, if_pos (by omega), List.getElem?_append_left (by omega), List.getElem?_take_of_lt h1, ← hx, List.getElem?_take_of_lt (by omega)]
    · rw [if_neg h1, List.getElem?_append_right (by omega), ht]
      by_cases h2 : j < i * q + ys.length
      · rw [if_pos h2, List.getElem?_append_left (by omega)]
      · rw [if_neg h2, over_get b1, if_neg (by omega), if_pos (by omega), List.getElem?_append_right (by omega)]
        congr 1
        omega
  · rw [List.getElem?_eq_none (by rw [List.length_take]; omega), List.getElem?_eq_none]
    simp only [List.length_append, ht, hy, hd]
    omega

/-- A new row: what stood ahead, the new one, what stood behind. -/
theorem fresh_row {cur : Array Value} {xs ys : List Value} {i n q cap : Nat} (hx : cur.toList.take (i * q) = xs.take (i * q)) (hxl : xs.length = n * q) (hs : cur.size = cap * q) (hi : i < n) (hroom : n + 1 ≤ cap) (hy : ys.length = q) :
    (over (over cur (i * q) ys) ((i + 1) * q) (xs.drop (i * q))).size = cap * q ∧ (over (over cur (i * q) ys) ((i + 1) * q) (xs.drop (i * q))).toList.take ((n + 1) * q) = xs.take (i * q) ++ ys ++ xs.drop (i * q) := by
  have e1 : (i + 1) * q = i * q + q := Nat.succ_mul _ _
  have e2 : (n + 1) * q = n * q + q := Nat.succ_mul _ _
  have e3 : (n + 1) * q ≤ cap * q := Nat.mul_le_mul_right _ hroom
  have e4 : i * q ≤ n * q := Nat.mul_le_mul_right _ (by omega)
  have hd : (xs.drop (i * q)).length = n * q - i * q := by rw [List.length_drop, hxl]
  have b1 : i * q + ys.length ≤ cur.size := by rw [hs, hy]; omega
  have s1 := over_size b1
  have b2 : (i + 1) * q + (xs.drop (i * q)).length ≤ (over cur (i * q) ys).size := by rw [s1, hd, hs]; omega
  refine ⟨by rw [over_size b2, s1, hs], ?_⟩
  have ht : (xs.take (i * q)).length = i * q := by rw [List.length_take]; omega
  apply List.ext_getElem?
  intro j
  by_cases hj : j < (n + 1) * q
  · rw [List.getElem?_take_of_lt hj, over_get b2, List.append_assoc]
    by_cases h1 : j < i * q
    · rw [if_pos (by omega), over_get b1, if_pos h1, List.getElem?_append_left (by omega), ← hx, List.getElem?_take_of_lt h1]
    · rw [List.getElem?_append_right (by omega), ht]
      by_cases h2 : j < i * q + ys.length
      · rw [if_pos (by omega), over_get b1, if_neg h1, if_pos h2, List.getElem?_append_left (by omega)]
      · rw [if_neg (by omega), if_pos (by omega), List.getElem?_append_right (by omega)]
        congr 1
        omega
  · rw [List.getElem?_eq_none (by rw [List.length_take]; omega), List.getElem?_eq_none]
    simp only [List.length_append, ht, hy, hd]
    omega

/-- A world in which one block alone is another row. -/
theorem grown_of_row {w w' : World} {g : Nat} {cur cur' : Array Value} {t : TypeId} (hw : w.heap[g]? = some (.cells cur t (0, 0))) (he : w' = w.setRow g cur' ∨ w' = w.drew.setRow g cur' ∨ w' = (w.setRow g cur').drew ∨ w' = (w.drew.setRow g cur').drew) :
    w.grownBy w' (some g) ∧ w'.heap[g]? = some (.cells cur' t (0, 0)) := by
  have hs : (w.setRow g cur').heap.size = w.heap.size := by simp [World.setRow]
  have hb : ∀ k, k < w.heap.size → some k ≠ some g → (w.setRow g cur').heap[k]? = w.heap[k]? := fun k _ hk => setRow_other _ _ _ _ (fun e => hk (by rw [e]))
  have hh := setRow_heap w g cur cur' t (0, 0) hw
  rcases he with e | e | e | e <;> subst e <;> exact ⟨⟨rfl, rfl, rfl, Nat.le_of_eq hs.symm, hb⟩, hh⟩

theorem cell_row {w : World} {g : Nat} {cur : Array Value} {t : TypeId} (h : w.heap[g]? = some (.cells cur t (0, 0))) {o : Nat} {cs : List Value} (hc : ∀ j v, cs[j]? = some v → cur.toList[o + j]? = some v) : ∀ j v, cs[j]? = some v → w.cell? ((⟨g, o, none⟩ : Addr).add j) = some v := fun j v hj => by
  rw [Go.WideShapes.add_plain, cell_of h]
  simpa using hc j v hj

end Go.Proofs.YtfmkhogpnnobeaaGreatDoor

/- Go's slices.Insert of one element into a list of texts that a call owns: in its place where there is room, else in a new row. -/
namespace Go.Proofs.YtfmkhogpnnobeaaGreatDoor
open Go Go.RowKit

set_option maxRecDepth 100000 in
set_option maxHeartbeats 4000000 in
theorem insert_string_end (w : World) (base : Nat) (v : Value) (n : Nat) (xs ys : List Value) (hown : w.ownsRow base 9 1 v n xs) (hn : n ≤ 1048576) (vb : Nat) (tv : TypeId) (hvb : w.heap[vb]? = some (.cells ys.toArray tv (0, 0))) (hy : ys.length = 1) (h1y : ∀ u ∈ ys, u.oneCell' = true) (hbase : base ≤ w.heap.size) :
    Calls Tryz.prog 138 #[v, .int .i64 n, .slice (some ⟨vb, 0, none⟩) 1 1] w fun e w' => ∃ g cap, e = .returned (.slice (some ⟨g, 0, none⟩) (n + 1) cap) ∧ w'.ownsRow base 9 1 (.slice (some ⟨g, 0, none⟩) (n + 1) cap) (n + 1) (xs ++ ys) ∧ w.grownBy w' v.ownBlock ∧ (v.ownBlock = some g ∨ g = w.heap.size) := by
  obtain ⟨i0, hi0, hz0, hz1, hz2⟩ := info_parts info_string
  have HOwn := Lib.hid hown
  obtain ⟨o, c, rfl, hc⟩ : ∃ o c, v = .slice o n c ∧ n ≤ c := by
    rcases hown.2 with ⟨rfl, rfl⟩ | ⟨g, cap, cur, rfl, -, -, h, -⟩
    · exact ⟨none, 0, rfl, Nat.le_refl _⟩
    · exact ⟨_, _, rfl, h⟩
  clear hown
  generalize hOB : (Value.slice o n c).ownBlock = OB
  have HB := Lib.hid hOB
  clear hOB
  go_enter Tryz.func138, Tryz.ntmps138
  go_wp2_with (first
    | (at_builtin; refine wpList_append_lies _ rfl _ _ 29 rfl base 9 i0 _ 1 16 Tryz.underlying29 hi0 hz0 hz1 hz2 rfl (by decide) (.slice o n c) n xs rfl HOwn.out ⟨vb, 0, none⟩ 1 1 ys rfl (by rw [hy]) (World.news_of_block hvb) h1y (by omega) (by unfold maxLen; omega) (by omega) hbase w.heap.size rfl ?_; intro g cap' w3 hown3 hgrow hat hltg; rw [HB.out] at hgrow hat; have H3 := Lib.hid (And.intro hown3 (And.intro hgrow hat)); clear hown3 hgrow hat hltg)
    | fail)
  all_goals go_ret
  all_goals exact ⟨_, _, rfl, H3.out⟩

set_option maxRecDepth 100000 in
set_option maxHeartbeats 4000000 in
theorem insert_string_shift (w : World) (g cap n i : Nat) (cur : Array Value) (xs ys : List Value) (hg : w.heap[g]? = some (.cells cur 9 (0, 0))) (hsz : cur.size = cap * 1) (hx : cur.toList.take (n * 1) = xs) (h1x : ∀ u ∈ xs, u.oneCell' = true)
    (hi : i < n) (hroom : n + 1 ≤ cap) (hcap : cap ≤ maxLen) (vb : Nat) (tv : TypeId) (hvb : w.heap[vb]? = some (.cells ys.toArray tv (0, 0))) (hy : ys.length = 1) (h1y : ∀ u ∈ ys, u.oneCell' = true) (hne : vb ≠ g) :
    Calls Tryz.prog 138 #[.slice (some ⟨g, 0, none⟩) n cap, .int .i64 i, .slice (some ⟨vb, 0, none⟩) 1 1] w fun e w' => e = .returned (.slice (some ⟨g, 0, none⟩) (n + 1) cap) ∧ w.grownBy w' (some g) ∧ w'.heap[g]? = some (.cells (over (over cur ((i + 1) * 1) (xs.drop (i * 1))) (i * 1) ys) 9 (0, 0)) := by
  have e4 : i * 1 ≤ n * 1 := Nat.mul_le_mul_right _ (by omega)
  have e3 : (n + 1) * 1 ≤ cap * 1 := Nat.mul_le_mul_right _ hroom
  have hxl : xs.length = n * 1 := by rw [← hx, List.length_take]; simp; omega
  have hd : (xs.drop (i * 1)).length = n * 1 - i * 1 := by rw [List.length_drop, hxl]
  have hsize : (Tryz.prog.info? 9).map (·.size) = some 1 := by
    obtain ⟨i0, hi0, hz0, hz1, hz2⟩ := info_parts info_string
    rw [hi0]; simp [hz1]
  have hzz : ∀ w, (Go.sizeOf 9).run Tryz.prog w = .ok 1 w := fun w => by
    obtain ⟨i0, hi0, hz0, hz1, hz2⟩ := info_parts info_string
    simp [Go.sizeOf, typeInfo, hi0, hz1]
  have hov : ∀ o lb cb, (callFunc 164 #[.slice (some ⟨vb, 0, none⟩) 1 1, .slice (some ⟨g, o, none⟩) lb cb]).run Tryz.prog w = .ok (.value (.bool false)) w := fun o lb cb => by
    rw [run_callFunc_extern Tryz.func164 (by kernel_rfl) (by kernel_rfl) (by kernel_rfl) (e := Extern.SlicesOverlaps.overlaps #[29, 29] #[4]) (by kernel_rfl),
      Lib.run_overlaps_apart w 29 4 9 Tryz.underlying29 1 hzz ⟨vb, 0, none⟩ ⟨g, o, none⟩ 1 1 lb cb hne tv 9 ys.toArray.size cur.size (by simp [World.shape?, hvb]) (by simp [World.shape?, hg]) (by omega) (by simp [World.frozen?, hvb]) (by simp [World.frozen?, hvb])]
    rfl
  have HOv := Lib.hid hov
  have hcp1 : ∀ ty o1 dl dc o0 sl sc, o1 = (i + 1) * 1 → o0 = i * 1 → dl = n - i → sl = n + 1 - i → (Builtin.copy_ #[29, 29] ty #[.slice (some ⟨g, o1, none⟩) dl dc, .slice (some ⟨g, o0, none⟩) sl sc]).run Tryz.prog w.drew = .ok (goInt (Nat.min (n + 1 - i) (n - i))) (w.drew.setRow g (over cur ((i + 1) * 1) (xs.drop (i * 1)))) := fun ty o1 dl dc o0 sl sc g1 g0 e1 e2 => by
    subst e1 e2 g1 g0
    have h := run_copy_rowq Tryz.prog w.drew 29 29 ty 9 g ((i + 1) * 1) (n - i) dc ⟨g, i * 1, none⟩ (n + 1 - i) sc 1 cur 9 (xs.drop (i * 1)) Tryz.underlying29 hsize hg (by rw [hd]; have : Nat.min (n + 1 - i) (n - i) = n - i := Nat.min_eq_right (by omega); rw [this]; omega)
      (cell_row hg fun j v hj => by rw [List.getElem?_drop] at hj; rw [← hx, List.getElem?_take] at hj; split at hj; exact hj; cases hj) (by rw [hd, hsz]; omega) (fun v hv => h1x v (List.mem_of_mem_drop hv))
    exact h
  have HC1 := Lib.hid hcp1
  have hr1 := grown_of_row (cur' := over cur ((i + 1) * 1) (xs.drop (i * 1))) hg (.inr (.inl rfl))
  have hs1 : (over cur ((i + 1) * 1) (xs.drop (i * 1))).size = cap * 1 := by rw [over_size (by rw [hd, hsz]; omega), hsz]
  have hv1 : (w.drew.setRow g (over cur ((i + 1) * 1) (xs.drop (i * 1)))).heap[vb]? = some (.cells ys.toArray tv (0, 0)) := (setRow_other _ _ _ _ hne).trans hvb
  have hcp2 : ∀ ty o0 dl dc, o0 = i * 1 → dl = n + 1 - i → (Builtin.copy_ #[29, 29] ty #[.slice (some ⟨g, o0, none⟩) dl dc, .slice (some ⟨vb, 0, none⟩) 1 1]).run Tryz.prog (w.drew.setRow g (over cur ((i + 1) * 1) (xs.drop (i * 1)))) = .ok (goInt (Nat.min 1 (n + 1 - i))) ((w.drew.setRow g (over cur ((i + 1) * 1) (xs.drop (i * 1)))).setRow g (over (over cur ((i + 1) * 1) (xs.drop (i * 1))) (i * 1) ys)) := fun ty o0 dl dc g0 e1 => by
    subst e1 g0
    have h := run_copy_rowq Tryz.prog (w.drew.setRow g (over cur ((i + 1) * 1) (xs.drop (i * 1)))) 29 29 ty 9 g (i * 1) (n + 1 - i) dc ⟨vb, 0, none⟩ 1 1 1 _ 9 ys Tryz.underlying29 hsize hr1.2 (by rw [hy]; have : Nat.min 1 (n + 1 - i) = 1 := Nat.min_eq_left (by omega); rw [this])
      (World.news_of_block hv1) (by rw [hs1, hy]; omega) h1y
    exact h
  have HC2 := Lib.hid hcp2
  have HE := Lib.hid (show w.grownBy ((w.drew.setRow g (over cur ((i + 1) * 1) (xs.drop (i * 1)))).setRow g (over (over cur ((i + 1) * 1) (xs.drop (i * 1))) (i * 1) ys)) (some g) ∧ ((w.drew.setRow g (over cur ((i + 1) * 1) (xs.drop (i * 1)))).setRow g (over (over cur ((i + 1) * 1) (xs.drop (i * 1))) (i * 1) ys)).heap[g]? = some (.cells (over (over cur ((i + 1) * 1) (xs.drop (i * 1))) (i * 1) ys) 9 (0, 0)) by
    rw [setRow_setRow]; exact grown_of_row hg (.inr (.inl rfl)))
  generalize over (over cur ((i + 1) * 1) (xs.drop (i * 1))) (i * 1) ys = R2 at *
  generalize over cur ((i + 1) * 1) (xs.drop (i * 1)) = R1 at *
  unfold maxLen at hcap
  have hb2 : ¬ (cap = i + 1) := by omega
  have hb4 : ¬ (cap = i) := by omega
  clear e4 e3 hd hsize hzz hov hx hxl h1x h1y hy hvb hsz hg hcp1 hcp2 hr1 hs1 hv1
  go_enter Tryz.func138, Tryz.ntmps138
  go_wp2_with fail
  rw [HOv.out]
  go_wp2_with fail
  have hw1 : IntKind.i64.wrap ((i : Int) + 1) = (i : Int) + 1 := by rw [IntKind.wrap_i64]; omega
  have hb1 : (0 : Int) ≤ (i : Int) + 1 := by omega
  have hin : i ≤ n := by omega
  have htn : ((i : Int) + 1).toNat = i + 1 := by omega
  have hb3 : (i : Int) ≤ (n : Int) + 1 := by omega
  have hb5 : (i : Int) + 1 ≤ (n : Int) + 1 := by omega
  go_region_law (refine Go.Proofs.step_copy_runI (by rfl) _ _ 29 29 (by rfl) (.slice (some ⟨g, i + 1, none⟩) (n - i) (cap - (i + 1))) (.slice (some ⟨g, i, none⟩) (n + 1 - i) (cap - i)) (by simp [Act.eval, Act.put]) (by simp [Act.eval, Act.put]) (HC1.out _ _ _ _ _ _ _ (by omega) (by omega) rfl rfl) ?_)
  all_goals clear hw1 htn
  all_goals go_wp2_with fail
  all_goals rw [HC2.out _ _ _ _ (by omega) rfl]
  all_goals go_wp2
  all_goals go_ret
  all_goals exact ⟨rfl, HE.out⟩

set_option maxRecDepth 100000 in
set_option maxHeartbeats 4000000 in
theorem insert_string_grow (w : World) (g cap n i : Nat) (cur : Array Value) (xs ys : List Value) (hg : w.heap[g]? = some (.cells cur 9 (0, 0))) (hsz : cur.size = cap * 1) (hx : cur.toList.take (n * 1) = xs) (h1x : ∀ u ∈ xs, u.oneCell' = true)
    (hi : i < n) (hnc : n ≤ cap) (hroom : cap < n + 1) (hn : n ≤ 1048576) (vb : Nat) (tv : TypeId) (hvb : w.heap[vb]? = some (.cells ys.toArray tv (0, 0))) (hy : ys.length = 1) (h1y : ∀ u ∈ ys, u.oneCell' = true) :
    Calls Tryz.prog 138 #[.slice (some ⟨g, 0, none⟩) n cap, .int .i64 i, .slice (some ⟨vb, 0, none⟩) 1 1] w fun e w' => ∃ cap', e = .returned (.slice (some ⟨w.heap.size, 0, none⟩) (n + 1) cap') ∧ w.grownBy w' none ∧ n + 1 ≤ cap' ∧ cap' ≤ maxLen ∧ ∃ row, row.size = cap' * 1 ∧ row.toList.take ((n + 1) * 1) = xs.take (i * 1) ++ ys ++ xs.drop (i * 1) ∧ w'.heap[w.heap.size]? = some (.cells row 9 (0, 0)) := by
  have e4 : i * 1 ≤ n * 1 := Nat.mul_le_mul_right _ (by omega)
  have e3 : n * 1 ≤ cap * 1 := Nat.mul_le_mul_right _ hnc
  have hxl : xs.length = n * 1 := by rw [← hx, List.length_take]; simp; omega
  have hd : (xs.drop (i * 1)).length = n * 1 - i * 1 := by rw [List.length_drop, hxl]
  have htl : (xs.take (i * 1)).length = i * 1 := by rw [List.length_take, hxl]; omega
  obtain ⟨i0, hi0, hz0, hz1, hz2⟩ := info_parts info_string
  have hsize : (Tryz.prog.info? 9).map (·.size) = some 1 := by rw [hi0]; simp [hz1]
  have hgl : g < w.heap.size := (Array.getElem?_eq_some_iff.1 hg).1
  have hvl : vb < w.heap.size := (Array.getElem?_eq_some_iff.1 hvb).1
  have hold : (Builtin.firstCells i0.size i (.slice (some ⟨g, 0, none⟩) i cap)).run Tryz.prog w.drew = .ok (xs.take (i * 1)).toArray w.drew := by
    rw [hz1]
    exact run_firstCells_some w.drew 1 i ⟨g, 0, none⟩ i cap (xs.take (i * 1)) htl (fun j v hj => by
      refine cell_row (w := w.drew) hg (o := 0) (cs := xs) (fun j v hj => ?_) j v ?_
      · rw [← hx, List.getElem?_take] at hj
        split at hj
        · rw [Nat.zero_add]; exact hj
        · cases hj
      · rw [List.getElem?_take] at hj
        split at hj
        · exact hj
        · cases hj)
  have hik : i + (n + 1 - i) = n + 1 := by omega
  have hkk : (n : Int) + 1 - (i : Int) = ((n + 1 - i : Nat) : Int) := by omega
  have hG1 := grownCap_ge w (n + 1) cap 9
  have hG2 := grownCap_le_maxLen w (n + 1) cap 9 (by unfold maxLen; omega)
  have hrz : ∀ ty, ∃ row0 : Array Value, row0.size = grownCap w (n + 1) cap 9 * 1 ∧ row0.toList.take (i * 1) = xs.take (i * 1) ∧ (Builtin.append_ #[29, 3] ty #[.slice (some ⟨g, 0, none⟩) i cap, .int .i64 ((n : Int) + 1 - (i : Int))]).run Tryz.prog w =
      .ok (.slice (some ⟨w.heap.size, 0, none⟩) (n + 1) (grownCap w (n + 1) cap 9)) (w.drew.alloc (.cells row0 9)) := fun ty => by
    have h := Lib.run_append_grow_zeros w 29 3 ty 9 i0 _ .i64 .i64 Tryz.underlying29 Tryz.underlying3 hi0 hz0 (some ⟨g, 0, none⟩) i cap (xs.take (i * 1)) hold (n + 1 - i) (by omega) (by omega) (by omega) (by omega) (by rw [hz2]; omega) (by rw [hz2, hik]; exact growslice_fits hroom (by omega))
    rw [hik] at h
    rw [hkk]
    refine ⟨_, ?_, ?_, h⟩
    · have h1 : (xs.take (i * 1)).toArray.size = i * 1 := by rw [List.size_toArray, htl]
      simp only [Array.size_append, h1]
      simp [Builtin.zeroCells, Value.cells]
      omega
    · rw [Array.toList_append, Array.toList_append, List.append_assoc, List.take_append_of_le_length (by show _ ≤ (xs.take (i * 1)).length; rw [htl]; exact Nat.le_refl _)]
      simp only [List.take_take, Nat.min_self]
  obtain ⟨row0, hr0, hr1, hrun⟩ := hrz 29
  have HRun := Lib.hid hrun
  generalize grownCap w (n + 1) cap 9 = G at *
  have e5 : (n + 1) * 1 ≤ G * 1 := Nat.mul_le_mul_right _ hG1
  have hb2 : ¬ (G = i + 1) := by omega
  have hb4 : ¬ (G = i) := by omega
  have hb6 : ¬ (cap = i) := by omega
  have hs1 : (over row0 (i * 1) ys).size = G * 1 := by rw [over_size (by rw [hr0, hy]; omega), hr0]
  have HA : Hid (∀ (W : World), W.heap[w.heap.size]? = some (.cells row0 9 (0, 0)) → W.heap[vb]? = some (.cells ys.toArray tv (0, 0)) → ∀ ty o0 dl dc, o0 = i * 1 → dl = n + 1 - i → (Builtin.copy_ #[29, 29] ty #[.slice (some ⟨w.heap.size, o0, none⟩) dl dc, .slice (some ⟨vb, 0, none⟩) 1 1]).run Tryz.prog W = .ok (goInt (Nat.min 1 (n + 1 - i))) (W.setRow w.heap.size (over row0 (i * 1) ys))) := fun W hW hWv ty o0 dl dc g0 e1 => by
    subst g0 e1
    exact run_copy_rowq Tryz.prog W 29 29 ty 9 w.heap.size (i * 1) (n + 1 - i) dc ⟨vb, 0, none⟩ 1 1 1 row0 9 ys Tryz.underlying29 hsize hW (by rw [hy]; have : Nat.min 1 (n + 1 - i) = 1 := Nat.min_eq_left (by omega); rw [this]) (World.news_of_block hWv) (by rw [hr0, hy]; omega) h1y
  have HB : Hid (∀ (W : World), W.heap[w.heap.size]? = some (.cells (over row0 (i * 1) ys) 9 (0, 0)) → W.heap[g]? = some (.cells cur 9 (0, 0)) → ∀ ty o1 dl dc o0 sl sc, o1 = (i + 1) * 1 → o0 = i * 1 → dl = n - i → sl = n - i → (Builtin.copy_ #[29, 29] ty #[.slice (some ⟨w.heap.size, o1, none⟩) dl dc, .slice (some ⟨g, o0, none⟩) sl sc]).run Tryz.prog W = .ok (goInt (Nat.min (n - i) (n - i))) (W.setRow w.heap.size (over (over row0 (i * 1) ys) ((i + 1) * 1) (xs.drop (i * 1))))) := fun W hW hWg ty o1 dl dc o0 sl sc g1 g0 e1 e2 => by
    subst g1 g0 e1 e2
    exact run_copy_rowq Tryz.prog W 29 29 ty 9 w.heap.size ((i + 1) * 1) (n - i) dc ⟨g, i * 1, none⟩ (n - i) sc 1 _ 9 (xs.drop (i * 1)) Tryz.underlying29 hsize hW (by rw [hd]; have : Nat.min (n - i) (n - i) = n - i := Nat.min_self _; rw [this]; omega)
      (cell_row hWg fun j v hj => by rw [List.getElem?_drop] at hj; rw [← hx, List.getElem?_take] at hj; split at hj; exact hj; cases hj) (by rw [hd, hs1]; omega) (fun v hv => h1x v (List.mem_of_mem_drop hv))
  have HF := Lib.hid (fresh_row hr1 hxl hr0 hi hG1 hy)
  have HW : Hid (w.drew.heap[g]? = some (.cells cur 9 (0, 0)) ∧ w.drew.heap[vb]? = some (.cells ys.toArray tv (0, 0)) ∧ g < w.drew.heap.size ∧ vb < w.drew.heap.size) := ⟨hg, hvb, hgl, hvl⟩
  have HG2 := Lib.hid hG2
  generalize over (over row0 (i * 1) ys) ((i + 1) * 1) (xs.drop (i * 1)) = R2 at *
  generalize over row0 (i * 1) ys = R1 at *
  unfold maxLen at hG2
  clear e4 e3 e5 hd hx hxl htl hvb hsz hg hold hik hkk hz0 hz1 hz2 hi0 hrz hsize hgl hvl hrun hs1 hr0 hr1 h1x h1y hy
  go_enter Tryz.func138, Tryz.ntmps138
  go_wp2_with (at_builtin; refine Lib.wpList_append_run _ rfl _ _ 29 3 rfl (.slice (some ⟨g, 0, none⟩) i cap) (.int .i64 ((n : Int) + 1 - (i : Int))) rfl rfl _ _ HRun.out ?_)
  have a1 : (w.alloc (.cells row0 9)).drew.heap[w.heap.size]? = some (.cells row0 9 (0, 0)) := heap_last w _
  have a2 : (w.alloc (.cells row0 9)).drew.heap[vb]? = some (.cells ys.toArray tv (0, 0)) := (Below.heap_alloc w _ _ HW.out.2.2.2).trans HW.out.2.1
  have a3 : (w.alloc (.cells row0 9)).drew.heap[g]? = some (.cells cur 9 (0, 0)) := (Below.heap_alloc w _ _ HW.out.2.2.1).trans HW.out.1
  rw [HA.out _ a1 a2 _ _ _ _ (by omega) rfl]
  have b1 := setRow_heap _ _ _ R1 _ _ a1
  have b3 := (setRow_other (w.alloc (.cells row0 9)).drew w.heap.size g R1 (by have := HW.out.2.2.1; exact Nat.ne_of_lt this)).trans a3
  have b4 : w.grownBy ((w.alloc (.cells row0 9)).drew.setRow w.heap.size R1) none := ⟨rfl, rfl, rfl, by simp [World.setRow], fun k hk _ => (setRow_other _ _ _ _ (Nat.ne_of_lt hk)).trans (Below.heap_alloc w _ _ hk)⟩
  have b5 : w.heap.size < ((w.alloc (.cells row0 9)).drew.setRow w.heap.size R1).heap.size := by simp [World.setRow]
  have HB1 := Lib.hid (And.intro b1 (And.intro b3 (And.intro b4 b5)))
  clear a1 a2 a3 b1 b3 b4 b5 HA HW HRun
  generalize (w.alloc (.cells row0 9)).drew.setRow w.heap.size R1 = W2 at *
  go_wp2_with fail
  have hw1 : IntKind.i64.wrap ((i : Int) + 1) = (i : Int) + 1 := by rw [IntKind.wrap_i64]; omega
  have hb1 : (0 : Int) ≤ (i : Int) + 1 := by omega
  have hin : i ≤ n := by omega
  have htn : ((i : Int) + 1).toNat = i + 1 := by omega
  have hb3 : (i : Int) ≤ (n : Int) + 1 := by omega
  have hb5 : (i : Int) + 1 ≤ (n : Int) + 1 := by omega
  go_region_law (refine Go.Proofs.step_copy_runI (by rfl) _ _ 29 29 (by rfl) (.slice (some ⟨w.heap.size, i + 1, none⟩) (n - i) (G - (i + 1))) (.slice (some ⟨g, i, none⟩) (n - i) (cap - i)) (by simp [Act.eval, Act.put]) (by simp [Act.eval, Act.put]) (HB.out W2.drew HB1.out.1 HB1.out.2.1 _ _ _ _ _ _ _ (by omega) (by omega) rfl rfl) ?_)
  all_goals clear hw1 htn
  all_goals go_wp2
  all_goals go_ret
  all_goals
    obtain ⟨b1, b3, b4, b5⟩ := HB1.out
    have h2 := setRow_heap W2.drew _ _ R2 _ _ b1
    refine ⟨G, rfl, ⟨b4.os, b4.tape, b4.output, Nat.le_trans b4.size (by simp [World.setRow]), fun k hk hn => (setRow_other W2.drew _ _ _ (Nat.ne_of_lt hk)).trans (b4.block k hk hn)⟩, hG1, HG2.out, R2, HF.out.1, HF.out.2, h2⟩

/-- One element is put into a list that a call owns. -/
theorem insert_string (w : World) (base : Nat) (v : Value) (n i : Nat) (xs ys : List Value) (hown : w.ownsRow base 9 1 v n xs) (h1x : ∀ u ∈ xs, u.oneCell' = true) (hi : i ≤ n) (hn : n ≤ 1048576) (vb : Nat) (tv : TypeId) (hvb : w.heap[vb]? = some (.cells ys.toArray tv (0, 0))) (hne : v.ownBlock ≠ some vb) (hy : ys.length = 1) (h1y : ∀ u ∈ ys, u.oneCell' = true) (hbase : base ≤ w.heap.size) :
    Calls Tryz.prog 138 #[v, .int .i64 i, .slice (some ⟨vb, 0, none⟩) 1 1] w fun e w' => ∃ g cap, e = .returned (.slice (some ⟨g, 0, none⟩) (n + 1) cap) ∧ w'.ownsRow base 9 1 (.slice (some ⟨g, 0, none⟩) (n + 1) cap) (n + 1) (xs.take (i * 1) ++ ys ++ xs.drop (i * 1)) ∧ w.grownBy w' v.ownBlock ∧ (v.ownBlock = some g ∨ g = w.heap.size) := by
  have hxl := hown.1
  by_cases hin : i = n
  · subst hin
    refine (insert_string_end w base v i xs ys hown hn vb tv hvb hy h1y hbase).mono ?_
    rintro e w' ⟨g, cap, rfl, h1, h2, h3⟩
    refine ⟨g, cap, rfl, ?_, h2, h3⟩
    rw [List.take_of_length_le (by omega), List.drop_eq_nil_of_le (by omega), List.append_nil]
    exact h1
  · rcases hown.2 with ⟨rfl, rfl⟩ | ⟨g, cap, cur, rfl, hb, hg, hnc, hcm, hsz, hx⟩
    · omega
    · have hil : i < n := by omega
      have hfin : (xs.take (i * 1) ++ ys ++ xs.drop (i * 1)).length = (n + 1) * 1 := by
        simp only [List.length_append, List.length_take, List.length_drop]
        omega
      by_cases hroom : n + 1 ≤ cap
      · refine (insert_string_shift w g cap n i cur xs ys hg hsz hx h1x hil hroom hcm vb tv hvb hy h1y (fun e => hne (by rw [e]; rfl))).mono ?_
        rintro e w' ⟨rfl, h1, h2⟩
        have hr := shift_row hx hxl hsz hil hroom hy
        exact ⟨g, cap, rfl, ⟨hfin, .inr ⟨g, cap, _, rfl, hb, h2, hroom, hcm, hr.1, hr.2⟩⟩, h1, .inl rfl⟩
      · refine (insert_string_grow w g cap n i cur xs ys hg hsz hx h1x hil hnc (by omega) hn vb tv hvb hy h1y).mono ?_
        rintro e w' ⟨cap', rfl, h1, h2, h3, row, h4, h5, h6⟩
        exact ⟨_, cap', rfl, ⟨hfin, .inr ⟨_, cap', row, rfl, hbase, h6, h2, h3, h4, h5⟩⟩, ⟨h1.os, h1.tape, h1.output, h1.size, fun k hk _ => h1.block k hk (by simp)⟩, .inr rfl⟩
end Go.Proofs.YtfmkhogpnnobeaaGreatDoor
