/-
  What is proved: the model's drawing of trees, so many within each other at most: what is drawn is small, and lies in memory of its own; nothing turns but the cursor.; the model's trees of a metric and of a pace: maps whose Keys ascend, in memory of their own; no condition.
-/
import Derived.Test.YtelpkcbbipianaaGreatPartAO
import Derived.Deep.DeepCutAuto
import Derived.Test.YtelpkcbbipianaaGreatPartAD
import Derived.Test.YtelpkcbbipianaaGreatPartAI
import Derived.Test.YtelpkcbbipianaaGreatPartAJ
/- the model's drawing of trees, so many within each other at most: what is drawn is small, and lies in memory of its own; nothing turns but the cursor. -/
namespace Go.Proofs.YtelpkcbbipianaaGreat
open Go Go.RowKit

/-- Where the drawing of a list or a map stands: its node in block B, the tree that it is by now. -/
structure DL (w wr : World) (p : Nat) (a : Option Addr) (len cap : Nat) (B : Nat) (T : RT) (kv dv : Value) (F : List Nat) : Prop where
  ds : DS w wr p a len cap
  out : wr.heap[B]? = some (.cells #[.int .i64 T.k, .int .i64 T.n, .string T.s, kv, dv] 27 (0, 0))
  big : w.heap.size < B
  lie : Lies wr T kv dv F
  fresh : Fresh w wr F
  far : ∀ y ∈ F, w.heap.size < y ∧ y ≠ B

section
variable {w wr w1 : World} {p : Nat} {a : Option Addr} {len cap : Nat} {B : Nat} {T : RT} {kv dv : Value} {F : List Nat}

theorem DL.lt (h : DL w wr p a len cap B T kv dv F) : B < wr.heap.size := (Array.getElem?_eq_some_iff.1 h.out).1

theorem DL.start (h : DS w wr p a len cap) (k : Int) (hk : Fit k) :
    DL w (wr.alloc (.cells #[.int .i64 k, .int .i64 0, .string ⟨#[]⟩, .slice none 0 0, .slice none 0 0] 27)) p a len cap wr.heap.size (.node k 0 ⟨#[]⟩ [] []) (.slice none 0 0) (.slice none 0 0) [] :=
  ⟨h.next ((Below.refl _ wr).alloc (Nat.le_refl _) _), heap_last wr _, h.lt, leaf_lies _ hk ⟨by decide, by decide⟩ (by decide), Fresh.nil _ _, fun y hy => absurd hy (by simp)⟩

theorem DL.draw (h : DL w wr p a len cap B T kv dv F) (hp : p < w.heap.size) (hc : Cur w1 p a len cap) (hg : wr.grownBy w1 (some p)) : DL w w1 p a len cap B T kv dv F := by
  have keep : ∀ y, w.heap.size ≤ y → y < wr.heap.size → w1.heap[y]? = wr.heap[y]? := fun y hy hlt => hg.block y hlt (fun e => by injection e with e; omega)
  exact ⟨h.ds.draw hp hc hg, (keep B (Nat.le_of_lt h.big) h.lt).trans h.out, h.big, h.lie.carry fun y hy => keep y (Nat.le_of_lt (h.far y hy).1) (h.lie.lt y hy), h.fresh.carry fun y hy => keep y (Nat.le_of_lt (h.far y hy).1) (h.lie.lt y hy), h.far⟩

theorem DL.next (h : DL w wr p a len cap B T kv dv F) (hb : Below wr.heap.size wr w1) : DL w w1 p a len cap B T kv dv F :=
  ⟨h.ds.next hb, (hb.block _ h.lt).trans h.out, h.big, h.lie.stay hb (Nat.le_refl _), h.fresh.carry fun y hy => hb.block y (h.lie.lt y hy), h.far⟩

/-- The node has become another one, whose lists lie elsewhere. -/
theorem DL.put (h : DL w wr p a len cap B T kv dv F) (h0 : Cur w p a len cap) {R : RT} {kr dr : Value} {G : List Nat} (hl : Lies wr R kr dr G) (hf : Fresh w wr G) (hfar : ∀ y ∈ G, w.heap.size < y ∧ y ≠ B) :
    DL w (set5 wr B 0 (.int .i64 R.k) (.int .i64 R.n) (.string R.s) kr dr) p a len cap B R kr dr G := by
  have keep : ∀ y, y ≠ B → (set5 wr B 0 (.int .i64 R.k) (.int .i64 R.n) (.string R.s) kr dr).heap[y]? = wr.heap[y]? := fun y hy => set5_other _ _ _ _ _ _ _ _ _ hy
  exact ⟨⟨h.ds.cur.put (by have := h0.lt; have := h.big; omega) (apart_size h0 (Nat.le_of_lt h.big)) _ _ _ _ _, grown_put h.ds.grown (Nat.le_of_lt h.big) _ _ _ _ _, (keep _ (by have := h.big; omega)).trans h.ds.res⟩, set5_end h.out _ _ _ _ _, h.big, hl.carry fun y hy => keep y (hfar y hy).2, hf.carry fun y hy => keep y (hfar y hy).2, hfar⟩
end

theorem Cur.but {w wr w1 : World} {p : Nat} {a : Option Addr} {len cap : Nat} {G : List Nat} (h : Cur wr p a len cap) (h0 : Cur w p a len cap) (hb : But G wr w1) (hG : ∀ y ∈ G, w.heap.size ≤ y) : Cur w1 p a len cap := by
  obtain ⟨i, x, hi, hc⟩ := h.cur
  have hp := h0.lt
  refine ⟨⟨i, x, hi, (hb.block p h.lt (fun hx => by have := hG p hx; omega)).trans hc⟩, ?_, h.apart⟩
  obtain ⟨hl, h1 | ⟨b, off, rfl, hlt, hcc⟩⟩ := h.code
  · exact ⟨hl, .inl h1⟩
  · obtain ⟨-, h1 | ⟨b', off', e, hlt', -⟩⟩ := h0.code
    · exact ⟨hl, .inl h1⟩
    injection e with e
    injection e with e1 e2
    subst e1
    refine ⟨hl, .inr ⟨b, off, rfl, Nat.lt_of_lt_of_le hlt hb.size, fun j hj => ?_⟩⟩
    obtain ⟨z, hz, hcell⟩ := hcc j hj
    exact ⟨z, hz, (hb.cell hlt (fun hx => by have := hG b hx; omega) _).trans hcell⟩

theorem grown_but {w wr w1 : World} {p : Nat} {G : List Nat} (h : w.grownBy wr (some p)) (hb : But G wr w1) (hG : ∀ y ∈ G, w.heap.size ≤ y) : w.grownBy w1 (some p) :=
  ⟨hb.os.trans h.os, hb.tape.trans h.tape, hb.output.trans h.output, Nat.le_trans h.size hb.size, fun k hk hne => (hb.block k (Nat.lt_of_lt_of_le hk h.size) (fun hx => by have := hG k hx; omega)).trans (h.block k hk hne)⟩

/-- One tree more in its list. -/
theorem DL.app {w wr w1 : World} {p : Nat} {a : Option Addr} {len cap : Nat} {B : Nat} {T : RT} {kv dv : Value} {FK FD : List Nat} (h : DL w wr p a len cap B T kv dv (FK ++ FD)) (h0 : Cur w p a len cap) (hK : StrsAt wr kv T.keys FK) (hb : But FD wr w1) {v' : Value} {X : RT} {F2 : List Nat} (hk : KidsLie w1 v' (T.kids ++ [X]) F2) (hf : Fresh w w1 F2) (hm : ∀ y ∈ F2, y ∈ FD ∨ (y ∉ FK ∧ y ≠ B ∧ w.heap.size < y)) :
    w1.heap[B]? = some (.cells #[.int .i64 T.k, .int .i64 T.n, .string T.s, kv, dv] 27 (0, 0)) ∧ DL w (w1.setCell ⟨B, 4, none⟩ v') p a len cap B (.node T.k T.n T.s T.keys (T.kids ++ [X])) kv v' (FK ++ F2) := by
  have hBD : B ∉ FD := fun hx => (h.far B (List.mem_append_right _ hx)).2 rfl
  have hKD := nodup_of h.fresh.nodup
  have hG : ∀ y ∈ FD, w.heap.size ≤ y := fun y hy => Nat.le_of_lt (h.far y (List.mem_append_right _ hy)).1
  have hout := (hb.block B h.lt hBD).trans h.out
  have hK1 := hK.carry (w' := w1) fun y hy => hb.block y (hK.lt y hy) (hKD y hy)
  have keep : ∀ y, y ≠ B → (w1.setCell ⟨B, 4, none⟩ v').heap[y]? = w1.heap[y]? := fun y hy => Below.heap_setCell _ _ _ _ hy
  have hfarK : ∀ y ∈ FK, w.heap.size < y ∧ y ≠ B := fun y hy => h.far y (List.mem_append_left _ hy)
  have hfar2 : ∀ y ∈ F2, w.heap.size < y ∧ y ≠ B := fun y hy => by
    rcases hm y hy with e | e
    · exact h.far y (List.mem_append_right _ e)
    · exact ⟨e.2.2, e.2.1⟩
  have hbS : But [B] w1 (w1.setCell ⟨B, 4, none⟩ v') := (But.refl [B] w1).set (p := ⟨B, 4, none⟩) (by simp) v'
  have hBG : ∀ y ∈ [B], w.heap.size ≤ y := fun y hy => by simp at hy; subst hy; exact Nat.le_of_lt h.big
  obtain ⟨f1, f2, f3, -⟩ := h.lie.out
  refine ⟨hout, ⟨((h.ds.cur.but h0 hb hG).but h0 hbS hBG), grown_but (grown_but h.ds.grown hb hG) hbS hBG, (keep _ (by have := h.big; omega)).trans ((hb.block _ h.ds.lt (fun hx => by have := (h.far _ (List.mem_append_right _ hx)).1; omega)).trans h.ds.res)⟩, heap_set hout 4 v', h.big, ?_, ⟨?_, fun y hy => ?_, fun y hy o => ?_⟩, fun y hy => ?_⟩
  · exact Lies.into f1 f2 f3 (hK1.carry fun y hy => keep y (hfarK y hy).2) (hk.carry fun y hy => keep y (hfar2 y hy).2)
  · refine List.nodup_append.2 ⟨(List.nodup_append.1 h.fresh.nodup).1, hf.nodup, fun x hx y hy e => ?_⟩
    subst e
    rcases hm x hy with e | e
    · exact hKD x hx e
    · exact e.1 hx
  · rcases List.mem_append.1 hy with hy | hy
    · exact Nat.le_of_lt (hfarK y hy).1
    · exact hf.old y hy
  · rw [frozen_set]
    rcases List.mem_append.1 hy with hy | hy
    · exact (hb.free y (hK.lt y hy) o).trans (h.fresh.free y (List.mem_append_left _ hy) o)
    · exact hf.free y hy o
  · rcases List.mem_append.1 hy with hy | hy
    · exact hfarK y hy
    · exact hfar2 y hy

/-- One tree more: as the program's words run. -/
theorem DL.more {w wr : World} {p : Nat} {a : Option Addr} {len cap : Nat} {B : Nat} {T : RT} {kv dv : Value} {F : List Nat} (h : DL w wr p a len cap B T kv dv F) (h0 : Cur w p a len cap) {X : RT} {kx dx : Value} {FX : List Nat} (hX : Lies wr X kx dx FX) (hfX : Fresh w wr FX) (hd : ∀ x ∈ FX, x ∉ F ∧ w.heap.size < x ∧ x ≠ B) (hn : T.kids.length ≤ 1048576) (ty : TypeId) :
    ∃ v' w', (Builtin.append_ #[25, 25] ty #[dv, .slice (some ⟨wr.heap.size, 0, none⟩) 1 1]).run Tryz.prog (wr.alloc (.cells #[.int .i64 X.k, .int .i64 X.n, .string X.s, kx, dx] 27)) = .ok v' w' ∧
      ∃ o' c' G, v' = .slice o' (T.kids.length + 1) c' ∧ w'.heap[B]? = some (.cells #[.int .i64 T.k, .int .i64 T.n, .string T.s, kv, dv] 27 (0, 0)) ∧
        DL w (w'.setCell ⟨B, 4, none⟩ (.slice o' (T.kids.length + 1) c')) p a len cap B (.node T.k T.n T.s T.keys (T.kids ++ [X])) kv (.slice o' (T.kids.length + 1) c') G := by
  obtain ⟨-, -, -, FK, FD, hK, hD, rfl⟩ := h.lie.out
  have hba := (Below.refl _ wr).alloc (Nat.le_refl _) (.cells #[.int .i64 X.k, .int .i64 X.n, .string X.s, kx, dx] 27)
  have h5 := h.next hba
  have hsz := h.ds.grown.size
  have hsz2 := hba.size
  have hBl := h.lt
  obtain ⟨v', w', hr, o', c', rfl, hb, F2, k1, k2, k3⟩ := append_kid (w := w) (hD.stay hba (Nat.le_refl _)) ⟨(List.nodup_append.1 h5.fresh.nodup).2.1, fun y hy => h5.fresh.old y (List.mem_append_right _ hy), fun y hy => h5.fresh.free y (List.mem_append_right _ hy)⟩ (hX.stay hba (Nat.le_refl _)) (hfX.carry fun y hy => hba.block y (hX.lt y hy)) (fun x hx hx' => (hd x hx).1 (List.mem_append_right _ hx')) (heap_last wr _) hn (by omega) ty
  obtain ⟨g1, g2⟩ := h5.app h0 (hK.stay hba (Nat.le_refl _)) hb k1 k2 (fun y hy => by
    rcases k3 y hy with e | e | e
    · exact .inl e
    · exact .inr ⟨fun hx => (hd y e).1 (List.mem_append_left _ hx), (hd y e).2.2, (hd y e).2.1⟩
    · exact .inr ⟨fun hx => by have := hK.lt y hx; omega, by omega, by have := h.big; omega⟩)
  exact ⟨_, w', hr, o', c', _, rfl, g1, g2⟩

theorem bnd_more {T X : RT} {d j : Nat} (hT : T.wz ≤ j * (bnd d + 30) + 21) (hX : X.wz ≤ bnd d) : (RT.node T.k T.n T.s T.keys (T.kids ++ [X])).wz ≤ (j + 1) * (bnd d + 30) + 21 := by
  have e : T.wz = 21 + 2 * T.s.size + (4 * T.keys.length + 2 * strSz T.keys) + (T.kids.length + wzAll T.kids) := by cases T; rfl
  rw [Nat.succ_mul]
  simp only [RT.wz, List.length_append, List.length_singleton, wzAll_append, wzAll]
  omega

theorem bnd_max {d : Nat} (h : d ≤ 3) : bnd d ≤ 10000 := by
  obtain rfl | rfl | rfl | rfl : d = 0 ∨ d = 1 ∨ d = 2 ∨ d = 3 := by omega
  all_goals decide

/-- How great the tree is behind so many rounds. -/
theorem bnd_step {T X : RT} {key : ByteArray} {d j : Nat} (hT : T.wz ≤ j * (bnd d + 30) + 21) (hX : X.wz ≤ bnd d) (hk : key.size ≤ 12) : (setT T key X).wz ≤ (j + 1) * (bnd d + 30) + 21 := by
  have := setT_wz T X key
  rw [Nat.succ_mul]
  omega

set_option maxRecDepth 100000 in
set_option maxHeartbeats 4000000 in
theorem draw_succ (d : Nat) (hd : d ≤ 3) (ih : DrawAt d) : DrawAt (d + 1) := fun a len cap p w hc => by
  have HC := Lib.hid hc
  have HD := Lib.hid (DS.start hc)
  have hp : Hid (p < w.heap.size) := hc.lt
  have HI := Lib.hid ih
  have hd0 : ¬ (((d + 1 : Nat) : Int) = 0) := by omega
  have hd1 : ((d + 1 : Nat) : Int) - 1 = (d : Int) := by omega
  clear hc ih
  generalize hdd : ((d + 1 : Nat) : Int) = dd at *
  have hdr : 0 < dd ∧ dd ≤ 4 := by omega
  clear hdd
  have t1 : True := trivial
  go_enter Tryz.func36, Tryz.ntmps36
  go_upto_region 4 with (first
    | (go_at_call 24; clear t1; refine (below_any 6 (by omega) (by omega) a len cap p _ HD.out.cur.cur HD.out.cur.code HD.out.cur.apart).mono ?_; rintro e w1 ⟨⟨r2, hr2, rfl⟩, hc1, ho1⟩; replace HD := Lib.hid (HD.out.draw hp.out (HD.out.cur.only hc1 ho1) ho1.grown); clear hc1 ho1)
    | fail)
  obtain ⟨z0, z1, z2, z3, z4, z5⟩ := five HD.out.res
  obtain hlo | hhi : r2 < 4 ∨ (r2 = 4 ∨ r2 = 5) := by omega
  · obtain rfl | rfl | rfl | rfl : r2 = 0 ∨ r2 = 1 ∨ r2 = 2 ∨ r2 = 3 := by omega
    · clear z0 z1 z2 z3 z4 z5
      obtain ⟨z0, z1, z2, z3, z4, z5⟩ := five HD.out.res
      have HE := Lib.hid (HD.out.fin HC.out (leaf_lies _ (k := 0) (n := 0) (s := ⟨#[]⟩) ⟨by decide, by decide⟩ ⟨by decide, by decide⟩ (by decide)) (Fresh.nil _ _) (by simp))
      go_wp2
      exact bodyPost_ret (ret_node Tryz.results36 rfl HE.out.1) rfl ⟨_, _, _, _, rfl, HE.out.2.1, HE.out.2.2.1, HE.out.2.2.2.1, HE.out.2.2.2.2, leaf_bnd _ _ _ (by decide) _⟩
    · clear z0 z1 z2 z3 z4 z5
      go_wp2_with (first
        | (go_at_call 35; refine (once_any 2 (by omega) (by omega) a len cap p _ HD.out.cur).mono ?_; rintro e w3 ⟨⟨b, rfl⟩, hc3, ho3⟩; replace HD := Lib.hid (HD.out.draw hp.out hc3 ho3.grown); clear hc3 ho3)
        | fail)
      obtain ⟨n, hn, HFl⟩ : ∃ n : Int, Fit n ∧ Hid (∀ w : World, Calls Tryz.prog 54 #[.bool b] w fun e w' => e = .returned (.agg #[.int .i64 1, .int .i64 n, .string ⟨#[]⟩, .slice none 0 0, .slice none 0 0]) ∧ Below w.heap.size w w') := by
        cases b
        · exact ⟨0, ⟨by decide, by decide⟩, fun w => spec_flagOf_false w⟩
        · exact ⟨1, ⟨by decide, by decide⟩, fun w => spec_flagOf_true w⟩
      refine (HFl.out _).mono ?_
      rintro e w4 ⟨rfl, hb4⟩
      replace HD := Lib.hid (HD.out.next hb4)
      clear hb4 HFl
      obtain ⟨z0, z1, z2, z3, z4, z5⟩ := five HD.out.res
      have HE := Lib.hid (HD.out.fin HC.out (leaf_lies _ (k := 1) (n := n) (s := ⟨#[]⟩) ⟨by decide, by decide⟩ hn (by decide)) (Fresh.nil _ _) (by simp))
      go_wp2
      exact bodyPost_ret (ret_node Tryz.results36 rfl HE.out.1) rfl ⟨_, _, _, _, rfl, HE.out.2.1, HE.out.2.2.1, HE.out.2.2.2.1, HE.out.2.2.2.2, leaf_bnd _ _ _ (by decide) _⟩
    · clear z0 z1 z2 z3 z4 z5
      go_wp2_with (first
        | (go_at_call 43; refine (pickInt_laid Fit [0, 7, -3, 1000, 1000000000000] _ rfl _ _ rfl (by decide) (by decide) (by unfold Fit; decide) a len cap p _ rfl HD.out.cur).mono ?_; rintro e w3 ⟨⟨n, hn, rfl⟩, hc3, hg3⟩; replace HD := Lib.hid (HD.out.draw hp.out hc3 hg3); clear hc3 hg3)
        | fail)
      refine (spec_intOf _ _).mono ?_
      rintro e w4 ⟨rfl, hb4⟩
      replace HD := Lib.hid (HD.out.next hb4)
      clear hb4
      obtain ⟨z0, z1, z2, z3, z4, z5⟩ := five HD.out.res
      have HE := Lib.hid (HD.out.fin HC.out (leaf_lies _ (k := 2) (n := n) (s := ⟨#[]⟩) ⟨by decide, by decide⟩ hn (by decide)) (Fresh.nil _ _) (by simp))
      go_wp2
      exact bodyPost_ret (ret_node Tryz.results36 rfl HE.out.1) rfl ⟨_, _, _, _, rfl, HE.out.2.1, HE.out.2.2.1, HE.out.2.2.2.1, HE.out.2.2.2.2, leaf_bnd _ _ _ (by decide) _⟩
    · clear z0 z1 z2 z3 z4 z5
      go_wp2_with (first
        | (go_at_call 57; refine (drawText_any a len cap p _ HD.out.cur).mono ?_; rintro e w3 ⟨⟨s, hs, rfl⟩, hc3, hg3⟩; replace HD := Lib.hid (HD.out.draw hp.out hc3 hg3); clear hc3 hg3)
        | fail)
      refine (spec_textOf _ _).mono ?_
      rintro e w4 ⟨rfl, hb4⟩
      replace HD := Lib.hid (HD.out.next hb4)
      clear hb4
      obtain ⟨z0, z1, z2, z3, z4, z5⟩ := five HD.out.res
      have HE := Lib.hid (HD.out.fin HC.out (leaf_lies _ (k := 3) (n := 0) (s := s) ⟨by decide, by decide⟩ ⟨by decide, by decide⟩ (by unfold maxLen; omega)) (Fresh.nil _ _) (by simp))
      go_wp2
      exact bodyPost_ret (ret_node Tryz.results36 rfl HE.out.1) rfl ⟨_, _, _, _, rfl, HE.out.2.1, HE.out.2.2.1, HE.out.2.2.2.1, HE.out.2.2.2.2, leaf_bnd _ _ _ (by omega) _⟩
  · clear z0 z1 z2 z3 z4 z5
    replace hhi : (r2 : Int) = 4 ∨ (r2 : Int) = 5 := by omega
    clear hr2
    generalize (r2 : Int) = K at *
    clear r2
    have hk : Hid (Fit K) := ⟨by omega, by omega⟩
    have n0 : ¬ (K = 0) := by omega
    have n1 : ¬ (K = 1) := by omega
    have n2 : ¬ (K = 2) := by omega
    have n3 : ¬ (K = 3) := by omega
    have HL := Lib.hid (DL.start HD.out K hk.out)
    go_wp2_with (first
      | (go_at_call 24; refine (below_any 4 (by omega) (by omega) a len cap p _ HL.out.ds.cur.cur HL.out.ds.cur.code HL.out.ds.cur.apart).mono ?_; rintro e w2 ⟨⟨n, hn, rfl⟩, hc1, ho1⟩; replace HL := Lib.hid (HL.out.draw hp.out (HL.out.ds.cur.only hc1 ho1) ho1.grown); clear hc1 ho1)
      | fail)
    go_loopw [8] (fun i wr => ∃ (j : Nat) (T : RT) (kv dv : Value) (F : List Nat), j ≤ n ∧ i = .int .i64 j ∧ Hid (DL w wr p a len cap w1.heap.size T kv dv F ∧ T.wz ≤ j * (bnd d + 30) + 21)) (fun i _ => n - (intOf i).toNat)
    case atStart => exact ⟨0, _, _, _, _, Nat.zero_le _, rfl, HL.out, by have : (RT.node K 0 ⟨#[]⟩ [] []).wz = 21 := rfl; omega⟩
    case round =>
      obtain ⟨j, T, kv, dv, F, hj, rfl, hr⟩ := hrel
      by_cases hlt : j < n
      · have HX := Lib.hid (HI.out a len cap p wr hr.out.1.ds.cur)
        go_upto_region 19 with (first
          | (go_at_call 36; refine HX.out.mono ?_; rintro e w3 ⟨X, kx, dx, FX, rfl, hlX, hfX, hcX, hgX, hszX⟩; obtain ⟨⟨o1, q1, rfl⟩, ⟨o2, q2, rfl⟩⟩ := hlX.slices
             have hba := (Below.refl _ w3).alloc (Nat.le_refl _) (.cells #[.int .i64 X.k, .int .i64 X.n, .string X.s, .slice o1 X.keys.length q1, .slice o2 X.kids.length q2] 27)
             have HA := Lib.hid (And.intro ((hr.out.1.draw hp.out hcX hgX).next hba) (And.intro (hlX.stay hba (Nat.le_refl _)) (And.intro ((hfX.carry fun y hy => hba.block y (hlX.lt y hy))) (And.intro (heap_last w3 (.cells #[.int .i64 X.k, .int .i64 X.n, .string X.s, .slice o1 X.keys.length q1, .slice o2 X.kids.length q2] 27)) (And.intro hlX.lt hgX.size)))))
             have HZ : Hid (T.wz ≤ j * (bnd d + 30) + 21 ∧ X.wz ≤ bnd d ∧ wr.heap.size ≤ w3.heap.size) := ⟨hr.out.2, hszX, hgX.size⟩
             have HB : Hid (∀ y ∈ F, y < wr.heap.size) := hr.out.1.lie.lt
             have HBl := Lib.hid hr.out.1.lt
             have HWl := Lib.hid hr.out.1.ds.lt
             clear hlX hfX hcX hgX hszX hba)
          | fail)
        generalize w3.alloc (.cells #[.int .i64 X.k, .int .i64 X.n, .string X.s, .slice o1 X.keys.length q1, .slice o2 X.kids.length q2] 27) = w4 at *
        generalize w3.heap.size = xb at *
        clear w3 hr HX
        obtain ⟨⟨o3, q3, rfl⟩, ⟨o4, q4, rfl⟩⟩ := HA.out.1.lie.slices
        obtain ⟨x0, x1, x2, x3, x4, x5⟩ := five HA.out.1.out
        obtain ⟨y0, y1, y2, y3, y4, -⟩ := five HA.out.2.2.2.1
        rcases hhi with rfl | rfl
        · have HM := Lib.hid (HA.out.1.more HC.out HA.out.2.1 (HA.out.2.2.1.earlier (Nat.le_of_lt HWl.out)) (fun x hx => by
              have h1 := HA.out.2.2.1.old x hx
              have h2 := HWl.out
              have h3 := HBl.out
              exact ⟨fun hx' => by have := HB.out x hx'; omega, by omega, by omega⟩) (by
              have h1 := HZ.out.1
              have h2 : j * (bnd d + 30) ≤ 3 * (bnd d + 30) := Nat.mul_le_mul_right _ (by omega)
              have h3 := bnd_max hd
              have h4 : T.kids.length ≤ T.wz := by cases T; simp only [RT.wz, RT.kids]; omega
              omega))
          have HZ2 := Lib.hid (bnd_more HZ.out.1 HZ.out.2.1)
          go_wp2_with (first
            | (at_builtin; refine list_append_run rfl _ _ 25 rfl _ _ rfl rfl (HM.out _) ?_
               rintro v5 w5 ⟨o5, c5, G, rfl, hB5, hD5⟩
               obtain ⟨m0, m1, m2, m3, m4, m5⟩ := five hB5
               have H5 := Lib.hid hD5
               clear hB5 hD5)
            | fail)
          go_roundw
          case rel => exact ⟨j + 1, _, _, _, _, by omega, by go_num, H5.out, HZ2.out⟩
          case measure => simp [intOf]; omega
        · have HKy : Hid (∀ W, Cur W p a len cap → Calls Tryz.prog 58 #[.pointer (some ⟨p, 0, none⟩)] W fun e w' => ∃ v, e = .returned v ∧ ∃ key : ByteArray, v = .string key ∧ key.size ≤ 12 ∧ Cur w' p a len cap ∧ W.grownBy w' (some p)) := fun W hW => by
            refine (drawKey_any a len cap p W hW).mono ?_
            rintro e w' ⟨⟨v, hv, rfl⟩, h1, h2⟩
            exact ⟨_, rfl, v, rfl, hv, h1, h2⟩
          have HSt : Hid (∀ (W : World) (key : ByteArray) (G FG : List Nat), Lies W T (.slice o3 T.keys.length q3) (.slice o4 T.kids.length q4) G → Lies W X (.slice o1 X.keys.length q1) (.slice o2 X.kids.length q2) FG → key.size ≤ 12 → Calls Tryz.prog 40 #[.agg #[.int .i64 T.k, .int .i64 T.n, .string T.s, .slice o3 T.keys.length q3, .slice o4 T.kids.length q4], .string key, .agg #[.int .i64 X.k, .int .i64 X.n, .string X.s, .slice o1 X.keys.length q1, .slice o2 X.kids.length q2]] W fun e w' => ∃ v, e = .returned v ∧ ∃ R kr dr GR, v = .agg #[.int .i64 R.k, .int .i64 R.n, .string R.s, kr, dr] ∧ Lies w' R kr dr GR ∧ Fresh W w' GR ∧ Below W.heap.size W w' ∧ R.wz ≤ (j + 1) * (bnd d + 30) + 21) := fun W key G FG h1 h2 h3 => by
            have hb3 := bnd_max hd
            have hjb : j * (bnd d + 30) ≤ 3 * (bnd d + 30) := Nat.mul_le_mul_right _ (by omega)
            have hTs := HZ.out.1
            have hXs := HZ.out.2.1
            have hTz := wz_sz T
            have hXz := wz_sz X
            refine (spec_set T X key W _ _ _ _ G FG h1 h2 (by omega) (by omega) (by unfold maxLen; omega)).mono ?_
            rintro e w' ⟨kr, dr, GR, rfl, g1, g2, g3⟩
            exact ⟨_, rfl, setT T key X, kr, dr, GR, rfl, g1, g2, g3, bnd_step hTs hXs h3⟩
          go_upto_region 20 with fail
          have HS := Lib.hid (And.intro (HA.out.1.next (below_drewN (Below.refl _ w4) 1)) (And.intro (HA.out.2.1.stay (below_drewN (Below.refl w4.heap.size w4) 1) (Nat.le_refl _)) (HA.out.2.2.2.1)))
          go_region_law (first
            | (refine step_calls (by rfl) 58 _ _ (by rfl) #[.pointer (some ⟨p, 0, none⟩)] (by simp [Act.eval, Act.put]) (by intros; simp [go_sem]) (fun _ _ => rfl) (HKy.out _ HS.out.1.ds.cur) ?_
               rintro u w5 ⟨key, rfl, hkey, hc5, hg5⟩
               have hX5 : Lies w5 X (.slice o1 X.keys.length q1) (.slice o2 X.kids.length q2) FX := HS.out.2.1.carry fun y hy => hg5.block y (HS.out.2.1.lt y hy) (fun e => by injection e with e; have h1 := HA.out.2.2.1.old y hy; have h2 := HWl.out; have h3 := hp.out; omega)
               have hb5 := (hg5.block xb (by exact (Array.getElem?_eq_some_iff.1 HA.out.2.2.2.1).1) (fun e => by injection e with e; have h1 := HA.out.2.2.2.2.2; have h2 := HWl.out; have h3 := hp.out; omega)).trans HA.out.2.2.2.1
               have H5 := Lib.hid (And.intro (HS.out.1.draw hp.out hc5 hg5) (And.intro hX5 (And.intro hb5 hg5.size)))
               obtain ⟨xx0, xx1, xx2, xx3, xx4, -⟩ := five H5.out.1.out
               obtain ⟨yy0, yy1, yy2, yy3, yy4, -⟩ := five H5.out.2.2.1
               clear hc5 hg5 hX5 hb5)
            | (refine step_calls (by rfl) 40 _ _ (by rfl) #[.agg #[.int .i64 T.k, .int .i64 T.n, .string T.s, .slice o3 T.keys.length q3, .slice o4 T.kids.length q4], .string key, .agg #[.int .i64 X.k, .int .i64 X.n, .string X.s, .slice o1 X.keys.length q1, .slice o2 X.kids.length q2]] (by simp [Act.eval]) (by intros; simp [go_sem]) (fun _ _ => rfl) (HSt.out w5 key _ _ H5.out.1.lie H5.out.2.1 hkey) ?_
               rintro u w6 ⟨R, kr, dr, GR, rfl, hl6, hf6, hb6, hsz6⟩
               obtain ⟨⟨o5, q5, rfl⟩, ⟨o6, q6, rfl⟩⟩ := hl6.slices
               have hL6 := H5.out.1.next hb6
               obtain ⟨m0, m1, m2, m3, m4, m5⟩ := five hL6.out
               have H7 := Lib.hid (And.intro (hL6.put HC.out hl6 (hf6.earlier (by have := H5.out.1.ds.grown.size; omega)) (fun y hy => by have h1 := hf6.old y hy; have h2 := H5.out.1.lt; have h3 := H5.out.1.big; omega)) hsz6)
               clear hl6 hf6 hb6 hsz6 hL6)
            | fail)
          all_goals
            go_wp2
            go_roundw
            case rel => exact ⟨j + 1, R, _, _, GR, by omega, by go_num, H7.out.1, H7.out.2⟩
            case measure => simp [intOf]; omega
      · have e : j = n := by omega
        subst e
        have HE := Lib.hid (hr.out.1.ds.fin HC.out hr.out.1.lie hr.out.1.fresh (fun hx => by have := (hr.out.1.far _ hx).1; omega))
        have HZ : Hid (T.wz ≤ bnd (d + 1)) := by
          have h1 := hr.out.2
          show _ ≤ _
          rw [bnd]
          have : j * (bnd d + 30) ≤ 3 * (bnd d + 30) := Nat.mul_le_mul_right _ (by omega)
          omega
        obtain ⟨x0, x1, x2, x3, x4, -⟩ := five hr.out.1.out
        obtain ⟨z0, z1, z2, z3, z4, z5⟩ := five hr.out.1.ds.res
        obtain ⟨⟨o1, q1, rfl⟩, ⟨o2, q2, rfl⟩⟩ := hr.out.1.lie.slices
        have ne1 : ¬ (w.heap.size = w1.heap.size) := by have := hr.out.1.big; omega
        have ne2 : ¬ (w1.heap.size = w.heap.size) := by omega
        go_wp2
        exact bodyPost_ret (ret_node Tryz.results36 rfl HE.out.1) rfl ⟨_, _, _, _, rfl, HE.out.2.1, HE.out.2.2.1, HE.out.2.2.2.1, HE.out.2.2.2.2, HZ.out⟩

theorem draw_one : DrawAt 1 := draw_succ 0 (by omega) draw_zero
theorem draw_three : DrawAt 3 := draw_succ 2 (by omega) (draw_succ 1 (by omega) draw_one)
end Go.Proofs.YtelpkcbbipianaaGreat

/- the model's trees of a metric and of a pace: maps whose Keys ascend, in memory of their own; no condition. -/
namespace Go.Proofs.YtelpkcbbipianaaGreat
open Go Go.RowKit

theorem metT_map (s : ByteArray) (k g : Int) : mapN [⟨#[110, 97, 109, 101]⟩, ⟨#[107, 105, 110, 100]⟩, ⟨#[103, 111, 97, 108]⟩] [.node 3 0 s [] [], .node 3 0 (kindB k) [] [], .node 3 0 ⟨(amtText g).toArray⟩ [] []] 3 = metT ⟨s, k, g⟩ := by
  show (setT (setT (setT (.node 5 0 ⟨#[]⟩ [] []) ⟨#[110, 97, 109, 101]⟩ (.node 3 0 s [] [])) ⟨#[107, 105, 110, 100]⟩ (.node 3 0 (kindB k) [] [])) ⟨#[103, 111, 97, 108]⟩ (.node 3 0 ⟨(amtText g).toArray⟩ [] [])) = _
  rw [setT_new (by rfl) (show firstN [] ⟨#[110, 97, 109, 101]⟩ = 0 by decide +kernel) (show placeN [] ⟨#[110, 97, 109, 101]⟩ = 0 by decide +kernel)]
  show (setT (setT (.node 5 0 ⟨#[]⟩ [⟨#[110, 97, 109, 101]⟩] [.node 3 0 s [] []]) ⟨#[107, 105, 110, 100]⟩ (.node 3 0 (kindB k) [] [])) ⟨#[103, 111, 97, 108]⟩ (.node 3 0 ⟨(amtText g).toArray⟩ [] [])) = _
  rw [setT_new (by rfl) (show firstN [⟨#[110, 97, 109, 101]⟩] ⟨#[107, 105, 110, 100]⟩ = 1 by decide +kernel) (show placeN [⟨#[110, 97, 109, 101]⟩] ⟨#[107, 105, 110, 100]⟩ = 0 by decide +kernel)]
  show (setT (.node 5 0 ⟨#[]⟩ [⟨#[107, 105, 110, 100]⟩, ⟨#[110, 97, 109, 101]⟩] [.node 3 0 (kindB k) [] [], .node 3 0 s [] []]) ⟨#[103, 111, 97, 108]⟩ (.node 3 0 ⟨(amtText g).toArray⟩ [] [])) = _
  rw [setT_new (by rfl) (show firstN [⟨#[107, 105, 110, 100]⟩, ⟨#[110, 97, 109, 101]⟩] ⟨#[103, 111, 97, 108]⟩ = 2 by decide +kernel) (show placeN [⟨#[107, 105, 110, 100]⟩, ⟨#[110, 97, 109, 101]⟩] ⟨#[103, 111, 97, 108]⟩ = 0 by decide +kernel)]
  rfl

set_option maxRecDepth 100000 in
set_option maxHeartbeats 8000000 in
theorem spec_metricTree (s : ByteArray) (k g : Int) (hs : s.size ≤ maxLen) (hk : Fit k) (hg : Fit g) (hs1 : s.size ≤ 1048576) (w : World) :
    Calls Tryz.prog 88 #[.agg #[.string s, .int .i64 k, .int .i64 g]] w fun e w' => ∃ kv dv F, e = .returned ((metT ⟨s, k, g⟩).val kv dv) ∧ Lies w' (metT ⟨s, k, g⟩) kv dv F ∧ Fresh w w' F ∧ Below w.heap.size w w' := by
  have HG := Lib.hid hg
  have HM : Hid (∀ X bz bn, X.heap[bz]? = some (.cells #[.string ⟨#[110, 97, 109, 101]⟩, .string ⟨#[107, 105, 110, 100]⟩, .string ⟨#[103, 111, 97, 108]⟩] 9 (0, 0)) → X.heap[bn]? = some (.cells #[.int .i64 3, .int .i64 0, .string s, .slice none 0 0, .slice none 0 0, .int .i64 3, .int .i64 0, .string (kindB k), .slice none 0 0, .slice none 0 0, .int .i64 3, .int .i64 0, .string ⟨(amtText g).toArray⟩, .slice none 0 0, .slice none 0 0] 27 (0, 0)) → Calls Tryz.prog 87 #[.slice (some ⟨bz, 0, none⟩) 3 3, .slice (some ⟨bn, 0, none⟩) 3 3] X fun e w' => ∃ kr dr G, e = .returned (.agg #[.int .i64 (metT ⟨s, k, g⟩).k, .int .i64 (metT ⟨s, k, g⟩).n, .string (metT ⟨s, k, g⟩).s, kr, dr]) ∧ Lies w' (metT ⟨s, k, g⟩) kr dr G ∧ Fresh X w' G ∧ Below X.heap.size X w') := by
    intro X bz bn hz hn
    have hlf : ∀ t ∈ ([.node 3 0 s [] [], .node 3 0 (kindB k) [] [], .node 3 0 ⟨(amtText g).toArray⟩ [] []] : List RT), LeafK t := fun t ht => (metT_leaves ⟨s, k, g⟩ ⟨hs, hk, hg⟩) t (by simp only [List.mem_cons, List.not_mem_nil, or_false] at ht; rcases ht with rfl | rfl | rfl <;> simp [metT, RT.kids])
    have h := spec_l7Map [⟨#[110, 97, 109, 101]⟩, ⟨#[107, 105, 110, 100]⟩, ⟨#[103, 111, 97, 108]⟩] [.node 3 0 s [] [], .node 3 0 (kindB k) [] [], .node 3 0 ⟨(amtText g).toArray⟩ [] []] rfl X _ _ _ _ (strs_lit [⟨#[110, 97, 109, 101]⟩, ⟨#[107, 105, 110, 100]⟩, ⟨#[103, 111, 97, 108]⟩] hz rfl (fun t ht => metT_keys ⟨s, k, g⟩ t (by simp only [List.mem_cons, List.not_mem_nil, or_false] at ht; rcases ht with rfl | rfl | rfl <;> simp [metT, RT.keys])) (show 3 ≤ maxLen by decide) (show 0 < 3 by decide))
      (kids_lit [.node 3 0 s [] [], .node 3 0 (kindB k) [] [], .node 3 0 ⟨(amtText g).toArray⟩ [] []] (fun _ => .slice none 0 0) (fun _ => .slice none 0 0) (fun _ => []) hn rfl (fun i hi j hj => by rw [← Array.getElem?_toList]; exact (rowsOf_get [.node 3 0 s [] [], .node 3 0 (kindB k) [] [], .node 3 0 ⟨(amtText g).toArray⟩ [] []] (fun _ => .slice none 0 0) (fun _ => .slice none 0 0) 3 i j hi hj).trans (by rw [List.getD_eq_getElem?_getD, List.getElem?_eq_getElem hi]; rfl)) (fun i hi => leaf_kid X _ (hlf _ (List.getElem_mem hi))) (show 3 ≤ maxLen by decide) (show 0 < 3 by decide)) (fun j hj => Nat.le_trans (mapN_le _ _ rfl hj) (by have a := amt_size g hg.1 hg.2; have c := kind_size k; have k0 : (⟨#[110, 97, 109, 101]⟩ : ByteArray).size = 4 := rfl; have k1 : (⟨#[107, 105, 110, 100]⟩ : ByteArray).size = 4 := rfl; have k2 : (⟨#[103, 111, 97, 108]⟩ : ByteArray).size = 4 := rfl; have kn : (⟨#[]⟩ : ByteArray).size = 0 := rfl; simp only [szAll, strSz, RT.sz, List.length_cons, List.length_nil, List.map_cons, List.map_nil, List.sum_cons, List.sum_nil]; omega)) (fun p hp => Nat.le_trans (sz_take _ hp) (by have a := amt_size g hg.1 hg.2; have c := kind_size k; have kn : (⟨#[]⟩ : ByteArray).size = 0 := rfl; simp only [szAll, strSz, RT.sz, List.length_nil, List.map_nil, List.sum_nil]; omega)) (show 3 ≤ 1000000 by decide) _ (metT_map s k g)
    exact h
  generalize metT ⟨s, k, g⟩ = T at *
  clear hs hk hg hs1
  go_enter Tryz.func88, Tryz.ntmps88
  go_wp2_with fail
  have H2 := Lib.hid (Two.start w (.cells #[.string s, .int .i64 k, .int .i64 g] 96) (.cells #[.int .i64 0, .int .i64 0, .string ⟨#[]⟩, .slice none 0 0, .slice none 0 0] 27))
  have x0 := cell_of H2.out.arg 0
  have x1 := cell_of H2.out.arg 1
  have x2 := cell_of H2.out.arg 2
  simp only [List.getElem?_toArray, List.getElem?_cons_zero, List.getElem?_cons_succ] at x0 x1 x2
  go_region_held3 (fun w' => w'.cell? ⟨w.heap.size, 0, none⟩ = some (.string s) ∧ w'.cell? ⟨w.heap.size, 1, none⟩ = some (.int .i64 k) ∧ w'.cell? ⟨w.heap.size, 2, none⟩ = some (.int .i64 g)) (go_keep)
    (first
      | (go_at_call 106; refine (spec_amountText g HG.out.1 HG.out.2 _).mono ?_; rintro e w' ⟨rfl, hb⟩; (first | (replace H2 := Lib.hid (H2.out.next hb); (try replace HZ := Lib.hid (HZ.out.next hb))) | (replace H2 := Lib.hid (H2.out.next1 hb)) | (have HZ := Lib.hid (H2.out.lit hb (by simp)).2; replace H2 := Lib.hid (H2.out.lit hb (by simp)).1; (first | replace HZ := Lib.hid (HZ.out.mv (n := w.heap.size + 1 + 1) (by simp)) | skip)) | (have HZ := Lib.hid (H2.out.lit1 hb).2; replace H2 := Lib.hid (H2.out.lit1 hb).1; (first | replace HZ := Lib.hid (HZ.out.mv (n := w.heap.size + 1 + 1) (by simp)) | skip))); clear hb x0 x1 x2; have x0 := cell_of H2.out.arg 0; have x1 := cell_of H2.out.arg 1; have x2 := cell_of H2.out.arg 2; simp only [List.getElem?_toArray, List.getElem?_cons_zero, List.getElem?_cons_succ] at x0 x1 x2)
      | (go_at_call 56; refine (spec_textOf _ _).mono ?_; rintro e w' ⟨rfl, hb⟩; (first | (replace H2 := Lib.hid (H2.out.next hb); (try replace HZ := Lib.hid (HZ.out.next hb))) | (replace H2 := Lib.hid (H2.out.next1 hb)) | (have HZ := Lib.hid (H2.out.lit hb (by simp)).2; replace H2 := Lib.hid (H2.out.lit hb (by simp)).1; (first | replace HZ := Lib.hid (HZ.out.mv (n := w.heap.size + 1 + 1) (by simp)) | skip)) | (have HZ := Lib.hid (H2.out.lit1 hb).2; replace H2 := Lib.hid (H2.out.lit1 hb).1; (first | replace HZ := Lib.hid (HZ.out.mv (n := w.heap.size + 1 + 1) (by simp)) | skip))); clear hb x0 x1 x2; have x0 := cell_of H2.out.arg 0; have x1 := cell_of H2.out.arg 1; have x2 := cell_of H2.out.arg 2; simp only [List.getElem?_toArray, List.getElem?_cons_zero, List.getElem?_cons_succ] at x0 x1 x2)
      | (go_at_call 105; refine (spec_l7Kind _ _).mono ?_; rintro e w' ⟨rfl, hb⟩; (first | (replace H2 := Lib.hid (H2.out.next hb); (try replace HZ := Lib.hid (HZ.out.next hb))) | (replace H2 := Lib.hid (H2.out.next1 hb)) | (have HZ := Lib.hid (H2.out.lit hb (by simp)).2; replace H2 := Lib.hid (H2.out.lit hb (by simp)).1; (first | replace HZ := Lib.hid (HZ.out.mv (n := w.heap.size + 1 + 1) (by simp)) | skip)) | (have HZ := Lib.hid (H2.out.lit1 hb).2; replace H2 := Lib.hid (H2.out.lit1 hb).1; (first | replace HZ := Lib.hid (HZ.out.mv (n := w.heap.size + 1 + 1) (by simp)) | skip))); clear hb x0 x1 x2; have x0 := cell_of H2.out.arg 0; have x1 := cell_of H2.out.arg 1; have x2 := cell_of H2.out.arg 2; simp only [List.getElem?_toArray, List.getElem?_cons_zero, List.getElem?_cons_succ] at x0 x1 x2)
      | (go_at_call 87; refine (HM.out _ _ _ (by first | exact (HZ.out.lit1 (Below.refl _ _)).at_ | exact (H2.out.lits1 (Below.refl _ _)).2.1.at_ | exact (H2.out.lits1 (Below.refl _ _)).2.2.at_ | exact (HZ.out.lit (Below.refl _ _) (by simp [World.drew])).at_ | exact (H2.out.lits (Below.refl _ _) (by simp [World.drew])).2.1.at_ | exact (H2.out.lits (Below.refl _ _) (by simp [World.drew])).2.2.at_) (by first | exact (H2.out.lit1 (Below.refl _ _)).2.at_ | exact (H2.out.lits1 (Below.refl _ _)).2.2.at_ | exact (H2.out.lits1 (Below.refl _ _)).2.1.at_ | exact (H2.out.lit (Below.refl _ _) (by simp [World.drew])).2.at_ | exact (H2.out.lits (Below.refl _ _) (by simp [World.drew])).2.2.at_ | exact (H2.out.lits (Below.refl _ _) (by simp [World.drew])).2.1.at_)).mono ?_; rintro e w' ⟨kr, dr, G, rfl, hl, hf, hb⟩; obtain ⟨⟨o3, q3, rfl⟩, ⟨o4, q4, rfl⟩⟩ := hl.slices; have HL := Lib.hid (res_keep H2.out hl hf (by first | (simp; done) | (simp; omega))); clear hl hf; (first | (replace HZ := Lib.hid (HZ.out.lit1 hb); have HN := Lib.hid (H2.out.lit1 hb).2; replace H2 := Lib.hid (H2.out.lit1 hb).1) | (have HZ := Lib.hid (H2.out.lits1 hb).2.1; have HN := Lib.hid (H2.out.lits1 hb).2.2; replace H2 := Lib.hid (H2.out.lits1 hb).1; (first | (have h9 := HZ.out; have h8 : One w w' _ (.cells #[.string ⟨#[110, 97, 109, 101]⟩, .string ⟨#[107, 105, 110, 100]⟩, .string ⟨#[103, 111, 97, 108]⟩] 9) := h9; clear h8 h9) | (have hq := HZ; replace HZ := HN; replace HN := hq; clear hq))) | (have HN := Lib.hid (H2.out.lit hb (by simp)).2; replace HZ := Lib.hid (HZ.out.lit hb (by simp)); replace H2 := Lib.hid (H2.out.lit hb (by simp)).1) | (have HZ := Lib.hid (H2.out.lits hb (by simp)).2.1; have HN := Lib.hid (H2.out.lits hb (by simp)).2.2; replace H2 := Lib.hid (H2.out.lits hb (by simp)).1; (first | (have h9 := HZ.out; have h8 : One w w' _ (.cells #[.string ⟨#[110, 97, 109, 101]⟩, .string ⟨#[107, 105, 110, 100]⟩, .string ⟨#[103, 111, 97, 108]⟩] 9) := h9; clear h8 h9) | (have hq := HZ; replace HZ := HN; replace HN := hq; clear hq)))); clear hb x0 x1 x2; have x0 := cell_of H2.out.arg 0; have x1 := cell_of H2.out.arg 1; have x2 := cell_of H2.out.arg 2; simp only [List.getElem?_toArray, List.getElem?_cons_zero, List.getElem?_cons_succ] at x0 x1 x2; obtain ⟨r0, r1, r2, r3, r4, r5⟩ := five H2.out.res))
  all_goals
    have HF := res_fin H2.out HL.out
    go_wp2
    exact bodyPost_ret (ret_node Tryz.results88 rfl HF.1) rfl ⟨_, _, _, rfl, HF.2.1, HF.2.2.1, HF.2.2.2⟩

theorem pacT_map (u d us ds : Int) : mapN [⟨#[100, 111, 119, 110]⟩, ⟨#[117, 112]⟩, ⟨#[100, 111, 119, 110, 115, 112, 97, 110]⟩, ⟨#[117, 112, 115, 112, 97, 110]⟩] [.node 2 d ⟨#[]⟩ [] [], .node 2 u ⟨#[]⟩ [] [], .node 3 0 ⟨(spanText ds).toArray⟩ [] [], .node 3 0 ⟨(spanText us).toArray⟩ [] []] 4 = pacT ⟨u, d, us, ds⟩ := by
  show (setT (setT (setT (setT (.node 5 0 ⟨#[]⟩ [] []) ⟨#[100, 111, 119, 110]⟩ (.node 2 d ⟨#[]⟩ [] [])) ⟨#[117, 112]⟩ (.node 2 u ⟨#[]⟩ [] [])) ⟨#[100, 111, 119, 110, 115, 112, 97, 110]⟩ (.node 3 0 ⟨(spanText ds).toArray⟩ [] [])) ⟨#[117, 112, 115, 112, 97, 110]⟩ (.node 3 0 ⟨(spanText us).toArray⟩ [] [])) = _
  rw [setT_new (by rfl) (show firstN [] ⟨#[100, 111, 119, 110]⟩ = 0 by decide +kernel) (show placeN [] ⟨#[100, 111, 119, 110]⟩ = 0 by decide +kernel)]
  show (setT (setT (setT (.node 5 0 ⟨#[]⟩ [⟨#[100, 111, 119, 110]⟩] [.node 2 d ⟨#[]⟩ [] []]) ⟨#[117, 112]⟩ (.node 2 u ⟨#[]⟩ [] [])) ⟨#[100, 111, 119, 110, 115, 112, 97, 110]⟩ (.node 3 0 ⟨(spanText ds).toArray⟩ [] [])) ⟨#[117, 112, 115, 112, 97, 110]⟩ (.node 3 0 ⟨(spanText us).toArray⟩ [] [])) = _
  rw [setT_new (by rfl) (show firstN [⟨#[100, 111, 119, 110]⟩] ⟨#[117, 112]⟩ = 1 by decide +kernel) (show placeN [⟨#[100, 111, 119, 110]⟩] ⟨#[117, 112]⟩ = 1 by decide +kernel)]
  show (setT (setT (.node 5 0 ⟨#[]⟩ [⟨#[100, 111, 119, 110]⟩, ⟨#[117, 112]⟩] [.node 2 d ⟨#[]⟩ [] [], .node 2 u ⟨#[]⟩ [] []]) ⟨#[100, 111, 119, 110, 115, 112, 97, 110]⟩ (.node 3 0 ⟨(spanText ds).toArray⟩ [] [])) ⟨#[117, 112, 115, 112, 97, 110]⟩ (.node 3 0 ⟨(spanText us).toArray⟩ [] [])) = _
  rw [setT_new (by rfl) (show firstN [⟨#[100, 111, 119, 110]⟩, ⟨#[117, 112]⟩] ⟨#[100, 111, 119, 110, 115, 112, 97, 110]⟩ = 2 by decide +kernel) (show placeN [⟨#[100, 111, 119, 110]⟩, ⟨#[117, 112]⟩] ⟨#[100, 111, 119, 110, 115, 112, 97, 110]⟩ = 1 by decide +kernel)]
  show (setT (.node 5 0 ⟨#[]⟩ [⟨#[100, 111, 119, 110]⟩, ⟨#[100, 111, 119, 110, 115, 112, 97, 110]⟩, ⟨#[117, 112]⟩] [.node 2 d ⟨#[]⟩ [] [], .node 3 0 ⟨(spanText ds).toArray⟩ [] [], .node 2 u ⟨#[]⟩ [] []]) ⟨#[117, 112, 115, 112, 97, 110]⟩ (.node 3 0 ⟨(spanText us).toArray⟩ [] [])) = _
  rw [setT_new (by rfl) (show firstN [⟨#[100, 111, 119, 110]⟩, ⟨#[100, 111, 119, 110, 115, 112, 97, 110]⟩, ⟨#[117, 112]⟩] ⟨#[117, 112, 115, 112, 97, 110]⟩ = 3 by decide +kernel) (show placeN [⟨#[100, 111, 119, 110]⟩, ⟨#[100, 111, 119, 110, 115, 112, 97, 110]⟩, ⟨#[117, 112]⟩] ⟨#[117, 112, 115, 112, 97, 110]⟩ = 3 by decide +kernel)]
  rfl

set_option maxRecDepth 100000 in
set_option maxHeartbeats 8000000 in
theorem spec_paceTree (u d us ds : Int) (hu : Fit u) (hd : Fit d) (hus : Fit us) (hds : Fit ds) (w : World) :
    Calls Tryz.prog 74 #[.agg #[.int .i64 u, .int .i64 d, .int .i64 us, .int .i64 ds]] w fun e w' => ∃ kv dv F, e = .returned ((pacT ⟨u, d, us, ds⟩).val kv dv) ∧ Lies w' (pacT ⟨u, d, us, ds⟩) kv dv F ∧ Fresh w w' F ∧ Below w.heap.size w w' := by
  have HU : Hid (-9223372036854775808 ≤ us ∧ us ≤ 9223372036854775807) := hus
  have HD : Hid (-9223372036854775808 ≤ ds ∧ ds ≤ 9223372036854775807) := hds
  have HM : Hid (∀ X bz bn, X.heap[bz]? = some (.cells #[.string ⟨#[100, 111, 119, 110]⟩, .string ⟨#[117, 112]⟩, .string ⟨#[100, 111, 119, 110, 115, 112, 97, 110]⟩, .string ⟨#[117, 112, 115, 112, 97, 110]⟩] 9 (0, 0)) → X.heap[bn]? = some (.cells #[.int .i64 2, .int .i64 d, .string ⟨#[]⟩, .slice none 0 0, .slice none 0 0, .int .i64 2, .int .i64 u, .string ⟨#[]⟩, .slice none 0 0, .slice none 0 0, .int .i64 3, .int .i64 0, .string ⟨(spanText ds).toArray⟩, .slice none 0 0, .slice none 0 0, .int .i64 3, .int .i64 0, .string ⟨(spanText us).toArray⟩, .slice none 0 0, .slice none 0 0] 27 (0, 0)) → Calls Tryz.prog 87 #[.slice (some ⟨bz, 0, none⟩) 4 4, .slice (some ⟨bn, 0, none⟩) 4 4] X fun e w' => ∃ kr dr G, e = .returned (.agg #[.int .i64 (pacT ⟨u, d, us, ds⟩).k, .int .i64 (pacT ⟨u, d, us, ds⟩).n, .string (pacT ⟨u, d, us, ds⟩).s, kr, dr]) ∧ Lies w' (pacT ⟨u, d, us, ds⟩) kr dr G ∧ Fresh X w' G ∧ Below X.heap.size X w') := by
    intro X bz bn hz hn
    have hlf : ∀ t ∈ ([.node 2 d ⟨#[]⟩ [] [], .node 2 u ⟨#[]⟩ [] [], .node 3 0 ⟨(spanText ds).toArray⟩ [] [], .node 3 0 ⟨(spanText us).toArray⟩ [] []] : List RT), LeafK t := fun t ht => (pacT_leaves ⟨u, d, us, ds⟩ ⟨hu, hd, hus, hds⟩) t (by simp only [List.mem_cons, List.not_mem_nil, or_false] at ht; rcases ht with rfl | rfl | rfl | rfl <;> simp [pacT, RT.kids])
    have h := spec_l7Map [⟨#[100, 111, 119, 110]⟩, ⟨#[117, 112]⟩, ⟨#[100, 111, 119, 110, 115, 112, 97, 110]⟩, ⟨#[117, 112, 115, 112, 97, 110]⟩] [.node 2 d ⟨#[]⟩ [] [], .node 2 u ⟨#[]⟩ [] [], .node 3 0 ⟨(spanText ds).toArray⟩ [] [], .node 3 0 ⟨(spanText us).toArray⟩ [] []] rfl X _ _ _ _ (strs_lit [⟨#[100, 111, 119, 110]⟩, ⟨#[117, 112]⟩, ⟨#[100, 111, 119, 110, 115, 112, 97, 110]⟩, ⟨#[117, 112, 115, 112, 97, 110]⟩] hz rfl (fun t ht => pacT_keys ⟨u, d, us, ds⟩ t (by simp only [List.mem_cons, List.not_mem_nil, or_false] at ht; rcases ht with rfl | rfl | rfl | rfl <;> simp [pacT, RT.keys])) (show 4 ≤ maxLen by decide) (show 0 < 4 by decide))
      (kids_lit [.node 2 d ⟨#[]⟩ [] [], .node 2 u ⟨#[]⟩ [] [], .node 3 0 ⟨(spanText ds).toArray⟩ [] [], .node 3 0 ⟨(spanText us).toArray⟩ [] []] (fun _ => .slice none 0 0) (fun _ => .slice none 0 0) (fun _ => []) hn rfl (fun i hi j hj => by rw [← Array.getElem?_toList]; exact (rowsOf_get [.node 2 d ⟨#[]⟩ [] [], .node 2 u ⟨#[]⟩ [] [], .node 3 0 ⟨(spanText ds).toArray⟩ [] [], .node 3 0 ⟨(spanText us).toArray⟩ [] []] (fun _ => .slice none 0 0) (fun _ => .slice none 0 0) 4 i j hi hj).trans (by rw [List.getD_eq_getElem?_getD, List.getElem?_eq_getElem hi]; rfl)) (fun i hi => leaf_kid X _ (hlf _ (List.getElem_mem hi))) (show 4 ≤ maxLen by decide) (show 0 < 4 by decide)) (fun j hj => Nat.le_trans (mapN_le _ _ rfl hj) (by have a := span_size us hus.1 hus.2; have c := span_size ds hds.1 hds.2; have k0 : (⟨#[100, 111, 119, 110]⟩ : ByteArray).size = 4 := rfl; have k1 : (⟨#[117, 112]⟩ : ByteArray).size = 2 := rfl; have k2 : (⟨#[100, 111, 119, 110, 115, 112, 97, 110]⟩ : ByteArray).size = 8 := rfl; have k3 : (⟨#[117, 112, 115, 112, 97, 110]⟩ : ByteArray).size = 6 := rfl; have kn : (⟨#[]⟩ : ByteArray).size = 0 := rfl; simp only [szAll, strSz, RT.sz, List.length_cons, List.length_nil, List.map_cons, List.map_nil, List.sum_cons, List.sum_nil]; omega)) (fun p hp => Nat.le_trans (sz_take _ hp) (by have a := span_size us hus.1 hus.2; have c := span_size ds hds.1 hds.2; have kn : (⟨#[]⟩ : ByteArray).size = 0 := rfl; simp only [szAll, strSz, RT.sz, List.length_nil, List.map_nil, List.sum_nil]; omega)) (show 4 ≤ 1000000 by decide) _ (pacT_map u d us ds)
    exact h
  generalize pacT ⟨u, d, us, ds⟩ = T at *
  clear hu hd hus hds
  go_enter Tryz.func74, Tryz.ntmps74
  go_wp2_with fail
  have H2 := Lib.hid (Two.start w (.cells #[.int .i64 u, .int .i64 d, .int .i64 us, .int .i64 ds] 63) (.cells #[.int .i64 0, .int .i64 0, .string ⟨#[]⟩, .slice none 0 0, .slice none 0 0] 27))
  have x0 := cell_of H2.out.arg 0
  have x1 := cell_of H2.out.arg 1
  have x2 := cell_of H2.out.arg 2
  have x3 := cell_of H2.out.arg 3
  simp only [List.getElem?_toArray, List.getElem?_cons_zero, List.getElem?_cons_succ] at x0 x1 x2 x3
  go_region_held3 (fun w' => w'.cell? ⟨w.heap.size, 0, none⟩ = some (.int .i64 u) ∧ w'.cell? ⟨w.heap.size, 1, none⟩ = some (.int .i64 d) ∧ w'.cell? ⟨w.heap.size, 2, none⟩ = some (.int .i64 us) ∧ w'.cell? ⟨w.heap.size, 3, none⟩ = some (.int .i64 ds)) (go_keep)
    (first
      | (go_at_call 55; refine (spec_intOf _ _).mono ?_; rintro e w' ⟨rfl, hb⟩; (first | (replace H2 := Lib.hid (H2.out.next hb); (try replace HZ := Lib.hid (HZ.out.next hb))) | (replace H2 := Lib.hid (H2.out.next1 hb)) | (have HZ := Lib.hid (H2.out.lit hb (by simp)).2; replace H2 := Lib.hid (H2.out.lit hb (by simp)).1; (first | replace HZ := Lib.hid (HZ.out.mv (n := w.heap.size + 1 + 1) (by simp)) | skip)) | (have HZ := Lib.hid (H2.out.lit1 hb).2; replace H2 := Lib.hid (H2.out.lit1 hb).1; (first | replace HZ := Lib.hid (HZ.out.mv (n := w.heap.size + 1 + 1) (by simp)) | skip))); clear hb x0 x1 x2 x3; have x0 := cell_of H2.out.arg 0; have x1 := cell_of H2.out.arg 1; have x2 := cell_of H2.out.arg 2; have x3 := cell_of H2.out.arg 3; simp only [List.getElem?_toArray, List.getElem?_cons_zero, List.getElem?_cons_succ] at x0 x1 x2 x3)
      | (go_at_call 89; (first | (with_reducible refine (spec_spanText us HU.out.1 HU.out.2 _).mono ?_) | (with_reducible refine (spec_spanText ds HD.out.1 HD.out.2 _).mono ?_)); rintro e w' ⟨rfl, hb⟩; (first | (replace H2 := Lib.hid (H2.out.next hb); (try replace HZ := Lib.hid (HZ.out.next hb))) | (replace H2 := Lib.hid (H2.out.next1 hb)) | (have HZ := Lib.hid (H2.out.lit hb (by simp)).2; replace H2 := Lib.hid (H2.out.lit hb (by simp)).1; (first | replace HZ := Lib.hid (HZ.out.mv (n := w.heap.size + 1 + 1) (by simp)) | skip)) | (have HZ := Lib.hid (H2.out.lit1 hb).2; replace H2 := Lib.hid (H2.out.lit1 hb).1; (first | replace HZ := Lib.hid (HZ.out.mv (n := w.heap.size + 1 + 1) (by simp)) | skip))); clear hb x0 x1 x2 x3; have x0 := cell_of H2.out.arg 0; have x1 := cell_of H2.out.arg 1; have x2 := cell_of H2.out.arg 2; have x3 := cell_of H2.out.arg 3; simp only [List.getElem?_toArray, List.getElem?_cons_zero, List.getElem?_cons_succ] at x0 x1 x2 x3)
      | (go_at_call 56; refine (spec_textOf _ _).mono ?_; rintro e w' ⟨rfl, hb⟩; (first | (replace H2 := Lib.hid (H2.out.next hb); (try replace HZ := Lib.hid (HZ.out.next hb))) | (replace H2 := Lib.hid (H2.out.next1 hb)) | (have HZ := Lib.hid (H2.out.lit hb (by simp)).2; replace H2 := Lib.hid (H2.out.lit hb (by simp)).1; (first | replace HZ := Lib.hid (HZ.out.mv (n := w.heap.size + 1 + 1) (by simp)) | skip)) | (have HZ := Lib.hid (H2.out.lit1 hb).2; replace H2 := Lib.hid (H2.out.lit1 hb).1; (first | replace HZ := Lib.hid (HZ.out.mv (n := w.heap.size + 1 + 1) (by simp)) | skip))); clear hb x0 x1 x2 x3; have x0 := cell_of H2.out.arg 0; have x1 := cell_of H2.out.arg 1; have x2 := cell_of H2.out.arg 2; have x3 := cell_of H2.out.arg 3; simp only [List.getElem?_toArray, List.getElem?_cons_zero, List.getElem?_cons_succ] at x0 x1 x2 x3)
      | (go_at_call 87; refine (HM.out _ _ _ (by first | exact (HZ.out.lit1 (Below.refl _ _)).at_ | exact (H2.out.lits1 (Below.refl _ _)).2.1.at_ | exact (H2.out.lits1 (Below.refl _ _)).2.2.at_ | exact (HZ.out.lit (Below.refl _ _) (by simp [World.drew])).at_ | exact (H2.out.lits (Below.refl _ _) (by simp [World.drew])).2.1.at_ | exact (H2.out.lits (Below.refl _ _) (by simp [World.drew])).2.2.at_) (by first | exact (H2.out.lit1 (Below.refl _ _)).2.at_ | exact (H2.out.lits1 (Below.refl _ _)).2.2.at_ | exact (H2.out.lits1 (Below.refl _ _)).2.1.at_ | exact (H2.out.lit (Below.refl _ _) (by simp [World.drew])).2.at_ | exact (H2.out.lits (Below.refl _ _) (by simp [World.drew])).2.2.at_ | exact (H2.out.lits (Below.refl _ _) (by simp [World.drew])).2.1.at_)).mono ?_; rintro e w' ⟨kr, dr, G, rfl, hl, hf, hb⟩; obtain ⟨⟨o3, q3, rfl⟩, ⟨o4, q4, rfl⟩⟩ := hl.slices; have HL := Lib.hid (res_keep H2.out hl hf (by first | (simp; done) | (simp; omega))); clear hl hf; (first | (replace HZ := Lib.hid (HZ.out.lit1 hb); have HN := Lib.hid (H2.out.lit1 hb).2; replace H2 := Lib.hid (H2.out.lit1 hb).1) | (have HZ := Lib.hid (H2.out.lits1 hb).2.1; have HN := Lib.hid (H2.out.lits1 hb).2.2; replace H2 := Lib.hid (H2.out.lits1 hb).1; (first | (have h9 := HZ.out; have h8 : One w w' _ (.cells #[.string ⟨#[100, 111, 119, 110]⟩, .string ⟨#[117, 112]⟩, .string ⟨#[100, 111, 119, 110, 115, 112, 97, 110]⟩, .string ⟨#[117, 112, 115, 112, 97, 110]⟩] 9) := h9; clear h8 h9) | (have hq := HZ; replace HZ := HN; replace HN := hq; clear hq))) | (have HN := Lib.hid (H2.out.lit hb (by simp)).2; replace HZ := Lib.hid (HZ.out.lit hb (by simp)); replace H2 := Lib.hid (H2.out.lit hb (by simp)).1) | (have HZ := Lib.hid (H2.out.lits hb (by simp)).2.1; have HN := Lib.hid (H2.out.lits hb (by simp)).2.2; replace H2 := Lib.hid (H2.out.lits hb (by simp)).1; (first | (have h9 := HZ.out; have h8 : One w w' _ (.cells #[.string ⟨#[100, 111, 119, 110]⟩, .string ⟨#[117, 112]⟩, .string ⟨#[100, 111, 119, 110, 115, 112, 97, 110]⟩, .string ⟨#[117, 112, 115, 112, 97, 110]⟩] 9) := h9; clear h8 h9) | (have hq := HZ; replace HZ := HN; replace HN := hq; clear hq)))); clear hb x0 x1 x2 x3; have x0 := cell_of H2.out.arg 0; have x1 := cell_of H2.out.arg 1; have x2 := cell_of H2.out.arg 2; have x3 := cell_of H2.out.arg 3; simp only [List.getElem?_toArray, List.getElem?_cons_zero, List.getElem?_cons_succ] at x0 x1 x2 x3; obtain ⟨r0, r1, r2, r3, r4, r5⟩ := five H2.out.res))
  all_goals
    have HF := res_fin H2.out HL.out
    go_wp2
    exact bodyPost_ret (ret_node Tryz.results74 rfl HF.1) rfl ⟨_, _, _, rfl, HF.2.1, HF.2.2.1, HF.2.2.2⟩
end Go.Proofs.YtelpkcbbipianaaGreat
