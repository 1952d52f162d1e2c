/-
  What is proved: the model's drawing of trees, so many within each other at most: what is drawn is small, and lies in memory of its own; nothing turns but the cursor.; a pointer into a tree that lies in memory of its own: whatever the node behind it becomes, there is a tree again, and not much greater.
-/
import Derived.Test.YtmcjghhmcmkomaaGreatDoorPartAR
import Derived.Test.YtmcjghhmcmkomaaGreatDoorPartAJ
import Derived.Deep.DeepCutAuto
import Derived.Test.YtmcjghhmcmkomaaGreatDoorPartAK
import Derived.Test.YtmcjghhmcmkomaaGreatDoorPartAI
import Derived.Test.YtmcjghhmcmkomaaGreatDoorPartAP
/- the model's drawing of trees, so many within each other at most: what is drawn is small, and lies in memory of its own; nothing turns but the cursor. -/
namespace Go.Proofs.YtmcjghhmcmkomaaGreatDoor
open Go Go.RowKit

/-- Where the drawing of a list or a map stands: its node in block B, the tree that it is by now. -/
structure DL (w wr : World) (p : Nat) (a : Option Addr) (len cap : Nat) (B : Nat) (T : RT) (kv dv : Value) (F : List Nat) : Prop where
  ds : DS w wr p a len cap
  out : wr.heap[B]? = some (.cells #[.int .i64 T.k, .int .i64 T.n, .string T.s, kv, dv] 27 (0, 0))
  big : w.heap.size < B
  lie : Lies wr T kv dv F
  fresh : Fresh w wr F
  far : ∀ y ∈ F, w.heap.size < y ∧ y ≠ B

section
variable {w wr w1 : World} {p : Nat} {a : Option Addr} {len cap : Nat} {B : Nat} {T : RT} {kv dv : Value} {F : List Nat}

theorem DL.lt (h : DL w wr p a len cap B T kv dv F) : B < wr.heap.size := (Array.getElem?_eq_some_iff.1 h.out).1

theorem DL.start (h : DS w wr p a len cap) (k : Int) (hk : Fit k) :
    DL w (wr.alloc (.cells #[.int .i64 k, .int .i64 0, .string ⟨#[]⟩, .slice none 0 0, .slice none 0 0] 27)) p a len cap wr.heap.size (.node k 0 ⟨#[]⟩ [] []) (.slice none 0 0) (.slice none 0 0) [] :=
  ⟨h.next ((Below.refl _ wr).alloc (Nat.le_refl _) _), heap_last wr _, h.lt, leaf_lies _ hk ⟨by decide, by decide⟩ (by decide), Fresh.nil _ _, fun y hy => absurd hy (by simp)⟩

theorem DL.draw (h : DL w wr p a len cap B T kv dv F) (hp : p < w.heap.size) (hc : Cur w1 p a len cap) (hg : wr.grownBy w1 (some p)) : DL w w1 p a len cap B T kv dv F := by
  have keep : ∀ y, w.heap.size ≤ y → y < wr.heap.size → w1.heap[y]? = wr.heap[y]? := fun y hy hlt => hg.block y hlt (fun e => by injection e with e; omega)
  exact ⟨h.ds.draw hp hc hg, (keep B (Nat.le_of_lt h.big) h.lt).trans h.out, h.big, h.lie.carry fun y hy => keep y (Nat.le_of_lt (h.far y hy).1) (h.lie.lt y hy), h.fresh.carry fun y hy => keep y (Nat.le_of_lt (h.far y hy).1) (h.lie.lt y hy), h.far⟩

theorem DL.next (h : DL w wr p a len cap B T kv dv F) (hb : Below wr.heap.size wr w1) : DL w w1 p a len cap B T kv dv F :=
  ⟨h.ds.next hb, (hb.block _ h.lt).trans h.out, h.big, h.lie.stay hb (Nat.le_refl _), h.fresh.carry fun y hy => hb.block y (h.lie.lt y hy), h.far⟩

/-- The node has become another one, whose lists lie elsewhere. -/
theorem DL.put (h : DL w wr p a len cap B T kv dv F) (h0 : Cur w p a len cap) {R : RT} {kr dr : Value} {G : List Nat} (hl : Lies wr R kr dr G) (hf : Fresh w wr G) (hfar : ∀ y ∈ G, w.heap.size < y ∧ y ≠ B) :
    DL w (set5 wr B 0 (.int .i64 R.k) (.int .i64 R.n) (.string R.s) kr dr) p a len cap B R kr dr G := by
  have keep : ∀ y, y ≠ B → (set5 wr B 0 (.int .i64 R.k) (.int .i64 R.n) (.string R.s) kr dr).heap[y]? = wr.heap[y]? := fun y hy => set5_other _ _ _ _ _ _ _ _ _ hy
  exact ⟨⟨h.ds.cur.put (by have := h0.lt; have := h.big; omega) (apart_size h0 (Nat.le_of_lt h.big)) _ _ _ _ _, grown_put h.ds.grown (Nat.le_of_lt h.big) _ _ _ _ _, (keep _ (by have := h.big; omega)).trans h.ds.res⟩, set5_end h.out _ _ _ _ _, h.big, hl.carry fun y hy => keep y (hfar y hy).2, hf.carry fun y hy => keep y (hfar y hy).2, hfar⟩
end

theorem Cur.but {w wr w1 : World} {p : Nat} {a : Option Addr} {len cap : Nat} {G : List Nat} (h : Cur wr p a len cap) (h0 : Cur w p a len cap) (hb : But G wr w1) (hG : ∀ y ∈ G, w.heap.size ≤ y) : Cur w1 p a len cap := by
  obtain ⟨i, x, hi, hc⟩ := h.cur
  have hp := h0.lt
  refine ⟨⟨i, x, hi, (hb.block p h.lt (fun hx => by have := hG p hx; omega)).trans hc⟩, ?_, h.apart⟩
  obtain ⟨hl, h1 | ⟨b, off, rfl, hlt, hcc⟩⟩ := h.code
  · exact ⟨hl, .inl h1⟩
  · obtain ⟨-, h1 | ⟨b', off', e, hlt', -⟩⟩ := h0.code
    · exact ⟨hl, .inl h1⟩
    injection e with e
    injection e with e1 e2
    subst e1
    refine ⟨hl, .inr ⟨b, off, rfl, Nat.lt_of_lt_of_le hlt hb.size, fun j hj => ?_⟩⟩
    obtain ⟨z, hz, hcell⟩ := hcc j hj
    exact ⟨z, hz, (hb.cell hlt (fun hx => by have := hG b hx; omega) _).trans hcell⟩

theorem grown_but {w wr w1 : World} {p : Nat} {G : List Nat} (h : w.grownBy wr (some p)) (hb : But G wr w1) (hG : ∀ y ∈ G, w.heap.size ≤ y) : w.grownBy w1 (some p) :=
  ⟨hb.os.trans h.os, hb.tape.trans h.tape, hb.output.trans h.output, Nat.le_trans h.size hb.size, fun k hk hne => (hb.block k (Nat.lt_of_lt_of_le hk h.size) (fun hx => by have := hG k hx; omega)).trans (h.block k hk hne)⟩

/-- One tree more in its list. -/
theorem DL.app {w wr w1 : World} {p : Nat} {a : Option Addr} {len cap : Nat} {B : Nat} {T : RT} {kv dv : Value} {FK FD : List Nat} (h : DL w wr p a len cap B T kv dv (FK ++ FD)) (h0 : Cur w p a len cap) (hK : StrsAt wr kv T.keys FK) (hb : But FD wr w1) {v' : Value} {X : RT} {F2 : List Nat} (hk : KidsLie w1 v' (T.kids ++ [X]) F2) (hf : Fresh w w1 F2) (hm : ∀ y ∈ F2, y ∈ FD ∨ (y ∉ FK ∧ y ≠ B ∧ w.heap.size < y)) :
    w1.heap[B]? = some (.cells #[.int .i64 T.k, .int .i64 T.n, .string T.s, kv, dv] 27 (0, 0)) ∧ DL w (w1.setCell ⟨B, 4, none⟩ v') p a len cap B (.node T.k T.n T.s T.keys (T.kids ++ [X])) kv v' (FK ++ F2) := by
  have hBD : B ∉ FD := fun hx => (h.far B (List.mem_append_right _ hx)).2 rfl
  have hKD := nodup_of h.fresh.nodup
  have hG : ∀ y ∈ FD, w.heap.size ≤ y := fun y hy => Nat.le_of_lt (h.far y (List.mem_append_right _ hy)).1
  have hout := (hb.block B h.lt hBD).trans h.out
  have hK1 := hK.carry (w' := w1) fun y hy => hb.block y (hK.lt y hy) (hKD y hy)
  have keep : ∀ y, y ≠ B → (w1.setCell ⟨B, 4, none⟩ v').heap[y]? = w1.heap[y]? := fun y hy => Below.heap_setCell _ _ _ _ hy
  have hfarK : ∀ y ∈ FK, w.heap.size < y ∧ y ≠ B := fun y hy => h.far y (List.mem_append_left _ hy)
  have hfar2 : ∀ y ∈ F2, w.heap.size < y ∧ y ≠ B := fun y hy => by
    rcases hm y hy with e | e
    · exact h.far y (List.mem_append_right _ e)
    · exact ⟨e.2.2, e.2.1⟩
  have hbS : But [B] w1 (w1.setCell ⟨B, 4, none⟩ v') := (But.refl [B] w1).set (p := ⟨B, 4, none⟩) (by simp) v'
  have hBG : ∀ y ∈ [B], w.heap.size ≤ y := fun y hy => by simp at hy; subst hy; exact Nat.le_of_lt h.big
  obtain ⟨f1, f2, f3, -⟩ := h.lie.out
  refine ⟨hout, ⟨((h.ds.cur.but h0 hb hG).but h0 hbS hBG), grown_but (grown_but h.ds.grown hb hG) hbS hBG, (keep _ (by have := h.big; omega)).trans ((hb.block _ h.ds.lt (fun hx => by have := (h.far _ (List.mem_append_right _ hx)).1; omega)).trans h.ds.res)⟩, heap_set hout 4 v', h.big, ?_, ⟨?_, fun y hy => ?_, fun y hy o => ?_⟩, fun y hy => ?_⟩
  · exact Lies.into f1 f2 f3 (hK1.carry fun y hy => keep y (hfarK y hy).2) (hk.carry fun y hy => keep y (hfar2 y hy).2)
  · refine List.nodup_append.2 ⟨(List.nodup_append.1 h.fresh.nodup).1, hf.nodup, fun x hx y hy e => ?_⟩
    subst e
    rcases hm x hy with e | e
    · exact hKD x hx e
    · exact e.1 hx
  · rcases List.mem_append.1 hy with hy | hy
    · exact Nat.le_of_lt (hfarK y hy).1
    · exact hf.old y hy
  · rw [frozen_set]
    rcases List.mem_append.1 hy with hy | hy
    · exact (hb.free y (hK.lt y hy) o).trans (h.fresh.free y (List.mem_append_left _ hy) o)
    · exact hf.free y hy o
  · rcases List.mem_append.1 hy with hy | hy
    · exact hfarK y hy
    · exact hfar2 y hy

/-- One tree more: as the program's words run. -/
theorem DL.more {w wr : World} {p : Nat} {a : Option Addr} {len cap : Nat} {B : Nat} {T : RT} {kv dv : Value} {F : List Nat} (h : DL w wr p a len cap B T kv dv F) (h0 : Cur w p a len cap) {X : RT} {kx dx : Value} {FX : List Nat} (hX : Lies wr X kx dx FX) (hfX : Fresh w wr FX) (hd : ∀ x ∈ FX, x ∉ F ∧ w.heap.size < x ∧ x ≠ B) (hn : T.kids.length ≤ 1048576) (ty : TypeId) :
    ∃ v' w', (Builtin.append_ #[25, 25] ty #[dv, .slice (some ⟨wr.heap.size, 0, none⟩) 1 1]).run Tryz.prog (wr.alloc (.cells #[.int .i64 X.k, .int .i64 X.n, .string X.s, kx, dx] 27)) = .ok v' w' ∧
      ∃ o' c' G, v' = .slice o' (T.kids.length + 1) c' ∧ w'.heap[B]? = some (.cells #[.int .i64 T.k, .int .i64 T.n, .string T.s, kv, dv] 27 (0, 0)) ∧
        DL w (w'.setCell ⟨B, 4, none⟩ (.slice o' (T.kids.length + 1) c')) p a len cap B (.node T.k T.n T.s T.keys (T.kids ++ [X])) kv (.slice o' (T.kids.length + 1) c') G := by
  obtain ⟨-, -, -, FK, FD, hK, hD, rfl⟩ := h.lie.out
  have hba := (Below.refl _ wr).alloc (Nat.le_refl _) (.cells #[.int .i64 X.k, .int .i64 X.n, .string X.s, kx, dx] 27)
  have h5 := h.next hba
  have hsz := h.ds.grown.size
  have hsz2 := hba.size
  have hBl := h.lt
  obtain ⟨v', w', hr, o', c', rfl, hb, F2, k1, k2, k3⟩ := append_kid (w := w) (hD.stay hba (Nat.le_refl _)) ⟨(List.nodup_append.1 h5.fresh.nodup).2.1, fun y hy => h5.fresh.old y (List.mem_append_right _ hy), fun y hy => h5.fresh.free y (List.mem_append_right _ hy)⟩ (hX.stay hba (Nat.le_refl _)) (hfX.carry fun y hy => hba.block y (hX.lt y hy)) (fun x hx hx' => (hd x hx).1 (List.mem_append_right _ hx')) (heap_last wr _) hn (by omega) ty
  obtain ⟨g1, g2⟩ := h5.app h0 (hK.stay hba (Nat.le_refl _)) hb k1 k2 (fun y hy => by
    rcases k3 y hy with e | e | e
    · exact .inl e
    · exact .inr ⟨fun hx => (hd y e).1 (List.mem_append_left _ hx), (hd y e).2.2, (hd y e).2.1⟩
    · exact .inr ⟨fun hx => by have := hK.lt y hx; omega, by omega, by have := h.big; omega⟩)
  exact ⟨_, w', hr, o', c', _, rfl, g1, g2⟩

theorem bnd_more {T X : RT} {d j : Nat} (hT : T.wz ≤ j * (bnd d + 30) + 21) (hX : X.wz ≤ bnd d) : (RT.node T.k T.n T.s T.keys (T.kids ++ [X])).wz ≤ (j + 1) * (bnd d + 30) + 21 := by
  have e : T.wz = 21 + 2 * T.s.size + (4 * T.keys.length + 2 * strSz T.keys) + (T.kids.length + wzAll T.kids) := by cases T; rfl
  rw [Nat.succ_mul]
  simp only [RT.wz, List.length_append, List.length_singleton, wzAll_append, wzAll]
  omega

theorem bnd_max {d : Nat} (h : d ≤ 3) : bnd d ≤ 10000 := by
  obtain rfl | rfl | rfl | rfl : d = 0 ∨ d = 1 ∨ d = 2 ∨ d = 3 := by omega
  all_goals decide

/-- How great the tree is behind so many rounds. -/
theorem bnd_step {T X : RT} {key : ByteArray} {d j : Nat} (hT : T.wz ≤ j * (bnd d + 30) + 21) (hX : X.wz ≤ bnd d) (hk : key.size ≤ 12) : (setT T key X).wz ≤ (j + 1) * (bnd d + 30) + 21 := by
  have := setT_wz T X key
  rw [Nat.succ_mul]
  omega

set_option maxRecDepth 100000 in
set_option maxHeartbeats 4000000 in
theorem draw_succ (d : Nat) (hd : d ≤ 3) (ih : DrawAt d) : DrawAt (d + 1) := fun a len cap p w hc => by
  have HC := Lib.hid hc
  have HD := Lib.hid (DS.start hc)
  have hp : Hid (p < w.heap.size) := hc.lt
  have HI := Lib.hid ih
  have hd0 : ¬ (((d + 1 : Nat) : Int) = 0) := by omega
  have hd1 : ((d + 1 : Nat) : Int) - 1 = (d : Int) := by omega
  clear hc ih
  generalize hdd : ((d + 1 : Nat) : Int) = dd at *
  have hdr : 0 < dd ∧ dd ≤ 4 := by omega
  clear hdd
  have t1 : True := trivial
  go_enter Tryz.func32, Tryz.ntmps32
  go_upto_region 4 with (first
    | (go_at_call 34; clear t1; refine (below_any 6 (by omega) (by omega) a len cap p _ HD.out.cur.cur HD.out.cur.code HD.out.cur.apart).mono ?_; rintro e w1 ⟨⟨r2, hr2, rfl⟩, hc1, ho1⟩; replace HD := Lib.hid (HD.out.draw hp.out (HD.out.cur.only hc1 ho1) ho1.grown); clear hc1 ho1)
    | fail)
  obtain ⟨z0, z1, z2, z3, z4, z5⟩ := five HD.out.res
  obtain hlo | hhi : r2 < 4 ∨ (r2 = 4 ∨ r2 = 5) := by omega
  · obtain rfl | rfl | rfl | rfl : r2 = 0 ∨ r2 = 1 ∨ r2 = 2 ∨ r2 = 3 := by omega
    · clear z0 z1 z2 z3 z4 z5
      obtain ⟨z0, z1, z2, z3, z4, z5⟩ := five HD.out.res
      have HE := Lib.hid (HD.out.fin HC.out (leaf_lies _ (k := 0) (n := 0) (s := ⟨#[]⟩) ⟨by decide, by decide⟩ ⟨by decide, by decide⟩ (by decide)) (Fresh.nil _ _) (by simp))
      go_wp2
      exact bodyPost_ret (ret_node Tryz.results32 rfl HE.out.1) rfl ⟨_, _, _, _, rfl, HE.out.2.1, HE.out.2.2.1, HE.out.2.2.2.1, HE.out.2.2.2.2, leaf_bnd _ _ _ (by decide) _⟩
    · clear z0 z1 z2 z3 z4 z5
      go_wp2_with (first
        | (go_at_call 33; refine (once_any 2 (by omega) (by omega) a len cap p _ HD.out.cur).mono ?_; rintro e w3 ⟨⟨b, rfl⟩, hc3, ho3⟩; replace HD := Lib.hid (HD.out.draw hp.out hc3 ho3.grown); clear hc3 ho3)
        | fail)
      obtain ⟨n, hn, HFl⟩ : ∃ n : Int, Fit n ∧ Hid (∀ w : World, Calls Tryz.prog 60 #[.bool b] w fun e w' => e = .returned (.agg #[.int .i64 1, .int .i64 n, .string ⟨#[]⟩, .slice none 0 0, .slice none 0 0]) ∧ Below w.heap.size w w') := by
        cases b
        · exact ⟨0, ⟨by decide, by decide⟩, fun w => spec_flagOf_false w⟩
        · exact ⟨1, ⟨by decide, by decide⟩, fun w => spec_flagOf_true w⟩
      refine (HFl.out _).mono ?_
      rintro e w4 ⟨rfl, hb4⟩
      replace HD := Lib.hid (HD.out.next hb4)
      clear hb4 HFl
      obtain ⟨z0, z1, z2, z3, z4, z5⟩ := five HD.out.res
      have HE := Lib.hid (HD.out.fin HC.out (leaf_lies _ (k := 1) (n := n) (s := ⟨#[]⟩) ⟨by decide, by decide⟩ hn (by decide)) (Fresh.nil _ _) (by simp))
      go_wp2
      exact bodyPost_ret (ret_node Tryz.results32 rfl HE.out.1) rfl ⟨_, _, _, _, rfl, HE.out.2.1, HE.out.2.2.1, HE.out.2.2.2.1, HE.out.2.2.2.2, leaf_bnd _ _ _ (by decide) _⟩
    · clear z0 z1 z2 z3 z4 z5
      go_wp2_with (first
        | (go_at_call 35; refine (pickInt_laid Fit [0, 7, -3, 1000, 1000000000000] _ rfl _ _ rfl (by decide) (by decide) (by unfold Fit; decide) a len cap p _ rfl HD.out.cur).mono ?_; rintro e w3 ⟨⟨n, hn, rfl⟩, hc3, hg3⟩; replace HD := Lib.hid (HD.out.draw hp.out hc3 hg3); clear hc3 hg3)
        | fail)
      refine (spec_intOf _ _).mono ?_
      rintro e w4 ⟨rfl, hb4⟩
      replace HD := Lib.hid (HD.out.next hb4)
      clear hb4
      obtain ⟨z0, z1, z2, z3, z4, z5⟩ := five HD.out.res
      have HE := Lib.hid (HD.out.fin HC.out (leaf_lies _ (k := 2) (n := n) (s := ⟨#[]⟩) ⟨by decide, by decide⟩ hn (by decide)) (Fresh.nil _ _) (by simp))
      go_wp2
      exact bodyPost_ret (ret_node Tryz.results32 rfl HE.out.1) rfl ⟨_, _, _, _, rfl, HE.out.2.1, HE.out.2.2.1, HE.out.2.2.2.1, HE.out.2.2.2.2, leaf_bnd _ _ _ (by decide) _⟩
    · clear z0 z1 z2 z3 z4 z5
      go_wp2_with (first
        | (go_at_call 63; refine (drawText_any a len cap p _ HD.out.cur).mono ?_; rintro e w3 ⟨⟨s, hs, rfl⟩, hc3, hg3⟩; replace HD := Lib.hid (HD.out.draw hp.out hc3 hg3); clear hc3 hg3)
        | fail)
      refine (spec_textOf _ _).mono ?_
      rintro e w4 ⟨rfl, hb4⟩
      replace HD := Lib.hid (HD.out.next hb4)
      clear hb4
      obtain ⟨z0, z1, z2, z3, z4, z5⟩ := five HD.out.res
      have HE := Lib.hid (HD.out.fin HC.out (leaf_lies _ (k := 3) (n := 0) (s := s) ⟨by decide, by decide⟩ ⟨by decide, by decide⟩ (by unfold maxLen; omega)) (Fresh.nil _ _) (by simp))
      go_wp2
      exact bodyPost_ret (ret_node Tryz.results32 rfl HE.out.1) rfl ⟨_, _, _, _, rfl, HE.out.2.1, HE.out.2.2.1, HE.out.2.2.2.1, HE.out.2.2.2.2, leaf_bnd _ _ _ (by omega) _⟩
  · clear z0 z1 z2 z3 z4 z5
    replace hhi : (r2 : Int) = 4 ∨ (r2 : Int) = 5 := by omega
    clear hr2
    generalize (r2 : Int) = K at *
    clear r2
    have hk : Hid (Fit K) := ⟨by omega, by omega⟩
    have n0 : ¬ (K = 0) := by omega
    have n1 : ¬ (K = 1) := by omega
    have n2 : ¬ (K = 2) := by omega
    have n3 : ¬ (K = 3) := by omega
    have HL := Lib.hid (DL.start HD.out K hk.out)
    go_wp2_with (first
      | (go_at_call 34; refine (below_any 4 (by omega) (by omega) a len cap p _ HL.out.ds.cur.cur HL.out.ds.cur.code HL.out.ds.cur.apart).mono ?_; rintro e w2 ⟨⟨n, hn, rfl⟩, hc1, ho1⟩; replace HL := Lib.hid (HL.out.draw hp.out (HL.out.ds.cur.only hc1 ho1) ho1.grown); clear hc1 ho1)
      | fail)
    go_loopw [8] (fun i wr => ∃ (j : Nat) (T : RT) (kv dv : Value) (F : List Nat), j ≤ n ∧ i = .int .i64 j ∧ Hid (DL w wr p a len cap w1.heap.size T kv dv F ∧ T.wz ≤ j * (bnd d + 30) + 21)) (fun i _ => n - (intOf i).toNat)
    case atStart => exact ⟨0, _, _, _, _, Nat.zero_le _, rfl, HL.out, by have : (RT.node K 0 ⟨#[]⟩ [] []).wz = 21 := rfl; omega⟩
    case round =>
      obtain ⟨j, T, kv, dv, F, hj, rfl, hr⟩ := hrel
      by_cases hlt : j < n
      · have HX := Lib.hid (HI.out a len cap p wr hr.out.1.ds.cur)
        go_upto_region 19 with (first
          | (go_at_call 32; refine HX.out.mono ?_; rintro e w3 ⟨X, kx, dx, FX, rfl, hlX, hfX, hcX, hgX, hszX⟩; obtain ⟨⟨o1, q1, rfl⟩, ⟨o2, q2, rfl⟩⟩ := hlX.slices
             have hba := (Below.refl _ w3).alloc (Nat.le_refl _) (.cells #[.int .i64 X.k, .int .i64 X.n, .string X.s, .slice o1 X.keys.length q1, .slice o2 X.kids.length q2] 27)
             have HA := Lib.hid (And.intro ((hr.out.1.draw hp.out hcX hgX).next hba) (And.intro (hlX.stay hba (Nat.le_refl _)) (And.intro ((hfX.carry fun y hy => hba.block y (hlX.lt y hy))) (And.intro (heap_last w3 (.cells #[.int .i64 X.k, .int .i64 X.n, .string X.s, .slice o1 X.keys.length q1, .slice o2 X.kids.length q2] 27)) (And.intro hlX.lt hgX.size)))))
             have HZ : Hid (T.wz ≤ j * (bnd d + 30) + 21 ∧ X.wz ≤ bnd d ∧ wr.heap.size ≤ w3.heap.size) := ⟨hr.out.2, hszX, hgX.size⟩
             have HB : Hid (∀ y ∈ F, y < wr.heap.size) := hr.out.1.lie.lt
             have HBl := Lib.hid hr.out.1.lt
             have HWl := Lib.hid hr.out.1.ds.lt
             clear hlX hfX hcX hgX hszX hba)
          | fail)
        generalize w3.alloc (.cells #[.int .i64 X.k, .int .i64 X.n, .string X.s, .slice o1 X.keys.length q1, .slice o2 X.kids.length q2] 27) = w4 at *
        generalize w3.heap.size = xb at *
        clear w3 hr HX
        obtain ⟨⟨o3, q3, rfl⟩, ⟨o4, q4, rfl⟩⟩ := HA.out.1.lie.slices
        obtain ⟨x0, x1, x2, x3, x4, x5⟩ := five HA.out.1.out
        obtain ⟨y0, y1, y2, y3, y4, -⟩ := five HA.out.2.2.2.1
        rcases hhi with rfl | rfl
        · have HM := Lib.hid (HA.out.1.more HC.out HA.out.2.1 (HA.out.2.2.1.earlier (Nat.le_of_lt HWl.out)) (fun x hx => by
              have h1 := HA.out.2.2.1.old x hx
              have h2 := HWl.out
              have h3 := HBl.out
              exact ⟨fun hx' => by have := HB.out x hx'; omega, by omega, by omega⟩) (by
              have h1 := HZ.out.1
              have h2 : j * (bnd d + 30) ≤ 3 * (bnd d + 30) := Nat.mul_le_mul_right _ (by omega)
              have h3 := bnd_max hd
              have h4 : T.kids.length ≤ T.wz := by cases T; simp only [RT.wz, RT.kids]; omega
              omega))
          have HZ2 := Lib.hid (bnd_more HZ.out.1 HZ.out.2.1)
          go_wp2_with (first
            | (at_builtin; refine list_append_run rfl _ _ 25 rfl _ _ rfl rfl (HM.out _) ?_
               rintro v5 w5 ⟨o5, c5, G, rfl, hB5, hD5⟩
               obtain ⟨m0, m1, m2, m3, m4, m5⟩ := five hB5
               have H5 := Lib.hid hD5
               clear hB5 hD5)
            | fail)
          go_roundw
          case rel => exact ⟨j + 1, _, _, _, _, by omega, by go_num, H5.out, HZ2.out⟩
          case measure => simp [intOf]; omega
        · have HKy : Hid (∀ W, Cur W p a len cap → Calls Tryz.prog 65 #[.pointer (some ⟨p, 0, none⟩)] W fun e w' => ∃ v, e = .returned v ∧ ∃ key : ByteArray, v = .string key ∧ key.size ≤ 12 ∧ Cur w' p a len cap ∧ W.grownBy w' (some p)) := fun W hW => by
            refine (drawKey_any a len cap p W hW).mono ?_
            rintro e w' ⟨⟨v, hv, rfl⟩, h1, h2⟩
            exact ⟨_, rfl, v, rfl, hv, h1, h2⟩
          have HSt : Hid (∀ (W : World) (key : ByteArray) (G FG : List Nat), Lies W T (.slice o3 T.keys.length q3) (.slice o4 T.kids.length q4) G → Lies W X (.slice o1 X.keys.length q1) (.slice o2 X.kids.length q2) FG → key.size ≤ 12 → Calls Tryz.prog 64 #[.agg #[.int .i64 T.k, .int .i64 T.n, .string T.s, .slice o3 T.keys.length q3, .slice o4 T.kids.length q4], .string key, .agg #[.int .i64 X.k, .int .i64 X.n, .string X.s, .slice o1 X.keys.length q1, .slice o2 X.kids.length q2]] W fun e w' => ∃ v, e = .returned v ∧ ∃ R kr dr GR, v = .agg #[.int .i64 R.k, .int .i64 R.n, .string R.s, kr, dr] ∧ Lies w' R kr dr GR ∧ Fresh W w' GR ∧ Below W.heap.size W w' ∧ R.wz ≤ (j + 1) * (bnd d + 30) + 21) := fun W key G FG h1 h2 h3 => by
            have hb3 := bnd_max hd
            have hjb : j * (bnd d + 30) ≤ 3 * (bnd d + 30) := Nat.mul_le_mul_right _ (by omega)
            have hTs := HZ.out.1
            have hXs := HZ.out.2.1
            have hTz := wz_sz T
            have hXz := wz_sz X
            refine (spec_set T X key W _ _ _ _ G FG h1 h2 (by omega) (by omega) (by unfold maxLen; omega)).mono ?_
            rintro e w' ⟨kr, dr, GR, rfl, g1, g2, g3⟩
            exact ⟨_, rfl, setT T key X, kr, dr, GR, rfl, g1, g2, g3, bnd_step hTs hXs h3⟩
          go_upto_region 20 with fail
          have HS := Lib.hid (And.intro (HA.out.1.next (below_drewN (Below.refl _ w4) 1)) (And.intro (HA.out.2.1.stay (below_drewN (Below.refl w4.heap.size w4) 1) (Nat.le_refl _)) (HA.out.2.2.2.1)))
          go_region_law (first
            | (refine step_calls (by rfl) 65 _ _ (by rfl) #[.pointer (some ⟨p, 0, none⟩)] (by simp [Act.eval, Act.put]) (by intros; simp [go_sem]) (fun _ _ => rfl) (HKy.out _ HS.out.1.ds.cur) ?_
               rintro u w5 ⟨key, rfl, hkey, hc5, hg5⟩
               have hX5 : Lies w5 X (.slice o1 X.keys.length q1) (.slice o2 X.kids.length q2) FX := HS.out.2.1.carry fun y hy => hg5.block y (HS.out.2.1.lt y hy) (fun e => by injection e with e; have h1 := HA.out.2.2.1.old y hy; have h2 := HWl.out; have h3 := hp.out; omega)
               have hb5 := (hg5.block xb (by exact (Array.getElem?_eq_some_iff.1 HA.out.2.2.2.1).1) (fun e => by injection e with e; have h1 := HA.out.2.2.2.2.2; have h2 := HWl.out; have h3 := hp.out; omega)).trans HA.out.2.2.2.1
               have H5 := Lib.hid (And.intro (HS.out.1.draw hp.out hc5 hg5) (And.intro hX5 (And.intro hb5 hg5.size)))
               obtain ⟨xx0, xx1, xx2, xx3, xx4, -⟩ := five H5.out.1.out
               obtain ⟨yy0, yy1, yy2, yy3, yy4, -⟩ := five H5.out.2.2.1
               clear hc5 hg5 hX5 hb5)
            | (refine step_calls (by rfl) 64 _ _ (by rfl) #[.agg #[.int .i64 T.k, .int .i64 T.n, .string T.s, .slice o3 T.keys.length q3, .slice o4 T.kids.length q4], .string key, .agg #[.int .i64 X.k, .int .i64 X.n, .string X.s, .slice o1 X.keys.length q1, .slice o2 X.kids.length q2]] (by simp [Act.eval]) (by intros; simp [go_sem]) (fun _ _ => rfl) (HSt.out w5 key _ _ H5.out.1.lie H5.out.2.1 hkey) ?_
               rintro u w6 ⟨R, kr, dr, GR, rfl, hl6, hf6, hb6, hsz6⟩
               obtain ⟨⟨o5, q5, rfl⟩, ⟨o6, q6, rfl⟩⟩ := hl6.slices
               have hL6 := H5.out.1.next hb6
               obtain ⟨m0, m1, m2, m3, m4, m5⟩ := five hL6.out
               have H7 := Lib.hid (And.intro (hL6.put HC.out hl6 (hf6.earlier (by have := H5.out.1.ds.grown.size; omega)) (fun y hy => by have h1 := hf6.old y hy; have h2 := H5.out.1.lt; have h3 := H5.out.1.big; omega)) hsz6)
               clear hl6 hf6 hb6 hsz6 hL6)
            | fail)
          all_goals
            go_wp2
            go_roundw
            case rel => exact ⟨j + 1, R, _, _, GR, by omega, by go_num, H7.out.1, H7.out.2⟩
            case measure => simp [intOf]; omega
      · have e : j = n := by omega
        subst e
        have HE := Lib.hid (hr.out.1.ds.fin HC.out hr.out.1.lie hr.out.1.fresh (fun hx => by have := (hr.out.1.far _ hx).1; omega))
        have HZ : Hid (T.wz ≤ bnd (d + 1)) := by
          have h1 := hr.out.2
          show _ ≤ _
          rw [bnd]
          have : j * (bnd d + 30) ≤ 3 * (bnd d + 30) := Nat.mul_le_mul_right _ (by omega)
          omega
        obtain ⟨x0, x1, x2, x3, x4, -⟩ := five hr.out.1.out
        obtain ⟨z0, z1, z2, z3, z4, z5⟩ := five hr.out.1.ds.res
        obtain ⟨⟨o1, q1, rfl⟩, ⟨o2, q2, rfl⟩⟩ := hr.out.1.lie.slices
        have ne1 : ¬ (w.heap.size = w1.heap.size) := by have := hr.out.1.big; omega
        have ne2 : ¬ (w1.heap.size = w.heap.size) := by omega
        go_wp2
        exact bodyPost_ret (ret_node Tryz.results32 rfl HE.out.1) rfl ⟨_, _, _, _, rfl, HE.out.2.1, HE.out.2.2.1, HE.out.2.2.2.1, HE.out.2.2.2.2, HZ.out⟩

theorem draw_one : DrawAt 1 := draw_succ 0 (by omega) draw_zero
theorem draw_three : DrawAt 3 := draw_succ 2 (by omega) (draw_succ 1 (by omega) draw_one)
end Go.Proofs.YtmcjghhmcmkomaaGreatDoor

/- a pointer into a tree that lies in memory of its own: whatever the node behind it becomes, there is a tree again, and not much greater. -/
namespace Go.Proofs.YtmcjghhmcmkomaaGreatDoor
open Go Go.RowKit

/-- From wr to w' nothing has turned of what was made since w but the node's five cells and the blocks F. -/
structure Same (w wr w' : World) (nb no : Nat) (F : List Nat) : Prop where
  size : wr.heap.size ≤ w'.heap.size
  block : ∀ y, w.heap.size ≤ y → y < wr.heap.size → y ∉ F → y ≠ nb → w'.heap[y]? = wr.heap[y]?
  free : ∀ o, w'.frozen? ⟨nb, o, none⟩ = wr.frozen? ⟨nb, o, none⟩
  room : ∀ o, (wr.cell? ⟨nb, o, none⟩).isSome = true → (w'.cell? ⟨nb, o, none⟩).isSome = true
  cell : ∀ o, (o < no ∨ no + 5 ≤ o) → w'.cell? ⟨nb, o, none⟩ = wr.cell? ⟨nb, o, none⟩

/-- Whatever comes to lie in the node's five cells: the tree behind block B is one again. -/
def Plug (w wr : World) (B nb no M : Nat) (FN : List Nat) : Prop :=
  ∀ (w' : World) (N : RT) (kn dn : Value) (G : List Nat), Same w wr w' nb no FN → (∀ j, j < 5 → w'.cell? ⟨nb, no + j, none⟩ = (N.row kn dn)[j]?) → Lies w' N kn dn G → Fresh w w' G → (∀ y ∈ G, y ∈ FN ∨ wr.heap.size ≤ y) →
    ∃ T kt dt F, (∀ j, j < 5 → w'.cell? ⟨B, j, none⟩ = (T.row kt dt)[j]?) ∧ Lies w' T kt dt F ∧ Fresh w w' F ∧ B ∉ F ∧ T.wz ≤ M + N.wz

theorem Plug.root {w wr : World} {B : Nat} {FN : List Nat} (hB : B ∉ FN) (hl : B < wr.heap.size) : Plug w wr B B 0 0 FN := fun w' N kn dn G hs hc hl' hf hG => by
  refine ⟨N, kn, dn, G, fun j hj => ?_, hl', hf, fun h => ?_, by omega⟩
  · have := hc j hj
    rwa [Nat.zero_add] at this
  · rcases hG B h with e | e
    · exact hB e
    · omega

theorem Same.back {w wr w1 w' : World} {nb no : Nat} {F : List Nat} (h : Same w w1 w' nb no F) (hs : wr.heap.size ≤ w1.heap.size) (hb : ∀ y, w.heap.size ≤ y → y < wr.heap.size → w1.heap[y]? = wr.heap[y]?) (hn : w.heap.size ≤ nb) (hl : nb < wr.heap.size) : Same w wr w' nb no F := by
  refine ⟨Nat.le_trans hs h.size, fun y h1 h2 h3 h4 => (h.block y h1 (by omega) h3 h4).trans (hb y h1 h2), fun o => (h.free o).trans (World.frozen?_of_block (w := wr) (hb nb hn hl)), fun o ho => h.room o ?_, fun o ho => (h.cell o ho).trans (World.cell?_of_block (w := wr) (a := ⟨nb, o, none⟩) (hb nb hn hl))⟩
  rw [World.cell?_of_block (w := wr) (a := ⟨nb, o, none⟩) (hb nb hn hl)]
  exact ho

theorem Plug.later {w wr w1 : World} {B nb no M : Nat} {F : List Nat} (h : Plug w wr B nb no M F) (hs : wr.heap.size ≤ w1.heap.size) (hb : ∀ y, w.heap.size ≤ y → y < wr.heap.size → w1.heap[y]? = wr.heap[y]?) (hn : w.heap.size ≤ nb) (hl : nb < wr.heap.size) : Plug w w1 B nb no M F :=
  fun w' N kn dn G h1 h2 h3 h4 h5 => h w' N kn dn G (h1.back hs hb hn hl) h2 h3 h4 (fun y hy => (h5 y hy).imp id (fun e => Nat.le_trans hs e))

/-- One step further into the tree. -/
theorem Plug.step {w wr : World} {B nb no M : Nat} {N : RT} {kn : Value} {FK : List Nat} {cap b off : Nat} {FF : Nat → List Nat} {KV DV : Nat → Value} {o : Option Addr}
    (hp : Plug w wr B nb no M (FK ++ ([b] ++ (List.range N.kids.length).flatMap FF))) (hc : ∀ j, j < 5 → wr.cell? ⟨nb, no + j, none⟩ = (N.row kn (.slice o N.kids.length cap))[j]?) (f1 : Fit N.k) (f2 : Fit N.n) (f3 : N.s.size ≤ maxLen) (hK : StrsAt wr kn N.keys FK)
    (h1 : N.kids.length ≤ cap) (h2 : cap ≤ maxLen) (h3 : o = some ⟨b, off, none⟩) (h4 : ∀ i (h : i < N.kids.length), ∀ j, j < 5 → wr.cell? ⟨b, off + i * 5 + j, none⟩ = (N.kids[i].row (KV i) (DV i))[j]?) (h5 : ∀ i (h : i < N.kids.length), Lies wr N.kids[i] (KV i) (DV i) (FF i)) (h6 : Room wr b off (cap * 5))
    (hf : Fresh w wr (FK ++ ([b] ++ (List.range N.kids.length).flatMap FF))) (hnb : nb ∉ FK ++ ([b] ++ (List.range N.kids.length).flatMap FF)) (hnl : nb < wr.heap.size) (hno : w.heap.size ≤ nb) {i : Nat} (hi : i < N.kids.length) :
    Fresh w wr (FF i) ∧ b ∉ FF i ∧ b < wr.heap.size ∧ w.heap.size ≤ b ∧ (∀ o, wr.frozen? ⟨b, o, none⟩ = false) ∧ Plug w wr B b (off + i * 5) (M + (N.wz - N.kids[i].wz)) (FF i) := by
  have hin : ∀ j, j < N.kids.length → ∀ y ∈ FF j, y ∈ (List.range N.kids.length).flatMap FF := fun j hj y hy => List.mem_flatMap.2 ⟨j, List.mem_range.2 hj, hy⟩
  have hbF : b ∈ FK ++ ([b] ++ (List.range N.kids.length).flatMap FF) := by simp
  have hbl : b < wr.heap.size := h6.lt (by omega)
  obtain ⟨n1, n2, n3⟩ := List.nodup_append.1 hf.nodup
  have n4 : b ∉ (List.range N.kids.length).flatMap FF := (List.nodup_cons.1 n2).1
  have n5 : ((List.range N.kids.length).flatMap FF).Nodup := (List.nodup_cons.1 n2).2
  have hKb : ∀ y ∈ FK, y ≠ b ∧ y ∉ (List.range N.kids.length).flatMap FF := fun y hy => ⟨fun e => n3 y hy b (by simp) e, fun e => n3 y hy y (List.mem_append_right _ e) rfl⟩
  have hcut := flat_cut FF (i := i) (n := N.kids.length) (by omega)
  have hcut2 : (List.range (N.kids.length - i)).flatMap (fun j => FF (i + j)) = FF i ++ (List.range (N.kids.length - i - 1)).flatMap (fun j => FF (i + 1 + j)) := by
    obtain ⟨m, hm⟩ : ∃ m, N.kids.length - i = 1 + m := ⟨N.kids.length - i - 1, by omega⟩
    rw [hm, List.range_add, List.flatMap_append, List.flatMap_map, Nat.add_sub_cancel_left]
    congr 1
    · simp
    · exact Go.Deep.flatMap_congr_range fun j _ => by congr 1; omega
  have n6 := n5
  rw [hcut, hcut2] at n6
  obtain ⟨m1, m2, m3⟩ := List.nodup_append.1 n6
  obtain ⟨m4, m5, m6⟩ := List.nodup_append.1 m2
  -- what stands in another kid's blocks stands in none of this one's
  have hother : ∀ j, j < N.kids.length → j ≠ i → ∀ y ∈ FF j, y ∉ FF i := fun j hj e y hy hy' => by
    by_cases hlt : j < i
    · exact m3 y (List.mem_flatMap.2 ⟨j, List.mem_range.2 hlt, hy⟩) y (List.mem_append_left _ hy') rfl
    · exact m6 y hy' y (List.mem_flatMap.2 ⟨j - i - 1, List.mem_range.2 (by omega), by rw [show i + 1 + (j - i - 1) = j by omega]; exact hy⟩) rfl
  have hbX : b ∉ FF i := fun e => n4 (hin i hi b e)
  have hnbb : nb ≠ b := fun e => hnb (e ▸ hbF)
  have hnbX : nb ∉ FF i := fun e => hnb (List.mem_append_right _ (List.mem_append_right _ (hin i hi nb e)))
  refine ⟨⟨m4, fun y hy => hf.old y (List.mem_append_right _ (List.mem_append_right _ (hin i hi y hy))), fun y hy => hf.free y (List.mem_append_right _ (List.mem_append_right _ (hin i hi y hy)))⟩, hbX, hbl, hf.old b hbF, hf.free b hbF, ?_⟩
  intro w' X kx dx G hs hcX hX hfX hG
  have keepK : ∀ y ∈ FK, w'.heap[y]? = wr.heap[y]? := fun y hy => hs.block y (hf.old y (List.mem_append_left _ hy)) (hK.lt y hy) (fun e => (hKb y hy).2 (hin i hi y e)) (hKb y hy).1
  have keepF : ∀ j, (hj : j < N.kids.length) → j ≠ i → ∀ y ∈ FF j, w'.heap[y]? = wr.heap[y]? := fun j hj e y hy => hs.block y (hf.old y (List.mem_append_right _ (List.mem_append_right _ (hin j hj y hy)))) ((h5 j hj).lt y hy) (hother j hj e y hy) (fun e' => n4 (e' ▸ hin j hj y hy))
  have keepN : w'.heap[nb]? = wr.heap[nb]? := hs.block nb hno hnl hnbX hnbb
  have hGlt : ∀ y ∈ G, y ∉ FK ∧ y ≠ b ∧ ∀ j, j < N.kids.length → j ≠ i → y ∉ FF j := fun y hy => by
    rcases hG y hy with e | e
    · exact ⟨fun h => (hKb y h).2 (hin i hi y e), fun h => hbX (h ▸ e), fun j hj hne h => hother j hj hne y h e⟩
    · exact ⟨fun h => by have := hK.lt y h; omega, fun h => by omega, fun j hj _ h => by have := (h5 j hj).lt y h; omega⟩
  have hnew : (List.range N.kids.length).flatMap (fun j => if j = i then G else FF j) = (List.range i).flatMap FF ++ G ++ (List.range (N.kids.length - i - 1)).flatMap (fun j => FF (i + 1 + j)) := by
    obtain ⟨m, hm⟩ : ∃ m, N.kids.length = i + 1 + m := ⟨N.kids.length - i - 1, by omega⟩
    rw [hm, List.range_add, List.flatMap_append, List.flatMap_map, List.range_succ, List.flatMap_append, show i + 1 + m - i - 1 = m by omega]
    congr 1
    · congr 1
      · exact Go.Deep.flatMap_congr_range fun j hj => by rw [if_neg (by omega)]
      · simp
    · exact Go.Deep.flatMap_congr_range fun j hj => by rw [if_neg (by omega)]
  have hmem : ∀ y ∈ (List.range N.kids.length).flatMap (fun j => if j = i then G else FF j), y ∈ G ∨ ∃ j, j < N.kids.length ∧ j ≠ i ∧ y ∈ FF j := fun y hy => by
    obtain ⟨j, hj, hy⟩ := List.mem_flatMap.1 hy
    by_cases e : j = i
    · simp only [e, if_true] at hy; exact .inl hy
    · simp only [e, if_false] at hy; exact .inr ⟨j, List.mem_range.1 hj, e, hy⟩
  obtain ⟨T, kt, dt, F, g1, g2, g3, g4, g5⟩ := hp w' (.node N.k N.n N.s N.keys (N.kids.set i X)) kn (.slice o N.kids.length cap) (FK ++ ([b] ++ (List.range N.kids.length).flatMap (fun j => if j = i then G else FF j)))
    ⟨hs.size, fun y a1 a2 a3 a4 => hs.block y a1 a2 (fun e => a3 (List.mem_append_right _ (List.mem_append_right _ (hin i hi y e)))) (fun e => a3 (e ▸ hbF)), fun o => World.frozen?_of_block (w := wr) keepN, fun o ho => by rw [World.cell?_of_block (w := wr) (a := ⟨nb, o, none⟩) keepN]; exact ho, fun o _ => World.cell?_of_block (w := wr) (a := ⟨nb, o, none⟩) keepN⟩
    (fun j hj => (World.cell?_of_block (w := wr) (a := ⟨nb, no + j, none⟩) keepN).trans (hc j hj))
    (by
      refine Lies.into f1 f2 f3 (hK.carry keepK) ⟨o, cap, b, off, (fun j => if j = i then G else FF j), (fun j => if j = i then kx else KV j), (fun j => if j = i then dx else DV j), by rw [List.length_set], by rw [List.length_set]; exact h1, h2, fun _ => h3, by rw [List.length_set, if_neg (by omega)], fun j hj c hcc => ?_, fun j hj => ?_, fun m hm => hs.room _ (h6 m hm)⟩
      · rw [List.length_set] at hj
        rw [List.getElem_set]
        by_cases e : j = i
        · subst e
          simp only [if_true]
          exact hcX c hcc
        · simp only [e, if_false, if_neg (fun h => e h.symm : ¬ i = j)]
          rw [hs.cell (off + j * 5 + c) (by omega)]
          exact h4 j hj c hcc
      · rw [List.length_set] at hj
        rw [List.getElem_set]
        by_cases e : j = i
        · subst e
          simp only [if_true]
          exact hX
        · simp only [e, if_false, if_neg (fun h => e h.symm : ¬ i = j)]
          exact (h5 j hj).carry (keepF j hj e))
    (by
      refine ⟨List.nodup_append.2 ⟨n1, List.nodup_cons.2 ⟨fun hy => ?_, ?_⟩, fun x hx y hy e => ?_⟩, fun y hy => ?_, fun y hy o => ?_⟩
      · rcases hmem b hy with e | ⟨j, hj, hne, e⟩
        · exact (hGlt b e).2.1 rfl
        · exact n4 (hin j hj b e)
      · show ((List.range N.kids.length).flatMap (fun j => if j = i then G else FF j)).Nodup
        rw [hnew]
        refine List.nodup_append.2 ⟨List.nodup_append.2 ⟨m1, hfX.nodup, fun x hx y hy e => ?_⟩, m5, fun x hx y hy e => ?_⟩
        · subst e
          obtain ⟨j, hj, hx⟩ := List.mem_flatMap.1 hx
          have := List.mem_range.1 hj
          exact (hGlt x hy).2.2 j (by omega) (by omega) hx
        · subst e
          rcases List.mem_append.1 hx with hx | hx
          · exact m3 x hx x (List.mem_append_right _ hy) rfl
          · obtain ⟨j, hj, hy⟩ := List.mem_flatMap.1 hy
            have := List.mem_range.1 hj
            exact (hGlt x hx).2.2 (i + 1 + j) (by omega) (by omega) hy
      · subst e
        rcases List.mem_cons.1 (show x ∈ b :: _ from hy) with e | hy
        · exact (hKb x hx).1 e
        · rcases hmem x hy with e | ⟨j, hj, hne, e⟩
          · exact (hGlt x e).1 hx
          · exact (hKb x hx).2 (hin j hj x e)
      · rcases List.mem_append.1 hy with hy | hy
        · exact hf.old y (List.mem_append_left _ hy)
        · rcases List.mem_cons.1 (show y ∈ b :: _ from hy) with e | hy
          · rw [e]; exact hf.old b hbF
          · rcases hmem y hy with e | ⟨j, hj, hne, e⟩
            · exact hfX.old y e
            · exact hf.old y (List.mem_append_right _ (List.mem_append_right _ (hin j hj y e)))
      · rcases List.mem_append.1 hy with hy | hy
        · rw [World.frozen?_of_block (w := wr) (keepK y hy)]
          exact hf.free y (List.mem_append_left _ hy) o
        · rcases List.mem_cons.1 (show y ∈ b :: _ from hy) with e | hy
          · rw [e, hs.free]; exact hf.free b hbF o
          · rcases hmem y hy with e | ⟨j, hj, hne, e⟩
            · exact hfX.free y e o
            · rw [World.frozen?_of_block (w := wr) (keepF j hj hne y e)]
              exact hf.free y (List.mem_append_right _ (List.mem_append_right _ (hin j hj y e))) o)
    (fun y hy => by
      rcases List.mem_append.1 hy with hy | hy
      · exact .inl (List.mem_append_left _ hy)
      · rcases List.mem_cons.1 (show y ∈ b :: _ from hy) with e | hy
        · rw [e]; exact .inl hbF
        · rcases hmem y hy with e | ⟨j, hj, hne, e⟩
          · rcases hG y e with e | e
            · exact .inl (List.mem_append_right _ (List.mem_append_right _ (hin i hi y e)))
            · exact .inr e
          · exact .inl (List.mem_append_right _ (List.mem_append_right _ (hin j hj y e))))
  have := kids_wz N X i hi
  have := kid_wz N i hi
  exact ⟨T, kt, dt, F, g1, g2, g3, g4, by omega⟩
end Go.Proofs.YtmcjghhmcmkomaaGreatDoor
