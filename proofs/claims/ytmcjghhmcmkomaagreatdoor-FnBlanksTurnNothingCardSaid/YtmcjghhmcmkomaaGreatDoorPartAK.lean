/-
  What is proved: plain facts on a tree that is read part by part: what is open, what is to be read still, what it becomes.; slices.Insert at the end of a list of trees, or of texts, that lies in memory of its own; and what is put into a list or a map that is open.; a call of a Go function at a step of a region that draws its order.; what is put into a list that is open.; what is put into a map that is open, under a Key that stands behind all of its own.; plain facts on Keys that ascend: one that stands behind others is above them all, so it is not among them, and it comes to stand at their end.; plain facts on what is open while a braced text is read: a row of levels, each with its own Keys, Kids and the map of Keys that it has seen; that it stays as worlds go on; its last level; one more level, one less.; what the program reads ahead of a Kid: in a list nothing, in a map the Key and what parts it from its Kid.
-/
import Derived.Test.YtmcjghhmcmkomaaGreatDoorPartAJ
import Derived.Test.YtmcjghhmcmkomaaGreatDoorPartAF
import Derived.Test.YtmcjghhmcmkomaaGreatDoorPartAG
import Derived.Test.YtmcjghhmcmkomaaGreatDoorRows
import Derived.WalkKit
import Derived.Deep.RegionHeld3
import Derived.Test.YtmcjghhmcmkomaaGreatDoorPartAH
import Derived.Sort.Walk0
/- plain facts on a tree that is read part by part: what is open, what is to be read still, what it becomes. -/
namespace Go.Proofs.YtmcjghhmcmkomaaGreatDoor
open Go Go.RowKit

/-- A list or a map that is open: what was read of it, the Key that is read, what is to come. -/
structure Frm where
  k : Int
  dk : List ByteArray
  dd : List RT
  key : ByteArray
  rk : List ByteArray
  rr : List RT

/-- What it becomes with x in its place. -/
def Frm.fill (f : Frm) (x : RT) : RT := .node f.k 0 ⟨#[]⟩ (if f.k = 5 then f.dk ++ f.key :: f.rk else []) (f.dd ++ x :: f.rr)

/-- What stands behind a kid: the others, and the end. -/
def tailL (k : Int) : List ByteArray → List RT → List UInt8
  | _, [] => [if k = 5 then 125 else 93]
  | rk, t :: rr => 44 :: ((if k = 5 then (quoteT (rk.headD ⟨#[]⟩)).data.toList ++ 58 :: t.brac else t.brac) ++ tailL k rk.tail rr)

def restText : List Frm → List UInt8 → List UInt8
  | [], R => R
  | f :: fs, R => tailL f.k f.rk f.rr ++ restText fs R

def plug : List Frm → RT → RT
  | [], x => x
  | f :: fs, x => plug fs (f.fill x)

theorem tail4 : (rk : List ByteArray) → (rr : List RT) → tailL 4 rk rr = Lib.joinTail [44] (bracAll rr) ++ [93]
  | _, [] => rfl
  | rk, t :: rr => by
    rw [tailL, tail4 rk.tail rr, if_neg (by decide), bracAll]
    simp [Lib.joinTail]

theorem tail5 : (rk : List ByteArray) → (rr : List RT) → rk.length = rr.length → tailL 5 rk rr = Lib.joinTail [44] (List.zipWith keyed rk (bracAll rr)) ++ [125]
  | [], [], _ => rfl
  | [], _ :: _, h => by simp at h
  | _ :: _, [], h => by simp at h
  | q :: rk, t :: rr, h => by
    rw [tailL, List.tail_cons, tail5 rk rr (by simpa using h), if_pos rfl, bracAll]
    simp [Lib.joinTail, keyed]

theorem brac_cons4 (n : Int) (s : ByteArray) (keys : List ByteArray) (x : RT) (rr : List RT) : (RT.node 4 n s keys (x :: rr)).brac = 91 :: (x.brac ++ tailL 4 [] rr) := by
  rw [brac4, tail4]
  simp [partsOf, bracAll, Lib.join_cons]

theorem brac_cons5 (n : Int) (s : ByteArray) (key : ByteArray) (rk : List ByteArray) (x : RT) (rr : List RT) (h : rk.length = rr.length) : (RT.node 5 n s (key :: rk) (x :: rr)).brac = 123 :: ((quoteT key).data.toList ++ 58 :: (x.brac ++ tailL 5 rk rr)) := by
  rw [brac5, tail5 rk rr h]
  simp [partsOf, bracAll, Lib.join_cons, keyed]

theorem brac_nil4 (n : Int) (s : ByteArray) (keys : List ByteArray) : (RT.node 4 n s keys []).brac = [91, 93] := by
  rw [brac4]; simp [partsOf, bracAll, Lib.join_nil]
theorem brac_nil5 (n : Int) (s : ByteArray) : (RT.node 5 n s [] []).brac = [123, 125] := by
  rw [brac5]; simp [partsOf, bracAll, Lib.join_nil]

theorem fill_kids (f : Frm) (x : RT) : (f.fill x).kids = f.dd ++ x :: f.rr := rfl

theorem plug_right : (fs : List Frm) → (x : RT) → (plug fs x).right = true → x.right = true
  | [], _, h => h
  | f :: fs, x, h => right_kid (plug_right fs (f.fill x) h) (by rw [fill_kids]; simp)

/-- How many nodes were begun of what is open. -/
def begun : List Frm → Nat
  | [] => 0
  | f :: fs => 1 + sizeAll f.dd + begun fs

theorem sizeAll_append (a b : List RT) : sizeAll (a ++ b) = sizeAll a + sizeAll b := by
  induction a with
  | nil => simp [sizeAll]
  | cons t a ih => simp only [List.cons_append, sizeAll, ih]; omega

theorem plug_size : (fs : List Frm) → (x : RT) → begun fs + x.size ≤ (plug fs x).size
  | [], x => by simp [begun, plug]
  | f :: fs, x => by
    have h := plug_size fs (f.fill x)
    have e : (f.fill x).size = sizeAll (f.dd ++ x :: f.rr) + 1 := rfl
    rw [sizeAll_append] at e
    simp only [sizeAll] at e
    rw [plug, begun]
    omega

/-- A frame that may be filled: a list, or a map whose Keys ascend. -/
theorem fill_frame {f : Frm} {x : RT} (h : (f.fill x).right = true) (hk : f.k = 5) : (f.dk ++ f.key :: f.rk).length = (f.dd ++ x :: f.rr).length ∧ keysOk (f.dk ++ f.key :: f.rk) = true := by
  obtain ⟨hh, -⟩ := right_out h
  unfold Frm.fill at hh
  rw [hk, if_pos rfl] at hh
  exact ⟨(head5.1 hh).2.2.1, (head5.1 hh).2.2.2⟩
end Go.Proofs.YtmcjghhmcmkomaaGreatDoor

/- slices.Insert at the end of a list of trees, or of texts, that lies in memory of its own; and what is put into a list or a map that is open. -/
namespace Go.Proofs.YtmcjghhmcmkomaaGreatDoor
open Go Go.RowKit

set_option maxRecDepth 100000 in
set_option maxHeartbeats 4000000 in
theorem insert_kid_end {w wr : World} {dv : Value} {kids : List RT} {FD : List Nat} (h : KidsLie wr dv kids FD) (hf : Fresh w wr FD) {X : RT} {kx dx : Value} {FX : List Nat} (hX : Lies wr X kx dx FX) (hfX : Fresh w wr FX) (hd : ∀ x ∈ FX, x ∉ FD)
    {xb : Nat} {t : TypeId} (hxb : wr.heap[xb]? = some (.cells #[.int .i64 X.k, .int .i64 X.n, .string X.s, kx, dx] t (0, 0))) (hn : kids.length ≤ 1048576) (hs : w.heap.size ≤ wr.heap.size) :
    Calls Tryz.prog 135 #[dv, .int .i64 kids.length, .slice (some ⟨xb, 0, none⟩) 1 1] wr fun e w' => ∃ o' c', e = .returned (.slice o' (kids.length + 1) c') ∧ But FD wr w' ∧ ∃ F, KidsLie w' (.slice o' (kids.length + 1) c') (kids ++ [X]) F ∧ Fresh w w' F ∧ ∀ y ∈ F, y ∈ FD ∨ y ∈ FX ∨ wr.heap.size ≤ y := by
  have HA := Lib.hid (fun ty => append_kid h hf hX hfX hd hxb hn hs ty)
  obtain ⟨o, c, b, off, FF, KV, DV, rfl, hlc, hcm, -⟩ := h
  clear hf hX hfX hd hxb hs
  unfold maxLen at hcm
  go_enter Tryz.func135, Tryz.ntmps135
  go_wp2_with (first
    | (at_builtin; refine list_append rfl _ _ 25 rfl _ _ rfl rfl (HA.out _) ?_; rintro v3 w3 ⟨o3, c3, rfl, h3, h4⟩; have H3 := Lib.hid (And.intro h3 h4); clear h3 h4)
    | fail)
  all_goals go_ret
  all_goals exact ⟨o3, c3, rfl, H3.out.1, H3.out.2⟩

set_option maxRecDepth 100000 in
set_option maxHeartbeats 4000000 in
theorem insert_str_end {w wr : World} {kv : Value} {ks : List ByteArray} {FK : List Nat} (h : StrsAt wr kv ks FK) (hf : Fresh w wr FK) (key : ByteArray) (hkey : key.size ≤ maxLen) {xb : Nat} {t : TypeId} (hxb : wr.heap[xb]? = some (.cells #[.string key] t (0, 0))) (hn : ks.length ≤ 1048576) (hs : w.heap.size ≤ wr.heap.size) :
    Calls Tryz.prog 134 #[kv, .int .i64 ks.length, .slice (some ⟨xb, 0, none⟩) 1 1] wr fun e w' => ∃ o' c', e = .returned (.slice o' (ks.length + 1) c') ∧ But FK wr w' ∧ ∃ F, StrsAt w' (.slice o' (ks.length + 1) c') (ks ++ [key]) F ∧ Fresh w w' F ∧ ∀ y ∈ F, y ∈ FK ∨ wr.heap.size ≤ y := by
  have HA := Lib.hid (fun ty => append_str h hf key hkey hxb hn hs ty)
  obtain ⟨o, c, b, off, rfl, hlc, hcm, -⟩ := h
  clear hf hxb hs
  unfold maxLen at hcm
  go_enter Tryz.func134, Tryz.ntmps134
  go_wp2_with (first
    | (at_builtin; refine list_append rfl _ _ 24 rfl _ _ rfl rfl (HA.out _) ?_; rintro v3 w3 ⟨o3, c3, rfl, h3, h4⟩; have H3 := Lib.hid (And.intro h3 h4); clear h3 h4)
    | fail)
  all_goals go_ret
  all_goals exact ⟨o3, c3, rfl, H3.out.1, H3.out.2⟩
end Go.Proofs.YtmcjghhmcmkomaaGreatDoor

/- a call of a Go function at a step of a region that draws its order. -/
namespace Go.Proofs.YtmcjghhmcmkomaaGreatDoor
open Go Go.RowKit

/-- A call, at a step of a region that draws its order. -/
theorem step_calls {P : Program} {ops : Array Oper} {o : Oper} {a : Act} {w : World} {K : Act → World → Prop} {Q : Exit → Act → World → Prop} {E : Prop} (hgd : o.guard = none) (f : Nat) (xs : Array Operand) (ts : Array TypeId)
    (ho : o.op = .call { callee := .value (.func f), args := xs, argTypes := ts }) (us : Array Value) (hx : (xs.map a.eval) = us) (he : ∀ us w, (callFunc f us).run P w = .ok (.enter f us) w) (hv : ∀ (a : Act) w, (Deferred.ofValue (a.eval (.func f)) us).run P w = .ok { target := .fn (.func f) #[], args := us } w) {R : Value → World → Prop}
    (hc : Calls P f us w fun e w' => ∃ v, e = .returned v ∧ R v w') (h : ∀ v w', R v w' → K (a.put o.dst v) w') : if Region.wanted o (yielded ops a.tmps) = true then Oper.wp P o a w K Q else E := by
  have hw : Region.wanted o (yielded ops a.tmps) = true := by simp [Region.wanted, hgd]
  rw [if_pos hw]
  unfold Oper.wp execOp
  simp only [ho, resolve, invoke, Sem.run_bind, hx]
  rw [hv, Result.andThen_ok]
  show Oper.upon P o a K Q ((callFunc f (us ++ #[])).run P w)
  rw [Array.append_empty, he, Oper.upon_enter]
  refine hc.mono ?_
  rintro e w' ⟨v, rfl, hR⟩
  exact h v w' hR

end Go.Proofs.YtmcjghhmcmkomaaGreatDoor

/- what is put into a list that is open. -/
namespace Go.Proofs.YtmcjghhmcmkomaaGreatDoor
open Go Go.RowKit

/-- The world in which a node was boxed, a row of one made and an order drawn. -/
theorem b1_of (wr : World) (a b : Obj) : Below wr.heap.size wr ((wr.alloc a).alloc b).drew :=
  blw_drewN (((Below.refl wr.heap.size wr).alloc (Nat.le_refl _) a).alloc (by simp) b) 1
theorem b2_of (wr : World) (a b : Obj) : ((wr.alloc a).alloc b).drew.heap[wr.heap.size + 1]? = some b := by
  have h := heap_last (wr.alloc a) b
  rw [show (wr.alloc a).heap.size = wr.heap.size + 1 by simp] at h
  exact h

theorem put_fin {w wr W w5 : World} {g o : Nat} {cur : Array Value} (hg5 : w5.heap[g]? = some (.cells cur 140 (0, 0))) (hglt : g < wr.heap.size) {FD FX : List Nat} (hgF : g ∉ FD) (hgX : g ∉ FX) (hb : Below wr.heap.size wr W) (hbut : But FD W w5) {v : Value} {kids : List RT}
    (h : ∃ F, KidsLie w5 v kids F ∧ Fresh w w5 F ∧ ∀ y ∈ F, y ∈ FD ∨ y ∈ FX ∨ W.heap.size ≤ y) :
    ∃ F, (w5.setCell ⟨g, o, none⟩ v).heap[g]? = some (.cells (cur.setIfInBounds o v) 140 (0, 0)) ∧ KidsLie (w5.setCell ⟨g, o, none⟩ v) v kids F ∧ Fresh w (w5.setCell ⟨g, o, none⟩ v) F ∧ (∀ y ∈ F, y ∈ FD ∨ y ∈ FX ∨ wr.heap.size ≤ y) ∧ But (g :: FD) wr (w5.setCell ⟨g, o, none⟩ v) := by
  obtain ⟨F, h1, h2, h3⟩ := h
  have hne : ∀ y ∈ F, y ≠ g := fun y hy e => by
    subst e
    rcases h3 y hy with h | h | h
    · exact hgF h
    · exact hgX h
    · have := hb.size; omega
  have keep : ∀ y ∈ F, (w5.setCell ⟨g, o, none⟩ v).heap[y]? = w5.heap[y]? := fun y hy => Below.heap_setCell _ _ _ _ (by exact hne y hy)
  refine ⟨F, heap_set hg5 o v, h1.carry keep, h2.carry keep, fun y hy => ?_, ?_⟩
  · rcases h3 y hy with h | h | h
    · exact .inl h
    · exact .inr (.inl h)
    · exact .inr (.inr (Nat.le_trans hb.size h))
  · exact (((But.of_below hb).trans (hbut.mono fun x hx => List.mem_cons_of_mem _ hx))).set (p := ⟨g, o, none⟩) (List.mem_cons_self ..) v

set_option maxRecDepth 100000 in
set_option maxHeartbeats 4000000 in
theorem put4 {w wr : World} {g o : Nat} {cur : Array Value} (hg : wr.heap[g]? = some (.cells cur 140 (0, 0))) {dv : Value} {dd : List RT} {FD : List Nat} (c0 : cur[o]? = some (.int .i64 4)) (c4 : cur[o + 4]? = some dv)
    (h : KidsLie wr dv dd FD) (hf : Fresh w wr FD) {X : RT} {kx dx : Value} {FX : List Nat} (hX : Lies wr X kx dx FX) (hfX : Fresh w wr FX) (hd : ∀ x ∈ FX, x ∉ FD) (hn : dd.length ≤ 1048576) (hs : w.heap.size ≤ wr.heap.size) (hgF : g ∉ FD) (hgX : g ∉ FX) :
    Calls Tryz.prog 116 #[.pointer (some ⟨g, o, none⟩), .agg #[.int .i64 X.k, .int .i64 X.n, .string X.s, kx, dx]] wr fun e w' => (∃ v, e = .returned v) ∧ ∃ o' c' F, w'.heap[g]? = some (.cells (cur.setIfInBounds (o + 4) (.slice o' (dd.length + 1) c')) 140 (0, 0)) ∧ KidsLie w' (.slice o' (dd.length + 1) c') (dd ++ [X]) F ∧ Fresh w w' F ∧ (∀ y ∈ F, y ∈ FD ∨ y ∈ FX ∨ wr.heap.size ≤ y) ∧ But (g :: FD) wr w' := by
  have x0 : wr.cell? ⟨g, o, none⟩ = some (.int .i64 4) := by rw [cell_of hg]; exact c0
  have x4 : wr.cell? ⟨g, o + 4, none⟩ = some dv := by rw [cell_of hg]; exact c4
  have xf : ∀ q, wr.frozen? ⟨g, q, none⟩ = false := fun q => by simp [World.frozen?, hg]
  have hglt : g < wr.heap.size := (Array.getElem?_eq_some_iff.1 hg).1
  have hgl2 : ¬ g = wr.heap.size := by omega
  obtain ⟨⟨o1, q1, rfl⟩, ⟨o2, q2, rfl⟩⟩ := hX.slices
  have hlc := h
  obtain ⟨oo, cc, -, -, -, -, -, rfl, hl1, hl2, -⟩ := hlc
  unfold maxLen at hl2
  go_enter Tryz.func116, Tryz.ntmps116
  have HI : Hid (∀ (W : World) (xb : Nat), Below wr.heap.size wr W → W.heap[xb]? = some (.cells #[.int .i64 X.k, .int .i64 X.n, .string X.s, .slice o1 X.keys.length q1, .slice o2 X.kids.length q2] 27 (0, 0)) →
      Calls Tryz.prog 135 #[.slice oo dd.length cc, .int .i64 dd.length, .slice (some ⟨xb, 0, none⟩) 1 1] W fun e w' => ∃ v, e = .returned v ∧ ∃ o' c', v = .slice o' (dd.length + 1) c' ∧ But FD W w' ∧ ∃ F, KidsLie w' (.slice o' (dd.length + 1) c') (dd ++ [X]) F ∧ Fresh w w' F ∧ ∀ y ∈ F, y ∈ FD ∨ y ∈ FX ∨ W.heap.size ≤ y) := fun W xb hb hxb => by
    refine (insert_kid_end (w := w) (h.stay hb (Nat.le_refl _)) (hf.carry fun y hy => hb.block y (h.lt y hy)) (hX.stay hb (Nat.le_refl _)) (hfX.carry fun y hy => hb.block y (hX.lt y hy)) hd hxb hn (Nat.le_trans hs hb.size)).mono ?_
    rintro e w' ⟨o', c', rfl, h1⟩
    exact ⟨_, rfl, o', c', rfl, h1⟩
  have c4' := Lib.hid c4
  clear h hf hX hfX c0 c4
  go_wp2
  go_region_law (first
    | (refine step_calls (by rfl) 135 _ _ (by rfl) _ (by simp [Act.eval]; rfl) (by intros; simp [go_sem]) (fun _ _ => rfl) (HI.out _ _ ?b1 ?b2) ?_
       case b1 => exact b1_of _ _ _
       case b2 => exact b2_of _ _ _
       rintro u w5 ⟨o5, c5, rfl, h5⟩
       have hg5 : w5.heap[g]? = some (.cells cur 140 (0, 0)) := (h5.1.block g (by show g < _; simp; omega) hgF).trans (((b1_of _ _ _).block g hglt).trans hg)
       have m4 : w5.cell? ⟨g, o + 4, none⟩ = some (.slice oo dd.length cc) := by rw [cell_of hg5]; exact c4'.out
       have m5 : w5.frozen? ⟨g, o + 4, none⟩ = false := by simp [World.frozen?, hg5]
       have H5 := Lib.hid (put_fin (o := o + 4) hg5 hglt hgF hgX (b1_of _ _ _) h5.1 h5.2)
       clear h5 hg5)
    | fail)
  all_goals go_wp2
  all_goals go_end0
  all_goals exact ⟨⟨_, rfl⟩, o5, c5, H5.out⟩
end Go.Proofs.YtmcjghhmcmkomaaGreatDoor

/- what is put into a map that is open, under a Key that stands behind all of its own. -/
namespace Go.Proofs.YtmcjghhmcmkomaaGreatDoor
open Go Go.RowKit

theorem d1_of (wr : World) (b : Obj) : Below wr.heap.size wr (wr.alloc b).drew := blw_drewN ((Below.refl wr.heap.size wr).alloc (Nat.le_refl _) b) 1
theorem d2_of (wr : World) (b : Obj) : (wr.alloc b).drew.heap[wr.heap.size]? = some b := heap_last wr b

theorem put_finS {w wr W w5 : World} {g o : Nat} {cur : Array Value} (hg5 : w5.heap[g]? = some (.cells cur 140 (0, 0))) (hglt : g < wr.heap.size) {FK : List Nat} (hgF : g ∉ FK) (hb : Below wr.heap.size wr W) (hbut : But FK W w5) {v : Value} {ks : List ByteArray}
    (h : ∃ F, StrsAt w5 v ks F ∧ Fresh w w5 F ∧ ∀ y ∈ F, y ∈ FK ∨ W.heap.size ≤ y) :
    ∃ F, (w5.setCell ⟨g, o, none⟩ v).heap[g]? = some (.cells (cur.setIfInBounds o v) 140 (0, 0)) ∧ StrsAt (w5.setCell ⟨g, o, none⟩ v) v ks F ∧ Fresh w (w5.setCell ⟨g, o, none⟩ v) F ∧ (∀ y ∈ F, y ∈ FK ∨ wr.heap.size ≤ y) ∧ But (g :: FK) wr (w5.setCell ⟨g, o, none⟩ v) := by
  obtain ⟨F, h1, h2, h3⟩ := h
  have hne : ∀ y ∈ F, y ≠ g := fun y hy e => by
    subst e
    rcases h3 y hy with h | h
    · exact hgF h
    · have := hb.size; omega
  have keep : ∀ y ∈ F, (w5.setCell ⟨g, o, none⟩ v).heap[y]? = w5.heap[y]? := fun y hy => Below.heap_setCell _ _ _ _ (by exact hne y hy)
  refine ⟨F, heap_set hg5 o v, h1.carry keep, h2.carry keep, fun y hy => ?_, ?_⟩
  · rcases h3 y hy with h | h
    · exact .inl h
    · exact .inr (Nat.le_trans hb.size h)
  · exact (((But.of_below hb).trans (hbut.mono fun x hx => List.mem_cons_of_mem _ hx))).set (p := ⟨g, o, none⟩) (List.mem_cons_self ..) v

set_option maxRecDepth 100000 in
set_option maxHeartbeats 4000000 in
theorem put5 {w wr : World} {g o : Nat} {cur : Array Value} (hg : wr.heap[g]? = some (.cells cur 140 (0, 0))) {kv dv : Value} {dk : List ByteArray} {dd : List RT} {key : ByteArray} {FK FD : List Nat} (c0 : cur[o]? = some (.int .i64 5)) (c3 : cur[o + 3]? = some kv) (c4 : cur[o + 4]? = some dv) (c6 : cur[o + 6]? = some (.string key))
    (hK : StrsAt wr kv dk FK) (hfK : Fresh w wr FK) (h : KidsLie wr dv dd FD) (hf : Fresh w wr FD) {X : RT} {kx dx : Value} {FX : List Nat} (hX : Lies wr X kx dx FX) (hfX : Fresh w wr FX) (hd : ∀ x ∈ FX, x ∉ FD) (hdK : ∀ x ∈ FX, x ∉ FK) (hKD : ∀ x ∈ FK, x ∉ FD) (hkl : dk.length = dd.length) (hn : dd.length ≤ 1048576) (hs : w.heap.size ≤ wr.heap.size) (hgK : g ∉ FK) (hgF : g ∉ FD) (hgX : g ∉ FX)
    (hkey : key.size ≤ maxLen) (ha : Absent dk key) (hp : placeN dk key = dk.length) :
    Calls Tryz.prog 116 #[.pointer (some ⟨g, o, none⟩), .agg #[.int .i64 X.k, .int .i64 X.n, .string X.s, kx, dx]] wr fun e w' => (∃ v, e = .returned v) ∧ ∃ o3 c3 o4 c4 FK' FD', w'.heap[g]? = some (.cells ((cur.setIfInBounds (o + 3) (.slice o3 (dd.length + 1) c3)).setIfInBounds (o + 4) (.slice o4 (dd.length + 1) c4)) 140 (0, 0)) ∧
      StrsAt w' (.slice o3 (dd.length + 1) c3) (dk ++ [key]) FK' ∧ Fresh w w' FK' ∧ (∀ y ∈ FK', y ∈ FK ∨ wr.heap.size ≤ y) ∧ KidsLie w' (.slice o4 (dd.length + 1) c4) (dd ++ [X]) FD' ∧ Fresh w w' FD' ∧ (∀ y ∈ FD', y ∈ FD ∨ y ∈ FX ∨ wr.heap.size ≤ y) ∧ (∀ y ∈ FK', y ∉ FD') ∧ But (g :: (FK ++ FD)) wr w' := by
  have x0 : wr.cell? ⟨g, o, none⟩ = some (.int .i64 5) := by rw [cell_of hg]; exact c0
  have x3 : wr.cell? ⟨g, o + 3, none⟩ = some kv := by rw [cell_of hg]; exact c3
  have x4 : wr.cell? ⟨g, o + 4, none⟩ = some dv := by rw [cell_of hg]; exact c4
  have x6 : wr.cell? ⟨g, o + 6, none⟩ = some (.string key) := by rw [cell_of hg]; exact c6
  have hglt : g < wr.heap.size := (Array.getElem?_eq_some_iff.1 hg).1
  have hgl2 : ¬ g = wr.heap.size := by omega
  obtain ⟨⟨o1, q1, rfl⟩, ⟨o2, q2, rfl⟩⟩ := hX.slices
  obtain ⟨oo, cc, rfl⟩ := h.slice
  obtain ⟨ko, kc, rfl⟩ := hK.slice
  have HP := Lib.hid (fun (W : World) (hb : Below wr.heap.size wr W) => impl_placeOf W (hK.stay hb (Nat.le_refl _)) key ha)
  rw [hp, hkl] at HP
  rw [hkl] at x3
  go_enter Tryz.func116, Tryz.ntmps116
  go_upto_region 3 with fail
  go_quiet ((go_at_call 133; exact Calls.quiet_of_same (HP.out _ (blw_drewN ((Below.refl wr.heap.size wr).alloc (Nat.le_refl _) _) _))))
  have HBq := Lib.hid (blw_drewN ((Below.refl wr.heap.size wr).alloc (Nat.le_refl _) (.cells #[.int .i64 X.k, .int .i64 X.n, .string X.s, .slice o1 X.keys.length q1, .slice o2 X.kids.length q2] 27)) nq)
  have HXq : Hid (((wr.alloc (.cells #[.int .i64 X.k, .int .i64 X.n, .string X.s, .slice o1 X.keys.length q1, .slice o2 X.kids.length q2] 27)).drewN nq).heap[wr.heap.size]? = some (.cells #[.int .i64 X.k, .int .i64 X.n, .string X.s, .slice o1 X.keys.length q1, .slice o2 X.kids.length q2] 27 (0, 0))) := heap_last wr _
  generalize (wr.alloc (.cells #[.int .i64 X.k, .int .i64 X.n, .string X.s, .slice o1 X.keys.length q1, .slice o2 X.kids.length q2] 27)).drewN nq = wq at *
  have hgq : wq.heap[g]? = some (.cells cur 140 (0, 0)) := (HBq.out.block g hglt).trans hg
  have hgltq : g < wq.heap.size := Nat.lt_of_lt_of_le hglt HBq.out.size
  have hxlt : Hid (wr.heap.size < wq.heap.size) := (Array.getElem?_eq_some_iff.1 HXq.out).1
  clear x0 x3 x4 x6 HP
  have y3 : wq.cell? ⟨g, o + 3, none⟩ = some (.slice ko dd.length kc) := by rw [cell_of hgq, c3, hkl]
  have y6 : wq.cell? ⟨g, o + 6, none⟩ = some (.string key) := by rw [cell_of hgq]; exact c6
  have HI : Hid (∀ (W : World) (xb : Nat), Below wq.heap.size wq W → W.heap[xb]? = some (.cells #[.string key] 9 (0, 0)) →
      Calls Tryz.prog 134 #[.slice ko dd.length kc, .int .i64 dd.length, .slice (some ⟨xb, 0, none⟩) 1 1] W fun e w' => ∃ v, e = .returned v ∧ ∃ o' c', v = .slice o' (dd.length + 1) c' ∧ But FK W w' ∧ ∃ F, StrsAt w' (.slice o' (dd.length + 1) c') (dk ++ [key]) F ∧ Fresh w w' F ∧ ∀ y ∈ F, y ∈ FK ∨ W.heap.size ≤ y) := fun W xb hb hxb => by
    have hb2 := HBq.out.trans (hb.mono HBq.out.size)
    have := insert_str_end (w := w) (hK.stay hb2 (Nat.le_refl _)) (hfK.carry fun y hy => hb2.block y (hK.lt y hy)) key hkey hxb (by omega) (Nat.le_trans hs hb2.size)
    rw [hkl] at this
    refine this.mono ?_
    rintro e w' ⟨o', c', rfl, h1⟩
    exact ⟨_, rfl, o', c', rfl, h1⟩
  have HC := Lib.hid (And.intro c3 (And.intro c4 c6))
  have HH := Lib.hid (And.intro h (And.intro hf (And.intro hX (And.intro hfX (And.intro hg hK)))))
  have hkl' := Lib.hid hkl
  clear h hf hX hfX hK hfK c0 c3 c4 c6 hg hkl ha hp
  go_upto_region 4 with fail
  go_region_law (first
    | (refine step_calls (by rfl) 134 _ _ (by rfl) _ (by simp [Act.eval]; rfl) (by intros; simp [go_sem]) (fun _ _ => rfl) (HI.out _ _ ?b1 ?b2) ?_
       case b1 => exact d1_of _ _
       case b2 => exact d2_of _ _
       rintro u w5 ⟨o5, c5, rfl, h5⟩
       have hg5 : w5.heap[g]? = some (.cells cur 140 (0, 0)) := (h5.1.block g (by show g < _; simp; omega) hgK).trans (((d1_of wq _).block g hgltq).trans hgq)
       have m4 : w5.cell? ⟨g, o + 3, none⟩ = some (.slice ko dd.length kc) := by rw [cell_of hg5, HC.out.1, hkl'.out]
       have m5 : w5.frozen? ⟨g, o + 3, none⟩ = false := by simp [World.frozen?, hg5]
       have H5 := Lib.hid (put_finS (o := o + 3) hg5 hgltq hgK (d1_of wq _) h5.1 h5.2)
       clear h5 hg5)
    | fail)
  all_goals
    obtain ⟨FK', hg6, hK6, hfK6, hm6, hbut6⟩ := H5.out
    generalize hw6 : w5.setCell ⟨g, o + 3, none⟩ (.slice o5 (dd.length + 1) c5) = w6 at *
    clear hw6
    have hb06 : But (g :: FK) wr w6 := (But.of_below HBq.out).trans hbut6
    have hwrF : wr.heap.size ∉ g :: FK := fun hm => by
      rcases List.mem_cons.1 hm with e | e
      · omega
      · have := HH.out.2.2.2.2.2.lt _ e; omega
    have hx6 := (hbut6.block _ hxlt.out hwrF).trans HXq.out
    obtain ⟨z0, z1, z2, z3, z4, -⟩ := five hx6
    have y4 : w6.cell? ⟨g, o + 4, none⟩ = some (.slice oo dd.length cc) := by
      rw [cell_of hg6, Array.getElem?_setIfInBounds_ne (by omega)]
      exact HC.out.2.1
    have hkeep : ∀ y, y < wr.heap.size → y ∉ g :: FK → w6.heap[y]? = wr.heap[y]? := fun y h1 h2 => hb06.block y h1 h2
    have hFDn : ∀ y ∈ FD, y ∉ g :: FK := fun y hy hm => by
      rcases List.mem_cons.1 hm with e | e
      · exact hgF (e ▸ hy)
      · exact hKD y e hy
    have hFXn : ∀ y ∈ FX, y ∉ g :: FK := fun y hy hm => by
      rcases List.mem_cons.1 hm with e | e
      · exact hgX (e ▸ hy)
      · exact hdK y hy e
    have hL6 : KidsLie w6 (.slice oo dd.length cc) dd FD := HH.out.1.carry fun y hy => hkeep y (HH.out.1.lt y hy) (hFDn y hy)
    have hfL6 : Fresh w w6 FD := HH.out.2.1.carry fun y hy => hkeep y (HH.out.1.lt y hy) (hFDn y hy)
    have hX6 := HH.out.2.2.1.carry (w' := w6) fun y hy => hkeep y (HH.out.2.2.1.lt y hy) (hFXn y hy)
    have hfX6 : Fresh w w6 FX := HH.out.2.2.2.1.carry fun y hy => hkeep y (HH.out.2.2.1.lt y hy) (hFXn y hy)
    have hglt6 : g < w6.heap.size := Nat.lt_of_lt_of_le hglt hb06.size
    have HI2 : Hid (∀ (W : World) (xb : Nat), Below w6.heap.size w6 W → W.heap[xb]? = some (.cells #[.int .i64 X.k, .int .i64 X.n, .string X.s, .slice o1 X.keys.length q1, .slice o2 X.kids.length q2] 27 (0, 0)) →
        Calls Tryz.prog 135 #[.slice oo dd.length cc, .int .i64 dd.length, .slice (some ⟨xb, 0, none⟩) 1 1] W fun e w' => ∃ v, e = .returned v ∧ ∃ o' c', v = .slice o' (dd.length + 1) c' ∧ But FD W w' ∧ ∃ F, KidsLie w' (.slice o' (dd.length + 1) c') (dd ++ [X]) F ∧ Fresh w w' F ∧ ∀ y ∈ F, y ∈ FD ∨ y ∈ FX ∨ W.heap.size ≤ y) := fun W xb hb hxb => by
      refine (insert_kid_end (w := w) (hL6.stay hb (Nat.le_refl _)) (hfL6.carry fun y hy => hb.block y (hL6.lt y hy)) (hX6.stay hb (Nat.le_refl _)) (hfX6.carry fun y hy => hb.block y (hX6.lt y hy)) hd hxb hn (Nat.le_trans hs (Nat.le_trans hb06.size hb.size))).mono ?_
      rintro e w' ⟨o', c', rfl, h1⟩
      exact ⟨_, rfl, o', c', rfl, h1⟩
    have HG6 := Lib.hid hg6
    have HF6 := Lib.hid (And.intro hK6 (And.intro hfK6 (And.intro hm6 hb06)))
    clear hL6 hfL6 hX6 hfX6 hK6 hfK6 hm6 hb06 hbut6 hkeep m4 m5 y3 y6 hgq H5 hg6
    go_upto_region 5 with fail
    go_region_law (first
      | (refine step_calls (by rfl) 135 _ _ (by rfl) _ (by simp [Act.eval]; rfl) (by intros; simp [go_sem]) (fun _ _ => rfl) (HI2.out _ _ ?b1 ?b2) ?_
         case b1 => exact d1_of _ _
         case b2 => exact d2_of _ _
         rintro u w7 ⟨o7, c7, rfl, h7⟩
         have hg7 : w7.heap[g]? = some (.cells (cur.setIfInBounds (o + 3) (.slice o5 (dd.length + 1) c5)) 140 (0, 0)) := (h7.1.block g (by show g < _; simp; omega) hgF).trans (((d1_of w6 _).block g hglt6).trans HG6.out)
         have m4 : w7.cell? ⟨g, o + 4, none⟩ = some (.slice oo dd.length cc) := by rw [cell_of hg7, Array.getElem?_setIfInBounds_ne (by omega)]; exact HC.out.2.1
         have m5 : w7.frozen? ⟨g, o + 4, none⟩ = false := by simp [World.frozen?, hg7]
         have H7 := Lib.hid (put_fin (o := o + 4) hg7 hglt6 hgF hgX (d1_of w6 _) h7.1 h7.2)
         clear h7 hg7)
      | fail)
    all_goals go_wp2
    all_goals go_end0
    all_goals
      obtain ⟨FD', hg8, hL8, hf8, hm8, hbut8⟩ := H7.out
      obtain ⟨hK6, hfK6, hm6, hb06⟩ := HF6.out
      have hq := HBq.out.size
      have hnot : ∀ y ∈ FK', y ∉ g :: FD := fun y hy hm => by
        rcases List.mem_cons.1 hm with e | e
        · rcases hm6 y hy with h | h
          · exact hgK (e ▸ h)
          · omega
        · rcases hm6 y hy with h | h
          · exact hKD y h e
          · have := HH.out.1.lt y e; omega
      have hk8 : ∀ y ∈ FK', _ = _ := fun y hy => hbut8.block y (hK6.lt y hy) (hnot y hy)
      refine ⟨⟨_, rfl⟩, o5, c5, o7, c7, FK', FD', hg8, hK6.carry hk8, hfK6.carry hk8, fun y hy => ?_, hL8, hf8, fun y hy => ?_, fun y hy hy2 => ?_, (hb06.mono fun x hx => ?_).trans (hbut8.mono fun x hx => ?_)⟩
      · rcases hm6 y hy with h | h
        · exact .inl h
        · exact .inr (by omega)
      · rcases hm8 y hy with h | h | h
        · exact .inl h
        · exact .inr (.inl h)
        · exact .inr (.inr (Nat.le_trans hb06.size h))
      · rcases hm8 y hy2 with h | h | h
        · exact hnot y hy (List.mem_cons_of_mem _ h)
        · rcases hm6 y hy with h' | h'
          · exact hdK y h h'
          · have := HH.out.2.2.1.lt y h; omega
        · have := hK6.lt y hy; omega
      · rcases List.mem_cons.1 hx with e | e
        · rw [e]; exact List.mem_cons_self ..
        · exact List.mem_cons_of_mem _ (List.mem_append_left _ e)
      · rcases List.mem_cons.1 hx with e | e
        · rw [e]; exact List.mem_cons_self ..
        · exact List.mem_cons_of_mem _ (List.mem_append_right _ e)
end Go.Proofs.YtmcjghhmcmkomaaGreatDoor

/- plain facts on Keys that ascend: one that stands behind others is above them all, so it is not among them, and it comes to stand at their end. -/
namespace Go.Proofs.YtmcjghhmcmkomaaGreatDoor
open Go Go.RowKit

theorem lessR_trans {a b c : List UInt8} (h1 : Op.bytesLess a b = true) (h2 : Op.bytesLess b c = true) : Op.bytesLess a c = true := by
  rw [Go.Proofs.bytesLess_eq] at *
  simp only [decide_eq_true_eq] at *
  exact List.lt_trans h1 h2
theorem lessR_irrefl (l : List UInt8) : Op.bytesLess l l = false := by
  rw [Go.Proofs.bytesLess_eq]; simp

theorem keysOk_out {ks : List ByteArray} (h : keysOk ks = true) : ∀ i (hi : i < ks.length), KeyAt ks i hi := @of_decide_eq_true _ (Classical.propDecidable _) h

theorem keys_less {ks : List ByteArray} (h : keysOk ks = true) : ∀ (j i : Nat) (hi : i < ks.length) (hj : j < ks.length), i < j → Op.bytesLess ks[i].toList ks[j].toList = true := by
  intro j
  induction j with
  | zero => intro i hi hj hlt; omega
  | succ j ih =>
    intro i hi hj hlt
    have h1 := (keysOk_out h (j + 1) hj).2 (by omega)
    have e : j + 1 - 1 = j := by omega
    simp only [e] at h1
    rcases Nat.lt_or_ge i j with h2 | h2
    · exact lessR_trans (ih i hi (by omega) h2) h1
    · obtain rfl : i = j := by omega
      exact h1

/-- A Key that stands behind others. -/
theorem keys_behind {dk rk : List ByteArray} {key : ByteArray} (h : keysOk (dk ++ key :: rk) = true) : Absent dk key ∧ placeN dk key = dk.length ∧ textOk key = true ∧ key ∉ dk := by
  have hk : (dk ++ key :: rk)[dk.length]'(by simp) = key := by simp
  have hless : ∀ j (hj : j < dk.length), Op.bytesLess dk[j].toList key.toList = true := fun j hj => by
    have := keys_less h dk.length j (by simp; omega) (by simp) hj
    rw [hk] at this
    rwa [List.getElem_append_left hj] at this
  have hab : Absent dk key := fun j hj e => by
    have := hless j hj
    rw [e, lessR_irrefl] at this
    cases this
  refine ⟨hab, place_unique (Nat.le_refl _) (fun j hj _ => hless j hj) (fun hl => absurd hl (by omega)), ?_, fun hm => ?_⟩
  · have := (keysOk_out h dk.length (by simp)).1
    rwa [hk] at this
  · obtain ⟨j, hj, e⟩ := List.getElem_of_mem hm
    exact hab j hj e
end Go.Proofs.YtmcjghhmcmkomaaGreatDoor

/- plain facts on what is open while a braced text is read: a row of levels, each with its own Keys, Kids and the map of Keys that it has seen; that it stays as worlds go on; its last level; one more level, one less. -/
namespace Go.Proofs.YtmcjghhmcmkomaaGreatDoor
open Go Go.RowKit

/-- One level: its kind, what was read of it, the Key that is read; its three lists, and the blocks that these lie in. -/
structure Lv where
  k : Int
  dk : List ByteArray
  dd : List RT
  key : ByteArray
  kv : Value
  dv : Value
  mv : Value
  FK : List Nat
  FD : List Nat
  FM : List Nat
  ks : List ByteArray

def Lv.cells (l : Lv) : List Value := [.int .i64 l.k, .int .i64 0, .string ⟨#[]⟩, l.kv, l.dv, .int .u8 (if l.k = 5 then 125 else 93), .string l.key, l.mv]
def Lv.blocks (l : Lv) : List Nat := l.FK ++ (l.FD ++ l.FM)

structure LvOk (w0 wr : World) (l : Lv) : Prop where
  keys : StrsAt wr l.kv l.dk l.FK
  fk : Fresh w0 wr l.FK
  kids : KidsLie wr l.dv l.dd l.FD
  fd : Fresh w0 wr l.FD
  keyl : l.key.size ≤ maxLen
  kind : (l.k = 4 ∧ l.mv = .map none ∧ l.FM = []) ∨ (l.k = 5 ∧ ∃ mb, l.mv = .map (some mb) ∧ l.FM = [mb] ∧ Seen wr mb l.ks ∧ w0.heap.size ≤ mb ∧ l.dk.length = l.dd.length)

theorem LvOk.lt {w0 wr : World} {l : Lv} (h : LvOk w0 wr l) : ∀ b ∈ l.blocks, b < wr.heap.size := by
  intro b hb
  rcases List.mem_append.1 hb with hb | hb
  · exact h.keys.lt b hb
  rcases List.mem_append.1 hb with hb | hb
  · exact h.kids.lt b hb
  · rcases h.kind with ⟨_, _, e⟩ | ⟨_, mb, _, e, hs, _⟩
    · rw [e] at hb; simp at hb
    · rw [e] at hb; simp at hb; subst hb; exact hs.lt

theorem LvOk.old {w0 wr : World} {l : Lv} (h : LvOk w0 wr l) : ∀ b ∈ l.blocks, w0.heap.size ≤ b := by
  intro b hb
  rcases List.mem_append.1 hb with hb | hb
  · exact h.fk.old b hb
  rcases List.mem_append.1 hb with hb | hb
  · exact h.fd.old b hb
  · rcases h.kind with ⟨_, _, e⟩ | ⟨_, mb, _, e, _, hs, _⟩
    · rw [e] at hb; simp at hb
    · rw [e] at hb; simp at hb; subst hb; exact hs

theorem LvOk.carry {w0 wr w1 : World} {l : Lv} (h : LvOk w0 wr l) (hk : ∀ b ∈ l.blocks, w1.heap[b]? = wr.heap[b]?) : LvOk w0 w1 l := by
  have k1 : ∀ b ∈ l.FK, w1.heap[b]? = wr.heap[b]? := fun b hb => hk b (List.mem_append_left _ hb)
  have k2 : ∀ b ∈ l.FD, w1.heap[b]? = wr.heap[b]? := fun b hb => hk b (List.mem_append_right _ (List.mem_append_left _ hb))
  refine ⟨h.keys.carry k1, h.fk.carry k1, h.kids.carry k2, h.fd.carry k2, h.keyl, ?_⟩
  rcases h.kind with a | ⟨e1, mb, e2, e3, e4, e5⟩
  · exact .inl a
  · exact .inr ⟨e1, mb, e2, e3, e4.same (hk mb (List.mem_append_right _ (List.mem_append_right _ (by rw [e3]; simp)))), e5⟩

/-- What is open, the outermost first. -/
structure Stk (w0 wr : World) (ov : Value) (ls : List Lv) : Prop where
  row : wr.ownsRow w0.heap.size 140 8 ov ls.length (ls.flatMap Lv.cells)
  each : ∀ l ∈ ls, LvOk w0 wr l
  apart : (ls.flatMap Lv.blocks).Nodup
  mine : ∀ g, ov.ownBlock = some g → g ∉ ls.flatMap Lv.blocks

section
variable {w0 wr w1 : World} {ov : Value} {ls : List Lv}

theorem Stk.start (w0 wr : World) : Stk w0 wr (.slice none 0 0) [] :=
  ⟨World.ownsRow_nil _ _ _ _, fun _ h => absurd h (by simp), by simp, fun g h => by simp [Value.ownBlock] at h⟩

theorem owns_same {b : Nat} {e : TypeId} {q n : Nat} {v : Value} {xs : List Value} (h : wr.ownsRow b e q v n xs) (hk : ∀ g, v.ownBlock = some g → w1.heap[g]? = wr.heap[g]?) : w1.ownsRow b e q v n xs := by
  refine ⟨h.1, ?_⟩
  rcases h.2 with a | ⟨g, cap, cur, rfl, h1, h2, h3⟩
  · exact .inl a
  · exact .inr ⟨g, cap, cur, rfl, h1, (hk g rfl).trans h2, h3⟩

theorem Stk.carry (h : Stk w0 wr ov ls) (hk : ∀ b, (b ∈ ls.flatMap Lv.blocks ∨ ov.ownBlock = some b) → w1.heap[b]? = wr.heap[b]?) : Stk w0 w1 ov ls :=
  ⟨owns_same h.row fun g hg => hk g (.inr hg), fun l hl => (h.each l hl).carry fun b hb => hk b (.inl (List.mem_flatMap.2 ⟨l, hl, hb⟩)), h.apart, h.mine⟩

theorem Stk.own (h : Stk w0 wr ov ls) {g : Nat} (hg : ov.ownBlock = some g) : g < wr.heap.size ∧ w0.heap.size ≤ g := by
  rcases h.row.2 with ⟨rfl, _⟩ | ⟨g', cap, cur, rfl, h1, h2, _⟩
  · simp [Value.ownBlock] at hg
  · simp [Value.ownBlock] at hg
    subst hg
    exact ⟨(Array.getElem?_eq_some_iff.1 h2).1, h1⟩

theorem Stk.blocks (h : Stk w0 wr ov ls) {b : Nat} (hb : b ∈ ls.flatMap Lv.blocks ∨ ov.ownBlock = some b) : b < wr.heap.size ∧ w0.heap.size ≤ b := by
  rcases hb with hb | hb
  · obtain ⟨l, hl, hb⟩ := List.mem_flatMap.1 hb
    exact ⟨(h.each l hl).lt b hb, (h.each l hl).old b hb⟩
  · exact h.own hb

/-- The reader's own block, older than all of these, may turn. -/
theorem Stk.next {p : Nat} (h : Stk w0 wr ov ls) (hg : wr.grownBy w1 (some p)) (hp : p < w0.heap.size) : Stk w0 w1 ov ls :=
  h.carry fun b hb => hg.block b (h.blocks hb).1 (fun e => by injection e with e; have := (h.blocks hb).2; omega)

theorem Stk.below (h : Stk w0 wr ov ls) (hb : Below wr.heap.size wr w1) : Stk w0 w1 ov ls :=
  h.carry fun b hx => hb.block b (h.blocks hx).1

theorem cells_len (l : Lv) : l.cells.length = 8 := rfl

theorem flat_len : (ls : List Lv) → (ls.flatMap Lv.cells).length = ls.length * 8
  | [] => rfl
  | l :: ls => by rw [List.flatMap_cons, List.length_append, flat_len ls, cells_len, List.length_cons]; omega

/-- The last level: where its cells lie. -/
theorem Stk.top {l : Lv} (h : Stk w0 wr ov (ls ++ [l])) : ∃ g cap cur, ov = .slice (some ⟨g, 0, none⟩) (ls.length + 1) cap ∧ wr.heap[g]? = some (.cells cur 140 (0, 0)) ∧ ls.length + 1 ≤ cap ∧ cap ≤ maxLen ∧ cur.size = cap * 8 ∧
    (∀ j, j < 8 → cur[ls.length * 8 + j]? = l.cells[j]?) ∧ cur.toList.take (ls.length * 8) = ls.flatMap Lv.cells ∧ g < wr.heap.size ∧ w0.heap.size ≤ g ∧ g ∉ ls.flatMap Lv.blocks ∧ g ∉ l.blocks := by
  have hl : (ls ++ [l]).length = ls.length + 1 := by simp
  have hrow := h.row
  rw [hl] at hrow
  rcases hrow.2 with ⟨_, h0⟩ | ⟨g, cap, cur, rfl, h1, h2, h3, h4, h5, h6⟩
  · omega
  have hm := h.mine g rfl
  rw [List.flatMap_append, List.mem_append, not_or] at hm
  rw [List.flatMap_append] at h6
  simp only [List.flatMap_cons, List.flatMap_nil, List.append_nil] at h6 hm
  have hfl := flat_len ls
  refine ⟨g, cap, cur, rfl, h2, h3, h4, h5, fun j hj => ?_, ?_, (Array.getElem?_eq_some_iff.1 h2).1, h1, hm.1, hm.2⟩
  · have e : (cur.toList.take ((ls.length + 1) * 8))[ls.length * 8 + j]? = cur[ls.length * 8 + j]? := by
      rw [List.getElem?_take, if_pos (by omega)]; simp
    rw [← e, h6, List.getElem?_append_right (by omega), hfl]
    congr 1
    omega
  · have := congrArg (List.take (ls.length * 8)) h6
    rw [List.take_take, Nat.min_eq_left (by omega), List.take_append_of_le_length (by omega), List.take_of_length_le (l := ls.flatMap Lv.cells) (by omega)] at this
    exact this

/-- One level less. -/
theorem Stk.pop {l : Lv} {g cap : Nat} (h : Stk w0 wr (.slice (some ⟨g, 0, none⟩) (ls.length + 1) cap) (ls ++ [l])) : Stk w0 wr (.slice (some ⟨g, 0, none⟩) ls.length cap) ls := by
  obtain ⟨g', cap', cur, e, h2, h3, h4, h5, -, h6, -, h7, h8, -⟩ := h.top
  injection e with e1 e2 e3
  injection e1 with e1
  injection e1 with e1
  subst e1 e3
  refine ⟨⟨flat_len ls, .inr ⟨g, cap, cur, rfl, h7, h2, by omega, h4, h5, h6⟩⟩, fun x hx => h.each x (List.mem_append_left _ hx), ?_, fun q hq => ?_⟩
  · have := h.apart
    rw [List.flatMap_append] at this
    exact (List.nodup_append.1 this).1
  · simp [Value.ownBlock] at hq
    subst hq
    exact h8

/-- The last level is another one now. -/
theorem Stk.turn {l l' : Lv} {g cap : Nat} {cur' : Array Value} (h : Stk w0 wr (.slice (some ⟨g, 0, none⟩) (ls.length + 1) cap) (ls ++ [l])) {w2 : World} (hsz : cur'.size = cap * 8) (hg : w2.heap[g]? = some (.cells cur' 140 (0, 0)))
    (hpre : cur'.toList.take (ls.length * 8) = ls.flatMap Lv.cells) (htop : ∀ j, j < 8 → cur'[ls.length * 8 + j]? = l'.cells[j]?) (hok : LvOk w0 w2 l') (hkeep : ∀ b ∈ ls.flatMap Lv.blocks, w2.heap[b]? = wr.heap[b]?)
    (hap : (ls.flatMap Lv.blocks ++ l'.blocks).Nodup) (hgl : g ∉ l'.blocks) : Stk w0 w2 (.slice (some ⟨g, 0, none⟩) (ls.length + 1) cap) (ls ++ [l']) := by
  obtain ⟨g', cap', cur, e, h2, h3, h4, h5, -, h6, -, h7, h8, -⟩ := h.top
  injection e with e1 e2 e3
  injection e1 with e1
  injection e1 with e1
  subst e1 e3
  have hfl := flat_len ls
  have hlen : cur'.toList.length = cap * 8 := by simpa using hsz
  refine ⟨⟨by rw [flat_len], .inr ⟨g, cap, cur', by simp, h7, hg, by simpa using h3, h4, hsz, ?_⟩⟩, fun x hx => ?_, by rw [List.flatMap_append]; simpa using hap, fun q hq => ?_⟩
  · rw [List.flatMap_append]
    simp only [List.flatMap_cons, List.flatMap_nil, List.append_nil, List.length_append, List.length_singleton]
    have e : cur'.toList.take ((ls.length + 1) * 8) = cur'.toList.take (ls.length * 8) ++ (cur'.toList.drop (ls.length * 8)).take 8 := by
      rw [show (ls.length + 1) * 8 = ls.length * 8 + 8 by omega, List.take_add]
    rw [e, hpre]
    congr 1
    refine List.ext_getElem? fun j => ?_
    by_cases hj : j < 8
    · rw [List.getElem?_take, if_pos hj, List.getElem?_drop]
      have := htop j hj
      simpa using this
    · rw [List.getElem?_eq_none (by simp; omega), List.getElem?_eq_none (by rw [cells_len]; omega)]
  · rcases List.mem_append.1 hx with hx | hx
    · exact (h.each x (List.mem_append_left _ hx)).carry fun b hb => hkeep b (List.mem_flatMap.2 ⟨x, hx, hb⟩)
    · simp at hx; subst hx; exact hok
  · simp [Value.ownBlock] at hq
    subst hq
    rw [List.flatMap_append, List.mem_append, not_or]
    exact ⟨h8, by simpa using hgl⟩
end
end Go.Proofs.YtmcjghhmcmkomaaGreatDoor

/- what the program reads ahead of a Kid: in a list nothing, in a map the Key and what parts it from its Kid. -/
namespace Go.Proofs.YtmcjghhmcmkomaaGreatDoor
open Go Go.RowKit

/-- What is older than the reading of this text, but for the reader's own block, is as it was. -/
structure Kp (w0 : World) (p : Nat) (wr w1 : World) : Prop where
  os : w1.os = wr.os
  tape : w1.tape = wr.tape
  output : w1.output = wr.output
  size : wr.heap.size ≤ w1.heap.size
  block : ∀ b, b < w0.heap.size → b ≠ p → w1.heap[b]? = wr.heap[b]?

theorem Kp.refl (w0 : World) (p : Nat) (wr : World) : Kp w0 p wr wr := ⟨rfl, rfl, rfl, Nat.le_refl _, fun _ _ _ => rfl⟩
theorem Kp.trans {w0 a b c : World} {p : Nat} (h : Kp w0 p a b) (h' : Kp w0 p b c) : Kp w0 p a c := ⟨h'.os.trans h.os, h'.tape.trans h.tape, h'.output.trans h.output, Nat.le_trans h.size h'.size, fun k hk hp => (h'.block k hk hp).trans (h.block k hk hp)⟩
theorem Kp.of_grw {w0 wr w1 : World} {p q : Nat} (h : wr.grownBy w1 (some q)) (hs : w0.heap.size ≤ wr.heap.size) (hq : q = p ∨ w0.heap.size ≤ q) : Kp w0 p wr w1 :=
  ⟨h.os, h.tape, h.output, h.size, fun b hb hp => h.block b (Nat.lt_of_lt_of_le hb hs) (fun e => by injection e with e; rcases hq with hq | hq <;> omega)⟩
theorem Kp.of_below {w0 wr w1 : World} {p : Nat} (h : Below wr.heap.size wr w1) (hs : w0.heap.size ≤ wr.heap.size) : Kp w0 p wr w1 := ⟨h.os, h.tape, h.output, h.size, fun b hb _ => h.block b (Nat.lt_of_lt_of_le hb hs)⟩

theorem wrap_pred (n : Nat) (h : n ≤ 9223372036854775807) : IntKind.i64.wrap (((n : Int) + 1) - 1) = n := by rw [IntKind.wrap_i64]; omega

set_option maxRecDepth 100000 in
set_option maxHeartbeats 2000000 in
theorem ahead4 {w0 wr : World} {p : Nat} {s : ByteArray} {i : Nat} {ov : Value} {nd : Nat} {tw : Int} {ls : List Lv} {l : Lv} (hR : Rd wr p s i ov nd tw) (hS : Stk w0 wr ov (ls ++ [l])) (hk : l.k = 4) :
    Calls Tryz.prog 122 #[.pointer (some ⟨p, 0, none⟩)] wr fun e w' => e = .returned .nilIface ∧ ∃ q, w' = wr.drewN q := by
  obtain ⟨g, cap, cur, rfl, hg, h1, h2, h3, htop, -, -⟩ := hS.top
  obtain ⟨x0, x1, x2, x3, x4, x5⟩ := hR.five
  have c0 : wr.cell? ⟨g, ls.length * 8, none⟩ = some (.int .i64 4) := by
    have := htop 0 (by decide)
    rw [cell_of hg, show ls.length * 8 = ls.length * 8 + 0 by omega, this]
    show some (Value.int .i64 l.k) = _
    rw [hk]
  unfold maxLen at h2
  clear hR hS hk htop hg h3
  generalize ls.length = n at *
  have g0 : (0 : Int) ≤ (n : Int) := by omega
  have g1 : (n : Int) < (n : Int) + 1 := by omega
  have g2 : ¬ (n : Int) < 0 := by omega
  have g3 : IntKind.i64.wrap (n : Int) = n := by rw [IntKind.wrap_i64]; omega
  go_enter Tryz.func122, Tryz.ntmps122
  go_wp2
  go_quiet (fail)
  go_wp2
  go_ret
  exact ⟨rfl, _, rfl⟩

/-- The state while a Key is read: the reader, what is open, what is older. -/
structure Mid (w0 wr0 wr : World) (p : Nat) (s : ByteArray) (i : Nat) (ov : Value) (nd : Nat) (tw : Int) (ls : List Lv) : Prop where
  rd : Rd wr p s i ov nd tw
  stk : Stk w0 wr ov ls
  kp : Kp w0 p wr0 wr
  hs : w0.heap.size ≤ wr.heap.size

theorem Mid.below {w0 wr0 wr w1 : World} {p : Nat} {s : ByteArray} {i : Nat} {ov : Value} {nd : Nat} {tw : Int} {ls : List Lv} (h : Mid w0 wr0 wr p s i ov nd tw ls) (hb : Below wr.heap.size wr w1) : Mid w0 wr0 w1 p s i ov nd tw ls :=
  ⟨h.rd.same (hb.block p h.rd.lt), h.stk.below hb, h.kp.trans (Kp.of_below hb h.hs), Nat.le_trans h.hs hb.size⟩
theorem Mid.grw {w0 wr0 wr w1 : World} {p : Nat} {s : ByteArray} {i i' : Nat} {ov : Value} {nd nd' : Nat} {tw tw' : Int} {ls : List Lv} (h : Mid w0 wr0 wr p s i ov nd tw ls) (hp : p < w0.heap.size) (hr : Rd w1 p s i' ov nd' tw') (hg : wr.grownBy w1 (some p)) : Mid w0 wr0 w1 p s i' ov nd' tw' ls :=
  ⟨hr, h.stk.next hg hp, h.kp.trans (Kp.of_grw hg h.hs (.inl rfl)), Nat.le_trans h.hs hg.size⟩

/-- The Key is laid into the last level, and into the Keys that it has seen. -/
theorem Mid.key {w0 wr0 wr w2 w3 : World} {p : Nat} {s : ByteArray} {i : Nat} {nd : Nat} {tw : Int} {ls : List Lv} {l : Lv} {g cap mb : Nat} {cur : Array Value} {key : ByteArray} (h : Mid w0 wr0 wr p s i (.slice (some ⟨g, 0, none⟩) (ls.length + 1) cap) nd tw (ls ++ [l])) (hp : p < w0.heap.size)
    (hg : wr.heap[g]? = some (.cells cur 140 (0, 0))) (hk : l.k = 5) (hmv : l.mv = .map (some mb)) (hkey : key.size ≤ maxLen)
    (hg2 : (wr.setCell ⟨g, ls.length * 8 + 6, none⟩ (.string key)).grownBy w2 (some mb)) (hg3 : w2.grownBy w3 (some mb)) (hseen : Seen w3 mb (l.ks ++ [key])) :
    Mid w0 wr0 w3 p s i (.slice (some ⟨g, 0, none⟩) (ls.length + 1) cap) nd tw (ls ++ [{ l with key := key, ks := l.ks ++ [key] }]) := by
  obtain ⟨g', cap', cur', e, k2, k3, k4, k5, ktop, kpre, k6, k7, k8, k9⟩ := h.stk.top
  injection e with e1 e2 e3
  injection e1 with e1
  injection e1 with e1
  subst e1 e3
  rw [hg] at k2
  injection k2 with k2
  injection k2 with k2
  subst k2
  have hl := h.stk.each l (by simp)
  obtain ⟨mb', m1, m2, m3, m4, m5⟩ : ∃ mb', l.mv = .map (some mb') ∧ l.FM = [mb'] ∧ Seen wr mb' l.ks ∧ w0.heap.size ≤ mb' ∧ l.dk.length = l.dd.length := by
    rcases hl.kind with ⟨q, _⟩ | ⟨_, mb', q⟩
    · rw [hk] at q; exact absurd q (by decide)
    · exact ⟨mb', q⟩
  rw [hmv] at m1
  injection m1 with m1
  injection m1 with m1
  subst m1
  have hmbl : mb ∈ l.blocks := List.mem_append_right _ (List.mem_append_right _ (by rw [m2]; simp))
  have hgm : g ≠ mb := fun e => k9 (by rw [e]; exact hmbl)
  have hmlt := m3.lt
  have hapl : (l.FK ++ (l.FD ++ l.FM)).Nodup := by
    have := h.stk.apart
    rw [List.flatMap_append] at this
    have := (List.nodup_append.1 this).2.1
    simpa [Lv.blocks] using this
  have keep : ∀ b, b < wr.heap.size → b ≠ g → b ≠ mb → w3.heap[b]? = wr.heap[b]? := fun b hb n1 n2 => by
    have hb2 : b < w2.heap.size := Nat.lt_of_lt_of_le (by simpa [World.setCell] using hb) hg2.size
    rw [hg3.block b hb2 (fun e => by injection e with e; exact n2 e), hg2.block b (by simpa [World.setCell] using hb) (fun e => by injection e with e; exact n2 e), Below.heap_setCell _ _ _ _ (by exact n1)]
  have hsize : wr.heap.size ≤ w3.heap.size := Nat.le_trans (by have := hg2.size; simpa [World.setCell] using this) hg3.size
  have hpg : p ≠ g := by omega
  have hpm : p ≠ mb := by omega
  have hgw3 : w3.heap[g]? = some (.cells (cur.setIfInBounds (ls.length * 8 + 6) (.string key)) 140 (0, 0)) := by
    have hb2 : g < w2.heap.size := Nat.lt_of_lt_of_le (by simpa [World.setCell] using k6) hg2.size
    rw [hg3.block g hb2 (fun e => by injection e with e; exact hgm e), hg2.block g (by simpa [World.setCell] using k6) (fun e => by injection e with e; exact hgm e)]
    exact heap_set hg _ _
  have hrest : ∀ b ∈ ls.flatMap Lv.blocks, b ≠ g ∧ b ≠ mb := fun b hb => by
    refine ⟨fun e => k8 (by rw [← e]; exact hb), fun e => ?_⟩
    have := h.stk.apart
    rw [List.flatMap_append] at this
    refine (List.nodup_append.1 this).2.2 b hb b ?_ rfl
    rw [e]
    simpa [List.flatMap_cons] using hmbl
  have hFKFD : ∀ b ∈ l.FK ++ l.FD, b ≠ g ∧ b ≠ mb ∧ b < wr.heap.size := fun b hb => by
    have hbl : b ∈ l.blocks := by
      rcases List.mem_append.1 hb with hb | hb
      · exact List.mem_append_left _ hb
      · exact List.mem_append_right _ (List.mem_append_left _ hb)
    refine ⟨fun e => k9 (by rw [← e]; exact hbl), fun e => ?_, hl.lt b hbl⟩
    rw [m2, ← List.append_assoc] at hapl
    exact (List.nodup_append.1 hapl).2.2 b hb mb (by simp) e
  have q1 : ∀ b ∈ l.FK, w3.heap[b]? = wr.heap[b]? := fun b hb => by obtain ⟨a, c, d⟩ := hFKFD b (List.mem_append_left _ hb); exact keep b d a c
  have q2 : ∀ b ∈ l.FD, w3.heap[b]? = wr.heap[b]? := fun b hb => by obtain ⟨a, c, d⟩ := hFKFD b (List.mem_append_right _ hb); exact keep b d a c
  refine ⟨h.rd.same (keep p h.rd.lt hpg hpm), ?_, h.kp.trans ⟨hg3.os.trans hg2.os, hg3.tape.trans hg2.tape, hg3.output.trans hg2.output, hsize, fun b hb _ => keep b (Nat.lt_of_lt_of_le hb h.hs) (by omega) (by omega)⟩, Nat.le_trans h.hs hsize⟩
  refine h.stk.turn (l' := { l with key := key, ks := l.ks ++ [key] }) (by simpa using k5) hgw3 ?_ (fun j hj => ?_) ⟨hl.keys.carry q1, hl.fk.carry q1, hl.kids.carry q2, hl.fd.carry q2, hkey, .inr ⟨hk, mb, hmv, m2, hseen, m4, m5⟩⟩ (fun b hb => ?_) ?_ k9
  · rw [Array.toList_setIfInBounds, List.take_set_of_le (by omega)]; exact kpre
  · by_cases e : j = 6
    · subst e
      rw [Array.getElem?_setIfInBounds_self_of_lt (by rw [k5]; omega)]
      rfl
    · rw [Array.getElem?_setIfInBounds_ne (by omega), ktop j hj]
      match j, hj, e with
      | 0, _, _ => rfl
      | 1, _, _ => rfl
      | 2, _, _ => rfl
      | 3, _, _ => rfl
      | 4, _, _ => rfl
      | 5, _, _ => rfl
      | 7, _, _ => rfl
  · obtain ⟨a, c⟩ := hrest b hb
    exact keep b (h.stk.blocks (.inl (by rw [List.flatMap_append]; exact List.mem_append_left _ hb))).1 a c
  · have := h.stk.apart
    rw [List.flatMap_append] at this
    simpa [Lv.blocks] using this
end Go.Proofs.YtmcjghhmcmkomaaGreatDoor
