/-
  What is proved: the model's drawing of a tree for changes: an order's tree in a shape, or another right one; what is drawn lies in memory of its own; nothing turns but the cursor.; plain facts on two lists that grow by append out of the parts of a tree that was copied before: for the model's Unset.; the model's Unset answers the map without the Key (the tree itself, where it is no map or has not the Key), in memory of its own.
-/
import Derived.Test.YtelpkcbbipianaaGreatPartAP
import Derived.Test.YtelpkcbbipianaaGreatPartAQ
import Derived.Test.YtelpkcbbipianaaGreatPartAW
import Derived.Test.YtelpkcbbipianaaGreatPartAI
import Derived.Test.YtelpkcbbipianaaGreatPartAC
import Derived.Deep.DeepCutAuto
/- the model's drawing of a tree for changes: an order's tree in a shape, or another right one; what is drawn lies in memory of its own; nothing turns but the cursor. -/
namespace Go.Proofs.YtelpkcbbipianaaGreat
open Go Go.RowKit

/-- What is drawn of a tree, and where it lies. -/
def Drawn (w w' : World) (p : Nat) (a : Option Addr) (len cap : Nat) (e : Ending) : Prop :=
  ∃ T kv dv F, e = .returned (.agg #[.int .i64 T.k, .int .i64 T.n, .string T.s, kv, dv]) ∧ Lies w' T kv dv F ∧ Fresh w w' F ∧ Cur w' p a len cap ∧ w.grownBy w' (some p) ∧ T.sz ≤ 1000000

theorem sz_bnd {T : RT} {d : Nat} (hd : d ≤ 3) (h : T.wz ≤ bnd d) : T.sz ≤ 1000000 := by
  have h1 := bnd_max hd
  have h2 := wz_sz T
  omega

set_option maxRecDepth 100000 in
set_option maxHeartbeats 3200000 in
theorem drawTree_any (a : Option Addr) (len cap p : Nat) (w : World) (hc : Cur w p a len cap) :
    Calls Tryz.prog 22 #[.pointer (some ⟨p, 0, none⟩)] w fun e w' => Drawn w w' p a len cap e := by
  have HC := Lib.hid hc
  have HD := Lib.hid (DS.start hc)
  have hp : Hid (p < w.heap.size) := hc.lt
  clear hc
  go_enter Tryz.func22, Tryz.ntmps22
  go_wp2_with fail
  refine (once_any 3 (by omega) (by omega) a len cap p _ HD.out.cur).mono ?_
  rintro e w1 ⟨⟨b, rfl⟩, hc1, ho1⟩
  replace HD := Lib.hid (HD.out.draw hp.out hc1 ho1.grown)
  clear hc1 ho1
  cases b
  · go_wp2_with fail
    refine (drawOrd_any a len cap p _ HD.out.cur).mono ?_
    rintro e w2 ⟨O, mv, nv, rfl, hown, hok, -, -, hc2, hg2⟩
    obtain ⟨FM, FN, ho, hold⟩ := hown.at hok.okW
    have hw := HD.out.lt
    replace HD := Lib.hid (HD.out.draw hp.out hc2 hg2)
    have HO : Hid (∀ w3, Cur w3 p a len cap → Only p w2 w3 → OrdAt w3 O mv nv FM FN) := fun w3 _ ho3 => by
      have keep : ∀ y, y ∈ FM ∨ y ∈ FN → w3.heap[y]? = w2.heap[y]? := fun y hy => ho3.2.2.2.2 y (by have := hold y hy; have := hp.out; omega)
      exact ⟨ho.name, ho.target, ho.low, ho.high, ho.pace, RowAt.carry ho.mets fun y hy => keep y (.inl hy), RowAt.carry ho.notes fun y hy => keep y (.inr hy)⟩
    have HSz : Hid (∀ n : Int, (drS O n).sz ≤ 1000000) := fun n => drS_sz n ho.pace (RowAt.every ho.mets)
    obtain ⟨⟨om, cm, rfl⟩, on_, cn, rfl⟩ := ho.slices
    clear ho hold hok hc2 hg2 hw hown
    show _
    unfold Ord.row
    go_wp2_with (first
      | (go_at_call 24; refine (below_any 3 (by omega) (by omega) a len cap p _ HD.out.cur.cur HD.out.cur.code HD.out.cur.apart).mono ?_
         rintro e w3 ⟨⟨r, hr, rfl⟩, hc3, ho3⟩
         have HO3 := Lib.hid (HO.out w3 (HD.out.cur.only hc3 ho3) ho3)
         replace HD := Lib.hid (HD.out.draw hp.out (HD.out.cur.only hc3 ho3) ho3.grown)
         clear hc3 ho3)
      | (go_at_call 37; refine (d_spec_shape (r : Int) w3 HO3.out).mono ?_
         rintro e w4 ⟨kv, dv, F, rfl, hl, hf, hb⟩
         obtain ⟨⟨o1, q1, rfl⟩, ⟨o2, q2, rfl⟩⟩ := hl.slices
         have hold : ∀ y ∈ F, w.heap.size < y := fun y hy => by have h1 := hf.old y hy; have h2 := HD.out.lt; omega
         have HE := Lib.hid ((HD.out.next hb).fin HC.out hl (hf.earlier (Nat.le_of_lt HD.out.lt)) (fun hy => by have := hold _ hy; omega))
         obtain ⟨z0, z1, z2, z3, z4, z5⟩ := five (HD.out.next hb).res
         clear hl hf hb hold)
      | fail)
    exact bodyPost_ret (ret_node Tryz.results22 rfl HE.out.1) rfl ⟨_, _, _, _, rfl, HE.out.2.1, HE.out.2.2.1, HE.out.2.2.2.1, HE.out.2.2.2.2, HSz.out _⟩
  · go_wp2_with (first
      | (go_at_call 36; refine (draw_three a len cap p _ HD.out.cur).mono ?_
         rintro e w2 ⟨T, kv, dv, F, rfl, hl, hf, hc2, hg2, hz⟩
         obtain ⟨⟨o1, q1, rfl⟩, ⟨o2, q2, rfl⟩⟩ := hl.slices
         have hold : ∀ y ∈ F, w.heap.size < y := fun y hy => by have h1 := hf.old y hy; have h2 := HD.out.lt; omega
         have HE := Lib.hid ((HD.out.draw hp.out hc2 hg2).fin HC.out hl (hf.earlier (Nat.le_of_lt HD.out.lt)) (fun hy => by have := hold _ hy; omega))
         have HZ := Lib.hid (sz_bnd (by omega) hz)
         obtain ⟨z0, z1, z2, z3, z4, z5⟩ := five (HD.out.draw hp.out hc2 hg2).res
         clear hl hf hc2 hg2 hz hold)
      | fail)
    exact bodyPost_ret (ret_node Tryz.results22 rfl HE.out.1) rfl ⟨_, _, _, _, rfl, HE.out.2.1, HE.out.2.2.1, HE.out.2.2.2.1, HE.out.2.2.2.2, HZ.out⟩
end Go.Proofs.YtelpkcbbipianaaGreat

/- plain facts on two lists that grow by append out of the parts of a tree that was copied before: for the model's Unset. -/
namespace Go.Proofs.YtelpkcbbipianaaGreat
open Go Go.RowKit

/-- Where the model's Unset stands: its blocks; the copy of the tree behind block B, whose lists are c3 and c4 by now; the list of Keys and the list of Kids that it makes. -/
structure UM (w w0 wr : World) (T : RT) (ko vo : Value) (B : Nat) (c3 c4 kv dv : Value) (FK FD : List Nat) (kA : Value) (nK : Nat) (xs : List Value) (dA : Value) (nD : Nat) (ys : List Value) : Prop where
  cbox : CBox w wr 27 (.int .i64 T.k) (.int .i64 T.n) (.string T.s) ko vo
  out : wr.heap[B]? = some (.cells #[.int .i64 T.k, .int .i64 T.n, .string T.s, c3, c4] 27 (0, 0))
  strs : StrsAt w0 kv T.keys FK
  kids : KidsLie w0 dv T.kids FD
  fresh : Fresh w w0 (FK ++ FD)
  same : ∀ y ∈ FK ++ FD, wr.heap[y]? = w0.heap[y]?
  size0 : w0.heap.size ≤ wr.heap.size
  far : ∀ y, y = B ∨ y ∈ FK ++ FD → w.heap.size + 2 ≤ y
  hB : B ∉ FK ++ FD
  ownK : wr.ownsRow (w.heap.size + 2) 9 1 kA nK xs
  ownD : wr.ownsRow (w.heap.size + 2) 27 5 dA nD ys
  apK : ∀ g, kA.ownBlock = some g → ∀ y, y = B ∨ y ∈ FK ++ FD → y ≠ g
  apD : ∀ g, dA.ownBlock = some g → ∀ y, y = B ∨ y ∈ FK ++ FD → y ≠ g
  apKD : ∀ g, kA.ownBlock = some g → dA.ownBlock ≠ some g

theorem owns_carry' {w w1 : World} {base n : Nat} {t : TypeId} {k : Nat} {v : Value} {l : List Value} (h : w.ownsRow base t k v n l) (hk : ∀ b, v.ownBlock = some b → w1.heap[b]? = w.heap[b]?) : w1.ownsRow base t k v n l := by
  refine ⟨h.1, ?_⟩
  rcases h.2 with h' | ⟨g, cap, cur, e, hg, hh, r⟩
  · exact .inl h'
  · exact .inr ⟨g, cap, cur, e, hg, (hk g (by rw [e]; rfl)).trans hh, r⟩

theorem CBox.grown {w wr w1 : World} {t : TypeId} {a b c d e : Value} (h : CBox w wr t a b c d e) {row : Option Nat} (hg : wr.grownBy w1 row) (hr : ∀ x, row = some x → w.heap.size + 2 ≤ x) : CBox w w1 t a b c d e :=
  ⟨h.below.grown hg h.below.size (fun k e => by have := hr k e; omega), Nat.le_trans h.size hg.size, (hg.block _ (by have := h.size; omega) (fun e => by have := hr _ e.symm; omega)).trans h.box, (hg.block _ (by have := h.size; omega) (fun e => by have := hr _ e.symm; omega)).trans h.res⟩

theorem CBox.cellset {w wr : World} {t : TypeId} {a b c d e : Value} (h : CBox w wr t a b c d e) {B : Nat} (hB : w.heap.size + 2 ≤ B) (o : Nat) (v : Value) : CBox w (wr.setCell ⟨B, o, none⟩ v) t a b c d e :=
  ⟨h.below.setCell (by show w.heap.size ≤ B; omega) _, by have := h.size; simpa [World.setCell] using this, (Below.heap_setCell _ _ _ _ (by show _ ≠ B; omega)).trans h.box, (Below.heap_setCell _ _ _ _ (by show _ ≠ B; omega)).trans h.res⟩

section
variable {w w0 wr w1 : World} {T : RT} {ko vo : Value} {B : Nat} {c3 c4 kv dv : Value} {FK FD : List Nat} {kA : Value} {nK : Nat} {xs : List Value} {dA : Value} {nD : Nat} {ys : List Value}

theorem UM.lt (h : UM w w0 wr T ko vo B c3 c4 kv dv FK FD kA nK xs dA nD ys) : ∀ y, y = B ∨ y ∈ FK ++ FD → y < wr.heap.size := fun y hy => by
  rcases hy with rfl | hy
  · exact (Array.getElem?_eq_some_iff.1 h.out).1
  · rcases List.mem_append.1 hy with hy | hy
    · exact Nat.lt_of_lt_of_le (h.strs.lt y hy) h.size0
    · exact Nat.lt_of_lt_of_le (h.kids.lt y hy) h.size0

theorem UM.moved (h : UM w w0 wr T ko vo B c3 c4 kv dv FK FD kA nK xs dA nD ys) (hs : CBox w w1 27 (.int .i64 T.k) (.int .i64 T.n) (.string T.s) ko vo)
    (hz : wr.heap.size ≤ w1.heap.size) (keep : ∀ y, y = B ∨ y ∈ FK ++ FD → w1.heap[y]? = wr.heap[y]?) {kA' : Value} {nK' : Nat} {xs' : List Value} {dA' : Value} {nD' : Nat} {ys' : List Value} (hK : w1.ownsRow (w.heap.size + 2) 9 1 kA' nK' xs') (hD : w1.ownsRow (w.heap.size + 2) 27 5 dA' nD' ys')
    (aK : ∀ g, kA'.ownBlock = some g → ∀ y, y = B ∨ y ∈ FK ++ FD → y ≠ g) (aD : ∀ g, dA'.ownBlock = some g → ∀ y, y = B ∨ y ∈ FK ++ FD → y ≠ g) (aKD : ∀ g, kA'.ownBlock = some g → dA'.ownBlock ≠ some g) :
    UM w w0 w1 T ko vo B c3 c4 kv dv FK FD kA' nK' xs' dA' nD' ys' :=
  ⟨hs, (keep B (.inl rfl)).trans h.out, h.strs, h.kids, h.fresh, fun y hy => (keep y (.inr hy)).trans (h.same y hy), Nat.le_trans h.size0 hz, h.far, h.hB, hK, hD, aK, aD, aKD⟩

theorem UM.next (h : UM w w0 wr T ko vo B c3 c4 kv dv FK FD kA nK xs dA nD ys) (hb : Below wr.heap.size wr w1) : UM w w0 w1 T ko vo B c3 c4 kv dv FK FD kA nK xs dA nD ys :=
  h.moved (h.cbox.next hb) hb.size (fun y hy => hb.block y (h.lt y hy)) (owns_below h.ownK hb) (owns_below h.ownD hb) h.apK h.apD h.apKD

theorem UM.newK (h : UM w w0 wr T ko vo B c3 c4 kv dv FK FD kA nK xs dA nD ys) : UM w w0 (wr.alloc (.cells #[] 9)) T ko vo B c3 c4 kv dv FK FD (.slice (some ⟨wr.heap.size, 0, none⟩) 0 0) 0 [] dA nD ys := by
  have hb := (Below.refl _ wr).alloc (Nat.le_refl _) (.cells #[] 9)
  have hs := h.cbox.size
  refine h.moved (h.cbox.next hb) hb.size (fun y hy => hb.block y (h.lt y hy)) ⟨rfl, .inr ⟨_, 0, #[], rfl, hs, heap_last wr _, Nat.le_refl _, Nat.zero_le _, rfl, rfl⟩⟩ (owns_below h.ownD hb) (fun g hg y hy e => ?_) h.apD (fun g hg hd => ?_)
  · have e1 : wr.heap.size = g := by simpa [Value.ownBlock] using hg
    have := h.lt y hy
    omega
  · have e1 : wr.heap.size = g := by simpa [Value.ownBlock] using hg
    have := (h.ownD.lt g hd).2
    omega

theorem UM.newD (h : UM w w0 wr T ko vo B c3 c4 kv dv FK FD kA nK xs dA nD ys) : UM w w0 (wr.alloc (.cells #[] 27)) T ko vo B c3 c4 kv dv FK FD kA nK xs (.slice (some ⟨wr.heap.size, 0, none⟩) 0 0) 0 [] := by
  have hb := (Below.refl _ wr).alloc (Nat.le_refl _) (.cells #[] 27)
  have hs := h.cbox.size
  refine h.moved (h.cbox.next hb) hb.size (fun y hy => hb.block y (h.lt y hy)) (owns_below h.ownK hb) ⟨rfl, .inr ⟨_, 0, #[], rfl, hs, heap_last wr _, Nat.le_refl _, Nat.zero_le _, rfl, rfl⟩⟩ h.apK (fun g hg y hy e => ?_) (fun g hg hd => ?_)
  · have e1 : wr.heap.size = g := by simpa [Value.ownBlock] using hg
    have := h.lt y hy
    omega
  · have e1 : wr.heap.size = g := by simpa [Value.ownBlock] using hd
    have := (h.ownK.lt g hg).2
    omega

theorem UM.appK (h : UM w w0 wr T ko vo B c3 c4 kv dv FK FD kA nK xs dA nD ys) (hg : wr.grownBy w1 kA.ownBlock) {kA' : Value} {nK' : Nat} {xs' : List Value} (hK : w1.ownsRow (w.heap.size + 2) 9 1 kA' nK' xs') (hat : kA'.ownBlock = kA.ownBlock ∨ kA'.ownBlock = some wr.heap.size) :
    UM w w0 w1 T ko vo B c3 c4 kv dv FK FD kA' nK' xs' dA nD ys := by
  refine h.moved (h.cbox.grown hg fun x e => (h.ownK.lt x e).1) hg.size (fun y hy => hg.block y (h.lt y hy) (fun e => h.apK y e.symm y hy rfl)) hK (h.ownD.kept hg ?_) (fun g e y hy => ?_) h.apD (fun g e e' => ?_)
  · cases hd : dA.ownBlock with
    | none => exact .inl rfl
    | some g => exact .inr fun e => h.apKD g e.symm hd
  · rcases hat with e1 | e1
    · exact h.apK g (e1 ▸ e) y hy
    · have e2 : wr.heap.size = g := by rw [e1] at e; injection e
      have := h.lt y hy
      omega
  · rcases hat with e1 | e1
    · exact h.apKD g (e1 ▸ e) e'
    · have e2 : wr.heap.size = g := by rw [e1] at e; injection e
      have := (h.ownD.lt g e').2
      omega

theorem UM.appD (h : UM w w0 wr T ko vo B c3 c4 kv dv FK FD kA nK xs dA nD ys) (hg : wr.grownBy w1 dA.ownBlock) {dA' : Value} {nD' : Nat} {ys' : List Value} (hD : w1.ownsRow (w.heap.size + 2) 27 5 dA' nD' ys') (hat : dA'.ownBlock = dA.ownBlock ∨ dA'.ownBlock = some wr.heap.size) :
    UM w w0 w1 T ko vo B c3 c4 kv dv FK FD kA nK xs dA' nD' ys' := by
  refine h.moved (h.cbox.grown hg fun x e => (h.ownD.lt x e).1) hg.size (fun y hy => hg.block y (h.lt y hy) (fun e => h.apD y e.symm y hy rfl)) (h.ownK.kept hg ?_) hD h.apK (fun g e y hy => ?_) (fun g e e' => ?_)
  · cases hk : kA.ownBlock with
    | none => exact .inl rfl
    | some g => exact .inr fun e => h.apKD g hk e.symm
  · rcases hat with e1 | e1
    · exact h.apD g (e1 ▸ e) y hy
    · have e2 : wr.heap.size = g := by rw [e1] at e; injection e
      have := h.lt y hy
      omega
  · rcases hat with e1 | e1
    · exact h.apKD g e (e1 ▸ e')
    · have e2 : wr.heap.size = g := by rw [e1] at e'; injection e'
      have := (h.ownK.lt g e).2
      omega

theorem UM.start (hs : CBox w w0 27 (.int .i64 T.k) (.int .i64 T.n) (.string T.s) ko vo) (hout : w0.heap[B]? = some (.cells #[.int .i64 T.k, .int .i64 T.n, .string T.s, kv, dv] 27 (0, 0)))
    (h1 : StrsAt w0 kv T.keys FK) (h2 : KidsLie w0 dv T.kids FD) (h3 : Fresh w w0 (FK ++ FD)) (hfar : ∀ y, y = B ∨ y ∈ FK ++ FD → w.heap.size + 2 ≤ y) (hB : B ∉ FK ++ FD) :
    UM w w0 w0 T ko vo B kv dv kv dv FK FD (.slice none 0 0) 0 [] (.slice none 0 0) 0 [] :=
  ⟨hs, hout, h1, h2, h3, fun _ _ => rfl, Nat.le_refl _, hfar, hB, ⟨rfl, .inl ⟨rfl, rfl⟩⟩, ⟨rfl, .inl ⟨rfl, rfl⟩⟩, fun g e => by simp [Value.ownBlock] at e, fun g e => by simp [Value.ownBlock] at e, fun g e => by simp [Value.ownBlock] at e⟩

/-- A cell of block B has been stored. -/
theorem UM.set3 (h : UM w w0 wr T ko vo B c3 c4 kv dv FK FD kA nK xs dA nD ys) (v : Value) : UM w w0 (wr.setCell ⟨B, 3, none⟩ v) T ko vo B v c4 kv dv FK FD kA nK xs dA nD ys := by
  have keep : ∀ y, y ≠ B → (wr.setCell ⟨B, 3, none⟩ v).heap[y]? = wr.heap[y]? := fun y hy => Below.heap_setCell _ _ _ _ hy
  exact ⟨h.cbox.cellset (h.far B (.inl rfl)) 3 v, heap_set h.out 3 v, h.strs, h.kids, h.fresh, fun y hy => (keep y (fun e => h.hB (e ▸ hy))).trans (h.same y hy), by simpa [World.setCell] using h.size0, h.far, h.hB, owns_carry' h.ownK fun b hb => keep b (fun e => h.apK b hb B (.inl rfl) e.symm), owns_carry' h.ownD fun b hb => keep b (fun e => h.apD b hb B (.inl rfl) e.symm), h.apK, h.apD, h.apKD⟩

theorem UM.set4 (h : UM w w0 wr T ko vo B c3 c4 kv dv FK FD kA nK xs dA nD ys) (v : Value) : UM w w0 (wr.setCell ⟨B, 4, none⟩ v) T ko vo B c3 v kv dv FK FD kA nK xs dA nD ys := by
  have keep : ∀ y, y ≠ B → (wr.setCell ⟨B, 4, none⟩ v).heap[y]? = wr.heap[y]? := fun y hy => Below.heap_setCell _ _ _ _ hy
  exact ⟨h.cbox.cellset (h.far B (.inl rfl)) 4 v, heap_set h.out 4 v, h.strs, h.kids, h.fresh, fun y hy => (keep y (fun e => h.hB (e ▸ hy))).trans (h.same y hy), by simpa [World.setCell] using h.size0, h.far, h.hB, owns_carry' h.ownK fun b hb => keep b (fun e => h.apK b hb B (.inl rfl) e.symm), owns_carry' h.ownD fun b hb => keep b (fun e => h.apD b hb B (.inl rfl) e.symm), h.apK, h.apD, h.apKD⟩

theorem UM.runK (h : UM w w0 wr T ko vo B c3 c4 kv dv FK FD kA nK xs dA nD ys) (A : Option Addr) (m c : Nat) (news : List Value) (hl : news.length = m) (hnews : ∀ j u, news[j]? = some u → ∃ ad, A = some ad ∧ wr.cell? (ad.add j) = some u) (h1 : ∀ u ∈ news, u.oneCell' = true) {n' : Nat} (hn' : nK + m = n') (hb : n' ≤ 4194304) (ty : TypeId) :
    ∃ v' w', (Builtin.append_ #[24, 24] ty #[kA, .slice A m c]).run Tryz.prog wr = .ok v' w' ∧ ∃ o' c', v' = .slice o' n' c' ∧ UM w w0 w' T ko vo B c3 c4 kv dv FK FD (.slice o' n' c') n' (xs ++ news) dA nD ys := by
  subst hn'
  obtain ⟨i0, hi0, hz0, hz1, hz2⟩ := info_parts info_string
  obtain ⟨o', c', w', r1, r2, r3, r4⟩ := run_append_any (P := Tryz.prog) wr 24 ty (w.heap.size + 2) 9 i0 _ 1 16 Tryz.underlying24 hi0 hz0 hz1 hz2 rfl (by decide) kA nK xs h.ownK A m c news (by omega) hnews h1 (by unfold maxLen; omega) (by omega) h.cbox.size
  exact ⟨_, w', r1, o', c', rfl, h.appK r3 r2 r4⟩

theorem UM.runD (h : UM w w0 wr T ko vo B c3 c4 kv dv FK FD kA nK xs dA nD ys) (A : Option Addr) (m c : Nat) (news : List Value) (hl : news.length = m * 5) (hnews : ∀ j u, news[j]? = some u → ∃ ad, A = some ad ∧ wr.cell? (ad.add j) = some u) (h1 : ∀ u ∈ news, u.oneCell' = true) {n' : Nat} (hn' : nD + m = n') (hb : n' ≤ 4194304) (ty : TypeId) :
    ∃ v' w', (Builtin.append_ #[25, 25] ty #[dA, .slice A m c]).run Tryz.prog wr = .ok v' w' ∧ ∃ o' c', v' = .slice o' n' c' ∧ UM w w0 w' T ko vo B c3 c4 kv dv FK FD kA nK xs (.slice o' n' c') n' (ys ++ news) := by
  subst hn'
  obtain ⟨i0, hi0, hz0, hz1, hz2⟩ := info_parts info_node
  obtain ⟨o', c', w', r1, r2, r3, r4⟩ := run_append_any (P := Tryz.prog) wr 25 ty (w.heap.size + 2) 27 i0 _ 5 80 Tryz.underlying25 hi0 hz0 hz1 hz2 rfl (by decide) dA nD ys h.ownD A m c news hl hnews h1 (by unfold maxLen; omega) (by omega) h.cbox.size
  exact ⟨_, w', r1, o', c', rfl, h.appD r3 r2 r4⟩
end
end Go.Proofs.YtelpkcbbipianaaGreat

/- the model's Unset answers the map without the Key (the tree itself, where it is no map or has not the Key), in memory of its own. -/
namespace Go.Proofs.YtelpkcbbipianaaGreat
open Go Go.RowKit

/-- The model's Unset of a map that has the Key at i. -/
def cutT (T : RT) (i : Nat) : RT := .node T.k T.n T.s (T.keys.take i ++ T.keys.drop (i + 1)) (T.kids.take i ++ T.kids.drop (i + 1))

/-- A slice's cut ahead of k, and behind it. -/
theorem cutK (o : Option Addr) (n q k : Nat) (hk : k < n) (hq : n ≤ q) : ∃ A1 A2 : Option Addr, (∀ W : World, (Instr.sliceAt 24 (.slice o n q) none (some (.int .i64 k)) none).run Tryz.prog W = .ok (.slice A1 k q) W) ∧
    (∀ W : World, (Instr.sliceAt 24 (.slice o n q) (some (.int .i64 ((k : Int) + 1))) none none).run Tryz.prog W = .ok (.slice A2 (n - (k + 1)) (q - (k + 1))) W) ∧
    ∀ b off, o = some ⟨b, off, none⟩ → A1 = some ⟨b, off, none⟩ ∧ (k + 1 < n → A2 = some ⟨b, off + (k + 1), none⟩) := by
  obtain ⟨i0, hi0, hz0, hz1, hz2⟩ := info_parts info_string
  have hks : ∀ W : World, (Go.sizeOf 9).run Tryz.prog W = .ok 1 W := fun W => by simp [Go.sizeOf, typeInfo, hi0, hz1]
  have e1 : Tryz.prog.elem 24 = 9 := by kernel_rfl
  have ek : ((k : Int) + 1) = ((k + 1 : Nat) : Int) := by omega
  refine ⟨if q = 0 then o else o.map (·.add 0), if q = k + 1 then o else o.map (·.add ((k + 1) * 1)), fun W => ?_, fun W => ?_, fun b off e => ⟨?_, fun h => ?_⟩⟩
  · rw [run_sliceAt_slice W _ _ _ _ _ (by rw [e1]; exact Tryz.underlying24), run_slice_h W _ _ _ _ (by rw [e1]; exact Tryz.underlying24) _ _ (by omega) (by omega), e1, hks]
    simp [sliced]
  · rw [ek, run_sliceAt_slice W _ _ _ _ _ (by rw [e1]; exact Tryz.underlying24), run_slice_l W _ _ _ _ (by rw [e1]; exact Tryz.underlying24) _ _ (by omega) (by omega), e1, hks]
    simp [sliced]
  · subst e
    rw [if_neg (by omega)]
    show some ((⟨b, off, none⟩ : Addr).add 0) = _
    rw [Go.WideShapes.add_plain, Nat.add_zero]
  · subst e
    rw [if_neg (by omega)]
    show some ((⟨b, off, none⟩ : Addr).add ((k + 1) * 1)) = _
    rw [Go.WideShapes.add_plain, Nat.mul_one]

theorem cutD (o : Option Addr) (n q k : Nat) (hk : k < n) (hq : n ≤ q) : ∃ A1 A2 : Option Addr, (∀ W : World, (Instr.sliceAt 25 (.slice o n q) none (some (.int .i64 k)) none).run Tryz.prog W = .ok (.slice A1 k q) W) ∧
    (∀ W : World, (Instr.sliceAt 25 (.slice o n q) (some (.int .i64 ((k : Int) + 1))) none none).run Tryz.prog W = .ok (.slice A2 (n - (k + 1)) (q - (k + 1))) W) ∧
    ∀ b off, o = some ⟨b, off, none⟩ → A1 = some ⟨b, off, none⟩ ∧ (k + 1 < n → A2 = some ⟨b, off + (k + 1) * 5, none⟩) := by
  obtain ⟨i0, hi0, hz0, hz1, hz2⟩ := info_parts info_node
  have hks : ∀ W : World, (Go.sizeOf 27).run Tryz.prog W = .ok 5 W := fun W => by simp [Go.sizeOf, typeInfo, hi0, hz1]
  have e1 : Tryz.prog.elem 25 = 27 := by kernel_rfl
  have ek : ((k : Int) + 1) = ((k + 1 : Nat) : Int) := by omega
  refine ⟨if q = 0 then o else o.map (·.add 0), if q = k + 1 then o else o.map (·.add ((k + 1) * 5)), fun W => ?_, fun W => ?_, fun b off e => ⟨?_, fun h => ?_⟩⟩
  · rw [run_sliceAt_slice W _ _ _ _ _ (by rw [e1]; exact Tryz.underlying25), run_slice_h W _ _ _ _ (by rw [e1]; exact Tryz.underlying25) _ _ (by omega) (by omega), e1, hks]
    simp [sliced]
  · rw [ek, run_sliceAt_slice W _ _ _ _ _ (by rw [e1]; exact Tryz.underlying25), run_slice_l W _ _ _ _ (by rw [e1]; exact Tryz.underlying25) _ _ (by omega) (by omega), e1, hks]
    simp [sliced]
  · subst e
    rw [if_neg (by omega)]
    show some ((⟨b, off, none⟩ : Addr).add 0) = _
    rw [Go.WideShapes.add_plain, Nat.add_zero]
  · subst e
    rw [if_neg (by omega)]
    show some ((⟨b, off, none⟩ : Addr).add ((k + 1) * 5)) = _
    rw [Go.WideShapes.add_plain]

/-- A row without its i-th. -/
def delF {α : Type} (i : Nat) (f : Nat → α) : Nat → α := fun j => if j < i then f j else f (j + 1)

theorem flat_del {β : Type} (F : Nat → List β) {i n : Nat} (_ : i < n) : (List.range (i + (n - (i + 1)))).flatMap (delF i F) = (List.range i).flatMap F ++ (List.range (n - (i + 1))).flatMap (fun j => F (i + 1 + j)) := by
  rw [flat_cut (delF i F) (show i ≤ i + (n - (i + 1)) by omega), Nat.add_sub_cancel_left]
  congr 1
  · exact Go.Deep.flatMap_congr_range fun j hj => by simp [delF, hj]
  · exact Go.Deep.flatMap_congr_range fun j hj => by
      have e1 : ¬ (i + j < i) := by omega
      simp only [delF, e1, if_false]
      congr 1; omega

theorem flat_sub {β : Type} (F : Nat → List β) {i n : Nat} (hi : i < n) : List.Sublist ((List.range (i + (n - (i + 1)))).flatMap (delF i F)) ((List.range n).flatMap F) := by
  rw [flat_del F hi, flat_cut F (show i + 1 ≤ n by omega), List.range_succ, List.flatMap_append]
  exact List.Sublist.append (List.sublist_append_left _ _) (List.Sublist.refl _)

theorem cut_get {α : Type} {l : List α} {i : Nat} (hi : i < l.length) (j : Nat) : (l.take i ++ l.drop (i + 1))[j]? = if j < i then l[j]? else l[j + 1]? := by
  have ht : (l.take i).length = i := by simp; omega
  by_cases h1 : j < i
  · rw [if_pos h1, List.getElem?_append_left (by omega), List.getElem?_take_of_lt h1]
  · rw [if_neg h1, List.getElem?_append_right (by omega), ht, List.getElem?_drop]
    congr 1; omega

theorem rows_del {kids : List RT} {i : Nat} (hi : i < kids.length) (KV DV : Nat → Value) :
    rowsOf (kids.take i ++ kids.drop (i + 1)) (delF i KV) (delF i DV) (i + (kids.length - (i + 1))) = (rowsOf kids KV DV kids.length).take (i * 5) ++ (rowsOf kids KV DV kids.length).drop ((i + 1) * 5) := by
  have hl : ∀ m, ((List.range m).flatMap fun j => (kids.getD j default).row (KV j) (DV j)).length = m * 5 := fun m => rowsOf_length kids KV DV m
  have e : rowsOf (kids.take i ++ kids.drop (i + 1)) (delF i KV) (delF i DV) (i + (kids.length - (i + 1))) = (List.range (i + (kids.length - (i + 1)))).flatMap (delF i fun j => (kids.getD j default).row (KV j) (DV j)) := by
    refine Go.Deep.flatMap_congr_range fun j hj => ?_
    rw [List.getD, cut_get hi]
    by_cases h : j < i
    · simp [delF, h, List.getD]
    · simp [delF, h, List.getD]
  rw [e, flat_del _ hi]
  have e1 : rowsOf kids KV DV kids.length = (List.range kids.length).flatMap fun j => (kids.getD j default).row (KV j) (DV j) := rfl
  congr 1
  · rw [e1, flat_cut _ (show i ≤ kids.length by omega), List.take_left' (hl i)]
  · rw [e1, flat_cut _ (show i + 1 ≤ kids.length by omega), List.drop_left' (hl (i + 1))]

/-- Both lists are made. -/
theorem UM.done {w w0 wr : World} {T : RT} {ko vo : Value} {B : Nat} {c3 c4 kv dv : Value} {FK FD : List Nat} {kA dA : Value} {i : Nat} (hik : i < T.keys.length) (hid : i < T.kids.length) {KV DV : Nat → Value} {FF : Nat → List Nat} {G : List Nat}
    (h : UM w w0 wr T ko vo B c3 c4 kv dv FK FD kA (i + (T.keys.length - (i + 1))) ((T.keys.map .string).take i ++ (T.keys.map .string).drop (i + 1)) dA (i + (T.kids.length - (i + 1))) ((rowsOf T.kids KV DV T.kids.length).take (i * 5) ++ (rowsOf T.kids KV DV T.kids.length).drop ((i + 1) * 5)))
    (hfit : Fit T.k ∧ Fit T.n ∧ T.s.size ≤ maxLen) (hlie : ∀ j (h : j < T.kids.length), Lies w0 T.kids[j] (KV j) (DV j) (FF j)) (hFD : FD = G ++ (List.range T.kids.length).flatMap FF) :
    ∃ F, Lies wr (cutT T i) kA dA F ∧ Fresh w wr F ∧ ∀ y ∈ F, w.heap.size + 2 ≤ y := by
  have hsz : ∀ j (hj : j < T.keys.length), T.keys[j].size ≤ maxLen := by
    obtain ⟨_, _, _, _, _, _, _, _, _, h4, -⟩ := h.strs
    exact fun j hj => (h4 j hj).2
  have hlk : (T.keys.take i ++ T.keys.drop (i + 1)).length = i + (T.keys.length - (i + 1)) := by simp; omega
  have hld : (T.kids.take i ++ T.kids.drop (i + 1)).length = i + (T.kids.length - (i + 1)) := by simp; omega
  have hsub : ∀ y ∈ (List.range T.kids.length).flatMap FF, y ∈ FK ++ FD := fun y hy => by rw [hFD]; exact List.mem_append_right _ (List.mem_append_right _ hy)
  have hs2 := flat_sub FF hid
  have hsub2 : ∀ y ∈ (List.range (i + (T.kids.length - (i + 1)))).flatMap (delF i FF), y ∈ FK ++ FD := fun y hy => hsub y (hs2.subset hy)
  obtain ⟨F1, f1, f2, f3⟩ := strs_owned (w := w) (wf := wr) (base := w.heap.size + 2) (t := 9) (v := kA) (ks := T.keys.take i ++ T.keys.drop (i + 1)) (by rw [hlk, List.map_append, List.map_take, List.map_drop]; exact h.ownK)
    (fun j hj => by
      rcases List.mem_append.1 (List.getElem_mem hj) with e | e
      · obtain ⟨m, hm, e⟩ := List.getElem_of_mem (List.mem_of_mem_take e)
        rw [← e]; exact hsz m hm
      · obtain ⟨m, hm, e⟩ := List.getElem_of_mem (List.mem_of_mem_drop e)
        rw [← e]; exact hsz m hm) (by omega)
  have hndD : FD.Nodup := (List.nodup_append.1 h.fresh.nodup).2.1
  have hfF : Fresh w wr ((List.range (i + (T.kids.length - (i + 1)))).flatMap (delF i FF)) := by
    refine ⟨?_, fun y hy => h.fresh.old y (hsub2 y hy), fun y hy o => (World.frozen?_of_block (w := w0) (h.same y (hsub2 y hy))).trans (h.fresh.free y (hsub2 y hy) o)⟩
    rw [hFD] at hndD
    exact hs2.nodup (List.nodup_append.1 hndD).2.1
  have hlie2 : ∀ j (hj : j < (T.kids.take i ++ T.kids.drop (i + 1)).length), Lies wr (T.kids.take i ++ T.kids.drop (i + 1))[j] (delF i KV j) (delF i DV j) (delF i FF j) := fun j hj => by
    have hg := cut_get hid j
    rw [List.getElem?_eq_getElem hj] at hg
    by_cases h1 : j < i
    · rw [if_pos h1, List.getElem?_eq_getElem (by omega)] at hg
      injection hg with hg
      simp only [delF, h1, if_true]
      rw [hg]
      exact (hlie j (by omega)).carry fun y hy => h.same y (hsub y (List.mem_flatMap.2 ⟨j, List.mem_range.2 (by omega), hy⟩))
    · rw [if_neg h1, List.getElem?_eq_getElem (by omega)] at hg
      injection hg with hg
      simp only [delF, h1, if_false]
      rw [hg]
      exact (hlie (j + 1) (by omega)).carry fun y hy => h.same y (hsub y (List.mem_flatMap.2 ⟨j + 1, List.mem_range.2 (by omega), hy⟩))
  obtain ⟨F2, k1, k2, k3⟩ := kids_owned (w := w) (wf := wr) (base := w.heap.size + 2) (t := 27) (v := dA) (kids := T.kids.take i ++ T.kids.drop (i + 1)) (KV := delF i KV) (DV := delF i DV) (FF := delF i FF) (by rw [hld, rows_del hid]; exact h.ownD) hlie2 (by rw [hld]; exact hfF) (fun g hg hx => by rw [hld] at hx; exact h.apD g hg g (.inr (hsub2 g hx)) rfl) (by omega)
  have hm : ∀ y ∈ F2, dA.ownBlock = some y ∨ y ∈ FK ++ FD := fun y hy => by
    rcases k3 y hy with e | e
    · exact .inl e
    · rw [hld] at e; exact .inr (hsub2 y e)
  refine ⟨F1 ++ F2, Lies.into hfit.1 hfit.2.1 hfit.2.2 f1 k1, ⟨List.nodup_append.2 ⟨f2.nodup, k2.nodup, fun a ha c hc e => ?_⟩, fun y hy => ?_, fun y hy => ?_⟩, fun y hy => ?_⟩
  · subst e
    have ha' := f3 a ha
    rcases hm a hc with e | e
    · exact h.apKD a ha' e
    · exact h.apK a ha' a (.inr e) rfl
  · rcases List.mem_append.1 hy with hy | hy
    · exact f2.old y hy
    · exact k2.old y hy
  · rcases List.mem_append.1 hy with hy | hy
    · exact f2.free y hy
    · exact k2.free y hy
  · rcases List.mem_append.1 hy with hy | hy
    · exact (h.ownK.lt y (f3 y hy)).1
    · rcases hm y hy with e | e
      · exact (h.ownD.lt y e).1
      · exact h.far y (.inr e)

set_option maxRecDepth 100000 in
set_option maxHeartbeats 4000000 in
theorem spec_unset_yes (T : RT) (key : ByteArray) (i : Nat) (hm : T.isMap) (hi : FirstAt T.keys key i) (w : World) (kv dv : Value) (F : List Nat) (hl : Lies w T kv dv F) (hT : T.sz ≤ 4000000) :
    Calls Tryz.prog 39 #[T.val kv dv, .string key] w fun e w' => ∃ kv' dv' F', e = .returned ((cutT T i).val kv' dv') ∧ Lies w' (cutT T i) kv' dv' F' ∧ Fresh w w' F' ∧ Below w.heap.size w w' := by
  have HX := Lib.hid (CBox.start w 27 (.int .i64 T.k) (.int .i64 T.n) (.string T.s) kv dv)
  have HC := Lib.hid (fun (w1 : World) (hb : Below w.heap.size w w1) => scopy_node T w1 kv dv F (hl.stay hb (Nat.le_refl _)) hT)
  have HFit : Hid (Fit T.k ∧ Fit T.n ∧ T.s.size ≤ maxLen) := ⟨hl.out.1, hl.out.2.1, hl.out.2.2.1⟩
  have HM := Lib.hid hm
  have hsz := keys_le T
  obtain ⟨-, -, -, FK0, -, hK0, -, -⟩ := hl.out
  have HA : Hid (∀ W : World, Below w.heap.size w W → Calls Tryz.prog 65 #[T.val kv dv, .string key] W fun e w' => e = .returned (.int .i64 i) ∧ Below W.heap.size W w') := fun W hW => by
    obtain ⟨-, -, -, FK1, FD1, hK1, hD1, -⟩ := hl.out
    obtain ⟨o', q', e'⟩ := hD1.slice
    subst e'
    have hmm : T.kids.length ≤ maxLen := by have := hsz.2; unfold maxLen; omega
    refine (spec_at_any W (hK1.stay hW (Nat.le_refl _)) T.k T.n T.s o' T.kids.length q' hmm key).mono ?_
    rintro e w' ⟨h1, hb⟩
    refine ⟨?_, hb⟩
    rcases h1 with ⟨j, hj, rfl⟩ | ⟨hn, rfl⟩
    · rw [(first_of hj.2.2).symm.trans (first_of hi)]
    · exact absurd hi.2.1 (hn hm.1 i hi.1 (by have := hm.2; have := hi.1; omega))
  obtain ⟨⟨o1, q1, rfl⟩, ⟨o2, q2, rfl⟩⟩ := hl.slices
  clear hl hK0
  show Calls Tryz.prog 39 #[.agg #[.int .i64 T.k, .int .i64 T.n, .string T.s, .slice o1 T.keys.length q1, .slice o2 T.kids.length q2], .string key] w _
  go_enter Tryz.func39, Tryz.ntmps39
  go_wp2_with fail
  refine (HC.out _ HX.out.below).mono ?_
  rintro e w1 ⟨kv1, dv1, F1, rfl, hl1, hf1, hb1⟩
  have hb0 := HX.out.next hb1
  obtain ⟨⟨o3, q3, rfl⟩, ⟨o4, q4, rfl⟩⟩ := hl1.slices
  have hba := (Below.refl _ w1).alloc (Nat.le_refl _) (.cells #[.int .i64 T.k, .int .i64 T.n, .string T.s, .slice o3 T.keys.length q3, .slice o4 T.kids.length q4] 27)
  have HU : Hid (∃ FK FD, UM w (w1.alloc (.cells #[.int .i64 T.k, .int .i64 T.n, .string T.s, .slice o3 T.keys.length q3, .slice o4 T.kids.length q4] 27)) (w1.alloc (.cells #[.int .i64 T.k, .int .i64 T.n, .string T.s, .slice o3 T.keys.length q3, .slice o4 T.kids.length q4] 27)) T (.slice o1 T.keys.length q1) (.slice o2 T.kids.length q2) w1.heap.size (.slice o3 T.keys.length q3) (.slice o4 T.kids.length q4) (.slice o3 T.keys.length q3) (.slice o4 T.kids.length q4) FK FD (.slice none 0 0) 0 [] (.slice none 0 0) 0 []) := by
    obtain ⟨-, -, -, FK, FD, hK, hD, hF⟩ := hl1.out
    subst hF
    refine ⟨FK, FD, UM.start (hb0.next hba) (heap_last w1 _) (hK.stay hba (Nat.le_refl _)) (hD.stay hba (Nat.le_refl _)) ((hf1.carry fun y hy => hba.block y (hl1.lt y hy)).earlier (by simp; omega)) ?_ (fun h => by have := hl1.lt _ h; omega)⟩
    rintro y (rfl | hy)
    · exact hb0.size
    · have := hf1.old y hy
      simp at this
      omega
  clear hl1 hf1 hb1 hb0 hba HC HX
  go_upto_region 2 with fail
  have HB1 : Hid (w1.heap.size < (w1.alloc (.cells #[.int .i64 T.k, .int .i64 T.n, .string T.s, .slice o3 T.keys.length q3, .slice o4 T.kids.length q4] 27)).heap.size) := by show _ < _; simp
  generalize (w1.alloc (.cells #[.int .i64 T.k, .int .i64 T.n, .string T.s, .slice o3 T.keys.length q3, .slice o4 T.kids.length q4] 27)) = w2 at *
  generalize w1.heap.size = B at *
  clear w1
  obtain ⟨FK, FD, hU2⟩ := HU.out
  have HU2 := Lib.hid hU2
  clear hU2 HU
  obtain ⟨x0, x1, x2, x3, x4, -⟩ := five HU2.out.cbox.box
  clear hm
  go_wp2_with fail
  refine (HA.out _ HU2.out.cbox.below).mono ?_
  rintro e w3 ⟨rfl, hb3⟩
  have HU3 := Lib.hid (HU2.out.next hb3)
  clear hb3 x0 x1 x2 x3 x4
  obtain ⟨x0, x1, x2, x3, x4, -⟩ := five HU3.out.cbox.box
  rw [HM.out.1] at x0
  rw [← HM.out.2] at x4
  go_upto_region 4 with fail
  have hik : i < T.keys.length := hi.1
  have hid : i < T.kids.length := by have := HM.out.2; omega
  have hq3 : T.keys.length ≤ q3 ∧ q3 ≤ 9223372036854775807 := by
    obtain ⟨o, cap, b, off, hdv, h1, h2, _⟩ := HU3.out.strs
    injection hdv with e1 e2 e3
    unfold maxLen at h2
    omega
  have hq4 : T.kids.length ≤ q4 ∧ q4 ≤ 9223372036854775807 := by
    obtain ⟨o, cap, b, off, _, _, _, hdv, h1, h2, _⟩ := HU3.out.kids
    injection hdv with e1 e2 e3
    unfold maxLen at h2
    omega
  obtain ⟨A1, A2, s1, s2, hA12⟩ := cutK o3 T.keys.length q3 i hik hq3.1
  obtain ⟨A3, A4, s3, s4, hA34⟩ := cutD o4 T.kids.length q4 i hid hq4.1
  obtain ⟨KV, DV, FF, G, hlie, hFD, hrow⟩ := kids_rows HU3.out.kids
  have HOne := Lib.hid (rows_one hlie)
  have HSrc : Hid (∀ W : World, (∀ y ∈ FK ++ FD, W.heap[y]? = w2.heap[y]?) →
      (∀ j u, ((T.keys.map Value.string).take i)[j]? = some u → ∃ ad, A1 = some ad ∧ W.cell? (ad.add j) = some u) ∧ (∀ j u, ((T.keys.map Value.string).drop (i + 1))[j]? = some u → ∃ ad, A2 = some ad ∧ W.cell? (ad.add j) = some u) ∧
      (∀ j u, ((rowsOf T.kids KV DV T.kids.length).take (i * 5))[j]? = some u → ∃ ad, A3 = some ad ∧ W.cell? (ad.add j) = some u) ∧ (∀ j u, ((rowsOf T.kids KV DV T.kids.length).drop ((i + 1) * 5))[j]? = some u → ∃ ad, A4 = some ad ∧ W.cell? (ad.add j) = some u)) := fun W hW => by
    have hks : ∀ b off, o3 = some ⟨b, off, none⟩ → ∀ j u, (T.keys.map Value.string)[j]? = some u → W.cell? ⟨b, off + j, none⟩ = some u := fun b off e j u hu => by
      obtain ⟨o, cap, b', off', e', h1, h2, h3, hF, h4, -⟩ := HU3.out.strs
      rw [List.getElem?_map] at hu
      obtain ⟨x, hx, rfl⟩ := Option.map_eq_some_iff.1 hu
      obtain ⟨hj, rfl⟩ := List.getElem?_eq_some_iff.1 hx
      injection e' with e1 e2 e3
      have h5 := h3 (by omega)
      rw [← e1, e] at h5
      injection h5 with h5
      injection h5 with e4 e5
      subst e4 e5
      rw [World.cell?_of_block (w := w2) (hW b (List.mem_append_left _ (by rw [hF, if_neg (by omega)]; simp)))]
      exact (h4 j hj).1
    obtain ⟨b3, off3, e3⟩ : ∃ b off, o3 = some ⟨b, off, none⟩ := by
      obtain ⟨o, cap, b, off, hdv, hlc, _, ho, _⟩ := HU3.out.strs
      injection hdv with e1 e2 e3
      exact ⟨b, off, by rw [e1]; exact ho (by omega)⟩
    obtain ⟨b4, off4, e4⟩ : ∃ b off, o4 = some ⟨b, off, none⟩ := by
      obtain ⟨o, cap, b, off, _, _, _, hdv, hlc, _, ho, _⟩ := HU3.out.kids
      injection hdv with e1 e2 e3
      exact ⟨b, off, by rw [e1]; exact ho (by omega)⟩
    obtain ⟨a1, a2⟩ := hA12 b3 off3 e3
    obtain ⟨a3, a4⟩ := hA34 b4 off4 e4
    have hkd := hrow b4 off4 q4 (by rw [e4]) W (fun y hy => hW y (List.mem_append_right _ hy))
    refine ⟨fun j u hu => ?_, fun j u hu => ?_, fun j u hu => ?_, fun j u hu => ?_⟩
    · refine ⟨_, a1, ?_⟩
      rw [Go.WideShapes.add_plain]
      rw [List.getElem?_take] at hu
      split at hu
      · exact hks b3 off3 e3 j u hu
      · cases hu
    · rw [List.getElem?_drop] at hu
      have hl : i + 1 + j < T.keys.length := by
        have := (List.getElem?_eq_some_iff.1 hu).1
        simpa using this
      refine ⟨_, a2 (by omega), ?_⟩
      rw [Go.WideShapes.add_plain, Nat.add_assoc]
      exact hks b3 off3 e3 (i + 1 + j) u hu
    · refine ⟨_, a3, ?_⟩
      rw [Go.WideShapes.add_plain]
      rw [List.getElem?_take] at hu
      split at hu
      · exact hkd j u hu
      · cases hu
    · rw [List.getElem?_drop] at hu
      have hl : (i + 1) * 5 + j < T.kids.length * 5 := by
        have := (List.getElem?_eq_some_iff.1 hu).1
        rwa [rowsOf_length] at this
      refine ⟨_, a4 (by omega), ?_⟩
      rw [Go.WideShapes.add_plain, Nat.add_assoc]
      exact hkd ((i + 1) * 5 + j) u hu
  have HQ : Hid (T.keys.length ≤ 4000000 ∧ T.kids.length ≤ 4000000) := by show _ ∧ _; omega
  have HLK : Hid (((T.keys.map Value.string).take i).length = i ∧ ((T.keys.map Value.string).drop (i + 1)).length = T.keys.length - (i + 1)) := by show _ ∧ _; simp; omega
  have HLD : Hid (((rowsOf T.kids KV DV T.kids.length).take (i * 5)).length = i * 5 ∧ ((rowsOf T.kids KV DV T.kids.length).drop ((i + 1) * 5)).length = (T.kids.length - (i + 1)) * 5) := by show _ ∧ _; rw [List.length_take, List.length_drop, rowsOf_length]; omega
  have HLie := Lib.hid hlie
  have HFD := Lib.hid hFD
  have HI := Lib.hid hi
  have hi0 : (0 : Int) ≤ (i : Int) := by omega
  have hi1 : (i : Int) ≤ (q3 : Int) := by omega
  have hi2 : (i : Int) ≤ (T.keys.length : Int) := by omega
  have hi3 : (i : Int) + 1 ≤ (T.keys.length : Int) := by omega
  have hi4 : (i : Int) + 1 ≤ 9223372036854775807 := by omega
  have hi5 : IntKind.i64.wrap ((i : Int) + 1) = (i : Int) + 1 := by rw [IntKind.wrap_i64]; omega
  clear hlie hFD hrow hA12 hA34 hi hsz
  go_cut [6] (fun p wc => ∃ (o12 : Option Addr) (c12 : Nat), p = .int .i64 i ∧ Hid (UM w w2 wc T (.slice o1 T.keys.length q1) (.slice o2 T.kids.length q2) B (.slice o12 (i + (T.keys.length - (i + 1))) c12) (.slice o4 T.kids.length q4) (.slice o3 T.keys.length q3) (.slice o4 T.kids.length q4) FK FD (.slice o12 (i + (T.keys.length - (i + 1))) c12) (i + (T.keys.length - (i + 1))) ((T.keys.map .string).take i ++ (T.keys.map .string).drop (i + 1)) (.slice none 0 0) 0 []))
  case first =>
    have HN := Lib.hid (HU3.out.newK.next (below_drewN (Below.refl _ (w3.alloc (.cells #[] 9))) 1))
    have t1 : True := trivial
    obtain ⟨y0, y1, y2, y3, y4, y5⟩ := five HU3.out.out
    have m3 : ∀ ob, (w3.alloc ob).cell? ⟨B, 3, none⟩ = _ := fun ob => (World.cell?_alloc_lt w3 ob ⟨B, 3, none⟩ (HU3.out.lt B (.inl rfl))).trans y3
    go_region_law (first
      | (clear t1
         refine step_append_run (by rfl) _ _ 24 (by rfl) (.slice (some ⟨w3.heap.size, 0, none⟩) 0 0) (.slice A1 i q3) (by rfl) (by rfl) (HN.out.runK A1 i q3 ((T.keys.map .string).take i) HLK.out.1 (HSrc.out _ fun y hy => HN.out.same y hy).1 (fun u hu => strs_one _ u (List.mem_of_mem_take hu)) (Nat.zero_add i) (by have := HQ.out; omega) _) ?_
         rintro v11 w11 ⟨o11, c11, rfl, hm11⟩
         have H11 := Lib.hid hm11
         obtain ⟨u0, u1, u2, u3, u4, u5⟩ := five H11.out.out
         clear hm11)
      | (refine step_append_run (by rfl) _ _ 24 (by rfl) (.slice o11 i c11) (.slice A2 (T.keys.length - (i + 1)) (q3 - (i + 1))) (by rfl) (by rfl) (H11.out.runK A2 (T.keys.length - (i + 1)) (q3 - (i + 1)) ((T.keys.map .string).drop (i + 1)) HLK.out.2 (HSrc.out _ fun y hy => H11.out.same y hy).2.1 (fun u hu => strs_one _ u (List.mem_of_mem_drop hu)) rfl (by have := HQ.out; omega) _) ?_
         rintro v12 w12 ⟨o12, c12, rfl, hm12⟩
         have H12 := Lib.hid hm12
         obtain ⟨v0, v1, v2, v3, v4, v5⟩ := five H12.out.out
         clear hm12)
      | fail)
    all_goals
      go_wp2_with fail
      go_meet
      exact ⟨o12, c12, rfl, H12.out.set3 _⟩
  case rest =>
    obtain ⟨o12, c12, rfl, HU12⟩ := hcut
    clear x0 x1 x2 x3 x4 HU3
    obtain ⟨y0, y1, y2, y3, y4, y5⟩ := five HU12.out.out
    go_upto_region 6 with fail
    have HN := Lib.hid (HU12.out.newD.next (below_drewN (Below.refl _ (wc.alloc (.cells #[] 27))) 1))
    have hi6 : (i : Int) ≤ (q4 : Int) := by omega
    have hi7 : (i : Int) ≤ (T.kids.length : Int) := by omega
    have hi8 : (i : Int) + 1 ≤ (T.kids.length : Int) := by omega
    have m4 : ∀ ob, (wc.alloc ob).cell? ⟨B, 4, none⟩ = _ := fun ob => (World.cell?_alloc_lt wc ob ⟨B, 4, none⟩ (HU12.out.lt B (.inl rfl))).trans y4
    have t1 : True := trivial
    go_cut [6] (fun p wd => ∃ (o22 : Option Addr) (c22 : Nat), p = .int .i64 i ∧ Hid (UM w w2 wd T (.slice o1 T.keys.length q1) (.slice o2 T.kids.length q2) B (.slice o12 (i + (T.keys.length - (i + 1))) c12) (.slice o22 (i + (T.kids.length - (i + 1))) c22) (.slice o3 T.keys.length q3) (.slice o4 T.kids.length q4) FK FD (.slice o12 (i + (T.keys.length - (i + 1))) c12) (i + (T.keys.length - (i + 1))) ((T.keys.map .string).take i ++ (T.keys.map .string).drop (i + 1)) (.slice o22 (i + (T.kids.length - (i + 1))) c22) (i + (T.kids.length - (i + 1))) ((rowsOf T.kids KV DV T.kids.length).take (i * 5) ++ (rowsOf T.kids KV DV T.kids.length).drop ((i + 1) * 5))))
    case first =>
      go_region_law (first
        | (clear t1
           refine step_append_run (by rfl) _ _ 25 (by rfl) (.slice (some ⟨wc.heap.size, 0, none⟩) 0 0) (.slice A3 i q4) (by rfl) (by rfl) (HN.out.runD A3 i q4 ((rowsOf T.kids KV DV T.kids.length).take (i * 5)) HLD.out.1 (HSrc.out _ fun y hy => HN.out.same y hy).2.2.1 (fun u hu => HOne.out u (List.mem_of_mem_take hu)) (Nat.zero_add i) (by have := HQ.out; omega) _) ?_
           rintro v11 w11 ⟨o11, c11, rfl, hm11⟩
           have H11 := Lib.hid hm11
           obtain ⟨u0, u1, u2, u3, u4, u5⟩ := five H11.out.out
           clear hm11)
        | (refine step_append_run (by rfl) _ _ 25 (by rfl) (.slice o11 i c11) (.slice A4 (T.kids.length - (i + 1)) (q4 - (i + 1))) (by rfl) (by rfl) (H11.out.runD A4 (T.kids.length - (i + 1)) (q4 - (i + 1)) ((rowsOf T.kids KV DV T.kids.length).drop ((i + 1) * 5)) HLD.out.2 (HSrc.out _ fun y hy => H11.out.same y hy).2.2.2 (fun u hu => HOne.out u (List.mem_of_mem_drop hu)) rfl (by have := HQ.out; omega) _) ?_
           rintro v22 w22 ⟨o22, c22, rfl, hm22⟩
           have H22 := Lib.hid hm22
           obtain ⟨v0, v1, v2, v3, v4, v5⟩ := five H22.out.out
           clear hm22)
        | fail)
      all_goals
        go_wp2_with fail
        go_meet
        exact ⟨o22, c22, rfl, H22.out.set4 _⟩
    case rest =>
      obtain ⟨o22, c22, rfl, HU22⟩ := hcut
      obtain ⟨F', hl', hf', hfar'⟩ := UM.done (by omega) (by omega) HU22.out HFit.out HLie.out HFD.out
      obtain ⟨y0, y1, y2, y3, y4, y5⟩ := five HU22.out.out
      obtain ⟨z0, z1, z2, z3, z4, z5⟩ := five HU22.out.cbox.res
      have neB : ¬ (w.heap.size + 1 = B) := by have := HU22.out.far B (.inl rfl); omega
      have neC : ¬ (B = w.heap.size + 1) := by omega
      have keep : ∀ y ∈ F', (set5 wc (w.heap.size + 1) 0 (.int .i64 T.k) (.int .i64 T.n) (.string T.s) (.slice o12 (i + (T.keys.length - (i + 1))) c12) (.slice o22 (i + (T.kids.length - (i + 1))) c22)).heap[y]? = wc.heap[y]? := fun y hy => set5_other _ _ _ _ _ _ _ _ _ (by have := hfar' y hy; omega)
      have HE := Lib.hid (And.intro (set5_end HU22.out.cbox.res (.int .i64 T.k) (.int .i64 T.n) (.string T.s) (.slice o12 (i + (T.keys.length - (i + 1))) c12) (.slice o22 (i + (T.kids.length - (i + 1))) c22)) (And.intro (hl'.carry keep) (And.intro (hf'.carry keep) (set5_below HU22.out.cbox.below (b := w.heap.size + 1) (by omega) 0 (.int .i64 T.k) (.int .i64 T.n) (.string T.s) (.slice o12 (i + (T.keys.length - (i + 1))) c12) (.slice o22 (i + (T.kids.length - (i + 1))) c22)))))
      clear hl' hf' hfar' keep HU22 HU12
      go_wp2
      exact bodyPost_ret (ret_node Tryz.results39 rfl HE.out.1) rfl ⟨_, _, F', rfl, HE.out.2⟩
end Go.Proofs.YtelpkcbbipianaaGreat
