/-
  What is proved: the program's Set answers the map with the tree at its key (the tree itself, where it is no map), in memory of its own.
-/
import Derived.Test.YtfmkhogpnnobeaaGreatDoorPartAG
import Derived.Test.YtfmkhogpnnobeaaGreatDoorPartAD
import Derived.Test.YtfmkhogpnnobeaaGreatDoorInsN
namespace Go.Proofs.YtfmkhogpnnobeaaGreatDoor
open Go Go.RowKit

/-- Where Set stands: the node that it was handed, the node to be set, and what it answers, each in its block. -/
structure SBox (w wr : World) (a b c d e a' b' c' d' e' : Value) : Prop where
  below : Below w.heap.size w wr
  size : w.heap.size + 3 ≤ wr.heap.size
  box : wr.heap[w.heap.size]? = some (.cells #[a, b, c, d, e] 32 (0, 0))
  bx : wr.heap[w.heap.size + 1]? = some (.cells #[a', b', c', d', e'] 32 (0, 0))
  res : wr.heap[w.heap.size + 1 + 1]? = some (.cells #[.int .i64 0, .int .i64 0, .string ⟨#[]⟩, .slice none 0 0, .slice none 0 0] 32 (0, 0))

section
variable {w wr w1 : World} {a b c d e a' b' c' d' e' : Value}

theorem SBox.start (w : World) (a b c d e a' b' c' d' e' : Value) :
    SBox w (((w.alloc (.cells #[a, b, c, d, e] 32)).alloc (.cells #[a', b', c', d', e'] 32)).alloc (.cells #[.int .i64 0, .int .i64 0, .string ⟨#[]⟩, .slice none 0 0, .slice none 0 0] 32)) a b c d e a' b' c' d' e' := by
  obtain ⟨h1, h2, h3, h4, h5⟩ := zero_blocks w (.cells #[a, b, c, d, e] 32) (.cells #[a', b', c', d', e'] 32) (.cells #[.int .i64 0, .int .i64 0, .string ⟨#[]⟩, .slice none 0 0, .slice none 0 0] 32)
  exact ⟨h4, by omega, h1, h2, h3⟩

theorem SBox.next (h : SBox w wr a b c d e a' b' c' d' e') (hb : Below wr.heap.size wr w1) : SBox w w1 a b c d e a' b' c' d' e' :=
  ⟨h.below.trans (hb.mono h.below.size), Nat.le_trans h.size hb.size, (hb.block _ (by have := h.size; omega)).trans h.box, (hb.block _ (by have := h.size; omega)).trans h.bx, (hb.block _ (by have := h.size; omega)).trans h.res⟩

theorem set5_size (w : World) (b o : Nat) (v0 v1 v2 v3 v4 : Value) : (set5 w b o v0 v1 v2 v3 v4).heap.size = w.heap.size := by simp [set5, World.setCell]

theorem SBox.put (h : SBox w wr a b c d e a' b' c' d' e') (v0 v1 v2 v3 v4 : Value) : SBox w (set5 wr w.heap.size 0 v0 v1 v2 v3 v4) v0 v1 v2 v3 v4 a' b' c' d' e' :=
  ⟨set5_below h.below (Nat.le_refl _) _ _ _ _ _ _, by rw [set5_size]; exact h.size, set5_end h.box _ _ _ _ _, (set5_other _ _ _ _ _ _ _ _ _ (by omega)).trans h.bx, (set5_other _ _ _ _ _ _ _ _ _ (by omega)).trans h.res⟩

theorem SBox.putx (h : SBox w wr a b c d e a' b' c' d' e') (v0 v1 v2 v3 v4 : Value) : SBox w (set5 wr (w.heap.size + 1) 0 v0 v1 v2 v3 v4) a b c d e v0 v1 v2 v3 v4 :=
  ⟨set5_below h.below (by omega) _ _ _ _ _ _, by rw [set5_size]; exact h.size, (set5_other _ _ _ _ _ _ _ _ _ (by omega)).trans h.box, set5_end h.bx _ _ _ _ _, (set5_other _ _ _ _ _ _ _ _ _ (by omega)).trans h.res⟩

theorem SBox.far (h : SBox w wr a b c d e a' b' c' d' e') {x : Nat} (hx : w.heap.size + 3 ≤ x) (o : Nat) (v0 v1 v2 v3 v4 : Value) : SBox w (set5 wr x o v0 v1 v2 v3 v4) a b c d e a' b' c' d' e' :=
  ⟨set5_below h.below (by omega) _ _ _ _ _ _, by rw [set5_size]; exact h.size, (set5_other _ _ _ _ _ _ _ _ _ (by omega)).trans h.box, (set5_other _ _ _ _ _ _ _ _ _ (by omega)).trans h.bx, (set5_other _ _ _ _ _ _ _ _ _ (by omega)).trans h.res⟩

theorem SBox.grow (h : SBox w wr a b c d e a' b' c' d' e') {row : Option Nat} (hg : wr.grownBy w1 row) (hr : ∀ x, row = some x → w.heap.size + 3 ≤ x) : SBox w w1 a b c d e a' b' c' d' e' :=
  ⟨h.below.grown hg h.below.size (fun k e => by have := hr k e; omega), Nat.le_trans h.size hg.size, (hg.block _ (by have := h.size; omega) (fun e => by have := hr _ e.symm; omega)).trans h.box,
    (hg.block _ (by have := h.size; omega) (fun e => by have := hr _ e.symm; omega)).trans h.bx, (hg.block _ (by have := h.size; omega) (fun e => by have := hr _ e.symm; omega)).trans h.res⟩

/-- One cell of the node that it was handed. -/
theorem SBox.keys (h : SBox w wr a b c d e a' b' c' d' e') (v : Value) : SBox w (wr.setCell ⟨w.heap.size, 3, none⟩ v) a b c v e a' b' c' d' e' :=
  ⟨h.below.setCell (Nat.le_refl _) _, by have := h.size; simpa [World.setCell] using this, heap_set h.box 3 v, (Below.heap_setCell _ _ _ _ (by show _ ≠ w.heap.size; omega)).trans h.bx, (Below.heap_setCell _ _ _ _ (by show _ ≠ w.heap.size; omega)).trans h.res⟩
theorem SBox.kids (h : SBox w wr a b c d e a' b' c' d' e') (v : Value) : SBox w (wr.setCell ⟨w.heap.size, 4, none⟩ v) a b c d v a' b' c' d' e' :=
  ⟨h.below.setCell (Nat.le_refl _) _, by have := h.size; simpa [World.setCell] using this, heap_set h.box 4 v, (Below.heap_setCell _ _ _ _ (by show _ ≠ w.heap.size; omega)).trans h.bx, (Below.heap_setCell _ _ _ _ (by show _ ≠ w.heap.size; omega)).trans h.res⟩
end

/-- Both copied: the tree, its two lists whole, and the tree to be set. -/
structure SCop (w wr : World) (T X : RT) (kv dv kx dx : Value) (FK FD FX : List Nat) : Prop where
  fit : Fit T.k ∧ Fit T.n ∧ T.s.size ≤ maxLen
  strs : StrsAt wr kv T.keys FK
  kids : KidsLie wr dv T.kids FD
  x : Lies wr X kx dx FX
  fresh : Fresh w wr (FK ++ FD)
  freshX : Fresh w wr FX
  far : ∀ y, y ∈ FK ++ FD ∨ y ∈ FX → w.heap.size + 3 ≤ y
  apart : ∀ y ∈ FX, y ∉ FK ++ FD
  wk : Whole wr (w.heap.size + 3) 9 1 kv
  wd : Whole wr (w.heap.size + 3) 32 5 dv

section
variable {w wr w1 : World} {T X : RT} {kv dv kx dx : Value} {FK FD FX : List Nat}

theorem SCop.next (h : SCop w wr T X kv dv kx dx FK FD FX) (hb : Below wr.heap.size wr w1) : SCop w w1 T X kv dv kx dx FK FD FX :=
  ⟨h.fit, h.strs.stay hb (Nat.le_refl _), h.kids.stay hb (Nat.le_refl _), h.x.stay hb (Nat.le_refl _), h.fresh.carry fun y hy => hb.block y (by
      rcases List.mem_append.1 hy with hy | hy
      · exact h.strs.lt y hy
      · exact h.kids.lt y hy), h.freshX.carry fun y hy => hb.block y (h.x.lt y hy), h.far, h.apart, h.wk.stay hb, h.wd.stay hb⟩

/-- A store into one of the function's own blocks. -/
theorem SCop.box (h : SCop w wr T X kv dv kx dx FK FD FX) {p : Addr} (hp : p.block < w.heap.size + 3) (u : Value) : SCop w (wr.setCell p u) T X kv dv kx dx FK FD FX := by
  have keep : ∀ y, w.heap.size + 3 ≤ y → (wr.setCell p u).heap[y]? = wr.heap[y]? := fun y hy => Below.heap_setCell _ _ _ _ (by omega)
  exact ⟨h.fit, h.strs.carry fun y hy => keep y (h.far y (.inl (List.mem_append_left _ hy))), h.kids.carry fun y hy => keep y (h.far y (.inl (List.mem_append_right _ hy))), h.x.carry fun y hy => keep y (h.far y (.inr hy)), h.fresh.carry fun y hy => keep y (h.far y (.inl hy)), h.freshX.carry fun y hy => keep y (h.far y (.inr hy)), h.far, h.apart, h.wk.carry (Nat.le_refl _) fun y hy _ => keep y hy, h.wd.carry (Nat.le_refl _) fun y hy _ => keep y hy⟩

/-- What is answered, stored into its block. -/
theorem set_fin {a b c d e a' b' c' d' e' : Value} (hx : SBox w wr a b c d e a' b' c' d' e') {R : RT} {kr dr : Value} {F : List Nat} (hl : Lies wr R kr dr F) (hf : Fresh w wr F) (hfar : ∀ y ∈ F, w.heap.size + 3 ≤ y) :
    (set5 wr (w.heap.size + 1 + 1) 0 (.int .i64 R.k) (.int .i64 R.n) (.string R.s) kr dr).heap[w.heap.size + 1 + 1]? = some (.cells #[.int .i64 R.k, .int .i64 R.n, .string R.s, kr, dr] 32 (0, 0)) ∧
    Lies (set5 wr (w.heap.size + 1 + 1) 0 (.int .i64 R.k) (.int .i64 R.n) (.string R.s) kr dr) R kr dr F ∧ Fresh w (set5 wr (w.heap.size + 1 + 1) 0 (.int .i64 R.k) (.int .i64 R.n) (.string R.s) kr dr) F ∧
    Below w.heap.size w (set5 wr (w.heap.size + 1 + 1) 0 (.int .i64 R.k) (.int .i64 R.n) (.string R.s) kr dr) := by
  have keep : ∀ x ∈ F, (set5 wr (w.heap.size + 1 + 1) 0 (.int .i64 R.k) (.int .i64 R.n) (.string R.s) kr dr).heap[x]? = wr.heap[x]? := fun x hxm => set5_other _ _ _ _ _ _ _ _ _ (by have := hfar x hxm; omega)
  exact ⟨set5_end hx.res _ _ _ _ _, hl.carry keep, hf.carry keep, set5_below hx.below (by omega) _ _ _ _ _ _⟩

/-- The first copy has been stored into the block of what was handed. -/
theorem copied_put {w1 : World} {w0 : World} (h0 : w0.heap.size = w.heap.size + 3) {k v : Value} {F : List Nat} (hl : Lies w1 T k v F) (hf : Fresh w0 w1 F) (hk : Whole w1 w0.heap.size 9 1 k) (hd : Whole w1 w0.heap.size 32 5 v) (v0 v1 v2 v3 v4 : Value) (B : Nat) (hB : B < w.heap.size + 3) :
    Lies (set5 w1 B 0 v0 v1 v2 v3 v4) T k v F ∧ Fresh w (set5 w1 B 0 v0 v1 v2 v3 v4) F ∧ (∀ y ∈ F, w.heap.size + 3 ≤ y) ∧ Whole (set5 w1 B 0 v0 v1 v2 v3 v4) (w.heap.size + 3) 9 1 k ∧ Whole (set5 w1 B 0 v0 v1 v2 v3 v4) (w.heap.size + 3) 32 5 v := by
  rw [h0] at hk hd
  have hfar : ∀ y ∈ F, w.heap.size + 3 ≤ y := fun y hy => by have := hf.old y hy; omega
  have keep : ∀ y ∈ F, (set5 w1 B 0 v0 v1 v2 v3 v4).heap[y]? = w1.heap[y]? := fun y hy => set5_other _ _ _ _ _ _ _ _ _ (by have := hfar y hy; omega)
  exact ⟨hl.carry keep, (hf.carry keep).earlier (by omega), hfar, hk.carry (Nat.le_refl _) fun y hy _ => set5_other _ _ _ _ _ _ _ _ _ (by omega), hd.carry (Nat.le_refl _) fun y hy _ => set5_other _ _ _ _ _ _ _ _ _ (by omega)⟩
end

theorem rows_one {wr : World} {kids : List RT} {KV DV : Nat → Value} {FF : Nat → List Nat} (h : ∀ j (h : j < kids.length), Lies wr kids[j] (KV j) (DV j) (FF j)) : ∀ u ∈ rowsOf kids KV DV kids.length, u.oneCell' = true := fun u hu => by
  obtain ⟨j, hj, hu⟩ := List.mem_flatMap.1 hu
  obtain ⟨⟨o1, q1, e1⟩, ⟨o2, q2, e2⟩⟩ := (h j (List.mem_range.1 hj)).slices
  rw [e1, e2] at hu
  simp only [RT.row, List.mem_cons, List.not_mem_nil, or_false] at hu
  rcases hu with h | h | h | h | h <;> rw [h] <;> rfl

theorem row_one (X : RT) (o1 o2 : Option Addr) (l1 l2 c1 c2 : Nat) : ∀ u ∈ X.row (.slice o1 l1 c1) (.slice o2 l2 c2), u.oneCell' = true := fun u hu => by
  simp only [RT.row, List.mem_cons, List.not_mem_nil, or_false] at hu
  rcases hu with h | h | h | h | h <;> rw [h] <;> rfl

theorem keys_le (T : RT) : T.keys.length ≤ T.sz ∧ T.kids.length ≤ T.sz := by
  cases T
  simp only [RT.keys, RT.kids, RT.sz]
  omega

theorem nodup_of {A B : List Nat} (h : (A ++ B).Nodup) : ∀ x ∈ A, x ∉ B := fun x hx hx' => (List.nodup_append.1 h).2.2 x hx x hx' rfl

/-- The key has been put into the list of keys. -/
theorem SCop.keysIns {w wr w2 w3 : World} {T X : RT} {kv dv kx dx : Value} {FK FD FX : List Nat} (h : SCop w wr T X kv dv kx dx FK FD FX) (hb : Below wr.heap.size wr w2) (hgrow : w2.grownBy w3 kv.ownBlock) {g cap i : Nat} {key : ByteArray} (hi : i ≤ T.keys.length) (hks : key.size ≤ maxLen)
    (hown : w3.ownsRow (w.heap.size + 3) 9 1 (.slice (some ⟨g, 0, none⟩) (T.keys.length + 1) cap) (T.keys.length + 1) ((T.keys.map .string).take (i * 1) ++ [.string key] ++ (T.keys.map .string).drop (i * 1))) (hat : kv.ownBlock = some g ∨ g = w2.heap.size) :
    ∃ FK', SCop w w3 (.node T.k T.n T.s (insAt T.keys i key) T.kids) X (.slice (some ⟨g, 0, none⟩) (T.keys.length + 1) cap) dv kx dx FK' FD FX := by
  have hl := insAt_length key hi
  have hsz : ∀ j (hj : j < T.keys.length), T.keys[j].size ≤ maxLen := by
    obtain ⟨_, _, _, _, _, _, _, _, _, h4, -⟩ := h.strs
    exact fun j hj => (h4 j hj).2
  have hko := (owns_of_strs h.strs h.wk).2
  have hnd := nodup_of h.fresh.nodup
  have hKlt : ∀ y ∈ FK, y < wr.heap.size := h.strs.lt
  obtain ⟨F, f1, f2, f3⟩ := strs_owned (w := w) (wf := w3) (base := w.heap.size + 3) (t := 9) (v := .slice (some ⟨g, 0, none⟩) (T.keys.length + 1) cap) (ks := insAt T.keys i key) (by rw [hl]; simpa [insAt] using hown)
    (fun j hj => by
      rcases insAt_mem (List.getElem_mem hj) with e | e
      · rw [e]; exact hks
      · obtain ⟨m, hm, e⟩ := List.getElem_of_mem e
        rw [← e]; exact hsz m hm) (by omega)
  have hg : ∀ y ∈ F, y = g := fun y hy => by have := f3 y hy; simpa [Value.ownBlock] using this.symm
  have hgD : ∀ y, y ∈ FD ∨ y ∈ FX → y ≠ g := fun y hy e => by
    subst e
    rcases hat with e | e
    · rcases hy with hy | hy
      · exact hnd y (hko y e) hy
      · exact h.apart y hy (List.mem_append_left _ (hko y e))
    · have h1 : y < wr.heap.size := by rcases hy with hy | hy; exact h.kids.lt y hy; exact h.x.lt y hy
      have := hb.size
      omega
  have keep : ∀ y, y ∈ FD ∨ y ∈ FX → w3.heap[y]? = wr.heap[y]? := fun y hy => by
    have h1 : y < wr.heap.size := by rcases hy with hy | hy; exact h.kids.lt y hy; exact h.x.lt y hy
    rw [hgrow.block y (Nat.lt_of_lt_of_le h1 hb.size) (fun e => ?_), hb.block y h1]
    have hyK := hko y e.symm
    rcases hy with hy | hy
    · exact hnd y hyK hy
    · exact h.apart y hy (List.mem_append_left _ hyK)
  have hfD : Fresh w wr FD := ⟨(List.nodup_append.1 h.fresh.nodup).2.1, fun y hy => h.fresh.old y (List.mem_append_right _ hy), fun y hy => h.fresh.free y (List.mem_append_right _ hy)⟩
  have hfD3 := hfD.carry (w2 := w3) fun y hy => keep y (.inl hy)
  have hgfar : w.heap.size + 3 ≤ g := by
    rcases hown.2 with ⟨h0, _⟩ | ⟨g', cap', cur, hv, hg', _⟩
    · cases h0
    · injection hv with e1
      injection e1 with e1
      injection e1 with e1
      omega
  refine ⟨F, h.fit, f1, h.kids.carry fun y hy => keep y (.inl hy), h.x.carry fun y hy => keep y (.inr hy), ⟨List.nodup_append.2 ⟨f2.nodup, hfD.nodup, fun a ha c hc e => ?_⟩, fun y hy => ?_, fun y hy => ?_⟩, h.freshX.carry fun y hy => keep y (.inr hy), fun y hy => ?_, fun y hy hy' => ?_, Whole.of_owns hown (fun h0 => by omega), ?_⟩
  · subst e
    exact hgD a (.inl hc) (hg a ha)
  · rcases List.mem_append.1 hy with hy | hy
    · exact f2.old y hy
    · exact hfD3.old y hy
  · rcases List.mem_append.1 hy with hy | hy
    · exact f2.free y hy
    · exact hfD3.free y hy
  · rcases hy with hy | hy
    · rcases List.mem_append.1 hy with hy | hy
      · rw [hg y hy]; exact hgfar
      · exact h.far y (.inl (List.mem_append_right _ hy))
    · exact h.far y (.inr hy)
  · rcases List.mem_append.1 hy' with hy' | hy'
    · exact hgD y (.inr hy) (hg y hy')
    · exact h.apart y hy (List.mem_append_right _ hy')
  · rcases h.wd with e | ⟨g', n, cap', cur, e, hn, hge, hh, r⟩
    · exact .inl e
    · refine .inr ⟨g', n, cap', cur, e, hn, hge, (keep g' (.inl ?_)).trans hh, r⟩
      obtain ⟨_, _, _, G, _, _, hF, hG⟩ := owns_of_kids h.kids h.wd
      rw [hF]
      exact List.mem_append_left _ (hG g' (by rw [e]; rfl))

/-- The tree has been put into the list of kids. -/
theorem SCop.kidsIns {w wr w2 w3 : World} {T X : RT} {kv dv kx dx : Value} {FK FD FX : List Nat} (h : SCop w wr T X kv dv kx dx FK FD FX) (hb : Below wr.heap.size wr w2) (hgrow : w2.grownBy w3 dv.ownBlock) {g cap i : Nat} (hi : i ≤ T.kids.length)
    {KV DV : Nat → Value} {FF : Nat → List Nat} {G : List Nat} (hlie : ∀ j (h : j < T.kids.length), Lies wr T.kids[j] (KV j) (DV j) (FF j)) (hFD : FD = G ++ (List.range T.kids.length).flatMap FF) (hG : ∀ x, dv.ownBlock = some x → x ∈ G)
    (hown : w3.ownsRow (w.heap.size + 3) 32 5 (.slice (some ⟨g, 0, none⟩) (T.kids.length + 1) cap) (T.kids.length + 1) ((rowsOf T.kids KV DV T.kids.length).take (i * 5) ++ X.row kx dx ++ (rowsOf T.kids KV DV T.kids.length).drop (i * 5))) (hat : dv.ownBlock = some g ∨ g = w2.heap.size) :
    ∃ F, Lies w3 (.node T.k T.n T.s T.keys (insAt T.kids i X)) kv (.slice (some ⟨g, 0, none⟩) (T.kids.length + 1) cap) (FK ++ F) ∧ Fresh w w3 (FK ++ F) ∧ ∀ y ∈ FK ++ F, w.heap.size + 3 ≤ y := by
  have hnd := nodup_of h.fresh.nodup
  have hndD : FD.Nodup := (List.nodup_append.1 h.fresh.nodup).2.1
  have hsubD : ∀ y ∈ (List.range T.kids.length).flatMap FF, y ∈ FD := fun y hy => by rw [hFD]; exact List.mem_append_right _ hy
  have hGD : ∀ y ∈ G, y ∈ FD ∧ y ∉ (List.range T.kids.length).flatMap FF := fun y hy => ⟨by rw [hFD]; exact List.mem_append_left _ hy, by rw [hFD] at hndD; exact nodup_of hndD y hy⟩
  have hlt : ∀ y, y ∈ FK ∨ y ∈ FD ∨ y ∈ FX → y < wr.heap.size := fun y hy => by
    rcases hy with hy | hy | hy
    · exact h.strs.lt y hy
    · exact h.kids.lt y hy
    · exact h.x.lt y hy
  have keep : ∀ y, y ∈ FK ∨ y ∈ (List.range T.kids.length).flatMap FF ∨ y ∈ FX → w3.heap[y]? = wr.heap[y]? := fun y hy => by
    have h1 : y < wr.heap.size := hlt y (by rcases hy with hy | hy | hy; exact .inl hy; exact .inr (.inl (hsubD y hy)); exact .inr (.inr hy))
    rw [hgrow.block y (Nat.lt_of_lt_of_le h1 hb.size) (fun e => ?_), hb.block y h1]
    have hyG := hG y e.symm
    rcases hy with hy | hy | hy
    · exact hnd y hy (hGD y hyG).1
    · exact (hGD y hyG).2 hy
    · exact h.apart y hy (List.mem_append_right _ (hGD y hyG).1)
  have hgne : ∀ y, y ∈ FK ∨ y ∈ (List.range T.kids.length).flatMap FF ∨ y ∈ FX → y ≠ g := fun y hy e => by
    subst e
    rcases hat with e | e
    · have hyG := hG y e
      rcases hy with hy | hy | hy
      · exact hnd y hy (hGD y hyG).1
      · exact (hGD y hyG).2 hy
      · exact h.apart y hy (List.mem_append_right _ (hGD y hyG).1)
    · have h1 : y < wr.heap.size := hlt y (by rcases hy with hy | hy | hy; exact .inl hy; exact .inr (.inl (hsubD y hy)); exact .inr (.inr hy))
      have := hb.size
      omega
  have hgfar : w.heap.size + 3 ≤ g := by
    rcases hown.2 with ⟨h0, _⟩ | ⟨g', cap', cur, hv, hg', _⟩
    · cases h0
    · injection hv with e1
      injection e1 with e1
      injection e1 with e1
      omega
  have hfF : Fresh w wr ((List.range T.kids.length).flatMap FF) := by
    refine ⟨?_, fun y hy => h.fresh.old y (List.mem_append_right _ (hsubD y hy)), fun y hy => h.fresh.free y (List.mem_append_right _ (hsubD y hy))⟩
    rw [hFD] at hndD
    exact (List.nodup_append.1 hndD).2.1
  obtain ⟨F, k1, k2, k3⟩ := kids_ins (w := w) hi hown (fun j hj => (hlie j hj).carry fun y hy => keep y (.inr (.inl (List.mem_flatMap.2 ⟨j, List.mem_range.2 hj, hy⟩)))) (h.x.carry fun y hy => keep y (.inr (.inr hy))) (hfF.carry fun y hy => keep y (.inr (.inl hy))) (h.freshX.carry fun y hy => keep y (.inr (.inr hy)))
    (fun y hy hy' => h.apart y hy (List.mem_append_right _ (hsubD y hy'))) (fun y hy => by
      have e : y = g := by simpa [Value.ownBlock] using hy.symm
      exact ⟨fun hx => hgne y (.inr (.inl hx)) e, fun hx => hgne y (.inr (.inr hx)) e⟩) (by omega)
  have hmem : ∀ y ∈ F, y = g ∨ y ∈ (List.range T.kids.length).flatMap FF ∨ y ∈ FX := fun y hy => by
    rcases k3 y hy with e | e
    · exact .inl (by simpa [Value.ownBlock] using e.symm)
    · exact .inr e
  have hfK : Fresh w w3 FK := (show Fresh w wr FK from ⟨(List.nodup_append.1 h.fresh.nodup).1, fun y hy => h.fresh.old y (List.mem_append_left _ hy), fun y hy => h.fresh.free y (List.mem_append_left _ hy)⟩).carry fun y hy => keep y (.inl hy)
  refine ⟨F, ?_, ⟨List.nodup_append.2 ⟨hfK.nodup, k2.nodup, fun a ha c hc e => ?_⟩, fun y hy => ?_, fun y hy => ?_⟩, fun y hy => ?_⟩
  · exact Lies.into h.fit.1 h.fit.2.1 h.fit.2.2 (h.strs.carry fun y hy => keep y (.inl hy)) k1
  · subst e
    rcases hmem a hc with e | e | e
    · exact hgne a (.inl ha) e
    · exact hnd a ha (hsubD a e)
    · exact h.apart a e (List.mem_append_left _ ha)
  · rcases List.mem_append.1 hy with hy | hy
    · exact hfK.old y hy
    · exact k2.old y hy
  · rcases List.mem_append.1 hy with hy | hy
    · exact hfK.free y hy
    · exact k2.free y hy
  · rcases List.mem_append.1 hy with hy | hy
    · exact h.far y (.inl (List.mem_append_left _ hy))
    · rcases hmem y hy with e | e | e
      · rw [e]; exact hgfar
      · exact h.far y (.inl (List.mem_append_right _ (hsubD y e)))
      · exact h.far y (.inr e)

/-- The tree whose i-th kid has been stored over. -/
theorem put_lies {w wr : World} {T X : RT} {kv dv kx dx : Value} {FK FD FX : List Nat} (h : SCop w wr T X kv dv kx dx FK FD FX) {b o : Nat} {v0 v1 v2 v3 v4 : Value} {i : Nat} {F : List Nat} (hbF : b ∈ FD) (hk : KidsLie (set5 wr b o v0 v1 v2 v3 v4) dv (T.kids.set i X) F) (hf : Fresh w (set5 wr b o v0 v1 v2 v3 v4) F) (hm : ∀ x ∈ F, x ∈ FD ∨ x ∈ FX) :
    Lies (set5 wr b o v0 v1 v2 v3 v4) (.node T.k T.n T.s T.keys (T.kids.set i X)) kv dv (FK ++ F) ∧ Fresh w (set5 wr b o v0 v1 v2 v3 v4) (FK ++ F) ∧ ∀ y ∈ FK ++ F, w.heap.size + 3 ≤ y := by
  obtain ⟨n1, n2, n3⟩ := List.nodup_append.1 h.fresh.nodup
  have keep : ∀ y ∈ FK, (set5 wr b o v0 v1 v2 v3 v4).heap[y]? = wr.heap[y]? := fun y hy => set5_other _ _ _ _ _ _ _ _ _ (fun e => n3 y hy b hbF e)
  have hfK : Fresh w (set5 wr b o v0 v1 v2 v3 v4) FK := (show Fresh w wr FK from ⟨n1, fun y hy => h.fresh.old y (List.mem_append_left _ hy), fun y hy => h.fresh.free y (List.mem_append_left _ hy)⟩).carry keep
  refine ⟨Lies.into h.fit.1 h.fit.2.1 h.fit.2.2 (h.strs.carry keep) hk, ⟨List.nodup_append.2 ⟨n1, hf.nodup, fun a ha c hc e => ?_⟩, fun y hy => ?_, fun y hy => ?_⟩, fun y hy => ?_⟩
  · subst e
    rcases hm a hc with h' | h'
    · exact n3 a ha a h' rfl
    · exact h.apart a h' (List.mem_append_left _ ha)
  · rcases List.mem_append.1 hy with hy | hy
    · exact hfK.old y hy
    · exact hf.old y hy
  · rcases List.mem_append.1 hy with hy | hy
    · exact hfK.free y hy
    · exact hf.free y hy
  · rcases List.mem_append.1 hy with hy | hy
    · exact h.far y (.inl (List.mem_append_left _ hy))
    · rcases hm y hy with h' | h'
      · exact h.far y (.inl (List.mem_append_right _ h'))
      · exact h.far y (.inr h')

/-- A block of the function's own, behind all the others, in a later world. -/
theorem own_grow {wr w1 : World} {B : Nat} {x : Obj} (h : wr.heap[B]? = some x) {row : Option Nat} (hg : wr.grownBy w1 row) (hr : ∀ y, row = some y → y ≠ B) : w1.heap[B]? = some x :=
  (hg.block _ (Array.getElem?_eq_some_iff.1 h).1 (fun e => hr _ e.symm rfl)).trans h

set_option maxRecDepth 100000 in
set_option maxHeartbeats 4000000 in
theorem impl_putKid {w w3 : World} (T X : RT) (key : ByteArray) {kv dv kx dx : Value} {FK FD FX : List Nat} {a' b' c' d' e' : Value} (hB : SBox w w3 (.int .i64 T.k) (.int .i64 T.n) (.string T.s) kv dv a' b' c' d' e') (hS : SCop w w3 T X kv dv kx dx FK FD FX) (hM : T.isMap) (hT : T.sz ≤ 1048576) (hk : key.size ≤ maxLen) :
    Calls Tryz.prog 106 #[.pointer (some ⟨w.heap.size, 0, none⟩), .string key, X.val kx dx] w3 fun e w' => (∃ v, e = .returned v) ∧ ∃ kr dr F, SBox w w' (.int .i64 (setT T key X).k) (.int .i64 (setT T key X).n) (.string (setT T key X).s) kr dr a' b' c' d' e' ∧ Lies w' (setT T key X) kr dr F ∧ Fresh w w' F ∧ ∀ y ∈ F, w.heap.size + 3 ≤ y := by
  obtain ⟨o3, q3, rfl⟩ := hS.strs.slice
  obtain ⟨o4, q4, rfl⟩ := hS.kids.slice
  obtain ⟨⟨p3, r3, rfl⟩, ⟨p4, r4, rfl⟩⟩ := hS.x.slices
  have hbA0 := (Below.refl _ w3).alloc (Nat.le_refl _) (.cells #[.int .i64 X.k, .int .i64 X.n, .string X.s, .slice p3 X.keys.length r3, .slice p4 X.kids.length r4] 32)
  have HB4 := Lib.hid (hB.next hbA0)
  have HS4 := Lib.hid (hS.next hbA0)
  have HX4 : Hid ((w3.alloc (.cells #[.int .i64 X.k, .int .i64 X.n, .string X.s, .slice p3 X.keys.length r3, .slice p4 X.kids.length r4] 32)).heap[w3.heap.size]? = some _) := heap_last w3 (.cells #[.int .i64 X.k, .int .i64 X.n, .string X.s, .slice p3 X.keys.length r3, .slice p4 X.kids.length r4] 32)
  have HM := Lib.hid hM
  have HK := Lib.hid hk
  have HSz : Hid (w.heap.size + 3 ≤ w3.heap.size) := hB.size
  have HLo : Hid (∀ y, y ∈ FK ++ FD ∨ y ∈ FX → y < w3.heap.size) := fun y hy => by
    rcases hy with hy | hy
    · rcases List.mem_append.1 hy with hy | hy
      · exact hS.strs.lt y hy
      · exact hS.kids.lt y hy
    · exact hS.x.lt y hy
  clear hB hS hM hk hbA0
  show Calls Tryz.prog 106 #[.pointer (some ⟨w.heap.size, 0, none⟩), .string key, .agg #[.int .i64 X.k, .int .i64 X.n, .string X.s, .slice p3 X.keys.length r3, .slice p4 X.kids.length r4]] w3 _
  go_enter Tryz.func106, Tryz.ntmps106
  obtain ⟨x0, x1, x2, x3, x4, x5⟩ := five HB4.out.box
  obtain ⟨y0, y1, y2, y3, y4, y5⟩ := five HX4.out
  have hxb0 : ¬ w3.heap.size = w.heap.size := by have := HSz.out; omega
  have hxb1 : ¬ w.heap.size = w3.heap.size := by have := HSz.out; omega
  go_wp2_with fail
  refine (slices_index _ HS4.out.strs key).mono ?_
  rintro e w4 ⟨hi4, hw4⟩
  replace HB4 := Lib.hid (hw4 ▸ HB4.out)
  replace HS4 := Lib.hid (hw4 ▸ HS4.out)
  replace HX4 := Lib.hid (hw4 ▸ HX4.out)
  clear hw4 x0 x1 x2 x3 x4 x5 y0 y1 y2 y3 y4 y5
  obtain ⟨x0, x1, x2, x3, x4, x5⟩ := five HB4.out.box
  obtain ⟨y0, y1, y2, y3, y4, y5⟩ := five HX4.out
  rcases hi4 with ⟨i, hi, rfl⟩ | ⟨ha, rfl⟩
  · have HR := Lib.hid (setT_put (X := X) HM.out hi)
    have hil : i < T.kids.length := by have := hi.1; have := HM.out.2; omega
    obtain ⟨b, off, cap, u0, u1, u2, u3, u4, hdv, hcap, hcapm, hbF, hfz, c0, c1, c2, c3, c4, F', hk', hf', hm'⟩ := kids_put HS4.out.kids ⟨(List.nodup_append.1 HS4.out.fresh.nodup).2.1, fun y hy => HS4.out.fresh.old y (List.mem_append_right _ hy), fun y hy => HS4.out.fresh.free y (List.mem_append_right _ hy)⟩ HS4.out.x HS4.out.freshX (fun y hy hy' => HS4.out.apart y hy (List.mem_append_right _ hy')) hil
    have f0 := hfz (off + i * 5)
    have f1 := hfz (off + i * 5 + 1)
    have f2 := hfz (off + i * 5 + 2)
    have f3 := hfz (off + i * 5 + 3)
    have f4 := hfz (off + i * 5 + 4)
    have hb3 : w.heap.size + 3 ≤ b := HS4.out.far b (.inl (List.mem_append_right _ hbF))
    have hb4 : b < w3.heap.size := HLo.out b (.inl (List.mem_append_right _ hbF))
    have HB5 := Lib.hid (HB4.out.far hb3 (off + i * 5) (.int .i64 X.k) (.int .i64 X.n) (.string X.s) (.slice p3 X.keys.length r3) (.slice p4 X.kids.length r4))
    have hpl := put_lies HS4.out hbF hk' hf' hm'
    have hdw := below_drewN (Below.refl (World.heap (set5 w4 b (off + i * 5) (.int .i64 X.k) (.int .i64 X.n) (.string X.s) (.slice p3 X.keys.length r3) (.slice p4 X.kids.length r4))).size (set5 w4 b (off + i * 5) (.int .i64 X.k) (.int .i64 X.n) (.string X.s) (.slice p3 X.keys.length r3) (.slice p4 X.kids.length r4))) 1
    have HE := Lib.hid (And.intro (HB5.out.next hdw) (And.intro (hpl.1.stay hdw (Nat.le_refl _)) (And.intro (hpl.2.1.carry fun y hy => hdw.block y (hpl.1.lt y hy)) hpl.2.2)))
    have ne1 : ¬ (b = w.heap.size) := by omega
    have ne2 : ¬ (b = w3.heap.size) := by omega
    have ne4 : ¬ (w.heap.size = b) := by omega
    have ne5 : ¬ (w3.heap.size = b) := by omega
    have hi0 : (0 : Int) ≤ (i : Int) := by omega
    have hi1 : (i : Int) < (T.kids.length : Int) := by omega
    unfold maxLen at hcapm
    injection hdv with e1 e2 e3
    subst e1 e3
    clear hb3 hb4 hk' hf' hm' hbF hi hfz HS4 HB4 HX4 hpl hdw HB5
    go_wp2
    go_region_law fail
    all_goals go_wp2
    all_goals refine bodyPost_ret (results_none rfl _ _ _) rfl ?_
    all_goals rw [HR.out]
    all_goals exact ⟨⟨_, rfl⟩, _, _, _, HE.out⟩
  · have HR := Lib.hid (setT_ins (X := X) HM.out ha)
    have HI := Lib.hid (placeN_le T.keys key)
    have HI2 : Hid (placeN T.keys key ≤ T.kids.length) := by have h1 := HI.out; have h2 := HM.out.2; show _ ≤ _; omega
    go_wp2_with fail
    refine (impl_placeOf _ HS4.out.strs key ha).mono ?_
    rintro e w5 ⟨rfl, hw5⟩
    have HB5 := Lib.hid (hw5 ▸ HB4.out)
    have HS5 := Lib.hid (hw5 ▸ HS4.out)
    have HX5 := Lib.hid (hw5 ▸ HX4.out)
    have HSz5 : Hid (w3.heap.size < w5.heap.size) := (Array.getElem?_eq_some_iff.1 HX5.out).1
    clear hw5 HB4 HS4 HX4 x0 x1 x2 x3 x4 x5 y0 y1 y2 y3 y4 y5 ha
    generalize placeN T.keys key = i at *
    obtain ⟨x0, x1, x2, x3, x4, x5⟩ := five HB5.out.box
    go_wp2_with fail
    have hbA := (Below.refl _ w5).alloc (Nat.le_refl _) (.cells #[.string key] 9)
    refine (insert_string _ (w.heap.size + 3) _ T.keys.length i (T.keys.map .string) [.string key] (owns_below (owns_of_strs HS5.out.strs HS5.out.wk).1 hbA) (by simp [Value.oneCell']) HI.out (by have := (keys_le T).1; omega) w5.heap.size 9 (heap_last w5 _)
      (fun e => by have := HS5.out.strs.lt _ ((owns_of_strs HS5.out.strs HS5.out.wk).2 _ e); omega) rfl (by simp [Value.oneCell']) (by have := HB5.out.size; simp; omega)).mono ?_
    rintro e w6 ⟨g, cap, rfl, hown6, hgrow6, hat6⟩
    obtain ⟨FK', hs6⟩ := HS5.out.keysIns hbA hgrow6 HI.out HK.out hown6 hat6
    have hkrow : ∀ y, (Value.slice o3 T.keys.length q3).ownBlock = some y → w.heap.size + 3 ≤ y ∧ y ≠ w3.heap.size := fun y e => by
      have hy := (owns_of_strs HS5.out.strs HS5.out.wk).2 y e
      exact ⟨HS5.out.far y (.inl (List.mem_append_left _ hy)), by have := HLo.out y (.inl (List.mem_append_left _ hy)); omega⟩
    have hb6 := (HB5.out.next hbA).grow hgrow6 (fun y e => (hkrow y e).1)
    have hx6 := own_grow ((hbA.block _ HSz5.out).trans HX5.out) hgrow6 (fun y e => (hkrow y e).2)
    have HB6 := Lib.hid (hb6.keys (.slice (some ⟨g, 0, none⟩) (T.keys.length + 1) cap))
    have HS6 := Lib.hid (hs6.box (p := ⟨w.heap.size, 3, none⟩) (show w.heap.size < w.heap.size + 3 by omega) (.slice (some ⟨g, 0, none⟩) (T.keys.length + 1) cap))
    have HX6 := Lib.hid ((Below.heap_setCell w6 ⟨w.heap.size, 3, none⟩ (.slice (some ⟨g, 0, none⟩) (T.keys.length + 1) cap) _ (by exact hxb0)).trans hx6)
    have hsz6 : w3.heap.size < w6.heap.size := (Array.getElem?_eq_some_iff.1 hx6).1
    clear hown6 hgrow6 hat6 hs6 hbA HS5 x0 x1 x2 x3 x4 x5 hkrow
    obtain ⟨x0, x1, x2, x3, x4, x5⟩ := five hb6.box
    obtain ⟨y0, y1, y2, y3, y4, y5⟩ := five hx6
    clear hb6 HB5 hx6 HX5
    go_wp2_with fail
    have E7 : (w6.setCell ⟨w.heap.size, 3, none⟩ (.slice (some ⟨g, 0, none⟩) (T.keys.length + 1) cap)).heap.size = w6.heap.size := by simp [World.setCell]
    generalize w6.setCell ⟨w.heap.size, 3, none⟩ (.slice (some ⟨g, 0, none⟩) (T.keys.length + 1) cap) = w7 at *
    have HI3 : Hid (∀ (W : World), Below w7.heap.size w7 W → ∀ xb, W.heap[xb]? = some (.cells #[.int .i64 X.k, .int .i64 X.n, .string X.s, .slice p3 X.keys.length r3, .slice p4 X.kids.length r4] 32) → w7.heap.size ≤ xb → Calls Tryz.prog 139 #[.slice o4 T.kids.length q4, .int .i64 i, .slice (some ⟨xb, 0, none⟩) 1 1] W fun e w' => ∃ v, e = .returned v ∧ ∃ g8 cap8, v = .slice (some ⟨g8, 0, none⟩) (T.kids.length + 1) cap8 ∧ SBox w w' (.int .i64 T.k) (.int .i64 T.n) (.string T.s) (.slice (some ⟨g, 0, none⟩) (T.keys.length + 1) cap) (.slice o4 T.kids.length q4) a' b' c' d' e' ∧
      ∃ F, Lies w' (.node T.k T.n T.s (insAt T.keys i key) (insAt T.kids i X)) (.slice (some ⟨g, 0, none⟩) (T.keys.length + 1) cap) (.slice (some ⟨g8, 0, none⟩) (T.kids.length + 1) cap8) F ∧ Fresh w w' F ∧ ∀ y ∈ F, w.heap.size + 3 ≤ y) := fun W hbW xb hxb hle => by
      have HSW := Lib.hid (HS6.out.next hbW)
      obtain ⟨KV, DV, FF, G, hrow, hlie, hFD, hG⟩ := owns_of_kids HS6.out.kids HS6.out.wd
      have hrowW := owns_below hrow hbW
      have hlieW : ∀ j (h : j < T.kids.length), Lies W T.kids[j] (KV j) (DV j) (FF j) := fun j h => (hlie j h).stay hbW (Nat.le_refl _)
      refine (insert_node _ (w.heap.size + 3) _ T.kids.length i (rowsOf T.kids KV DV T.kids.length) (X.row (.slice p3 X.keys.length r3) (.slice p4 X.kids.length r4)) hrowW (rows_one hlieW) HI2.out (by have := (keys_le T).2; omega) xb 32 hxb
        (fun e => by
          have h1 := hG _ e
          have h2 := HS6.out.kids.lt _ (by rw [hFD]; exact List.mem_append_left _ h1)
          omega) rfl (row_one X _ _ _ _ _ _) (by have := (HB6.out.next hbW).size; omega)).mono ?_
      rintro e w8 ⟨g8, cap8, rfl, hown8, hgrow8, hat8⟩
      obtain ⟨F8, hl8, hf8, hfar8⟩ := HS6.out.kidsIns hbW hgrow8 HI2.out hlie hFD hG hown8 hat8
      exact ⟨_, rfl, _, _, rfl, (HB6.out.next hbW).grow hgrow8 (fun y e => HS6.out.far y (.inl (List.mem_append_right _ (by rw [hFD]; exact List.mem_append_left _ (hG y e))))), FK' ++ F8, hl8, hf8, hfar8⟩
    obtain ⟨x0, x1, x2, x3, x4, x5⟩ := five HB6.out.box
    obtain ⟨y0, y1, y2, y3, y4, y5⟩ := five HX6.out
    have hlt7 : w.heap.size < w7.heap.size := by have := HB6.out.size; omega
    have m4 : ∀ ob, (w7.alloc ob).cell? ⟨w.heap.size, 4, none⟩ = _ := fun ob => (World.cell?_alloc_lt w7 ob ⟨w.heap.size, 4, none⟩ hlt7).trans x4
    go_region_law (first
      | (refine step_calls (by rfl) 139 _ _ (by rfl) _ (by simp [Act.eval]; rfl) (by intros; simp [go_sem]) (fun _ _ => rfl) (HI3.out _ ?b1 _ ?b2 ?b3) ?_
         case b1 => exact below_drewN ((Below.refl _ w7).alloc (Nat.le_refl _) _) 1
         case b2 => exact E7 ▸ heap_last w7 _
         case b3 => omega
         rintro u w8 ⟨g8, cap8, rfl, hb8, F8, hl8, hf8, hfar8⟩
         obtain ⟨z0, z1, z2, z3, z4, z5⟩ := five hb8.box
         have keep9 : ∀ y, w.heap.size + 3 ≤ y → (w8.setCell ⟨w.heap.size, 4, none⟩ (.slice (some ⟨g8, 0, none⟩) (T.kids.length + 1) cap8)).heap[y]? = w8.heap[y]? := fun y hy => Below.heap_setCell _ _ _ _ (by show _ ≠ w.heap.size; omega)
         have HE := Lib.hid (And.intro (hb8.kids (.slice (some ⟨g8, 0, none⟩) (T.kids.length + 1) cap8)) (And.intro (hl8.carry fun y hy => keep9 y (hfar8 y hy)) (And.intro (hf8.carry fun y hy => keep9 y (hfar8 y hy)) hfar8)))
         clear hb8 hl8 hf8 hfar8 keep9)
      | fail)
    all_goals go_wp2
    all_goals go_end0
    all_goals rw [HR.out]
    all_goals exact ⟨⟨_, rfl⟩, _, _, _, HE.out⟩

set_option maxRecDepth 100000 in
set_option maxHeartbeats 4000000 in
theorem impl_set (T X : RT) (key : ByteArray) (w : World) (kv dv kx dx : Value) (F FX : List Nat) (hl : Lies w T kv dv F) (hx : Lies w X kx dx FX) (hT : T.sz ≤ 1048576) (hX : X.sz ≤ 1048576) (hk : key.size ≤ maxLen) :
    Calls Tryz.prog 71 #[T.val kv dv, .string key, X.val kx dx] w fun e w' => ∃ kv' dv' F', e = .returned ((setT T key X).val kv' dv') ∧ Lies w' (setT T key X) kv' dv' F' ∧ Fresh w w' F' ∧ Below w.heap.size w w' := by
  have HX := Lib.hid (SBox.start w (.int .i64 T.k) (.int .i64 T.n) (.string T.s) kv dv (.int .i64 X.k) (.int .i64 X.n) (.string X.s) kx dx)
  have HC := Lib.hid (fun (w1 : World) (hb : Below w.heap.size w w1) => copy_node T w1 kv dv F (hl.stay hb (Nat.le_refl _)) hT)
  have HCX := Lib.hid (fun (w1 : World) (hb : Below w.heap.size w w1) => copy_node X w1 kx dx FX (hx.stay hb (Nat.le_refl _)) hX)
  have HF := Lib.hid hl.out
  have HTs := Lib.hid hT
  obtain ⟨⟨o1, q1, rfl⟩, ⟨o2, q2, rfl⟩⟩ := hl.slices
  obtain ⟨⟨p1, r1, rfl⟩, ⟨p2, r2, rfl⟩⟩ := hx.slices
  have HK := Lib.hid hk
  clear hl hx hk hT
  show Calls Tryz.prog 71 #[.agg #[.int .i64 T.k, .int .i64 T.n, .string T.s, .slice o1 T.keys.length q1, .slice o2 T.kids.length q2], .string key, .agg #[.int .i64 X.k, .int .i64 X.n, .string X.s, .slice p1 X.keys.length r1, .slice p2 X.kids.length r2]] w _
  go_enter Tryz.func71, Tryz.ntmps71
  go_wp2_with fail
  refine (HC.out _ HX.out.below).mono ?_
  rintro e w1 ⟨kv1, dv1, F1, rfl, hl1, hf1, hb1, hwk, hwd⟩
  have hb0 := HX.out.next hb1
  obtain ⟨⟨o3, q3, rfl⟩, ⟨o4, q4, rfl⟩⟩ := hl1.slices
  obtain ⟨x0, x1, x2, x3, x4, x5⟩ := five hb0.box
  have HP := Lib.hid (And.intro (hb0.put (.int .i64 T.k) (.int .i64 T.n) (.string T.s) (.slice o3 T.keys.length q3) (.slice o4 T.kids.length q4)) (copied_put (w := w) (by simp) hl1 hf1 hwk hwd (.int .i64 T.k) (.int .i64 T.n) (.string T.s) (.slice o3 T.keys.length q3) (.slice o4 T.kids.length q4) w.heap.size (by omega)))
  clear hl1 hf1 hb1 hwk hwd hb0
  go_wp2_with fail
  refine (impl_isMap _ _ _ _ _ _ _ _ _ _).mono ?_
  rintro e w2 ⟨rfl, hb2⟩
  have HB2 := Lib.hid (HP.out.1.next hb2)
  have HL2 := Lib.hid (show Lies w2 T (.slice o3 T.keys.length q3) (.slice o4 T.kids.length q4) F1 ∧ Fresh w w2 F1 ∧ (∀ y ∈ F1, w.heap.size + 3 ≤ y) ∧ Whole w2 (w.heap.size + 3) 9 1 (.slice o3 T.keys.length q3) ∧ Whole w2 (w.heap.size + 3) 32 5 (.slice o4 T.kids.length q4) from
    ⟨HP.out.2.1.stay hb2 (Nat.le_refl _), HP.out.2.2.1.carry fun y hy => hb2.block y (HP.out.2.1.lt y hy), HP.out.2.2.2.1, HP.out.2.2.2.2.1.stay hb2, HP.out.2.2.2.2.2.stay hb2⟩)
  clear hb2 HP x0 x1 x2 x3 x4 x5
  obtain ⟨x0, x1, x2, x3, x4, x5⟩ := five HB2.out.box
  by_cases hm : T.isMap
  · have HM := Lib.hid hm
    rw [show (decide (T.k = 5) && decide (T.keys.length = T.kids.length)) = true by simp [hm.1, hm.2]]
    clear hm
    obtain ⟨y0, y1, y2, y3, y4, y5⟩ := five HB2.out.bx
    go_wp2_with fail
    refine (HCX.out _ HB2.out.below).mono ?_
    rintro e w3 ⟨kv3, dv3, F3, rfl, hl3, hf3, hb3, -, -⟩
    obtain ⟨⟨p3, r3, rfl⟩, ⟨p4, r4, rfl⟩⟩ := hl3.slices
    have HB3 := Lib.hid (HB2.out.next hb3)
    clear x0 x1 x2 x3 x4 x5 y0 y1 y2 y3 y4 y5
    have HS : Hid (∃ FK FD, SCop w w3 T X (.slice o3 T.keys.length q3) (.slice o4 T.kids.length q4) (.slice p3 X.keys.length r3) (.slice p4 X.kids.length r4) FK FD F3) := by
      obtain ⟨hlT, hfT, hfarT, hwk, hwd⟩ := HL2.out
      obtain ⟨f1, f2, f3, FK, FD, hK, hD, hFe⟩ := hlT.out
      have hs2 := HB2.out.size
      have hfarX : ∀ y ∈ F3, w.heap.size + 3 ≤ y := fun y hy => by have := hf3.old y hy; omega
      subst hFe
      have keep2 : ∀ y, w.heap.size + 3 ≤ y → y < w2.heap.size → w3.heap[y]? = w2.heap[y]? := fun y hy hlt => hb3.block y hlt
      refine ⟨FK, FD, ⟨f1, f2, f3⟩, hK.carry fun y hy => keep2 y (hfarT y (List.mem_append_left _ hy)) (hK.lt y hy), hD.carry fun y hy => keep2 y (hfarT y (List.mem_append_right _ hy)) (hD.lt y hy), hl3, hfT.carry fun y hy => keep2 y (hfarT y hy) (hlT.lt y hy), hf3.earlier HB2.out.below.size, ?_, fun y hy hy' => ?_, hwk.carry (Nat.le_refl _) fun y hy hlt => keep2 y hy hlt, hwd.carry (Nat.le_refl _) fun y hy hlt => keep2 y hy hlt⟩
      · rintro y (hy | hy)
        · exact hfarT y hy
        · exact hfarX y hy
      · have := hf3.old y hy
        have := hlT.lt y hy'
        omega
    clear hl3 hf3 hb3 HL2 HB2
    obtain ⟨FK, FD, hs3⟩ := HS.out
    have HPk := Lib.hid (impl_putKid T X key HB3.out hs3 HM.out HTs.out HK.out)
    clear hs3 HS
    go_wp2_with fail
    refine HPk.out.mono ?_
    rintro e w4 ⟨⟨v, rfl⟩, kr, dr, F4, hb4, hl4, hf4, hfar4⟩
    generalize hR : setT T key X = R at hb4 hl4
    have HRe := Lib.hid hR
    clear hR
    obtain ⟨⟨o5, q5, rfl⟩, ⟨o6, q6, rfl⟩⟩ := hl4.slices
    obtain ⟨x0, x1, x2, x3, x4, x5⟩ := five hb4.box
    obtain ⟨z0, z1, z2, z3, z4, z5⟩ := five hb4.res
    have HE := Lib.hid (set_fin hb4 hl4 hf4 hfar4)
    clear hb4 hl4 hf4 hfar4 HPk HB3
    go_wp2
    rw [HRe.out]
    exact bodyPost_ret (ret_node Tryz.results71 rfl HE.out.1) rfl ⟨_, _, _, rfl, HE.out.2⟩
  · have HM := Lib.hid hm
    rw [show (decide (T.k = 5) && decide (T.keys.length = T.kids.length)) = false by
      by_cases h5 : T.k = 5
      · have : ¬ T.keys.length = T.kids.length := fun e => hm ⟨h5, e⟩
        simp [this]
      · simp [h5]]
    clear hm
    obtain ⟨z0, z1, z2, z3, z4, z5⟩ := five HB2.out.res
    have HE := Lib.hid (set_fin HB2.out HL2.out.1 HL2.out.2.1 HL2.out.2.2.1)
    go_wp2
    rw [setT_no HM.out]
    exact bodyPost_ret (ret_node Tryz.results71 rfl HE.out.1) rfl ⟨_, _, _, rfl, HE.out.2⟩
end Go.Proofs.YtfmkhogpnnobeaaGreatDoor
