/-
  What is proved: the program's Set answers the map with the tree at its key (the tree itself, where it is no map), in memory of its own.
-/
import Derived.Test.YtmbjmjbljnlifaaGreatDoorPartAG
import Derived.Test.YtmbjmjbljnlifaaGreatDoorPartAN
import Derived.Test.YtmbjmjbljnlifaaGreatDoorPartAD
namespace Go.Proofs.YtmbjmjbljnlifaaGreatDoor
open Go Go.RowKit

/-- Where Set stands: the node that it was handed, the node to be set, and what it answers, each in its block. -/
structure SBox (w wr : World) (a b c d e a' b' c' d' e' : Value) : Prop where
  below : Below w.heap.size w wr
  size : w.heap.size + 3 ≤ wr.heap.size
  box : wr.heap[w.heap.size]? = some (.cells #[a, b, c, d, e] 32 (0, 0))
  bx : wr.heap[w.heap.size + 1]? = some (.cells #[a', b', c', d', e'] 32 (0, 0))
  res : wr.heap[w.heap.size + 1 + 1]? = some (.cells #[.int .i64 0, .int .i64 0, .string ⟨#[]⟩, .slice none 0 0, .slice none 0 0] 32 (0, 0))

section
variable {w wr w1 : World} {a b c d e a' b' c' d' e' : Value}

theorem SBox.start (w : World) (a b c d e a' b' c' d' e' : Value) :
    SBox w (((w.alloc (.cells #[a, b, c, d, e] 32)).alloc (.cells #[a', b', c', d', e'] 32)).alloc (.cells #[.int .i64 0, .int .i64 0, .string ⟨#[]⟩, .slice none 0 0, .slice none 0 0] 32)) a b c d e a' b' c' d' e' := by
  obtain ⟨h1, h2, h3, h4, h5⟩ := zero_blocks w (.cells #[a, b, c, d, e] 32) (.cells #[a', b', c', d', e'] 32) (.cells #[.int .i64 0, .int .i64 0, .string ⟨#[]⟩, .slice none 0 0, .slice none 0 0] 32)
  exact ⟨h4, by omega, h1, h2, h3⟩

theorem SBox.next (h : SBox w wr a b c d e a' b' c' d' e') (hb : Below wr.heap.size wr w1) : SBox w w1 a b c d e a' b' c' d' e' :=
  ⟨h.below.trans (hb.mono h.below.size), Nat.le_trans h.size hb.size, (hb.block _ (by have := h.size; omega)).trans h.box, (hb.block _ (by have := h.size; omega)).trans h.bx, (hb.block _ (by have := h.size; omega)).trans h.res⟩

theorem set5_size (w : World) (b o : Nat) (v0 v1 v2 v3 v4 : Value) : (set5 w b o v0 v1 v2 v3 v4).heap.size = w.heap.size := by simp [set5, World.setCell]

theorem SBox.put (h : SBox w wr a b c d e a' b' c' d' e') (v0 v1 v2 v3 v4 : Value) : SBox w (set5 wr w.heap.size 0 v0 v1 v2 v3 v4) v0 v1 v2 v3 v4 a' b' c' d' e' :=
  ⟨set5_below h.below (Nat.le_refl _) _ _ _ _ _ _, by rw [set5_size]; exact h.size, set5_end h.box _ _ _ _ _, (set5_other _ _ _ _ _ _ _ _ _ (by omega)).trans h.bx, (set5_other _ _ _ _ _ _ _ _ _ (by omega)).trans h.res⟩

theorem SBox.putx (h : SBox w wr a b c d e a' b' c' d' e') (v0 v1 v2 v3 v4 : Value) : SBox w (set5 wr (w.heap.size + 1) 0 v0 v1 v2 v3 v4) a b c d e v0 v1 v2 v3 v4 :=
  ⟨set5_below h.below (by omega) _ _ _ _ _ _, by rw [set5_size]; exact h.size, (set5_other _ _ _ _ _ _ _ _ _ (by omega)).trans h.box, set5_end h.bx _ _ _ _ _, (set5_other _ _ _ _ _ _ _ _ _ (by omega)).trans h.res⟩

theorem SBox.far (h : SBox w wr a b c d e a' b' c' d' e') {x : Nat} (hx : w.heap.size + 3 ≤ x) (o : Nat) (v0 v1 v2 v3 v4 : Value) : SBox w (set5 wr x o v0 v1 v2 v3 v4) a b c d e a' b' c' d' e' :=
  ⟨set5_below h.below (by omega) _ _ _ _ _ _, by rw [set5_size]; exact h.size, (set5_other _ _ _ _ _ _ _ _ _ (by omega)).trans h.box, (set5_other _ _ _ _ _ _ _ _ _ (by omega)).trans h.bx, (set5_other _ _ _ _ _ _ _ _ _ (by omega)).trans h.res⟩

theorem SBox.grow (h : SBox w wr a b c d e a' b' c' d' e') {row : Option Nat} (hg : wr.grownBy w1 row) (hr : ∀ x, row = some x → w.heap.size + 3 ≤ x) : SBox w w1 a b c d e a' b' c' d' e' :=
  ⟨h.below.grown hg h.below.size (fun k e => by have := hr k e; omega), Nat.le_trans h.size hg.size, (hg.block _ (by have := h.size; omega) (fun e => by have := hr _ e.symm; omega)).trans h.box,
    (hg.block _ (by have := h.size; omega) (fun e => by have := hr _ e.symm; omega)).trans h.bx, (hg.block _ (by have := h.size; omega) (fun e => by have := hr _ e.symm; omega)).trans h.res⟩

/-- One cell of the node that it was handed. -/
theorem SBox.keys (h : SBox w wr a b c d e a' b' c' d' e') (v : Value) : SBox w (wr.setCell ⟨w.heap.size, 3, none⟩ v) a b c v e a' b' c' d' e' :=
  ⟨h.below.setCell (Nat.le_refl _) _, by have := h.size; simpa [World.setCell] using this, heap_set h.box 3 v, (Below.heap_setCell _ _ _ _ (by show _ ≠ w.heap.size; omega)).trans h.bx, (Below.heap_setCell _ _ _ _ (by show _ ≠ w.heap.size; omega)).trans h.res⟩
theorem SBox.kids (h : SBox w wr a b c d e a' b' c' d' e') (v : Value) : SBox w (wr.setCell ⟨w.heap.size, 4, none⟩ v) a b c d v a' b' c' d' e' :=
  ⟨h.below.setCell (Nat.le_refl _) _, by have := h.size; simpa [World.setCell] using this, heap_set h.box 4 v, (Below.heap_setCell _ _ _ _ (by show _ ≠ w.heap.size; omega)).trans h.bx, (Below.heap_setCell _ _ _ _ (by show _ ≠ w.heap.size; omega)).trans h.res⟩
end

/-- Both copied: the tree, its two lists whole, and the tree to be set. -/
structure SCop (w wr : World) (T X : RT) (kv dv kx dx : Value) (FK FD FX : List Nat) : Prop where
  fit : Fit T.k ∧ Fit T.n ∧ T.s.size ≤ maxLen
  strs : StrsAt wr kv T.keys FK
  kids : KidsLie wr dv T.kids FD
  x : Lies wr X kx dx FX
  fresh : Fresh w wr (FK ++ FD)
  freshX : Fresh w wr FX
  far : ∀ y, y ∈ FK ++ FD ∨ y ∈ FX → w.heap.size + 3 ≤ y
  apart : ∀ y ∈ FX, y ∉ FK ++ FD
  wk : Whole wr (w.heap.size + 3) 9 1 kv
  wd : Whole wr (w.heap.size + 3) 32 5 dv

section
variable {w wr w1 : World} {T X : RT} {kv dv kx dx : Value} {FK FD FX : List Nat}

theorem SCop.next (h : SCop w wr T X kv dv kx dx FK FD FX) (hb : Below wr.heap.size wr w1) : SCop w w1 T X kv dv kx dx FK FD FX :=
  ⟨h.fit, h.strs.stay hb (Nat.le_refl _), h.kids.stay hb (Nat.le_refl _), h.x.stay hb (Nat.le_refl _), h.fresh.carry fun y hy => hb.block y (by
      rcases List.mem_append.1 hy with hy | hy
      · exact h.strs.lt y hy
      · exact h.kids.lt y hy), h.freshX.carry fun y hy => hb.block y (h.x.lt y hy), h.far, h.apart, h.wk.stay hb, h.wd.stay hb⟩

/-- A store into one of the function's own blocks. -/
theorem SCop.box (h : SCop w wr T X kv dv kx dx FK FD FX) {p : Addr} (hp : p.block < w.heap.size + 3) (u : Value) : SCop w (wr.setCell p u) T X kv dv kx dx FK FD FX := by
  have keep : ∀ y, w.heap.size + 3 ≤ y → (wr.setCell p u).heap[y]? = wr.heap[y]? := fun y hy => Below.heap_setCell _ _ _ _ (by omega)
  exact ⟨h.fit, h.strs.carry fun y hy => keep y (h.far y (.inl (List.mem_append_left _ hy))), h.kids.carry fun y hy => keep y (h.far y (.inl (List.mem_append_right _ hy))), h.x.carry fun y hy => keep y (h.far y (.inr hy)), h.fresh.carry fun y hy => keep y (h.far y (.inl hy)), h.freshX.carry fun y hy => keep y (h.far y (.inr hy)), h.far, h.apart, h.wk.carry (Nat.le_refl _) fun y hy _ => keep y hy, h.wd.carry (Nat.le_refl _) fun y hy _ => keep y hy⟩

/-- What is answered, stored into its block. -/
theorem set_fin {a b c d e a' b' c' d' e' : Value} (hx : SBox w wr a b c d e a' b' c' d' e') {R : RT} {kr dr : Value} {F : List Nat} (hl : Lies wr R kr dr F) (hf : Fresh w wr F) (hfar : ∀ y ∈ F, w.heap.size + 3 ≤ y) :
    (set5 wr (w.heap.size + 1 + 1) 0 (.int .i64 R.k) (.int .i64 R.n) (.string R.s) kr dr).heap[w.heap.size + 1 + 1]? = some (.cells #[.int .i64 R.k, .int .i64 R.n, .string R.s, kr, dr] 32 (0, 0)) ∧
    Lies (set5 wr (w.heap.size + 1 + 1) 0 (.int .i64 R.k) (.int .i64 R.n) (.string R.s) kr dr) R kr dr F ∧ Fresh w (set5 wr (w.heap.size + 1 + 1) 0 (.int .i64 R.k) (.int .i64 R.n) (.string R.s) kr dr) F ∧
    Below w.heap.size w (set5 wr (w.heap.size + 1 + 1) 0 (.int .i64 R.k) (.int .i64 R.n) (.string R.s) kr dr) := by
  have keep : ∀ x ∈ F, (set5 wr (w.heap.size + 1 + 1) 0 (.int .i64 R.k) (.int .i64 R.n) (.string R.s) kr dr).heap[x]? = wr.heap[x]? := fun x hxm => set5_other _ _ _ _ _ _ _ _ _ (by have := hfar x hxm; omega)
  exact ⟨set5_end hx.res _ _ _ _ _, hl.carry keep, hf.carry keep, set5_below hx.below (by omega) _ _ _ _ _ _⟩

/-- The first copy has been stored into the block of what was handed. -/
theorem copied_put {w1 : World} {w0 : World} (h0 : w0.heap.size = w.heap.size + 3) {k v : Value} {F : List Nat} (hl : Lies w1 T k v F) (hf : Fresh w0 w1 F) (hk : Whole w1 w0.heap.size 9 1 k) (hd : Whole w1 w0.heap.size 32 5 v) (v0 v1 v2 v3 v4 : Value) (B : Nat) (hB : B < w.heap.size + 3) :
    Lies (set5 w1 B 0 v0 v1 v2 v3 v4) T k v F ∧ Fresh w (set5 w1 B 0 v0 v1 v2 v3 v4) F ∧ (∀ y ∈ F, w.heap.size + 3 ≤ y) ∧ Whole (set5 w1 B 0 v0 v1 v2 v3 v4) (w.heap.size + 3) 9 1 k ∧ Whole (set5 w1 B 0 v0 v1 v2 v3 v4) (w.heap.size + 3) 32 5 v := by
  rw [h0] at hk hd
  have hfar : ∀ y ∈ F, w.heap.size + 3 ≤ y := fun y hy => by have := hf.old y hy; omega
  have keep : ∀ y ∈ F, (set5 w1 B 0 v0 v1 v2 v3 v4).heap[y]? = w1.heap[y]? := fun y hy => set5_other _ _ _ _ _ _ _ _ _ (by have := hfar y hy; omega)
  exact ⟨hl.carry keep, (hf.carry keep).earlier (by omega), hfar, hk.carry (Nat.le_refl _) fun y hy _ => set5_other _ _ _ _ _ _ _ _ _ (by omega), hd.carry (Nat.le_refl _) fun y hy _ => set5_other _ _ _ _ _ _ _ _ _ (by omega)⟩
end

theorem rows_one {wr : World} {kids : List RT} {KV DV : Nat → Value} {FF : Nat → List Nat} (h : ∀ j (h : j < kids.length), Lies wr kids[j] (KV j) (DV j) (FF j)) : ∀ u ∈ rowsOf kids KV DV kids.length, u.oneCell' = true := fun u hu => by
  obtain ⟨j, hj, hu⟩ := List.mem_flatMap.1 hu
  obtain ⟨⟨o1, q1, e1⟩, ⟨o2, q2, e2⟩⟩ := (h j (List.mem_range.1 hj)).slices
  rw [e1, e2] at hu
  simp only [RT.row, List.mem_cons, List.not_mem_nil, or_false] at hu
  rcases hu with h | h | h | h | h <;> rw [h] <;> rfl

theorem row_one (X : RT) (o1 o2 : Option Addr) (l1 l2 c1 c2 : Nat) : ∀ u ∈ X.row (.slice o1 l1 c1) (.slice o2 l2 c2), u.oneCell' = true := fun u hu => by
  simp only [RT.row, List.mem_cons, List.not_mem_nil, or_false] at hu
  rcases hu with h | h | h | h | h <;> rw [h] <;> rfl

theorem keys_le (T : RT) : T.keys.length ≤ T.sz ∧ T.kids.length ≤ T.sz := by
  cases T
  simp only [RT.keys, RT.kids, RT.sz]
  omega

theorem nodup_of {A B : List Nat} (h : (A ++ B).Nodup) : ∀ x ∈ A, x ∉ B := fun x hx hx' => (List.nodup_append.1 h).2.2 x hx x hx' rfl

/-- The key has been put into the list of keys. -/
theorem SCop.keysIns {w wr w2 w3 : World} {T X : RT} {kv dv kx dx : Value} {FK FD FX : List Nat} (h : SCop w wr T X kv dv kx dx FK FD FX) (hb : Below wr.heap.size wr w2) (hgrow : w2.grownBy w3 kv.ownBlock) {g cap i : Nat} {key : ByteArray} (hi : i ≤ T.keys.length) (hks : key.size ≤ maxLen)
    (hown : w3.ownsRow (w.heap.size + 3) 9 1 (.slice (some ⟨g, 0, none⟩) (T.keys.length + 1) cap) (T.keys.length + 1) ((T.keys.map .string).take (i * 1) ++ [.string key] ++ (T.keys.map .string).drop (i * 1))) (hat : kv.ownBlock = some g ∨ g = w2.heap.size) :
    ∃ FK', SCop w w3 (.node T.k T.n T.s (insAt T.keys i key) T.kids) X (.slice (some ⟨g, 0, none⟩) (T.keys.length + 1) cap) dv kx dx FK' FD FX := by
  have hl := insAt_length key hi
  have hsz : ∀ j (hj : j < T.keys.length), T.keys[j].size ≤ maxLen := by
    obtain ⟨_, _, _, _, _, _, _, _, _, h4, -⟩ := h.strs
    exact fun j hj => (h4 j hj).2
  have hko := (owns_of_strs h.strs h.wk).2
  have hnd := nodup_of h.fresh.nodup
  have hKlt : ∀ y ∈ FK, y < wr.heap.size := h.strs.lt
  obtain ⟨F, f1, f2, f3⟩ := strs_owned (w := w) (wf := w3) (base := w.heap.size + 3) (t := 9) (v := .slice (some ⟨g, 0, none⟩) (T.keys.length + 1) cap) (ks := insAt T.keys i key) (by rw [hl]; simpa [insAt] using hown)
    (fun j hj => by
      rcases insAt_mem (List.getElem_mem hj) with e | e
      · rw [e]; exact hks
      · obtain ⟨m, hm, e⟩ := List.getElem_of_mem e
        rw [← e]; exact hsz m hm) (by omega)
  have hg : ∀ y ∈ F, y = g := fun y hy => by have := f3 y hy; simpa [Value.ownBlock] using this.symm
  have hgD : ∀ y, y ∈ FD ∨ y ∈ FX → y ≠ g := fun y hy e => by
    subst e
    rcases hat with e | e
    · rcases hy with hy | hy
      · exact hnd y (hko y e) hy
      · exact h.apart y hy (List.mem_append_left _ (hko y e))
    · have h1 : y < wr.heap.size := by rcases hy with hy | hy; exact h.kids.lt y hy; exact h.x.lt y hy
      have := hb.size
      omega
  have keep : ∀ y, y ∈ FD ∨ y ∈ FX → w3.heap[y]? = wr.heap[y]? := fun y hy => by
    have h1 : y < wr.heap.size := by rcases hy with hy | hy; exact h.kids.lt y hy; exact h.x.lt y hy
    rw [hgrow.block y (Nat.lt_of_lt_of_le h1 hb.size) (fun e => ?_), hb.block y h1]
    have hyK := hko y e.symm
    rcases hy with hy | hy
    · exact hnd y hyK hy
    · exact h.apart y hy (List.mem_append_left _ hyK)
  have hfD : Fresh w wr FD := ⟨(List.nodup_append.1 h.fresh.nodup).2.1, fun y hy => h.fresh.old y (List.mem_append_right _ hy), fun y hy => h.fresh.free y (List.mem_append_right _ hy)⟩
  have hfD3 := hfD.carry (w2 := w3) fun y hy => keep y (.inl hy)
  have hgfar : w.heap.size + 3 ≤ g := by
    rcases hown.2 with ⟨h0, _⟩ | ⟨g', cap', cur, hv, hg', _⟩
    · cases h0
    · injection hv with e1
      injection e1 with e1
      injection e1 with e1
      omega
  refine ⟨F, h.fit, f1, h.kids.carry fun y hy => keep y (.inl hy), h.x.carry fun y hy => keep y (.inr hy), ⟨List.nodup_append.2 ⟨f2.nodup, hfD.nodup, fun a ha c hc e => ?_⟩, fun y hy => ?_, fun y hy => ?_⟩, h.freshX.carry fun y hy => keep y (.inr hy), fun y hy => ?_, fun y hy hy' => ?_, Whole.of_owns hown (fun h0 => by omega), ?_⟩
  · subst e
    exact hgD a (.inl hc) (hg a ha)
  · rcases List.mem_append.1 hy with hy | hy
    · exact f2.old y hy
    · exact hfD3.old y hy
  · rcases List.mem_append.1 hy with hy | hy
    · exact f2.free y hy
    · exact hfD3.free y hy
  · rcases hy with hy | hy
    · rcases List.mem_append.1 hy with hy | hy
      · rw [hg y hy]; exact hgfar
      · exact h.far y (.inl (List.mem_append_right _ hy))
    · exact h.far y (.inr hy)
  · rcases List.mem_append.1 hy' with hy' | hy'
    · exact hgD y (.inr hy) (hg y hy')
    · exact h.apart y hy (List.mem_append_right _ hy')
  · rcases h.wd with e | ⟨g', n, cap', cur, e, hn, hge, hh, r⟩
    · exact .inl e
    · refine .inr ⟨g', n, cap', cur, e, hn, hge, (keep g' (.inl ?_)).trans hh, r⟩
      obtain ⟨_, _, _, G, _, _, hF, hG⟩ := owns_of_kids h.kids h.wd
      rw [hF]
      exact List.mem_append_left _ (hG g' (by rw [e]; rfl))

/-- The tree has been put into the list of kids. -/
theorem SCop.kidsIns {w wr w2 w3 : World} {T X : RT} {kv dv kx dx : Value} {FK FD FX : List Nat} (h : SCop w wr T X kv dv kx dx FK FD FX) (hb : Below wr.heap.size wr w2) (hgrow : w2.grownBy w3 dv.ownBlock) {g cap i : Nat} (hi : i ≤ T.kids.length)
    {KV DV : Nat → Value} {FF : Nat → List Nat} {G : List Nat} (hlie : ∀ j (h : j < T.kids.length), Lies wr T.kids[j] (KV j) (DV j) (FF j)) (hFD : FD = G ++ (List.range T.kids.length).flatMap FF) (hG : ∀ x, dv.ownBlock = some x → x ∈ G)
    (hown : w3.ownsRow (w.heap.size + 3) 32 5 (.slice (some ⟨g, 0, none⟩) (T.kids.length + 1) cap) (T.kids.length + 1) ((rowsOf T.kids KV DV T.kids.length).take (i * 5) ++ X.row kx dx ++ (rowsOf T.kids KV DV T.kids.length).drop (i * 5))) (hat : dv.ownBlock = some g ∨ g = w2.heap.size) :
    ∃ F, Lies w3 (.node T.k T.n T.s T.keys (insAt T.kids i X)) kv (.slice (some ⟨g, 0, none⟩) (T.kids.length + 1) cap) (FK ++ F) ∧ Fresh w w3 (FK ++ F) ∧ ∀ y ∈ FK ++ F, w.heap.size + 3 ≤ y := by
  have hnd := nodup_of h.fresh.nodup
  have hndD : FD.Nodup := (List.nodup_append.1 h.fresh.nodup).2.1
  have hsubD : ∀ y ∈ (List.range T.kids.length).flatMap FF, y ∈ FD := fun y hy => by rw [hFD]; exact List.mem_append_right _ hy
  have hGD : ∀ y ∈ G, y ∈ FD ∧ y ∉ (List.range T.kids.length).flatMap FF := fun y hy => ⟨by rw [hFD]; exact List.mem_append_left _ hy, by rw [hFD] at hndD; exact nodup_of hndD y hy⟩
  have hlt : ∀ y, y ∈ FK ∨ y ∈ FD ∨ y ∈ FX → y < wr.heap.size := fun y hy => by
    rcases hy with hy | hy | hy
    · exact h.strs.lt y hy
    · exact h.kids.lt y hy
    · exact h.x.lt y hy
  have keep : ∀ y, y ∈ FK ∨ y ∈ (List.range T.kids.length).flatMap FF ∨ y ∈ FX → w3.heap[y]? = wr.heap[y]? := fun y hy => by
    have h1 : y < wr.heap.size := hlt y (by rcases hy with hy | hy | hy; exact .inl hy; exact .inr (.inl (hsubD y hy)); exact .inr (.inr hy))
    rw [hgrow.block y (Nat.lt_of_lt_of_le h1 hb.size) (fun e => ?_), hb.block y h1]
    have hyG := hG y e.symm
    rcases hy with hy | hy | hy
    · exact hnd y hy (hGD y hyG).1
    · exact (hGD y hyG).2 hy
    · exact h.apart y hy (List.mem_append_right _ (hGD y hyG).1)
  have hgne : ∀ y, y ∈ FK ∨ y ∈ (List.range T.kids.length).flatMap FF ∨ y ∈ FX → y ≠ g := fun y hy e => by
    subst e
    rcases hat with e | e
    · have hyG := hG y e
      rcases hy with hy | hy | hy
      · exact hnd y hy (hGD y hyG).1
      · exact (hGD y hyG).2 hy
      · exact h.apart y hy (List.mem_append_right _ (hGD y hyG).1)
    · have h1 : y < wr.heap.size := hlt y (by rcases hy with hy | hy | hy; exact .inl hy; exact .inr (.inl (hsubD y hy)); exact .inr (.inr hy))
      have := hb.size
      omega
  have hgfar : w.heap.size + 3 ≤ g := by
    rcases hown.2 with ⟨h0, _⟩ | ⟨g', cap', cur, hv, hg', _⟩
    · cases h0
    · injection hv with e1
      injection e1 with e1
      injection e1 with e1
      omega
  have hfF : Fresh w wr ((List.range T.kids.length).flatMap FF) := by
    refine ⟨?_, fun y hy => h.fresh.old y (List.mem_append_right _ (hsubD y hy)), fun y hy => h.fresh.free y (List.mem_append_right _ (hsubD y hy))⟩
    rw [hFD] at hndD
    exact (List.nodup_append.1 hndD).2.1
  obtain ⟨F, k1, k2, k3⟩ := kids_ins (w := w) hi hown (fun j hj => (hlie j hj).carry fun y hy => keep y (.inr (.inl (List.mem_flatMap.2 ⟨j, List.mem_range.2 hj, hy⟩)))) (h.x.carry fun y hy => keep y (.inr (.inr hy))) (hfF.carry fun y hy => keep y (.inr (.inl hy))) (h.freshX.carry fun y hy => keep y (.inr (.inr hy)))
    (fun y hy hy' => h.apart y hy (List.mem_append_right _ (hsubD y hy'))) (fun y hy => by
      have e : y = g := by simpa [Value.ownBlock] using hy.symm
      exact ⟨fun hx => hgne y (.inr (.inl hx)) e, fun hx => hgne y (.inr (.inr hx)) e⟩) (by omega)
  have hmem : ∀ y ∈ F, y = g ∨ y ∈ (List.range T.kids.length).flatMap FF ∨ y ∈ FX := fun y hy => by
    rcases k3 y hy with e | e
    · exact .inl (by simpa [Value.ownBlock] using e.symm)
    · exact .inr e
  have hfK : Fresh w w3 FK := (show Fresh w wr FK from ⟨(List.nodup_append.1 h.fresh.nodup).1, fun y hy => h.fresh.old y (List.mem_append_left _ hy), fun y hy => h.fresh.free y (List.mem_append_left _ hy)⟩).carry fun y hy => keep y (.inl hy)
  refine ⟨F, ?_, ⟨List.nodup_append.2 ⟨hfK.nodup, k2.nodup, fun a ha c hc e => ?_⟩, fun y hy => ?_, fun y hy => ?_⟩, fun y hy => ?_⟩
  · exact Lies.into h.fit.1 h.fit.2.1 h.fit.2.2 (h.strs.carry fun y hy => keep y (.inl hy)) k1
  · subst e
    rcases hmem a hc with e | e | e
    · exact hgne a (.inl ha) e
    · exact hnd a ha (hsubD a e)
    · exact h.apart a e (List.mem_append_left _ ha)
  · rcases List.mem_append.1 hy with hy | hy
    · exact hfK.old y hy
    · exact k2.old y hy
  · rcases List.mem_append.1 hy with hy | hy
    · exact hfK.free y hy
    · exact k2.free y hy
  · rcases List.mem_append.1 hy with hy | hy
    · exact h.far y (.inl (List.mem_append_left _ hy))
    · rcases hmem y hy with e | e | e
      · rw [e]; exact hgfar
      · exact h.far y (.inl (List.mem_append_right _ (hsubD y e)))
      · exact h.far y (.inr e)

/-- The tree whose i-th kid has been stored over. -/
theorem put_lies {w wr : World} {T X : RT} {kv dv kx dx : Value} {FK FD FX : List Nat} (h : SCop w wr T X kv dv kx dx FK FD FX) {b o : Nat} {v0 v1 v2 v3 v4 : Value} {i : Nat} {F : List Nat} (hbF : b ∈ FD) (hk : KidsLie (set5 wr b o v0 v1 v2 v3 v4) dv (T.kids.set i X) F) (hf : Fresh w (set5 wr b o v0 v1 v2 v3 v4) F) (hm : ∀ x ∈ F, x ∈ FD ∨ x ∈ FX) :
    Lies (set5 wr b o v0 v1 v2 v3 v4) (.node T.k T.n T.s T.keys (T.kids.set i X)) kv dv (FK ++ F) ∧ Fresh w (set5 wr b o v0 v1 v2 v3 v4) (FK ++ F) ∧ ∀ y ∈ FK ++ F, w.heap.size + 3 ≤ y := by
  obtain ⟨n1, n2, n3⟩ := List.nodup_append.1 h.fresh.nodup
  have keep : ∀ y ∈ FK, (set5 wr b o v0 v1 v2 v3 v4).heap[y]? = wr.heap[y]? := fun y hy => set5_other _ _ _ _ _ _ _ _ _ (fun e => n3 y hy b hbF e)
  have hfK : Fresh w (set5 wr b o v0 v1 v2 v3 v4) FK := (show Fresh w wr FK from ⟨n1, fun y hy => h.fresh.old y (List.mem_append_left _ hy), fun y hy => h.fresh.free y (List.mem_append_left _ hy)⟩).carry keep
  refine ⟨Lies.into h.fit.1 h.fit.2.1 h.fit.2.2 (h.strs.carry keep) hk, ⟨List.nodup_append.2 ⟨n1, hf.nodup, fun a ha c hc e => ?_⟩, fun y hy => ?_, fun y hy => ?_⟩, fun y hy => ?_⟩
  · subst e
    rcases hm a hc with h' | h'
    · exact n3 a ha a h' rfl
    · exact h.apart a h' (List.mem_append_left _ ha)
  · rcases List.mem_append.1 hy with hy | hy
    · exact hfK.old y hy
    · exact hf.old y hy
  · rcases List.mem_append.1 hy with hy | hy
    · exact hfK.free y hy
    · exact hf.free y hy
  · rcases List.mem_append.1 hy with hy | hy
    · exact h.far y (.inl (List.mem_append_left _ hy))
    · rcases hm y hy with h' | h'
      · exact h.far y (.inl (List.mem_append_right _ h'))
      · exact h.far y (.inr h')

end Go.Proofs.YtmbjmjbljnlifaaGreatDoor
