/-
  What is proved: plain facts on lists of texts and of nodes that a literal lays: one block each; and on the map that comes of keys in any order.
-/
import Derived.Test.YtmbjmjbljnlifaaDoorLeaf
import Derived.Test.YtmbjmjbljnlifaaDoorSetP
import Derived.Test.YtmbjmjbljnlifaaDoorTreeTo
import Derived.Test.YtmbjmjbljnlifaaDoorCopy
namespace Go.Proofs.YtmbjmjbljnlifaaDoor
open Go Go.RowKit

theorem strs_lit {w : World} {b : Nat} (ks : List ByteArray) {cs : Array Value} (h : w.heap[b]? = some (.cells cs 9 (0, 0))) (hc : cs.toList = ks.map .string) (hs : ∀ k ∈ ks, k.size ≤ maxLen) (hm : ks.length ≤ maxLen) (hn : 0 < ks.length) :
    StrsAt w (.slice (some ⟨b, 0, none⟩) ks.length ks.length) ks [b] := by
  have hsz : cs.size = ks.length := by have := congrArg List.length hc; simpa using this
  refine ⟨_, _, b, 0, rfl, Nat.le_refl _, hm, fun _ => rfl, by rw [if_neg (by omega)], fun i hi => ⟨?_, hs _ (List.getElem_mem hi)⟩, fun i hi => ?_⟩
  · rw [cell_of h, ← Array.getElem?_toList, hc]
    simp [hi]
  · rw [cell_of h]
    simp [hsz, hi]

/-- Nodes that a literal lays: the cells of each, one behind the other. -/
theorem kids_lit {w : World} {b : Nat} (kids : List RT) (KV DV : Nat → Value) (FF : Nat → List Nat) {cs : Array Value} (h : w.heap[b]? = some (.cells cs 28 (0, 0))) (hsz : cs.size = kids.length * 5)
    (hc : ∀ i (hi : i < kids.length), ∀ j, j < 5 → cs[i * 5 + j]? = (kids[i].row (KV i) (DV i))[j]?) (hl : ∀ i (hi : i < kids.length), Lies w kids[i] (KV i) (DV i) (FF i)) (hm : kids.length ≤ maxLen) (hn : 0 < kids.length) :
    KidsLie w (.slice (some ⟨b, 0, none⟩) kids.length kids.length) kids ([b] ++ (List.range kids.length).flatMap FF) := by
  refine ⟨_, _, b, 0, FF, KV, DV, rfl, Nat.le_refl _, hm, fun _ => rfl, by rw [if_neg (by omega)], fun i hi j hj => ?_, hl, fun i hi => ?_⟩
  · rw [cell_of h, Nat.zero_add]
    exact hc i hi j hj
  · rw [cell_of h]
    simp [hsz]
    omega

theorem below_cast {B : Nat} {X W' : World} (hb : Below B X W') (h : B = X.heap.size) : Below X.heap.size X W' := h ▸ hb

theorem blk_next {w w' : World} {b : Nat} {o : Obj} (h : w.heap[b]? = some o) (hb : Below w.heap.size w w') : w'.heap[b]? = some o :=
  (hb.block b (Array.getElem?_eq_some_iff.1 h).1).trans h

theorem two_blk (w : World) (a b : Obj) : ((w.alloc a).alloc b).heap[w.heap.size]? = some a ∧ ((w.alloc a).alloc b).heap[w.heap.size + 1]? = some b ∧ ((w.alloc a).alloc b).heap.size = w.heap.size + 2 ∧ Below w.heap.size w ((w.alloc a).alloc b) := by
  refine ⟨?_, ?_, by simp, ((Below.refl _ w).alloc (Nat.le_refl _) _).alloc (by simp) _⟩
  · rw [Below.heap_alloc _ _ _ (by simp), heap_last]
  · have := heap_last (w.alloc a) b
    simpa using this

/-- A block that was laid on the way. -/
structure One (w W : World) (b : Nat) (o : Obj) : Prop where
  at_ : W.heap[b]? = some o
  old : w.heap.size + 2 ≤ b

/-- Where a function stands whose parameter and whose result have a block each. -/
structure Two (w W : World) (a r : Obj) : Prop where
  below : Below w.heap.size w W
  arg : W.heap[w.heap.size]? = some a
  res : W.heap[w.heap.size + 1]? = some r
  size : w.heap.size + 2 ≤ W.heap.size

theorem Two.start (w : World) (a r : Obj) : Two w ((w.alloc a).alloc r) a r := by
  obtain ⟨h1, h2, h3, h4⟩ := two_blk w a r
  exact ⟨h4, h1, h2, Nat.le_of_eq h3.symm⟩
theorem below_drew1 (W : World) : Below W.heap.size W W.drew := ⟨rfl, rfl, rfl, Nat.le_refl _, fun _ _ => rfl⟩
theorem below_lit (W : World) (o : Obj) : Below W.heap.size W (W.alloc o).drew := ((Below.refl _ W).alloc (Nat.le_refl _) o).trans (B := W.heap.size) ⟨rfl, rfl, rfl, Nat.le_refl _, fun _ _ => rfl⟩
theorem Two.next {w W W' : World} {a r : Obj} (h : Two w W a r) (hb : Below W.heap.size W W') : Two w W' a r :=
  ⟨h.below.trans (hb.mono h.below.size), blk_next h.arg hb, blk_next h.res hb, Nat.le_trans h.size hb.size⟩

theorem Two.next1 {w W W' : World} {a r : Obj} (h : Two w W a r) (hb : Below W.drew.heap.size W.drew W') : Two w W' a r := (h.next (below_drew1 W)).next hb
theorem Two.lit {w W W' : World} {a r o : Obj} {B : Nat} (h : Two w W a r) (hb : Below B (W.alloc o).drew W') (hB : B = W.heap.size + 1) : Two w W' a r ∧ One w W' W.heap.size o := by
  have hb : Below (W.alloc o).drew.heap.size (W.alloc o).drew W' := below_cast hb (by subst hB; simp [World.drew])
  exact ⟨(h.next (below_lit W o)).next hb, blk_next (w := (W.alloc o).drew) (heap_last W o) hb, h.size⟩
theorem Two.lit1 {w W W' : World} {a r o : Obj} (h : Two w W a r) (hb : Below (W.alloc o).heap.size (W.alloc o) W') : Two w W' a r ∧ One w W' W.heap.size o :=
  ⟨(h.next ((Below.refl _ W).alloc (Nat.le_refl _) o)).next hb, blk_next (heap_last W o) hb, h.size⟩
theorem One.mv {w W : World} {b n : Nat} {o : Obj} (h : One w W b o) (e : b = n) : One w W n o := e ▸ h
theorem One.next {w W W' : World} {b : Nat} {o : Obj} (h : One w W b o) (hb : Below W.heap.size W W') : One w W' b o := ⟨blk_next h.at_ hb, h.old⟩

/-- A map that a literal has laid becomes the result. -/
theorem lit_fin {w W : World} {r bz bn : Nat} {ks : List ByteArray} {kids : List RT} {KV DV : Nat → Value} {FF : Nat → List Nat} {cz cn : Array Value} {z0 z1 z2 z3 z4 : Value} (hb : Below w.heap.size w W) (hr0 : w.heap.size ≤ r)
    (hr : W.heap[r]? = some (.cells #[z0, z1, z2, z3, z4] 28 (0, 0))) (hz : W.heap[bz]? = some (.cells cz 9 (0, 0))) (hz2 : w.heap.size ≤ bz) (hn : W.heap[bn]? = some (.cells cn 28 (0, 0))) (hn2 : w.heap.size ≤ bn) (hnr : bn ≠ r)
    (hcz : cz.toList = ks.map .string) (hks : ∀ k ∈ ks, k.size ≤ maxLen) (hk0 : 0 < ks.length) (hkm : ks.length ≤ maxLen) (hcn : cn.size = kids.length * 5) (hc : ∀ i (hi : i < kids.length), ∀ j, j < 5 → cn[i * 5 + j]? = (kids[i].row (KV i) (DV i))[j]?)
    (hl : ∀ i (hi : i < kids.length), Lies W kids[i] (KV i) (DV i) (FF i)) (hd0 : 0 < kids.length) (hdm : kids.length ≤ maxLen) (hF : Fresh w W ((List.range kids.length).flatMap FF))
    (hap : ∀ x ∈ (List.range kids.length).flatMap FF, x ≠ r ∧ x ≠ bz ∧ x ≠ bn) {W' : World} (hW : W' = set5 W r 0 (.int .i64 5) (.int .i64 0) (.string ⟨#[]⟩) (.slice (some ⟨bz, 0, none⟩) ks.length ks.length) (.slice (some ⟨bn, 0, none⟩) kids.length kids.length)) :
    W'.heap[r]? = some (.cells #[.int .i64 5, .int .i64 0, .string ⟨#[]⟩, .slice (some ⟨bz, 0, none⟩) ks.length ks.length, .slice (some ⟨bn, 0, none⟩) kids.length kids.length] 28 (0, 0)) ∧
    Lies W' (.node 5 0 ⟨#[]⟩ ks kids) (.slice (some ⟨bz, 0, none⟩) ks.length ks.length) (.slice (some ⟨bn, 0, none⟩) kids.length kids.length) ([bz] ++ ([bn] ++ (List.range kids.length).flatMap FF)) ∧
    Fresh w W' ([bz] ++ ([bn] ++ (List.range kids.length).flatMap FF)) ∧ Below w.heap.size w W' := by
  subst hW
  have hzr : bz ≠ r := fun e => by subst e; rw [hr] at hz; injection hz with hz; injection hz with _ hz; exact absurd hz (by decide)
  have hzn : bz ≠ bn := fun e => by subst e; rw [hn] at hz; injection hz with hz; injection hz with _ hz; exact absurd hz (by decide)
  have keep : ∀ x, x ≠ r → (set5 W r 0 (.int .i64 5) (.int .i64 0) (.string ⟨#[]⟩) (.slice (some ⟨bz, 0, none⟩) ks.length ks.length) (.slice (some ⟨bn, 0, none⟩) kids.length kids.length)).heap[x]? = W.heap[x]? := fun x hx => set5_other _ _ _ _ _ _ _ _ _ hx
  have hm : ∀ x ∈ [bz] ++ ([bn] ++ (List.range kids.length).flatMap FF), x ≠ r := fun x hx => by
    rcases List.mem_append.1 hx with hx | hx
    · simp at hx; subst hx; exact hzr
    rcases List.mem_append.1 hx with hx | hx
    · simp at hx; subst hx; exact hnr
    · exact (hap x hx).1
  have hLz := strs_lit ks hz hcz hks hkm hk0
  have hLn := kids_lit kids KV DV FF hn hcn hc hl hdm hd0
  have hL := Lies.into (k := 5) (n := 0) (s := ⟨#[]⟩) ⟨by decide, by decide⟩ ⟨by decide, by decide⟩ (by decide) hLz hLn
  have hFr : Fresh w W ([bz] ++ ([bn] ++ (List.range kids.length).flatMap FF)) := by
    refine ⟨?_, fun x hx => ?_, fun x hx => ?_⟩
    · refine List.nodup_append.2 ⟨by simp, List.nodup_append.2 ⟨by simp, hF.nodup, fun a ha b hb e => ?_⟩, fun a ha b hb e => ?_⟩
      · simp at ha; subst ha e; exact (hap _ hb).2.2 rfl
      · simp at ha; subst ha e
        rcases List.mem_append.1 hb with hb | hb
        · simp at hb; exact hzn hb
        · exact (hap _ hb).2.1 rfl
    · rcases List.mem_append.1 hx with hx | hx
      · simp at hx; omega
      rcases List.mem_append.1 hx with hx | hx
      · simp at hx; omega
      · exact hF.old x hx
    · rcases List.mem_append.1 hx with hx | hx
      · simp at hx; subst hx; exact fun k => by simp [World.frozen?, hz]
      rcases List.mem_append.1 hx with hx | hx
      · simp at hx; subst hx; exact fun k => by simp [World.frozen?, hn]
      · exact hF.free x hx
  exact ⟨set5_end hr _ _ _ _ _, hL.carry fun x hx => keep x (hm x hx), hFr.carry fun x hx => keep x (hm x hx), set5_below hb hr0 _ _ _ _ _ _⟩

theorem One.lit {w W W' : World} {b : Nat} {o o' : Obj} (h : One w W b o) {B : Nat} (hb : Below B (W.alloc o').drew W') (hB : B = W.heap.size + 1) : One w W' b o := by
  have hb : Below (W.alloc o').drew.heap.size (W.alloc o').drew W' := below_cast hb (by subst hB; simp [World.drew])
  exact (h.next (below_lit W o')).next hb
theorem One.lit1 {w W W' : World} {b : Nat} {o o' : Obj} (h : One w W b o) (hb : Below (W.alloc o').heap.size (W.alloc o') W') : One w W' b o := (h.next ((Below.refl _ W).alloc (Nat.le_refl _) o')).next hb
theorem Two.lits1 {w W W' : World} {a r o o' : Obj} (h : Two w W a r) (hb : Below ((W.alloc o).alloc o').heap.size ((W.alloc o).alloc o') W') : Two w W' a r ∧ One w W' W.heap.size o ∧ One w W' (W.heap.size + 1) o' := by
  obtain ⟨h1, h2, h3, h4⟩ := two_blk W o o'
  exact ⟨(h.next h4).next hb, ⟨blk_next h1 hb, h.size⟩, blk_next h2 hb, by have := h.size; omega⟩
/-- Two literals, one behind the other. -/
theorem Two.lits {w W W' : World} {a r o o' : Obj} {B : Nat} (h : Two w W a r) (hb : Below B ((W.alloc o).alloc o').drew W') (hB : B = W.heap.size + 2) : Two w W' a r ∧ One w W' W.heap.size o ∧ One w W' (W.heap.size + 1) o' := by
  have hb : Below ((W.alloc o).alloc o').drew.heap.size ((W.alloc o).alloc o').drew W' := below_cast hb (by subst hB; simp [World.drew])
  obtain ⟨h1, h2, h3, h4⟩ := two_blk W o o'
  have h5 : Below W.heap.size W ((W.alloc o).alloc o').drew := h4.trans (B := W.heap.size) ⟨rfl, rfl, rfl, Nat.le_refl _, fun _ _ => rfl⟩
  exact ⟨(h.next h5).next hb, ⟨blk_next (w := ((W.alloc o).alloc o').drew) h1 hb, h.size⟩, blk_next (w := ((W.alloc o).alloc o').drew) h2 hb, by have := h.size; omega⟩

theorem leaf_kid (W : World) (t : RT) (h : t.keys = [] ∧ t.kids = [] ∧ Fit t.k ∧ Fit t.n ∧ t.s.size ≤ maxLen) : Lies W t (.slice none 0 0) (.slice none 0 0) [] := by
  obtain ⟨h1, h2, h3, h4, h5⟩ := h
  rw [RT.eta t, h1, h2]
  exact leaf_lies W h3 h4 h5

theorem flat_none (n : Nat) : (List.range n).flatMap (fun _ => ([] : List Nat)) = [] := by simp

/-- The same, where each Kid is a leaf. -/
theorem lit_leaves {w W : World} {a : Obj} {z0 z1 z2 z3 z4 : Value} {bz bn : Nat} {cz cn : Array Value} (H2 : Two w W a (.cells #[z0, z1, z2, z3, z4] 28)) (HZ : One w W bz (.cells cz 9)) (HN : One w W bn (.cells cn 28)) (T : RT)
    (hT : T.k = 5 ∧ T.n = 0 ∧ T.s = ⟨#[]⟩) (hcz : cz.toList = T.keys.map .string) (hks : ∀ k ∈ T.keys, k.size ≤ maxLen) (hk0 : 0 < T.keys.length) (hkm : T.keys.length ≤ maxLen) (hcn : cn.toList = rowsOf T.kids (fun _ => .slice none 0 0) (fun _ => .slice none 0 0) T.kids.length)
    (hlf : ∀ t ∈ T.kids, t.keys = [] ∧ t.kids = [] ∧ Fit t.k ∧ Fit t.n ∧ t.s.size ≤ maxLen) (hd0 : 0 < T.kids.length) (hdm : T.kids.length ≤ maxLen) (n m : Nat) (hn : T.keys.length = n) (hm : T.kids.length = m) {W' : World}
    (hW : W' = set5 W (w.heap.size + 1) 0 (.int .i64 5) (.int .i64 0) (.string ⟨#[]⟩) (.slice (some ⟨bz, 0, none⟩) n n) (.slice (some ⟨bn, 0, none⟩) m m)) :
    W'.heap[w.heap.size + 1]? = some (.cells #[.int .i64 5, .int .i64 0, .string ⟨#[]⟩, .slice (some ⟨bz, 0, none⟩) n n, .slice (some ⟨bn, 0, none⟩) m m] 28 (0, 0)) ∧
    Lies W' T (.slice (some ⟨bz, 0, none⟩) n n) (.slice (some ⟨bn, 0, none⟩) m m) [bz, bn] ∧ Fresh w W' [bz, bn] ∧ Below w.heap.size w W' := by
  subst hn hm
  have hsz : cn.size = T.kids.length * 5 := by have := congrArg List.length hcn; rw [rowsOf_length] at this; simpa using this
  have h := lit_fin (ks := T.keys) (kids := T.kids) (KV := fun _ => .slice none 0 0) (DV := fun _ => .slice none 0 0) (FF := fun _ => []) H2.below (by omega) H2.res HZ.at_ (by have := HZ.old; omega) HN.at_ (by have := HN.old; omega) (by have := HN.old; omega) hcz hks hk0 hkm hsz
    (fun i hi j hj => by rw [← Array.getElem?_toList, hcn, rowsOf_get _ _ _ _ _ _ hi hj, List.getD_eq_getElem?_getD, List.getElem?_eq_getElem hi]; rfl)
    (fun i hi => leaf_kid W _ (hlf _ (List.getElem_mem hi))) hd0 hdm (by rw [flat_none]; exact Fresh.nil _ _) (by rw [flat_none]; exact fun x hx => absurd hx (by simp)) hW
  rw [flat_none] at h
  obtain ⟨h1, h2, h3, h4⟩ := h
  refine ⟨h1, ?_, h3, h4⟩
  have e : T = .node 5 0 ⟨#[]⟩ T.keys T.kids := by rw [← hT.1, ← hT.2.1, ← hT.2.2]; exact RT.eta T
  rw [e]
  exact h2
end Go.Proofs.YtmbjmjbljnlifaaDoor
