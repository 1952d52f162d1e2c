/-
  What is proved: the program's tree of a list of notes: a map of their Texts, in memory of its own; no condition.; cmp.Compare of two texts; the closures by which metrics and notes are ordered, and told alike, answer by their names.; plain facts on lists that are ordered by names: the order is one; what is in order stays as it is when it is sorted by insertion; what is sorted, and has no two of one name side by side, ascends.; slices.SortStableFunc of at most four metrics, or notes, sorts them by insertion.; plain facts on a row of small structs that a function may write; clear of a part of it.
-/
import Derived.Test.YtfmkhogpnnobeaaGreatDoorPartAF
import Derived.Test.YtfmkhogpnnobeaaGreatDoorPartAE
import Derived.Test.YtfmkhogpnnobeaaGreatDoorPartAD
import Derived.Test.YtfmkhogpnnobeaaGreatDoorCopyS
import Derived.Test.YtfmkhogpnnobeaaGreatDoorPartAG
import Derived.Test.YtfmkhogpnnobeaaGreatDoorPartAJ
import Derived.Sort.Grow
import Derived.Test.YtfmkhogpnnobeaaGreatDoorOrdOkS
import Derived.Test.YtfmkhogpnnobeaaGreatDoorSort
import Derived.Sort.Walk0
import Derived.Sort.LotA
import Derived.Sort.WalkA
import Derived.Laws.IdiomCopy
import Derived.Deep.Upon
import Derived.Shelf.SlSortFuncK.RowK2
/- the program's tree of a list of notes: a map of their Texts, in memory of its own; no condition. -/
namespace Go.Proofs.YtfmkhogpnnobeaaGreatDoor
open Go Go.RowKit

/-- Where notesTree starts: the result's block and the form's. -/
def W3 (w : World) : World := (w.alloc (.cells #[.int .i64 0, .int .i64 0, .string ⟨#[]⟩, .slice none 0 0, .slice none 0 0] 32)).alloc (.cells #[.slice none 0 0, .slice none 0 0] 119)
theorem w3_size (w : World) : (W3 w).heap.size = w.heap.size + 2 := by simp [W3]

def nilV : Nat → Value := fun _ => .slice none 0 0

/-- The Keys up to j and the Kids up to d are laid. -/
structure NN (w wr : World) (xs : List Not) (j d : Nat) (kv dv : Value) : Prop where
  below : Below w.heap.size w wr
  size : w.heap.size + 2 ≤ wr.heap.size
  res : wr.heap[w.heap.size]? = some (.cells #[.int .i64 0, .int .i64 0, .string ⟨#[]⟩, .slice none 0 0, .slice none 0 0] 32 (0, 0))
  out : wr.heap[w.heap.size + 1]? = some (.cells #[kv, dv] 119 (0, 0))
  keys : wr.ownsRow (w.heap.size + 2) 9 1 kv j ((xs.take j).map fun n => .string n.key)
  kids : wr.ownsRow (w.heap.size + 2) 32 5 dv d (rowsOf (xs.map noteK) nilV nilV d)

theorem owns_form {w : World} {base n : Nat} {t : TypeId} {k : Nat} {v : Value} {l : List Value} (h : w.ownsRow base t k v n l) : ∃ o c, v = .slice o n c := by
  rcases h.2 with ⟨rfl, h0⟩ | ⟨g, cap, cur, rfl, _⟩
  · exact ⟨none, 0, by rw [h0]⟩
  · exact ⟨_, _, rfl⟩
theorem owns_blk {w : World} {base n : Nat} {t : TypeId} {k : Nat} {v : Value} {l : List Value} (h : w.ownsRow base t k v n l) {b : Nat} (hb : v.ownBlock = some b) : base ≤ b ∧ b < w.heap.size ∧ ∃ cs, w.heap[b]? = some (.cells cs t (0, 0)) := by
  rcases h.2 with ⟨rfl, _⟩ | ⟨g', cap', cur, rfl, hg, hh, _⟩
  · simp [Value.ownBlock] at hb
  · have : g' = b := by simpa [Value.ownBlock] using hb
    subst this
    exact ⟨hg, (Array.getElem?_eq_some_iff.1 hh).1, _, hh⟩
theorem owns_carry {w w1 : World} {base n : Nat} {t : TypeId} {k : Nat} {v : Value} {l : List Value} (h : w.ownsRow base t k v n l) (hk : ∀ b, v.ownBlock = some b → w1.heap[b]? = w.heap[b]?) : w1.ownsRow base t k v n l := by
  refine ⟨h.1, ?_⟩
  rcases h.2 with h2 | ⟨g, cap, cur, rfl, hg, hh, r⟩
  · exact .inl h2
  · exact .inr ⟨g, cap, cur, rfl, hg, (hk g rfl).trans hh, r⟩

section
variable {w wr w1 w3 : World} {xs : List Not} {j d : Nat} {kv dv : Value}

theorem NN.start (w : World) (xs : List Not) : NN w (W3 w) xs 0 0 (.slice none 0 0) (.slice none 0 0) := by
  obtain ⟨h1, h2, h3, h4⟩ := two_blk w (.cells #[.int .i64 0, .int .i64 0, .string ⟨#[]⟩, .slice none 0 0, .slice none 0 0] 32) (.cells #[.slice none 0 0, .slice none 0 0] 119)
  exact ⟨h4, by rw [w3_size]; exact Nat.le_refl _, h1, h2, ⟨rfl, .inl ⟨rfl, rfl⟩⟩, ⟨rfl, .inl ⟨rfl, rfl⟩⟩⟩

theorem NN.next (h : NN w wr xs j d kv dv) (hb : Below wr.heap.size wr w1) : NN w w1 xs j d kv dv :=
  ⟨h.below.trans (hb.mono h.below.size), Nat.le_trans h.size hb.size, blk_next h.res hb, blk_next h.out hb, owns_below h.keys hb, owns_below h.kids hb⟩

theorem NN.key (h : NN w wr xs j d kv dv) (hj : j < xs.length) {g cap : Nat} (hgrow : wr.grownBy w3 kv.ownBlock) (hown : w3.ownsRow (w.heap.size + 2) 9 1 (.slice (some ⟨g, 0, none⟩) (j + 1) cap) (j + 1) (((xs.take j).map fun n => .string n.key) ++ [.string xs[j].key])) :
    NN w (w3.setCell ⟨w.heap.size + 1, 0, none⟩ (.slice (some ⟨g, 0, none⟩) (j + 1) cap)) xs (j + 1) d (.slice (some ⟨g, 0, none⟩) (j + 1) cap) dv := by
  have hk : ∀ b, kv.ownBlock = some b → w.heap.size + 2 ≤ b := fun b e => (owns_blk h.keys e).1
  have keep : ∀ x, x < w.heap.size + 2 → w3.heap[x]? = wr.heap[x]? := fun x hx => hgrow.block x (by have := h.size; omega) (fun e => by have := hk x e.symm; omega)
  have set : ∀ x, x ≠ w.heap.size + 1 → (w3.setCell ⟨w.heap.size + 1, 0, none⟩ (.slice (some ⟨g, 0, none⟩) (j + 1) cap)).heap[x]? = w3.heap[x]? := fun x hx => Below.heap_setCell _ _ _ _ hx
  have hb3 : Below w.heap.size w w3 := h.below.grown hgrow h.below.size (fun b e => by have := hk b e; omega)
  refine ⟨hb3.setCell (by show w.heap.size ≤ w.heap.size + 1; omega) _, by have := h.size; have := hgrow.size; simp [World.setCell]; omega, ?_, heap_set ((keep _ (by omega)).trans h.out) 0 _, ?_, ?_⟩
  · rw [set _ (by omega), keep _ (by omega)]; exact h.res
  · rw [List.take_succ_eq_append_getElem hj, List.map_append]
    refine owns_carry hown fun b e => set b ?_
    have : g = b := by simpa [Value.ownBlock] using e
    have := (owns_blk hown e).1
    omega
  · refine owns_carry h.kids fun b e => ?_
    obtain ⟨h1, h2, cs, h3⟩ := owns_blk h.kids e
    rw [set _ (by omega), hgrow.block _ h2 (fun e' => by
      obtain ⟨-, -, cs', h4⟩ := owns_blk h.keys e'.symm
      rw [h3] at h4; injection h4 with h4; injection h4 with _ h4; exact absurd h4 (by decide))]

theorem NN.kid (h : NN w wr xs j d kv dv) (hd : d < xs.length) {g cap : Nat} (hgrow : wr.grownBy w3 dv.ownBlock) (hown : w3.ownsRow (w.heap.size + 2) 32 5 (.slice (some ⟨g, 0, none⟩) (d + 1) cap) (d + 1) (rowsOf (xs.map noteK) nilV nilV d ++ [.int .i64 3, .int .i64 0, .string xs[d].text, .slice none 0 0, .slice none 0 0])) :
    NN w (w3.setCell ⟨w.heap.size + 1, 1, none⟩ (.slice (some ⟨g, 0, none⟩) (d + 1) cap)) xs j (d + 1) kv (.slice (some ⟨g, 0, none⟩) (d + 1) cap) := by
  have hk : ∀ b, dv.ownBlock = some b → w.heap.size + 2 ≤ b := fun b e => (owns_blk h.kids e).1
  have keep : ∀ x, x < w.heap.size + 2 → w3.heap[x]? = wr.heap[x]? := fun x hx => hgrow.block x (by have := h.size; omega) (fun e => by have := hk x e.symm; omega)
  have set : ∀ x, x ≠ w.heap.size + 1 → (w3.setCell ⟨w.heap.size + 1, 1, none⟩ (.slice (some ⟨g, 0, none⟩) (d + 1) cap)).heap[x]? = w3.heap[x]? := fun x hx => Below.heap_setCell _ _ _ _ hx
  have hb3 : Below w.heap.size w w3 := h.below.grown hgrow h.below.size (fun b e => by have := hk b e; omega)
  refine ⟨hb3.setCell (by show w.heap.size ≤ w.heap.size + 1; omega) _, by have := h.size; have := hgrow.size; simp [World.setCell]; omega, ?_, heap_set ((keep _ (by omega)).trans h.out) 1 _, ?_, ?_⟩
  · rw [set _ (by omega), keep _ (by omega)]; exact h.res
  · refine owns_carry h.keys fun b e => ?_
    obtain ⟨h1, h2, cs, h3⟩ := owns_blk h.keys e
    rw [set _ (by omega), hgrow.block _ h2 (fun e' => by
      obtain ⟨-, -, cs', h4⟩ := owns_blk h.kids e'.symm
      rw [h3] at h4; injection h4 with h4; injection h4 with _ h4; exact absurd h4 (by decide))]
  · rw [rowsOf_succ]
    have e1 : (xs.map noteK).getD d default = noteK xs[d] := by simp [List.getD, List.getElem?_map, List.getElem?_eq_getElem hd]
    rw [e1]
    refine owns_carry hown fun b e => set b ?_
    have := (owns_blk hown e).1
    omega

theorem NN.fin (h : NN w wr xs xs.length xs.length kv dv) (hok : ∀ n ∈ xs, n.ok) (hb : Below wr.heap.size wr w1) :
    ∃ F, (set5 w1 w.heap.size 0 (.int .i64 5) (.int .i64 0) (.string ⟨#[]⟩) kv dv).heap[w.heap.size]? = some (.cells #[.int .i64 5, .int .i64 0, .string ⟨#[]⟩, kv, dv] 32 (0, 0)) ∧
    Lies (set5 w1 w.heap.size 0 (.int .i64 5) (.int .i64 0) (.string ⟨#[]⟩) kv dv) (notesT xs) kv dv F ∧ Fresh w (set5 w1 w.heap.size 0 (.int .i64 5) (.int .i64 0) (.string ⟨#[]⟩) kv dv) F ∧
    Below w.heap.size w (set5 w1 w.heap.size 0 (.int .i64 5) (.int .i64 0) (.string ⟨#[]⟩) kv dv) := by
  have h' := h.next hb
  have hkl : (xs.map (·.key)).length = xs.length := List.length_map _
  have hdl : (xs.map noteK).length = xs.length := List.length_map _
  have hk0 := h'.keys
  have hd0 := h'.kids
  rw [List.take_of_length_le (Nat.le_refl _)] at hk0
  have hk1 : w1.ownsRow (w.heap.size + 2) 9 1 kv (xs.map (·.key)).length ((xs.map (·.key)).map .string) := by rw [hkl, List.map_map]; exact hk0
  have hd1 : w1.ownsRow (w.heap.size + 2) 32 5 dv (xs.map noteK).length (rowsOf (xs.map noteK) nilV nilV (xs.map noteK).length) := by rw [hdl]; exact hd0
  obtain ⟨FK, k1, k2, k3⟩ := strs_owned (w := w) hk1 (fun i hi => by rw [List.getElem_map]; exact (hok _ (List.getElem_mem _)).1) (by omega)
  have hfl : (List.range (xs.map noteK).length).flatMap (fun _ => ([] : List Nat)) = [] := flat_none _
  obtain ⟨FD, d1, d2, d3⟩ := kids_owned (w := w) (FF := fun _ => []) hd1 (fun i hi => by
    rw [List.getElem_map]
    exact leaf_lies w1 ⟨by decide, by decide⟩ ⟨by decide, by decide⟩ (hok _ (List.getElem_mem _)).2) (by rw [hfl]; exact Fresh.nil _ _) (fun g _ => by rw [hfl]; simp) (by omega)
  have hap : ∀ x ∈ FK, x ∉ FD := fun x hx hx' => by
    obtain ⟨-, -, cs, e1⟩ := owns_blk hk1 (k3 x hx)
    rcases d3 x hx' with e | e
    · obtain ⟨-, -, cs', e2⟩ := owns_blk hd1 e
      rw [e1] at e2; injection e2 with e2; injection e2 with _ e2; exact absurd e2 (by decide)
    · rw [hfl] at e; simp at e
  have hfar : ∀ x ∈ FK ++ FD, w.heap.size + 2 ≤ x := fun x hx => by
    rcases List.mem_append.1 hx with hx | hx
    · exact (owns_blk hk1 (k3 x hx)).1
    · rcases d3 x hx with e | e
      · exact (owns_blk hd1 e).1
      · rw [hfl] at e; simp at e
  have hf : Fresh w w1 (FK ++ FD) := ⟨List.nodup_append.2 ⟨k2.nodup, d2.nodup, fun a ha b hb' e => hap a ha (e ▸ hb')⟩, fun x hx => by have := hfar x hx; omega, fun x hx => by
    rcases List.mem_append.1 hx with hx | hx
    · exact k2.free x hx
    · exact d2.free x hx⟩
  have keep : ∀ x ∈ FK ++ FD, (set5 w1 w.heap.size 0 (.int .i64 5) (.int .i64 0) (.string ⟨#[]⟩) kv dv).heap[x]? = w1.heap[x]? := fun x hx => set5_other _ _ _ _ _ _ _ _ _ (by have := hfar x hx; omega)
  have hL := Lies.into (k := 5) (n := 0) (s := ⟨#[]⟩) ⟨by decide, by decide⟩ ⟨by decide, by decide⟩ (by decide) k1 d1
  exact ⟨FK ++ FD, set5_end h'.res _ _ _ _ _, hL.carry keep, hf.carry keep, set5_below h'.below (Nat.le_refl _) _ _ _ _ _ _⟩
end

set_option maxRecDepth 100000 in
set_option maxHeartbeats 3200000 in
theorem impl_notesTree {v : Value} {xs : List Not} {F : List Nat} (w : World) (hs : NotsAt w v xs F) (h1 : xs.length ≤ 1000000) :
    Calls Tryz.prog 109 #[v] w fun e w' => ∃ kv dv G, e = .returned (.agg #[.int .i64 5, .int .i64 0, .string ⟨#[]⟩, kv, dv]) ∧ Lies w' (notesT xs) kv dv G ∧ Fresh w w' G ∧ Below w.heap.size w w' := by
  have HOK := Lib.hid (RowAt.every hs)
  obtain ⟨o, cap, b, off, rfl, hlc, hcm, ho, -, hcell, -⟩ := hs
  have HC := Lib.hid hcell
  have HO := Lib.hid ho
  have HM := Lib.hid (NN.start w xs)
  clear hcell ho
  obtain ⟨i0, hi0, hz0, hz1, hz2⟩ := info_parts info_node
  obtain ⟨i1, hi1, hy0, hy1, hy2⟩ := info_parts info_string
  go_enter Tryz.func109, Tryz.ntmps109
  go_wp2
  go_loopw [8] (fun i wr => ∃ (k : Nat) (kv dv : Value), k ≤ xs.length ∧ i = .int .i64 k ∧ Hid (NN w wr xs k k kv dv)) (fun i _ => xs.length - (intOf i).toNat)
  case atStart => exact ⟨0, _, _, Nat.zero_le _, rfl, HM.out⟩
  case round =>
    obtain ⟨k, kv, dv, hk, rfl, hr⟩ := hrel
    obtain ⟨ok_, ck, rfl⟩ := owns_form hr.out.keys
    obtain ⟨od, cd, rfl⟩ := owns_form hr.out.kids
    by_cases hlt : k < xs.length
    · have hbel := hr.out.below
      have c0 : wr.cell? ⟨b, off + k * 2, none⟩ = some (.string xs[k].key) := by
        have := (HC.out k hlt).2 0 (by decide)
        rw [hbel.cell (by exact World.block_lt_of_cell? _ _ this)]; exact this
      have c1 : wr.cell? ⟨b, off + k * 2 + 1, none⟩ = some (.string xs[k].text) := by
        have := (HC.out k hlt).2 1 (by decide)
        rw [hbel.cell (by exact World.block_lt_of_cell? _ _ this)]; exact this
      have ho := HO.out (by omega)
      subst ho
      have HK := Lib.hid (fun (wr' w3 : World) (g cap : Nat) (h : NN w wr' xs k k (.slice ok_ k ck) (.slice od k cd)) => h.key (w3 := w3) (g := g) (cap := cap) hlt)
      have HD := Lib.hid (fun (wr' w3 : World) (kv : Value) (g cap : Nat) (h : NN w wr' xs (k + 1) k kv (.slice od k cd)) => h.kid (w3 := w3) (g := g) (cap := cap) hlt)
      generalize xs[k] = x at *
      have HS := Lib.hid hr.out.size
      have hB := (Below.refl wr.heap.size wr).alloc (Nat.le_refl _) (.cells #[.string x.key, .string x.text] 98)
      have hR := Lib.hid (hr.out.next hB)
      have y0 : ∀ ob, (wr.alloc ob).cell? ⟨w.heap.size + 1, 0, none⟩ = some (.slice ok_ k ck) := fun ob => (World.cell?_alloc_lt wr ob ⟨w.heap.size + 1, 0, none⟩ (by show w.heap.size + 1 < _; have := HS.out; omega)).trans (cell_of hr.out.out 0)
      have hNb := Lib.hid (heap_last wr (.cells #[.string x.key, .string x.text] 98))
      have hKb : Hid (((wr.alloc (.cells #[.string x.key, .string x.text] 98)).alloc (.cells #[.string x.key] 9)).heap[wr.heap.size + 1]? = some (.cells #[.string x.key] 9 (0, 0))) := (two_blk wr _ _).2.1
      have HKO := Lib.hid (owns_below hR.out.keys ((Below.refl _ (wr.alloc (.cells #[.string x.key, .string x.text] 98))).alloc (Nat.le_refl _) (.cells #[.string x.key] 9)))
      have HB2 := Lib.hid ((Below.refl _ (wr.alloc (.cells #[.string x.key, .string x.text] 98))).alloc (Nat.le_refl _) (.cells #[.string x.key] 9))
      clear hB
      go_wp2_with (first
        | (at_builtin; refine wpList_append_lies _ rfl (.tmp 13) (.tmp 16) 29 rfl (w.heap.size + 2) 9 i1 _ 1 16 Tryz.underlying29 hi1 hy0 hy1 hy2 rfl (by decide) (.slice ok_ k ck) k _ rfl HKO.out ⟨wr.heap.size + 1, 0, none⟩ 1 1 [.string x.key] rfl rfl (World.news_of_block (cs := #[.string x.key]) (t := 9) (fr := (0, 0)) hKb.out) (by simp [Value.oneCell']) (by omega) (by unfold maxLen; omega) (by omega) (by have := HS.out; simp; omega) (wr.heap.size + 1 + 1) (by simp) ?_
           intro g cap' w3 hown3 hgrow hat hltg
           have hA := HK.out _ w3 g cap' (hR.out.next HB2.out) hgrow hown3
           have HA := Lib.hid hA
           have hne : ∀ b', (Value.slice ok_ k ck).ownBlock = some b' → w.heap.size + 2 ≤ b' ∧ b' < wr.heap.size := fun b' e => ⟨(owns_blk hr.out.keys e).1, (owns_blk hr.out.keys e).2.1⟩
           have hout3 : w3.heap[w.heap.size + 1]? = some (.cells #[.slice ok_ k ck, .slice od k cd] 119 (0, 0)) := (hgrow.block _ (by have := HS.out; simp; omega) (fun e => by have := (hne _ e.symm).1; omega)).trans (hR.out.next HB2.out).out
           have k1 : w3.cell? ⟨w.heap.size + 1, 0, none⟩ = some (.slice ok_ k ck) := cell_of hout3 0
           have k2 : w3.frozen? ⟨w.heap.size + 1, 0, none⟩ = false := by simp [World.frozen?, hout3]
           have hN3 : w3.heap[wr.heap.size]? = some (.cells #[.string x.key, .string x.text] 98 (0, 0)) := (hgrow.block _ (by simp <;> omega) (fun e => by have := (hne _ e.symm).2; omega)).trans (blk_next hNb.out HB2.out)
           have HN3 := Lib.hid hN3
           have HG3 : Hid (wr.heap.size + 2 ≤ w3.heap.size) := by have h9 := hgrow.size; simp at h9; exact h9
           clear hown3 hgrow hat hltg hA hne hout3 hN3)
        | fail)
      have hN4 : (w3.setCell ⟨w.heap.size + 1, 0, none⟩ (.slice (some ⟨g, 0, none⟩) (k + 1) cap')).heap[wr.heap.size]? = _ := (Below.heap_setCell _ _ _ _ (by have := HS.out; show wr.heap.size ≠ w.heap.size + 1; omega)).trans HN3.out
      clear k1 k2 y0 HN3 HG3 HB2 HKO hKb hNb hR hbel HK c0 c1
      generalize w3.setCell ⟨w.heap.size + 1, 0, none⟩ (.slice (some ⟨g, 0, none⟩) (k + 1) cap') = wA at *
      clear w3
      have n1 := cell_of hN4 1
      have y1 := cell_of HA.out.out 1
      simp only [List.getElem?_toArray, List.getElem?_cons_zero, List.getElem?_cons_succ] at y1 n1
      have HTx : Hid (∀ W, Calls Tryz.prog 74 #[.string x.text] W fun e w' => ∃ u, e = .returned u ∧ (u = .agg #[.int .i64 3, .int .i64 0, .string x.text, .slice none 0 0, .slice none 0 0] ∧ Below W.heap.size W w')) := fun W => by
        refine (impl_textOf x.text W).mono ?_
        rintro e w' ⟨rfl, h⟩
        exact ⟨_, rfl, rfl, h⟩
      have HN4 := Lib.hid hN4
      clear hN4
      go_region_law (first
        | (refine step_calls (by rfl) 74 _ _ (by rfl) #[.string x.text] (by simp [Act.eval]) (by intros; simp [go_sem]) (fun _ _ => rfl) (HTx.out _) ?_
           rintro u w5 ⟨rfl, hb5⟩
           have hb5' := (below_drewN (Below.refl wA.heap.size wA) 1).trans (hb5.mono (Nat.le_refl _))
           have HA5 := Lib.hid (HA.out.next hb5')
           have m1 := cell_of HA5.out.out 1
           have m2 : ∀ ob, (w5.alloc ob).cell? ⟨w.heap.size + 1, 1, none⟩ = some (.slice od k cd) := fun ob => (World.cell?_alloc_lt w5 ob ⟨w.heap.size + 1, 1, none⟩ (by show w.heap.size + 1 < _; have := HA5.out.size; omega)).trans m1
           simp only [List.getElem?_toArray, List.getElem?_cons_zero, List.getElem?_cons_succ] at m1
           clear hb5 hb5')
        | (refine step_append_lies _ (by rfl) _ _ _ (by rfl) (w.heap.size + 2) 32 i0 _ 5 80 Tryz.underlying30 hi0 hz0 hz1 hz2 rfl (by decide) (.slice od k cd) k (rowsOf (xs.map noteK) nilV nilV k) (by rfl) (owns_below HA5.out.kids ((Below.refl _ w5).alloc (Nat.le_refl _) _)) ⟨w5.heap.size, 0, none⟩ 1 1 [.int .i64 3, .int .i64 0, .string x.text, .slice none 0 0, .slice none 0 0] (by rfl) (by rfl) (World.news_of_block (cs := #[.int .i64 3, .int .i64 0, .string x.text, .slice none 0 0, .slice none 0 0]) (t := 32) (fr := (0, 0)) (heap_last w5 _)) (by simp [Value.oneCell']) (by omega) (by unfold maxLen; omega) (by omega) (by have := HA5.out.size; simp; omega) _ rfl ?_
           intro g2 cap2 w6 hown6 hgrow6 hat6 hlt6
           have hD := HD.out _ w6 _ g2 cap2 (HA5.out.next ((Below.refl _ w5).alloc (Nat.le_refl _) _)) hgrow6 hown6
           have hBf := hgrow6.block (w.heap.size + 1) (by have := HA5.out.size; simp; omega) (fun e => by have := (owns_blk HA5.out.kids e.symm).1; omega)
           have k1 : w6.cell? ⟨w.heap.size + 1, 1, none⟩ = _ := (World.cell?_of_block (a := ⟨w.heap.size + 1, 1, none⟩) hBf).trans (m2 _)
           have hBo : w6.heap[w.heap.size + 1]? = _ := hBf.trans (HA5.out.next ((Below.refl _ w5).alloc (Nat.le_refl _) _)).out
           have k2 : w6.frozen? ⟨w.heap.size + 1, 1, none⟩ = false := by simp [World.frozen?, hBo]
           have H7 := Lib.hid hD
           clear hown6 hgrow6 hat6 hlt6 hD hBf hBo)
        | fail)
      all_goals go_wp2
      all_goals exact ⟨⟨k + 1, _, _, by omega, by go_num, H7.out⟩, by simp [intOf]; omega⟩
    · have e : k = xs.length := by omega
      subst e
      have HD := Lib.hid fun (w5 : World) (hb : Below wr.heap.size wr w5) => hr.out.fin HOK.out hb
      have HRs := Lib.hid hr.out.res
      have y0 := cell_of hr.out.out 0
      have y1 := cell_of hr.out.out 1
      simp only [List.getElem?_toArray, List.getElem?_cons_zero, List.getElem?_cons_succ] at y0 y1
      go_wp2_with (first
        | (go_at_call 110; refine (sh_node _ _ _ ⟨_, _, _, rfl⟩ ⟨_, _, _, rfl⟩).mono ?_; rintro e w5 ⟨rfl, hb5⟩; have H5 := Lib.hid (HD.out w5 hb5); obtain ⟨z0, z1, z2, z3, z4, z5⟩ := five (blk_next HRs.out hb5); clear hb5)
        | fail)
      obtain ⟨F', hfin⟩ := H5.out
      exact bodyPost_ret (ret_node Tryz.results109 rfl hfin.1) rfl ⟨_, _, _, rfl, hfin.2⟩
end Go.Proofs.YtfmkhogpnnobeaaGreatDoor

/- cmp.Compare of two texts; the closures by which metrics and notes are ordered, and told alike, answer by their names. -/
namespace Go.Proofs.YtfmkhogpnnobeaaGreatDoor
open Go Go.RowKit Go.Sort

theorem str_gtrO (t : TypeId) (a b : ByteArray) : binOp .gtr t (.string a) (.string b) = pure (.bool !(Op.bytesLess a.toList b.toList || a.toList == b.toList)) := by simp [binOp, Op.stringOp]

/-- Below, alike, above. -/
def cmpS (a b : ByteArray) : Int := if Op.bytesLess a.toList b.toList = true then -1 else if (a.toList == b.toList) = true then 0 else 1

theorem nan_str (a : ByteArray) (w : World) : Calls Tryz.prog 174 #[.string a] w fun e w' => e = .returned (.bool false) ∧ w' = w := by
  go_enter Tryz.func174, Tryz.ntmps174
  go_wp2
  go_ret
  exact ⟨rfl, rfl⟩

set_option maxHeartbeats 1000000 in
theorem cmp_str (a b : ByteArray) (w : World) : Calls Tryz.prog 154 #[.string a, .string b] w fun e w' => e = .returned (.int .i64 (cmpS a b)) ∧ w' = w := by
  have hg := str_gtrO
  unfold cmpS
  by_cases h1 : Op.bytesLess a.toList b.toList = true
  · rw [if_pos h1]
    go_enter Tryz.func154, Tryz.ntmps154
    go_wp2_with (first | (go_at_call 174; refine (nan_str _ _).mono ?_; rintro e w1 ⟨rfl, e1⟩; subst e1) | fail)
    go_ret
    exact ⟨rfl, rfl⟩
  · have h1' : Op.bytesLess a.toList b.toList = false := by simpa using h1
    rw [if_neg h1]
    by_cases h2 : (a.toList == b.toList) = true
    · rw [if_pos h2]
      clear h1
      go_enter Tryz.func154, Tryz.ntmps154
      go_wp2_with (first | (go_at_call 174; refine (nan_str _ _).mono ?_; rintro e w1 ⟨rfl, e1⟩; subst e1) | fail)
      go_ret
      exact ⟨rfl, rfl⟩
    · have h2' : (a.toList == b.toList) = false := by simpa using h2
      rw [if_neg h2]
      clear h1 h2
      go_enter Tryz.func154, Tryz.ntmps154
      go_wp2_with (first | (go_at_call 174; refine (nan_str _ _).mono ?_; rintro e w1 ⟨rfl, e1⟩; subst e1) | fail)
      go_ret
      exact ⟨rfl, rfl⟩

/-- Draws and new blocks alone. -/
def Gr (W w' : World) : Prop := ∃ q os, w' = grow (W.drewN q) os
theorem Gr.refl (W : World) : Gr W W := ⟨0, #[], by simp [grow, World.drewN]⟩
theorem Gr.alloc {W w' : World} (h : Gr W w') (o : Obj) : Gr W (w'.alloc o) := by
  obtain ⟨q, os, rfl⟩ := h
  exact ⟨q, os ++ #[o], by rw [alloc_eq_grow, grow_grow]⟩
theorem Gr.drew {W w' : World} (h : Gr W w') (n : Nat) : Gr W (w'.drewN n) := by
  obtain ⟨q, os, rfl⟩ := h
  exact ⟨q + n, os, by simp [grow, World.drewN, Nat.add_assoc]⟩
theorem Gr.trans {W w' w'' : World} (h : Gr W w') (h' : Gr w' w'') : Gr W w'' := by
  obtain ⟨q, os, rfl⟩ := h
  obtain ⟨q', os', rfl⟩ := h'
  exact ⟨q + q', os ++ os', by rw [← grow_grow]; simp [grow, World.drewN, Nat.add_assoc]⟩
theorem Gr.below {W w' : World} (h : Gr W w') : Below W.heap.size W w' := by
  obtain ⟨q, os, rfl⟩ := h
  exact ⟨rfl, rfl, rfl, by simp [grow, World.drewN], fun k hk => by simp only [grow, World.drewN]; exact Array.getElem?_append_left hk⟩

/-- A world that was gone on from by draws and new blocks; a block that bears these cells. -/
structure Bg (w0 wr : World) (B : Nat) (cs : Array Value) (t : TypeId) : Prop where
  gr : Gr w0 wr
  blk : wr.heap[B]? = some (.cells cs t (0, 0))
theorem Bg.next {w0 wr w1 : World} {B : Nat} {cs : Array Value} {t : TypeId} (h : Bg w0 wr B cs t) (hb : Gr wr w1) : Bg w0 w1 B cs t :=
  ⟨h.gr.trans hb, (hb.below.block _ (Array.getElem?_eq_some_iff.1 h.blk).1).trans h.blk⟩
theorem Bg.cell {w0 wr : World} {B : Nat} {cs : Array Value} {t : TypeId} (h : Bg w0 wr B cs t) (o : Nat) : wr.cell? ⟨B, o, none⟩ = cs[o]? := by
  simp [World.cell?, h.blk]
theorem Bg.start (w : World) (cs cs' : Array Value) (t t' : TypeId) : Bg w ((w.alloc (.cells cs t)).alloc (.cells cs' t')) w.heap.size cs t ∧ Bg w ((w.alloc (.cells cs t)).alloc (.cells cs' t')) (w.heap.size + 1) cs' t' :=
  ⟨⟨((Gr.refl w).alloc _).alloc _, by rw [Below.heap_alloc _ _ _ (by simp)]; show (w.heap.push _)[w.heap.size]? = _; simp⟩,
   ⟨((Gr.refl w).alloc _).alloc _, by have := heap_last (w.alloc (.cells cs t)) (.cells cs' t'); rwa [World.size_alloc] at this⟩⟩


set_option maxHeartbeats 1000000 in
theorem name_met (x : Met) (w : World) : Calls Tryz.prog 100 #[.agg #[.string x.name, .int .i64 x.kind, .int .i64 x.goal]] w fun e w' => e = .returned (.string x.name) ∧ Gr w w' := by
  have HG : Hid (∀ o, Gr w (w.alloc o)) := fun o => (Gr.refl w).alloc o
  go_enter Tryz.func100, Tryz.ntmps100
  go_wp2
  go_ret
  exact ⟨rfl, HG.out _⟩


set_option maxRecDepth 100000 in
set_option maxHeartbeats 2000000 in
theorem clo1_met (x y : Met) (B : Nat) (w : World) (hB : w.cell? ⟨B, 0, none⟩ = some (.func (.func 100) #[] #[])) :
    Calls Tryz.prog 153 #[.agg #[.string x.name, .int .i64 x.kind, .int .i64 x.goal], .agg #[.string y.name, .int .i64 y.kind, .int .i64 y.goal], .pointer (some ⟨B, 0, none⟩)] w fun e w' => e = .returned (.int .i64 (cmpS x.name y.name)) ∧ Gr w w' := by
  have hlt : B < w.heap.size := World.block_lt_of_cell? _ _ hB
  have HX := Lib.hid (Bg.start w #[.string x.name, .int .i64 x.kind, .int .i64 x.goal] #[.string y.name, .int .i64 y.kind, .int .i64 y.goal] 93 93)
  go_enter Tryz.func153, Tryz.ntmps153
  go_wp2
  have x0 := HX.out.1.cell 0; have x1 := HX.out.1.cell 1; have x2 := HX.out.1.cell 2; have y0 := HX.out.2.cell 0; have y1 := HX.out.2.cell 1; have y2 := HX.out.2.cell 2; have z0 := (HX.out.1.gr.below.cell (p := ⟨B, 0, none⟩) (by exact hlt)).trans hB
  replace HX := Lib.hid (And.intro (HX.out.1.next ((Gr.refl _).drew 1)) (HX.out.2.next ((Gr.refl _).drew 1)))
  go_region_held3 (fun w' => w'.cell? ⟨B, 0, none⟩ = some (.func (.func 100) #[] #[]) ∧ w'.cell? ⟨w.heap.size, 0, none⟩ = some (.string x.name) ∧ w'.cell? ⟨w.heap.size, 1, none⟩ = some (.int .i64 x.kind) ∧ w'.cell? ⟨w.heap.size, 2, none⟩ = some (.int .i64 x.goal) ∧ w'.cell? ⟨w.heap.size + 1, 0, none⟩ = some (.string y.name) ∧ w'.cell? ⟨w.heap.size + 1, 1, none⟩ = some (.int .i64 y.kind) ∧ w'.cell? ⟨w.heap.size + 1, 2, none⟩ = some (.int .i64 y.goal)) (go_keep)
    (first
      | (go_at_call 100; refine (name_met _ _).mono ?_; rintro e w1 ⟨rfl, hg⟩; replace HX := Lib.hid (And.intro (HX.out.1.next hg) (HX.out.2.next hg)); clear hg; clear x0 x1 x2 y0 y1 y2 z0; have x0 := HX.out.1.cell 0; have x1 := HX.out.1.cell 1; have x2 := HX.out.1.cell 2; have y0 := HX.out.2.cell 0; have y1 := HX.out.2.cell 1; have y2 := HX.out.2.cell 2; have z0 := (HX.out.1.gr.below.cell (p := ⟨B, 0, none⟩) (by exact hlt)).trans hB)
      | (go_at_call 154; refine (cmp_str _ _ _).mono ?_; rintro e w1 ⟨rfl, e1⟩; subst e1))
  go_wp2
  go_ret
  exact ⟨rfl, HX.out.1.gr⟩


set_option maxRecDepth 100000 in
set_option maxHeartbeats 2000000 in
theorem clo2_met (x y : Met) (B : Nat) (w : World) (hB : w.cell? ⟨B, 0, none⟩ = some (.func (.func 100) #[] #[])) :
    Calls Tryz.prog 156 #[.agg #[.string x.name, .int .i64 x.kind, .int .i64 x.goal], .agg #[.string y.name, .int .i64 y.kind, .int .i64 y.goal], .pointer (some ⟨B, 0, none⟩)] w fun e w' => e = .returned (.bool (x.name.toList == y.name.toList)) ∧ Gr w w' := by
  have hlt : B < w.heap.size := World.block_lt_of_cell? _ _ hB
  have HX := Lib.hid (Bg.start w #[.string x.name, .int .i64 x.kind, .int .i64 x.goal] #[.string y.name, .int .i64 y.kind, .int .i64 y.goal] 93 93)
  go_enter Tryz.func156, Tryz.ntmps156
  go_wp2
  have x0 := HX.out.1.cell 0; have x1 := HX.out.1.cell 1; have x2 := HX.out.1.cell 2; have y0 := HX.out.2.cell 0; have y1 := HX.out.2.cell 1; have y2 := HX.out.2.cell 2; have z0 := (HX.out.1.gr.below.cell (p := ⟨B, 0, none⟩) (by exact hlt)).trans hB
  replace HX := Lib.hid (And.intro (HX.out.1.next ((Gr.refl _).drew 1)) (HX.out.2.next ((Gr.refl _).drew 1)))
  go_region_held3 (fun w' => w'.cell? ⟨B, 0, none⟩ = some (.func (.func 100) #[] #[]) ∧ w'.cell? ⟨w.heap.size, 0, none⟩ = some (.string x.name) ∧ w'.cell? ⟨w.heap.size, 1, none⟩ = some (.int .i64 x.kind) ∧ w'.cell? ⟨w.heap.size, 2, none⟩ = some (.int .i64 x.goal) ∧ w'.cell? ⟨w.heap.size + 1, 0, none⟩ = some (.string y.name) ∧ w'.cell? ⟨w.heap.size + 1, 1, none⟩ = some (.int .i64 y.kind) ∧ w'.cell? ⟨w.heap.size + 1, 2, none⟩ = some (.int .i64 y.goal)) (go_keep)
    (first
      | (go_at_call 100; refine (name_met _ _).mono ?_; rintro e w1 ⟨rfl, hg⟩; replace HX := Lib.hid (And.intro (HX.out.1.next hg) (HX.out.2.next hg)); clear hg; clear x0 x1 x2 y0 y1 y2 z0; have x0 := HX.out.1.cell 0; have x1 := HX.out.1.cell 1; have x2 := HX.out.1.cell 2; have y0 := HX.out.2.cell 0; have y1 := HX.out.2.cell 1; have y2 := HX.out.2.cell 2; have z0 := (HX.out.1.gr.below.cell (p := ⟨B, 0, none⟩) (by exact hlt)).trans hB))
  go_wp2
  go_ret
  exact ⟨rfl, HX.out.1.gr⟩


set_option maxHeartbeats 1000000 in
theorem name_not (x : Not) (w : World) : Calls Tryz.prog 103 #[.agg #[.string x.key, .string x.text]] w fun e w' => e = .returned (.string x.key) ∧ Gr w w' := by
  have HG : Hid (∀ o, Gr w (w.alloc o)) := fun o => (Gr.refl w).alloc o
  go_enter Tryz.func103, Tryz.ntmps103
  go_wp2
  go_ret
  exact ⟨rfl, HG.out _⟩


set_option maxRecDepth 100000 in
set_option maxHeartbeats 2000000 in
theorem clo1_not (x y : Not) (B : Nat) (w : World) (hB : w.cell? ⟨B, 0, none⟩ = some (.func (.func 103) #[] #[])) :
    Calls Tryz.prog 161 #[.agg #[.string x.key, .string x.text], .agg #[.string y.key, .string y.text], .pointer (some ⟨B, 0, none⟩)] w fun e w' => e = .returned (.int .i64 (cmpS x.key y.key)) ∧ Gr w w' := by
  have hlt : B < w.heap.size := World.block_lt_of_cell? _ _ hB
  have HX := Lib.hid (Bg.start w #[.string x.key, .string x.text] #[.string y.key, .string y.text] 98 98)
  go_enter Tryz.func161, Tryz.ntmps161
  go_wp2
  have x0 := HX.out.1.cell 0; have x1 := HX.out.1.cell 1; have y0 := HX.out.2.cell 0; have y1 := HX.out.2.cell 1; have z0 := (HX.out.1.gr.below.cell (p := ⟨B, 0, none⟩) (by exact hlt)).trans hB
  replace HX := Lib.hid (And.intro (HX.out.1.next ((Gr.refl _).drew 1)) (HX.out.2.next ((Gr.refl _).drew 1)))
  go_region_held3 (fun w' => w'.cell? ⟨B, 0, none⟩ = some (.func (.func 103) #[] #[]) ∧ w'.cell? ⟨w.heap.size, 0, none⟩ = some (.string x.key) ∧ w'.cell? ⟨w.heap.size, 1, none⟩ = some (.string x.text) ∧ w'.cell? ⟨w.heap.size + 1, 0, none⟩ = some (.string y.key) ∧ w'.cell? ⟨w.heap.size + 1, 1, none⟩ = some (.string y.text)) (go_keep)
    (first
      | (go_at_call 103; refine (name_not _ _).mono ?_; rintro e w1 ⟨rfl, hg⟩; replace HX := Lib.hid (And.intro (HX.out.1.next hg) (HX.out.2.next hg)); clear hg; clear x0 x1 y0 y1 z0; have x0 := HX.out.1.cell 0; have x1 := HX.out.1.cell 1; have y0 := HX.out.2.cell 0; have y1 := HX.out.2.cell 1; have z0 := (HX.out.1.gr.below.cell (p := ⟨B, 0, none⟩) (by exact hlt)).trans hB)
      | (go_at_call 154; refine (cmp_str _ _ _).mono ?_; rintro e w1 ⟨rfl, e1⟩; subst e1))
  go_wp2
  go_ret
  exact ⟨rfl, HX.out.1.gr⟩


set_option maxRecDepth 100000 in
set_option maxHeartbeats 2000000 in
theorem clo2_not (x y : Not) (B : Nat) (w : World) (hB : w.cell? ⟨B, 0, none⟩ = some (.func (.func 103) #[] #[])) :
    Calls Tryz.prog 163 #[.agg #[.string x.key, .string x.text], .agg #[.string y.key, .string y.text], .pointer (some ⟨B, 0, none⟩)] w fun e w' => e = .returned (.bool (x.key.toList == y.key.toList)) ∧ Gr w w' := by
  have hlt : B < w.heap.size := World.block_lt_of_cell? _ _ hB
  have HX := Lib.hid (Bg.start w #[.string x.key, .string x.text] #[.string y.key, .string y.text] 98 98)
  go_enter Tryz.func163, Tryz.ntmps163
  go_wp2
  have x0 := HX.out.1.cell 0; have x1 := HX.out.1.cell 1; have y0 := HX.out.2.cell 0; have y1 := HX.out.2.cell 1; have z0 := (HX.out.1.gr.below.cell (p := ⟨B, 0, none⟩) (by exact hlt)).trans hB
  replace HX := Lib.hid (And.intro (HX.out.1.next ((Gr.refl _).drew 1)) (HX.out.2.next ((Gr.refl _).drew 1)))
  go_region_held3 (fun w' => w'.cell? ⟨B, 0, none⟩ = some (.func (.func 103) #[] #[]) ∧ w'.cell? ⟨w.heap.size, 0, none⟩ = some (.string x.key) ∧ w'.cell? ⟨w.heap.size, 1, none⟩ = some (.string x.text) ∧ w'.cell? ⟨w.heap.size + 1, 0, none⟩ = some (.string y.key) ∧ w'.cell? ⟨w.heap.size + 1, 1, none⟩ = some (.string y.text)) (go_keep)
    (first
      | (go_at_call 103; refine (name_not _ _).mono ?_; rintro e w1 ⟨rfl, hg⟩; replace HX := Lib.hid (And.intro (HX.out.1.next hg) (HX.out.2.next hg)); clear hg; clear x0 x1 y0 y1 z0; have x0 := HX.out.1.cell 0; have x1 := HX.out.1.cell 1; have y0 := HX.out.2.cell 0; have y1 := HX.out.2.cell 1; have z0 := (HX.out.1.gr.below.cell (p := ⟨B, 0, none⟩) (by exact hlt)).trans hB))
  go_wp2
  go_ret
  exact ⟨rfl, HX.out.1.gr⟩

end Go.Proofs.YtfmkhogpnnobeaaGreatDoor

/- plain facts on lists that are ordered by names: the order is one; what is in order stays as it is when it is sorted by insertion; what is sorted, and has no two of one name side by side, ascends. -/
namespace Go.Proofs.YtfmkhogpnnobeaaGreatDoor
open Go Go.RowKit Go.Sort

section
variable {α : Type} (nm : α → ByteArray)

def cmpN (x y : α) : Int := cmpS (nm x) (nm y)

theorem ltN (x y : α) : ltOf (cmpN nm) x y = Op.bytesLess (nm x).toList (nm y).toList := by
  unfold ltOf cmpN cmpS
  by_cases h : Op.bytesLess (nm x).toList (nm y).toList = true
  · simp [h]
  · have h' : Op.bytesLess (nm x).toList (nm y).toList = false := by simpa using h
    rw [if_neg h, h']
    split <;> simp

theorem less_irrefl (l : List UInt8) : Op.bytesLess l l = false := by
  rw [bytesLess_eq]; simp
theorem less_trans {a b c : List UInt8} (h1 : Op.bytesLess a b = true) (h2 : Op.bytesLess b c = true) : Op.bytesLess a c = true := by
  rw [bytesLess_eq] at *
  simp only [decide_eq_true_eq] at *
  exact List.lt_trans h1 h2
theorem less_ntrans {a b c : List UInt8} (h1 : Op.bytesLess a b = false) (h2 : Op.bytesLess b c = false) : Op.bytesLess a c = false := by
  rw [bytesLess_eq] at *
  simp only [decide_eq_false_iff_not, List.not_lt] at *
  exact List.le_trans h2 h1
theorem less_alike {a b : List UInt8} (h1 : Op.bytesLess a b = false) (h2 : Op.bytesLess b a = false) : a = b := by
  rw [bytesLess_eq] at *
  simp only [decide_eq_false_iff_not, List.not_lt] at *
  exact List.le_antisymm h2 h1

theorem swoN : SWO (ltOf (cmpN nm)) where
  irrefl x := by rw [ltN]; exact less_irrefl _
  trans x y z h1 h2 := by rw [ltN] at *; exact less_trans h1 h2
  ntrans x y z h1 h2 := by rw [ltN] at *; exact less_ntrans h1 h2

end

section
variable {α : Type} [Inhabited α] (nm : α → ByteArray)

theorem ins_stays (lt : α → α → Bool) (d : Array α) (b : Nat) (h : ∀ i, 0 < i → i < b → lt d[i]! d[i - 1]! = false) : ∀ (n i : Nat), b - i = n → 0 < i → insOuter lt 0 b i d = d := by
  intro n
  induction n with
  | zero => intro i hn hi; exact insOuter_stop lt 0 b i d (by omega)
  | succ n ih =>
    intro i hn hi
    rw [insOuter_go lt 0 b i d (by omega), insInner_stop lt 0 i d (.inr (h i hi (by omega)))]
    exact ih (i + 1) (by omega) (by omega)

/-- Names ascending. -/
def Asc (xs : List α) : Prop := ∀ i (h : i < xs.length), 0 < i → Op.bytesLess (nm (xs[i - 1]'(by omega))).toList (nm xs[i]).toList = true

theorem get!_toArray (xs : List α) {i : Nat} (h : i < xs.length) : xs.toArray[i]! = xs[i] := by
  simp [h]

theorem ins_asc {xs : List α} (h : Asc nm xs) : insertionSort (ltOf (cmpN nm)) xs.toArray 0 xs.length = xs.toArray := by
  refine ins_stays _ _ _ (fun i h0 hi => ?_) _ _ rfl (by decide)
  rw [ltN, get!_toArray _ hi, get!_toArray _ (by omega : i - 1 < xs.length)]
  have h1 := h i hi h0
  rcases Bool.eq_false_or_eq_true (Op.bytesLess (nm xs[i]).toList (nm (xs[i - 1]'(by omega))).toList) with h2 | h2
  · have := less_trans h1 h2
    rw [less_irrefl] at this
    cases this
  · exact h2

theorem ins_size (d : Array α) : (insertionSort (ltOf (cmpN nm)) d 0 d.size).size = d.size := (insertionSort_holds (swoN nm) d 0 d.size (Nat.zero_le _) (Nat.le_refl _)).1.1

/-- What is sorted, and has no two of one name side by side, ascends. -/
theorem asc_of_sorted {d : Array α} (hd : SortedIn (ltOf (cmpN nm)) 0 d.size d) (hn : ∀ i (h : i < d.size), 0 < i → ¬ (nm d[i]).toList = (nm (d[i - 1]'(by omega))).toList) : Asc nm d.toList := fun i h h0 => by
  have h' : i < d.size := by simpa using h
  have hs := hd (i - 1) i (Nat.zero_le _) (by omega) h'
  rw [ltN, getElem!_pos d i h', getElem!_pos d (i - 1) (by omega)] at hs
  rcases Bool.eq_false_or_eq_true (Op.bytesLess (nm (d[i - 1]'(by omega))).toList (nm d[i]).toList) with h2 | h2
  · simpa using h2
  · exact absurd (less_alike hs h2) (hn i h' h0)
end

theorem els_iff {α : Type} (nm : α → ByteArray) (ok : α → Bool) (xs : List α) : Els nm ok xs ↔ (xs.length ≤ 4 ∧ (∀ x ∈ xs, ok x = true) ∧ Asc nm xs) := by
  constructor
  · intro h
    refine ⟨h.2, fun x hx => ?_, fun i hi h0 => (h.1 i hi).2 h0⟩
    obtain ⟨i, hi, rfl⟩ := List.getElem_of_mem hx
    exact (h.1 i hi).1
  · rintro ⟨h1, h2, h3⟩
    exact ⟨fun i hi => ⟨h2 _ (List.getElem_mem hi), fun h0 => h3 i hi h0⟩, h1⟩
end Go.Proofs.YtfmkhogpnnobeaaGreatDoor

/- slices.SortStableFunc of at most four metrics, or notes, sorts them by insertion. -/
namespace Go.Proofs.YtfmkhogpnnobeaaGreatDoor
open Go Go.RowKit Go.Sort

instance metInh : Inhabited Met := ⟨⟨⟨#[]⟩, 0, 0⟩⟩
instance notInh : Inhabited Not := ⟨⟨⟨#[]⟩, ⟨#[]⟩⟩⟩


theorem lays_met {B blk : Nat} {w : World} (size : Nat) (hB : w.cell? ⟨B, 0, none⟩ = some (.func (.func 100) #[] #[])) (hne : B ≠ blk) :
    CmpLays Tryz.prog 153 #[.pointer (some ⟨B, 0, none⟩)] Met.row 3 (cmpN Met.name) blk 0 size w := fun m os dk _ x y => by
  have hlt : B < w.heap.size := World.block_lt_of_cell? _ _ hB
  have hc : (sortWorldK Met.row 3 w blk 0 m dk os).cell? ⟨B, 0, none⟩ = some (.func (.func 100) #[] #[]) := by
    unfold sortWorldK
    rw [cell?_grow _ _ _ (by rw [size_putRowK]; exact hlt), cell?_putRowK_other _ _ _ _ _ _ _ (by exact hne)]
    exact hB
  exact clo1_met x y B _ hc

set_option maxRecDepth 100000 in
set_option maxHeartbeats 2000000 in
theorem ins_met {B blk cap : Nat} (d : Array Met) (w : World) (hB : w.cell? ⟨B, 0, none⟩ = some (.func (.func 100) #[] #[])) (hne : B ≠ blk) (hH : HoldsK Met.row 3 w blk 0 d) (hblk : blk < w.heap.size) (h4 : d.size ≤ 4) :
    Calls Tryz.prog 183 #[.slice (some ⟨blk, 0, none⟩) d.size cap, .int .i64 0, .int .i64 d.size, .func (.func 153) #[] #[.pointer (some ⟨B, 0, none⟩)]] w fun e w' =>
      e = .returned (.tuple #[]) ∧ ∃ n os, w' = sortWorldK Met.row 3 w blk 0 n (Sort.insertionSort (ltOf (cmpN Met.name)) d 0 d.size) os := by
  have eg : ∀ args w, (callFunc 153 args).run Tryz.prog w = .ok (.enter 153 args) w := enters_of Tryz.func153 (by kernel_rfl) rfl
  have h := AnyQ.insertionSortCmpFunc Tryz.insMet 3 Tryz.isAgg93 Tryz.sizeOf93 Met.row (fun _ => rfl) (fun x v hv => by simp [Met.row] at hv; rcases hv with rfl | rfl | rfl <;> rfl) (cmpN Met.name) 153 #[.pointer (some ⟨B, 0, none⟩)] blk 0 cap 0 d.size d w eg (lays_met d.size hB hne) hH hblk (Nat.zero_le _) (Nat.le_refl _) (by omega)
  exact h

set_option maxRecDepth 100000 in
set_option maxHeartbeats 2000000 in
theorem stable_met {B blk cap : Nat} (d : Array Met) (w : World) (hB : w.cell? ⟨B, 0, none⟩ = some (.func (.func 100) #[] #[])) (hne : B ≠ blk) (hH : HoldsK Met.row 3 w blk 0 d) (hblk : blk < w.heap.size) (h4 : d.size ≤ 4) :
    Calls Tryz.prog 173 #[.slice (some ⟨blk, 0, none⟩) d.size cap, .int .i64 d.size, .func (.func 153) #[] #[.pointer (some ⟨B, 0, none⟩)]] w fun e w' =>
      e = .returned (.tuple #[]) ∧ ∃ n os, w' = sortWorldK Met.row 3 w blk 0 n (Sort.insertionSort (ltOf (cmpN Met.name)) d 0 d.size) os := by
  have hi := Lib.hid (ins_met (cap := cap) d w hB hne hH hblk h4)
  clear hH hB
  generalize Sort.insertionSort (ltOf (cmpN Met.name)) d 0 d.size = r at *
  have h5 : ¬ (20 : Int) ≤ d.size := by omega
  have h6 : ¬ (20 : Int) < d.size := by omega
  go_enter Tryz.func173, Tryz.ntmps173
  go_wp2
  refine wp_loop_rounds 1 ?_
  rw [rounds_succ]
  go_wp2_with (first | (go_at_call 183; refine hi.out.mono ?_; rintro e w1 ⟨rfl, n, os, rfl⟩) | fail)
  refine wp_loop_rounds 1 ?_
  rw [rounds_succ]
  go_wp2
  go_end0
  exact ⟨rfl, n, os, rfl⟩

set_option maxRecDepth 100000 in
set_option maxHeartbeats 2000000 in
theorem sort_met {B blk cap : Nat} (d : Array Met) (w : World) (hB : w.cell? ⟨B, 0, none⟩ = some (.func (.func 100) #[] #[])) (hne : B ≠ blk) (hH : HoldsK Met.row 3 w blk 0 d) (hblk : blk < w.heap.size) (h4 : d.size ≤ 4) :
    Calls Tryz.prog 152 #[.slice (some ⟨blk, 0, none⟩) d.size cap, .func (.func 153) #[] #[.pointer (some ⟨B, 0, none⟩)]] w fun e w' =>
      e = .returned (.tuple #[]) ∧ ∃ n os, w' = sortWorldK Met.row 3 w blk 0 n (Sort.insertionSort (ltOf (cmpN Met.name)) d 0 d.size) os := by
  have hi := Lib.hid (stable_met (cap := cap) d w hB hne hH hblk h4)
  clear hH hB
  generalize Sort.insertionSort (ltOf (cmpN Met.name)) d 0 d.size = r at *
  go_enter Tryz.func152, Tryz.ntmps152
  go_wp2_with (first | (go_at_call 173; refine hi.out.mono ?_; rintro e w1 ⟨rfl, n, os, rfl⟩) | fail)
  go_end0
  exact ⟨rfl, n, os, rfl⟩


theorem lays_not {B blk : Nat} {w : World} (size : Nat) (hB : w.cell? ⟨B, 0, none⟩ = some (.func (.func 103) #[] #[])) (hne : B ≠ blk) :
    CmpLays Tryz.prog 161 #[.pointer (some ⟨B, 0, none⟩)] Not.row 2 (cmpN Not.key) blk 0 size w := fun m os dk _ x y => by
  have hlt : B < w.heap.size := World.block_lt_of_cell? _ _ hB
  have hc : (sortWorldK Not.row 2 w blk 0 m dk os).cell? ⟨B, 0, none⟩ = some (.func (.func 103) #[] #[]) := by
    unfold sortWorldK
    rw [cell?_grow _ _ _ (by rw [size_putRowK]; exact hlt), cell?_putRowK_other _ _ _ _ _ _ _ (by exact hne)]
    exact hB
  exact clo1_not x y B _ hc

set_option maxRecDepth 100000 in
set_option maxHeartbeats 2000000 in
theorem ins_not {B blk cap : Nat} (d : Array Not) (w : World) (hB : w.cell? ⟨B, 0, none⟩ = some (.func (.func 103) #[] #[])) (hne : B ≠ blk) (hH : HoldsK Not.row 2 w blk 0 d) (hblk : blk < w.heap.size) (h4 : d.size ≤ 4) :
    Calls Tryz.prog 186 #[.slice (some ⟨blk, 0, none⟩) d.size cap, .int .i64 0, .int .i64 d.size, .func (.func 161) #[] #[.pointer (some ⟨B, 0, none⟩)]] w fun e w' =>
      e = .returned (.tuple #[]) ∧ ∃ n os, w' = sortWorldK Not.row 2 w blk 0 n (Sort.insertionSort (ltOf (cmpN Not.key)) d 0 d.size) os := by
  have eg : ∀ args w, (callFunc 161 args).run Tryz.prog w = .ok (.enter 161 args) w := enters_of Tryz.func161 (by kernel_rfl) rfl
  have h := AnyQ.insertionSortCmpFunc Tryz.insNot 2 Tryz.isAgg98 Tryz.sizeOf98 Not.row (fun _ => rfl) (fun x v hv => by simp [Not.row] at hv; rcases hv with rfl | rfl <;> rfl) (cmpN Not.key) 161 #[.pointer (some ⟨B, 0, none⟩)] blk 0 cap 0 d.size d w eg (lays_not d.size hB hne) hH hblk (Nat.zero_le _) (Nat.le_refl _) (by omega)
  exact h

set_option maxRecDepth 100000 in
set_option maxHeartbeats 2000000 in
theorem stable_not {B blk cap : Nat} (d : Array Not) (w : World) (hB : w.cell? ⟨B, 0, none⟩ = some (.func (.func 103) #[] #[])) (hne : B ≠ blk) (hH : HoldsK Not.row 2 w blk 0 d) (hblk : blk < w.heap.size) (h4 : d.size ≤ 4) :
    Calls Tryz.prog 176 #[.slice (some ⟨blk, 0, none⟩) d.size cap, .int .i64 d.size, .func (.func 161) #[] #[.pointer (some ⟨B, 0, none⟩)]] w fun e w' =>
      e = .returned (.tuple #[]) ∧ ∃ n os, w' = sortWorldK Not.row 2 w blk 0 n (Sort.insertionSort (ltOf (cmpN Not.key)) d 0 d.size) os := by
  have hi := Lib.hid (ins_not (cap := cap) d w hB hne hH hblk h4)
  clear hH hB
  generalize Sort.insertionSort (ltOf (cmpN Not.key)) d 0 d.size = r at *
  have h5 : ¬ (20 : Int) ≤ d.size := by omega
  have h6 : ¬ (20 : Int) < d.size := by omega
  go_enter Tryz.func176, Tryz.ntmps176
  go_wp2
  refine wp_loop_rounds 1 ?_
  rw [rounds_succ]
  go_wp2_with (first | (go_at_call 186; refine hi.out.mono ?_; rintro e w1 ⟨rfl, n, os, rfl⟩) | fail)
  refine wp_loop_rounds 1 ?_
  rw [rounds_succ]
  go_wp2
  go_end0
  exact ⟨rfl, n, os, rfl⟩

set_option maxRecDepth 100000 in
set_option maxHeartbeats 2000000 in
theorem sort_not {B blk cap : Nat} (d : Array Not) (w : World) (hB : w.cell? ⟨B, 0, none⟩ = some (.func (.func 103) #[] #[])) (hne : B ≠ blk) (hH : HoldsK Not.row 2 w blk 0 d) (hblk : blk < w.heap.size) (h4 : d.size ≤ 4) :
    Calls Tryz.prog 160 #[.slice (some ⟨blk, 0, none⟩) d.size cap, .func (.func 161) #[] #[.pointer (some ⟨B, 0, none⟩)]] w fun e w' =>
      e = .returned (.tuple #[]) ∧ ∃ n os, w' = sortWorldK Not.row 2 w blk 0 n (Sort.insertionSort (ltOf (cmpN Not.key)) d 0 d.size) os := by
  have hi := Lib.hid (stable_not (cap := cap) d w hB hne hH hblk h4)
  clear hH hB
  generalize Sort.insertionSort (ltOf (cmpN Not.key)) d 0 d.size = r at *
  go_enter Tryz.func160, Tryz.ntmps160
  go_wp2_with (first | (go_at_call 176; refine hi.out.mono ?_; rintro e w1 ⟨rfl, n, os, rfl⟩) | fail)
  go_end0
  exact ⟨rfl, n, os, rfl⟩

end Go.Proofs.YtfmkhogpnnobeaaGreatDoor

/- plain facts on a row of small structs that a function may write; clear of a part of it. -/
namespace Go.Proofs.YtfmkhogpnnobeaaGreatDoor
open Go Go.RowKit Go.Sort

/-- The block blk bears these structs, of k cells each; nothing else that lay in w has turned. -/
structure Rw {α : Type} (enc : α → List Value) (k : Nat) (w wr : World) (blk : Nat) (es : List α) : Prop where
  cell : ∀ i (h : i < es.length) j, j < k → wr.cell? ⟨blk, i * k + j, none⟩ = (enc es[i])[j]?
  free : ∀ o, wr.frozen? ⟨blk, o, none⟩ = false
  gr : w.grownBy wr (some blk)

section
variable {α : Type} {enc : α → List Value} {k : Nat} {w wr w1 : World} {blk : Nat} {es : List α}

theorem grw_trans {a b c : World} {r : Option Nat} (h : a.grownBy b r) (h' : b.grownBy c r) : a.grownBy c r :=
  ⟨h'.os.trans h.os, h'.tape.trans h.tape, h'.output.trans h.output, Nat.le_trans h.size h'.size, fun k hk hr => (h'.block k (Nat.lt_of_lt_of_le hk h.size) hr).trans (h.block k hk hr)⟩
theorem grw_of_below {a b : World} {r : Option Nat} (h : Below a.heap.size a b) : a.grownBy b r := ⟨h.os, h.tape, h.output, h.size, fun k hk _ => h.block k hk⟩

theorem Rw.next (h : Rw enc k w wr blk es) (hg : Gr wr w1) (hb : blk < wr.heap.size) : Rw enc k w w1 blk es :=
  ⟨fun i hi j hj => by rw [hg.below.cell (by exact hb)]; exact h.cell i hi j hj, fun o => by rw [World.frozen?_of_block (w := wr) (hg.below.block _ hb)]; exact h.free o, grw_trans h.gr (grw_of_below hg.below)⟩

theorem grw_setCells (w : World) (b o : Nat) (vs : List Value) : w.grownBy (w.setCells b o vs) (some b) := by
  induction vs generalizing w o with
  | nil => exact ⟨rfl, rfl, rfl, Nat.le_refl _, fun _ _ _ => rfl⟩
  | cons v vs ih =>
    have h1 : w.grownBy (w.setCell ⟨b, o, none⟩ v) (some b) := ⟨rfl, rfl, rfl, by simp, fun k hk hr => Below.heap_setCell w ⟨b, o, none⟩ v k (by show k ≠ b; simpa using hr)⟩
    exact grw_trans h1 (ih (w.setCell ⟨b, o, none⟩ v) (o + 1))

theorem Rw.put (hk : ∀ a, (enc a).length = k) (h : Rw enc k w wr blk es) {i : Nat} (hi : i < es.length) (x : α) : Rw enc k w (wr.setCells blk (i * k) (enc x)) blk (es.set i x) := by
  refine ⟨fun i' hi' j hj => ?_, fun o => ?_, grw_trans h.gr (grw_setCells _ _ _ _)⟩
  · have hi2 : i' < es.length := by simpa using hi'
    by_cases e : i' = i
    · subst e
      have := World.cell?_setCells_in blk (enc x) (i' * k) wr (fun j hj => by rw [h.cell i' hi2 j (by rw [← hk x]; exact hj), List.getElem?_eq_getElem (by rw [hk, ← hk x]; exact hj)]; rfl) j (by rw [hk]; exact hj)
      rw [this]
      simp only [List.getElem_set_self]
      rw [List.getElem?_eq_getElem (by rw [hk]; exact hj)]
    · rw [World.cell?_setCells_out blk (enc x) (i * k) wr _ (fun _ _ => by
        simp only [hk]
        rcases Nat.lt_or_gt_of_ne e with h1 | h1
        · left
          have : (i' + 1) * k ≤ i * k := Nat.mul_le_mul_right k h1
          rw [Nat.add_mul] at this
          omega
        · right
          have : (i + 1) * k ≤ i' * k := Nat.mul_le_mul_right k h1
          rw [Nat.add_mul] at this
          omega)]
      rw [h.cell i' hi2 j hj]
      simp [Ne.symm e]
  · rw [World.frozen?_setCells]; exact h.free o

theorem zero_mem {cs : Array Value} {n : Nat} (h0 : 0 < cs.size) : ∀ v ∈ (Builtin.zeroCells cs n).toList, v ∈ cs := by
  intro v hv
  simp only [Builtin.zeroCells, Array.toList_map, List.mem_map] at hv
  obtain ⟨i, _, rfl⟩ := hv
  rw [getElem!_pos cs (i % cs.size) (Nat.mod_lt _ h0)]
  exact Array.getElem_mem _

/-- 'clear(s)', s a slice of n > 0 structs. -/
theorem clear_run {P : Program} (w : World) (t e ty : TypeId) (cs : Array Value) (ht : P.underlying t = some (.slice e)) (hv : ∀ w, (zeroValue e).run P w = .ok (.agg cs) w) (h0 : 0 < cs.size) (h1 : ∀ v ∈ cs, v.oneCell' = true) (b o n c : Nat) (hn : 0 < n)
    (hc : ∀ j, j < n * cs.size → (w.cell? ⟨b, o + j, none⟩).isSome = true) (hf : ∀ j, j < n * cs.size → w.frozen? ⟨b, o + j, none⟩ = false) :
    (Builtin.clear_ #[t] ty #[.slice (some ⟨b, o, none⟩) n c]).run P w = .ok (.tuple #[]) (w.setCells b o (Builtin.zeroCells cs n).toList) := by
  have hst := run_storeCells_cells (P := P) b o (Builtin.zeroCells cs n).toList 0 w (by simpa [size_zeroCells] using hc) (by simpa [size_zeroCells] using hf) (fun v hv' => h1 v (zero_mem h0 v hv'))
  simp only [Nat.add_zero] at hst
  have hz : (Value.agg cs).cells = cs := rfl
  obtain ⟨m, rfl⟩ : ∃ m, n = m + 1 := ⟨n - 1, by omega⟩
  simp [Builtin.clear_, run_underlying ht, hv, hz, hst]
end
end Go.Proofs.YtfmkhogpnnobeaaGreatDoor
