/-
  What is proved: the program's tree of a list of notes: a map of their Texts, in memory of its own; no condition.; plain facts on a literal of eight Kids three of which have memory of their own: where all of it lies apart, it is the tree of an order in the full shape.; metrics, notes, paces and heads of orders are held against each other field by field; slices.Equal tells of two lists of metrics, and of two lists of notes, whether they are the same; the laws' eqMetricS and eqNoteS answer true of two that are.; plain facts on texts that may be written as they are: 1 to 60 bytes, a letter first, then letters, digits and four signs; none of three words.; plain facts on names: 1 to 20 bytes, a small letter first, then small letters, digits and the sign 45.
-/
import Derived.Test.YtfgfgmbifdojcaaGreatDoorPartAF
import Derived.Test.YtfgfgmbifdojcaaGreatDoorPartAE
import Derived.Test.YtfgfgmbifdojcaaGreatDoorPartAD
import Derived.Test.YtfgfgmbifdojcaaGreatDoorPartAH
import Derived.Test.YtfgfgmbifdojcaaGreatDoorPartAG
import Derived.Test.YtfgfgmbifdojcaaGreatDoorRows
import Derived.Below
import Derived.WalkKit
import Derived.WalkSpells
import Derived.Lib.Hide
import Derived.Lib.Bytealg
/- the program's tree of a list of notes: a map of their Texts, in memory of its own; no condition. -/
namespace Go.Proofs.YtfgfgmbifdojcaaGreatDoor
open Go Go.RowKit

/-- Where notesTree starts: the result's block and the form's. -/
def W3 (w : World) : World := (w.alloc (.cells #[.int .i64 0, .int .i64 0, .string ⟨#[]⟩, .slice none 0 0, .slice none 0 0] 32)).alloc (.cells #[.slice none 0 0, .slice none 0 0] 101)
theorem w3_size (w : World) : (W3 w).heap.size = w.heap.size + 2 := by simp [W3]

def nilV : Nat → Value := fun _ => .slice none 0 0

/-- The Keys up to j and the Kids up to d are laid. -/
structure NN (w wr : World) (xs : List Not) (j d : Nat) (kv dv : Value) : Prop where
  below : Below w.heap.size w wr
  size : w.heap.size + 2 ≤ wr.heap.size
  res : wr.heap[w.heap.size]? = some (.cells #[.int .i64 0, .int .i64 0, .string ⟨#[]⟩, .slice none 0 0, .slice none 0 0] 32 (0, 0))
  out : wr.heap[w.heap.size + 1]? = some (.cells #[kv, dv] 101 (0, 0))
  keys : wr.ownsRow (w.heap.size + 2) 9 1 kv j ((xs.take j).map fun n => .string n.key)
  kids : wr.ownsRow (w.heap.size + 2) 32 5 dv d (rowsOf (xs.map noteK) nilV nilV d)

theorem owns_form {w : World} {base n : Nat} {t : TypeId} {k : Nat} {v : Value} {l : List Value} (h : w.ownsRow base t k v n l) : ∃ o c, v = .slice o n c := by
  rcases h.2 with ⟨rfl, h0⟩ | ⟨g, cap, cur, rfl, _⟩
  · exact ⟨none, 0, by rw [h0]⟩
  · exact ⟨_, _, rfl⟩
theorem owns_blk {w : World} {base n : Nat} {t : TypeId} {k : Nat} {v : Value} {l : List Value} (h : w.ownsRow base t k v n l) {b : Nat} (hb : v.ownBlock = some b) : base ≤ b ∧ b < w.heap.size ∧ ∃ cs, w.heap[b]? = some (.cells cs t (0, 0)) := by
  rcases h.2 with ⟨rfl, _⟩ | ⟨g', cap', cur, rfl, hg, hh, _⟩
  · simp [Value.ownBlock] at hb
  · have : g' = b := by simpa [Value.ownBlock] using hb
    subst this
    exact ⟨hg, (Array.getElem?_eq_some_iff.1 hh).1, _, hh⟩
theorem owns_carry {w w1 : World} {base n : Nat} {t : TypeId} {k : Nat} {v : Value} {l : List Value} (h : w.ownsRow base t k v n l) (hk : ∀ b, v.ownBlock = some b → w1.heap[b]? = w.heap[b]?) : w1.ownsRow base t k v n l := by
  refine ⟨h.1, ?_⟩
  rcases h.2 with h2 | ⟨g, cap, cur, rfl, hg, hh, r⟩
  · exact .inl h2
  · exact .inr ⟨g, cap, cur, rfl, hg, (hk g rfl).trans hh, r⟩

section
variable {w wr w1 w3 : World} {xs : List Not} {j d : Nat} {kv dv : Value}

theorem NN.start (w : World) (xs : List Not) : NN w (W3 w) xs 0 0 (.slice none 0 0) (.slice none 0 0) := by
  obtain ⟨h1, h2, h3, h4⟩ := two_blk w (.cells #[.int .i64 0, .int .i64 0, .string ⟨#[]⟩, .slice none 0 0, .slice none 0 0] 32) (.cells #[.slice none 0 0, .slice none 0 0] 101)
  exact ⟨h4, by rw [w3_size]; exact Nat.le_refl _, h1, h2, ⟨rfl, .inl ⟨rfl, rfl⟩⟩, ⟨rfl, .inl ⟨rfl, rfl⟩⟩⟩

theorem NN.next (h : NN w wr xs j d kv dv) (hb : Below wr.heap.size wr w1) : NN w w1 xs j d kv dv :=
  ⟨h.below.trans (hb.mono h.below.size), Nat.le_trans h.size hb.size, blk_next h.res hb, blk_next h.out hb, owns_below h.keys hb, owns_below h.kids hb⟩

theorem NN.key (h : NN w wr xs j d kv dv) (hj : j < xs.length) {g cap : Nat} (hgrow : wr.grownBy w3 kv.ownBlock) (hown : w3.ownsRow (w.heap.size + 2) 9 1 (.slice (some ⟨g, 0, none⟩) (j + 1) cap) (j + 1) (((xs.take j).map fun n => .string n.key) ++ [.string xs[j].key])) :
    NN w (w3.setCell ⟨w.heap.size + 1, 0, none⟩ (.slice (some ⟨g, 0, none⟩) (j + 1) cap)) xs (j + 1) d (.slice (some ⟨g, 0, none⟩) (j + 1) cap) dv := by
  have hk : ∀ b, kv.ownBlock = some b → w.heap.size + 2 ≤ b := fun b e => (owns_blk h.keys e).1
  have keep : ∀ x, x < w.heap.size + 2 → w3.heap[x]? = wr.heap[x]? := fun x hx => hgrow.block x (by have := h.size; omega) (fun e => by have := hk x e.symm; omega)
  have set : ∀ x, x ≠ w.heap.size + 1 → (w3.setCell ⟨w.heap.size + 1, 0, none⟩ (.slice (some ⟨g, 0, none⟩) (j + 1) cap)).heap[x]? = w3.heap[x]? := fun x hx => Below.heap_setCell _ _ _ _ hx
  have hb3 : Below w.heap.size w w3 := h.below.grown hgrow h.below.size (fun b e => by have := hk b e; omega)
  refine ⟨hb3.setCell (by show w.heap.size ≤ w.heap.size + 1; omega) _, by have := h.size; have := hgrow.size; simp [World.setCell]; omega, ?_, heap_set ((keep _ (by omega)).trans h.out) 0 _, ?_, ?_⟩
  · rw [set _ (by omega), keep _ (by omega)]; exact h.res
  · rw [List.take_succ_eq_append_getElem hj, List.map_append]
    refine owns_carry hown fun b e => set b ?_
    have : g = b := by simpa [Value.ownBlock] using e
    have := (owns_blk hown e).1
    omega
  · refine owns_carry h.kids fun b e => ?_
    obtain ⟨h1, h2, cs, h3⟩ := owns_blk h.kids e
    rw [set _ (by omega), hgrow.block _ h2 (fun e' => by
      obtain ⟨-, -, cs', h4⟩ := owns_blk h.keys e'.symm
      rw [h3] at h4; injection h4 with h4; injection h4 with _ h4; exact absurd h4 (by decide))]

theorem NN.kid (h : NN w wr xs j d kv dv) (hd : d < xs.length) {g cap : Nat} (hgrow : wr.grownBy w3 dv.ownBlock) (hown : w3.ownsRow (w.heap.size + 2) 32 5 (.slice (some ⟨g, 0, none⟩) (d + 1) cap) (d + 1) (rowsOf (xs.map noteK) nilV nilV d ++ [.int .i64 3, .int .i64 0, .string xs[d].text, .slice none 0 0, .slice none 0 0])) :
    NN w (w3.setCell ⟨w.heap.size + 1, 1, none⟩ (.slice (some ⟨g, 0, none⟩) (d + 1) cap)) xs j (d + 1) kv (.slice (some ⟨g, 0, none⟩) (d + 1) cap) := by
  have hk : ∀ b, dv.ownBlock = some b → w.heap.size + 2 ≤ b := fun b e => (owns_blk h.kids e).1
  have keep : ∀ x, x < w.heap.size + 2 → w3.heap[x]? = wr.heap[x]? := fun x hx => hgrow.block x (by have := h.size; omega) (fun e => by have := hk x e.symm; omega)
  have set : ∀ x, x ≠ w.heap.size + 1 → (w3.setCell ⟨w.heap.size + 1, 1, none⟩ (.slice (some ⟨g, 0, none⟩) (d + 1) cap)).heap[x]? = w3.heap[x]? := fun x hx => Below.heap_setCell _ _ _ _ hx
  have hb3 : Below w.heap.size w w3 := h.below.grown hgrow h.below.size (fun b e => by have := hk b e; omega)
  refine ⟨hb3.setCell (by show w.heap.size ≤ w.heap.size + 1; omega) _, by have := h.size; have := hgrow.size; simp [World.setCell]; omega, ?_, heap_set ((keep _ (by omega)).trans h.out) 1 _, ?_, ?_⟩
  · rw [set _ (by omega), keep _ (by omega)]; exact h.res
  · refine owns_carry h.keys fun b e => ?_
    obtain ⟨h1, h2, cs, h3⟩ := owns_blk h.keys e
    rw [set _ (by omega), hgrow.block _ h2 (fun e' => by
      obtain ⟨-, -, cs', h4⟩ := owns_blk h.kids e'.symm
      rw [h3] at h4; injection h4 with h4; injection h4 with _ h4; exact absurd h4 (by decide))]
  · rw [rowsOf_succ]
    have e1 : (xs.map noteK).getD d default = noteK xs[d] := by simp [List.getD, List.getElem?_map, List.getElem?_eq_getElem hd]
    rw [e1]
    refine owns_carry hown fun b e => set b ?_
    have := (owns_blk hown e).1
    omega

theorem NN.fin (h : NN w wr xs xs.length xs.length kv dv) (hok : ∀ n ∈ xs, n.ok) (hb : Below wr.heap.size wr w1) :
    ∃ F, (set5 w1 w.heap.size 0 (.int .i64 5) (.int .i64 0) (.string ⟨#[]⟩) kv dv).heap[w.heap.size]? = some (.cells #[.int .i64 5, .int .i64 0, .string ⟨#[]⟩, kv, dv] 32 (0, 0)) ∧
    Lies (set5 w1 w.heap.size 0 (.int .i64 5) (.int .i64 0) (.string ⟨#[]⟩) kv dv) (notesT xs) kv dv F ∧ Fresh w (set5 w1 w.heap.size 0 (.int .i64 5) (.int .i64 0) (.string ⟨#[]⟩) kv dv) F ∧
    Below w.heap.size w (set5 w1 w.heap.size 0 (.int .i64 5) (.int .i64 0) (.string ⟨#[]⟩) kv dv) := by
  have h' := h.next hb
  have hkl : (xs.map (·.key)).length = xs.length := List.length_map _
  have hdl : (xs.map noteK).length = xs.length := List.length_map _
  have hk0 := h'.keys
  have hd0 := h'.kids
  rw [List.take_of_length_le (Nat.le_refl _)] at hk0
  have hk1 : w1.ownsRow (w.heap.size + 2) 9 1 kv (xs.map (·.key)).length ((xs.map (·.key)).map .string) := by rw [hkl, List.map_map]; exact hk0
  have hd1 : w1.ownsRow (w.heap.size + 2) 32 5 dv (xs.map noteK).length (rowsOf (xs.map noteK) nilV nilV (xs.map noteK).length) := by rw [hdl]; exact hd0
  obtain ⟨FK, k1, k2, k3⟩ := strs_owned (w := w) hk1 (fun i hi => by rw [List.getElem_map]; exact (hok _ (List.getElem_mem _)).1) (by omega)
  have hfl : (List.range (xs.map noteK).length).flatMap (fun _ => ([] : List Nat)) = [] := flat_none _
  obtain ⟨FD, d1, d2, d3⟩ := kids_owned (w := w) (FF := fun _ => []) hd1 (fun i hi => by
    rw [List.getElem_map]
    exact leaf_lies w1 ⟨by decide, by decide⟩ ⟨by decide, by decide⟩ (hok _ (List.getElem_mem _)).2) (by rw [hfl]; exact Fresh.nil _ _) (fun g _ => by rw [hfl]; simp) (by omega)
  have hap : ∀ x ∈ FK, x ∉ FD := fun x hx hx' => by
    obtain ⟨-, -, cs, e1⟩ := owns_blk hk1 (k3 x hx)
    rcases d3 x hx' with e | e
    · obtain ⟨-, -, cs', e2⟩ := owns_blk hd1 e
      rw [e1] at e2; injection e2 with e2; injection e2 with _ e2; exact absurd e2 (by decide)
    · rw [hfl] at e; simp at e
  have hfar : ∀ x ∈ FK ++ FD, w.heap.size + 2 ≤ x := fun x hx => by
    rcases List.mem_append.1 hx with hx | hx
    · exact (owns_blk hk1 (k3 x hx)).1
    · rcases d3 x hx with e | e
      · exact (owns_blk hd1 e).1
      · rw [hfl] at e; simp at e
  have hf : Fresh w w1 (FK ++ FD) := ⟨List.nodup_append.2 ⟨k2.nodup, d2.nodup, fun a ha b hb' e => hap a ha (e ▸ hb')⟩, fun x hx => by have := hfar x hx; omega, fun x hx => by
    rcases List.mem_append.1 hx with hx | hx
    · exact k2.free x hx
    · exact d2.free x hx⟩
  have keep : ∀ x ∈ FK ++ FD, (set5 w1 w.heap.size 0 (.int .i64 5) (.int .i64 0) (.string ⟨#[]⟩) kv dv).heap[x]? = w1.heap[x]? := fun x hx => set5_other _ _ _ _ _ _ _ _ _ (by have := hfar x hx; omega)
  have hL := Lies.into (k := 5) (n := 0) (s := ⟨#[]⟩) ⟨by decide, by decide⟩ ⟨by decide, by decide⟩ (by decide) k1 d1
  exact ⟨FK ++ FD, set5_end h'.res _ _ _ _ _, hL.carry keep, hf.carry keep, set5_below h'.below (Nat.le_refl _) _ _ _ _ _ _⟩
end

set_option maxRecDepth 100000 in
set_option maxHeartbeats 3200000 in
theorem impl_notesTree {v : Value} {xs : List Not} {F : List Nat} (w : World) (hs : NotsAt w v xs F) (h1 : xs.length ≤ 1000000) :
    Calls Tryz.prog 76 #[v] w fun e w' => ∃ kv dv G, e = .returned (.agg #[.int .i64 5, .int .i64 0, .string ⟨#[]⟩, kv, dv]) ∧ Lies w' (notesT xs) kv dv G ∧ Fresh w w' G ∧ Below w.heap.size w w' := by
  have HOK := Lib.hid (RowAt.every hs)
  obtain ⟨o, cap, b, off, rfl, hlc, hcm, ho, -, hcell, -⟩ := hs
  have HC := Lib.hid hcell
  have HO := Lib.hid ho
  have HM := Lib.hid (NN.start w xs)
  clear hcell ho
  obtain ⟨i0, hi0, hz0, hz1, hz2⟩ := info_parts info_node
  obtain ⟨i1, hi1, hy0, hy1, hy2⟩ := info_parts info_string
  go_enter Tryz.func76, Tryz.ntmps76
  go_wp2
  go_loopw [8] (fun i wr => ∃ (k : Nat) (kv dv : Value), k ≤ xs.length ∧ i = .int .i64 k ∧ Hid (NN w wr xs k k kv dv)) (fun i _ => xs.length - (intOf i).toNat)
  case atStart => exact ⟨0, _, _, Nat.zero_le _, rfl, HM.out⟩
  case round =>
    obtain ⟨k, kv, dv, hk, rfl, hr⟩ := hrel
    obtain ⟨ok_, ck, rfl⟩ := owns_form hr.out.keys
    obtain ⟨od, cd, rfl⟩ := owns_form hr.out.kids
    by_cases hlt : k < xs.length
    · have hbel := hr.out.below
      have c0 : wr.cell? ⟨b, off + k * 2, none⟩ = some (.string xs[k].key) := by
        have := (HC.out k hlt).2 0 (by decide)
        rw [hbel.cell (by exact World.block_lt_of_cell? _ _ this)]; exact this
      have c1 : wr.cell? ⟨b, off + k * 2 + 1, none⟩ = some (.string xs[k].text) := by
        have := (HC.out k hlt).2 1 (by decide)
        rw [hbel.cell (by exact World.block_lt_of_cell? _ _ this)]; exact this
      have ho := HO.out (by omega)
      subst ho
      have HK := Lib.hid (fun (wr' w3 : World) (g cap : Nat) (h : NN w wr' xs k k (.slice ok_ k ck) (.slice od k cd)) => h.key (w3 := w3) (g := g) (cap := cap) hlt)
      have HD := Lib.hid (fun (wr' w3 : World) (kv : Value) (g cap : Nat) (h : NN w wr' xs (k + 1) k kv (.slice od k cd)) => h.kid (w3 := w3) (g := g) (cap := cap) hlt)
      generalize xs[k] = x at *
      have HS := Lib.hid hr.out.size
      have hB := (Below.refl wr.heap.size wr).alloc (Nat.le_refl _) (.cells #[.string x.key, .string x.text] 97)
      have hR := Lib.hid (hr.out.next hB)
      have y0 : ∀ ob, (wr.alloc ob).cell? ⟨w.heap.size + 1, 0, none⟩ = some (.slice ok_ k ck) := fun ob => (World.cell?_alloc_lt wr ob ⟨w.heap.size + 1, 0, none⟩ (by show w.heap.size + 1 < _; have := HS.out; omega)).trans (cell_of hr.out.out 0)
      have hNb := Lib.hid (heap_last wr (.cells #[.string x.key, .string x.text] 97))
      have hKb : Hid (((wr.alloc (.cells #[.string x.key, .string x.text] 97)).alloc (.cells #[.string x.key] 9)).heap[wr.heap.size + 1]? = some (.cells #[.string x.key] 9 (0, 0))) := (two_blk wr _ _).2.1
      have HKO := Lib.hid (owns_below hR.out.keys ((Below.refl _ (wr.alloc (.cells #[.string x.key, .string x.text] 97))).alloc (Nat.le_refl _) (.cells #[.string x.key] 9)))
      have HB2 := Lib.hid ((Below.refl _ (wr.alloc (.cells #[.string x.key, .string x.text] 97))).alloc (Nat.le_refl _) (.cells #[.string x.key] 9))
      clear hB
      go_wp2_with (first
        | (at_builtin; refine wpList_append_lies _ rfl (.tmp 13) (.tmp 16) 29 rfl (w.heap.size + 2) 9 i1 _ 1 16 Tryz.underlying29 hi1 hy0 hy1 hy2 rfl (by decide) (.slice ok_ k ck) k _ rfl HKO.out ⟨wr.heap.size + 1, 0, none⟩ 1 1 [.string x.key] rfl rfl (World.news_of_block (cs := #[.string x.key]) (t := 9) (fr := (0, 0)) hKb.out) (by simp [Value.oneCell']) (by omega) (by unfold maxLen; omega) (by omega) (by have := HS.out; simp; omega) (wr.heap.size + 1 + 1) (by simp) ?_
           intro g cap' w3 hown3 hgrow hat hltg
           have hA := HK.out _ w3 g cap' (hR.out.next HB2.out) hgrow hown3
           have HA := Lib.hid hA
           have hne : ∀ b', (Value.slice ok_ k ck).ownBlock = some b' → w.heap.size + 2 ≤ b' ∧ b' < wr.heap.size := fun b' e => ⟨(owns_blk hr.out.keys e).1, (owns_blk hr.out.keys e).2.1⟩
           have hout3 : w3.heap[w.heap.size + 1]? = some (.cells #[.slice ok_ k ck, .slice od k cd] 101 (0, 0)) := (hgrow.block _ (by have := HS.out; simp; omega) (fun e => by have := (hne _ e.symm).1; omega)).trans (hR.out.next HB2.out).out
           have k1 : w3.cell? ⟨w.heap.size + 1, 0, none⟩ = some (.slice ok_ k ck) := cell_of hout3 0
           have k2 : w3.frozen? ⟨w.heap.size + 1, 0, none⟩ = false := by simp [World.frozen?, hout3]
           have hN3 : w3.heap[wr.heap.size]? = some (.cells #[.string x.key, .string x.text] 97 (0, 0)) := (hgrow.block _ (by simp <;> omega) (fun e => by have := (hne _ e.symm).2; omega)).trans (blk_next hNb.out HB2.out)
           have HN3 := Lib.hid hN3
           have HG3 : Hid (wr.heap.size + 2 ≤ w3.heap.size) := by have h9 := hgrow.size; simp at h9; exact h9
           clear hown3 hgrow hat hltg hA hne hout3 hN3)
        | fail)
      have hN4 : (w3.setCell ⟨w.heap.size + 1, 0, none⟩ (.slice (some ⟨g, 0, none⟩) (k + 1) cap')).heap[wr.heap.size]? = _ := (Below.heap_setCell _ _ _ _ (by have := HS.out; show wr.heap.size ≠ w.heap.size + 1; omega)).trans HN3.out
      clear k1 k2 y0 HN3 HG3 HB2 HKO hKb hNb hR hbel HK c0 c1
      generalize w3.setCell ⟨w.heap.size + 1, 0, none⟩ (.slice (some ⟨g, 0, none⟩) (k + 1) cap') = wA at *
      clear w3
      have n1 := cell_of hN4 1
      have y1 := cell_of HA.out.out 1
      simp only [List.getElem?_toArray, List.getElem?_cons_zero, List.getElem?_cons_succ] at y1 n1
      have HTx : Hid (∀ W, Calls Tryz.prog 74 #[.string x.text] W fun e w' => ∃ u, e = .returned u ∧ (u = .agg #[.int .i64 3, .int .i64 0, .string x.text, .slice none 0 0, .slice none 0 0] ∧ Below W.heap.size W w')) := fun W => by
        refine (impl_textOf x.text W).mono ?_
        rintro e w' ⟨rfl, h⟩
        exact ⟨_, rfl, rfl, h⟩
      have HN4 := Lib.hid hN4
      clear hN4
      go_region_law (first
        | (refine step_calls (by rfl) 74 _ _ (by rfl) #[.string x.text] (by simp [Act.eval]) (by intros; simp [go_sem]) (fun _ _ => rfl) (HTx.out _) ?_
           rintro u w5 ⟨rfl, hb5⟩
           have hb5' := (below_drewN (Below.refl wA.heap.size wA) 1).trans (hb5.mono (Nat.le_refl _))
           have HA5 := Lib.hid (HA.out.next hb5')
           have m1 := cell_of HA5.out.out 1
           have m2 : ∀ ob, (w5.alloc ob).cell? ⟨w.heap.size + 1, 1, none⟩ = some (.slice od k cd) := fun ob => (World.cell?_alloc_lt w5 ob ⟨w.heap.size + 1, 1, none⟩ (by show w.heap.size + 1 < _; have := HA5.out.size; omega)).trans m1
           simp only [List.getElem?_toArray, List.getElem?_cons_zero, List.getElem?_cons_succ] at m1
           clear hb5 hb5')
        | (refine step_append_lies _ (by rfl) _ _ _ (by rfl) (w.heap.size + 2) 32 i0 _ 5 80 Tryz.underlying30 hi0 hz0 hz1 hz2 rfl (by decide) (.slice od k cd) k (rowsOf (xs.map noteK) nilV nilV k) (by rfl) (owns_below HA5.out.kids ((Below.refl _ w5).alloc (Nat.le_refl _) _)) ⟨w5.heap.size, 0, none⟩ 1 1 [.int .i64 3, .int .i64 0, .string x.text, .slice none 0 0, .slice none 0 0] (by rfl) (by rfl) (World.news_of_block (cs := #[.int .i64 3, .int .i64 0, .string x.text, .slice none 0 0, .slice none 0 0]) (t := 32) (fr := (0, 0)) (heap_last w5 _)) (by simp [Value.oneCell']) (by omega) (by unfold maxLen; omega) (by omega) (by have := HA5.out.size; simp; omega) _ rfl ?_
           intro g2 cap2 w6 hown6 hgrow6 hat6 hlt6
           have hD := HD.out _ w6 _ g2 cap2 (HA5.out.next ((Below.refl _ w5).alloc (Nat.le_refl _) _)) hgrow6 hown6
           have hBf := hgrow6.block (w.heap.size + 1) (by have := HA5.out.size; simp; omega) (fun e => by have := (owns_blk HA5.out.kids e.symm).1; omega)
           have k1 : w6.cell? ⟨w.heap.size + 1, 1, none⟩ = _ := (World.cell?_of_block (a := ⟨w.heap.size + 1, 1, none⟩) hBf).trans (m2 _)
           have hBo : w6.heap[w.heap.size + 1]? = _ := hBf.trans (HA5.out.next ((Below.refl _ w5).alloc (Nat.le_refl _) _)).out
           have k2 : w6.frozen? ⟨w.heap.size + 1, 1, none⟩ = false := by simp [World.frozen?, hBo]
           have H7 := Lib.hid hD
           clear hown6 hgrow6 hat6 hlt6 hD hBf hBo)
        | fail)
      all_goals go_wp2
      all_goals exact ⟨⟨k + 1, _, _, by omega, by go_num, H7.out⟩, by simp [intOf]; omega⟩
    · have e : k = xs.length := by omega
      subst e
      have HD := Lib.hid fun (w5 : World) (hb : Below wr.heap.size wr w5) => hr.out.fin HOK.out hb
      have HRs := Lib.hid hr.out.res
      have y0 := cell_of hr.out.out 0
      have y1 := cell_of hr.out.out 1
      simp only [List.getElem?_toArray, List.getElem?_cons_zero, List.getElem?_cons_succ] at y0 y1
      go_wp2_with (first
        | (go_at_call 78; refine (sh_node _ _ _ ⟨_, _, _, rfl⟩ ⟨_, _, _, rfl⟩).mono ?_; rintro e w5 ⟨rfl, hb5⟩; have H5 := Lib.hid (HD.out w5 hb5); obtain ⟨z0, z1, z2, z3, z4, z5⟩ := five (blk_next HRs.out hb5); clear hb5)
        | fail)
      obtain ⟨F', hfin⟩ := H5.out
      exact bodyPost_ret (ret_node Tryz.results76 rfl hfin.1) rfl ⟨_, _, _, rfl, hfin.2⟩
end Go.Proofs.YtfgfgmbifdojcaaGreatDoor

/- plain facts on a literal of eight Kids three of which have memory of their own: where all of it lies apart, it is the tree of an order in the full shape. -/
namespace Go.Proofs.YtfgfgmbifdojcaaGreatDoor
open Go Go.RowKit

/-- A tree that was laid between two sizes of the heap. -/
structure KidAt (W : World) (T : RT) (kv dv : Value) (G : List Nat) (lo hi : Nat) : Prop where
  lie : Lies W T kv dv G
  nodup : G.Nodup
  free : ∀ b ∈ G, ∀ o, W.frozen? ⟨b, o, none⟩ = false
  span : ∀ x ∈ G, lo ≤ x ∧ x < hi

theorem KidAt.next {W W' : World} {T : RT} {kv dv : Value} {G : List Nat} {lo hi : Nat} (h : KidAt W T kv dv G lo hi) (hb : Below W.heap.size W W') : KidAt W' T kv dv G lo hi :=
  ⟨h.lie.stay hb (Nat.le_refl _), h.nodup, fun b hbG o => (hb.frozen (by exact h.lie.lt b hbG)).trans (h.free b hbG o), h.span⟩

theorem kid_at0 {w W X W' : World} {a r : Obj} {T : RT} {kv dv : Value} {G : List Nat} (_ : Two w W a r) (hl : Lies W' T kv dv G) (hf : Fresh X W' G) (hX : X.heap.size = W.heap.size) : KidAt W' T kv dv G W.heap.size W'.heap.size :=
  ⟨hl, hf.nodup, hf.free, fun x hx => ⟨by rw [← hX]; exact hf.old x hx, hl.lt x hx⟩⟩
theorem kid_at1 {w W X W' : World} {a r : Obj} {T : RT} {kv dv : Value} {G : List Nat} (_ : Two w W a r) (hl : Lies W' T kv dv G) (hf : Fresh X W' G) (hX : X.heap.size = W.heap.size + 1) : KidAt W' T kv dv G (W.heap.size + 1) W'.heap.size :=
  ⟨hl, hf.nodup, hf.free, fun x hx => ⟨by rw [← hX]; exact hf.old x hx, hl.lt x hx⟩⟩

theorem stepA {w W W' : World} {a r : Obj} (h : Two w W a r) (hb : Below W.heap.size W W') : Two w W' a r ∧ Below W.heap.size W W' := ⟨h.next hb, hb⟩
theorem stepB {w W W' : World} {a r : Obj} (h : Two w W a r) (hb : Below W.drew.heap.size W.drew W') : Two w W' a r ∧ Below W.heap.size W W' := ⟨h.next1 hb, (below_drew1 W).trans hb⟩
theorem stepC {w W W' : World} {a r o : Obj} {B : Nat} (h : Two w W a r) (hb : Below B (W.alloc o).drew W') (hB : B = W.heap.size + 1) : Two w W' a r ∧ Below W.heap.size W W' ∧ One w W' W.heap.size o ∧ W.heap.size + 1 ≤ W'.heap.size := by
  have h1 := h.lit hb hB
  have hb' : Below (W.alloc o).drew.heap.size (W.alloc o).drew W' := below_cast hb (by subst hB; simp [World.drew])
  exact ⟨h1.1, (below_lit W o).trans (hb'.mono (below_lit W o).size), h1.2, (Array.getElem?_eq_some_iff.1 h1.2.at_).1⟩
theorem stepD {w W W' : World} {a r o : Obj} (h : Two w W a r) (hb : Below (W.alloc o).heap.size (W.alloc o) W') : Two w W' a r ∧ Below W.heap.size W W' ∧ One w W' W.heap.size o ∧ W.heap.size + 1 ≤ W'.heap.size := by
  have h1 := h.lit1 hb
  have hba := (Below.refl _ W).alloc (Nat.le_refl _) o
  exact ⟨h1.1, hba.trans (hb.mono hba.size), h1.2, (Array.getElem?_eq_some_iff.1 h1.2.at_).1⟩
theorem stepE {w W W' : World} {a r o o' : Obj} {B : Nat} (h : Two w W a r) (hb : Below B ((W.alloc o).alloc o').drew W') (hB : B = W.heap.size + 2) : Two w W' a r ∧ Below W.heap.size W W' ∧ One w W' W.heap.size o ∧ One w W' (W.heap.size + 1) o' := by
  have h1 := h.lits hb hB
  obtain ⟨-, -, -, h4⟩ := two_blk W o o'
  have h5 : Below W.heap.size W ((W.alloc o).alloc o').drew := h4.trans (B := W.heap.size) ⟨rfl, rfl, rfl, Nat.le_refl _, fun _ _ => rfl⟩
  have hb' : Below ((W.alloc o).alloc o').drew.heap.size ((W.alloc o).alloc o').drew W' := below_cast hb (by subst hB; simp [World.drew])
  exact ⟨h1.1, h5.trans (hb'.mono h5.size), h1.2.1, h1.2.2⟩
theorem stepF {w W W' : World} {a r o o' : Obj} (h : Two w W a r) (hb : Below ((W.alloc o).alloc o').heap.size ((W.alloc o).alloc o') W') : Two w W' a r ∧ Below W.heap.size W W' ∧ One w W' W.heap.size o ∧ One w W' (W.heap.size + 1) o' := by
  have h1 := h.lits1 hb
  obtain ⟨-, -, -, h4⟩ := two_blk W o o'
  exact ⟨h1.1, h4.trans (hb.mono h4.size), h1.2.1, h1.2.2⟩

/-! ### The full shape -/

def kvF (kn kp : Value) : Nat → Value := fun i => if i = 5 then kn else if i = 6 then kp else .slice none 0 0
def dvF (dm dn dp : Value) : Nat → Value := fun i => if i = 3 then dm else if i = 5 then dn else if i = 6 then dp else .slice none 0 0
def ffF (GM GN GP : List Nat) : Nat → List Nat := fun i => if i = 3 then GM else if i = 5 then GN else if i = 6 then GP else []

theorem ffF_flat (GM GN GP : List Nat) : (List.range 8).flatMap (ffF GM GN GP) = GM ++ (GN ++ GP) := by
  simp [List.range_succ, ffF]

theorem full_keys (O : Ord) : ∀ k ∈ (fullT O).keys, k.size ≤ maxLen := by
  intro t ht
  simp only [fullT, RT.keys, List.mem_cons, List.not_mem_nil, or_false] at ht
  rcases ht with rfl | rfl | rfl | rfl | rfl | rfl | rfl | rfl <;> decide

/-- Eight Kids, three of which have memory of their own. -/
theorem full_fin {w W : World} {a : Obj} {z0 z1 z2 z3 z4 : Value} {bz bn : Nat} {cz cn : Array Value} {dm kn dn kp dp : Value} {GM GN GP : List Nat} {l1 h1 l2 h2 l3 h3 : Nat} (O : Ord)
    (H2 : Two w W a (.cells #[z0, z1, z2, z3, z4] 32)) (HZ : One w W bz (.cells cz 9)) (HN : One w W bn (.cells cn 32))
    (HM : KidAt W (metsT O.mets) (.slice none 0 0) dm GM l1 h1) (HNt : KidAt W (notesT O.notes) kn dn GN l2 h2) (HP : KidAt W (pacT O.pace) kp dp GP l3 h3)
    (d1 : h1 ≤ l2 ∨ h2 ≤ l1) (d2 : h1 ≤ l3 ∨ h3 ≤ l1) (d3 : h2 ≤ l3 ∨ h3 ≤ l2) (z1' : bz < l1 ∨ h1 ≤ bz) (z2' : bz < l2 ∨ h2 ≤ bz) (z3' : bz < l3 ∨ h3 ≤ bz) (n1 : bn < l1 ∨ h1 ≤ bn) (n2 : bn < l2 ∨ h2 ≤ bn) (n3 : bn < l3 ∨ h3 ≤ bn)
    (b1 : w.heap.size + 2 ≤ l1) (b2 : w.heap.size + 2 ≤ l2) (b3 : w.heap.size + 2 ≤ l3)
    (hcz : cz.toList = (fullT O).keys.map .string) (hcn : cn.toList = rowsOf (fullT O).kids (kvF kn kp) (dvF dm dn dp) 8) (f1 : Fit O.high) (f2 : Fit O.low) (f3 : O.name.size ≤ maxLen) (f4 : O.target.size ≤ maxLen) {W' : World}
    (hW : W' = set5 W (w.heap.size + 1) 0 (.int .i64 5) (.int .i64 0) (.string ⟨#[]⟩) (.slice (some ⟨bz, 0, none⟩) 8 8) (.slice (some ⟨bn, 0, none⟩) 8 8)) :
    ∃ F, W'.heap[w.heap.size + 1]? = some (.cells #[.int .i64 5, .int .i64 0, .string ⟨#[]⟩, .slice (some ⟨bz, 0, none⟩) 8 8, .slice (some ⟨bn, 0, none⟩) 8 8] 32 (0, 0)) ∧
    Lies W' (fullT O) (.slice (some ⟨bz, 0, none⟩) 8 8) (.slice (some ⟨bn, 0, none⟩) 8 8) F ∧ Fresh w W' F ∧ Below w.heap.size w W' := by
  have hcl : cn.size = 8 * 5 := by have := congrArg List.length hcn; rw [rowsOf_length] at this; simpa using this
  have hF : Fresh w W (GM ++ (GN ++ GP)) := by
    refine ⟨List.nodup_append.2 ⟨HM.nodup, List.nodup_append.2 ⟨HNt.nodup, HP.nodup, fun x hx y hy e => ?_⟩, fun x hx y hy e => ?_⟩, fun x hx => ?_, fun x hx => ?_⟩
    · have := HNt.span x hx; have := HP.span y hy; omega
    · have := HM.span x hx
      rcases List.mem_append.1 hy with hy | hy
      · have := HNt.span y hy; omega
      · have := HP.span y hy; omega
    · rcases List.mem_append.1 hx with hx | hx
      · have := HM.span x hx; omega
      rcases List.mem_append.1 hx with hx | hx
      · have := HNt.span x hx; omega
      · have := HP.span x hx; omega
    · rcases List.mem_append.1 hx with hx | hx
      · exact HM.free x hx
      rcases List.mem_append.1 hx with hx | hx
      · exact HNt.free x hx
      · exact HP.free x hx
  have leaf : ∀ (k n : Int) (s : ByteArray), Fit k → Fit n → s.size ≤ maxLen → Lies W (.node k n s [] []) (.slice none 0 0) (.slice none 0 0) [] := fun k n s hk hn hs => leaf_lies W hk hn hs
  have fz : Fit 0 := ⟨by decide, by decide⟩
  have fl2 : Fit 2 := ⟨by decide, by decide⟩
  have fl3 : Fit 3 := ⟨by decide, by decide⟩
  have hlies : ∀ i (hi : i < (fullT O).kids.length), Lies W (fullT O).kids[i] (kvF kn kp i) (dvF dm dn dp i) (ffF GM GN GP i) := by
    intro i hi
    have hi8 : i < 8 := hi
    match i, hi8 with
    | 0, _ => exact leaf 2 O.high _ fl2 f1 (by decide)
    | 1, _ => exact leaf 3 0 _ fl3 fz (by decide)
    | 2, _ => exact leaf 2 O.low _ fl2 f2 (by decide)
    | 3, _ => exact HM.lie
    | 4, _ => exact leaf 3 0 _ fl3 fz f3
    | 5, _ => exact HNt.lie
    | 6, _ => exact HP.lie
    | 7, _ => exact leaf 3 0 _ fl3 fz f4
  have h := lit_fin (ks := (fullT O).keys) (kids := (fullT O).kids) (KV := kvF kn kp) (DV := dvF dm dn dp) (FF := ffF GM GN GP) H2.below (by omega) H2.res HZ.at_ (by have := HZ.old; omega) HN.at_ (by have := HN.old; omega) (by have := HN.old; omega) hcz (full_keys O) (show 0 < 8 by decide) (show 8 ≤ maxLen by decide) hcl
    (fun i hi j hj => by rw [← Array.getElem?_toList, hcn, rowsOf_get _ _ _ _ _ _ (show i < 8 from hi) hj, List.getD_eq_getElem?_getD, List.getElem?_eq_getElem hi]; rfl)
    hlies (show 0 < 8 by decide) (show 8 ≤ maxLen by decide) (by show Fresh w W ((List.range 8).flatMap _); rw [ffF_flat]; exact hF) (fun x hx => by
      have hx : x ∈ (List.range 8).flatMap (ffF GM GN GP) := hx
      rw [ffF_flat] at hx
      rcases List.mem_append.1 hx with hx | hx
      · have := HM.span x hx; omega
      rcases List.mem_append.1 hx with hx | hx
      · have := HNt.span x hx; omega
      · have := HP.span x hx; omega) hW
  obtain ⟨g1, g2, g3, g4⟩ := h
  exact ⟨_, g1, g2, g3, g4⟩
end Go.Proofs.YtfgfgmbifdojcaaGreatDoor

/- metrics, notes, paces and heads of orders are held against each other field by field; slices.Equal tells of two lists of metrics, and of two lists of notes, whether they are the same; the laws' eqMetricS and eqNoteS answer true of two that are. -/
namespace Go.Proofs.YtfgfgmbifdojcaaGreatDoor
open Go Go.RowKit

noncomputable def sameO {α : Type} (a b : α) : Bool := @decide (a = b) (Classical.propDecidable _)
theorem sameO_yes {α : Type} {a b : α} (h : a = b) : sameO a b = true := by simp [sameO, h]
theorem sameO_no {α : Type} {a b : α} (h : ¬ a = b) : sameO a b = false := by simp [sameO, h]
theorem below_drewO {B : Nat} {a w : World} (h : Below B a w) (n : Nat) : Below B a (w.drewN n) := h.trans ⟨rfl, rfl, rfl, Nat.le_refl _, fun _ _ => rfl⟩

theorem drewO_drew (w : World) (a b : Nat) : (w.drewN a).drewN b = w.drewN (a + b) := by simp [World.drewN, Nat.add_assoc]

theorem takeO_step {α : Type} {xs ys : List α} {k : Nat} (h : xs.take k = ys.take k) (h1 : k < xs.length) (h2 : k < ys.length) (he : xs[k] = ys[k]) : xs.take (k + 1) = ys.take (k + 1) := by
  rw [List.take_succ_eq_append_getElem h1, List.take_succ_eq_append_getElem h2, h, he]
theorem takeO_end {α : Type} {xs ys : List α} {k : Nat} (h : xs.take k = ys.take k) (h1 : ¬ k < xs.length) (hl : xs.length = ys.length) : xs = ys := by
  rwa [List.take_of_length_le (by omega), List.take_of_length_le (by omega)] at h
theorem neO_at {α : Type} {xs ys : List α} {k : Nat} (h1 : k < xs.length) (h2 : k < ys.length) (he : ¬ xs[k] = ys[k]) : ¬ xs = ys := fun e => by
  subst e; exact he rfl

theorem toList_iff {x y : ByteArray} : x.toList = y.toList ↔ x = y := by
  constructor
  · intro h
    rw [ByteArray.toList_eq, ByteArray.toList_eq] at h
    exact ByteArray.ext (Array.toList_inj.1 h)
  · rintro rfl; rfl

/-- An order's head: all of it but its two lists. -/
structure Head where
  name : ByteArray
  target : ByteArray
  low : Int
  high : Int
  pace : Pac


set_option maxHeartbeats 1000000 in
theorem neq_met (x y : Met) (w : World) : (binOp .neq 95 (.agg #[.string x.name, .int .i64 x.kind, .int .i64 x.goal]) (.agg #[.string y.name, .int .i64 y.kind, .int .i64 y.goal])).run Tryz.prog w = .ok (.bool (!sameO x y)) w := by
  have u3 := Tryz.underlying3
  have a3 := Tryz.isAgg3
  have z3 := Tryz.sizeOf3
  have u9 := Tryz.underlying9
  have a9 := Tryz.isAgg9
  have z9 := Tryz.sizeOf9
  have hS : Tryz.prog.underlying 95 = some (.struct (Tryz.prog.fieldsOf 95)) := by kernel_rfl
  have hp : Tryz.prog.stoodInHeld 95 = false := by kernel_rfl
  rw [run_neq_struct, show (10000 : Nat) = 9999 + 1 from rfl, run_equalIn_agg w 9999 95 _ _ hS hp]
  simp only [Program.fieldsOf, Tryz.underlying95]
  go_simp
  by_cases h : x = y
  · rw [sameO_yes h]; subst h; simp
  · rw [sameO_no h]
    by_cases h0 : x.name = y.name
    case neg => simp [toList_iff, h0]
    by_cases h1 : x.kind = y.kind
    case neg => simp [h1, h0]
    by_cases h2 : x.goal = y.goal
    case neg => simp [h2, h0, h1]
    exact absurd (by cases x; cases y; simp_all) h


set_option maxHeartbeats 1000000 in
theorem neq_not (x y : Not) (w : World) : (binOp .neq 97 (.agg #[.string x.key, .string x.text]) (.agg #[.string y.key, .string y.text])).run Tryz.prog w = .ok (.bool (!sameO x y)) w := by
  have u9 := Tryz.underlying9
  have a9 := Tryz.isAgg9
  have z9 := Tryz.sizeOf9
  have hS : Tryz.prog.underlying 97 = some (.struct (Tryz.prog.fieldsOf 97)) := by kernel_rfl
  have hp : Tryz.prog.stoodInHeld 97 = false := by kernel_rfl
  rw [run_neq_struct, show (10000 : Nat) = 9999 + 1 from rfl, run_equalIn_agg w 9999 97 _ _ hS hp]
  simp only [Program.fieldsOf, Tryz.underlying97]
  go_simp
  by_cases h : x = y
  · rw [sameO_yes h]; subst h; simp
  · rw [sameO_no h]
    by_cases h0 : x.key = y.key
    case neg => simp [toList_iff, h0]
    by_cases h1 : x.text = y.text
    case neg => simp [toList_iff, h1, h0]
    exact absurd (by cases x; cases y; simp_all) h


set_option maxHeartbeats 1000000 in
theorem neq_pac (x y : Pac) (w : World) : (binOp .neq 35 (.agg #[.int .i64 x.up, .int .i64 x.down, .int .i64 x.ups, .int .i64 x.downs]) (.agg #[.int .i64 y.up, .int .i64 y.down, .int .i64 y.ups, .int .i64 y.downs])).run Tryz.prog w = .ok (.bool (!sameO x y)) w := by
  have u3 := Tryz.underlying3
  have a3 := Tryz.isAgg3
  have z3 := Tryz.sizeOf3
  have hS : Tryz.prog.underlying 35 = some (.struct (Tryz.prog.fieldsOf 35)) := by kernel_rfl
  have hp : Tryz.prog.stoodInHeld 35 = false := by kernel_rfl
  rw [run_neq_struct, show (10000 : Nat) = 9999 + 1 from rfl, run_equalIn_agg w 9999 35 _ _ hS hp]
  simp only [Program.fieldsOf, Tryz.underlying35]
  go_simp
  by_cases h : x = y
  · rw [sameO_yes h]; subst h; simp
  · rw [sameO_no h]
    by_cases h0 : x.up = y.up
    case neg => simp [h0]
    by_cases h1 : x.down = y.down
    case neg => simp [h1, h0]
    by_cases h2 : x.ups = y.ups
    case neg => simp [h2, h0, h1]
    by_cases h3 : x.downs = y.downs
    case neg => simp [h3, h0, h1, h2]
    exact absurd (by cases x; cases y; simp_all) h


set_option maxHeartbeats 1000000 in
theorem equal_met {v v' : Value} {xs ys : List Met} {F F' : List Nat} (w : World) (hs : MetsAt w v xs F) (hs' : MetsAt w v' ys F') :
    Calls Tryz.prog 130 #[v, v'] w fun e w' => e = .returned (.bool (sameO xs ys)) ∧ ∃ q, w' = w.drewN q := by
  obtain ⟨o, cap, b, off, rfl, hlc, hcm, ho, -, hcell, -⟩ := hs
  obtain ⟨o', cap', b', off', rfl, hlc', hcm', ho', -, hcell', -⟩ := hs'
  have HC := Lib.hid hcell
  have HO := Lib.hid ho
  have HC' := Lib.hid hcell'
  have HO' := Lib.hid ho'
  clear hcell ho hcell' ho'
  unfold maxLen at hcm hcm'
  by_cases hl : xs.length = ys.length
  · have HE := Lib.hid hl
    rw [← hl]
    clear hl
    rw [← HE.out] at hlc'
    go_enter Tryz.func130, Tryz.ntmps130
    go_wp2
    go_loopw [13] (fun i wr => ∃ k : Nat, k ≤ xs.length ∧ i = .int .i64 k ∧ Hid (xs.take k = ys.take k) ∧ ∃ q, wr = w.drewN q) (fun i _ => xs.length - (intOf i).toNat)
    case atStart => exact ⟨0, Nat.zero_le _, rfl, rfl, 0, rfl⟩
    case round =>
      obtain ⟨k, hk, rfl, hr, hq⟩ := hrel
      have HQ := Lib.hid hq
      have hb : Below w.heap.size w wr := by obtain ⟨q, rfl⟩ := hq; exact below_drewO (Below.refl _ _) q
      clear hq
      by_cases hlt : k < xs.length
      · have l2 : k < ys.length := by rw [← HE.out]; exact hlt
        have c0 : wr.cell? ⟨b, off + k * 3, none⟩ = some (.string xs[k].name) := by
          have := (HC.out k hlt).2 0 (by decide)
          rw [hb.cell (by exact World.block_lt_of_cell? _ _ this)]; exact this
        have c1 : wr.cell? ⟨b, off + k * 3 + 1, none⟩ = some (.int .i64 xs[k].kind) := by
          have := (HC.out k hlt).2 1 (by decide)
          rw [hb.cell (by exact World.block_lt_of_cell? _ _ this)]; exact this
        have c2 : wr.cell? ⟨b, off + k * 3 + 2, none⟩ = some (.int .i64 xs[k].goal) := by
          have := (HC.out k hlt).2 2 (by decide)
          rw [hb.cell (by exact World.block_lt_of_cell? _ _ this)]; exact this
        have d0 : wr.cell? ⟨b', off' + k * 3, none⟩ = some (.string ys[k].name) := by
          have := (HC'.out k l2).2 0 (by decide)
          rw [hb.cell (by exact World.block_lt_of_cell? _ _ this)]; exact this
        have d1 : wr.cell? ⟨b', off' + k * 3 + 1, none⟩ = some (.int .i64 ys[k].kind) := by
          have := (HC'.out k l2).2 1 (by decide)
          rw [hb.cell (by exact World.block_lt_of_cell? _ _ this)]; exact this
        have d2 : wr.cell? ⟨b', off' + k * 3 + 2, none⟩ = some (.int .i64 ys[k].goal) := by
          have := (HC'.out k l2).2 2 (by decide)
          rw [hb.cell (by exact World.block_lt_of_cell? _ _ this)]; exact this
        have ho := HO.out (by omega)
        have ho' := HO'.out (by omega)
        subst ho ho'
        clear hb
        have hne := neq_met xs[k] ys[k]
        have hgd := fun op a b' (x y : Array Value) w => run_eqGuard_agg (P := Tryz.prog) w op 95 a b' x y (by kernel_rfl)
        by_cases he : xs[k] = ys[k]
        · have HR := Lib.hid (takeO_step hr.out hlt l2 he)
          rw [sameO_yes he] at hne
          clear he
          generalize hx : xs[k] = x at *
          generalize hy : ys[k] = y at *
          clear hx hy
          go_wp2
          go_quiet (fail)
          go_wp2
          exact ⟨⟨k + 1, by omega, by go_num, HR.out, by obtain ⟨q, rfl⟩ := HQ.out; exact ⟨_, drewO_drew _ _ _⟩⟩, by simp [intOf]; omega⟩
        · have HR := Lib.hid (neO_at hlt l2 he)
          rw [sameO_no he] at hne
          clear he
          generalize hx : xs[k] = x at *
          generalize hy : ys[k] = y at *
          clear hx hy
          go_wp2
          go_quiet (fail)
          go_wp2
          go_ret
          refine ⟨?_, by obtain ⟨q, rfl⟩ := HQ.out; exact ⟨_, drewO_drew _ _ _⟩⟩
          rw [sameO_no HR.out]
          rfl
      · have HR := Lib.hid (takeO_end hr.out hlt HE.out)
        go_wp2
        go_ret
        refine ⟨?_, HQ.out⟩
        rw [sameO_yes HR.out]
        rfl
  · have hl' : ¬ ((xs.length : Int) = ys.length) := by omega
    go_enter Tryz.func130, Tryz.ntmps130
    go_wp2
    go_ret
    refine ⟨?_, 0, rfl⟩
    rw [sameO_no (fun h => hl (by rw [h]))]
    rfl


set_option maxHeartbeats 1000000 in
theorem equal_not {v v' : Value} {xs ys : List Not} {F F' : List Nat} (w : World) (hs : NotsAt w v xs F) (hs' : NotsAt w v' ys F') :
    Calls Tryz.prog 135 #[v, v'] w fun e w' => e = .returned (.bool (sameO xs ys)) ∧ ∃ q, w' = w.drewN q := by
  obtain ⟨o, cap, b, off, rfl, hlc, hcm, ho, -, hcell, -⟩ := hs
  obtain ⟨o', cap', b', off', rfl, hlc', hcm', ho', -, hcell', -⟩ := hs'
  have HC := Lib.hid hcell
  have HO := Lib.hid ho
  have HC' := Lib.hid hcell'
  have HO' := Lib.hid ho'
  clear hcell ho hcell' ho'
  unfold maxLen at hcm hcm'
  by_cases hl : xs.length = ys.length
  · have HE := Lib.hid hl
    rw [← hl]
    clear hl
    rw [← HE.out] at hlc'
    go_enter Tryz.func135, Tryz.ntmps135
    go_wp2
    go_loopw [13] (fun i wr => ∃ k : Nat, k ≤ xs.length ∧ i = .int .i64 k ∧ Hid (xs.take k = ys.take k) ∧ ∃ q, wr = w.drewN q) (fun i _ => xs.length - (intOf i).toNat)
    case atStart => exact ⟨0, Nat.zero_le _, rfl, rfl, 0, rfl⟩
    case round =>
      obtain ⟨k, hk, rfl, hr, hq⟩ := hrel
      have HQ := Lib.hid hq
      have hb : Below w.heap.size w wr := by obtain ⟨q, rfl⟩ := hq; exact below_drewO (Below.refl _ _) q
      clear hq
      by_cases hlt : k < xs.length
      · have l2 : k < ys.length := by rw [← HE.out]; exact hlt
        have c0 : wr.cell? ⟨b, off + k * 2, none⟩ = some (.string xs[k].key) := by
          have := (HC.out k hlt).2 0 (by decide)
          rw [hb.cell (by exact World.block_lt_of_cell? _ _ this)]; exact this
        have c1 : wr.cell? ⟨b, off + k * 2 + 1, none⟩ = some (.string xs[k].text) := by
          have := (HC.out k hlt).2 1 (by decide)
          rw [hb.cell (by exact World.block_lt_of_cell? _ _ this)]; exact this
        have d0 : wr.cell? ⟨b', off' + k * 2, none⟩ = some (.string ys[k].key) := by
          have := (HC'.out k l2).2 0 (by decide)
          rw [hb.cell (by exact World.block_lt_of_cell? _ _ this)]; exact this
        have d1 : wr.cell? ⟨b', off' + k * 2 + 1, none⟩ = some (.string ys[k].text) := by
          have := (HC'.out k l2).2 1 (by decide)
          rw [hb.cell (by exact World.block_lt_of_cell? _ _ this)]; exact this
        have ho := HO.out (by omega)
        have ho' := HO'.out (by omega)
        subst ho ho'
        clear hb
        have hne := neq_not xs[k] ys[k]
        have hgd := fun op a b' (x y : Array Value) w => run_eqGuard_agg (P := Tryz.prog) w op 97 a b' x y (by kernel_rfl)
        by_cases he : xs[k] = ys[k]
        · have HR := Lib.hid (takeO_step hr.out hlt l2 he)
          rw [sameO_yes he] at hne
          clear he
          generalize hx : xs[k] = x at *
          generalize hy : ys[k] = y at *
          clear hx hy
          go_wp2
          go_quiet (fail)
          go_wp2
          exact ⟨⟨k + 1, by omega, by go_num, HR.out, by obtain ⟨q, rfl⟩ := HQ.out; exact ⟨_, drewO_drew _ _ _⟩⟩, by simp [intOf]; omega⟩
        · have HR := Lib.hid (neO_at hlt l2 he)
          rw [sameO_no he] at hne
          clear he
          generalize hx : xs[k] = x at *
          generalize hy : ys[k] = y at *
          clear hx hy
          go_wp2
          go_quiet (fail)
          go_wp2
          go_ret
          refine ⟨?_, by obtain ⟨q, rfl⟩ := HQ.out; exact ⟨_, drewO_drew _ _ _⟩⟩
          rw [sameO_no HR.out]
          rfl
      · have HR := Lib.hid (takeO_end hr.out hlt HE.out)
        go_wp2
        go_ret
        refine ⟨?_, HQ.out⟩
        rw [sameO_yes HR.out]
        rfl
  · have hl' : ¬ ((xs.length : Int) = ys.length) := by omega
    go_enter Tryz.func135, Tryz.ntmps135
    go_wp2
    go_ret
    refine ⟨?_, 0, rfl⟩
    rw [sameO_no (fun h => hl (by rw [h]))]
    rfl

end Go.Proofs.YtfgfgmbifdojcaaGreatDoor

/- plain facts on texts that may be written as they are: 1 to 60 bytes, a letter first, then letters, digits and four signs; none of three words. -/
namespace Go.Proofs.YtfgfgmbifdojcaaGreatDoor
open Go Go.RowKit

def isLet (b : UInt8) : Bool := (decide (97 ≤ b.toNat) && decide (b.toNat ≤ 122)) || (decide (65 ≤ b.toNat) && decide (b.toNat ≤ 90))
def isDig (b : UInt8) : Bool := decide (48 ≤ b.toNat) && decide (b.toNat ≤ 57)
def isSgn (b : UInt8) : Bool := decide (b = 95 ∨ b = 46 ∨ b = 47 ∨ b = 45)
def okP (b : UInt8) : Bool := isLet b || (isDig b || isSgn b)
/-- A letter first, then what may stand behind one. -/
def goodL : List UInt8 → Bool
  | [] => true
  | b :: l => isLet b && l.all okP
def noWord (s : ByteArray) : Bool := ((!s.toList == [110, 117, 108, 108]) && (!s.toList == [116, 114, 117, 101])) && (!s.toList == [102, 97, 108, 115, 101])
def plainB (s : ByteArray) : Bool := (decide (1 ≤ s.size ∧ s.size ≤ 60) && goodL s.data.toList) && noWord s

theorem okP_let {b : UInt8} (h : isLet b = true) : okP b = true := by simp [okP, h]

theorem goodL_snoc (l : List UInt8) (b : UInt8) : goodL (l ++ [b]) = (goodL l && (if l.length = 0 then isLet b else okP b)) := by
  cases l with
  | nil => simp [goodL]
  | cons x l => simp [goodL, Bool.and_assoc]

theorem take_snoc (s : ByteArray) (k : Nat) (h : k < s.size) : s.data.toList.take (k + 1) = s.data.toList.take k ++ [s[k]] := by
  rw [List.take_succ_eq_append_getElem (by simpa using h)]; rfl

theorem goodL_step {s : ByteArray} {k : Nat} (hk : k < s.size) : goodL (s.data.toList.take (k + 1)) = (goodL (s.data.toList.take k) && (if k = 0 then isLet s[k] else okP s[k])) := by
  have hl : (s.data.toList.take k).length = k := by rw [List.length_take]; have : s.data.toList.length = s.size := by simp
                                                    omega
  rw [take_snoc s k hk, goodL_snoc, hl]

theorem goodL_pre {l : List UInt8} : ∀ {m : List UInt8}, goodL (l ++ m) = true → goodL l = true := by
  intro m h
  cases l with
  | nil => rfl
  | cons x l =>
    simp only [List.cons_append, goodL, Bool.and_eq_true, List.all_append] at h ⊢
    exact ⟨h.1, h.2.1⟩

theorem goodL_bad {s : ByteArray} {k : Nat} (h : goodL (s.data.toList.take (k + 1)) = false) : plainB s = false := by
  have : goodL s.data.toList = false := by
    rcases Bool.eq_false_or_eq_true (goodL s.data.toList) with h1 | h1
    · exfalso
      rw [← List.take_append_drop (k + 1) s.data.toList] at h1
      rw [goodL_pre h1] at h
      cases h
    · exact h1
  simp [plainB, this]

theorem goodL_end {s : ByteArray} {k : Nat} (hk : ¬ k < s.size) : s.data.toList.take k = s.data.toList :=
  List.take_of_length_le (by simp only [Array.length_toList]; have : s.size = s.data.size := rfl; omega)

theorem sgn_index (b : UInt8) : (Lib.indexByte [95, 46, 47, 45] ((b.toNat : Int).toNat.toUInt8) < 0) = (isSgn b = false) := by
  have e : (b.toNat : Int).toNat.toUInt8 = b := by simp
  rw [e]
  by_cases h1 : b = 95
  · subst h1; decide
  by_cases h2 : b = 46
  · subst h2; decide
  by_cases h3 : b = 47
  · subst h3; decide
  by_cases h4 : b = 45
  · subst h4; decide
  have e1 : ((95 : UInt8) == b) = false := by simpa using fun h => h1 h.symm
  have e2 : ((46 : UInt8) == b) = false := by simpa using fun h => h2 h.symm
  have e3 : ((47 : UInt8) == b) = false := by simpa using fun h => h3 h.symm
  have e4 : ((45 : UInt8) == b) = false := by simpa using fun h => h4 h.symm
  simp [Lib.indexByte, e1, e2, e3, e4, isSgn, h1, h2, h3, h4]
end Go.Proofs.YtfgfgmbifdojcaaGreatDoor

/- plain facts on names: 1 to 20 bytes, a small letter first, then small letters, digits and the sign 45. -/
namespace Go.Proofs.YtfgfgmbifdojcaaGreatDoor
open Go Go.RowKit

def isSml (b : UInt8) : Bool := decide (97 ≤ b.toNat) && decide (b.toNat ≤ 122)
def okN (b : UInt8) : Bool := isSml b || (isDig b || decide (b = 45))
/-- A small letter first, then what may stand behind one. -/
def nameL : List UInt8 → Bool
  | [] => true
  | b :: l => isSml b && l.all okN
def nameB (s : ByteArray) : Bool := decide (1 ≤ s.size ∧ s.size ≤ 20) && nameL s.data.toList

theorem okN_sml {b : UInt8} (h : isSml b = true) : okN b = true := by simp [okN, h]

theorem nameL_snoc (l : List UInt8) (b : UInt8) : nameL (l ++ [b]) = (nameL l && (if l.length = 0 then isSml b else okN b)) := by
  cases l with
  | nil => simp [nameL]
  | cons x l => simp [nameL, Bool.and_assoc]

theorem nameL_step {s : ByteArray} {k : Nat} (hk : k < s.size) : nameL (s.data.toList.take (k + 1)) = (nameL (s.data.toList.take k) && (if k = 0 then isSml s[k] else okN s[k])) := by
  have hl : (s.data.toList.take k).length = k := by rw [List.length_take]; have : s.data.toList.length = s.size := by simp
                                                    omega
  rw [take_snoc s k hk, nameL_snoc, hl]

theorem nameL_pre {l : List UInt8} : ∀ {m : List UInt8}, nameL (l ++ m) = true → nameL l = true := by
  intro m h
  cases l with
  | nil => rfl
  | cons x l =>
    simp only [List.cons_append, nameL, Bool.and_eq_true, List.all_append] at h ⊢
    exact ⟨h.1, h.2.1⟩

theorem nameL_bad {s : ByteArray} {k : Nat} (h : nameL (s.data.toList.take (k + 1)) = false) : nameB s = false := by
  have : nameL s.data.toList = false := by
    rcases Bool.eq_false_or_eq_true (nameL s.data.toList) with h1 | h1
    · exfalso
      rw [← List.take_append_drop (k + 1) s.data.toList] at h1
      rw [nameL_pre h1] at h
      cases h
    · exact h1
  simp [nameB, this]
end Go.Proofs.YtfgfgmbifdojcaaGreatDoor
