/-
  What is proved: what a text's builder holds, and what WriteString and String make of it.; the program's Indented, at every tree: empty when it is not right; else the lines that it is written as; condition: the library's table of powers of ten.
-/
import Derived.Test.YtmcjghhmcmkomaaGreatDoorPartAV
import Derived.Test.YtmcjghhmcmkomaaGreatDoorPartBB
/- what a text's builder holds, and what WriteString and String make of it. -/
namespace Go.Proofs.YtmcjghhmcmkomaaGreatDoor
open Go Go.RowKit Go.Shelf

/-- Since w0 a builder was made in the block b, which holds these bytes; what w0 has is as it was. -/
structure Bd (w0 : World) (b : Nat) (l : List UInt8) (w : World) : Prop where
  below : Below w0.heap.size w0 w
  bld : Lib.IsBuilderF 46 5 w0.heap.size b (Lib.byteCells l) w

/-- All but the builder, and rows of bytes, is as it was. -/
abbrev Kept (b : Nat) (w w' : World) : Prop := Lib.OthersKept 5 (some b) w w'

theorem kept_below {b : Nat} {w w1 : World} (hb : Below w.heap.size w w1) : Kept b w w1 := fun k _ hk _ _ =>
  (hb.block k (Array.getElem?_eq_some_iff.1 hk).1).trans hk

theorem Bd.lt {w0 w : World} {b : Nat} {l : List UInt8} (h : Bd w0 b l w) : b < w.heap.size := by
  rcases h.bld with h | h
  · exact h.lt
  · exact h.lt

theorem bld_on {B b : Nat} {p : Value} {bs : List Value} {w w1 : World} (h : Lib.BuilderAtF 46 5 B b p bs w) (hb : Below w.heap.size w w1) : Lib.BuilderAtF 46 5 B b p bs w1 := by
  have hlt := h.lt
  obtain ⟨h1, v, h2, h3, h4⟩ := h
  refine ⟨h1, v, (hb.block b hlt).trans h2, World.ownsRowF.kept (row := none) h3 ⟨hb.os, hb.tape, hb.output, hb.size, fun k hk _ => hb.block k hk⟩ ?_, h4⟩
  rcases v.ownBlock with _ | k
  · exact .inl rfl
  · exact .inr (by simp)

theorem Bd.on {w0 w w1 : World} {b : Nat} {l : List UInt8} (h : Bd w0 b l w) (hb : Below w.heap.size w w1) : Bd w0 b l w1 where
  below := h.below.trans (hb.mono h.below.size)
  bld := h.bld.elim (fun x => .inl (bld_on x hb)) (fun x => .inr (bld_on x hb))

theorem bld_write {w0 w : World} {b : Nat} {l : List UInt8} (h : Bd w0 b l w) (s : ByteArray) (hl : l.length + s.size ≤ 100000000000) :
    Calls Tryz.prog 55 #[.pointer (some ⟨b, 0, none⟩), .string s] w fun e w' => e = .returned (.tuple #[.int .i64 s.size, .nilIface]) ∧ Bd w0 b (l ++ s.data.toList) w' ∧ Kept b w w' := by
  refine (Any.Builder_WriteString_k (ρ := Tryz.lays156_ren) { Tryz.lays156 with } Tryz.Builder_Extra_156 w0.heap.size b (Lib.byteCells l) s w h.bld (by rw [Lib.byteCells_length]; omega) h.below.size).mono ?_
  rintro e w' ⟨rfl, h1, h2, h3⟩
  exact ⟨rfl, ⟨h.below.trans h2, .inr (by rw [Lib.byteCells_append, ← Lib.strCells_eq]; exact h1)⟩, h3⟩

theorem bld_string {w0 w : World} {b : Nat} {l : List UInt8} (h : Bd w0 b l w) :
    Calls Tryz.prog 27 #[.pointer (some ⟨b, 0, none⟩)] w fun e w' => e = .returned (.string ⟨l.toArray⟩) ∧ Below w0.heap.size w0 w' := by
  refine (Tryz.Builder_String_any_k w0.heap.size b l w h.bld h.below.size).mono ?_
  rintro e w' ⟨rfl, h1, h2, h3⟩
  exact ⟨rfl, h.below.trans h2⟩

/-- A node's block is kept. -/
theorem kept_node {b k : Nat} {w w' : World} {cs : Array Value} {fz : Nat × Nat} (h : Kept b w w') (hk : w.heap[k]? = some (.cells cs 27 fz)) (hb : k ≠ b) : w'.heap[k]? = some (.cells cs 27 fz) :=
  h k _ hk (by simpa using hb) (by intro c fz' e; injection e with _ e2 _; exact absurd e2 (by decide))

/-- A builder that was made just now. -/
theorem Bd.start (w0 w : World) (hb : Below w0.heap.size w0 w) : Bd w0 w.heap.size [] (w.alloc (.cells #[.pointer none, .slice none 0 0] 46)) where
  below := hb.alloc hb.size _
  bld := .inl ⟨hb.size, .slice none 0 0, heap_last _ _, World.ownsRowF_nil _ _ _ _, by simp [Value.ownBlock]⟩
end Go.Proofs.YtmcjghhmcmkomaaGreatDoor

/- the program's Indented, at every tree: empty when it is not right; else the lines that it is written as; condition: the library's table of powers of ten. -/
namespace Go.Proofs.YtmcjghhmcmkomaaGreatDoor
open Go Go.RowKit

/-- What a Key is written as in lines. -/
def keyT (s : ByteArray) : ByteArray := ⟨(keyL s).toArray⟩

set_option maxHeartbeats 400000 in
theorem impl_keyText (s : ByteArray) (hm : s.size ≤ maxLen) (w : World) :
    Calls Tryz.prog 56 #[.string s] w fun e w' => e = .returned (.string (keyT s)) ∧ Below w.heap.size w w' := by
  have HP := Lib.hid (impl_plainOk s hm)
  have HQ := Lib.hid (impl_quote s hm)
  by_cases hp : plainB s = true
  · have HE : Hid (keyT s = s) := by show _ = _; unfold keyT keyL; rw [if_pos hp]
    rw [hp] at HP
    clear hp
    go_enter Tryz.func56, Tryz.ntmps56
    go_wp2_with (first
      | (go_at_call 54; refine (HP.out _).mono ?_; rintro e w2 ⟨rfl, e2⟩; subst e2)
      | fail)
    go_ret
    exact ⟨by rw [HE.out]; rfl, Below.refl _ _⟩
  · have hp' : plainB s = false := by simpa using hp
    have HE : Hid (keyT s = quoteT s) := by show _ = _; unfold keyT keyL; rw [if_neg hp]
    rw [hp'] at HP
    rw [← HE.out] at HQ
    clear hp hp'
    go_enter Tryz.func56, Tryz.ntmps56
    go_wp2_with (first
      | (go_at_call 54; refine (HP.out _).mono ?_; rintro e w2 ⟨rfl, e2⟩; subst e2)
      | (go_at_call 40; refine (HQ.out _).mono ?_; rintro e w3 ⟨rfl, hb3⟩; have HB := Lib.hid hb3; clear hb3)
      | fail)
    go_ret
    exact ⟨rfl, HB.out⟩

set_option maxRecDepth 100000 in
set_option maxHeartbeats 400000 in
theorem impl_inline (T : RT) (w : World) (kv dv : Value) (F : List Nat) (hl : Lies w T kv dv F) (hok : treeOk T = true) (ht : Tab w) :
    Calls Tryz.prog 25 #[.agg #[.int .i64 T.k, .int .i64 T.n, .string T.s, kv, dv]] w fun e w' => e = .returned (.string (inlT T)) ∧ Below w.heap.size w w' := by
  have HX := Lib.hid (Box.start w (.int .i64 T.k) (.int .i64 T.n) (.string T.s) kv dv 27)
  have HT := Lib.hid (fun wr hb => impl_braced T wr kv dv F (hl.stay hb (Nat.le_refl _)) (Lib.tabBelow_of_tabIs ht _ hb))
  have HP := Lib.hid (impl_plainOk T.s hl.out.2.2.1)
  obtain ⟨⟨o1, c1, rfl⟩, ⟨o2, c2, rfl⟩⟩ := hl.slices
  have HBT : Hid (bracT T = ⟨T.brac.toArray⟩) := if_pos hok
  clear hl hok ht
  by_cases hk : T.k = 3
  · have e3 : (T.k == 3) = true := by simp [hk]
    by_cases hp : plainB T.s = true
    · have HE : Hid (inlT T = T.s) := by
        show _ = _
        unfold inlT inlL
        rw [if_pos ⟨hk, hp⟩]
      rw [hp] at HP
      clear hk hp
      go_enter Tryz.func25, Tryz.ntmps25
      go_wp2_with (first
        | (go_at_call 54; refine (HP.out _).mono ?_; rintro e w2 ⟨rfl, e2⟩; subst e2)
        | fail)
      go_ret
      exact ⟨by rw [HE.out]; rfl, HX.out.below⟩
    · have hp' : plainB T.s = false := by simpa using hp
      have HE : Hid (inlT T = bracT T) := by
        show _ = _
        unfold inlT inlL
        rw [if_neg (fun h => hp h.2), HBT.out]
      rw [hp'] at HP
      rw [← HE.out] at HT
      clear hk hp hp' HBT HE
      go_enter Tryz.func25, Tryz.ntmps25
      go_wp2_with (first
        | (go_at_call 54; refine (HP.out _).mono ?_; rintro e w2 ⟨rfl, e2⟩; subst e2)
        | (go_at_call 7; refine (HT.out _ HX.out.below).mono ?_; rintro e w3 ⟨rfl, hb3⟩; have HX3 := Lib.hid (HX.out.next hb3); clear hb3)
        | fail)
      go_ret
      exact ⟨rfl, HX3.out.below⟩
  · have e3 : (T.k == 3) = false := by simp [hk]
    have HE : Hid (inlT T = bracT T) := by
      show _ = _
      unfold inlT inlL
      rw [if_neg (fun h => hk h.1), HBT.out]
    rw [← HE.out] at HT
    clear hk HBT HE
    go_enter Tryz.func25, Tryz.ntmps25
    go_wp2_with (first
      | (go_at_call 7; refine (HT.out _ HX.out.below).mono ?_; rintro e w3 ⟨rfl, hb3⟩; have HX3 := Lib.hid (HX.out.next hb3); clear hb3)
      | fail)
    go_ret
    exact ⟨rfl, HX3.out.below⟩

/-- A frame's state: the builder, what is kept since the frame began, the frame's own node. -/
structure Fr (w0 w : World) (b : Nat) (l : List UInt8) (a0 a1 a2 a3 a4 : Value) (wr : World) : Prop where
  bd : Bd w0 b l wr
  kept : Kept b w wr
  box : wr.heap[w.heap.size]? = some (.cells #[a0, a1, a2, a3, a4] 27 (0, 0))
  ne : b < w.heap.size

theorem Fr.start {w0 w : World} {b : Nat} {l : List UInt8} (h : Bd w0 b l w) (a0 a1 a2 a3 a4 : Value) : Fr w0 w b l a0 a1 a2 a3 a4 (w.alloc (.cells #[a0, a1, a2, a3, a4] 27)) where
  bd := h.on ((Below.refl _ w).alloc (Nat.le_refl _) _)
  kept := kept_below ((Below.refl _ w).alloc (Nat.le_refl _) _)
  box := heap_last _ _
  ne := h.lt

section
variable {w0 w wr w1 : World} {b : Nat} {l l' : List UInt8} {a0 a1 a2 a3 a4 : Value}

theorem Fr.on (h : Fr w0 w b l a0 a1 a2 a3 a4 wr) (hb : Below wr.heap.size wr w1) : Fr w0 w b l a0 a1 a2 a3 a4 w1 where
  bd := h.bd.on hb
  kept := h.kept.trans (kept_below hb)
  box := kept_node (b := b) (kept_below hb) h.box (by have := h.ne; omega)
  ne := h.ne

theorem Fr.step (h : Fr w0 w b l a0 a1 a2 a3 a4 wr) (hd : Bd w0 b l' w1) (hk : Kept b wr w1) : Fr w0 w b l' a0 a1 a2 a3 a4 w1 where
  bd := hd
  kept := h.kept.trans hk
  box := kept_node hk h.box (by have := h.ne; omega)
  ne := h.ne

theorem Fr.cells (h : Fr w0 w b l a0 a1 a2 a3 a4 wr) : wr.cell? ⟨w.heap.size, 0, none⟩ = some a0 ∧ wr.cell? ⟨w.heap.size, 3, none⟩ = some a3 ∧ wr.cell? ⟨w.heap.size, 4, none⟩ = some a4 :=
  ⟨(five h.box).1, (five h.box).2.2.2.1, (five h.box).2.2.2.2.1⟩

theorem Fr.lt (h : Fr w0 w b l a0 a1 a2 a3 a4 wr) : b < wr.heap.size := h.bd.lt
end

def IndAt (T : RT) : Prop := ∀ (w0 w : World) (kv dv : Value) (F : List Nat) (bl : ByteArray) (d b : Nat) (l : List UInt8), Lies w0 T kv dv F → Tab w0 → treeOk T = true → Bl bl d → d + 2 * T.size ≤ 1000 → T.k = 4 ∨ T.k = 5 → l.length + 8000 * T.size ≤ 1000000000 → Bd w0 b l w →
  Calls Tryz.prog 26 #[.pointer (some ⟨b, 0, none⟩), .agg #[.int .i64 T.k, .int .i64 T.n, .string T.s, kv, dv], .string bl] w fun e w' => e = .returned (.tuple #[]) ∧ Bd w0 b (l ++ T.lines d) w' ∧ Kept b w w'

theorem linesAll_le_take {k n : Int} {s : ByteArray} {keys : List ByteArray} {kids : List RT} {d : Nat} (hr : (RT.node k n s keys kids).right = true) (hd : d + 2 * (RT.node k n s keys kids).size ≤ 1000) (j : Nat) : (linesAll k keys (kids.take j) d).length ≤ 4000 * sizeAll (kids.take j) := by
  have hs : (RT.node k n s keys kids).size = sizeAll kids + 1 := rfl
  rw [hs] at hd
  refine linesAll_le k d (by omega) keys (kids.take j) fun t ht => ?_
  have ht' := List.mem_of_mem_take ht
  have hrt := right_kid hr (show t ∈ (RT.node k n s keys kids).kids from ht')
  have := kid_size_le ht'
  exact ⟨hrt, lines_le t (d + 2) hrt (by omega)⟩

theorem one_size (c : UInt8) : (⟨#[c]⟩ : ByteArray).size = 1 := rfl

set_option maxRecDepth 100000 in
set_option maxHeartbeats 2000000 in
theorem indent4 (n : Int) (s : ByteArray) (keys : List ByteArray) (kids : List RT) (ih : ∀ t ∈ kids, IndAt t) (w0 w : World) (kv dv : Value) (FD : List Nat) (hkv : ∃ o c, kv = .slice o keys.length c) (hD : KidsLie w0 dv kids FD) (bl : ByteArray) (d b : Nat) (l : List UInt8) (ht : Tab w0) (hok0 : treeOk (RT.node 4 n s keys kids) = true) (hbl0 : Bl bl d) (hd0 : d + 2 * (RT.node 4 n s keys kids).size ≤ 1000) (hl0 : l.length + 8000 * (RT.node 4 n s keys kids).size ≤ 1000000000) (hbd : Bd w0 b l w) :
    Calls Tryz.prog 26 #[.pointer (some ⟨b, 0, none⟩), .agg #[.int .i64 4, .int .i64 n, .string s, kv, dv], .string bl] w fun e w' => e = .returned (.tuple #[]) ∧ Bd w0 b (l ++ (RT.node 4 n s keys kids).lines d) w' ∧ Kept b w w' := by
  have hok := Lib.hid hok0
  have hbl := Lib.hid hbl0
  have HTab := Lib.hid (Lib.tabBelow_of_tabIs ht)
  have HT0 := Lib.hid ht
  have HBL : Hid (bl.data.toList = List.replicate d 32) := hbl0
  have hr := (treeOk_parts hok0).2.2
  have HT := Lib.hid (fun i => Nat.le_trans (linesAll_le_take hr hd0 i) (Nat.le_refl _))
  have hd : d + 2 * (sizeAll kids + 1) ≤ 1000 := hd0
  have hbz : bl.size ≤ 1000 := by rw [hbl0.size]; omega
  have hsz200 : sizeAll kids + 1 ≤ 200 := (treeOk_parts hok0).2.1
  have hl : l.length + 8000 * (sizeAll kids + 1) ≤ 1000000000 := hl0
  have HLN : Hid ((RT.node 4 n s keys kids).lines d = linesAll 4 keys kids d) := by show _ = _; rw [RT.lines]
  generalize (RT.node 4 n s keys kids).lines d = LN at *
  clear hok0 hbl0 hd0 hr hl0 ht
  obtain ⟨o, cap, bb, off, FF, KV, DV, rfl, hlc, hcm, ho, -, hcell, hlies, -⟩ := hD
  obtain ⟨ko, kcap, rfl⟩ := hkv
  have HX := Lib.hid (Fr.start hbd (.int .i64 4) (.int .i64 n) (.string s) (.slice ko keys.length kcap) (.slice o kids.length cap))
  have HC := Lib.hid hcell
  have HL := Lib.hid hlies
  have HO := Lib.hid ho
  clear hcell hlies ho hbd
  unfold maxLen at hcm
  go_enter Tryz.func26, Tryz.ntmps26
  go_wp2
  go_loopw [11] (fun q wr => ∃ j : Nat, j ≤ kids.length ∧ q = .int .i64 j ∧ Hid (Fr w0 w b (l ++ linesAll 4 keys (kids.take j) d) (.int .i64 4) (.int .i64 n) (.string s) (.slice ko keys.length kcap) (.slice o kids.length cap) wr)) (fun q _ => kids.length - (intOf q).toNat)
  case atStart => exact ⟨0, Nat.zero_le _, rfl, Lib.hid (by have := HX.out; simpa [linesAll] using this)⟩
  case round =>
    obtain ⟨j, hj, rfl, HF⟩ := hrel
    obtain ⟨x0, x3, x4⟩ := HF.out.cells
    by_cases hlt : j < kids.length
    · have ho := HO.out (by omega)
      subst ho
      have hlt' : (j : Int) < kids.length := by omega
      obtain ⟨c0, c1, c2, c3, c4⟩ := kid_cells (HC.out j hlt) HF.out.bd.below
      have HN : Hid (linesAll 4 keys (kids.take (j + 1)) d = linesAll 4 keys (kids.take j) d ++ lineOf 4 ⟨#[]⟩ kids[j] d) := linesAll_take 4 d keys kids j hlt
      have HCJ := Lib.hid (HC.out j hlt)
      obtain ⟨⟨o1, q1, s1⟩, ⟨o2, q2, s2⟩⟩ := (HL.out j hlt).slices
      have hmem : kids[j] ∈ kids := List.getElem_mem hlt
      have HOk : Hid (treeOk kids[j] = true) := treeOk_kid hok.out (show kids[j] ∈ (RT.node 4 n s keys kids).kids from hmem)
      have hzj := kid_size_le hmem
      have HTJ := HT.out j
      have hzt : sizeAll (kids.take j) + kids[j].size ≤ sizeAll kids := by
        have e1 := sizeAll_take kids j hlt
        have e2 := sizeAll_take_le kids (j + 1)
        omega
      have HKk : Hid (kids[j].kids.length ≠ 0 → kids[j].k = 4 ∨ kids[j].k = 5) := kind_of_kids (treeOk_parts HOk.out).2.2
      have HWr : Hid (kids[j].kids.length ≠ 0 → ∀ (l1 : List UInt8) (w1 : World), l1.length ≤ l.length + 4000 * sizeAll (kids.take j) + 2000 → Bd w0 b l1 w1 → Calls Tryz.prog 26 #[.pointer (some ⟨b, 0, none⟩), .agg #[.int .i64 kids[j].k, .int .i64 kids[j].n, .string kids[j].s, KV j, DV j], .string (bl ++ ⟨#[32, 32]⟩)] w1 fun e w' => e = .returned (.tuple #[]) ∧ Bd w0 b (l1 ++ kids[j].lines (d + 2)) w' ∧ Kept b w1 w') := fun h0 l1 w1 hl1 hb1 => ih _ hmem w0 w1 _ _ _ _ _ _ _ (HL.out j hlt) HT0.out HOk.out hbl.out.more (by omega) (HKk.out h0) (by omega) hb1
      have HInl : Hid (∀ w1 : World, Below w0.heap.size w0 w1 → Calls Tryz.prog 25 #[.agg #[.int .i64 kids[j].k, .int .i64 kids[j].n, .string kids[j].s, KV j, DV j]] w1 fun e w' => e = .returned (.string (inlT kids[j])) ∧ Below w1.heap.size w1 w') := fun w1 hb1 => impl_inline _ w1 _ _ _ ((HL.out j hlt).stay hb1 (Nat.le_refl _)) HOk.out (HTab.out _ hb1)
      have HLz : Hid ((inlL kids[j]).length ≤ 400000) := by
        have h2 := inlL_length (treeOk_parts HOk.out).2.2
        show _ ≤ _
        omega
      have HTk : Hid ((l ++ linesAll 4 keys (kids.take j) d).length ≤ l.length + 4000 * sizeAll (kids.take j)) := by
        show _ ≤ _
        rw [List.length_append]
        omega
      have hlz : l.length + 4000 * sizeAll (kids.take j) ≤ 1000000000 := by omega
      clear hzj hmem HOk HTJ hzt
      generalize sizeAll (kids.take j) = zj at *
      generalize hLL : l ++ linesAll 4 keys (kids.take j) d = LL at *
      have HLL := Lib.hid hLL
      clear hLL
      generalize kids[j] = x at *
      generalize KV j = v1 at *
      generalize DV j = v2 at *
      subst s1 s2
      have HA : Hid (∀ ob, Below wr.heap.size wr (wr.alloc ob)) := fun ob => (Below.refl _ _).alloc (Nat.le_refl _) _
      have HKb := Lib.hid (heap_last wr (.cells #[.int .i64 x.k, .int .i64 x.n, .string x.s, .slice o1 x.keys.length q1, .slice o2 x.kids.length q2] 27))
      have hbw : wr.heap.size ≠ b := by have := HF.out.lt; omega
      have HNe := Lib.hid hbw
      clear hbw
      by_cases hx0 : x.kids.length = 0
      · have HX0 := Lib.hid hx0
        rw [hx0] at c4 HKb HInl
        clear hx0 HKk HWr
        go_wp2_with fail
        refine (bld_write (HF.out.on (HA.out _)).bd bl (by have := HTk.out; omega)).mono ?_
        rintro e w1 ⟨rfl, hd1, hk1⟩
        have HF1 := Lib.hid ((HF.out.on (HA.out _)).step hd1 hk1)
        have HK1 := Lib.hid (kept_node hk1 HKb.out HNe.out)
        clear hd1 hk1 x0 x3 x4 c0 c1 c2 c3 c4
        obtain ⟨x0, x3, x4⟩ := HF1.out.cells
        go_wp2_with fail
        refine (bld_write HF1.out.bd _ (by have := HTk.out; have g1 := one_size 45; simp only [List.length_append, Array.length_toList]; simp; omega)).mono ?_
        rintro e w3 ⟨rfl, hd3, hk3⟩
        have HF3 := Lib.hid (HF1.out.step hd3 hk3)
        have HK3 := Lib.hid (kept_node hk3 HK1.out HNe.out)
        clear hd3 hk3 x0 x3 x4
        obtain ⟨x0, x3, x4⟩ := HF3.out.cells
        obtain ⟨y0, y1, y2, y3, y4, -⟩ := five HK3.out
        go_wp2_with fail
        refine (HInl.out _ HF3.out.bd.below).mono ?_
        rintro e w4 ⟨rfl, hb4⟩
        have HF4 := Lib.hid (HF3.out.on hb4)
        clear hb4 x0 x3 x4 y0 y1 y2 y3 y4
        obtain ⟨x0, x3, x4⟩ := HF4.out.cells
        generalize hX : inlT x = X at *
        have hXz : X.size ≤ 400000 := by rw [← hX]; exact HLz.out
        have HXX : Hid (X.data.toList = inlL x) := by show _ = _; subst hX; rfl
        clear hX
        go_wp2_with fail
        refine (bld_write HF4.out.bd _ (by have := HTk.out; have g1 := one_size 45; have g2 := one_size 58; have g3 := one_size 32; have g4 := one_size 10; simp only [List.length_append, Array.length_toList, ByteArray.size_append]; simp; omega)).mono ?_
        rintro e w5 ⟨rfl, hd5, hk5⟩
        have HF5 := Lib.hid (HF4.out.step hd5 hk5)
        clear hd5 hk5 x0 x3 x4
        obtain ⟨x0, x3, x4⟩ := HF5.out.cells
        go_wp2
        refine ⟨⟨j + 1, hlt, by go_num, Lib.hid ?_⟩, by simp [intOf]; omega⟩
        have h9 := HF5.out
        rw [HN.out]
        simp only [cat_list, HXX.out, HBL.out, ← HLL.out, List.append_assoc] at h9 ⊢
        simp only [lineOf, headL, if_pos HX0.out]
        simpa using h9
      · have HX0 := Lib.hid hx0
        have hx1 : (0 : Int) < (x.kids.length : Int) := by omega
        have hx2 : 0 < x.kids.length := by omega
        have HWk := Lib.hid (HWr.out hx0)
        clear hx0 HKk HInl HWr
        go_wp2_with fail
        refine (bld_write (HF.out.on (HA.out _)).bd bl (by have := HTk.out; omega)).mono ?_
        rintro e w1 ⟨rfl, hd1, hk1⟩
        have HF1 := Lib.hid ((HF.out.on (HA.out _)).step hd1 hk1)
        have HK1 := Lib.hid (kept_node hk1 HKb.out HNe.out)
        clear hd1 hk1 x0 x3 x4 c0 c1 c2 c3 c4
        obtain ⟨x0, x3, x4⟩ := HF1.out.cells
        go_wp2_with fail
        refine (bld_write HF1.out.bd _ (by have := HTk.out; have g1 := one_size 45; simp only [List.length_append, Array.length_toList]; simp; omega)).mono ?_
        rintro e w3 ⟨rfl, hd3, hk3⟩
        have HF3 := Lib.hid (HF1.out.step hd3 hk3)
        have HK3 := Lib.hid (kept_node hk3 HK1.out HNe.out)
        clear hd3 hk3 x0 x3 x4
        obtain ⟨x0, x3, x4⟩ := HF3.out.cells
        obtain ⟨y0, y1, y2, y3, y4, -⟩ := five HK3.out
        go_wp2_with fail
        refine (bld_write HF3.out.bd _ (by have := HTk.out; have g1 := one_size 45; have g2 := one_size 58; have g3 := one_size 32; have g4 := one_size 10; simp only [List.length_append, Array.length_toList]; simp; omega)).mono ?_
        rintro e w4 ⟨rfl, hd4, hk4⟩
        have HF4 := Lib.hid (HF3.out.step hd4 hk4)
        have HK4 := Lib.hid (kept_node hk4 HK3.out HNe.out)
        clear hd4 hk4 x0 x3 x4 y0 y1 y2 y3 y4
        obtain ⟨x0, x3, x4⟩ := HF4.out.cells
        obtain ⟨y0, y1, y2, y3, y4, -⟩ := five HK4.out
        go_wp2_with fail
        refine (HWk.out _ _ (by have := HTk.out; have g1 := one_size 45; have g2 := one_size 58; have g3 := one_size 32; have g4 := one_size 10; simp only [List.length_append, Array.length_toList]; simp; omega) HF4.out.bd).mono ?_
        rintro e w5 ⟨rfl, hd5, hk5⟩
        have HF5 := Lib.hid (HF4.out.step hd5 hk5)
        clear hd5 hk5 x0 x3 x4 y0 y1 y2 y3 y4
        obtain ⟨x0, x3, x4⟩ := HF5.out.cells
        go_wp2
        refine ⟨⟨j + 1, hlt, by go_num, Lib.hid ?_⟩, by simp [intOf]; omega⟩
        have h9 := HF5.out
        rw [HN.out]
        simp only [HBL.out, ← HLL.out, List.append_assoc] at h9 ⊢
        simp only [lineOf, headL, if_neg HX0.out]
        simpa using h9
    · have HE : Hid (linesAll 4 keys (kids.take j) d = LN) := by
        show _ = _
        rw [HLN.out, List.take_of_length_le (by omega)]
      rw [HE.out] at HF
      go_wp2
      go_end0
      exact ⟨rfl, HF.out.bd, HF.out.kept⟩

set_option maxRecDepth 100000 in
set_option maxHeartbeats 2000000 in
theorem indent5 (n : Int) (s : ByteArray) (keys : List ByteArray) (kids : List RT) (ih : ∀ t ∈ kids, IndAt t) (w0 w : World) (kv dv : Value) (FK FD : List Nat) (hK : StrsAt w0 kv keys FK) (hD : KidsLie w0 dv kids FD) (bl : ByteArray) (d b : Nat) (l : List UInt8) (ht : Tab w0) (hok0 : treeOk (RT.node 5 n s keys kids) = true) (hbl0 : Bl bl d) (hd0 : d + 2 * (RT.node 5 n s keys kids).size ≤ 1000) (hl0 : l.length + 8000 * (RT.node 5 n s keys kids).size ≤ 1000000000) (hbd : Bd w0 b l w) :
    Calls Tryz.prog 26 #[.pointer (some ⟨b, 0, none⟩), .agg #[.int .i64 5, .int .i64 n, .string s, kv, dv], .string bl] w fun e w' => e = .returned (.tuple #[]) ∧ Bd w0 b (l ++ (RT.node 5 n s keys kids).lines d) w' ∧ Kept b w w' := by
  have hok := Lib.hid hok0
  have hbl := Lib.hid hbl0
  have HTab := Lib.hid (Lib.tabBelow_of_tabIs ht)
  have HT0 := Lib.hid ht
  have HBL : Hid (bl.data.toList = List.replicate d 32) := hbl0
  have hr := (treeOk_parts hok0).2.2
  have HT := Lib.hid (fun i => Nat.le_trans (linesAll_le_take hr hd0 i) (Nat.le_refl _))
  have hd : d + 2 * (sizeAll kids + 1) ≤ 1000 := hd0
  have hbz : bl.size ≤ 1000 := by rw [hbl0.size]; omega
  have hsz200 : sizeAll kids + 1 ≤ 200 := (treeOk_parts hok0).2.1
  have hl : l.length + 8000 * (sizeAll kids + 1) ≤ 1000000000 := hl0
  have hkl : keys.length = kids.length := by
    have := (right_out hr).1
    simp only [HeadOk, RT.k, RT.n, RT.s, RT.keys, RT.kids] at this
    omega
  have HLN : Hid ((RT.node 5 n s keys kids).lines d = linesAll 5 keys kids d) := by show _ = _; rw [RT.lines]
  generalize (RT.node 5 n s keys kids).lines d = LN at *
  clear hok0 hbl0 hd0 hr hl0 ht
  obtain ⟨o, cap, bb, off, FF, KV, DV, rfl, hlc, hcm, ho, -, hcell, hlies, -⟩ := hD
  obtain ⟨ko, kcap, kb, koff, rfl, hklc, hkcm, hko, -, hkcell, -⟩ := hK
  have HKC := Lib.hid hkcell
  have HKO := Lib.hid hko
  clear hkcell hko
  rw [hkl] at hklc ⊢
  unfold maxLen at hkcm
  have HKL : Hid (keys.length = kids.length) := hkl
  clear hkl
  have HX := Lib.hid (Fr.start hbd (.int .i64 5) (.int .i64 n) (.string s) (.slice ko kids.length kcap) (.slice o kids.length cap))
  have HC := Lib.hid hcell
  have HL := Lib.hid hlies
  have HO := Lib.hid ho
  clear hcell hlies ho hbd
  unfold maxLen at hcm
  go_enter Tryz.func26, Tryz.ntmps26
  go_wp2
  go_loopw [11] (fun q wr => ∃ j : Nat, j ≤ kids.length ∧ q = .int .i64 j ∧ Hid (Fr w0 w b (l ++ linesAll 5 keys (kids.take j) d) (.int .i64 5) (.int .i64 n) (.string s) (.slice ko kids.length kcap) (.slice o kids.length cap) wr)) (fun q _ => kids.length - (intOf q).toNat)
  case atStart => exact ⟨0, Nat.zero_le _, rfl, Lib.hid (by have := HX.out; simpa [linesAll] using this)⟩
  case round =>
    obtain ⟨j, hj, rfl, HF⟩ := hrel
    obtain ⟨x0, x3, x4⟩ := HF.out.cells
    by_cases hlt : j < kids.length
    · have ho := HO.out (by omega)
      subst ho
      have hlt' : (j : Int) < kids.length := by omega
      obtain ⟨c0, c1, c2, c3, c4⟩ := kid_cells (HC.out j hlt) HF.out.bd.below
      have hkj : j < keys.length := by rw [HKL.out]; exact hlt
      have HN : Hid (linesAll 5 keys (kids.take (j + 1)) d = linesAll 5 keys (kids.take j) d ++ lineOf 5 keys[j] kids[j] d) := by
        have := linesAll_take 5 d keys kids j hlt
        rw [key_at hkj] at this
        exact this
      obtain ⟨d0, dz⟩ := HKC.out j hkj
      have HD0 : Hid (∀ w2 : World, Below w0.heap.size w0 w2 → w2.cell? ⟨kb, koff + j, none⟩ = some (.string keys[j])) := fun w2 hb => by
        rw [hb.cell (by exact World.block_lt_of_cell? _ _ d0)]; exact d0
      have HKT := Lib.hid (impl_keyText keys[j] dz)
      have HKZ := Lib.hid (keyL_length keys[j])
      have hko := HKO.out (by omega)
      subst hko
      clear d0 dz
      have HCJ := Lib.hid (HC.out j hlt)
      obtain ⟨⟨o1, q1, s1⟩, ⟨o2, q2, s2⟩⟩ := (HL.out j hlt).slices
      have hmem : kids[j] ∈ kids := List.getElem_mem hlt
      have HOk : Hid (treeOk kids[j] = true) := treeOk_kid hok.out (show kids[j] ∈ (RT.node 5 n s keys kids).kids from hmem)
      have hzj := kid_size_le hmem
      have HTJ := HT.out j
      have hzt : sizeAll (kids.take j) + kids[j].size ≤ sizeAll kids := by
        have e1 := sizeAll_take kids j hlt
        have e2 := sizeAll_take_le kids (j + 1)
        omega
      have HKk : Hid (kids[j].kids.length ≠ 0 → kids[j].k = 4 ∨ kids[j].k = 5) := kind_of_kids (treeOk_parts HOk.out).2.2
      have HWr : Hid (kids[j].kids.length ≠ 0 → ∀ (l1 : List UInt8) (w1 : World), l1.length ≤ l.length + 4000 * sizeAll (kids.take j) + 2000 → Bd w0 b l1 w1 → Calls Tryz.prog 26 #[.pointer (some ⟨b, 0, none⟩), .agg #[.int .i64 kids[j].k, .int .i64 kids[j].n, .string kids[j].s, KV j, DV j], .string (bl ++ ⟨#[32, 32]⟩)] w1 fun e w' => e = .returned (.tuple #[]) ∧ Bd w0 b (l1 ++ kids[j].lines (d + 2)) w' ∧ Kept b w1 w') := fun h0 l1 w1 hl1 hb1 => ih _ hmem w0 w1 _ _ _ _ _ _ _ (HL.out j hlt) HT0.out HOk.out hbl.out.more (by omega) (HKk.out h0) (by omega) hb1
      have HInl : Hid (∀ w1 : World, Below w0.heap.size w0 w1 → Calls Tryz.prog 25 #[.agg #[.int .i64 kids[j].k, .int .i64 kids[j].n, .string kids[j].s, KV j, DV j]] w1 fun e w' => e = .returned (.string (inlT kids[j])) ∧ Below w1.heap.size w1 w') := fun w1 hb1 => impl_inline _ w1 _ _ _ ((HL.out j hlt).stay hb1 (Nat.le_refl _)) HOk.out (HTab.out _ hb1)
      have HLz : Hid ((inlL kids[j]).length ≤ 400000) := by
        have h2 := inlL_length (treeOk_parts HOk.out).2.2
        show _ ≤ _
        omega
      have HTk : Hid ((l ++ linesAll 5 keys (kids.take j) d).length ≤ l.length + 4000 * sizeAll (kids.take j)) := by
        show _ ≤ _
        rw [List.length_append]
        omega
      have hlz : l.length + 4000 * sizeAll (kids.take j) ≤ 1000000000 := by omega
      clear hzj hmem HOk HTJ hzt
      generalize sizeAll (kids.take j) = zj at *
      generalize hLL : l ++ linesAll 5 keys (kids.take j) d = LL at *
      have HLL := Lib.hid hLL
      clear hLL
      generalize kids[j] = x at *
      generalize KV j = v1 at *
      generalize DV j = v2 at *
      subst s1 s2
      generalize keys[j] = y at *
      clear hkj
      have HA : Hid (∀ ob, Below wr.heap.size wr (wr.alloc ob)) := fun ob => (Below.refl _ _).alloc (Nat.le_refl _) _
      have HKb := Lib.hid (heap_last wr (.cells #[.int .i64 x.k, .int .i64 x.n, .string x.s, .slice o1 x.keys.length q1, .slice o2 x.kids.length q2] 27))
      have hbw : wr.heap.size ≠ b := by have := HF.out.lt; omega
      have HNe := Lib.hid hbw
      clear hbw
      by_cases hx0 : x.kids.length = 0
      · have HX0 := Lib.hid hx0
        rw [hx0] at c4 HKb HInl
        clear hx0 HKk HWr
        go_wp2_with fail
        refine (bld_write (HF.out.on (HA.out _)).bd bl (by have := HTk.out; omega)).mono ?_
        rintro e w1 ⟨rfl, hd1, hk1⟩
        have HF1 := Lib.hid ((HF.out.on (HA.out _)).step hd1 hk1)
        have HK1 := Lib.hid (kept_node hk1 HKb.out HNe.out)
        clear hd1 hk1 x0 x3 x4 c0 c1 c2 c3 c4
        obtain ⟨x0, x3, x4⟩ := HF1.out.cells
        have d1 := HD0.out _ HF1.out.bd.below
        go_wp2_with fail
        refine (HKT.out _).mono ?_
        rintro e w2 ⟨rfl, hb2⟩
        have HF2 := Lib.hid (HF1.out.on hb2)
        have HK2 := Lib.hid (kept_node (kept_below (b := b) hb2) HK1.out HNe.out)
        clear hb2 x0 x3 x4 d1
        obtain ⟨x0, x3, x4⟩ := HF2.out.cells
        generalize hY : keyT y = Y at *
        have hYz : Y.size ≤ 802 := by rw [← hY]; exact HKZ.out
        have HYY : Hid (Y.data.toList = keyL y) := by show _ = _; subst hY; rfl
        clear hY
        go_wp2_with fail
        refine (bld_write HF2.out.bd _ (by have := HTk.out; have g2 := one_size 58; simp only [List.length_append, Array.length_toList, ByteArray.size_append]; simp; omega)).mono ?_
        rintro e w3 ⟨rfl, hd3, hk3⟩
        have HF3 := Lib.hid (HF2.out.step hd3 hk3)
        have HK3 := Lib.hid (kept_node hk3 HK2.out HNe.out)
        clear hd3 hk3 x0 x3 x4
        obtain ⟨x0, x3, x4⟩ := HF3.out.cells
        obtain ⟨y0, y1, y2, y3, y4, -⟩ := five HK3.out
        go_wp2_with fail
        refine (HInl.out _ HF3.out.bd.below).mono ?_
        rintro e w4 ⟨rfl, hb4⟩
        have HF4 := Lib.hid (HF3.out.on hb4)
        clear hb4 x0 x3 x4 y0 y1 y2 y3 y4
        obtain ⟨x0, x3, x4⟩ := HF4.out.cells
        generalize hX : inlT x = X at *
        have hXz : X.size ≤ 400000 := by rw [← hX]; exact HLz.out
        have HXX : Hid (X.data.toList = inlL x) := by show _ = _; subst hX; rfl
        clear hX
        go_wp2_with fail
        refine (bld_write HF4.out.bd _ (by have := HTk.out; have g1 := one_size 45; have g2 := one_size 58; have g3 := one_size 32; have g4 := one_size 10; simp only [List.length_append, Array.length_toList, ByteArray.size_append]; simp; omega)).mono ?_
        rintro e w5 ⟨rfl, hd5, hk5⟩
        have HF5 := Lib.hid (HF4.out.step hd5 hk5)
        clear hd5 hk5 x0 x3 x4
        obtain ⟨x0, x3, x4⟩ := HF5.out.cells
        go_wp2
        refine ⟨⟨j + 1, hlt, by go_num, Lib.hid ?_⟩, by simp [intOf]; omega⟩
        have h9 := HF5.out
        rw [HN.out]
        simp only [cat_list, HXX.out, HBL.out, HYY.out, ← HLL.out, List.append_assoc] at h9 ⊢
        simp only [lineOf, headL, if_pos HX0.out]
        simpa using h9
      · have HX0 := Lib.hid hx0
        have hx1 : (0 : Int) < (x.kids.length : Int) := by omega
        have hx2 : 0 < x.kids.length := by omega
        have HWk := Lib.hid (HWr.out hx0)
        clear hx0 HKk HInl HWr
        go_wp2_with fail
        refine (bld_write (HF.out.on (HA.out _)).bd bl (by have := HTk.out; omega)).mono ?_
        rintro e w1 ⟨rfl, hd1, hk1⟩
        have HF1 := Lib.hid ((HF.out.on (HA.out _)).step hd1 hk1)
        have HK1 := Lib.hid (kept_node hk1 HKb.out HNe.out)
        clear hd1 hk1 x0 x3 x4 c0 c1 c2 c3 c4
        obtain ⟨x0, x3, x4⟩ := HF1.out.cells
        have d1 := HD0.out _ HF1.out.bd.below
        go_wp2_with fail
        refine (HKT.out _).mono ?_
        rintro e w2 ⟨rfl, hb2⟩
        have HF2 := Lib.hid (HF1.out.on hb2)
        have HK2 := Lib.hid (kept_node (kept_below (b := b) hb2) HK1.out HNe.out)
        clear hb2 x0 x3 x4 d1
        obtain ⟨x0, x3, x4⟩ := HF2.out.cells
        generalize hY : keyT y = Y at *
        have hYz : Y.size ≤ 802 := by rw [← hY]; exact HKZ.out
        have HYY : Hid (Y.data.toList = keyL y) := by show _ = _; subst hY; rfl
        clear hY
        go_wp2_with fail
        refine (bld_write HF2.out.bd _ (by have := HTk.out; have g2 := one_size 58; simp only [List.length_append, Array.length_toList, ByteArray.size_append]; simp; omega)).mono ?_
        rintro e w3 ⟨rfl, hd3, hk3⟩
        have HF3 := Lib.hid (HF2.out.step hd3 hk3)
        have HK3 := Lib.hid (kept_node hk3 HK2.out HNe.out)
        clear hd3 hk3 x0 x3 x4
        obtain ⟨x0, x3, x4⟩ := HF3.out.cells
        obtain ⟨y0, y1, y2, y3, y4, -⟩ := five HK3.out
        go_wp2_with fail
        refine (bld_write HF3.out.bd _ (by have := HTk.out; have g1 := one_size 45; have g2 := one_size 58; have g3 := one_size 32; have g4 := one_size 10; simp only [List.length_append, Array.length_toList]; simp; omega)).mono ?_
        rintro e w4 ⟨rfl, hd4, hk4⟩
        have HF4 := Lib.hid (HF3.out.step hd4 hk4)
        have HK4 := Lib.hid (kept_node hk4 HK3.out HNe.out)
        clear hd4 hk4 x0 x3 x4 y0 y1 y2 y3 y4
        obtain ⟨x0, x3, x4⟩ := HF4.out.cells
        obtain ⟨y0, y1, y2, y3, y4, -⟩ := five HK4.out
        go_wp2_with fail
        refine (HWk.out _ _ (by have := HTk.out; have g1 := one_size 45; have g2 := one_size 58; have g3 := one_size 32; have g4 := one_size 10; simp only [List.length_append, Array.length_toList, cat_list]; simp; omega) HF4.out.bd).mono ?_
        rintro e w5 ⟨rfl, hd5, hk5⟩
        have HF5 := Lib.hid (HF4.out.step hd5 hk5)
        clear hd5 hk5 x0 x3 x4 y0 y1 y2 y3 y4
        obtain ⟨x0, x3, x4⟩ := HF5.out.cells
        go_wp2
        refine ⟨⟨j + 1, hlt, by go_num, Lib.hid ?_⟩, by simp [intOf]; omega⟩
        have h9 := HF5.out
        rw [HN.out]
        simp only [cat_list, HBL.out, HYY.out, ← HLL.out, List.append_assoc] at h9 ⊢
        simp only [lineOf, headL, if_neg HX0.out]
        simpa using h9
    · have HE : Hid (linesAll 5 keys (kids.take j) d = LN) := by
        show _ = _
        rw [HLN.out, List.take_of_length_le (by omega)]
      rw [HE.out] at HF
      go_wp2
      go_end0
      exact ⟨rfl, HF.out.bd, HF.out.kept⟩

theorem impl_indent (T : RT) : IndAt T := by
  induction T using RT.ind with
  | h k n s keys kids ih =>
    intro w0 w kv dv F bl d b l hl ht hok hbl hd hk hlen hbd
    obtain ⟨-, -, hs, FK, FD, hK, hD, -⟩ := hl.outn
    rcases hk with hk | hk
    · have hk' : k = 4 := hk
      subst hk'
      exact indent4 n s keys kids ih w0 w kv dv FD hK.slice hD bl d b l ht hok hbl hd hlen hbd
    · have hk' : k = 5 := hk
      subst hk'
      exact indent5 n s keys kids ih w0 w kv dv FK FD hK hD bl d b l ht hok hbl hd hlen hbd

set_option maxRecDepth 100000 in
set_option maxHeartbeats 400000 in
theorem impl_indented (T : RT) (w : World) (kv dv : Value) (F : List Nat) (hl : Lies w T kv dv F) (ht : Tab w) :
    Calls Tryz.prog 12 #[.agg #[.int .i64 T.k, .int .i64 T.n, .string T.s, kv, dv]] w fun e w' => e = .returned (.string (indT T)) ∧ Below w.heap.size w w' := by
  have HX := Lib.hid (Box.start w (.int .i64 T.k) (.int .i64 T.n) (.string T.s) kv dv 27)
  have HR := Lib.hid (fun wr hb => impl_treeOk T wr kv dv F (hl.stay hb (Nat.le_refl _)))
  have HI := Lib.hid (fun wr hb hok => impl_inline T wr kv dv F (hl.stay hb (Nat.le_refl _)) hok (Lib.tabBelow_of_tabIs ht _ hb))
  have HW := Lib.hid (fun wr b hok hd hk hlen hbd => impl_indent T w wr kv dv F ⟨#[]⟩ 0 b [] hl ht hok rfl hd hk hlen hbd)
  obtain ⟨⟨o1, c1, rfl⟩, ⟨o2, c2, rfl⟩⟩ := hl.slices
  clear hl ht
  by_cases hok : treeOk T = true
  · have HO := Lib.hid hok
    have HP := Lib.hid (treeOk_parts hok)
    rw [hok] at HR
    by_cases h0 : T.kids.length = 0
    · have HE : Hid (indT T = inlT T ++ ⟨#[10]⟩) := by
        show _ = _
        unfold indT inlT
        rw [if_pos hok, if_pos h0]
        symm
        refine ext_list ?_
        rw [cat_list]
      have hz : (inlT T).size ≤ 800000 := by
        have := inlL_length HP.out.2.2
        have h2 := HP.out.2.1
        show (inlL T).length ≤ _
        omega
      rw [h0] at HX HR HI
      clear hok HW
      rw [h0]
      clear h0
      generalize inlT T = X at *
      go_enter Tryz.func12, Tryz.ntmps12
      go_wp2_with (first
        | (go_at_call 17; refine (HR.out _ HX.out.below).mono ?_; rintro e w1 ⟨rfl, hb1⟩; have HX1 := Lib.hid (HX.out.next hb1); obtain ⟨-, -, x0, x1, x2, x3, x4⟩ := HX1.out; clear hb1)
        | (go_at_call 25; refine (HI.out _ HX1.out.below HO.out).mono ?_; rintro e w3 ⟨rfl, hb3⟩; have HX3 := Lib.hid (HX1.out.next hb3); clear hb3)
        | fail)
      go_ret
      exact ⟨by rw [HE.out]; rfl, HX3.out.below⟩
    · have HE : Hid (indT T = ⟨(T.lines 0).toArray⟩) := by
        show _ = _
        unfold indT
        rw [if_pos hok, if_neg h0]
      have HWr := Lib.hid (fun wr b hbd => HW.out wr b hok (by have := HP.out.2.1; omega) (kind_of_kids HP.out.2.2 h0) (by have := HP.out.2.1; simp; omega) hbd)
      have e0 : ((T.kids.length : Int) == 0) = false := by simp; intro h; exact h0 (by rw [h]; rfl)
      clear hok h0 HW HI
      go_enter Tryz.func12, Tryz.ntmps12
      go_wp2_with fail
      refine (HR.out _ HX.out.below).mono ?_
      rintro e w1 ⟨rfl, hb1⟩
      have HX1 := Lib.hid (HX.out.next hb1)
      obtain ⟨-, -, x0, x1, x2, x3, x4⟩ := HX1.out
      clear hb1
      have HBs := Lib.hid (Bd.start w w1 HX1.out.below)
      have hlt := HX1.out.lt
      have hlt2 : ¬ w.heap.size = w1.heap.size := by omega
      go_wp2_with fail
      refine (HWr.out _ _ HBs.out).mono ?_
      rintro e w3 ⟨rfl, hd3, hk3⟩
      have HBd := Lib.hid hd3
      clear hd3 hk3 x0 x1 x2 x3 x4
      go_wp2_with fail
      refine (bld_string HBd.out).mono ?_
      rintro e w4 ⟨rfl, hb4⟩
      go_wp2
      go_ret
      exact ⟨by rw [HE.out]; rfl, hb4⟩
  · have HE : Hid (indT T = ⟨#[]⟩) := if_neg hok
    have hok' : treeOk T = false := by simpa using hok
    rw [hok'] at HR
    clear hok hok'
    go_enter Tryz.func12, Tryz.ntmps12
    go_wp2_with (first
      | (go_at_call 17; refine (HR.out _ HX.out.below).mono ?_; rintro e w1 ⟨rfl, hb1⟩; have HX1 := Lib.hid (HX.out.next hb1); clear hb1)
      | fail)
    go_ret
    exact ⟨by rw [HE.out]; rfl, HX1.out.below⟩
end Go.Proofs.YtmcjghhmcmkomaaGreatDoor
