/-
  What is proved: plain facts on a written tree's text with lines around it that say nothing, line by line; the program's Outline of it answers that tree and -1.; the program begins a value that blanks stand ahead of.; the program's begin at any right tree that stands in the text, behind blanks.
-/
import Derived.Test.YtmcjghhmcmkomaaGreatDoorPartBB
import Derived.Test.YtmcjghhmcmkomaaGreatDoorPartBC
import Derived.Test.YtmcjghhmcmkomaaGreatDoorPartAO
/- plain facts on a written tree's text with lines around it that say nothing, line by line; the program's Outline of it answers that tree and -1. -/
namespace Go.Proofs.YtmcjghhmcmkomaaGreatDoor
open Go Go.RowKit Go.Shelf

/-! ### Lines, and what is left -/

def joinLn (L : List (List UInt8)) (last : List UInt8) : List UInt8 := L.flatMap (fun l => l ++ [10]) ++ last
def restOf (L : List (List UInt8)) (last : List UInt8) (i : Nat) : ByteArray := if i ≤ L.length then ⟨(joinLn (L.drop i) last).toArray⟩ else ⟨#[]⟩
def lineAt (L : List (List UInt8)) (last : List UInt8) (i : Nat) : ByteArray := ⟨((L ++ [last])[i]?.getD []).toArray⟩

theorem joinLn_cons (l : List UInt8) (L : List (List UInt8)) (last : List UInt8) : joinLn (l :: L) last = l ++ 10 :: joinLn L last := by
  simp [joinLn]

theorem restOf_lt {L : List (List UInt8)} {last : List UInt8} {i : Nat} (h : i < L.length) : (restOf L last i).data.toList = L[i] ++ 10 :: (restOf L last (i + 1)).data.toList := by
  unfold restOf
  rw [if_pos (by omega), if_pos (by omega)]
  show (joinLn (L.drop i) last).toArray.toList = L[i] ++ 10 :: (joinLn (L.drop (i + 1)) last).toArray.toList
  rw [List.toList_toArray, List.toList_toArray, List.drop_eq_getElem_cons h, joinLn_cons]

theorem restOf_end {L : List (List UInt8)} {last : List UInt8} : (restOf L last L.length).data.toList = last := by
  unfold restOf
  rw [if_pos (Nat.le_refl _), List.drop_length]
  show (joinLn [] last).toArray.toList = last
  simp [joinLn]

theorem restOf_out {L : List (List UInt8)} {last : List UInt8} {i : Nat} (h : L.length < i) : restOf L last i = ⟨#[]⟩ := if_neg (by omega)

theorem bsize (s : ByteArray) : s.size = s.data.toList.length := list_size rfl

theorem joinLn_len (L : List (List UInt8)) (last : List UInt8) : L.length + last.length ≤ (joinLn L last).length := by
  induction L with
  | nil => simp [joinLn]
  | cons l L ih => rw [joinLn_cons]; simp; omega

theorem lined_of (L : List (List UInt8)) (last : List UInt8) (hL : ∀ l ∈ L, ∀ b ∈ l, b ≠ 10) (hlast : ∀ b ∈ last, b ≠ 10) (hne : last ≠ []) (hsz : (joinLn L last).length ≤ 6001) : Lined (L.length + 1) (lineAt L last) (restOf L last) := by
  have hpos : 0 < last.length := List.length_pos_iff.2 hne
  have h0 : (restOf L last 0).size = (joinLn L last).length := by
    unfold restOf
    rw [if_pos (Nat.zero_le _)]
    show (joinLn (L.drop 0) last).toArray.size = _
    simp
  have hlen := joinLn_len L last
  have hless : ∀ i, i < L.length + 1 → (restOf L last (i + 1)).size < (restOf L last i).size := fun i hi => by
    rcases Nat.lt_or_ge i L.length with h | h
    · rw [bsize, bsize, restOf_lt h]; simp; omega
    · obtain rfl : i = L.length := by omega
      rw [bsize, bsize, restOf_end, restOf_out (by omega)]; simpa using hpos
  refine ⟨restOf_out (by omega), fun i hi => by have := hless i hi; omega, fun i hi => ?_, fun i hi => ?_, by omega, hless⟩
  · rcases Nat.lt_or_ge i L.length with h | h
    · rw [restOf_lt h, cut_at (hL _ (List.getElem_mem h))]
      refine ⟨?_, by simp⟩
      unfold lineAt
      rw [List.getElem?_append_left h, List.getElem?_eq_getElem h]
      rfl
    · obtain rfl : i = L.length := by omega
      rw [restOf_end, cut_not hlast, restOf_out (by omega)]
      refine ⟨?_, rfl⟩
      unfold lineAt
      rw [List.getElem?_append_right (Nat.le_refl _), Nat.sub_self]
      rfl
  · have : ∀ j, j ≤ L.length + 1 → (restOf L last j).size ≤ (restOf L last 0).size := fun j => by
      induction j with
      | zero => exact fun _ => Nat.le_refl _
      | succ j ih => exact fun h => by have := ih (by omega); have := hless j (by omega); omega
    have := this i hi
    omega

/-! ### Moves -/

inductive Moves : OS → List (List UInt8) → OS → Prop
  | nil {s : OS} : Moves s [] s
  | cons {s s' s'' : OS} {l : List UInt8} {r : List (List UInt8)} : Move s l s' → Moves s' r s'' → Moves s (l :: r) s''

theorem Moves.append {s s' s'' : OS} {a b : List (List UInt8)} (h : Moves s a s') (h2 : Moves s' b s'') : Moves s (a ++ b) s'' := by
  induction h with
  | nil => exact h2
  | cons hs _ ih => exact .cons hs (ih h2)

theorem Moves.fn {s s' : OS} {ls : List (List UInt8)} (h : Moves s ls s') : ∃ S : Nat → OS, S 0 = s ∧ S ls.length = s' ∧ ∀ i (hi : i < ls.length), Move (S i) ls[i] (S (i + 1)) := by
  induction h with
  | @nil s => exact ⟨fun _ => s, rfl, rfl, fun i hi => absurd hi (by simp)⟩
  | @cons s s' s'' l r hm _ ih =>
    obtain ⟨S, h1, h2, h3⟩ := ih
    refine ⟨fun i => match i with | 0 => s | i + 1 => S i, rfl, h2, fun i hi => ?_⟩
    cases i with
    | zero => show Move s l (S 0); rw [h1]; exact hm
    | succ i => exact h3 i (by simpa using hi)

theorem moves_run {s s' : LS} {ls : List Ln} (h : Run s ls s') : (∀ l ∈ ls, l.good ∧ l.text.length ≤ 7000) → Moves (.lv s) (ls.map Ln.line) (.lv s') := by
  induction h with
  | nil => exact fun _ => .nil
  | @cons s s' s'' l r hs _ ih =>
    intro h
    have h1 := h l (List.mem_cons_self ..)
    exact .cons (.entry h1.1 h1.2 hs) (ih fun x hx => h x (List.mem_cons_of_mem _ hx))

theorem inlL_bytes {T : RT} (hr : T.right = true) : ∀ b ∈ inlL T, b ≠ 10 := by
  unfold inlL
  split
  · rename_i hp
    exact fun b hb => (plain_bytes hp.2 b hb).2
  · exact brac_bytes T hr

theorem text_len {l : Ln} (hg : l.good) : l.text.length ≤ 7000 := by
  unfold Ln.text
  have h1 := headL_length l.kind l.key
  rw [List.length_append]
  cases hX : l.val with
  | none => simp; omega
  | some X =>
    obtain ⟨h2, h3⟩ := hg.2 X hX
    obtain ⟨_, _, -, -, -, h4⟩ := inlL_head h2 h3
    simp; omega

theorem line_bytes {l : Ln} (hg : l.good) : ∀ b ∈ l.line, b ≠ 10 := by
  intro b hb
  unfold Ln.line Ln.text at hb
  rcases List.mem_append.1 hb with hb | hb
  · rw [List.eq_of_mem_replicate hb]; decide
  rcases List.mem_append.1 hb with hb | hb
  · unfold headL at hb
    split at hb
    · rcases List.mem_append.1 hb with hb | hb
      · unfold keyL at hb
        split at hb
        · rename_i hp; exact (plain_bytes hp b hb).2
        · exact quote_bytes _ b hb
      · simp at hb; rw [hb]; decide
    · simp at hb; rw [hb]; decide
  · cases hX : l.val with
    | none => rw [hX] at hb; simp at hb
    | some X =>
      rw [hX] at hb
      rcases List.mem_cons.1 hb with hb | hb
      · rw [hb]; decide
      · obtain ⟨h2, -⟩ := hg.2 X hX
        obtain ⟨-, -, hr⟩ := treeOk_parts h2
        exact inlL_bytes hr b hb

/-! ### A written tree -/

/-- A tree's text is lines, and what they say is the tree. -/
theorem tree_lines (T : RT) (hok : treeOk T = true) : ∃ (ls : List (List UInt8)) (s : OS), (indT T).data.toList = ls.flatMap (fun l => l ++ [10]) ∧ (∀ l ∈ ls, ∀ b ∈ l, b ≠ 10) ∧ Moves (.lv ⟨[], true, 0⟩) ls s ∧ Ends s T := by
  obtain ⟨-, hsz, hr⟩ := treeOk_parts hok
  unfold indT
  rw [if_pos hok]
  by_cases h0 : T.kids.length = 0
  · rw [if_pos h0]
    exact ⟨[inlL T], .sc T, by simp, fun l hl => by rw [List.mem_singleton.1 hl]; exact inlL_bytes hr, .cons (.alone hok h0) .nil, .inl rfl⟩
  · rw [if_neg h0]
    have hT : sizeAll T.kids + 1 = T.size := by cases T; simp only [RT.size, RT.kids]
    obtain ⟨tail, h1, h2⟩ := run_tree T hok h0 [] 0 (by omega)
    obtain ⟨key, -, h3⟩ := shut_rep h1 []
    have hg := lns_good T 0 hok h0
    refine ⟨(T.lns 0).map Ln.line, .lv ⟨tail, false, 0 + sizeAll T.kids⟩, ?_, fun l hl => ?_, moves_run h2 fun l hl => ⟨hg l hl, text_len (hg l hl)⟩, .inr ⟨tail, _, _, rfl, h3, ?_, by omega⟩⟩
    · show (T.lines 0).toArray.toList = _
      rw [List.toList_toArray, lines_text, List.flatMap_map]
    · obtain ⟨x, hx, rfl⟩ := List.mem_map.1 hl
      exact line_bytes (hg x hx)
    · obtain ⟨key', e⟩ := rep_one h1
      rw [e]; rfl

set_option maxRecDepth 100000 in
set_option maxHeartbeats 2000000 in
theorem outline_lines (T : RT) (hok : treeOk T = true) {N : Nat} {line rest : Nat → ByteArray} (hL : Lined N line rest) (S : Nat → OS) (hS0 : S 0 = .lv ⟨[], true, 0⟩) (hmv : ∀ i, i < N → Move (S i) (line i).data.toList (S (i + 1))) (hen : Ends (S N) T) (hls : ∀ i, i < N → (line i).size ≤ 6001) (m : Int) (w : World) (hm : MaxL w m) (hsz : (rest 0).size ≤ 6000) :
    Calls Tryz.prog 9 #[.string (rest 0)] w fun e w' => ∃ kx dx F, e = .returned (.tuple #[.agg #[.int .i64 T.k, .int .i64 T.n, .string T.s, kx, dx], .int .i64 (-1)]) ∧ Lies w' T kx dx F ∧ Fresh w w' F ∧ Below w.heap.size w w' := by
  have HTr := Lib.hid (fun (wx : World) (hx : MaxL wx m) => outlined_lines T hok hL S hS0 hmv hen hls m wx hx hsz)
  have hb0 := (Below.refl _ w).alloc (Nat.le_refl _) (.cells #[.int .i64 0, .int .i64 0, .string ⟨#[]⟩, .slice none 0 0, .slice none 0 0] 27)
  have HM := Lib.hid (hm.stay hb0 hm.lt)
  clear hok hL hmv hen hls hm hsz
  generalize rest 0 = s at *
  have HZ := Lib.hid (And.intro (heap_last w (.cells #[.int .i64 0, .int .i64 0, .string ⟨#[]⟩, .slice none 0 0, .slice none 0 0] 27)) hb0)
  clear hb0
  go_enter Tryz.func9, Tryz.ntmps9
  go_wp2_with fail
  refine (HTr.out _ HM.out).mono ?_
  rintro e w1 ⟨kx, dx, F, rfl, hl, hf, hb⟩
  obtain ⟨⟨o1, c1, rfl⟩, ⟨o2, c2, rfl⟩⟩ := hl.slices
  go_wp2_with fail
  refine (impl_placed _ _ _ _ _ _ _ _ _ _).mono ?_
  rintro e w2 ⟨rfl, hb2⟩
  have hb12 := hb.trans (hb2.mono hb.size)
  have hz2 := blk_nextR HZ.out.1 hb12
  have HF : Hid (Lies w2 T (.slice o1 T.keys.length c1) (.slice o2 T.kids.length c2) F ∧ Fresh w w2 F ∧ (∀ y ∈ F, y ≠ w.heap.size) ∧ Below w.heap.size w w2) := ⟨hl.stay hb2 (Nat.le_refl _), (hf.carry fun y hy => hb2.block y (hl.lt y hy)).earlier (by simp), fun y hy e => by have := hf.old y hy; simp at this; omega, HZ.out.2.trans (hb12.mono HZ.out.2.size)⟩
  have HZ2 := Lib.hid hz2
  obtain ⟨z0, z1, z2, z3, z4, z5⟩ := five hz2
  clear hl hf hb hb2 hb12 hz2
  go_wp2_with fail
  have keep : ∀ y ∈ F, (set5 w2 w.heap.size 0 (.int .i64 T.k) (.int .i64 T.n) (.string T.s) (.slice o1 T.keys.length c1) (.slice o2 T.kids.length c2)).heap[y]? = w2.heap[y]? := fun y hy => set5_other _ _ _ _ _ _ _ _ _ (HF.out.2.2.1 y hy)
  exact bodyPost_ret (ret_node2 Tryz.results9 rfl rfl (set5_end HZ2.out _ _ _ _ _)) rfl ⟨_, _, F, rfl, HF.out.1.carry keep, HF.out.2.1.carry keep, set5_below HF.out.2.2.2 (Nat.le_refl _) _ _ _ _ _ _⟩

theorem lineAt_eq {L : List (List UInt8)} {last : List UInt8} {i : Nat} (h : i < (L ++ [last]).length) : (lineAt L last i).data.toList = (L ++ [last])[i] := by
  unfold lineAt
  rw [List.getElem?_eq_getElem h]
  show ((L ++ [last])[i]).toArray.toList = _
  rw [List.toList_toArray]

/-- A written tree, with a remark and an empty line ahead of it, and blanks and a remark behind it. -/
theorem impl_outline_tree (T : RT) (hok : treeOk T = true) (hsz : (indT T).size ≤ 5000) (m : Int) (w : World) (hm : MaxL w m) :
    Calls Tryz.prog 9 #[.string (⟨#[35, 32, 120, 10, 10]⟩ ++ indT T ++ ⟨#[32, 32, 32, 10, 32, 32, 35, 32, 121]⟩)] w fun e w' => ∃ kx dx F, e = .returned (.tuple #[.agg #[.int .i64 T.k, .int .i64 T.n, .string T.s, kx, dx], .int .i64 (-1)]) ∧ Lies w' T kx dx F ∧ Fresh w w' F ∧ Below w.heap.size w w' := by
  obtain ⟨ls, s, h1, h2, h3, h4⟩ := tree_lines T hok
  generalize hLe : [[35, 32, 120], []] ++ (ls ++ [[32, 32, 32]]) = L
  have hlast : (joinLn L [32, 32, 35, 32, 121]) = (⟨#[35, 32, 120, 10, 10]⟩ ++ indT T ++ ⟨#[32, 32, 32, 10, 32, 32, 35, 32, 121]⟩ : ByteArray).data.toList := by
    rw [← hLe]
    simp [joinLn, h1]
  have hno : ∀ l ∈ L, ∀ b ∈ l, b ≠ 10 := by
    rw [← hLe]
    intro l hl
    rcases List.mem_append.1 hl with hl | hl
    · rcases List.mem_cons.1 hl with rfl | hl
      · decide
      · rw [List.mem_singleton.1 hl]; decide
    · rcases List.mem_append.1 hl with hl | hl
      · exact h2 l hl
      · rw [List.mem_singleton.1 hl]; decide
  have hmv : Moves (.lv ⟨[], true, 0⟩) (L ++ [[32, 32, 35, 32, 121]]) s := by
    rw [← hLe, List.append_assoc, List.append_assoc]
    have hsk : ∀ r : List UInt8, Lib.trimLeftB (35 :: r) 32 = 35 :: r := fun r => by simp [Lib.trimLeftB]
    refine .cons (.skip (.inr ⟨_, hsk _⟩)) (.cons (.skip (.inl rfl)) (h3.append (.cons (.skip (.inl (by simp [Lib.trimLeftB]))) (.cons (.skip (.inr ⟨[32, 121], by simp [Lib.trimLeftB]⟩)) .nil))))
  have htot : (joinLn L [32, 32, 35, 32, 121]).length ≤ 6000 := by
    have e0 : (joinLn L [32, 32, 35, 32, 121]).length = 5 + (indT T).data.toList.length + 9 := by rw [hlast]; simp; omega
    have e1 := bsize (indT T)
    omega
  have hLd := lined_of L [32, 32, 35, 32, 121] hno (by decide) (by simp) (by omega)
  obtain ⟨S, s0, s1, s2⟩ := hmv.fn
  have hlen : (L ++ [[32, 32, 35, 32, 121]]).length = L.length + 1 := by simp
  have e0 : restOf L [32, 32, 35, 32, 121] 0 = ⟨#[35, 32, 120, 10, 10]⟩ ++ indT T ++ ⟨#[32, 32, 32, 10, 32, 32, 35, 32, 121]⟩ := by
    refine bytes_eq ?_
    rw [← hlast]
    unfold restOf
    rw [if_pos (Nat.zero_le _), List.drop_zero]
  rw [← e0]
  refine outline_lines T hok hLd S s0 (fun i hi => ?_) (by rw [← hlen, s1]; exact h4) (fun i hi => ?_) m w hm (by
    rw [bsize, e0, ← hlast]; exact htot)
  · rw [lineAt_eq (by omega)]
    exact s2 i (by omega)
  · have h5 := hLd.le i (by omega)
    rw [bsize, lineAt_eq (by omega)]
    rcases Nat.lt_or_ge i L.length with h | h
    · rw [List.getElem_append_left h]
      rw [bsize, restOf_lt h, List.length_append] at h5
      omega
    · obtain rfl : i = L.length := by omega
      simp
end Go.Proofs.YtmcjghhmcmkomaaGreatDoor

/- the program begins a value that blanks stand ahead of. -/
namespace Go.Proofs.YtmcjghhmcmkomaaGreatDoor
open Go Go.RowKit

/-- Blanks lead from one place in the text to another. -/
def Lead (s : ByteArray) (p i0 i : Nat) : Prop := ∀ (ov : Value) (nd : Nat) (tw : Int) (w : World), Rd w p s i0 ov nd tw → Calls Tryz.prog 98 #[.pointer (some ⟨p, 0, none⟩)] w fun e w' => (∃ v, e = .returned v) ∧ Rd w' p s i ov nd tw ∧ w.grownBy w' (some p)

theorem lead_none {s : ByteArray} {p i : Nat} (hi : i ≤ s.size) (hb : blkB (nextB s i) = false) : Lead s p i i := fun ov nd tw w h =>
  (rd_blanks_no p s i ov nd tw w hi hb h).mono fun _ _ ⟨h1, h2⟩ => ⟨h1, h.same (h2.block p h.lt), grw_below h2⟩

theorem lead_some {s : ByteArray} {p i0 : Nat} (hs : s.size ≤ maxLen) (hi : i0 ≤ s.size) (bl R : List UInt8) (hbl : ∀ b ∈ bl, blkB b = true) (ht : s.data.toList.drop i0 = bl ++ R) (hR : blkB (R.headD 0) = false) : Lead s p i0 (i0 + bl.length) := fun ov nd tw w h =>
  rd_blanks_all p s hs i0 ov nd tw bl R hbl ht hi hR w h

set_option maxRecDepth 100000 in
set_option maxHeartbeats 4000000 in
theorem beginLb {w0 wr : World} {p : Nat} {s : ByteArray} {i : Nat} {ov : Value} {nd : Nat} {tw : Int} {ls : List Lv} {i0 : Nat} (hM : Mid w0 wr wr p s i0 ov nd tw ls) (hLd : Lead s p i0 i) (hp : p < w0.heap.size) (hnd : nd ≤ 1000000000) (_ : blkB (nextB s i) = false) (h1 : ¬ nextB s i = 91) (h2 : ¬ nextB s i = 123) (hi0 : i ≤ s.size)
    (k n : Int) (x : ByteArray) (j : Nat) (hl : ∀ wx, Rd wx p s i ov (nd + 1) tw → Calls Tryz.prog 121 #[.pointer (some ⟨p, 0, none⟩)] wx fun e w' => e = .returned (.tuple #[.agg #[.int .i64 k, .int .i64 n, .string x, .slice none 0 0, .slice none 0 0], .nilIface]) ∧ Rd w' p s j ov (nd + 1) tw ∧ wx.grownBy w' (some p)) :
    Calls Tryz.prog 96 #[.pointer (some ⟨p, 0, none⟩)] wr fun e w' => e = .returned (.tuple #[.agg #[.int .i64 k, .int .i64 n, .string x, .slice none 0 0, .slice none 0 0], .bool true, .nilIface]) ∧ (∀ (b : Nat) (cs : Array Value), b < wr.heap.size → b ≠ p → some b ≠ ov.ownBlock → b ∉ ls.flatMap Lv.blocks → wr.heap[b]? = some (.cells cs 27 (0, 0)) → w'.heap[b]? = wr.heap[b]?) ∧ Mid w0 wr w' p s j ov (nd + 1) tw ls := by
  have A1 := Lib.hid hLd
  have A2 := Lib.hid (fun (wx : World) (hx : Rd wx p s i ov (nd + 1) tw) => rd_take_no p s i ov (nd + 1) tw wx hi0 91 h1 hx)
  have A3 := Lib.hid (fun (wx : World) (hx : Rd wx p s i ov (nd + 1) tw) => rd_take_no p s i ov (nd + 1) tw wx hi0 123 h2 hx)
  have A4 := Lib.hid hl
  have HM := Lib.hid (hM.old (.cells #[.int .i64 0, .int .i64 0, .string ⟨#[]⟩, .slice none 0 0, .slice none 0 0] 27))
  have HL : Hid (w0.heap.size ≤ wr.heap.size ∧ ∀ x, (x ∈ ls.flatMap Lv.blocks ∨ ov.ownBlock = some x) → x < wr.heap.size) := ⟨hM.hs, fun x hx => (hM.stk.blocks hx).1⟩
  have Z0 := Lib.hid (heap_last wr (.cells #[.int .i64 0, .int .i64 0, .string ⟨#[]⟩, .slice none 0 0, .slice none 0 0] 27))
  have hp2 : p < wr.heap.size := Nat.lt_of_lt_of_le hp hM.hs
  have hw := wrap_succ nd hnd
  have G : Hid (wr.grownBy (wr.alloc (.cells #[.int .i64 0, .int .i64 0, .string ⟨#[]⟩, .slice none 0 0, .slice none 0 0] 27)) (some p)) := grw_below ((Below.refl _ wr).alloc (Nat.le_refl _) _)
  clear hM hl h1 h2
  go_enter Tryz.func96, Tryz.ntmps96
  go_wp2_with fail
  refine (A1.out _ _ _ _ HM.out.rd).mono ?_
  rintro e w1 ⟨⟨v1, rfl⟩, hrd1, hg1⟩
  replace Z0 := Lib.hid (grw_block Z0.out (by omega) hg1)
  replace HM := Lib.hid (HM.out.grw hp hrd1 hg1)
  replace G := Lib.hid (grw_trans (grw_trans G.out hg1) (grw_set w1 p 3 (.int .i64 ((nd : Int) + 1))))
  clear hrd1 hg1
  obtain ⟨x0, x1, x2, x3, x4, x5⟩ := HM.out.rd.five
  have HM1 := Lib.hid (HM.out.node1 hp)
  have Z1 := Lib.hid ((Below.heap_setCell w1 ⟨p, 3, none⟩ (.int .i64 ((nd : Int) + 1)) wr.heap.size (by show wr.heap.size ≠ p; omega)).trans Z0.out)
  clear HM Z0
  go_wp2_with fail
  refine (A2.out _ HM1.out.rd).mono ?_
  rintro e w2 ⟨rfl, hb2⟩
  replace HM1 := Lib.hid (HM1.out.below hb2)
  replace Z1 := Lib.hid ((hb2.block _ (Array.getElem?_eq_some_iff.1 Z1.out).1).trans Z1.out)
  replace G := Lib.hid (grw_trans G.out (grw_below hb2))
  clear hb2 x0 x1 x2 x3 x4 x5
  go_wp2_with fail
  refine (A3.out _ HM1.out.rd).mono ?_
  rintro e w3 ⟨rfl, hb3⟩
  replace HM1 := Lib.hid (HM1.out.below hb3)
  replace Z1 := Lib.hid ((hb3.block _ (Array.getElem?_eq_some_iff.1 Z1.out).1).trans Z1.out)
  replace G := Lib.hid (grw_trans G.out (grw_below hb3))
  clear hb3
  go_wp2_with fail
  refine (A4.out _ HM1.out.rd).mono ?_
  rintro e w4 ⟨rfl, h4, g4⟩
  replace Z1 := Lib.hid (grw_block Z1.out (by omega) g4)
  replace HM1 := Lib.hid (HM1.out.grw hp h4 g4)
  replace G := Lib.hid (grw_trans G.out g4)
  clear h4 g4
  go_wp2
  have HM5 := Lib.hid (HM1.out.old (.cells #[.int .i64 k, .int .i64 n, .string x, .slice none 0 0, .slice none 0 0] 27))
  have Z5 := Lib.hid (((Below.refl _ w4).alloc (Nat.le_refl _) (.cells #[.int .i64 k, .int .i64 n, .string x, .slice none 0 0, .slice none 0 0] 27)).block _ (Array.getElem?_eq_some_iff.1 Z1.out).1 |>.trans Z1.out)
  have hlt : wr.heap.size < w4.heap.size := (Array.getElem?_eq_some_iff.1 Z1.out).1
  replace G := Lib.hid (grw_trans G.out (grw_below ((Below.refl _ w4).alloc (Nat.le_refl _) (.cells #[.int .i64 k, .int .i64 n, .string x, .slice none 0 0, .slice none 0 0] 27))))
  obtain ⟨b0, b1, b2, b3, b4, -⟩ := five (heap_last w4 (.cells #[.int .i64 k, .int .i64 n, .string x, .slice none 0 0, .slice none 0 0] 27))
  generalize w4.alloc (.cells #[.int .i64 k, .int .i64 n, .string x, .slice none 0 0, .slice none 0 0] 27) = w5 at *
  generalize w4.heap.size = q at *
  clear HM1 Z1
  have hq1 : ¬ (wr.heap.size = q) := by omega
  have hq2 : ¬ (q = wr.heap.size) := by omega
  obtain ⟨z0, z1, z2, z3, z4, z5⟩ := five Z5.out
  go_region
  go_wp2
  have HE := HM5.out.set5 (by have := HL.out.1; omega) hp (fun y hy e => by have := HL.out.2 y hy; omega) (b := wr.heap.size) (.int .i64 k) (.int .i64 n) (.string x) (.slice none 0 0) (.slice none 0 0)
  have HE2 := HE.below (blw_drewN (Below.refl _ _) 1)
  exact bodyPost_ret (ret_node3 Tryz.results96 rfl rfl rfl (show (set5 w5 wr.heap.size 0 (.int .i64 k) (.int .i64 n) (.string x) (.slice none 0 0) (.slice none 0 0)).drew.heap[wr.heap.size]? = _ from set5_end Z5.out _ _ _ _ _)) rfl ⟨rfl, fun b cs hb hn hq hbl hc => (show (set5 w5 wr.heap.size 0 (.int .i64 k) (.int .i64 n) (.string x) (.slice none 0 0) (.slice none 0 0)).drew.heap[b]? = _ from (set5_other _ _ _ _ _ _ _ _ _ (by omega)).trans (G.out.block b hb (fun e => hn (Option.some.inj e)))), HE2⟩




set_option maxRecDepth 100000 in
set_option maxHeartbeats 4000000 in
theorem beginE4b {w0 wr : World} {p : Nat} {s : ByteArray} (hs : s.size ≤ 1000000000) {i : Nat} {ov : Value} {nd : Nat} {tw : Int} {ls : List Lv} {i0 : Nat} (hM : Mid w0 wr wr p s i0 ov nd tw ls) (hLd : Lead s p i0 i) (hp : p < w0.heap.size) (hnd : nd ≤ 1000000000) (_ : ls.length ≤ 1048575) (R : List UInt8) (ht : s.data.toList.drop i = 91 :: 93 :: R) :
    Calls Tryz.prog 96 #[.pointer (some ⟨p, 0, none⟩)] wr fun e w' => e = .returned (.tuple #[.agg #[.int .i64 4, .int .i64 0, .string ⟨#[]⟩, .slice none 0 0, .slice none 0 0], .bool true, .nilIface]) ∧ (∀ b cs, b < wr.heap.size → b ≠ p → some b ≠ ov.ownBlock → b ∉ ls.flatMap Lv.blocks → wr.heap[b]? = some (.cells cs 27 (0, 0)) → w'.heap[b]? = wr.heap[b]?) ∧ Mid w0 wr w' p s (i + 2) ov (nd + 1) tw ls := by
  have hs' : s.size ≤ maxLen := by unfold maxLen; omega
  obtain ⟨n1, n2, n3⟩ := nextB_drop ht
  have A1 := Lib.hid hLd
  have A2 := Lib.hid (fun (wx : World) (hx : Rd wx p s i ov (nd + 1) tw) => rd_take_yes p s i ov (nd + 1) tw wx hs' n2 91 n1 hx)
  have HT : Hid (s.data.toList.drop (i + 1) = 93 :: R) := n3
  have HM := Lib.hid (hM.old (.cells #[.int .i64 0, .int .i64 0, .string ⟨#[]⟩, .slice none 0 0, .slice none 0 0] 27))
  have HL : Hid (w0.heap.size ≤ wr.heap.size ∧ ∀ x, (x ∈ ls.flatMap Lv.blocks ∨ ov.ownBlock = some x) → x < wr.heap.size) := ⟨hM.hs, fun x hx => (hM.stk.blocks hx).1⟩
  have Z0 := Lib.hid (heap_last wr (.cells #[.int .i64 0, .int .i64 0, .string ⟨#[]⟩, .slice none 0 0, .slice none 0 0] 27))
  have hp2 : p < wr.heap.size := Nat.lt_of_lt_of_le hp hM.hs
  have hw := wrap_succ nd hnd
  have G : Hid (wr.grownBy (wr.alloc (.cells #[.int .i64 0, .int .i64 0, .string ⟨#[]⟩, .slice none 0 0, .slice none 0 0] 27)) (some p)) := grw_below ((Below.refl _ wr).alloc (Nat.le_refl _) _)
  clear hM ht n1 n2 n3
  go_enter Tryz.func96, Tryz.ntmps96
  go_wp2_with fail
  refine (A1.out _ _ _ _ HM.out.rd).mono ?_
  rintro e w1 ⟨⟨v1, rfl⟩, hrd1, hg1⟩
  replace Z0 := Lib.hid (grw_block Z0.out (by omega) hg1)
  replace HM := Lib.hid (HM.out.grw hp hrd1 hg1)
  replace G := Lib.hid (grw_trans (grw_trans G.out hg1) (grw_set w1 p 3 (.int .i64 ((nd : Int) + 1))))
  clear hrd1 hg1
  obtain ⟨x0, x1, x2, x3, x4, x5⟩ := HM.out.rd.five
  have HM1 := Lib.hid (HM.out.node1 hp)
  have Z1 := Lib.hid ((Below.heap_setCell w1 ⟨p, 3, none⟩ (.int .i64 ((nd : Int) + 1)) wr.heap.size (by show wr.heap.size ≠ p; omega)).trans Z0.out)
  clear HM Z0
  go_wp2_with fail
  refine (A2.out _ HM1.out.rd).mono ?_
  rintro e w2 ⟨rfl, h2, g2⟩
  replace Z1 := Lib.hid (grw_block Z1.out (by omega) g2)
  replace HM1 := Lib.hid (HM1.out.grw hp h2 g2)
  replace G := Lib.hid (grw_trans G.out g2)
  clear h2 g2 x0 x1 x2 x3 x4 x5
  go_wp2_with fail
  have hmid : Mid w0 w2 w2 p s (i + 1) ov (nd + 1) tw ls := ⟨HM1.out.rd, HM1.out.stk, Kp.refl _ _ _, HM1.out.hs⟩
  refine (enterE4 hs hmid hp R HT.out).mono ?_
  rintro e w3 ⟨rfl, hm3, hf3⟩
  have Z3 := Lib.hid ((hf3 wr.heap.size (Array.getElem?_eq_some_iff.1 Z1.out).1 (by omega)).trans Z1.out)
  have HM3 := Lib.hid (Mid.mk hm3.rd hm3.stk (HM1.out.kp.trans hm3.kp) hm3.hs)
  have HF : Hid (∀ (b : Nat) (cs : Array Value), b < wr.heap.size → b ≠ p → some b ≠ ov.ownBlock → b ∉ ls.flatMap Lv.blocks → wr.heap[b]? = some (.cells cs 27 (0, 0)) → w3.heap[b]? = wr.heap[b]?) := fun b cs hb hn hq hbl hc => by
    have hg := G.out.block b hb (fun e => hn (Option.some.inj e))
    exact (hf3 b (Nat.lt_of_lt_of_le hb G.out.size) hn).trans hg
  clear hmid hm3 hf3 HM1 Z1 G
  obtain ⟨z0, z1, z2, z3, z4, z5⟩ := five Z3.out
  go_wp2
  exact bodyPost_ret (ret_node3 Tryz.results96 rfl rfl rfl (set5_end Z3.out _ _ _ _ _)) rfl ⟨rfl, fun b cs hb hn hq hbl hc => (set5_other _ _ _ _ _ _ _ _ _ (by omega)).trans (HF.out b cs hb hn hq hbl hc), HM3.out.set5 (by have := HL.out.1; omega) hp (fun y hy e => by have := HL.out.2 y hy; omega) _ _ _ _ _⟩


set_option maxRecDepth 100000 in
set_option maxHeartbeats 4000000 in
theorem beginN4b {w0 wr : World} {p : Nat} {s : ByteArray} (hs : s.size ≤ 1000000000) {i : Nat} {ov : Value} {nd : Nat} {tw : Int} {ls : List Lv} {i0 : Nat} (hM : Mid w0 wr wr p s i0 ov nd tw ls) (hLd : Lead s p i0 i) (hp : p < w0.heap.size) (hnd : nd ≤ 1000000000) (hll : ls.length ≤ 1048575) (R : List UInt8) (ht : s.data.toList.drop i = 91 :: R) (hb0 : blkB (nextB s (i + 1)) = false) (hne0 : ¬ nextB s (i + 1) = 93) :
    Calls Tryz.prog 96 #[.pointer (some ⟨p, 0, none⟩)] wr fun e w' => e = .returned (.tuple #[.agg #[.int .i64 0, .int .i64 0, .string ⟨#[]⟩, .slice none 0 0, .slice none 0 0], .bool false, .nilIface]) ∧ (∀ b cs, b < wr.heap.size → b ≠ p → some b ≠ ov.ownBlock → b ∉ ls.flatMap Lv.blocks → wr.heap[b]? = some (.cells cs 27 (0, 0)) → w'.heap[b]? = wr.heap[b]?) ∧ ∃ ov', Mid w0 wr w' p s (i + 1) ov' (nd + 1) tw (ls ++ [newLv 4 (.map none) []]) := by
  have hs' : s.size ≤ maxLen := by unfold maxLen; omega
  obtain ⟨n1, n2, n3⟩ := nextB_drop ht
  have A1 := Lib.hid hLd
  have A2 := Lib.hid (fun (wx : World) (hx : Rd wx p s i ov (nd + 1) tw) => rd_take_yes p s i ov (nd + 1) tw wx hs' n2 91 n1 hx)
  have HT : Hid (blkB (nextB s (i + 1)) = false ∧ (¬ nextB s (i + 1) = 93) ∧ i + 1 ≤ s.size) := ⟨hb0, hne0, n2⟩
  have HM := Lib.hid (hM.old (.cells #[.int .i64 0, .int .i64 0, .string ⟨#[]⟩, .slice none 0 0, .slice none 0 0] 27))
  have HL : Hid (w0.heap.size ≤ wr.heap.size ∧ ∀ x, (x ∈ ls.flatMap Lv.blocks ∨ ov.ownBlock = some x) → x < wr.heap.size) := ⟨hM.hs, fun x hx => (hM.stk.blocks hx).1⟩
  have Z0 := Lib.hid (heap_last wr (.cells #[.int .i64 0, .int .i64 0, .string ⟨#[]⟩, .slice none 0 0, .slice none 0 0] 27))
  have hp2 : p < wr.heap.size := Nat.lt_of_lt_of_le hp hM.hs
  have hw := wrap_succ nd hnd
  have G : Hid (wr.grownBy (wr.alloc (.cells #[.int .i64 0, .int .i64 0, .string ⟨#[]⟩, .slice none 0 0, .slice none 0 0] 27)) (some p)) := grw_below ((Below.refl _ wr).alloc (Nat.le_refl _) _)
  clear hM ht n1 n2 n3
  go_enter Tryz.func96, Tryz.ntmps96
  go_wp2_with fail
  refine (A1.out _ _ _ _ HM.out.rd).mono ?_
  rintro e w1 ⟨⟨v1, rfl⟩, hrd1, hg1⟩
  replace Z0 := Lib.hid (grw_block Z0.out (by omega) hg1)
  replace HM := Lib.hid (HM.out.grw hp hrd1 hg1)
  replace G := Lib.hid (grw_trans (grw_trans G.out hg1) (grw_set w1 p 3 (.int .i64 ((nd : Int) + 1))))
  clear hrd1 hg1
  obtain ⟨x0, x1, x2, x3, x4, x5⟩ := HM.out.rd.five
  have HM1 := Lib.hid (HM.out.node1 hp)
  have Z1 := Lib.hid ((Below.heap_setCell w1 ⟨p, 3, none⟩ (.int .i64 ((nd : Int) + 1)) wr.heap.size (by show wr.heap.size ≠ p; omega)).trans Z0.out)
  clear HM Z0
  go_wp2_with fail
  refine (A2.out _ HM1.out.rd).mono ?_
  rintro e w2 ⟨rfl, h2, g2⟩
  replace Z1 := Lib.hid (grw_block Z1.out (by omega) g2)
  replace HM1 := Lib.hid (HM1.out.grw hp h2 g2)
  replace G := Lib.hid (grw_trans G.out g2)
  clear h2 g2 x0 x1 x2 x3 x4 x5
  go_wp2_with fail
  have hmid : Mid w0 w2 w2 p s (i + 1) ov (nd + 1) tw ls := ⟨HM1.out.rd, HM1.out.stk, Kp.refl _ _ _, HM1.out.hs⟩
  refine (enterN4 hmid hp hll HT.out.1 HT.out.2.1 HT.out.2.2).mono ?_
  rintro e w3 ⟨rfl, ov', hm3, hf3⟩
  have Z3 := Lib.hid ((hf3 wr.heap.size (Array.getElem?_eq_some_iff.1 Z1.out).1 (by omega) (fun h => by have := HL.out.2 _ (.inr h.symm); omega)).trans Z1.out)
  have HM3 := Lib.hid (Mid.mk hm3.rd hm3.stk (HM1.out.kp.trans hm3.kp) hm3.hs)
  have HF : Hid (∀ (b : Nat) (cs : Array Value), b < wr.heap.size → b ≠ p → some b ≠ ov.ownBlock → b ∉ ls.flatMap Lv.blocks → wr.heap[b]? = some (.cells cs 27 (0, 0)) → w3.heap[b]? = wr.heap[b]?) := fun b cs hb hn hq hbl hc => by
    have hg := G.out.block b hb (fun e => hn (Option.some.inj e))
    exact (hf3 b (Nat.lt_of_lt_of_le hb G.out.size) hn hq).trans hg
  clear hmid hm3 hf3 HM1 Z1 G
  obtain ⟨z0, z1, z2, z3, z4, z5⟩ := five Z3.out
  go_wp2
  exact bodyPost_ret (ret_node3 Tryz.results96 rfl rfl rfl (set5_end Z3.out _ _ _ _ _)) rfl ⟨rfl, fun b cs hb hn hq hbl hc => (set5_other _ _ _ _ _ _ _ _ _ (by omega)).trans (HF.out b cs hb hn hq hbl hc), ov', HM3.out.set5 (by have := HL.out.1; omega) hp (HM3.out.node_apart Z3.out (fun x hx e => by have := HL.out.2 x (.inl hx); omega) (fun x hx => by simp [newLv, Lv.blocks] at hx)) _ _ _ _ _⟩


set_option maxRecDepth 100000 in
set_option maxHeartbeats 4000000 in
theorem beginE5b {w0 wr : World} {p : Nat} {s : ByteArray} (hs : s.size ≤ 1000000000) {i : Nat} {ov : Value} {nd : Nat} {tw : Int} {ls : List Lv} {i0 : Nat} (hM : Mid w0 wr wr p s i0 ov nd tw ls) (hLd : Lead s p i0 i) (hp : p < w0.heap.size) (hnd : nd ≤ 1000000000) (_ : ls.length ≤ 1048575) (R : List UInt8) (ht : s.data.toList.drop i = 123 :: 125 :: R) :
    Calls Tryz.prog 96 #[.pointer (some ⟨p, 0, none⟩)] wr fun e w' => e = .returned (.tuple #[.agg #[.int .i64 5, .int .i64 0, .string ⟨#[]⟩, .slice none 0 0, .slice none 0 0], .bool true, .nilIface]) ∧ (∀ b cs, b < wr.heap.size → b ≠ p → some b ≠ ov.ownBlock → b ∉ ls.flatMap Lv.blocks → wr.heap[b]? = some (.cells cs 27 (0, 0)) → w'.heap[b]? = wr.heap[b]?) ∧ Mid w0 wr w' p s (i + 2) ov (nd + 1) tw ls := by
  have hs' : s.size ≤ maxLen := by unfold maxLen; omega
  obtain ⟨n1, n2, n3⟩ := nextB_drop ht
  have A1 := Lib.hid hLd
  have A2 := Lib.hid (fun (wx : World) (hx : Rd wx p s i ov (nd + 1) tw) => rd_take_yes p s i ov (nd + 1) tw wx hs' n2 123 n1 hx)
  have A3 := Lib.hid (fun (wx : World) (hx : Rd wx p s i ov (nd + 1) tw) => rd_take_no p s i ov (nd + 1) tw wx (Nat.le_of_lt n2) 91 (by rw [n1]; decide) hx)
  have HT : Hid (s.data.toList.drop (i + 1) = 125 :: R) := n3
  have HM := Lib.hid (hM.old (.cells #[.int .i64 0, .int .i64 0, .string ⟨#[]⟩, .slice none 0 0, .slice none 0 0] 27))
  have HL : Hid (w0.heap.size ≤ wr.heap.size ∧ ∀ x, (x ∈ ls.flatMap Lv.blocks ∨ ov.ownBlock = some x) → x < wr.heap.size) := ⟨hM.hs, fun x hx => (hM.stk.blocks hx).1⟩
  have Z0 := Lib.hid (heap_last wr (.cells #[.int .i64 0, .int .i64 0, .string ⟨#[]⟩, .slice none 0 0, .slice none 0 0] 27))
  have hp2 : p < wr.heap.size := Nat.lt_of_lt_of_le hp hM.hs
  have hw := wrap_succ nd hnd
  have G : Hid (wr.grownBy (wr.alloc (.cells #[.int .i64 0, .int .i64 0, .string ⟨#[]⟩, .slice none 0 0, .slice none 0 0] 27)) (some p)) := grw_below ((Below.refl _ wr).alloc (Nat.le_refl _) _)
  clear hM ht n1 n2 n3
  go_enter Tryz.func96, Tryz.ntmps96
  go_wp2_with fail
  refine (A1.out _ _ _ _ HM.out.rd).mono ?_
  rintro e w1 ⟨⟨v1, rfl⟩, hrd1, hg1⟩
  replace Z0 := Lib.hid (grw_block Z0.out (by omega) hg1)
  replace HM := Lib.hid (HM.out.grw hp hrd1 hg1)
  replace G := Lib.hid (grw_trans (grw_trans G.out hg1) (grw_set w1 p 3 (.int .i64 ((nd : Int) + 1))))
  clear hrd1 hg1
  obtain ⟨x0, x1, x2, x3, x4, x5⟩ := HM.out.rd.five
  have HM1 := Lib.hid (HM.out.node1 hp)
  have Z1 := Lib.hid ((Below.heap_setCell w1 ⟨p, 3, none⟩ (.int .i64 ((nd : Int) + 1)) wr.heap.size (by show wr.heap.size ≠ p; omega)).trans Z0.out)
  clear HM Z0
  go_wp2_with fail
  refine (A3.out _ HM1.out.rd).mono ?_
  rintro e w7 ⟨rfl, hb7⟩
  replace HM1 := Lib.hid (HM1.out.below hb7)
  replace Z1 := Lib.hid ((hb7.block _ (Array.getElem?_eq_some_iff.1 Z1.out).1).trans Z1.out)
  replace G := Lib.hid (grw_trans G.out (grw_below hb7))
  clear hb7 x0 x1 x2 x3 x4 x5
  go_wp2_with fail
  refine (A2.out _ HM1.out.rd).mono ?_
  rintro e w2 ⟨rfl, h2, g2⟩
  replace Z1 := Lib.hid (grw_block Z1.out (by omega) g2)
  replace HM1 := Lib.hid (HM1.out.grw hp h2 g2)
  replace G := Lib.hid (grw_trans G.out g2)
  clear h2 g2
  have hmk : (Instr.makeMap 138 none).run Tryz.prog w2 = .ok (.map (some w2.heap.size)) (w2.alloc (.map #[] 0)) := rfl
  go_wp2_with fail
  have hlt : wr.heap.size < w2.heap.size := (Array.getElem?_eq_some_iff.1 Z1.out).1
  have HS := Lib.hid (Seen.start w2)
  have HMN : Hid (w0.heap.size ≤ w2.heap.size ∧ ∀ x, (x ∈ ls.flatMap Lv.blocks ∨ ov.ownBlock = some x) → x ≠ w2.heap.size) := ⟨HM1.out.hs, fun x hx e => by have := (HM1.out.stk.blocks hx).1; omega⟩
  replace HM1 := Lib.hid (HM1.out.old (.map #[] 0))
  replace G := Lib.hid (grw_trans G.out (grw_below ((Below.refl _ w2).alloc (Nat.le_refl _) (.map #[] 0))))
  replace Z1 := Lib.hid ((Below.heap_alloc w2 (.map #[] 0) _ hlt).trans Z1.out)
  have hmid : Mid w0 (w2.alloc (.map #[] 0)) (w2.alloc (.map #[] 0)) p s (i + 1) ov (nd + 1) tw ls := ⟨HM1.out.rd, HM1.out.stk, Kp.refl _ _ _, HM1.out.hs⟩
  refine (enterE5 w2.heap.size hs hmid hp R HT.out).mono ?_
  rintro e w3 ⟨rfl, hm3, hf3⟩
  have Z3 := Lib.hid ((hf3 wr.heap.size (Array.getElem?_eq_some_iff.1 Z1.out).1 (by omega)).trans Z1.out)
  have HM3 := Lib.hid (Mid.mk hm3.rd hm3.stk (HM1.out.kp.trans hm3.kp) hm3.hs)
  have HF : Hid (∀ (b : Nat) (cs : Array Value), b < wr.heap.size → b ≠ p → some b ≠ ov.ownBlock → b ∉ ls.flatMap Lv.blocks → wr.heap[b]? = some (.cells cs 27 (0, 0)) → w3.heap[b]? = wr.heap[b]?) := fun b cs hb hn hq hbl hc => by
    have hg := G.out.block b hb (fun e => hn (Option.some.inj e))
    exact (hf3 b (Nat.lt_of_lt_of_le hb G.out.size) hn).trans hg
  clear hmid hm3 hf3 HM1 Z1 G
  obtain ⟨z0, z1, z2, z3, z4, z5⟩ := five Z3.out
  go_wp2
  exact bodyPost_ret (ret_node3 Tryz.results96 rfl rfl rfl (set5_end Z3.out _ _ _ _ _)) rfl ⟨rfl, fun b cs hb hn hq hbl hc => (set5_other _ _ _ _ _ _ _ _ _ (by omega)).trans (HF.out b cs hb hn hq hbl hc), HM3.out.set5 (by have := HL.out.1; omega) hp (fun y hy e => by have := HL.out.2 y hy; omega) _ _ _ _ _⟩


set_option maxRecDepth 100000 in
set_option maxHeartbeats 4000000 in
theorem beginN5b {w0 wr : World} {p : Nat} {s : ByteArray} (hs : s.size ≤ 1000000000) {i : Nat} {ov : Value} {nd : Nat} {tw : Int} {ls : List Lv} {i0 : Nat} (hM : Mid w0 wr wr p s i0 ov nd tw ls) (hLd : Lead s p i0 i) (hp : p < w0.heap.size) (hnd : nd ≤ 1000000000) (hll : ls.length ≤ 1048575) (R : List UInt8) (key : ByteArray) (hok : textOk key = true) (ht : s.data.toList.drop i = 123 :: ((quoteT key).data.toList ++ 58 :: R)) :
    Calls Tryz.prog 96 #[.pointer (some ⟨p, 0, none⟩)] wr fun e w' => e = .returned (.tuple #[.agg #[.int .i64 0, .int .i64 0, .string ⟨#[]⟩, .slice none 0 0, .slice none 0 0], .bool false, .nilIface]) ∧ (∀ b cs, b < wr.heap.size → b ≠ p → some b ≠ ov.ownBlock → b ∉ ls.flatMap Lv.blocks → wr.heap[b]? = some (.cells cs 27 (0, 0)) → w'.heap[b]? = wr.heap[b]?) ∧ ∃ ov' mb, Mid w0 wr w' p s (i + 1 + (quoteT key).data.toList.length + 1) ov' (nd + 1) tw (ls ++ [{ newLv 5 (.map (some mb)) [mb] with key := key, ks := [key] }]) := by
  have hs' : s.size ≤ maxLen := by unfold maxLen; omega
  obtain ⟨n1, n2, n3⟩ := nextB_drop ht
  have A1 := Lib.hid hLd
  have A2 := Lib.hid (fun (wx : World) (hx : Rd wx p s i ov (nd + 1) tw) => rd_take_yes p s i ov (nd + 1) tw wx hs' n2 123 n1 hx)
  have A3 := Lib.hid (fun (wx : World) (hx : Rd wx p s i ov (nd + 1) tw) => rd_take_no p s i ov (nd + 1) tw wx (Nat.le_of_lt n2) 91 (by rw [n1]; decide) hx)
  have HT : Hid (s.data.toList.drop (i + 1) = (quoteT key).data.toList ++ 58 :: R) := n3
  have HM := Lib.hid (hM.old (.cells #[.int .i64 0, .int .i64 0, .string ⟨#[]⟩, .slice none 0 0, .slice none 0 0] 27))
  have HL : Hid (w0.heap.size ≤ wr.heap.size ∧ ∀ x, (x ∈ ls.flatMap Lv.blocks ∨ ov.ownBlock = some x) → x < wr.heap.size) := ⟨hM.hs, fun x hx => (hM.stk.blocks hx).1⟩
  have Z0 := Lib.hid (heap_last wr (.cells #[.int .i64 0, .int .i64 0, .string ⟨#[]⟩, .slice none 0 0, .slice none 0 0] 27))
  have hp2 : p < wr.heap.size := Nat.lt_of_lt_of_le hp hM.hs
  have hw := wrap_succ nd hnd
  have G : Hid (wr.grownBy (wr.alloc (.cells #[.int .i64 0, .int .i64 0, .string ⟨#[]⟩, .slice none 0 0, .slice none 0 0] 27)) (some p)) := grw_below ((Below.refl _ wr).alloc (Nat.le_refl _) _)
  clear hM ht n1 n2 n3
  go_enter Tryz.func96, Tryz.ntmps96
  go_wp2_with fail
  refine (A1.out _ _ _ _ HM.out.rd).mono ?_
  rintro e w1 ⟨⟨v1, rfl⟩, hrd1, hg1⟩
  replace Z0 := Lib.hid (grw_block Z0.out (by omega) hg1)
  replace HM := Lib.hid (HM.out.grw hp hrd1 hg1)
  replace G := Lib.hid (grw_trans (grw_trans G.out hg1) (grw_set w1 p 3 (.int .i64 ((nd : Int) + 1))))
  clear hrd1 hg1
  obtain ⟨x0, x1, x2, x3, x4, x5⟩ := HM.out.rd.five
  have HM1 := Lib.hid (HM.out.node1 hp)
  have Z1 := Lib.hid ((Below.heap_setCell w1 ⟨p, 3, none⟩ (.int .i64 ((nd : Int) + 1)) wr.heap.size (by show wr.heap.size ≠ p; omega)).trans Z0.out)
  clear HM Z0
  go_wp2_with fail
  refine (A3.out _ HM1.out.rd).mono ?_
  rintro e w7 ⟨rfl, hb7⟩
  replace HM1 := Lib.hid (HM1.out.below hb7)
  replace Z1 := Lib.hid ((hb7.block _ (Array.getElem?_eq_some_iff.1 Z1.out).1).trans Z1.out)
  replace G := Lib.hid (grw_trans G.out (grw_below hb7))
  clear hb7 x0 x1 x2 x3 x4 x5
  go_wp2_with fail
  refine (A2.out _ HM1.out.rd).mono ?_
  rintro e w2 ⟨rfl, h2, g2⟩
  replace Z1 := Lib.hid (grw_block Z1.out (by omega) g2)
  replace HM1 := Lib.hid (HM1.out.grw hp h2 g2)
  replace G := Lib.hid (grw_trans G.out g2)
  clear h2 g2
  have hmk : (Instr.makeMap 138 none).run Tryz.prog w2 = .ok (.map (some w2.heap.size)) (w2.alloc (.map #[] 0)) := rfl
  go_wp2_with fail
  have hlt : wr.heap.size < w2.heap.size := (Array.getElem?_eq_some_iff.1 Z1.out).1
  have HS := Lib.hid (Seen.start w2)
  have HMN : Hid (w0.heap.size ≤ w2.heap.size ∧ ∀ x, (x ∈ ls.flatMap Lv.blocks ∨ ov.ownBlock = some x) → x ≠ w2.heap.size) := ⟨HM1.out.hs, fun x hx e => by have := (HM1.out.stk.blocks hx).1; omega⟩
  replace HM1 := Lib.hid (HM1.out.old (.map #[] 0))
  replace G := Lib.hid (grw_trans G.out (grw_below ((Below.refl _ w2).alloc (Nat.le_refl _) (.map #[] 0))))
  replace Z1 := Lib.hid ((Below.heap_alloc w2 (.map #[] 0) _ hlt).trans Z1.out)
  have hmid : Mid w0 (w2.alloc (.map #[] 0)) (w2.alloc (.map #[] 0)) p s (i + 1) ov (nd + 1) tw ls := ⟨HM1.out.rd, HM1.out.stk, Kp.refl _ _ _, HM1.out.hs⟩
  refine (enterN5 hs hmid hp hll w2.heap.size HS.out HMN.out.1 HMN.out.2 key hok R HT.out).mono ?_
  rintro e w3 ⟨rfl, ov', hm3, hf3⟩
  have Z3 := Lib.hid ((hf3 wr.heap.size _ (Array.getElem?_eq_some_iff.1 Z1.out).1 (by omega) (fun h => by have := HL.out.2 _ (.inr h.symm); omega) (fun h => by have := HL.out.2 _ (.inl h); omega) (by omega) Z1.out).trans Z1.out)
  have HM3 := Lib.hid (Mid.mk hm3.rd hm3.stk (HM1.out.kp.trans hm3.kp) hm3.hs)
  have HF : Hid (∀ (b : Nat) (cs : Array Value), b < wr.heap.size → b ≠ p → some b ≠ ov.ownBlock → b ∉ ls.flatMap Lv.blocks → wr.heap[b]? = some (.cells cs 27 (0, 0)) → w3.heap[b]? = wr.heap[b]?) := fun b cs hb hn hq hbl hc => by
    have hg := G.out.block b hb (fun e => hn (Option.some.inj e))
    exact (hf3 b cs (Nat.lt_of_lt_of_le hb G.out.size) hn hq hbl (by omega) (hg.trans hc)).trans hg
  clear hmid hm3 hf3 HM1 Z1 G
  obtain ⟨z0, z1, z2, z3, z4, z5⟩ := five Z3.out
  go_wp2
  exact bodyPost_ret (ret_node3 Tryz.results96 rfl rfl rfl (set5_end Z3.out _ _ _ _ _)) rfl ⟨rfl, fun b cs hb hn hq hbl hc => (set5_other _ _ _ _ _ _ _ _ _ (by omega)).trans (HF.out b cs hb hn hq hbl hc), ov', w2.heap.size, HM3.out.set5 (by have := HL.out.1; omega) hp (HM3.out.node_apart Z3.out (fun x hx e => by have := HL.out.2 x (.inl hx); omega) (fun x hx e => by simp [newLv, Lv.blocks] at hx; omega)) _ _ _ _ _⟩

end Go.Proofs.YtmcjghhmcmkomaaGreatDoor

/- the program's begin at any right tree that stands in the text, behind blanks. -/
namespace Go.Proofs.YtmcjghhmcmkomaaGreatDoor
open Go Go.RowKit

theorem begin_anyb {w0 wr : World} {p : Nat} {s : ByteArray} (hs : s.size ≤ 1000000000) {i : Nat} {ov : Value} {tw : Int} {ls : List Lv} {fs : List Frm} {X : RT} {R : List UInt8} {i0 : Nat} (hM : Mid w0 wr wr p s i0 ov (begun fs) tw ls) (hLd : Lead s p i0 i) (hp : p < w0.heap.size) (ho : Opn fs ls)
    (hT : (plug fs X).right = true) (hz : (plug fs X).size ≤ 200) (ht : s.data.toList.drop i = X.brac ++ restText fs R) (hR : isDig (R.headD 0) = false) :
    Calls Tryz.prog 96 #[.pointer (some ⟨p, 0, none⟩)] wr fun e w' => (∀ b cs, b < wr.heap.size → b ≠ p → some b ≠ ov.ownBlock → b ∉ ls.flatMap Lv.blocks → wr.heap[b]? = some (.cells cs 27 (0, 0)) → w'.heap[b]? = wr.heap[b]?) ∧
      ((∃ kx dx FX j, e = .returned (.tuple #[.agg #[.int .i64 X.k, .int .i64 X.n, .string X.s, kx, dx], .bool true, .nilIface]) ∧ Mid w0 wr w' p s j ov (begun fs + X.size) tw ls ∧ Hand w0 w' ov ls X kx dx FX ∧ s.data.toList.drop j = restText fs R ∧ i < j ∧ j ≤ s.size) ∨
       (∃ f x l ov' j, e = .returned (.tuple #[.agg #[.int .i64 0, .int .i64 0, .string ⟨#[]⟩, .slice none 0 0, .slice none 0 0], .bool false, .nilIface]) ∧ Frm.fill f x = X ∧ Opn (f :: fs) (ls ++ [l]) ∧ Mid w0 wr w' p s j ov' (begun (f :: fs)) tw (ls ++ [l]) ∧ s.data.toList.drop j = x.brac ++ restText (f :: fs) R ∧ i < j)) := by
  have hps := plug_size fs X
  have hbl := begun_length fs
  have hll := ho.length
  have hX := plug_right fs X hT
  obtain ⟨hh, hkids⟩ := right_out hX
  have fz : Fit 0 := ⟨by decide, by decide⟩
  cases X with
  | node k n x keys kids =>
    rcases hh with ⟨e, e1, e2, e3, e4⟩ | ⟨e, e1, e2, e3, e4⟩ | ⟨e, e1, e2, e3, e4⟩ | ⟨e, e1, e2, e3, e4⟩ | ⟨e, e1, e2, e3⟩ | ⟨e, e1, e2, e3, e4⟩
    · have e : k = 0 := e
      have e1 : n = 0 := e1
      have e2 : x = ⟨#[]⟩ := e2
      obtain rfl : keys = [] := List.length_eq_zero_iff.1 e3
      obtain rfl : kids = [] := List.length_eq_zero_iff.1 e4
      subst e e1 e2
      rw [brac0] at ht
      obtain ⟨n1, n2, -⟩ := nextB_drop (b := 110) (l := [117, 108, 108] ++ restText fs R) ht
      refine (beginLb hM hLd hp (by omega) (by rw [n1]; rfl) (by rw [n1]; decide) (by rw [n1]; decide) (Nat.le_of_lt n2) 0 0 ⟨#[]⟩ (i + 4) (fun wx hx => rd_leaf0 p s hs i ov _ tw (restText fs R) ht wx hx)).mono ?_
      rintro e w' ⟨rfl, hfr, hM'⟩
      exact ⟨hfr, .inl ⟨_, _, [], i + 4, rfl, hM', hand_leaf fz fz (by decide), drop_app ht, ⟨by omega, app_le ht (by simp)⟩⟩⟩
    · have e : k = 1 := e
      have e1 : n = 0 ∨ n = 1 := e1
      have e2 : x = ⟨#[]⟩ := e2
      obtain rfl : keys = [] := List.length_eq_zero_iff.1 e3
      obtain rfl : kids = [] := List.length_eq_zero_iff.1 e4
      subst e e2
      rcases e1 with rfl | rfl
      · rw [brac1, if_neg (by decide)] at ht
        obtain ⟨n1, n2, -⟩ := nextB_drop (b := 102) (l := [97, 108, 115, 101] ++ restText fs R) ht
        refine (beginLb hM hLd hp (by omega) (by rw [n1]; rfl) (by rw [n1]; decide) (by rw [n1]; decide) (Nat.le_of_lt n2) 1 0 ⟨#[]⟩ (i + 5) (fun wx hx => rd_leaf1f p s hs i ov _ tw (restText fs R) ht wx hx)).mono ?_
        rintro e w' ⟨rfl, hfr, hM'⟩
        exact ⟨hfr, .inl ⟨_, _, [], i + 5, rfl, hM', hand_leaf ⟨by decide, by decide⟩ fz (by decide), drop_app ht, ⟨by omega, app_le ht (by simp)⟩⟩⟩
      · rw [brac1, if_pos rfl] at ht
        obtain ⟨n1, n2, -⟩ := nextB_drop (b := 116) (l := [114, 117, 101] ++ restText fs R) ht
        refine (beginLb hM hLd hp (by omega) (by rw [n1]; rfl) (by rw [n1]; decide) (by rw [n1]; decide) (Nat.le_of_lt n2) 1 1 ⟨#[]⟩ (i + 4) (fun wx hx => rd_leaf1t p s hs i ov _ tw (restText fs R) ht wx hx)).mono ?_
        rintro e w' ⟨rfl, hfr, hM'⟩
        exact ⟨hfr, .inl ⟨_, _, [], i + 4, rfl, hM', hand_leaf ⟨by decide, by decide⟩ ⟨by decide, by decide⟩ (by decide), drop_app ht, ⟨by omega, app_le ht (by simp)⟩⟩⟩
    · have e : k = 2 := e
      have e1 : -1000000000000 ≤ n ∧ n ≤ 1000000000000 := e1
      have e2 : x = ⟨#[]⟩ := e2
      obtain rfl : keys = [] := List.length_eq_zero_iff.1 e3
      obtain rfl : kids = [] := List.length_eq_zero_iff.1 e4
      subst e e2
      rw [brac2] at ht
      obtain ⟨b, r, h1, h2⟩ := itoa_head n
      obtain ⟨⟨o1, -, -, -⟩, o2, o3⟩ := opens_num h2
      obtain ⟨n1, n2, -⟩ := nextB_drop (b := b) (l := r ++ restText fs R) (by rw [ht, h1]; rfl)
      refine (beginLb hM hLd hp (by omega) (by rw [n1]; exact o1) (by rw [n1]; exact o2) (by rw [n1]; exact o3) (Nat.le_of_lt n2) 2 n ⟨#[]⟩ (i + (Lib.itoa n).length) (fun wx hx => rd_leaf2 p s hs i ov _ tw n e1.1 e1.2 (restText fs R) (rest_head fs R hR) ht wx hx)).mono ?_
      rintro e w' ⟨rfl, hfr, hM'⟩
      exact ⟨hfr, .inl ⟨_, _, [], _, rfl, hM', hand_leaf ⟨by decide, by decide⟩ ⟨by omega, by omega⟩ (by decide), drop_app ht, ⟨by have := congrArg List.length h1; simp only [List.length_cons] at this; omega, app_le ht (by rw [h1]; simp)⟩⟩⟩
    · have e : k = 3 := e
      have e1 : n = 0 := e1
      have e2 : textOk x = true := e2
      obtain rfl : keys = [] := List.length_eq_zero_iff.1 e3
      obtain rfl : kids = [] := List.length_eq_zero_iff.1 e4
      subst e e1
      rw [brac3] at ht
      have e2 : textOk x = true := e2
      obtain ⟨r, h1⟩ := quote_head e2
      obtain ⟨n1, n2, -⟩ := nextB_drop (b := 34) (l := r ++ restText fs R) (by rw [ht, h1]; rfl)
      have hxs : x.size ≤ maxLen := by
        unfold textOk at e2
        simp only [Bool.and_eq_true, decide_eq_true_eq] at e2
        have := e2.1
        unfold maxLen
        omega
      refine (beginLb hM hLd hp (by omega) (by rw [n1]; rfl) (by rw [n1]; decide) (by rw [n1]; decide) (Nat.le_of_lt n2) 3 0 x (i + (quoteT x).data.toList.length) (fun wx hx => rd_leaf3 p s hs i ov _ tw x e2 (restText fs R) ht wx hx)).mono ?_
      rintro e w' ⟨rfl, hfr, hM'⟩
      exact ⟨hfr, .inl ⟨_, _, [], _, rfl, hM', hand_leaf ⟨by decide, by decide⟩ fz hxs, drop_app ht, ⟨by have := congrArg List.length h1; simp only [List.length_cons] at this; omega, app_le ht (by rw [h1]; simp)⟩⟩⟩
    · have e : k = 4 := e
      have e1 : n = 0 := e1
      have e2 : x = ⟨#[]⟩ := e2
      obtain rfl : keys = [] := List.length_eq_zero_iff.1 e3
      subst e e1 e2
      cases kids with
      | nil =>
        rw [brac_nil4] at ht
        refine (beginE4b hs hM hLd hp (by omega) (by omega) (restText fs R) ht).mono ?_
        rintro e w' ⟨rfl, hfr, hM'⟩
        exact ⟨hfr, .inl ⟨_, _, [], i + 2, rfl, hM', hand_leaf ⟨by decide, by decide⟩ fz (by decide), drop_app ht, ⟨by omega, app_le ht (by simp)⟩⟩⟩
      | cons y rr =>
        rw [brac_cons4] at ht
        obtain ⟨b, r, h1, o1, o2, -, -⟩ := brac_head (hkids 0 (by simp [RT.kids]))
        have h1 : y.brac = b :: r := h1
        have ht2 : s.data.toList.drop i = 91 :: (y.brac ++ (tailL 4 [] rr ++ restText fs R)) := by rw [ht]; simp
        obtain ⟨-, -, m3⟩ := nextB_drop ht2
        obtain ⟨q1, -, -⟩ := nextB_drop (b := b) (l := r ++ (tailL 4 [] rr ++ restText fs R)) (by rw [m3, h1]; rfl)
        refine (beginN4b hs hM hLd hp (by omega) (by omega) _ ht2 (by rw [q1]; exact o1) (by rw [q1]; exact o2)).mono ?_
        rintro e w' ⟨rfl, hfr, ov', hM'⟩
        refine ⟨hfr, .inr ⟨⟨4, [], [], ⟨#[]⟩, [], rr⟩, y, newLv 4 (.map none) [], ov', i + 1, rfl, rfl, .cons _ fs ls _ ho rfl rfl (.inl ⟨rfl, rfl, rfl⟩), ?_, m3, by omega⟩⟩
        have eb : begun (⟨4, [], [], ⟨#[]⟩, [], rr⟩ :: fs) = begun fs + 1 := by simp only [begun, sizeAll]; omega
        rw [eb]
        exact hM'
    · have e : k = 5 := e
      have e1 : n = 0 := e1
      have e2 : x = ⟨#[]⟩ := e2
      have e3 : keys.length = kids.length := e3
      have e4 : keysOk keys = true := e4
      subst e e1 e2
      cases kids with
      | nil =>
        have e5 : keys = [] := List.length_eq_zero_iff.1 e3
        subst e5
        rw [brac_nil5] at ht
        refine (beginE5b hs hM hLd hp (by omega) (by omega) (restText fs R) ht).mono ?_
        rintro e w' ⟨rfl, hfr, hM'⟩
        exact ⟨hfr, .inl ⟨_, _, [], i + 2, rfl, hM', hand_leaf ⟨by decide, by decide⟩ fz (by decide), drop_app ht, ⟨by omega, app_le ht (by simp)⟩⟩⟩
      | cons y rr =>
        cases keys with
        | nil => exact absurd e3 (by show ¬ (0 = rr.length + 1); omega)
        | cons key rk =>
          rw [brac_cons5 _ _ _ _ _ _ (show rk.length = rr.length by have e3 : rk.length + 1 = rr.length + 1 := e3; omega)] at ht
          have e4 : keysOk (key :: rk) = true := e4
          have hok : textOk key = true := (keysOk_out e4 0 (by simp)).1
          have ht2 : s.data.toList.drop i = 123 :: ((quoteT key).data.toList ++ 58 :: (y.brac ++ (tailL 5 rk rr ++ restText fs R))) := by rw [ht]; simp
          obtain ⟨-, -, m3⟩ := nextB_drop ht2
          have m4 := drop_app m3
          obtain ⟨-, -, m5⟩ := nextB_drop m4
          refine (beginN5b hs hM hLd hp (by omega) (by omega) _ key hok ht2).mono ?_
          rintro e w' ⟨rfl, hfr, ov', mb, hM'⟩
          refine ⟨hfr, .inr ⟨⟨5, [], [], key, rk, rr⟩, y, { newLv 5 (.map (some mb)) [mb] with key := key, ks := [key] }, ov', i + 1 + (quoteT key).data.toList.length + 1, rfl, rfl, .cons _ fs ls _ ho rfl rfl (.inr ⟨rfl, rfl, rfl, rfl⟩), ?_, m5, by omega⟩⟩
          have eb : begun (⟨5, [], [], key, rk, rr⟩ :: fs) = begun fs + 1 := by simp only [begun, sizeAll]; omega
          rw [eb]
          exact hM'
end Go.Proofs.YtmcjghhmcmkomaaGreatDoor
