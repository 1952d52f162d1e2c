/-
  What is proved: the program's treeOf at the braced text of a right tree, with nothing but blanks behind it: that tree, in memory of its own; its Unbraced answers it and -1.; what the program takes a line for whose text is a value alone; condition: the library's MaxLen is a number.; the program's linesOf at a text of one line hands on that line, with the number 0, and ends; condition: the library's MaxLen is a number.; the program's entryOf of a line whose text is a value alone: that value; condition: the library's MaxLen is a number.; the program's outliner takes a line whose text is a right tree in braces, as its first: that tree is what it tells.
-/
import Derived.Test.YtmcjghhmcmkomaaGreatDoorPartAN
import Derived.Test.YtmcjghhmcmkomaaGreatDoorPartAJ
import Derived.Test.YtmcjghhmcmkomaaGreatDoorPartAM
import Derived.Test.YtmcjghhmcmkomaaGreatDoorPartAB
import Derived.Test.YtmcjghhmcmkomaaGreatDoorShelf
import Derived.RangeFuncNested
import Derived.RangeFuncBound
import Derived.RangeFuncCalls
import Derived.RangeFuncLeaves
import Derived.Shelf.Abstract
import Derived.Shelf.RegionOpen
import Derived.OwnWalkIn
import Derived.TacticsInMore
import Derived.LoopNIn
import Derived.LoopIn
/- the program's treeOf at the braced text of a right tree, with nothing but blanks behind it: that tree, in memory of its own; its Unbraced answers it and -1. -/
namespace Go.Proofs.YtmcjghhmcmkomaaGreatDoor
open Go Go.RowKit

theorem blk_nextR {w w' : World} {b : Nat} {o : Obj} (h : w.heap[b]? = some o) (hb : Below w.heap.size w w') : w'.heap[b]? = some o := (hb.block b (Array.getElem?_eq_some_iff.1 h).1).trans h

theorem blank_head {bl : List UInt8} (h : ∀ b ∈ bl, blkB b = true) : isDig (bl.headD 0) = false := by
  cases bl with
  | nil => decide
  | cons b bl =>
    have h1 := h b (by simp)
    show isDig b = false
    unfold blkB at h1
    simp only [Bool.or_eq_true, beq_iff_eq] at h1
    rcases h1 with ((rfl | rfl) | rfl) | rfl <;> decide

set_option maxRecDepth 100000 in
set_option maxHeartbeats 4000000 in
theorem impl_treeOf (T : RT) (hok : treeOk T = true) (s : ByteArray) (hs : s.size ≤ 6000) (bl : List UInt8) (hbl : ∀ b ∈ bl, blkB b = true) (ht : s.data.toList = T.brac ++ bl) (w : World) :
    Calls Tryz.prog 31 #[.string s] w fun e w' => ∃ kx dx F, e = .returned (.tuple #[.agg #[.int .i64 T.k, .int .i64 T.n, .string T.s, kx, dx], .nilIface]) ∧ Lies w' T kx dx F ∧ Fresh w w' F ∧ Below w.heap.size w w' := by
  obtain ⟨hz, hr⟩ := treeOk_out hok
  have HTr := Lib.hid (fun (wx : World) (p : Nat) (h : Rd wx p s 0 (.slice none 0 0) 0 (-1)) => tree_any (w := wx) (by omega) (blank_head hbl) hr hz (by simpa using ht) h)
  have HOk := Lib.hid (fun (wx : World) (kv dv : Value) (F : List Nat) (hl : Lies wx T kv dv F) => impl_treeOk T wx kv dv F hl)
  rw [hok] at HOk
  have hz' : (T.size : Int) ≤ 200 := by omega
  have hs' : (s.size : Int) ≤ 6000 := by omega
  have HE := Lib.hid (fun (wx : World) (p j : Nat) (ov : Value) (h : Rd wx p s j ov T.size (-1)) (hd : s.data.toList.drop j = bl) (hj : j ≤ s.size) => rd_end p s (by unfold maxLen; omega) j ov _ _ bl hbl hd hj wx h)
  have hb0 := ((Below.refl _ w).alloc (Nat.le_refl _) (.cells #[.int .i64 0, .int .i64 0, .string ⟨#[]⟩, .slice none 0 0, .slice none 0 0] 27)).alloc (by simp) (.cells #[.string s, .int .i64 0, .slice none 0 0, .int .i64 0, .int .i64 (-1)] 97)
  obtain ⟨hz1, hz2⟩ := zero_blocks2 w (.cells #[.int .i64 0, .int .i64 0, .string ⟨#[]⟩, .slice none 0 0, .slice none 0 0] 27) (.cells #[.string s, .int .i64 0, .slice none 0 0, .int .i64 0, .int .i64 (-1)] 97)
  have H0 : Hid (((w.alloc (.cells #[.int .i64 0, .int .i64 0, .string ⟨#[]⟩, .slice none 0 0, .slice none 0 0] 27)).alloc (.cells #[.string s, .int .i64 0, .slice none 0 0, .int .i64 0, .int .i64 (-1)] 97)).heap[w.heap.size]? = some (.cells #[.int .i64 0, .int .i64 0, .string ⟨#[]⟩, .slice none 0 0, .slice none 0 0] 27 (0, 0)) ∧ Rd ((w.alloc (.cells #[.int .i64 0, .int .i64 0, .string ⟨#[]⟩, .slice none 0 0, .slice none 0 0] 27)).alloc (.cells #[.string s, .int .i64 0, .slice none 0 0, .int .i64 0, .int .i64 (-1)] 97)) (w.heap.size + 1) s 0 (.slice none 0 0) 0 (-1) ∧ ((w.alloc (.cells #[.int .i64 0, .int .i64 0, .string ⟨#[]⟩, .slice none 0 0, .slice none 0 0] 27)).alloc (.cells #[.string s, .int .i64 0, .slice none 0 0, .int .i64 0, .int .i64 (-1)] 97)).heap.size = w.heap.size + 2 ∧ Below w.heap.size w ((w.alloc (.cells #[.int .i64 0, .int .i64 0, .string ⟨#[]⟩, .slice none 0 0, .slice none 0 0] 27)).alloc (.cells #[.string s, .int .i64 0, .slice none 0 0, .int .i64 0, .int .i64 (-1)] 97))) := ⟨hz1, hz2, by simp, hb0⟩
  clear hz1 hz2 hb0 ht hbl
  go_enter Tryz.func31, Tryz.ntmps31
  go_wp2_with fail
  generalize (w.alloc (.cells #[.int .i64 0, .int .i64 0, .string ⟨#[]⟩, .slice none 0 0, .slice none 0 0] 27)).alloc (.cells #[.string s, .int .i64 0, .slice none 0 0, .int .i64 0, .int .i64 (-1)] 97) = W at *
  refine (HTr.out _ _ H0.out.2.1).mono ?_
  rintro e w2 ⟨kx, dx, F, ov, j, rfl, hl, hf, hrd, hdr, hj, hkp⟩
  obtain ⟨⟨o1, c1, rfl⟩, ⟨o2, c2, rfl⟩⟩ := hl.slices
  -- behind the tree: t's block
  have hb2 := (Below.refl _ w2).alloc (Nat.le_refl _) (.cells #[.int .i64 T.k, .int .i64 T.n, .string T.s, .slice o1 T.keys.length c1, .slice o2 T.kids.length c2] 27)
  have hsz := H0.out.2.2.1
  have hr2 : w2.heap[w.heap.size]? = _ := (hkp.block w.heap.size (by omega) (by omega)).trans H0.out.1
  have hlt2 : W.heap.size ≤ w2.heap.size := hkp.size
  have hT3 := heap_last w2 (.cells #[.int .i64 T.k, .int .i64 T.n, .string T.s, .slice o1 T.keys.length c1, .slice o2 T.kids.length c2] 27)
  have HEn := Lib.hid (HE.out _ _ j ov (hrd.same (hb2.block _ hrd.lt)) hdr hj)
  have hB2 : Below w.heap.size w w2 := H0.out.2.2.2.trans ⟨hkp.os, hkp.tape, hkp.output, hkp.size, fun b hb => hkp.block b (by omega) (by omega)⟩
  have H3 : Hid (Lies (w2.alloc (.cells #[.int .i64 T.k, .int .i64 T.n, .string T.s, .slice o1 T.keys.length c1, .slice o2 T.kids.length c2] 27)) T (.slice o1 T.keys.length c1) (.slice o2 T.kids.length c2) F ∧ Fresh W (w2.alloc (.cells #[.int .i64 T.k, .int .i64 T.n, .string T.s, .slice o1 T.keys.length c1, .slice o2 T.kids.length c2] 27)) F ∧ (w2.alloc (.cells #[.int .i64 T.k, .int .i64 T.n, .string T.s, .slice o1 T.keys.length c1, .slice o2 T.kids.length c2] 27)).heap[w.heap.size]? = some (.cells #[.int .i64 0, .int .i64 0, .string ⟨#[]⟩, .slice none 0 0, .slice none 0 0] 27 (0, 0)) ∧ (w2.alloc (.cells #[.int .i64 T.k, .int .i64 T.n, .string T.s, .slice o1 T.keys.length c1, .slice o2 T.kids.length c2] 27)).heap[w2.heap.size]? = some (.cells #[.int .i64 T.k, .int .i64 T.n, .string T.s, .slice o1 T.keys.length c1, .slice o2 T.kids.length c2] 27 (0, 0)) ∧ Below w.heap.size w (w2.alloc (.cells #[.int .i64 T.k, .int .i64 T.n, .string T.s, .slice o1 T.keys.length c1, .slice o2 T.kids.length c2] 27))) :=
    ⟨hl.stay hb2 (Nat.le_refl _), hf.carry fun y hy => hb2.block y (hl.lt y hy), (hb2.block _ (by omega)).trans hr2, hT3, hB2.trans (hb2.mono hB2.size)⟩
  have HSz : Hid (W.heap.size = w.heap.size + 2 ∧ W.heap.size ≤ w2.heap.size) := ⟨hsz, hlt2⟩
  clear hl hf hrd hdr hj hkp hb2 hr2 hT3 hB2 hsz hlt2
  go_wp2_with fail
  refine HEn.out.mono ?_
  rintro e w4 ⟨rfl, hrd4, hg4⟩
  have hl2 := HSz.out
  have keep : ∀ b, b < (w2.alloc (.cells #[.int .i64 T.k, .int .i64 T.n, .string T.s, .slice o1 T.keys.length c1, .slice o2 T.kids.length c2] 27)).heap.size → b ≠ w.heap.size + 1 → w4.heap[b]? = _ := fun b hb hne => hg4.block b hb (fun e => hne (by injection e with e))
  have hsz3 : (w2.alloc (.cells #[.int .i64 T.k, .int .i64 T.n, .string T.s, .slice o1 T.keys.length c1, .slice o2 T.kids.length c2] 27)).heap.size = w2.heap.size + 1 := by simp
  have H4 : Hid (Lies w4 T (.slice o1 T.keys.length c1) (.slice o2 T.kids.length c2) F ∧ Fresh W w4 F ∧ w4.heap[w.heap.size]? = some (.cells #[.int .i64 0, .int .i64 0, .string ⟨#[]⟩, .slice none 0 0, .slice none 0 0] 27 (0, 0)) ∧ w4.heap[w2.heap.size]? = some (.cells #[.int .i64 T.k, .int .i64 T.n, .string T.s, .slice o1 T.keys.length c1, .slice o2 T.kids.length c2] 27 (0, 0)) ∧ Below w.heap.size w w4) :=
    ⟨H3.out.1.carry fun y hy => keep y (H3.out.1.lt y hy) (by have := H3.out.2.1.old y hy; omega), H3.out.2.1.carry fun y hy => keep y (H3.out.1.lt y hy) (by have := H3.out.2.1.old y hy; omega), (keep _ (by omega) (by omega)).trans H3.out.2.2.1, (keep _ (by omega) (by omega)).trans H3.out.2.2.2.1, H3.out.2.2.2.2.grown hg4 (by omega) (fun k e => by injection e with e; omega)⟩
  obtain ⟨r0, r1, r2, r3, r4, r5⟩ := hrd4.five
  obtain ⟨t0, t1, t2, t3, t4, t5⟩ := five H4.out.2.2.2.1
  have HLs := Lib.hid H4.out.1
  clear keep hsz3 hg4 hrd4 H3 hl2
  go_wp2_with fail
  refine (HOk.out _ _ _ _ HLs.out).mono ?_
  rintro e w5 ⟨rfl, hb5⟩
  have H5 : Hid (Lies w5 T (.slice o1 T.keys.length c1) (.slice o2 T.kids.length c2) F ∧ Fresh W w5 F ∧ w5.heap[w.heap.size]? = some (.cells #[.int .i64 0, .int .i64 0, .string ⟨#[]⟩, .slice none 0 0, .slice none 0 0] 27 (0, 0)) ∧ Below w.heap.size w w5) :=
    ⟨H4.out.1.stay hb5 (Nat.le_refl _), H4.out.2.1.carry fun y hy => hb5.block y (H4.out.1.lt y hy), blk_nextR H4.out.2.2.1 hb5, H4.out.2.2.2.2.trans (hb5.mono H4.out.2.2.2.2.size)⟩
  have ht5 := blk_nextR H4.out.2.2.2.1 hb5
  clear r0 r1 r2 r3 r4 r5 t0 t1 t2 t3 t4 t5 H4 HLs hb5
  obtain ⟨t0, t1, t2, t3, t4, t5⟩ := five ht5
  obtain ⟨z0, z1, z2, z3, z4, z5⟩ := five H5.out.2.2.1
  clear ht5
  go_wp2_with fail
  have hs2 := HSz.out
  have keep : ∀ y ∈ F, (set5 w5 w.heap.size 0 (.int .i64 T.k) (.int .i64 T.n) (.string T.s) (.slice o1 T.keys.length c1) (.slice o2 T.kids.length c2)).heap[y]? = w5.heap[y]? := fun y hy => set5_other _ _ _ _ _ _ _ _ _ (by have := H5.out.2.1.old y hy; omega)
  exact bodyPost_ret (ret_node2 Tryz.results31 rfl rfl (set5_end H5.out.2.2.1 _ _ _ _ _)) rfl ⟨_, _, F, rfl, H5.out.1.carry keep, (H5.out.2.1.carry keep).earlier (by omega), set5_below H5.out.2.2.2 (Nat.le_refl _) _ _ _ _ _ _⟩

set_option maxRecDepth 100000 in
set_option maxHeartbeats 2000000 in
/-- No error: the tree, and -1. -/
theorem impl_placed (k n : Int) (s : ByteArray) (o1 o2 : Option Addr) (l1 c1 l2 c2 : Nat) (w : World) :
    Calls Tryz.prog 21 #[.agg #[.int .i64 k, .int .i64 n, .string s, .slice o1 l1 c1, .slice o2 l2 c2], .nilIface] w fun e w' => e = .returned (.tuple #[.agg #[.int .i64 k, .int .i64 n, .string s, .slice o1 l1 c1, .slice o2 l2 c2], .int .i64 (-1)]) ∧ Below w.heap.size w w' := by
  go_enter Tryz.func21, Tryz.ntmps21
  go_wp2_with fail
  exact bodyPost_ret (ret_node2 Tryz.results21 rfl rfl (zero_blocks2 w _ _).2) rfl ⟨rfl, ((Below.refl _ w).alloc (Nat.le_refl _) _).alloc (by simp) _⟩

set_option maxRecDepth 100000 in
set_option maxHeartbeats 2000000 in
theorem impl_unbraced (T : RT) (hok : treeOk T = true) (s : ByteArray) (hs : s.size ≤ 6000) (bl : List UInt8) (hbl : ∀ b ∈ bl, blkB b = true) (ht : s.data.toList = T.brac ++ bl) (w : World) :
    Calls Tryz.prog 14 #[.string s] w fun e w' => ∃ kx dx F, e = .returned (.tuple #[.agg #[.int .i64 T.k, .int .i64 T.n, .string T.s, kx, dx], .int .i64 (-1)]) ∧ Lies w' T kx dx F ∧ Fresh w w' F ∧ Below w.heap.size w w' := by
  have HTr := Lib.hid (fun (wx : World) => impl_treeOf T hok s hs bl hbl ht wx)
  clear ht hbl hs hok
  have hb0 := (Below.refl _ w).alloc (Nat.le_refl _) (.cells #[.int .i64 0, .int .i64 0, .string ⟨#[]⟩, .slice none 0 0, .slice none 0 0] 27)
  have HZ := Lib.hid (And.intro (heap_last w (.cells #[.int .i64 0, .int .i64 0, .string ⟨#[]⟩, .slice none 0 0, .slice none 0 0] 27)) hb0)
  clear hb0
  go_enter Tryz.func14, Tryz.ntmps14
  go_wp2_with fail
  refine (HTr.out _).mono ?_
  rintro e w1 ⟨kx, dx, F, rfl, hl, hf, hb⟩
  obtain ⟨⟨o1, c1, rfl⟩, ⟨o2, c2, rfl⟩⟩ := hl.slices
  go_wp2_with fail
  refine (impl_placed _ _ _ _ _ _ _ _ _ _).mono ?_
  rintro e w2 ⟨rfl, hb2⟩
  have hb12 := hb.trans (hb2.mono hb.size)
  have hz2 := blk_nextR HZ.out.1 hb12
  have HF : Hid (Lies w2 T (.slice o1 T.keys.length c1) (.slice o2 T.kids.length c2) F ∧ Fresh w w2 F ∧ (∀ y ∈ F, y ≠ w.heap.size) ∧ Below w.heap.size w w2) := ⟨hl.stay hb2 (Nat.le_refl _), (hf.carry fun y hy => hb2.block y (hl.lt y hy)).earlier (by simp), fun y hy e => by have := hf.old y hy; simp at this; omega, HZ.out.2.trans (hb12.mono HZ.out.2.size)⟩
  have HZ2 := Lib.hid hz2
  obtain ⟨z0, z1, z2, z3, z4, z5⟩ := five hz2
  clear hl hf hb hb2 hb12 hz2
  go_wp2_with fail
  have keep : ∀ y ∈ F, (set5 w2 w.heap.size 0 (.int .i64 T.k) (.int .i64 T.n) (.string T.s) (.slice o1 T.keys.length c1) (.slice o2 T.kids.length c2)).heap[y]? = w2.heap[y]? := fun y hy => set5_other _ _ _ _ _ _ _ _ _ (HF.out.2.2.1 y hy)
  exact bodyPost_ret (ret_node2 Tryz.results14 rfl rfl (set5_end HZ2.out _ _ _ _ _)) rfl ⟨_, _, F, rfl, HF.out.1.carry keep, HF.out.2.1.carry keep, set5_below HF.out.2.2.2 (Nat.le_refl _) _ _ _ _ _ _⟩
end Go.Proofs.YtmcjghhmcmkomaaGreatDoor

/- what the program takes a line for whose text is a value alone; condition: the library's MaxLen is a number. -/
namespace Go.Proofs.YtmcjghhmcmkomaaGreatDoor
open Go Go.RowKit

theorem list_size {s : ByteArray} {l : List UInt8} (h : s.data.toList = l) : s.size = l.length := by rw [← h]; simp
theorem toList_of {s : ByteArray} {l : List UInt8} (h : s.data.toList = l) : s.toList = l := by rw [ByteArray.toList_eq]; exact h

theorem lone_head {s : ByteArray} (h : Lone s) : ∃ b r, s.data.toList = b :: r ∧ b ≠ 35 ∧ b ≠ 32 ∧ (isLet b = false ∨ Lib.cut s.data.toList [58] = (s.data.toList, [], false) ∧ noWord s = false) ∧ (b = 45 → ∃ c r', r = c :: r' ∧ c ≠ 32) := by
  rcases h.form with ⟨b, r, e, h1, h2, h3, h4, h5⟩ | ⟨l, h1, e⟩ | e | e | e
  · exact ⟨b, r, e, h2, h3, .inl h1, h5⟩
  · exact ⟨34, _, e, by decide, by decide, .inl (by decide), fun h => absurd h (by decide)⟩
  · exact ⟨110, _, e, by decide, by decide, .inr ⟨by rw [e]; decide +kernel, by simp [noWord, toList_of e]⟩, fun h => absurd h (by decide)⟩
  · exact ⟨116, _, e, by decide, by decide, .inr ⟨by rw [e]; decide +kernel, by simp [noWord, toList_of e]⟩, fun h => absurd h (by decide)⟩
  · exact ⟨102, _, e, by decide, by decide, .inr ⟨by rw [e]; decide +kernel, by simp [noWord, toList_of e]⟩, fun h => absurd h (by decide)⟩

theorem lone_plain {s : ByteArray} (h : Lone s) : plainB s = false := by
  obtain ⟨b, r, e, -, -, h1 | ⟨-, h1⟩, -⟩ := lone_head h
  · have : goodL s.data.toList = false := by rw [e, goodL, h1]; rfl
    simp [plainB, this]
  · simp [plainB, h1]

theorem lone_cut {s : ByteArray} (h : Lone s) (hf : (Lib.cut s.data.toList [58]).2.2 = true) : plainB ⟨(Lib.cut s.data.toList [58]).1.toArray⟩ = false := by
  obtain ⟨b, r, e, -, -, h1 | ⟨h1, -⟩, -⟩ := lone_head h
  · unfold Lib.cut at hf ⊢
    split at hf
    · rename_i hi
      rw [if_pos hi]
      generalize (Lib.index s.data.toList [58]).toNat = n
      show plainB ⟨(s.data.toList.take n).toArray⟩ = false
      cases n with
      | zero => simp [plainB, ByteArray.size]
      | succ n =>
        have : goodL (⟨(s.data.toList.take (n + 1)).toArray⟩ : ByteArray).data.toList = false := by
          show goodL ((s.data.toList.take (n + 1)).toArray.toList) = false
          rw [List.toList_toArray, e, List.take_succ_cons, goodL, h1]; rfl
        simp only [plainB, this, Bool.and_false, Bool.false_and]
    · cases hf
  · rw [h1] at hf; cases hf

/-- The library's MaxLen is a number. -/
def MaxL (w : World) (m : Int) : Prop := w.cell? ⟨2, 0, none⟩ = some (.int .i64 m)
theorem MaxL.stay {w w' : World} {m : Int} {B : Nat} (h : MaxL w m) (hb : Below B w w') (hB : 2 < B) : MaxL w' m := (hb.cell (p := ⟨2, 0, none⟩) (by exact hB)).trans h
theorem MaxL.lt {w : World} {m : Int} (h : MaxL w m) : 2 < w.heap.size := World.block_lt_of_cell? _ _ h

set_option maxRecDepth 100000 in
set_option maxHeartbeats 2000000 in
theorem impl_cutPrefix_yes (s p : ByteArray) (h : Lib.hasPrefix s.data.toList p.data.toList = true) (hp : p.size ≤ s.size) (w : World) :
    Calls Tryz.prog 87 #[.string s, .string p] w fun e w' => e = .returned (.tuple #[.string (s.extract p.size s.size), .bool true]) ∧ ∃ n, w' = w.drewN n := by
  have HP := Lib.hid (fun (wx : World) => Tryz.stringslite_HasPrefix s p wx)
  rw [h] at HP
  have g0 : (0 : Int) ≤ (p.size : Int) := by omega
  have g1 : (p.size : Int) ≤ (s.size : Int) := by omega
  have H2 : Hid (∀ wx, Calls Tryz.prog 113 #[.string s, .string p] wx fun e w' => e = .returned (.tuple #[.string (s.extract p.size s.size), .bool true]) ∧ ∃ n, w' = wx.drewN n) := fun wx => by
    go_enter Tryz.func113, Tryz.ntmps113
    go_wp2_with (first
      | (go_at_call 132; refine (HP.out _).mono ?_; rintro e w1 ⟨rfl, e1⟩; subst e1)
      | fail)
    go_ret2
    exact ⟨rfl, 0, rfl⟩
  go_enter Tryz.func87, Tryz.ntmps87
  go_wp2_with (first
    | (go_at_call 113; refine (H2.out _).mono ?_; rintro e w1 ⟨rfl, n, rfl⟩)
    | fail)
  go_ret2
  exact ⟨rfl, n, rfl⟩

set_option maxRecDepth 100000 in
set_option maxHeartbeats 2000000 in
theorem impl_cutPrefix_no (s p : ByteArray) (h : Lib.hasPrefix s.data.toList p.data.toList = false) (w : World) :
    Calls Tryz.prog 87 #[.string s, .string p] w fun e w' => e = .returned (.tuple #[.string s, .bool false]) ∧ ∃ n, w' = w.drewN n := by
  have HP := Lib.hid (fun (wx : World) => Tryz.stringslite_HasPrefix s p wx)
  rw [h] at HP
  have H2 : Hid (∀ wx, Calls Tryz.prog 113 #[.string s, .string p] wx fun e w' => e = .returned (.tuple #[.string s, .bool false]) ∧ ∃ n, w' = wx.drewN n) := fun wx => by
    go_enter Tryz.func113, Tryz.ntmps113
    go_wp2_with (first
      | (go_at_call 132; refine (HP.out _).mono ?_; rintro e w1 ⟨rfl, e1⟩; subst e1)
      | fail)
    go_ret2
    exact ⟨rfl, 0, rfl⟩
  go_enter Tryz.func87, Tryz.ntmps87
  go_wp2_with (first
    | (go_at_call 113; refine (H2.out _).mono ?_; rintro e w1 ⟨rfl, n, rfl⟩)
    | fail)
  go_ret2
  exact ⟨rfl, n, rfl⟩

theorem mis_ne {v : Value} (h : Misfit v) : v ≠ .nilIface := by
  obtain ⟨u, rfl⟩ := h
  intro e; cases e

set_option maxRecDepth 100000 in
set_option maxHeartbeats 4000000 in
theorem impl_cutKey (s : ByteArray) (h : Lone s) (m : Int) (w : World) (hm : MaxL w m) :
    Calls Tryz.prog 88 #[.string s] w fun e w' => e = .returned (.tuple #[.string ⟨#[]⟩, .string ⟨#[]⟩, .bool false]) ∧ Below w.heap.size w w' := by
  have hsz := h.size
  have HC := Lib.hid (fun (wx : World) (hx : MaxL wx m) => Tryz.strings_Cut s ⟨#[58]⟩ m wx (by omega) hx)
  have hpl := lone_cut h
  have hp2 : ∀ wx, Calls Tryz.prog 54 #[.string ⟨(Lib.cut s.data.toList [58]).1.toArray⟩] wx fun e w' => e = .returned (.bool (plainB ⟨(Lib.cut s.data.toList [58]).1.toArray⟩)) ∧ w' = wx := fun wx => impl_plainOk _ (by
    show (Lib.cut s.data.toList [58]).1.toArray.size ≤ maxLen
    rw [List.size_toArray]
    have : (Lib.cut s.data.toList [58]).1.length ≤ s.size := by
      unfold Lib.cut
      split
      · simp only [List.length_take]; have : s.data.toList.length = s.size := by simp
        omega
      · show s.data.toList.length ≤ _; simp
    unfold maxLen; omega) wx
  have HP := Lib.hid hp2
  have HQ : Hid (∀ (wx : World) (p : Nat), Rd wx p s 0 (.slice none 0 0) 0 0 → (Calls Tryz.prog 114 #[.pointer (some ⟨p, 0, none⟩)] wx fun e w' => (∃ v, e = .returned (.tuple #[.string ⟨#[]⟩, v]) ∧ Misfit v) ∧ Below wx.heap.size wx w') ∨ (∃ l : ByteArray, Calls Tryz.prog 114 #[.pointer (some ⟨p, 0, none⟩)] wx fun e w' => e = .returned (.tuple #[.string l, .nilIface]) ∧ Rd w' p s s.size (.slice none 0 0) 0 0 ∧ wx.grownBy w' (some p))) := fun wx p hr => by
    rcases h.form with ⟨b, r, e, h1, h2, h3, h4, h5⟩ | ⟨l, h1, e⟩ | e | e | e
    · exact .inl (rd_quoted_no p s 0 (Nat.zero_le _) _ _ _ (by rw [(nextB_drop (b := b) (l := r) (by simpa using e)).1]; exact h4) wx hr)
    · refine .inr ⟨⟨l.toArray⟩, (rd_quoted p s (by omega) 0 _ _ _ l [] h1 (by simpa using e) wx hr).mono ?_⟩
      rintro e' w' ⟨rfl, h6, h7⟩
      have hl : 0 + (quoteL l).length = s.size := by rw [list_size e]; simp [quoteL]
      rw [hl] at h6
      exact ⟨rfl, h6, h7⟩
    · exact .inl (rd_quoted_no p s 0 (Nat.zero_le _) _ _ _ (by rw [(nextB_drop (b := 110) (l := [117, 108, 108]) (by simpa using e)).1]; decide) wx hr)
    · exact .inl (rd_quoted_no p s 0 (Nat.zero_le _) _ _ _ (by rw [(nextB_drop (b := 116) (l := [114, 117, 101]) (by simpa using e)).1]; decide) wx hr)
    · exact .inl (rd_quoted_no p s 0 (Nat.zero_le _) _ _ _ (by rw [(nextB_drop (b := 102) (l := [97, 108, 115, 101]) (by simpa using e)).1]; decide) wx hr)
  have HWd := Lib.hid (fun (wx : World) (p : Nat) (hr : Rd wx p s s.size (.slice none 0 0) 0 0) => rd_word_no p s s.size (Nat.le_refl _) _ _ _ (by rw [nextB_out (by omega)]; decide) wx hr)
  have HM := Lib.hid hm
  clear h hm hp2
  have eS : (⟨#[58]⟩ : ByteArray).data.toList = [58] := rfl
  rw [eS] at HC
  generalize hc1 : (Lib.cut s.data.toList [58]).1 = c1 at *
  generalize (Lib.cut s.data.toList [58]).2.1 = c2 at *
  generalize (Lib.cut s.data.toList [58]).2.2 = fo at *
  clear hc1 eS
  have key : ∀ wx : World, Below w.heap.size w wx → True := fun _ _ => trivial
  cases fo with
  | false =>
    clear hpl HP
    go_enter Tryz.func88, Tryz.ntmps88
    go_wp2_with fail
    refine (HC.out _ HM.out).mono ?_
    rintro e w1 ⟨rfl, q, hq⟩
    have HB1 : Hid (Below w.heap.size w w1) := by
      rw [hq]
      exact blw_drewN (Below.refl _ _) _
    clear hq
    go_wp2_with fail
    have HR1 : Hid (Rd (w1.alloc (.cells #[.string s, .int .i64 0, .slice none 0 0, .int .i64 0, .int .i64 0] 97)) w1.heap.size s 0 (.slice none 0 0) 0 0) := heap_last w1 _
    have HB2 : Hid (Below w.heap.size w (w1.alloc (.cells #[.string s, .int .i64 0, .slice none 0 0, .int .i64 0, .int .i64 0] 97))) := HB1.out.alloc HB1.out.size _
    have HPl : Hid (w.heap.size ≤ w1.heap.size) := HB1.out.size
    rcases HQ.out _ _ HR1.out with hq | ⟨l, hq⟩
    · refine hq.mono ?_
      rintro e w2 ⟨⟨v, rfl, u, rfl⟩, hb⟩
      have HB3 := Lib.hid (HB2.out.trans (hb.mono HB2.out.size))
      clear hq hb HQ HWd
      go_wp2
      go_ret3
      exact ⟨rfl, HB3.out⟩
    · refine hq.mono ?_
      rintro e w2 ⟨rfl, hr, hg⟩
      have HB3 : Hid (Below w.heap.size w w2) := HB2.out.grown hg HB2.out.size (fun k e => by injection e with e; have := HPl.out; omega)
      have HW := Lib.hid (HWd.out _ _ hr)
      clear hq hr hg HQ HWd
      go_wp2_with fail
      refine HW.out.mono ?_
      rintro e w3 ⟨⟨v, rfl, u, rfl⟩, hb⟩
      have HB4 := Lib.hid (HB3.out.trans (hb.mono HB3.out.size))
      clear hb HW
      go_wp2
      go_ret3
      exact ⟨rfl, HB4.out⟩
  | true =>
    have hb := hpl rfl
    rw [hb] at HP
    clear hpl hb
    go_enter Tryz.func88, Tryz.ntmps88
    go_wp2_with fail
    refine (HC.out _ HM.out).mono ?_
    rintro e w1 ⟨rfl, q, hq⟩
    have HB1 : Hid (Below w.heap.size w w1) := by
      rw [hq]
      exact blw_drewN (Below.refl _ _) _
    clear hq
    go_wp2_with (first
      | (go_at_call 54; refine (HP.out _).mono ?_; rintro e w2 ⟨rfl, e2⟩; subst w2)
      | fail)
    have HR1 : Hid (Rd (w1.alloc (.cells #[.string s, .int .i64 0, .slice none 0 0, .int .i64 0, .int .i64 0] 97)) w1.heap.size s 0 (.slice none 0 0) 0 0) := heap_last w1 _
    have HB2 : Hid (Below w.heap.size w (w1.alloc (.cells #[.string s, .int .i64 0, .slice none 0 0, .int .i64 0, .int .i64 0] 97))) := HB1.out.alloc HB1.out.size _
    have HPl : Hid (w.heap.size ≤ w1.heap.size) := HB1.out.size
    rcases HQ.out _ _ HR1.out with hq | ⟨l, hq⟩
    · refine hq.mono ?_
      rintro e w2 ⟨⟨v, rfl, u, rfl⟩, hb⟩
      have HB3 := Lib.hid (HB2.out.trans (hb.mono HB2.out.size))
      clear hq hb HQ HWd
      go_wp2
      go_ret3
      exact ⟨rfl, HB3.out⟩
    · refine hq.mono ?_
      rintro e w2 ⟨rfl, hr, hg⟩
      have HB3 : Hid (Below w.heap.size w w2) := HB2.out.grown hg HB2.out.size (fun k e => by injection e with e; have := HPl.out; omega)
      have HW := Lib.hid (HWd.out _ _ hr)
      clear hq hr hg HQ HWd
      go_wp2_with fail
      refine HW.out.mono ?_
      rintro e w3 ⟨⟨v, rfl, u, rfl⟩, hb⟩
      have HB4 := Lib.hid (HB3.out.trans (hb.mono HB3.out.size))
      clear hb HW
      go_wp2
      go_ret3
      exact ⟨rfl, HB4.out⟩
end Go.Proofs.YtmcjghhmcmkomaaGreatDoor

/- the program's linesOf at a text of one line hands on that line, with the number 0, and ends; condition: the library's MaxLen is a number. -/
namespace Go.Proofs.YtmcjghhmcmkomaaGreatDoor
open Go Go.RowKit Go.Shelf

attribute [local go_sem] Oper.semAt_some

/-- What a round is handed. -/
def encL (line : ByteArray) (_ : Unit) : Array Value := #[.int .i64 0, .string line]

def strZ (v : Value) : Nat := match v with | .string b => b.size | _ => 0

set_option maxRecDepth 100000 in
set_option maxHeartbeats 4000000 in
theorem lines_stops (n : Nat) (hn : 2 ≤ n) (s line : ByteArray) (hs : s.size ≤ 6001) (hne : ¬ s.size = 0) (hcut : ⟨(Lib.cut s.data.toList [10]).1.toArray⟩ = line ∧ ⟨(Lib.cut s.data.toList [10]).2.1.toArray⟩ = (⟨#[]⟩ : ByteArray)) (m : Int) (B : Nat) (Kp : World → World → Prop) (w : World) (hB : B < w.heap.size) (hm : MaxL w m) (hbox : w.cell? ⟨B, 0, none⟩ = some (.string s)) :
    SeqStopsK Fence.wide n Tryz.prog 79 #[.pointer (some ⟨B, 0, none⟩)] (encL line) Kp (fun xs => xs = [()]) (fun pre => pre = [()]) 1 w := fun l J Jx W hW hJ hJx hY h0 => by
  have hbW : W.cell? ⟨B, 0, none⟩ = some (.string s) := (hW.cell (p := ⟨B, 0, none⟩) (by show B < _; omega)).trans hbox
  have hmW : MaxL W m := hm.stay hW hm.lt
  have HC := Lib.hid (Tryz.strings_Cut s ⟨#[10]⟩ m W (by omega) hmW)
  have eS : (⟨#[10]⟩ : ByteArray).data.toList = [10] := rfl
  rw [eS, hcut.1, hcut.2] at HC
  have hne' : (s.toList == []) = false := by
    rw [ByteArray.toList_eq]
    cases h : s.data.toList with
    | nil => exact absurd (list_size h) hne
    | cons x r => rfl
  refine callsIn_of_wp Tryz.func79 rfl trivial ?_ rfl
  simp only [Tryz.ntmps79, List.size_toArray, List.length_cons, List.length_nil, Nat.reduceAdd, Nat.reduceSub, Array.replicate_succ, Array.replicate_zero, List.push_toArray, List.append_toArray, List.nil_append, List.cons_append]
  gi_wp2
  gi_loopw [3, 4] (fun r q wr => (r = .string s ∧ q = .int .i64 0 ∧ wr = W) ∨ (r = .string ⟨#[]⟩ ∧ (∃ k, q = .int .i64 k) ∧ J [()] wr)) (fun r _ _ => strZ r)
  case atStart => exact .inl ⟨rfl, rfl, rfl⟩
  case round =>
    rcases hrel with ⟨rfl, rfl, rfl⟩ | ⟨rfl, ⟨k, rfl⟩, hJ1⟩
    · gi_wp2
      refine ⟨trivial, fun _ => by omega, ?_⟩
      refine (callsIn_wide.2 HC.out).mono ?_
      rintro e w1 ⟨rfl, q, hq⟩
      have hJd : J [] w1 := by
        rw [hq]
        exact hJ [] _ _ none h0 ⟨rfl, rfl, rfl, Nat.le_refl _, fun _ _ _ => rfl⟩ (fun r e => by cases e)
      clear hq
      obtain ⟨fn, tmps, assign, body, hy, hR⟩ := hY [] () w1 hJd (by simp)
      have hy2 : (Instr.yield l #[.int .i64 0, .string line]).run Tryz.prog w1 = .ok (.round l fn tmps assign body) w1 := hy
      clear hy
      gi_wp2
      refine ⟨fun _ => by omega, ?_⟩
      refine hR.mono ?_
      rintro e W2 (⟨rfl, hJ2, hk⟩ | ⟨rfl, hx2⟩)
      · gi_wp2
        exact ⟨.inr ⟨rfl, ⟨_, rfl⟩, hJ2⟩, by show 0 < s.size; omega⟩
      · gi_wp2
        refine bodyPost_ret (results_none Tryz.results79 _ _ _) rfl ?_
        exact ⟨⟨_, rfl⟩, .inr ⟨_, rfl, hx2⟩⟩
    · gi_wp2
      go_end0
      exact ⟨⟨_, rfl⟩, .inl ⟨_, rfl, hJ1⟩⟩

set_option maxRecDepth 100000 in
theorem impl_linesOf (s : ByteArray) (w : World) :
    Calls Tryz.prog 49 #[.string s] w fun e w' => e = .returned (.func (.func 79) #[] #[.pointer (some ⟨w.heap.size, 0, none⟩)]) ∧ w' = w.alloc (.cells #[.string s] 9) := by
  go_enter Tryz.func49, Tryz.ntmps49
  go_wp2
  go_ret
  exact ⟨rfl, rfl⟩
end Go.Proofs.YtmcjghhmcmkomaaGreatDoor

/- the program's entryOf of a line whose text is a value alone: that value; condition: the library's MaxLen is a number. -/
namespace Go.Proofs.YtmcjghhmcmkomaaGreatDoor
open Go Go.RowKit

theorem pre_one {s : ByteArray} {b : UInt8} {r : List UInt8} (e : s.data.toList = b :: r) (c : UInt8) : Lib.hasPrefix s.data.toList (⟨#[c]⟩ : ByteArray).data.toList = (c == b) := by
  show List.isPrefixOf [c] s.data.toList = _
  rw [e]; simp [List.isPrefixOf]
theorem pre_none (c : UInt8) : Lib.hasPrefix (⟨#[]⟩ : ByteArray).data.toList (⟨#[c]⟩ : ByteArray).data.toList = false := rfl

theorem four {w : World} {b : Nat} {t : TypeId} {a0 a1 a2 a3 : Value} (h : w.heap[b]? = some (.cells #[a0, a1, a2, a3] t (0, 0))) :
    w.cell? ⟨b, 0, none⟩ = some a0 ∧ w.cell? ⟨b, 1, none⟩ = some a1 ∧ w.cell? ⟨b, 2, none⟩ = some a2 ∧ w.cell? ⟨b, 3, none⟩ = some a3 ∧ ∀ o, w.frozen? ⟨b, o, none⟩ = false := by
  refine ⟨cell_of h 0, cell_of h 1, cell_of h 2, cell_of h 3, fun o => ?_⟩
  simp [World.frozen?, h]

theorem ret_entry {fn : Func} {i : Nat} (hres : fn.results = #[ResultVar.cell i 89]) {tmps : Array Value} {w : World} {b : Nat} {t : TypeId} {a0 a1 a2 a3 : Value}
    (ht : tmps[i]?.getD undef = .pointer (some ⟨b, 0, none⟩)) (h : w.heap[b]? = some (.cells #[a0, a1, a2, a3] t (0, 0))) : (results fn tmps).run Tryz.prog w = .ok (.agg #[a0, a1, a2, a3]) w := by
  obtain ⟨c0, c1, c2, c3, -⟩ := four h
  simp [results, hres, ht, go_sem, c0, c1, c2, c3]

def set4 (w : World) (b : Nat) (v0 v1 v2 v3 : Value) : World := (((w.setCell ⟨b, 0, none⟩ v0).setCell ⟨b, 1, none⟩ v1).setCell ⟨b, 2, none⟩ v2).setCell ⟨b, 3, none⟩ v3
theorem set4_end {w : World} {b : Nat} {t : TypeId} {a0 a1 a2 a3 : Value} (h : w.heap[b]? = some (.cells #[a0, a1, a2, a3] t (0, 0))) (v0 v1 v2 v3 : Value) : (set4 w b v0 v1 v2 v3).heap[b]? = some (.cells #[v0, v1, v2, v3] t (0, 0)) := by
  have h0 := heap_set h 0 v0
  have h1 := heap_set h0 1 v1
  have h2 := heap_set h1 2 v2
  have h3 := heap_set h2 3 v3
  exact h3
theorem set4_below {B : Nat} {w w' : World} {b : Nat} (h : Below B w w') (hb : B ≤ b) (v0 v1 v2 v3 : Value) : Below B w (set4 w' b v0 v1 v2 v3) := (((h.setCell (p := ⟨b, 0, none⟩) hb _).setCell (p := ⟨b, 1, none⟩) hb _).setCell (p := ⟨b, 2, none⟩) hb _).setCell (p := ⟨b, 3, none⟩) hb _

/-- What entryOf answers, and its own e, lie where they were laid. -/
def EnB (w wx : World) (k : Int) : Prop := wx.heap[w.heap.size]? = some (.cells #[.int .i64 0, .string ⟨#[]⟩, .string ⟨#[]⟩, .bool false] 89 (0, 0)) ∧ wx.heap[w.heap.size + 1]? = some (.cells #[.int .i64 k, .string ⟨#[]⟩, .string ⟨#[]⟩, .bool false] 89 (0, 0)) ∧ Below w.heap.size w wx
theorem EnB.next {w wx wy : World} {k : Int} (h : EnB w wx k) (hb : Below wx.heap.size wx wy) : EnB w wy k := ⟨blk_nextR h.1 hb, blk_nextR h.2.1 hb, h.2.2.trans (hb.mono h.2.2.size)⟩
theorem EnB.kind {w wx : World} {k : Int} (h : EnB w wx k) (k' : Int) : EnB w (wx.setCell ⟨w.heap.size + 1, 0, none⟩ (.int .i64 k')) k' :=
  ⟨(Below.heap_setCell _ _ _ _ (by show w.heap.size ≠ w.heap.size + 1; omega)).trans h.1, heap_set h.2.1 0 _, h.2.2.setCell (p := ⟨w.heap.size + 1, 0, none⟩) (by show w.heap.size ≤ w.heap.size + 1; omega) _⟩
theorem EnB.key {w wx : World} {k : Int} (h : EnB w wx k) : EnB w (wx.setCell ⟨w.heap.size + 1, 1, none⟩ (.string ⟨#[]⟩)) k :=
  ⟨(Below.heap_setCell _ _ _ _ (by show w.heap.size ≠ w.heap.size + 1; omega)).trans h.1, heap_set h.2.1 1 _, h.2.2.setCell (p := ⟨w.heap.size + 1, 1, none⟩) (by show w.heap.size ≤ w.heap.size + 1; omega) _⟩
theorem EnB.drew {w wx : World} {k : Int} (h : EnB w wx k) (n : Nat) : EnB w (wx.drewN n) k := ⟨h.1, h.2.1, blw_drewN h.2.2 n⟩
theorem EnB.start (w : World) (k : Int) : EnB w ((w.alloc (.cells #[.int .i64 0, .string ⟨#[]⟩, .string ⟨#[]⟩, .bool false] 89)).alloc (.cells #[.int .i64 k, .string ⟨#[]⟩, .string ⟨#[]⟩, .bool false] 89)) k :=
  ⟨(zero_blocks2 w _ _).1, (zero_blocks2 w _ _).2, ((Below.refl _ w).alloc (Nat.le_refl _) _).alloc (by simp) _⟩

set_option maxRecDepth 100000 in
set_option maxHeartbeats 4000000 in
theorem impl_entryOf (s : ByteArray) (h : Lone s) (m : Int) (w : World) (hm : MaxL w m) :
    Calls Tryz.prog 52 #[.string s] w fun e w' => e = .returned (.agg #[.int .i64 0, .string ⟨#[]⟩, .string s, .bool false]) ∧ Below w.heap.size w w' := by
  obtain ⟨b, r, e, -, -, -, hmin⟩ := lone_head h
  have HK := Lib.hid (fun (wx : World) (hx : MaxL wx m) => impl_cutKey s h m wx hx)
  have HM := Lib.hid hm
  have hsz := h.size
  have HBl : Hid (∀ o1 o2, Below w.heap.size w ((w.alloc o1).alloc o2)) := fun o1 o2 => ((Below.refl _ w).alloc (Nat.le_refl _) _).alloc (by simp) _
  by_cases hb : b = 45
  · obtain ⟨c, r', rfl, hc⟩ := hmin hb
    subst hb
    have H1 := Lib.hid (fun (wx : World) => impl_cutPrefix_yes s ⟨#[45]⟩ (by rw [pre_one e]; decide) (by rw [list_size e]; show 1 ≤ _; simp) wx)
    have e2 : (s.extract 1 s.size).data.toList = c :: r' := by
      rw [ByteArray.data_extract, Array.toList_extract, List.extract_eq_take_drop, e, list_size e]
      simp
    have H2 := Lib.hid (fun (wx : World) => impl_cutPrefix_no (s.extract 1 s.size) ⟨#[32]⟩ (by rw [pre_one e2]; simpa using fun h => hc h.symm) wx)
    have ez : (s.extract 1 s.size).size = 1 + r'.length := by rw [list_size e2]; simp; omega
    have hne : ((s.extract 1 s.size).toList == []) = false := by rw [toList_of e2]; rfl
    clear h hm e e2
    go_enter Tryz.func52, Tryz.ntmps52
    go_wp2_with fail
    refine (H1.out _).mono ?_
    rintro e' w1 ⟨rfl, q, hq⟩
    have Q1 : Hid (EnB w w1 4) := by rw [hq]; exact (EnB.start w 4).drew q
    clear hq
    go_wp2_with fail
    refine (H2.out _).mono ?_
    rintro e' w2 ⟨rfl, q, hq⟩
    have Q2 : Hid (EnB w w2 4) := by rw [hq]; exact Q1.out.drew q
    clear hq H1 H2 Q1
    obtain ⟨z0, z1, z2, z3, z4⟩ := four Q2.out.1
    generalize s.extract 1 s.size = s1 at *
    go_wp2_with fail
    exact bodyPost_ret (ret_entry Tryz.results52 rfl (set4_end Q2.out.1 _ _ _ _)) rfl ⟨rfl, set4_below Q2.out.2.2 (Nat.le_refl _) _ _ _ _⟩
  · have H1 := Lib.hid (fun (wx : World) => impl_cutPrefix_no s ⟨#[45]⟩ (by rw [pre_one e]; simpa using fun h => hb h.symm) wx)
    have H2 := Lib.hid (fun (wx : World) => impl_cutPrefix_no ⟨#[]⟩ ⟨#[32]⟩ rfl wx)
    clear h hm e hb hmin
    go_enter Tryz.func52, Tryz.ntmps52
    go_wp2_with fail
    refine (H1.out _).mono ?_
    rintro e' w1 ⟨rfl, q, hq⟩
    have Q1 : Hid (EnB w w1 4) := by rw [hq]; exact (EnB.start w 4).drew q
    clear hq
    obtain ⟨y0, y1, y2, y3, y4⟩ := four Q1.out.2.1
    go_wp2_with fail
    have Q2 := Lib.hid (Q1.out.kind 5)
    refine (HK.out _ (HM.out.stay Q2.out.2.2 HM.out.lt)).mono ?_
    rintro e' w2 ⟨rfl, hb2⟩
    replace Q2 := Lib.hid (Q2.out.next hb2)
    clear hb2 y0 y1 y2 y3 y4
    obtain ⟨y0, y1, y2, y3, y4⟩ := four Q2.out.2.1
    go_wp2_with fail
    replace Q2 := Lib.hid Q2.out.key
    refine (H2.out _).mono ?_
    rintro e' w3 ⟨rfl, q, hq⟩
    have Q3 : Hid (EnB w w3 5) := by rw [hq]; exact Q2.out.drew q
    clear hq Q2 Q1 H1 H2 y0 y1 y2 y3 y4
    obtain ⟨z0, z1, z2, z3, z4⟩ := four Q3.out.1
    go_wp2_with fail
    exact bodyPost_ret (ret_entry Tryz.results52 rfl (set4_end Q3.out.1 _ _ _ _)) rfl ⟨rfl, set4_below Q3.out.2.2 (Nat.le_refl _) _ _ _ _⟩
end Go.Proofs.YtmcjghhmcmkomaaGreatDoor

/- the program's outliner takes a line whose text is a right tree in braces, as its first: that tree is what it tells. -/
namespace Go.Proofs.YtmcjghhmcmkomaaGreatDoor
open Go Go.RowKit

set_option maxRecDepth 100000 in
set_option maxHeartbeats 2000000 in
theorem impl_valueOf (T : RT) (hok : treeOk T = true) (hs : T.brac.length ≤ 6000) (w : World) :
    Calls Tryz.prog 131 #[.string ⟨T.brac.toArray⟩] w fun e w' => ∃ kx dx F, e = .returned (.tuple #[.agg #[.int .i64 T.k, .int .i64 T.n, .string T.s, kx, dx], .bool true]) ∧ Lies w' T kx dx F ∧ Fresh w w' F ∧ Below w.heap.size w w' := by
  have hL := lone_of (treeOk_out hok).2 hs
  have HU := Lib.hid (fun (wx : World) => impl_unbraced T hok ⟨T.brac.toArray⟩ hL.size [] (by simp) (by simp) wx)
  have HP := Lib.hid (fun (wx : World) => impl_plainOk ⟨T.brac.toArray⟩ (by have := hL.size; unfold maxLen; omega) wx)
  rw [lone_plain hL] at HP
  clear hL hs hok
  generalize (⟨T.brac.toArray⟩ : ByteArray) = s at *
  have hb0 := (Below.refl _ w).alloc (Nat.le_refl _) (.cells #[.int .i64 0, .int .i64 0, .string ⟨#[]⟩, .slice none 0 0, .slice none 0 0] 27)
  have HZ := Lib.hid (And.intro (heap_last w (.cells #[.int .i64 0, .int .i64 0, .string ⟨#[]⟩, .slice none 0 0, .slice none 0 0] 27)) hb0)
  clear hb0
  go_enter Tryz.func131, Tryz.ntmps131
  go_wp2_with (first
    | (go_at_call 54; refine (HP.out _).mono ?_; rintro e w1 ⟨rfl, e1⟩; subst w1)
    | fail)
  refine (HU.out _).mono ?_
  rintro e w2 ⟨kx, dx, F, rfl, hl, hf, hb⟩
  obtain ⟨⟨o1, c1, rfl⟩, ⟨o2, c2, rfl⟩⟩ := hl.slices
  have hb2 := (Below.refl _ w2).alloc (Nat.le_refl _) (.cells #[.int .i64 T.k, .int .i64 T.n, .string T.s, .slice o1 T.keys.length c1, .slice o2 T.kids.length c2] 27)
  have hz2 := blk_nextR (blk_nextR HZ.out.1 hb) hb2
  have HF : Hid (Lies (w2.alloc (.cells #[.int .i64 T.k, .int .i64 T.n, .string T.s, .slice o1 T.keys.length c1, .slice o2 T.kids.length c2] 27)) T (.slice o1 T.keys.length c1) (.slice o2 T.kids.length c2) F ∧ Fresh w (w2.alloc (.cells #[.int .i64 T.k, .int .i64 T.n, .string T.s, .slice o1 T.keys.length c1, .slice o2 T.kids.length c2] 27)) F ∧ (∀ y ∈ F, y ≠ w.heap.size) ∧ Below w.heap.size w (w2.alloc (.cells #[.int .i64 T.k, .int .i64 T.n, .string T.s, .slice o1 T.keys.length c1, .slice o2 T.kids.length c2] 27))) :=
    ⟨hl.stay hb2 (Nat.le_refl _), (hf.carry fun y hy => hb2.block y (hl.lt y hy)).earlier (by simp), fun y hy e => by have := hf.old y hy; simp at this; omega, HZ.out.2.trans ((hb.trans (hb2.mono hb.size)).mono HZ.out.2.size)⟩
  have HZ2 := Lib.hid hz2
  have HT := Lib.hid (heap_last w2 (.cells #[.int .i64 T.k, .int .i64 T.n, .string T.s, .slice o1 T.keys.length c1, .slice o2 T.kids.length c2] 27))
  have hne : ¬ w.heap.size = w2.heap.size := by have := hb.size; simp at this; omega
  have hne' : ¬ w2.heap.size = w.heap.size := fun e => hne e.symm
  clear hl hf hb hb2 hz2
  obtain ⟨z0, z1, z2, z3, z4, z5⟩ := five HZ2.out
  go_wp2_with fail
  generalize w2.alloc (.cells #[.int .i64 T.k, .int .i64 T.n, .string T.s, .slice o1 T.keys.length c1, .slice o2 T.kids.length c2] 27) = w3 at *
  have keep : ∀ y ∈ F, (set5 w3 w.heap.size 0 (.int .i64 T.k) (.int .i64 T.n) (.string T.s) (.slice o1 T.keys.length c1) (.slice o2 T.kids.length c2)).heap[y]? = w3.heap[y]? := fun y hy => set5_other _ _ _ _ _ _ _ _ _ (HF.out.2.2.1 y hy)
  exact bodyPost_ret (ret_node2 Tryz.results131 rfl rfl (set5_end HZ2.out _ _ _ _ _)) rfl ⟨_, _, F, rfl, HF.out.1.carry keep, HF.out.2.1.carry keep, set5_below HF.out.2.2.2 (Nat.le_refl _) _ _ _ _ _ _⟩

/-- The outliner's block: nothing open, whether something is due, and its tree. -/
def Ob (w : World) (b : Nat) (due : Bool) (k n : Int) (s : ByteArray) (kv dv : Value) : Prop := w.heap[b]? = some (.cells #[.slice none 0 0, .bool due, .int .i64 0, .int .i64 k, .int .i64 n, .string s, kv, dv] 82 (0, 0))

theorem Ob.eight {w : World} {b : Nat} {due : Bool} {k n : Int} {s : ByteArray} {kv dv : Value} (h : Ob w b due k n s kv dv) :
    w.cell? ⟨b, 0, none⟩ = some (.slice none 0 0) ∧ w.cell? ⟨b, 1, none⟩ = some (.bool due) ∧ w.cell? ⟨b, 2, none⟩ = some (.int .i64 0) ∧ w.cell? ⟨b, 3, none⟩ = some (.int .i64 k) ∧ w.cell? ⟨b, 4, none⟩ = some (.int .i64 n) ∧ w.cell? ⟨b, 5, none⟩ = some (.string s) ∧ w.cell? ⟨b, 6, none⟩ = some kv ∧ w.cell? ⟨b, 7, none⟩ = some dv ∧ ∀ o, w.frozen? ⟨b, o, none⟩ = false := by
  have h : w.heap[b]? = some (.cells #[.slice none 0 0, .bool due, .int .i64 0, .int .i64 k, .int .i64 n, .string s, kv, dv] 82 (0, 0)) := h
  refine ⟨cell_of h 0, cell_of h 1, cell_of h 2, cell_of h 3, cell_of h 4, cell_of h 5, cell_of h 6, cell_of h 7, fun o => ?_⟩
  simp [World.frozen?, h]

theorem Ob.lt {w : World} {b : Nat} {due : Bool} {k n : Int} {s : ByteArray} {kv dv : Value} (h : Ob w b due k n s kv dv) : b < w.heap.size := (Array.getElem?_eq_some_iff.1 h).1
theorem Ob.next {w w' : World} {b : Nat} {due : Bool} {k n : Int} {s : ByteArray} {kv dv : Value} (h : Ob w b due k n s kv dv) (hb : Below w.heap.size w w') : Ob w' b due k n s kv dv := blk_nextR h hb
theorem Ob.due {w : World} {b : Nat} {due : Bool} {k n : Int} {s : ByteArray} {kv dv : Value} (h : Ob w b due k n s kv dv) (d : Bool) : Ob (w.setCell ⟨b, 1, none⟩ (.bool d)) b d k n s kv dv := heap_set h 1 _
theorem Ob.put {w : World} {b : Nat} {due : Bool} {k n : Int} {s : ByteArray} {kv dv : Value} (h : Ob w b due k n s kv dv) (k' n' : Int) (s' : ByteArray) (kv' dv' : Value) : Ob (set5 w b 3 (.int .i64 k') (.int .i64 n') (.string s') kv' dv') b due k' n' s' kv' dv' := by
  have h0 := heap_set h 3 (.int .i64 k')
  have h1 := heap_set h0 4 (.int .i64 n')
  have h2 := heap_set h1 5 (.string s')
  have h3 := heap_set h2 6 kv'
  have h4 := heap_set h3 7 dv'
  exact h4

theorem grw_own5 {w w' : World} {b o : Nat} (h : w.grownBy w' (some b)) (v0 v1 v2 v3 v4 : Value) : w.grownBy (set5 w' b o v0 v1 v2 v3 v4) (some b) :=
  ((((grw_trans (grw_trans (grw_trans (grw_trans (grw_trans h (grw_set _ _ _ _)) (grw_set _ _ _ _)) (grw_set _ _ _ _)) (grw_set _ _ _ _)) (grw_set _ _ _ _)))))

set_option maxRecDepth 100000 in
set_option maxHeartbeats 2000000 in
/-- Nothing is open: the tree is what is told. -/
theorem out_put (b : Nat) (due : Bool) (k n k' n' : Int) (s s' : ByteArray) (kv dv : Value) (o1 o2 : Option Addr) (l1 c1 l2 c2 : Nat) (w : World) (h : Ob w b due k n s kv dv) :
    Calls Tryz.prog 89 #[.pointer (some ⟨b, 0, none⟩), .agg #[.int .i64 k', .int .i64 n', .string s', .slice o1 l1 c1, .slice o2 l2 c2]] w fun e w' => (∃ v, e = .returned v) ∧ Ob w' b due k' n' s' (.slice o1 l1 c1) (.slice o2 l2 c2) ∧ w.grownBy w' (some b) := by
  have hb0 := (Below.refl _ w).alloc (Nat.le_refl _) (.cells #[.int .i64 k', .int .i64 n', .string s', .slice o1 l1 c1, .slice o2 l2 c2] 27)
  have H1 : Hid (Ob (w.alloc (.cells #[.int .i64 k', .int .i64 n', .string s', .slice o1 l1 c1, .slice o2 l2 c2] 27)) b due k n s kv dv ∧ w.grownBy (w.alloc (.cells #[.int .i64 k', .int .i64 n', .string s', .slice o1 l1 c1, .slice o2 l2 c2] 27)) (some b)) := ⟨h.next hb0, grw_below hb0⟩
  obtain ⟨x0, x1, x2, x3, x4, x5, x6, x7, x8⟩ := H1.out.1.eight
  clear h hb0
  go_enter Tryz.func89, Tryz.ntmps89
  go_wp2_with fail
  refine bodyPost_ret (results_none Tryz.results89 _ _ _) rfl ?_
  exact ⟨⟨_, rfl⟩, H1.out.1.put k' n' s' (.slice o1 l1 c1) (.slice o2 l2 c2), grw_own5 H1.out.2 _ _ _ _ _⟩

set_option maxRecDepth 100000 in
set_option maxHeartbeats 2000000 in
theorem out_give (T : RT) (hok : treeOk T = true) (hs : T.brac.length ≤ 6000) (b : Nat) (due : Bool) (k n : Int) (s : ByteArray) (kv dv : Value) (w : World) (h : Ob w b due k n s kv dv) :
    Calls Tryz.prog 112 #[.pointer (some ⟨b, 0, none⟩), .string ⟨T.brac.toArray⟩] w fun e w' => e = .returned (.bool true) ∧ ∃ kx dx F, Ob w' b false T.k T.n T.s kx dx ∧ Lies w' T kx dx F ∧ Fresh w w' F ∧ w.grownBy w' (some b) := by
  have HV := Lib.hid (fun (wx : World) => impl_valueOf T hok hs wx)
  have H := Lib.hid h
  clear hok hs h
  generalize (⟨T.brac.toArray⟩ : ByteArray) = st at *
  go_enter Tryz.func112, Tryz.ntmps112
  go_wp2_with fail
  refine (HV.out _).mono ?_
  rintro e w1 ⟨kx, dx, F, rfl, hl, hf, hb⟩
  obtain ⟨⟨o1, c1, rfl⟩, ⟨o2, c2, rfl⟩⟩ := hl.slices
  have hb2 := (Below.refl _ w1).alloc (Nat.le_refl _) (.cells #[.int .i64 T.k, .int .i64 T.n, .string T.s, .slice o1 T.keys.length c1, .slice o2 T.kids.length c2] 27)
  have H2 : Hid (Ob (w1.alloc (.cells #[.int .i64 T.k, .int .i64 T.n, .string T.s, .slice o1 T.keys.length c1, .slice o2 T.kids.length c2] 27)) b due k n s kv dv ∧ Lies (w1.alloc (.cells #[.int .i64 T.k, .int .i64 T.n, .string T.s, .slice o1 T.keys.length c1, .slice o2 T.kids.length c2] 27)) T (.slice o1 T.keys.length c1) (.slice o2 T.kids.length c2) F ∧ Fresh w (w1.alloc (.cells #[.int .i64 T.k, .int .i64 T.n, .string T.s, .slice o1 T.keys.length c1, .slice o2 T.kids.length c2] 27)) F ∧ Below w.heap.size w (w1.alloc (.cells #[.int .i64 T.k, .int .i64 T.n, .string T.s, .slice o1 T.keys.length c1, .slice o2 T.kids.length c2] 27))) :=
    ⟨(H.out.next hb).next hb2, hl.stay hb2 (Nat.le_refl _), hf.carry fun y hy => hb2.block y (hl.lt y hy), hb.trans (hb2.mono hb.size)⟩
  have hne : ¬ b = w1.heap.size := by have := H.out.lt; have := hb.size; omega
  have hne' : ¬ w1.heap.size = b := fun e => hne e.symm
  obtain ⟨x0, x1, x2, x3, x4, x5, x6, x7, x8⟩ := H2.out.1.eight
  have HL := Lib.hid H.out.lt
  have HS1 := Lib.hid hb.size
  clear hl hf hb hb2
  go_wp2_with fail
  have H3 := Lib.hid (H2.out.1.due false)
  refine (out_put b false _ _ _ _ _ _ _ _ _ _ _ _ _ _ _ H3.out).mono ?_
  rintro e w3 ⟨⟨v, rfl⟩, ho, hg⟩
  have hlt := HL.out
  have hs1 := HS1.out
  have keep : ∀ y ∈ F, w3.heap[y]? = (w1.alloc (.cells #[.int .i64 T.k, .int .i64 T.n, .string T.s, .slice o1 T.keys.length c1, .slice o2 T.kids.length c2] 27)).heap[y]? := fun y hy => by
    have h1 := H2.out.2.2.1.old y hy
    have h2 := H2.out.2.1.lt y hy
    rw [hg.block y (by simpa [World.setCell] using h2) (fun e => by injection e with e; omega), Below.heap_setCell _ _ _ _ (by show y ≠ b; omega)]
  have HF : Hid (Ob w3 b false T.k T.n T.s (.slice o1 T.keys.length c1) (.slice o2 T.kids.length c2) ∧ Lies w3 T (.slice o1 T.keys.length c1) (.slice o2 T.kids.length c2) F ∧ Fresh w w3 F ∧ w.grownBy w3 (some b)) := ⟨ho, H2.out.2.1.carry keep, H2.out.2.2.1.carry keep, grw_trans (grw_trans (grw_below H2.out.2.2.2) (grw_set _ _ _ _)) hg⟩
  clear ho hg keep x0 x1 x2 x3 x4 x5 x6 x7 x8
  go_wp2
  go_ret
  exact ⟨rfl, _, _, F, HF.out⟩

set_option maxRecDepth 100000 in
set_option maxHeartbeats 2000000 in
theorem out_begin (T : RT) (hok : treeOk T = true) (hs : T.brac.length ≤ 6000) (b : Nat) (due : Bool) (k n : Int) (s : ByteArray) (kv dv : Value) (w : World) (h : Ob w b due k n s kv dv) :
    Calls Tryz.prog 85 #[.pointer (some ⟨b, 0, none⟩), .agg #[.int .i64 0, .string ⟨#[]⟩, .string ⟨T.brac.toArray⟩, .bool false]] w fun e w' => e = .returned (.bool true) ∧ ∃ kx dx F, Ob w' b false T.k T.n T.s kx dx ∧ Lies w' T kx dx F ∧ Fresh w w' F ∧ w.grownBy w' (some b) := by
  have hb0 := (Below.refl _ w).alloc (Nat.le_refl _) (.cells #[.int .i64 0, .string ⟨#[]⟩, .string ⟨T.brac.toArray⟩, .bool false] 89)
  have HV := Lib.hid (out_give T hok hs b due k n s kv dv _ (h.next hb0))
  have HB := Lib.hid hb0
  obtain ⟨x0, x1, x2, x3, x4, x5, x6, x7, x8⟩ := (h.next hb0).eight
  clear hok hs h hb0
  generalize (⟨T.brac.toArray⟩ : ByteArray) = st at *
  go_enter Tryz.func85, Tryz.ntmps85
  go_wp2_with fail
  refine HV.out.mono ?_
  rintro e w1 ⟨rfl, kx, dx, F, h1, h2, h3, h4⟩
  have HF : Hid (Ob w1 b false T.k T.n T.s kx dx ∧ Lies w1 T kx dx F ∧ Fresh w w1 F ∧ w.grownBy w1 (some b)) := ⟨h1, h2, h3.earlier HB.out.size, grw_trans (grw_below HB.out) h4⟩
  clear h1 h2 h3 h4
  go_wp2
  go_ret
  exact ⟨rfl, _, _, F, HF.out⟩

set_option maxRecDepth 100000 in
set_option maxHeartbeats 2000000 in
theorem out_take (T : RT) (hok : treeOk T = true) (hs : T.brac.length ≤ 6000) (b : Nat) (k n : Int) (s : ByteArray) (kv dv : Value) (w : World) (h : Ob w b true k n s kv dv) :
    Calls Tryz.prog 51 #[.pointer (some ⟨b, 0, none⟩), .int .i64 0, .agg #[.int .i64 0, .string ⟨#[]⟩, .string ⟨T.brac.toArray⟩, .bool false]] w fun e w' => e = .returned (.bool true) ∧ ∃ kx dx F, Ob w' b false T.k T.n T.s kx dx ∧ Lies w' T kx dx F ∧ Fresh w w' F ∧ w.grownBy w' (some b) := by
  have hb0 := (Below.refl _ w).alloc (Nat.le_refl _) (.cells #[.int .i64 0, .string ⟨#[]⟩, .string ⟨T.brac.toArray⟩, .bool false] 89)
  have HV := Lib.hid (out_begin T hok hs b true k n s kv dv _ (h.next hb0))
  have HB := Lib.hid hb0
  obtain ⟨x0, x1, x2, x3, x4, x5, x6, x7, x8⟩ := (h.next hb0).eight
  clear hok hs h hb0
  generalize (⟨T.brac.toArray⟩ : ByteArray) = st at *
  go_enter Tryz.func51, Tryz.ntmps51
  go_wp2_with fail
  refine HV.out.mono ?_
  rintro e w1 ⟨rfl, kx, dx, F, h1, h2, h3, h4⟩
  have HF : Hid (Ob w1 b false T.k T.n T.s kx dx ∧ Lies w1 T kx dx F ∧ Fresh w w1 F ∧ w.grownBy w1 (some b)) := ⟨h1, h2, h3.earlier HB.out.size, grw_trans (grw_below HB.out) h4⟩
  clear h1 h2 h3 h4
  go_wp2
  go_ret
  exact ⟨rfl, _, _, F, HF.out⟩

set_option maxRecDepth 100000 in
set_option maxHeartbeats 2000000 in
/-- Nothing is open: nothing is shut. -/
theorem out_shut (b : Nat) (due : Bool) (k n : Int) (s : ByteArray) (kv dv : Value) (w : World) (h : Ob w b due k n s kv dv) :
    Calls Tryz.prog 53 #[.pointer (some ⟨b, 0, none⟩), .int .i64 0] w fun e w' => (∃ v, e = .returned v) ∧ Below w.heap.size w w' := by
  obtain ⟨x0, x1, x2, x3, x4, x5, x6, x7, x8⟩ := h.eight
  clear h
  go_enter Tryz.func53, Tryz.ntmps53
  go_wp2
  go_loopw [] (fun wr => wr = w) (fun _ => 0)
  case atStart => rfl
  case round =>
    subst hrel
    go_wp2_with fail
    go_end0
    exact ⟨⟨_, rfl⟩, Below.refl _ _⟩
end Go.Proofs.YtmcjghhmcmkomaaGreatDoor
