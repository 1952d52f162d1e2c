/-
  What is proved: the program begins a value: a leaf is read whole.; the program begins a list: an empty one is whole at once, another one is open, up to its first Kid.; the program's begin at any right tree that stands in the text: the tree is in hand, or one level more is open, with its first Kid ahead.; plain facts on the braced text of a right tree as a line of an indented text: it is one line, and neither an entry's nor a text as it is.; the program's begin at any right tree that stands in the text, in one contract.
-/
import Derived.Test.YtmcjghhmcmkomaaGreatDoorRdT
import Derived.Test.YtmcjghhmcmkomaaGreatDoorPartAK
import Derived.Test.YtmcjghhmcmkomaaGreatDoorPartAA
import Derived.Test.YtmcjghhmcmkomaaGreatDoorPartAJ
/- the program begins a value: a leaf is read whole. -/
namespace Go.Proofs.YtmcjghhmcmkomaaGreatDoor
open Go Go.RowKit

theorem Mid.node1 {w0 wr0 wr : World} {p : Nat} {s : ByteArray} {i : Nat} {ov : Value} {nd : Nat} {tw : Int} {ls : List Lv} (h : Mid w0 wr0 wr p s i ov nd tw ls) (hp : p < w0.heap.size) : Mid w0 wr0 (wr.setCell ⟨p, 3, none⟩ (.int .i64 ((nd : Int) + 1))) p s i ov (nd + 1) tw ls := h.grw hp h.rd.node1 (grw_set _ _ _ _)

theorem wrap_succ (n : Nat) (h : n ≤ 1000000000) : IntKind.i64.wrap ((n : Int) + 1) = (n : Int) + 1 := by rw [IntKind.wrap_i64]; omega

set_option maxRecDepth 100000 in
set_option maxHeartbeats 4000000 in
theorem beginL {w0 wr : World} {p : Nat} {s : ByteArray} {i : Nat} {ov : Value} {nd : Nat} {tw : Int} {ls : List Lv} (hM : Mid w0 wr wr p s i ov nd tw ls) (hp : p < w0.heap.size) (hnd : nd ≤ 1000000000) (hb0 : blkB (nextB s i) = false) (h1 : ¬ nextB s i = 91) (h2 : ¬ nextB s i = 123) (hi0 : i ≤ s.size)
    (k n : Int) (x : ByteArray) (j : Nat) (hl : ∀ wx, Rd wx p s i ov (nd + 1) tw → Calls Tryz.prog 121 #[.pointer (some ⟨p, 0, none⟩)] wx fun e w' => e = .returned (.tuple #[.agg #[.int .i64 k, .int .i64 n, .string x, .slice none 0 0, .slice none 0 0], .nilIface]) ∧ Rd w' p s j ov (nd + 1) tw ∧ wx.grownBy w' (some p)) :
    Calls Tryz.prog 96 #[.pointer (some ⟨p, 0, none⟩)] wr fun e w' => e = .returned (.tuple #[.agg #[.int .i64 k, .int .i64 n, .string x, .slice none 0 0, .slice none 0 0], .bool true, .nilIface]) ∧ (∀ (b : Nat) (cs : Array Value), b < wr.heap.size → b ≠ p → some b ≠ ov.ownBlock → b ∉ ls.flatMap Lv.blocks → wr.heap[b]? = some (.cells cs 27 (0, 0)) → w'.heap[b]? = wr.heap[b]?) ∧ Mid w0 wr w' p s j ov (nd + 1) tw ls := by
  have A1 := Lib.hid (fun (wx : World) (hx : Rd wx p s i ov nd tw) => rd_blanks_no p s i ov nd tw wx hi0 hb0 hx)
  have A2 := Lib.hid (fun (wx : World) (hx : Rd wx p s i ov (nd + 1) tw) => rd_take_no p s i ov (nd + 1) tw wx hi0 91 h1 hx)
  have A3 := Lib.hid (fun (wx : World) (hx : Rd wx p s i ov (nd + 1) tw) => rd_take_no p s i ov (nd + 1) tw wx hi0 123 h2 hx)
  have A4 := Lib.hid hl
  have HM := Lib.hid (hM.old (.cells #[.int .i64 0, .int .i64 0, .string ⟨#[]⟩, .slice none 0 0, .slice none 0 0] 27))
  have HL : Hid (w0.heap.size ≤ wr.heap.size ∧ ∀ x, (x ∈ ls.flatMap Lv.blocks ∨ ov.ownBlock = some x) → x < wr.heap.size) := ⟨hM.hs, fun x hx => (hM.stk.blocks hx).1⟩
  have Z0 := Lib.hid (heap_last wr (.cells #[.int .i64 0, .int .i64 0, .string ⟨#[]⟩, .slice none 0 0, .slice none 0 0] 27))
  have hp2 : p < wr.heap.size := Nat.lt_of_lt_of_le hp hM.hs
  have hw := wrap_succ nd hnd
  have G : Hid (wr.grownBy (wr.alloc (.cells #[.int .i64 0, .int .i64 0, .string ⟨#[]⟩, .slice none 0 0, .slice none 0 0] 27)) (some p)) := grw_below ((Below.refl _ wr).alloc (Nat.le_refl _) _)
  clear hM hl h1 h2 hb0
  go_enter Tryz.func96, Tryz.ntmps96
  go_wp2_with fail
  refine (A1.out _ HM.out.rd).mono ?_
  rintro e w1 ⟨⟨v1, rfl⟩, hb1⟩
  replace HM := Lib.hid (HM.out.below hb1)
  replace Z0 := Lib.hid ((hb1.block _ (Array.getElem?_eq_some_iff.1 Z0.out).1).trans Z0.out)
  replace G := Lib.hid (grw_trans (grw_trans G.out (grw_below hb1)) (grw_set w1 p 3 (.int .i64 ((nd : Int) + 1))))
  clear hb1
  obtain ⟨x0, x1, x2, x3, x4, x5⟩ := HM.out.rd.five
  have HM1 := Lib.hid (HM.out.node1 hp)
  have Z1 := Lib.hid ((Below.heap_setCell w1 ⟨p, 3, none⟩ (.int .i64 ((nd : Int) + 1)) wr.heap.size (by show wr.heap.size ≠ p; omega)).trans Z0.out)
  clear HM Z0
  go_wp2_with fail
  refine (A2.out _ HM1.out.rd).mono ?_
  rintro e w2 ⟨rfl, hb2⟩
  replace HM1 := Lib.hid (HM1.out.below hb2)
  replace Z1 := Lib.hid ((hb2.block _ (Array.getElem?_eq_some_iff.1 Z1.out).1).trans Z1.out)
  replace G := Lib.hid (grw_trans G.out (grw_below hb2))
  clear hb2 x0 x1 x2 x3 x4 x5
  go_wp2_with fail
  refine (A3.out _ HM1.out.rd).mono ?_
  rintro e w3 ⟨rfl, hb3⟩
  replace HM1 := Lib.hid (HM1.out.below hb3)
  replace Z1 := Lib.hid ((hb3.block _ (Array.getElem?_eq_some_iff.1 Z1.out).1).trans Z1.out)
  replace G := Lib.hid (grw_trans G.out (grw_below hb3))
  clear hb3
  go_wp2_with fail
  refine (A4.out _ HM1.out.rd).mono ?_
  rintro e w4 ⟨rfl, h4, g4⟩
  replace Z1 := Lib.hid (grw_block Z1.out (by omega) g4)
  replace HM1 := Lib.hid (HM1.out.grw hp h4 g4)
  replace G := Lib.hid (grw_trans G.out g4)
  clear h4 g4
  go_wp2
  have HM5 := Lib.hid (HM1.out.old (.cells #[.int .i64 k, .int .i64 n, .string x, .slice none 0 0, .slice none 0 0] 27))
  have Z5 := Lib.hid (((Below.refl _ w4).alloc (Nat.le_refl _) (.cells #[.int .i64 k, .int .i64 n, .string x, .slice none 0 0, .slice none 0 0] 27)).block _ (Array.getElem?_eq_some_iff.1 Z1.out).1 |>.trans Z1.out)
  have hlt : wr.heap.size < w4.heap.size := (Array.getElem?_eq_some_iff.1 Z1.out).1
  replace G := Lib.hid (grw_trans G.out (grw_below ((Below.refl _ w4).alloc (Nat.le_refl _) (.cells #[.int .i64 k, .int .i64 n, .string x, .slice none 0 0, .slice none 0 0] 27))))
  obtain ⟨b0, b1, b2, b3, b4, -⟩ := five (heap_last w4 (.cells #[.int .i64 k, .int .i64 n, .string x, .slice none 0 0, .slice none 0 0] 27))
  generalize w4.alloc (.cells #[.int .i64 k, .int .i64 n, .string x, .slice none 0 0, .slice none 0 0] 27) = w5 at *
  generalize w4.heap.size = q at *
  clear HM1 Z1
  have hq1 : ¬ (wr.heap.size = q) := by omega
  have hq2 : ¬ (q = wr.heap.size) := by omega
  obtain ⟨z0, z1, z2, z3, z4, z5⟩ := five Z5.out
  go_region
  go_wp2
  have HE := HM5.out.set5 (by have := HL.out.1; omega) hp (fun y hy e => by have := HL.out.2 y hy; omega) (b := wr.heap.size) (.int .i64 k) (.int .i64 n) (.string x) (.slice none 0 0) (.slice none 0 0)
  have HE2 := HE.below (blw_drewN (Below.refl _ _) 1)
  exact bodyPost_ret (ret_node3 Tryz.results96 rfl rfl rfl (show (set5 w5 wr.heap.size 0 (.int .i64 k) (.int .i64 n) (.string x) (.slice none 0 0) (.slice none 0 0)).drew.heap[wr.heap.size]? = _ from set5_end Z5.out _ _ _ _ _)) rfl ⟨rfl, fun b cs hb hn hq hbl hc => (show (set5 w5 wr.heap.size 0 (.int .i64 k) (.int .i64 n) (.string x) (.slice none 0 0) (.slice none 0 0)).drew.heap[b]? = _ from (set5_other _ _ _ _ _ _ _ _ _ (by omega)).trans (G.out.block b hb (fun e => hn (Option.some.inj e)))), HE2⟩

end Go.Proofs.YtmcjghhmcmkomaaGreatDoor

/- the program begins a list: an empty one is whole at once, another one is open, up to its first Kid. -/
namespace Go.Proofs.YtmcjghhmcmkomaaGreatDoor
open Go Go.RowKit


set_option maxRecDepth 100000 in
set_option maxHeartbeats 4000000 in
theorem beginE4 {w0 wr : World} {p : Nat} {s : ByteArray} (hs : s.size ≤ 1000000000) {i : Nat} {ov : Value} {nd : Nat} {tw : Int} {ls : List Lv} (hM : Mid w0 wr wr p s i ov nd tw ls) (hp : p < w0.heap.size) (hnd : nd ≤ 1000000000) (_ : ls.length ≤ 1048575) (R : List UInt8) (ht : s.data.toList.drop i = 91 :: 93 :: R) :
    Calls Tryz.prog 96 #[.pointer (some ⟨p, 0, none⟩)] wr fun e w' => e = .returned (.tuple #[.agg #[.int .i64 4, .int .i64 0, .string ⟨#[]⟩, .slice none 0 0, .slice none 0 0], .bool true, .nilIface]) ∧ (∀ b cs, b < wr.heap.size → b ≠ p → some b ≠ ov.ownBlock → b ∉ ls.flatMap Lv.blocks → wr.heap[b]? = some (.cells cs 27 (0, 0)) → w'.heap[b]? = wr.heap[b]?) ∧ Mid w0 wr w' p s (i + 2) ov (nd + 1) tw ls := by
  have hs' : s.size ≤ maxLen := by unfold maxLen; omega
  obtain ⟨n1, n2, n3⟩ := nextB_drop ht
  have A1 := Lib.hid (fun (wx : World) (hx : Rd wx p s i ov nd tw) => rd_blanks_no p s i ov nd tw wx (Nat.le_of_lt n2) (by rw [n1]; decide) hx)
  have A2 := Lib.hid (fun (wx : World) (hx : Rd wx p s i ov (nd + 1) tw) => rd_take_yes p s i ov (nd + 1) tw wx hs' n2 91 n1 hx)
  have HT : Hid (s.data.toList.drop (i + 1) = 93 :: R) := n3
  have HM := Lib.hid (hM.old (.cells #[.int .i64 0, .int .i64 0, .string ⟨#[]⟩, .slice none 0 0, .slice none 0 0] 27))
  have HL : Hid (w0.heap.size ≤ wr.heap.size ∧ ∀ x, (x ∈ ls.flatMap Lv.blocks ∨ ov.ownBlock = some x) → x < wr.heap.size) := ⟨hM.hs, fun x hx => (hM.stk.blocks hx).1⟩
  have Z0 := Lib.hid (heap_last wr (.cells #[.int .i64 0, .int .i64 0, .string ⟨#[]⟩, .slice none 0 0, .slice none 0 0] 27))
  have hp2 : p < wr.heap.size := Nat.lt_of_lt_of_le hp hM.hs
  have hw := wrap_succ nd hnd
  have G : Hid (wr.grownBy (wr.alloc (.cells #[.int .i64 0, .int .i64 0, .string ⟨#[]⟩, .slice none 0 0, .slice none 0 0] 27)) (some p)) := grw_below ((Below.refl _ wr).alloc (Nat.le_refl _) _)
  clear hM ht n1 n2 n3
  go_enter Tryz.func96, Tryz.ntmps96
  go_wp2_with fail
  refine (A1.out _ HM.out.rd).mono ?_
  rintro e w1 ⟨⟨v1, rfl⟩, hb1⟩
  replace HM := Lib.hid (HM.out.below hb1)
  replace Z0 := Lib.hid ((hb1.block _ (Array.getElem?_eq_some_iff.1 Z0.out).1).trans Z0.out)
  replace G := Lib.hid (grw_trans (grw_trans G.out (grw_below hb1)) (grw_set w1 p 3 (.int .i64 ((nd : Int) + 1))))
  clear hb1
  obtain ⟨x0, x1, x2, x3, x4, x5⟩ := HM.out.rd.five
  have HM1 := Lib.hid (HM.out.node1 hp)
  have Z1 := Lib.hid ((Below.heap_setCell w1 ⟨p, 3, none⟩ (.int .i64 ((nd : Int) + 1)) wr.heap.size (by show wr.heap.size ≠ p; omega)).trans Z0.out)
  clear HM Z0
  go_wp2_with fail
  refine (A2.out _ HM1.out.rd).mono ?_
  rintro e w2 ⟨rfl, h2, g2⟩
  replace Z1 := Lib.hid (grw_block Z1.out (by omega) g2)
  replace HM1 := Lib.hid (HM1.out.grw hp h2 g2)
  replace G := Lib.hid (grw_trans G.out g2)
  clear h2 g2 x0 x1 x2 x3 x4 x5
  go_wp2_with fail
  have hmid : Mid w0 w2 w2 p s (i + 1) ov (nd + 1) tw ls := ⟨HM1.out.rd, HM1.out.stk, Kp.refl _ _ _, HM1.out.hs⟩
  refine (enterE4 hs hmid hp R HT.out).mono ?_
  rintro e w3 ⟨rfl, hm3, hf3⟩
  have Z3 := Lib.hid ((hf3 wr.heap.size (Array.getElem?_eq_some_iff.1 Z1.out).1 (by omega)).trans Z1.out)
  have HM3 := Lib.hid (Mid.mk hm3.rd hm3.stk (HM1.out.kp.trans hm3.kp) hm3.hs)
  have HF : Hid (∀ (b : Nat) (cs : Array Value), b < wr.heap.size → b ≠ p → some b ≠ ov.ownBlock → b ∉ ls.flatMap Lv.blocks → wr.heap[b]? = some (.cells cs 27 (0, 0)) → w3.heap[b]? = wr.heap[b]?) := fun b cs hb hn hq hbl hc => by
    have hg := G.out.block b hb (fun e => hn (Option.some.inj e))
    exact (hf3 b (Nat.lt_of_lt_of_le hb G.out.size) hn).trans hg
  clear hmid hm3 hf3 HM1 Z1 G
  obtain ⟨z0, z1, z2, z3, z4, z5⟩ := five Z3.out
  go_wp2
  exact bodyPost_ret (ret_node3 Tryz.results96 rfl rfl rfl (set5_end Z3.out _ _ _ _ _)) rfl ⟨rfl, fun b cs hb hn hq hbl hc => (set5_other _ _ _ _ _ _ _ _ _ (by omega)).trans (HF.out b cs hb hn hq hbl hc), HM3.out.set5 (by have := HL.out.1; omega) hp (fun y hy e => by have := HL.out.2 y hy; omega) _ _ _ _ _⟩


set_option maxRecDepth 100000 in
set_option maxHeartbeats 4000000 in
theorem beginN4 {w0 wr : World} {p : Nat} {s : ByteArray} (hs : s.size ≤ 1000000000) {i : Nat} {ov : Value} {nd : Nat} {tw : Int} {ls : List Lv} (hM : Mid w0 wr wr p s i ov nd tw ls) (hp : p < w0.heap.size) (hnd : nd ≤ 1000000000) (hll : ls.length ≤ 1048575) (R : List UInt8) (ht : s.data.toList.drop i = 91 :: R) (hb0 : blkB (nextB s (i + 1)) = false) (hne0 : ¬ nextB s (i + 1) = 93) :
    Calls Tryz.prog 96 #[.pointer (some ⟨p, 0, none⟩)] wr fun e w' => e = .returned (.tuple #[.agg #[.int .i64 0, .int .i64 0, .string ⟨#[]⟩, .slice none 0 0, .slice none 0 0], .bool false, .nilIface]) ∧ (∀ b cs, b < wr.heap.size → b ≠ p → some b ≠ ov.ownBlock → b ∉ ls.flatMap Lv.blocks → wr.heap[b]? = some (.cells cs 27 (0, 0)) → w'.heap[b]? = wr.heap[b]?) ∧ ∃ ov', Mid w0 wr w' p s (i + 1) ov' (nd + 1) tw (ls ++ [newLv 4 (.map none) []]) := by
  have hs' : s.size ≤ maxLen := by unfold maxLen; omega
  obtain ⟨n1, n2, n3⟩ := nextB_drop ht
  have A1 := Lib.hid (fun (wx : World) (hx : Rd wx p s i ov nd tw) => rd_blanks_no p s i ov nd tw wx (Nat.le_of_lt n2) (by rw [n1]; decide) hx)
  have A2 := Lib.hid (fun (wx : World) (hx : Rd wx p s i ov (nd + 1) tw) => rd_take_yes p s i ov (nd + 1) tw wx hs' n2 91 n1 hx)
  have HT : Hid (blkB (nextB s (i + 1)) = false ∧ (¬ nextB s (i + 1) = 93) ∧ i + 1 ≤ s.size) := ⟨hb0, hne0, n2⟩
  have HM := Lib.hid (hM.old (.cells #[.int .i64 0, .int .i64 0, .string ⟨#[]⟩, .slice none 0 0, .slice none 0 0] 27))
  have HL : Hid (w0.heap.size ≤ wr.heap.size ∧ ∀ x, (x ∈ ls.flatMap Lv.blocks ∨ ov.ownBlock = some x) → x < wr.heap.size) := ⟨hM.hs, fun x hx => (hM.stk.blocks hx).1⟩
  have Z0 := Lib.hid (heap_last wr (.cells #[.int .i64 0, .int .i64 0, .string ⟨#[]⟩, .slice none 0 0, .slice none 0 0] 27))
  have hp2 : p < wr.heap.size := Nat.lt_of_lt_of_le hp hM.hs
  have hw := wrap_succ nd hnd
  have G : Hid (wr.grownBy (wr.alloc (.cells #[.int .i64 0, .int .i64 0, .string ⟨#[]⟩, .slice none 0 0, .slice none 0 0] 27)) (some p)) := grw_below ((Below.refl _ wr).alloc (Nat.le_refl _) _)
  clear hM ht n1 n2 n3
  go_enter Tryz.func96, Tryz.ntmps96
  go_wp2_with fail
  refine (A1.out _ HM.out.rd).mono ?_
  rintro e w1 ⟨⟨v1, rfl⟩, hb1⟩
  replace HM := Lib.hid (HM.out.below hb1)
  replace Z0 := Lib.hid ((hb1.block _ (Array.getElem?_eq_some_iff.1 Z0.out).1).trans Z0.out)
  replace G := Lib.hid (grw_trans (grw_trans G.out (grw_below hb1)) (grw_set w1 p 3 (.int .i64 ((nd : Int) + 1))))
  clear hb1
  obtain ⟨x0, x1, x2, x3, x4, x5⟩ := HM.out.rd.five
  have HM1 := Lib.hid (HM.out.node1 hp)
  have Z1 := Lib.hid ((Below.heap_setCell w1 ⟨p, 3, none⟩ (.int .i64 ((nd : Int) + 1)) wr.heap.size (by show wr.heap.size ≠ p; omega)).trans Z0.out)
  clear HM Z0
  go_wp2_with fail
  refine (A2.out _ HM1.out.rd).mono ?_
  rintro e w2 ⟨rfl, h2, g2⟩
  replace Z1 := Lib.hid (grw_block Z1.out (by omega) g2)
  replace HM1 := Lib.hid (HM1.out.grw hp h2 g2)
  replace G := Lib.hid (grw_trans G.out g2)
  clear h2 g2 x0 x1 x2 x3 x4 x5
  go_wp2_with fail
  have hmid : Mid w0 w2 w2 p s (i + 1) ov (nd + 1) tw ls := ⟨HM1.out.rd, HM1.out.stk, Kp.refl _ _ _, HM1.out.hs⟩
  refine (enterN4 hmid hp hll HT.out.1 HT.out.2.1 HT.out.2.2).mono ?_
  rintro e w3 ⟨rfl, ov', hm3, hf3⟩
  have Z3 := Lib.hid ((hf3 wr.heap.size (Array.getElem?_eq_some_iff.1 Z1.out).1 (by omega) (fun h => by have := HL.out.2 _ (.inr h.symm); omega)).trans Z1.out)
  have HM3 := Lib.hid (Mid.mk hm3.rd hm3.stk (HM1.out.kp.trans hm3.kp) hm3.hs)
  have HF : Hid (∀ (b : Nat) (cs : Array Value), b < wr.heap.size → b ≠ p → some b ≠ ov.ownBlock → b ∉ ls.flatMap Lv.blocks → wr.heap[b]? = some (.cells cs 27 (0, 0)) → w3.heap[b]? = wr.heap[b]?) := fun b cs hb hn hq hbl hc => by
    have hg := G.out.block b hb (fun e => hn (Option.some.inj e))
    exact (hf3 b (Nat.lt_of_lt_of_le hb G.out.size) hn hq).trans hg
  clear hmid hm3 hf3 HM1 Z1 G
  obtain ⟨z0, z1, z2, z3, z4, z5⟩ := five Z3.out
  go_wp2
  exact bodyPost_ret (ret_node3 Tryz.results96 rfl rfl rfl (set5_end Z3.out _ _ _ _ _)) rfl ⟨rfl, fun b cs hb hn hq hbl hc => (set5_other _ _ _ _ _ _ _ _ _ (by omega)).trans (HF.out b cs hb hn hq hbl hc), ov', HM3.out.set5 (by have := HL.out.1; omega) hp (HM3.out.node_apart Z3.out (fun x hx e => by have := HL.out.2 x (.inl hx); omega) (fun x hx => by simp [newLv, Lv.blocks] at hx)) _ _ _ _ _⟩


set_option maxRecDepth 100000 in
set_option maxHeartbeats 4000000 in
theorem beginE5 {w0 wr : World} {p : Nat} {s : ByteArray} (hs : s.size ≤ 1000000000) {i : Nat} {ov : Value} {nd : Nat} {tw : Int} {ls : List Lv} (hM : Mid w0 wr wr p s i ov nd tw ls) (hp : p < w0.heap.size) (hnd : nd ≤ 1000000000) (_ : ls.length ≤ 1048575) (R : List UInt8) (ht : s.data.toList.drop i = 123 :: 125 :: R) :
    Calls Tryz.prog 96 #[.pointer (some ⟨p, 0, none⟩)] wr fun e w' => e = .returned (.tuple #[.agg #[.int .i64 5, .int .i64 0, .string ⟨#[]⟩, .slice none 0 0, .slice none 0 0], .bool true, .nilIface]) ∧ (∀ b cs, b < wr.heap.size → b ≠ p → some b ≠ ov.ownBlock → b ∉ ls.flatMap Lv.blocks → wr.heap[b]? = some (.cells cs 27 (0, 0)) → w'.heap[b]? = wr.heap[b]?) ∧ Mid w0 wr w' p s (i + 2) ov (nd + 1) tw ls := by
  have hs' : s.size ≤ maxLen := by unfold maxLen; omega
  obtain ⟨n1, n2, n3⟩ := nextB_drop ht
  have A1 := Lib.hid (fun (wx : World) (hx : Rd wx p s i ov nd tw) => rd_blanks_no p s i ov nd tw wx (Nat.le_of_lt n2) (by rw [n1]; decide) hx)
  have A2 := Lib.hid (fun (wx : World) (hx : Rd wx p s i ov (nd + 1) tw) => rd_take_yes p s i ov (nd + 1) tw wx hs' n2 123 n1 hx)
  have A3 := Lib.hid (fun (wx : World) (hx : Rd wx p s i ov (nd + 1) tw) => rd_take_no p s i ov (nd + 1) tw wx (Nat.le_of_lt n2) 91 (by rw [n1]; decide) hx)
  have HT : Hid (s.data.toList.drop (i + 1) = 125 :: R) := n3
  have HM := Lib.hid (hM.old (.cells #[.int .i64 0, .int .i64 0, .string ⟨#[]⟩, .slice none 0 0, .slice none 0 0] 27))
  have HL : Hid (w0.heap.size ≤ wr.heap.size ∧ ∀ x, (x ∈ ls.flatMap Lv.blocks ∨ ov.ownBlock = some x) → x < wr.heap.size) := ⟨hM.hs, fun x hx => (hM.stk.blocks hx).1⟩
  have Z0 := Lib.hid (heap_last wr (.cells #[.int .i64 0, .int .i64 0, .string ⟨#[]⟩, .slice none 0 0, .slice none 0 0] 27))
  have hp2 : p < wr.heap.size := Nat.lt_of_lt_of_le hp hM.hs
  have hw := wrap_succ nd hnd
  have G : Hid (wr.grownBy (wr.alloc (.cells #[.int .i64 0, .int .i64 0, .string ⟨#[]⟩, .slice none 0 0, .slice none 0 0] 27)) (some p)) := grw_below ((Below.refl _ wr).alloc (Nat.le_refl _) _)
  clear hM ht n1 n2 n3
  go_enter Tryz.func96, Tryz.ntmps96
  go_wp2_with fail
  refine (A1.out _ HM.out.rd).mono ?_
  rintro e w1 ⟨⟨v1, rfl⟩, hb1⟩
  replace HM := Lib.hid (HM.out.below hb1)
  replace Z0 := Lib.hid ((hb1.block _ (Array.getElem?_eq_some_iff.1 Z0.out).1).trans Z0.out)
  replace G := Lib.hid (grw_trans (grw_trans G.out (grw_below hb1)) (grw_set w1 p 3 (.int .i64 ((nd : Int) + 1))))
  clear hb1
  obtain ⟨x0, x1, x2, x3, x4, x5⟩ := HM.out.rd.five
  have HM1 := Lib.hid (HM.out.node1 hp)
  have Z1 := Lib.hid ((Below.heap_setCell w1 ⟨p, 3, none⟩ (.int .i64 ((nd : Int) + 1)) wr.heap.size (by show wr.heap.size ≠ p; omega)).trans Z0.out)
  clear HM Z0
  go_wp2_with fail
  refine (A3.out _ HM1.out.rd).mono ?_
  rintro e w7 ⟨rfl, hb7⟩
  replace HM1 := Lib.hid (HM1.out.below hb7)
  replace Z1 := Lib.hid ((hb7.block _ (Array.getElem?_eq_some_iff.1 Z1.out).1).trans Z1.out)
  replace G := Lib.hid (grw_trans G.out (grw_below hb7))
  clear hb7 x0 x1 x2 x3 x4 x5
  go_wp2_with fail
  refine (A2.out _ HM1.out.rd).mono ?_
  rintro e w2 ⟨rfl, h2, g2⟩
  replace Z1 := Lib.hid (grw_block Z1.out (by omega) g2)
  replace HM1 := Lib.hid (HM1.out.grw hp h2 g2)
  replace G := Lib.hid (grw_trans G.out g2)
  clear h2 g2
  have hmk : (Instr.makeMap 138 none).run Tryz.prog w2 = .ok (.map (some w2.heap.size)) (w2.alloc (.map #[] 0)) := rfl
  go_wp2_with fail
  have hlt : wr.heap.size < w2.heap.size := (Array.getElem?_eq_some_iff.1 Z1.out).1
  have HS := Lib.hid (Seen.start w2)
  have HMN : Hid (w0.heap.size ≤ w2.heap.size ∧ ∀ x, (x ∈ ls.flatMap Lv.blocks ∨ ov.ownBlock = some x) → x ≠ w2.heap.size) := ⟨HM1.out.hs, fun x hx e => by have := (HM1.out.stk.blocks hx).1; omega⟩
  replace HM1 := Lib.hid (HM1.out.old (.map #[] 0))
  replace G := Lib.hid (grw_trans G.out (grw_below ((Below.refl _ w2).alloc (Nat.le_refl _) (.map #[] 0))))
  replace Z1 := Lib.hid ((Below.heap_alloc w2 (.map #[] 0) _ hlt).trans Z1.out)
  have hmid : Mid w0 (w2.alloc (.map #[] 0)) (w2.alloc (.map #[] 0)) p s (i + 1) ov (nd + 1) tw ls := ⟨HM1.out.rd, HM1.out.stk, Kp.refl _ _ _, HM1.out.hs⟩
  refine (enterE5 w2.heap.size hs hmid hp R HT.out).mono ?_
  rintro e w3 ⟨rfl, hm3, hf3⟩
  have Z3 := Lib.hid ((hf3 wr.heap.size (Array.getElem?_eq_some_iff.1 Z1.out).1 (by omega)).trans Z1.out)
  have HM3 := Lib.hid (Mid.mk hm3.rd hm3.stk (HM1.out.kp.trans hm3.kp) hm3.hs)
  have HF : Hid (∀ (b : Nat) (cs : Array Value), b < wr.heap.size → b ≠ p → some b ≠ ov.ownBlock → b ∉ ls.flatMap Lv.blocks → wr.heap[b]? = some (.cells cs 27 (0, 0)) → w3.heap[b]? = wr.heap[b]?) := fun b cs hb hn hq hbl hc => by
    have hg := G.out.block b hb (fun e => hn (Option.some.inj e))
    exact (hf3 b (Nat.lt_of_lt_of_le hb G.out.size) hn).trans hg
  clear hmid hm3 hf3 HM1 Z1 G
  obtain ⟨z0, z1, z2, z3, z4, z5⟩ := five Z3.out
  go_wp2
  exact bodyPost_ret (ret_node3 Tryz.results96 rfl rfl rfl (set5_end Z3.out _ _ _ _ _)) rfl ⟨rfl, fun b cs hb hn hq hbl hc => (set5_other _ _ _ _ _ _ _ _ _ (by omega)).trans (HF.out b cs hb hn hq hbl hc), HM3.out.set5 (by have := HL.out.1; omega) hp (fun y hy e => by have := HL.out.2 y hy; omega) _ _ _ _ _⟩


set_option maxRecDepth 100000 in
set_option maxHeartbeats 4000000 in
theorem beginN5 {w0 wr : World} {p : Nat} {s : ByteArray} (hs : s.size ≤ 1000000000) {i : Nat} {ov : Value} {nd : Nat} {tw : Int} {ls : List Lv} (hM : Mid w0 wr wr p s i ov nd tw ls) (hp : p < w0.heap.size) (hnd : nd ≤ 1000000000) (hll : ls.length ≤ 1048575) (R : List UInt8) (key : ByteArray) (hok : textOk key = true) (ht : s.data.toList.drop i = 123 :: ((quoteT key).data.toList ++ 58 :: R)) :
    Calls Tryz.prog 96 #[.pointer (some ⟨p, 0, none⟩)] wr fun e w' => e = .returned (.tuple #[.agg #[.int .i64 0, .int .i64 0, .string ⟨#[]⟩, .slice none 0 0, .slice none 0 0], .bool false, .nilIface]) ∧ (∀ b cs, b < wr.heap.size → b ≠ p → some b ≠ ov.ownBlock → b ∉ ls.flatMap Lv.blocks → wr.heap[b]? = some (.cells cs 27 (0, 0)) → w'.heap[b]? = wr.heap[b]?) ∧ ∃ ov' mb, Mid w0 wr w' p s (i + 1 + (quoteT key).data.toList.length + 1) ov' (nd + 1) tw (ls ++ [{ newLv 5 (.map (some mb)) [mb] with key := key, ks := [key] }]) := by
  have hs' : s.size ≤ maxLen := by unfold maxLen; omega
  obtain ⟨n1, n2, n3⟩ := nextB_drop ht
  have A1 := Lib.hid (fun (wx : World) (hx : Rd wx p s i ov nd tw) => rd_blanks_no p s i ov nd tw wx (Nat.le_of_lt n2) (by rw [n1]; decide) hx)
  have A2 := Lib.hid (fun (wx : World) (hx : Rd wx p s i ov (nd + 1) tw) => rd_take_yes p s i ov (nd + 1) tw wx hs' n2 123 n1 hx)
  have A3 := Lib.hid (fun (wx : World) (hx : Rd wx p s i ov (nd + 1) tw) => rd_take_no p s i ov (nd + 1) tw wx (Nat.le_of_lt n2) 91 (by rw [n1]; decide) hx)
  have HT : Hid (s.data.toList.drop (i + 1) = (quoteT key).data.toList ++ 58 :: R) := n3
  have HM := Lib.hid (hM.old (.cells #[.int .i64 0, .int .i64 0, .string ⟨#[]⟩, .slice none 0 0, .slice none 0 0] 27))
  have HL : Hid (w0.heap.size ≤ wr.heap.size ∧ ∀ x, (x ∈ ls.flatMap Lv.blocks ∨ ov.ownBlock = some x) → x < wr.heap.size) := ⟨hM.hs, fun x hx => (hM.stk.blocks hx).1⟩
  have Z0 := Lib.hid (heap_last wr (.cells #[.int .i64 0, .int .i64 0, .string ⟨#[]⟩, .slice none 0 0, .slice none 0 0] 27))
  have hp2 : p < wr.heap.size := Nat.lt_of_lt_of_le hp hM.hs
  have hw := wrap_succ nd hnd
  have G : Hid (wr.grownBy (wr.alloc (.cells #[.int .i64 0, .int .i64 0, .string ⟨#[]⟩, .slice none 0 0, .slice none 0 0] 27)) (some p)) := grw_below ((Below.refl _ wr).alloc (Nat.le_refl _) _)
  clear hM ht n1 n2 n3
  go_enter Tryz.func96, Tryz.ntmps96
  go_wp2_with fail
  refine (A1.out _ HM.out.rd).mono ?_
  rintro e w1 ⟨⟨v1, rfl⟩, hb1⟩
  replace HM := Lib.hid (HM.out.below hb1)
  replace Z0 := Lib.hid ((hb1.block _ (Array.getElem?_eq_some_iff.1 Z0.out).1).trans Z0.out)
  replace G := Lib.hid (grw_trans (grw_trans G.out (grw_below hb1)) (grw_set w1 p 3 (.int .i64 ((nd : Int) + 1))))
  clear hb1
  obtain ⟨x0, x1, x2, x3, x4, x5⟩ := HM.out.rd.five
  have HM1 := Lib.hid (HM.out.node1 hp)
  have Z1 := Lib.hid ((Below.heap_setCell w1 ⟨p, 3, none⟩ (.int .i64 ((nd : Int) + 1)) wr.heap.size (by show wr.heap.size ≠ p; omega)).trans Z0.out)
  clear HM Z0
  go_wp2_with fail
  refine (A3.out _ HM1.out.rd).mono ?_
  rintro e w7 ⟨rfl, hb7⟩
  replace HM1 := Lib.hid (HM1.out.below hb7)
  replace Z1 := Lib.hid ((hb7.block _ (Array.getElem?_eq_some_iff.1 Z1.out).1).trans Z1.out)
  replace G := Lib.hid (grw_trans G.out (grw_below hb7))
  clear hb7 x0 x1 x2 x3 x4 x5
  go_wp2_with fail
  refine (A2.out _ HM1.out.rd).mono ?_
  rintro e w2 ⟨rfl, h2, g2⟩
  replace Z1 := Lib.hid (grw_block Z1.out (by omega) g2)
  replace HM1 := Lib.hid (HM1.out.grw hp h2 g2)
  replace G := Lib.hid (grw_trans G.out g2)
  clear h2 g2
  have hmk : (Instr.makeMap 138 none).run Tryz.prog w2 = .ok (.map (some w2.heap.size)) (w2.alloc (.map #[] 0)) := rfl
  go_wp2_with fail
  have hlt : wr.heap.size < w2.heap.size := (Array.getElem?_eq_some_iff.1 Z1.out).1
  have HS := Lib.hid (Seen.start w2)
  have HMN : Hid (w0.heap.size ≤ w2.heap.size ∧ ∀ x, (x ∈ ls.flatMap Lv.blocks ∨ ov.ownBlock = some x) → x ≠ w2.heap.size) := ⟨HM1.out.hs, fun x hx e => by have := (HM1.out.stk.blocks hx).1; omega⟩
  replace HM1 := Lib.hid (HM1.out.old (.map #[] 0))
  replace G := Lib.hid (grw_trans G.out (grw_below ((Below.refl _ w2).alloc (Nat.le_refl _) (.map #[] 0))))
  replace Z1 := Lib.hid ((Below.heap_alloc w2 (.map #[] 0) _ hlt).trans Z1.out)
  have hmid : Mid w0 (w2.alloc (.map #[] 0)) (w2.alloc (.map #[] 0)) p s (i + 1) ov (nd + 1) tw ls := ⟨HM1.out.rd, HM1.out.stk, Kp.refl _ _ _, HM1.out.hs⟩
  refine (enterN5 hs hmid hp hll w2.heap.size HS.out HMN.out.1 HMN.out.2 key hok R HT.out).mono ?_
  rintro e w3 ⟨rfl, ov', hm3, hf3⟩
  have Z3 := Lib.hid ((hf3 wr.heap.size _ (Array.getElem?_eq_some_iff.1 Z1.out).1 (by omega) (fun h => by have := HL.out.2 _ (.inr h.symm); omega) (fun h => by have := HL.out.2 _ (.inl h); omega) (by omega) Z1.out).trans Z1.out)
  have HM3 := Lib.hid (Mid.mk hm3.rd hm3.stk (HM1.out.kp.trans hm3.kp) hm3.hs)
  have HF : Hid (∀ (b : Nat) (cs : Array Value), b < wr.heap.size → b ≠ p → some b ≠ ov.ownBlock → b ∉ ls.flatMap Lv.blocks → wr.heap[b]? = some (.cells cs 27 (0, 0)) → w3.heap[b]? = wr.heap[b]?) := fun b cs hb hn hq hbl hc => by
    have hg := G.out.block b hb (fun e => hn (Option.some.inj e))
    exact (hf3 b cs (Nat.lt_of_lt_of_le hb G.out.size) hn hq hbl (by omega) (hg.trans hc)).trans hg
  clear hmid hm3 hf3 HM1 Z1 G
  obtain ⟨z0, z1, z2, z3, z4, z5⟩ := five Z3.out
  go_wp2
  exact bodyPost_ret (ret_node3 Tryz.results96 rfl rfl rfl (set5_end Z3.out _ _ _ _ _)) rfl ⟨rfl, fun b cs hb hn hq hbl hc => (set5_other _ _ _ _ _ _ _ _ _ (by omega)).trans (HF.out b cs hb hn hq hbl hc), ov', w2.heap.size, HM3.out.set5 (by have := HL.out.1; omega) hp (HM3.out.node_apart Z3.out (fun x hx e => by have := HL.out.2 x (.inl hx); omega) (fun x hx e => by simp [newLv, Lv.blocks] at hx; omega)) _ _ _ _ _⟩

end Go.Proofs.YtmcjghhmcmkomaaGreatDoor

/- the program's begin at any right tree that stands in the text: the tree is in hand, or one level more is open, with its first Kid ahead. -/
namespace Go.Proofs.YtmcjghhmcmkomaaGreatDoor
open Go Go.RowKit

theorem drop_app {l A B : List UInt8} {i : Nat} (h : l.drop i = A ++ B) : l.drop (i + A.length) = B := by
  rw [← List.drop_drop, h, List.drop_left]

theorem app_le {s : ByteArray} {A B : List UInt8} {i : Nat} (h : s.data.toList.drop i = A ++ B) (hA : A ≠ []) : i + A.length ≤ s.size := by
  have h1 := congrArg List.length h
  simp only [List.length_drop, List.length_append] at h1
  have e : s.data.toList.length = s.size := by simp
  have : 0 < A.length := by cases A; exact absurd rfl hA; simp
  omega

theorem itoa_head (n : Int) : ∃ b r, Lib.itoa n = b :: r ∧ (b = 45 ∨ isDig b = true) := by
  cases hd : Lib.itoa n with
  | nil =>
    rw [Lib.itoa] at hd
    split at hd
    · cases hd
    · obtain ⟨-, -, d3, -⟩ := decs n.toNat
      exact absurd hd d3
  | cons b r =>
    refine ⟨b, r, rfl, ?_⟩
    rw [Lib.itoa] at hd
    split at hd
    · injection hd with h1 _
      exact .inl h1.symm
    · obtain ⟨-, d2, -, -⟩ := decs n.toNat
      exact .inr (d2 b (by rw [hd]; simp))

/-- A byte that a tree's text may open with. -/
def opens (b : UInt8) : Prop := blkB b = false ∧ b ≠ 93 ∧ b ≠ 125 ∧ b ≠ 44

theorem opens_num {b : UInt8} (h : b = 45 ∨ isDig b = true) : opens b ∧ b ≠ 91 ∧ b ≠ 123 := by
  rcases h with rfl | h
  · exact ⟨⟨by decide, by decide, by decide, by decide⟩, by decide, by decide⟩
  · have ne : ∀ c : UInt8, isDig c = false → b ≠ c := fun c hc e => by rw [e, hc] at h; cases h
    have e : blkB b = false := by simp [blkB, ne 32 (by decide), ne 9 (by decide), ne 10 (by decide), ne 13 (by decide)]
    exact ⟨⟨e, ne 93 (by decide), ne 125 (by decide), ne 44 (by decide)⟩, ne 91 (by decide), ne 123 (by decide)⟩

theorem quote_head {x : ByteArray} (hx : textOk x = true) : ∃ r, (quoteT x).data.toList = 34 :: r := by
  unfold quoteT
  rw [if_pos hx]
  exact ⟨escAll x.data.toList ++ [34], by simp [quoteL]⟩

theorem brac_head {X : RT} (h : X.right = true) : ∃ b r, X.brac = b :: r ∧ opens b := by
  obtain ⟨hh, -⟩ := right_out h
  cases X with
  | node k n s keys kids =>
    rcases hh with ⟨e, -⟩ | ⟨e, -⟩ | ⟨e, -⟩ | ⟨e, -, ht, -⟩ | ⟨e, -⟩ | ⟨e, -⟩
    · have e : k = 0 := e
      subst e
      exact ⟨_, _, brac0, by decide, by decide, by decide, by decide⟩
    · have e : k = 1 := e
      subst e
      rw [brac1]
      split
      · exact ⟨_, _, rfl, by decide, by decide, by decide, by decide⟩
      · exact ⟨_, _, rfl, by decide, by decide, by decide, by decide⟩
    · have e : k = 2 := e
      subst e
      obtain ⟨b, r, h1, h2⟩ := itoa_head n
      exact ⟨b, r, brac2.trans h1, (opens_num h2).1⟩
    · have e : k = 3 := e
      subst e
      obtain ⟨r, hr⟩ := quote_head ht
      exact ⟨34, r, brac3.trans hr, by decide, by decide, by decide, by decide⟩
    · have e : k = 4 := e
      subst e
      exact ⟨91, _, brac4, by decide, by decide, by decide, by decide⟩
    · have e : k = 5 := e
      subst e
      exact ⟨123, _, brac5, by decide, by decide, by decide, by decide⟩

theorem rest_head (fs : List Frm) (R : List UInt8) (hR : isDig (R.headD 0) = false) : isDig ((restText fs R).headD 0) = false := by
  cases fs with
  | nil => exact hR
  | cons f fs =>
    rw [restText]
    cases f.rr with
    | nil =>
      rw [tailL]
      by_cases h : f.k = 5
      · rw [if_pos h]; rfl
      · rw [if_neg h]; rfl
    | cons t rr => rw [tailL]; rfl

/-- What is open, as levels in memory: the innermost frame is the last level. -/
inductive Opn : List Frm → List Lv → Prop
  | nil : Opn [] []
  | cons (f : Frm) (fs : List Frm) (ls : List Lv) (l : Lv) : Opn fs ls → l.k = f.k → l.dd = f.dd → (f.k = 4 ∧ l.dk = [] ∧ f.dk = [] ∨ f.k = 5 ∧ l.dk = f.dk ∧ l.key = f.key ∧ l.ks = f.dk ++ [f.key]) → Opn (f :: fs) (ls ++ [l])

theorem Opn.length {fs : List Frm} {ls : List Lv} (h : Opn fs ls) : ls.length = fs.length := by
  induction h with
  | nil => rfl
  | cons f fs ls l _ _ _ _ ih => simp [ih]

theorem begun_length : (fs : List Frm) → fs.length ≤ begun fs
  | [] => Nat.le_refl _
  | f :: fs => by have := begun_length fs; simp only [begun, List.length_cons]; omega

/-- A leaf in hand lies nowhere. -/
theorem hand_leaf {w0 wr : World} {ov : Value} {ls : List Lv} {k n : Int} {s : ByteArray} (hk : Fit k) (hn : Fit n) (hs : s.size ≤ maxLen) : Hand w0 wr ov ls (.node k n s [] []) (.slice none 0 0) (.slice none 0 0) [] :=
  ⟨leaf_lies _ hk hn hs, Fresh.nil _ _, fun x hx => absurd hx (by simp), fun x hx => absurd hx (by simp)⟩
end Go.Proofs.YtmcjghhmcmkomaaGreatDoor

/- plain facts on the braced text of a right tree as a line of an indented text: it is one line, and neither an entry's nor a text as it is. -/
namespace Go.Proofs.YtmcjghhmcmkomaaGreatDoor
open Go Go.RowKit

theorem mem_join {b : UInt8} {sep : List UInt8} : {xs : List (List UInt8)} → b ∈ Lib.join xs sep → b ∈ sep ∨ ∃ x ∈ xs, b ∈ x
  | [], h => by rw [Lib.join_nil] at h; simp at h
  | x :: r, h => by
    rw [Lib.join_cons] at h
    rcases List.mem_append.1 h with h | h
    · exact .inr ⟨x, by simp, h⟩
    · unfold Lib.joinTail at h
      obtain ⟨y, hy, hb⟩ := List.mem_flatten.1 h
      obtain ⟨z, hz, rfl⟩ := List.mem_map.1 hy
      rcases List.mem_append.1 hb with hb | hb
      · exact .inl hb
      · exact .inr ⟨z, by simp [hz], hb⟩

theorem mem_bracAll {x : List UInt8} {l : List RT} (h : x ∈ bracAll l) : ∃ t ∈ l, x = t.brac := by
  obtain ⟨i, hi, rfl⟩ := List.getElem_of_mem h
  have hl := bracAll_length l
  have hi2 : i < l.length := by omega
  have := bracAll_get l i hi2
  rw [List.getElem?_eq_getElem hi] at this
  exact ⟨l[i], List.getElem_mem _, Option.some.inj this⟩

theorem itoa_bytes (n : Int) : ∀ b ∈ Lib.itoa n, b ≠ 10 := by
  intro b hb e
  subst e
  rw [Lib.itoa] at hb
  split at hb
  · rcases List.mem_cons.1 hb with h | h
    · exact absurd h (by decide)
    · obtain ⟨-, d2, -, -⟩ := decs n.natAbs
      exact absurd (d2 10 h) (by decide)
  · obtain ⟨-, d2, -, -⟩ := decs n.toNat
    exact absurd (d2 10 hb) (by decide)

theorem quote_bytes (x : ByteArray) : ∀ b ∈ (quoteT x).data.toList, b ≠ 10 := by
  intro b hb e
  subst e
  unfold quoteT at hb
  split at hb
  · rename_i h
    unfold textOk at h
    simp only [Bool.and_eq_true, decide_eq_true_eq, List.all_eq_true] at h
    simp only [quoteL, List.mem_append, List.mem_singleton, escAll, List.mem_flatMap] at hb
    rcases hb with (hb | ⟨c, hc, hb⟩) | hb
    · exact absurd hb (by decide)
    · unfold esc at hb
      split at hb
      · simp only [List.mem_cons, List.not_mem_nil, or_false] at hb
        rcases hb with hb | hb
        · exact absurd hb (by decide)
        · subst hb; exact absurd (h.2 10 hc) (by decide)
      · simp only [List.mem_singleton] at hb
        subst hb; exact absurd (h.2 10 hc) (by decide)
    · exact absurd hb (by decide)
  · simp at hb

theorem brac_bytes (T : RT) : T.right = true → ∀ b ∈ T.brac, b ≠ 10 := by
  induction T using RT.ind with
  | h k n s keys kids ih =>
    intro hT b hb
    obtain ⟨hh, hk⟩ := right_out hT
    have hkids : ∀ t ∈ kids, ∀ b ∈ t.brac, b ≠ 10 := fun t ht => ih t ht (by
      obtain ⟨i, hi, rfl⟩ := List.getElem_of_mem ht
      exact hk i hi)
    rcases hh with ⟨e, -⟩ | ⟨e, -⟩ | ⟨e, -⟩ | ⟨e, -⟩ | ⟨e, -⟩ | ⟨e, -⟩
    · have e : k = 0 := e
      subst e
      rw [brac0] at hb
      rintro rfl
      exact absurd hb (by decide)
    · have e : k = 1 := e
      subst e
      rw [brac1] at hb
      rintro rfl
      split at hb <;> exact absurd hb (by decide)
    · have e : k = 2 := e
      subst e
      rw [brac2] at hb
      exact itoa_bytes n b hb
    · have e : k = 3 := e
      subst e
      rw [brac3] at hb
      exact quote_bytes s b hb
    · have e : k = 4 := e
      subst e
      rw [brac4] at hb
      simp only [List.mem_append, List.mem_singleton] at hb
      rcases hb with rfl | hb | rfl
      · decide
      · rcases mem_join hb with hb | ⟨x, hx, hb⟩
        · simp only [List.mem_singleton] at hb; subst hb; decide
        · unfold partsOf at hx
          rw [if_pos rfl] at hx
          obtain ⟨t, ht, rfl⟩ := mem_bracAll hx
          exact hkids t ht b hb
      · decide
    · have e : k = 5 := e
      subst e
      rw [brac5] at hb
      simp only [List.mem_append, List.mem_singleton] at hb
      rcases hb with rfl | hb | rfl
      · decide
      · rcases mem_join hb with hb | ⟨x, hx, hb⟩
        · simp only [List.mem_singleton] at hb; subst hb; decide
        · unfold partsOf at hx
          rw [if_neg (by decide)] at hx
          obtain ⟨i, hi, rfl⟩ := List.getElem_of_mem hx
          rw [List.getElem_zipWith] at hb
          unfold keyed at hb
          simp only [List.mem_append, List.mem_singleton] at hb
          rcases hb with hb | rfl | hb
          · exact quote_bytes _ b hb
          · decide
          · obtain ⟨t, ht, h⟩ := mem_bracAll (List.getElem_mem (l := bracAll kids) (n := i) (by rw [List.length_zipWith] at hi; omega))
            rw [h] at hb
            exact hkids t ht b hb
      · decide

/-- A text that is a value alone, however its line is looked at. -/
structure Lone (s : ByteArray) : Prop where
  size : s.size ≤ 6000
  form : (∃ b r, s.data.toList = b :: r ∧ isLet b = false ∧ b ≠ 35 ∧ b ≠ 32 ∧ b ≠ 34 ∧ (b = 45 → ∃ c r', r = c :: r' ∧ c ≠ 32)) ∨ (∃ l, l.all okByte = true ∧ s.data.toList = 34 :: (escAll l ++ [34])) ∨ s.data.toList = [110, 117, 108, 108] ∨ s.data.toList = [116, 114, 117, 101] ∨ s.data.toList = [102, 97, 108, 115, 101]
  line : ∀ b ∈ s.data.toList, b ≠ 10

theorem dig_no {b : UInt8} (h : isDig b = true) : isLet b = false ∧ b ≠ 35 ∧ b ≠ 32 ∧ b ≠ 34 ∧ b ≠ 45 := by
  have ne : ∀ c : UInt8, isDig c = false → b ≠ c := fun c hc e => by rw [e, hc] at h; cases h
  refine ⟨?_, ne 35 (by decide), ne 32 (by decide), ne 34 (by decide), ne 45 (by decide)⟩
  unfold isDig at h
  simp only [Bool.and_eq_true, decide_eq_true_eq] at h
  simp only [isLet, Bool.or_eq_false_iff, Bool.and_eq_false_iff, decide_eq_false_iff_not]
  omega

theorem lone_of {T : RT} (h : T.right = true) (hs : T.brac.length ≤ 6000) : Lone ⟨T.brac.toArray⟩ := by
  have hline := brac_bytes T h
  refine ⟨by show T.brac.toArray.size ≤ 6000; simpa using hs, ?_, by simpa using hline⟩
  show (∃ b r, T.brac.toArray.toList = b :: r ∧ _) ∨ (∃ l, _ ∧ T.brac.toArray.toList = _) ∨ T.brac.toArray.toList = _ ∨ T.brac.toArray.toList = _ ∨ T.brac.toArray.toList = _
  rw [List.toList_toArray]
  obtain ⟨hh, -⟩ := right_out h
  cases T with
  | node k n s keys kids =>
    rcases hh with ⟨e, -⟩ | ⟨e, -⟩ | ⟨e, -⟩ | ⟨e, -, ht, -⟩ | ⟨e, -⟩ | ⟨e, -⟩
    · have e : k = 0 := e
      subst e
      exact .inr (.inr (.inl brac0))
    · have e : k = 1 := e
      subst e
      rw [brac1]
      split
      · exact .inr (.inr (.inr (.inl rfl)))
      · exact .inr (.inr (.inr (.inr rfl)))
    · have e : k = 2 := e
      subst e
      rw [brac2, Lib.itoa]
      split
      · obtain ⟨-, d2, d3, -⟩ := decs n.natAbs
        refine .inl ⟨45, _, rfl, by decide, by decide, by decide, by decide, fun _ => ?_⟩
        cases hd : Lib.decDigits n.natAbs with
        | nil => exact absurd hd d3
        | cons c r => exact ⟨c, r, rfl, (dig_no (d2 c (by rw [hd]; simp))).2.2.1⟩
      · obtain ⟨-, d2, d3, -⟩ := decs n.toNat
        cases hd : Lib.decDigits n.toNat with
        | nil => exact absurd hd d3
        | cons c r =>
          obtain ⟨a1, a2, a3, a4, a5⟩ := dig_no (d2 c (by rw [hd]; simp))
          exact .inl ⟨c, r, rfl, a1, a2, a3, a4, fun e => absurd e a5⟩
    · have e : k = 3 := e
      subst e
      rw [brac3]
      have ht : textOk s = true := ht
      refine .inr (.inl ⟨s.data.toList, ?_, ?_⟩)
      · unfold textOk at ht
        simp only [Bool.and_eq_true] at ht
        exact ht.2
      · unfold quoteT
        rw [if_pos ht]
        simp [quoteL]
    · have e : k = 4 := e
      subst e
      rw [brac4]
      exact .inl ⟨91, _, rfl, by decide, by decide, by decide, by decide, fun e => absurd e (by decide)⟩
    · have e : k = 5 := e
      subst e
      rw [brac5]
      exact .inl ⟨123, _, rfl, by decide, by decide, by decide, by decide, fun e => absurd e (by decide)⟩
end Go.Proofs.YtmcjghhmcmkomaaGreatDoor

/- the program's begin at any right tree that stands in the text, in one contract. -/
namespace Go.Proofs.YtmcjghhmcmkomaaGreatDoor
open Go Go.RowKit

theorem begin_any {w0 wr : World} {p : Nat} {s : ByteArray} (hs : s.size ≤ 1000000000) {i : Nat} {ov : Value} {tw : Int} {ls : List Lv} {fs : List Frm} {X : RT} {R : List UInt8} (hM : Mid w0 wr wr p s i ov (begun fs) tw ls) (hp : p < w0.heap.size) (ho : Opn fs ls)
    (hT : (plug fs X).right = true) (hz : (plug fs X).size ≤ 200) (ht : s.data.toList.drop i = X.brac ++ restText fs R) (hR : isDig (R.headD 0) = false) :
    Calls Tryz.prog 96 #[.pointer (some ⟨p, 0, none⟩)] wr fun e w' => (∀ b cs, b < wr.heap.size → b ≠ p → some b ≠ ov.ownBlock → b ∉ ls.flatMap Lv.blocks → wr.heap[b]? = some (.cells cs 27 (0, 0)) → w'.heap[b]? = wr.heap[b]?) ∧
      ((∃ kx dx FX j, e = .returned (.tuple #[.agg #[.int .i64 X.k, .int .i64 X.n, .string X.s, kx, dx], .bool true, .nilIface]) ∧ Mid w0 wr w' p s j ov (begun fs + X.size) tw ls ∧ Hand w0 w' ov ls X kx dx FX ∧ s.data.toList.drop j = restText fs R ∧ i < j ∧ j ≤ s.size) ∨
       (∃ f x l ov' j, e = .returned (.tuple #[.agg #[.int .i64 0, .int .i64 0, .string ⟨#[]⟩, .slice none 0 0, .slice none 0 0], .bool false, .nilIface]) ∧ Frm.fill f x = X ∧ Opn (f :: fs) (ls ++ [l]) ∧ Mid w0 wr w' p s j ov' (begun (f :: fs)) tw (ls ++ [l]) ∧ s.data.toList.drop j = x.brac ++ restText (f :: fs) R ∧ i < j)) := by
  have hps := plug_size fs X
  have hbl := begun_length fs
  have hll := ho.length
  have hX := plug_right fs X hT
  obtain ⟨hh, hkids⟩ := right_out hX
  have fz : Fit 0 := ⟨by decide, by decide⟩
  cases X with
  | node k n x keys kids =>
    rcases hh with ⟨e, e1, e2, e3, e4⟩ | ⟨e, e1, e2, e3, e4⟩ | ⟨e, e1, e2, e3, e4⟩ | ⟨e, e1, e2, e3, e4⟩ | ⟨e, e1, e2, e3⟩ | ⟨e, e1, e2, e3, e4⟩
    · have e : k = 0 := e
      have e1 : n = 0 := e1
      have e2 : x = ⟨#[]⟩ := e2
      obtain rfl : keys = [] := List.length_eq_zero_iff.1 e3
      obtain rfl : kids = [] := List.length_eq_zero_iff.1 e4
      subst e e1 e2
      rw [brac0] at ht
      obtain ⟨n1, n2, -⟩ := nextB_drop (b := 110) (l := [117, 108, 108] ++ restText fs R) ht
      refine (beginL hM hp (by omega) (by rw [n1]; rfl) (by rw [n1]; decide) (by rw [n1]; decide) (Nat.le_of_lt n2) 0 0 ⟨#[]⟩ (i + 4) (fun wx hx => rd_leaf0 p s hs i ov _ tw (restText fs R) ht wx hx)).mono ?_
      rintro e w' ⟨rfl, hfr, hM'⟩
      exact ⟨hfr, .inl ⟨_, _, [], i + 4, rfl, hM', hand_leaf fz fz (by decide), drop_app ht, ⟨by omega, app_le ht (by simp)⟩⟩⟩
    · have e : k = 1 := e
      have e1 : n = 0 ∨ n = 1 := e1
      have e2 : x = ⟨#[]⟩ := e2
      obtain rfl : keys = [] := List.length_eq_zero_iff.1 e3
      obtain rfl : kids = [] := List.length_eq_zero_iff.1 e4
      subst e e2
      rcases e1 with rfl | rfl
      · rw [brac1, if_neg (by decide)] at ht
        obtain ⟨n1, n2, -⟩ := nextB_drop (b := 102) (l := [97, 108, 115, 101] ++ restText fs R) ht
        refine (beginL hM hp (by omega) (by rw [n1]; rfl) (by rw [n1]; decide) (by rw [n1]; decide) (Nat.le_of_lt n2) 1 0 ⟨#[]⟩ (i + 5) (fun wx hx => rd_leaf1f p s hs i ov _ tw (restText fs R) ht wx hx)).mono ?_
        rintro e w' ⟨rfl, hfr, hM'⟩
        exact ⟨hfr, .inl ⟨_, _, [], i + 5, rfl, hM', hand_leaf ⟨by decide, by decide⟩ fz (by decide), drop_app ht, ⟨by omega, app_le ht (by simp)⟩⟩⟩
      · rw [brac1, if_pos rfl] at ht
        obtain ⟨n1, n2, -⟩ := nextB_drop (b := 116) (l := [114, 117, 101] ++ restText fs R) ht
        refine (beginL hM hp (by omega) (by rw [n1]; rfl) (by rw [n1]; decide) (by rw [n1]; decide) (Nat.le_of_lt n2) 1 1 ⟨#[]⟩ (i + 4) (fun wx hx => rd_leaf1t p s hs i ov _ tw (restText fs R) ht wx hx)).mono ?_
        rintro e w' ⟨rfl, hfr, hM'⟩
        exact ⟨hfr, .inl ⟨_, _, [], i + 4, rfl, hM', hand_leaf ⟨by decide, by decide⟩ ⟨by decide, by decide⟩ (by decide), drop_app ht, ⟨by omega, app_le ht (by simp)⟩⟩⟩
    · have e : k = 2 := e
      have e1 : -1000000000000 ≤ n ∧ n ≤ 1000000000000 := e1
      have e2 : x = ⟨#[]⟩ := e2
      obtain rfl : keys = [] := List.length_eq_zero_iff.1 e3
      obtain rfl : kids = [] := List.length_eq_zero_iff.1 e4
      subst e e2
      rw [brac2] at ht
      obtain ⟨b, r, h1, h2⟩ := itoa_head n
      obtain ⟨⟨o1, -, -, -⟩, o2, o3⟩ := opens_num h2
      obtain ⟨n1, n2, -⟩ := nextB_drop (b := b) (l := r ++ restText fs R) (by rw [ht, h1]; rfl)
      refine (beginL hM hp (by omega) (by rw [n1]; exact o1) (by rw [n1]; exact o2) (by rw [n1]; exact o3) (Nat.le_of_lt n2) 2 n ⟨#[]⟩ (i + (Lib.itoa n).length) (fun wx hx => rd_leaf2 p s hs i ov _ tw n e1.1 e1.2 (restText fs R) (rest_head fs R hR) ht wx hx)).mono ?_
      rintro e w' ⟨rfl, hfr, hM'⟩
      exact ⟨hfr, .inl ⟨_, _, [], _, rfl, hM', hand_leaf ⟨by decide, by decide⟩ ⟨by omega, by omega⟩ (by decide), drop_app ht, ⟨by have := congrArg List.length h1; simp only [List.length_cons] at this; omega, app_le ht (by rw [h1]; simp)⟩⟩⟩
    · have e : k = 3 := e
      have e1 : n = 0 := e1
      have e2 : textOk x = true := e2
      obtain rfl : keys = [] := List.length_eq_zero_iff.1 e3
      obtain rfl : kids = [] := List.length_eq_zero_iff.1 e4
      subst e e1
      rw [brac3] at ht
      have e2 : textOk x = true := e2
      obtain ⟨r, h1⟩ := quote_head e2
      obtain ⟨n1, n2, -⟩ := nextB_drop (b := 34) (l := r ++ restText fs R) (by rw [ht, h1]; rfl)
      have hxs : x.size ≤ maxLen := by
        unfold textOk at e2
        simp only [Bool.and_eq_true, decide_eq_true_eq] at e2
        have := e2.1
        unfold maxLen
        omega
      refine (beginL hM hp (by omega) (by rw [n1]; rfl) (by rw [n1]; decide) (by rw [n1]; decide) (Nat.le_of_lt n2) 3 0 x (i + (quoteT x).data.toList.length) (fun wx hx => rd_leaf3 p s hs i ov _ tw x e2 (restText fs R) ht wx hx)).mono ?_
      rintro e w' ⟨rfl, hfr, hM'⟩
      exact ⟨hfr, .inl ⟨_, _, [], _, rfl, hM', hand_leaf ⟨by decide, by decide⟩ fz hxs, drop_app ht, ⟨by have := congrArg List.length h1; simp only [List.length_cons] at this; omega, app_le ht (by rw [h1]; simp)⟩⟩⟩
    · have e : k = 4 := e
      have e1 : n = 0 := e1
      have e2 : x = ⟨#[]⟩ := e2
      obtain rfl : keys = [] := List.length_eq_zero_iff.1 e3
      subst e e1 e2
      cases kids with
      | nil =>
        rw [brac_nil4] at ht
        refine (beginE4 hs hM hp (by omega) (by omega) (restText fs R) ht).mono ?_
        rintro e w' ⟨rfl, hfr, hM'⟩
        exact ⟨hfr, .inl ⟨_, _, [], i + 2, rfl, hM', hand_leaf ⟨by decide, by decide⟩ fz (by decide), drop_app ht, ⟨by omega, app_le ht (by simp)⟩⟩⟩
      | cons y rr =>
        rw [brac_cons4] at ht
        obtain ⟨b, r, h1, o1, o2, -, -⟩ := brac_head (hkids 0 (by simp [RT.kids]))
        have h1 : y.brac = b :: r := h1
        have ht2 : s.data.toList.drop i = 91 :: (y.brac ++ (tailL 4 [] rr ++ restText fs R)) := by rw [ht]; simp
        obtain ⟨-, -, m3⟩ := nextB_drop ht2
        obtain ⟨q1, -, -⟩ := nextB_drop (b := b) (l := r ++ (tailL 4 [] rr ++ restText fs R)) (by rw [m3, h1]; rfl)
        refine (beginN4 hs hM hp (by omega) (by omega) _ ht2 (by rw [q1]; exact o1) (by rw [q1]; exact o2)).mono ?_
        rintro e w' ⟨rfl, hfr, ov', hM'⟩
        refine ⟨hfr, .inr ⟨⟨4, [], [], ⟨#[]⟩, [], rr⟩, y, newLv 4 (.map none) [], ov', i + 1, rfl, rfl, .cons _ fs ls _ ho rfl rfl (.inl ⟨rfl, rfl, rfl⟩), ?_, m3, by omega⟩⟩
        have eb : begun (⟨4, [], [], ⟨#[]⟩, [], rr⟩ :: fs) = begun fs + 1 := by simp only [begun, sizeAll]; omega
        rw [eb]
        exact hM'
    · have e : k = 5 := e
      have e1 : n = 0 := e1
      have e2 : x = ⟨#[]⟩ := e2
      have e3 : keys.length = kids.length := e3
      have e4 : keysOk keys = true := e4
      subst e e1 e2
      cases kids with
      | nil =>
        have e5 : keys = [] := List.length_eq_zero_iff.1 e3
        subst e5
        rw [brac_nil5] at ht
        refine (beginE5 hs hM hp (by omega) (by omega) (restText fs R) ht).mono ?_
        rintro e w' ⟨rfl, hfr, hM'⟩
        exact ⟨hfr, .inl ⟨_, _, [], i + 2, rfl, hM', hand_leaf ⟨by decide, by decide⟩ fz (by decide), drop_app ht, ⟨by omega, app_le ht (by simp)⟩⟩⟩
      | cons y rr =>
        cases keys with
        | nil => exact absurd e3 (by show ¬ (0 = rr.length + 1); omega)
        | cons key rk =>
          rw [brac_cons5 _ _ _ _ _ _ (show rk.length = rr.length by have e3 : rk.length + 1 = rr.length + 1 := e3; omega)] at ht
          have e4 : keysOk (key :: rk) = true := e4
          have hok : textOk key = true := (keysOk_out e4 0 (by simp)).1
          have ht2 : s.data.toList.drop i = 123 :: ((quoteT key).data.toList ++ 58 :: (y.brac ++ (tailL 5 rk rr ++ restText fs R))) := by rw [ht]; simp
          obtain ⟨-, -, m3⟩ := nextB_drop ht2
          have m4 := drop_app m3
          obtain ⟨-, -, m5⟩ := nextB_drop m4
          refine (beginN5 hs hM hp (by omega) (by omega) _ key hok ht2).mono ?_
          rintro e w' ⟨rfl, hfr, ov', mb, hM'⟩
          refine ⟨hfr, .inr ⟨⟨5, [], [], key, rk, rr⟩, y, { newLv 5 (.map (some mb)) [mb] with key := key, ks := [key] }, ov', i + 1 + (quoteT key).data.toList.length + 1, rfl, rfl, .cons _ fs ls _ ho rfl rfl (.inr ⟨rfl, rfl, rfl, rfl⟩), ?_, m5, by omega⟩⟩
          have eb : begun (⟨5, [], [], key, rk, rr⟩ :: fs) = begun fs + 1 := by simp only [begun, sizeAll]; omega
          rw [eb]
          exact hM'
end Go.Proofs.YtmcjghhmcmkomaaGreatDoor
