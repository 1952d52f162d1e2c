/-
  What is proved: for every text the program's TextOf answers as the model's TextOf does, in memory of its own; no condition.
-/
import Derived.Test.YthbphkakbjheeaaLeaf
namespace Go.Proofs.Ythbphkakbjheeaa
open Go Go.RowKit

set_option maxHeartbeats 400000 in
theorem node_text (s : ByteArray) (w : World) : Calls Try.prog 49 #[.string s] w fun e w' => e = .returned (.agg #[.int .i64 3, .int .i64 0, .string s, .slice none 0 0, .slice none 0 0]) ∧ Below w.heap.size w w' := by
  go_enter Try.func49, Try.ntmps49
  go_wp2
  exact bodyPost_ret (ret_node Try.results49 rfl (heap_last w _)) rfl ⟨rfl, (Below.refl _ w).alloc (Nat.le_refl _) _⟩

set_option maxHeartbeats 400000 in
theorem spec_textOf (s : ByteArray) (w : World) : Calls Try.prog 24 #[.string s] w fun e w' => e = .returned (.agg #[.int .i64 3, .int .i64 0, .string s, .slice none 0 0, .slice none 0 0]) ∧ Below w.heap.size w w' := by
  go_enter Try.func24, Try.ntmps24
  go_wp2
  exact bodyPost_ret (ret_node Try.results24 rfl (heap_last w _)) rfl ⟨rfl, (Below.refl _ w).alloc (Nat.le_refl _) _⟩

set_option maxHeartbeats 400000 in
theorem impl_textOf (s : ByteArray) (w : World) : Calls Try.prog 19 #[.string s] w fun e w' => e = .returned (.agg #[.int .i64 3, .int .i64 0, .string s, .slice none 0 0, .slice none 0 0]) ∧ Below w.heap.size w w' := by
  go_enter Try.func19, Try.ntmps19
  go_wp2_with (first
    | (go_at_call 49; refine (node_text _ _).mono ?_; rintro e w1 ⟨rfl, hb1⟩; obtain ⟨hh, hB⟩ := hand_on hb1; obtain ⟨g0, g1, g2, g3, g4, g5⟩ := five hh; have HH := Lib.hid (And.intro hh hB); clear hh hB hb1)
    | go_in)
  exact bodyPost_ret (ret_node Try.results19 rfl (set5_end HH.out.1 _ _ _ _ _)) rfl ⟨rfl, set5_below HH.out.2 (Nat.le_refl _) 0 _ _ _ _ _⟩


set_option maxRecDepth 100000 in
set_option maxHeartbeats 800000 in
theorem textOf_walk (s : ByteArray) (hs : s.size ≤ maxLen) (w : World) : Calls Try.prog 10 #[.string s] w fun e w' => e = .returned (.bool true) ∧ Below w.heap.size w w' := by
  have hk : Fit 3 := ⟨by omega, by omega⟩
  have hn : Fit 0 := ⟨by omega, by omega⟩
  have hm := hs
  unfold maxLen at hm
  by_cases hg : ¬ s.size ≤ 1048576
  · go_enter Try.func10, Try.ntmps10
    go_wp2
    go_ret
    exact ⟨rfl, Below.refl _ _⟩
  have hg2 : s.size ≤ 1048576 := by omega
  clear hg
  have HS := Lib.hid (spec_textOf s)
  have HI := Lib.hid (impl_textOf s)
  have t1 : True := trivial
  go_enter Try.func10, Try.ntmps10
  go_wp2_with (first
    | (go_at_call 24; clear t1; refine (HS.out _).mono ?_; rintro e w1 ⟨rfl, hb1⟩)
    | fail)
  have hb1a := hb1.alloc hb1.size (.cells #[.int .i64 3, .int .i64 0, .string s, .slice none 0 0, .slice none 0 0] 30)
  refine (HI.out _).mono ?_
  rintro e w2 ⟨rfl, hb2⟩
  have X := Lib.hid ((Box.start w1 _ _ _ _ _ 30).next hb2)
  have HB2 := Lib.hid (hb1a.trans (hb2.mono hb1a.size))
  have XA := Lib.hid fun o => X.out.next ((Below.refl _ w2).alloc (Nat.le_refl _) o)
  have x0 := fun o => (XA.out o).c0
  have x1 := fun o => (XA.out o).c1
  have x2 := fun o => (XA.out o).c2
  have x3 := fun o => (XA.out o).c3
  have x4 := fun o => (XA.out o).c4
  clear hb1 hb1a hb2
  go_wp2_with fail
  refine (eq_node (.node 3 0 s [] []) _ _ _ [] (leaf_lies _ hk hn hs) (.node 3 0 s [] []) _ _ [] (leaf_lies _ hk hn hs)).mono ?_
  rintro e w3 ⟨rfl, hb3⟩
  rw [same_yes rfl]
  have hb23 := ((Below.refl _ w2).alloc (Nat.le_refl _) (.cells #[.int .i64 3, .int .i64 0, .string s, .slice none 0 0, .slice none 0 0] 30)).trans (hb3.mono (by simp))
  have Y := Lib.hid ((Box.start w2 _ _ _ _ _ 30).next hb3)
  have X3 := Lib.hid (X.out.next hb23)
  have HB3 := Lib.hid (HB2.out.trans (hb23.mono HB2.out.size))
  clear hb3 hb23 x0 x1 x2 x3 x4 XA X HB2
  obtain ⟨-, -, y0, y1, y2, y3, y4⟩ := Y.out
  go_wp2_with fail
  refine (mark_node1 (.node 3 0 s [] []) _ _ _ [] (leaf_lies _ hk hn hs) List.nodup_nil (fun b h => absurd h (by simp)) (by simp [RT.cnt, cntAll])).mono ?_
  rintro e w4 ⟨rfl, hl4, hb4⟩
  have HB4 := Lib.hid (HB3.out.trans (hb4.below.mono HB3.out.size))
  have Y4 := Lib.hid (Y.out.next hb4.below)
  have X4 := Lib.hid (X3.out.next hb4.below)
  have HL4 := Lib.hid hl4
  clear y0 y1 y2 y3 y4 Y X3 HB3 hl4 hb4
  obtain ⟨-, -, y0, y1, y2, y3, y4⟩ := Y4.out
  go_wp2_with fail
  refine (held_node1 (.node 3 0 s [] []) _ _ _ [] HL4.out (by simp [RT.cnt, cntAll])).mono ?_
  rintro e w5 ⟨rfl, hb5⟩
  have HB5 := Lib.hid (HB4.out.trans (hb5.mono HB4.out.size))
  have Y5 := Lib.hid (Y4.out.next hb5)
  have X5 := Lib.hid (X4.out.next hb5)
  have HL5 := Lib.hid (HL4.out.stay hb5 (Nat.le_refl _))
  clear y0 y1 y2 y3 y4 Y4 X4 HB4 HL4 hb5
  go_wp2_with fail
  refine (HI.out _).mono ?_
  rintro e w6 ⟨rfl, hb6⟩
  have HB6 := Lib.hid (HB5.out.trans (hb6.mono HB5.out.size))
  have Y6 := Lib.hid (Y5.out.next hb6)
  have X6 := Lib.hid (X5.out.next hb6)
  have HL6 := Lib.hid (HL5.out.stay hb6 (Nat.le_refl _))
  have XA := Lib.hid fun o => X6.out.next ((Below.refl _ w6).alloc (Nat.le_refl _) o)
  have x0 := fun o => (XA.out o).c0
  have x1 := fun o => (XA.out o).c1
  have x2 := fun o => (XA.out o).c2
  have x3 := fun o => (XA.out o).c3
  have x4 := fun o => (XA.out o).c4
  clear Y5 X5 HB5 HL5 hb6
  go_wp2_with fail
  refine (eq_node (.node 3 0 s [] []) _ _ _ [] (leaf_lies _ hk hn hs) (.node 3 0 s [] []) _ _ [] (leaf_lies _ hk hn hs)).mono ?_
  rintro e w7 ⟨rfl, hb7⟩
  rw [same_yes rfl]
  have hb67 := ((Below.refl _ w6).alloc (Nat.le_refl _) (.cells #[.int .i64 3, .int .i64 0, .string s, .slice none 0 0, .slice none 0 0] 30)).trans (hb7.mono (by simp))
  have HB7 := Lib.hid (HB6.out.trans (hb67.mono HB6.out.size))
  have HL7 := Lib.hid (HL6.out.stay hb67 (Nat.le_refl _))
  obtain ⟨-, -, y0, y1, y2, y3, y4⟩ := Y6.out.next hb67
  clear hb7 hb67 x0 x1 x2 x3 x4 XA X6 Y6 HB6 HL6
  go_wp2_with fail
  refine (held_node1 (.node 3 0 s [] []) _ _ _ [] HL7.out (by simp [RT.cnt, cntAll])).mono ?_
  rintro e w8 ⟨rfl, hb8⟩
  have HB8 := Lib.hid (HB7.out.trans (hb8.mono HB7.out.size))
  clear y0 y1 y2 y3 y4 HB7 HL7 hb8
  go_wp2
  go_ret
  exact ⟨rfl, HB8.out⟩
end Go.Proofs.Ythbphkakbjheeaa
