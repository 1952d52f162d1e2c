/-
  What is proved: for any two trees the program's TreeSame answers as the model's TreeSame does, and the law returns true with its arguments as they were; no condition.
-/
import Derived.Test.YthbphkakbjheeaaSameS
import Derived.Test.YthbphkakbjheeaaSameI
import Derived.Test.YthbphkakbjheeaaTreeTo
import Derived.Test.YthbphkakbjheeaaTreeEqN
import Derived.Deep.RegionHeld3
namespace Go.Proofs.Ythbphkakbjheeaa
open Go Go.RowKit

set_option maxRecDepth 100000 in
set_option maxHeartbeats 1600000 in
theorem treeSame_walk (A : RT) (kvA dvA : Value) (FA : List Nat) (B : RT) (kvB dvB : Value) (FB : List Nat) (w : World) (hA : Lies w A kvA dvA FA) (hB : Lies w B kvB dvB FB) :
    Calls Try.prog 6 #[.agg #[.int .i64 A.k, .int .i64 A.n, .string A.s, kvA, dvA], .agg #[.int .i64 B.k, .int .i64 B.n, .string B.s, kvB, dvB]] w fun e w' => e = .returned (.bool true) ∧ Below w.heap.size w w' := by
  have SA := Lib.hid fun (wr : World) (hb : Below w.heap.size w wr) => sz_node A wr kvA dvA FA (hA.stay hb (Nat.le_refl _)) 1048576 (by omega) (by omega)
  have SB := Lib.hid fun (wr : World) (hb : Below w.heap.size w wr) => sz_node B wr kvB dvB FB (hB.stay hb (Nat.le_refl _))
  have HX := Lib.hid (Box2.start w (.int .i64 A.k) (.int .i64 A.n) (.string A.s) kvA dvA (.int .i64 B.k) (.int .i64 B.n) (.string B.s) kvB dvB 38 38)
  by_cases hsA : (A.sz : Int) ≤ 1048576
  · by_cases hsB : (B.sz : Int) ≤ 1048576 - A.sz
    · have TA := Lib.hid fun (wr : World) (hb : Below w.heap.size w wr) => to_node A wr kvA dvA FA (hA.stay hb (Nat.le_refl _)) (by omega)
      have TB := Lib.hid fun (wr : World) (hb : Below w.heap.size w wr) => to_node B wr kvB dvB FB (hB.stay hb (Nat.le_refl _)) (by omega)
      have t1 : True := trivial
      have t2 : True := trivial
      clear hA hB
      go_enter Try.func6, Try.ntmps6
      go_wp2_with (first
        | (go_at_call 26; clear t1; refine (SA.out _ HX.out.below).mono ?_; rintro e w1 ⟨rfl, hb1⟩; rw [left_ok (by omega)]; replace HX := Lib.hid (HX.out.next hb1); obtain ⟨-, -, -, -, -, -, -, g0, g1, g2, g3, g4⟩ := HX.out; clear hb1)
        | fail)
      go_wp2_with (first
        | (go_at_call 26; clear t2; refine (SB.out _ HX.out.below _ (by omega) (by omega)).mono ?_; rintro e w2 ⟨rfl, hb1⟩; rw [left_ok (by omega)]; replace HX := Lib.hid (HX.out.next hb1); clear hb1 g0 g1 g2 g3 g4)
        | fail)
      have HD := Lib.hid (HX.out.next (below_drewN (Below.refl _ _) 1))
      obtain ⟨-, -, x0, x1, x2, x3, x4, y0, y1, y2, y3, y4⟩ := HX.out
      go_region_held3 (fun w' => w'.cell? ⟨w.heap.size, 0, none⟩ = some (.int .i64 A.k) ∧ w'.cell? ⟨w.heap.size, 1, none⟩ = some (.int .i64 A.n) ∧ w'.cell? ⟨w.heap.size, 2, none⟩ = some (.string A.s) ∧ w'.cell? ⟨w.heap.size, 3, none⟩ = some kvA ∧ w'.cell? ⟨w.heap.size, 4, none⟩ = some dvA ∧ w'.cell? ⟨w.heap.size + 1, 0, none⟩ = some (.int .i64 B.k) ∧ w'.cell? ⟨w.heap.size + 1, 1, none⟩ = some (.int .i64 B.n) ∧ w'.cell? ⟨w.heap.size + 1, 2, none⟩ = some (.string B.s) ∧ w'.cell? ⟨w.heap.size + 1, 3, none⟩ = some kvB ∧ w'.cell? ⟨w.heap.size + 1, 4, none⟩ = some dvB) (go_keep)
        (first
          | (go_at_call_of 28 kvA; refine (TA.out _ HD.out.below).mono ?_; rintro e w3 ⟨kv1, dv1, F1, rfl, hl1, hf1, hb1⟩; have HX3 := Lib.hid (HD.out.next hb1); obtain ⟨-, -, p0, p1, p2, p3, p4, q0, q1, q2, q3, q4⟩ := HX3.out; have HL1 := Lib.hid hl1; clear hl1 hf1 hb1)
          | (go_at_call_of 28 kvB; refine (TB.out _ HX3.out.below).mono ?_; rintro e w4 ⟨kv2, dv2, F2, rfl, hl2, hf2, hb2⟩; have HX4 := Lib.hid (HX3.out.next hb2); obtain ⟨-, -, r0, r1, r2, r3, r4, s0, s1, s2, s3, s4⟩ := HX4.out; have HL2 := Lib.hid (And.intro (HL1.out.stay hb2 (Nat.le_refl _)) hl2); clear hl2 hf2 hb2)
          | (go_at_call 33; refine (spec_same A _ _ _ _ HL2.out.1 _ _ _ _ HL2.out.2).mono ?_; rintro e w5 ⟨rfl, hb3⟩; have HX5 := Lib.hid (HX4.out.next hb3); obtain ⟨-, -, m0, m1, m2, m3, m4, n0, n1, n2, n3, n4⟩ := HX5.out; clear hb3))
      clear m0 m1 m2 m3 m4 n0 n1 n2 n3 n4 r0 r1 r2 r3 r4 s0 s1 s2 s3 s4 p0 p1 p2 p3 p4 q0 q1 q2 q3 q4 x0 x1 x2 x3 x4 y0 y1 y2 y3 y4 HL1 HL2 HX HX3 HX4 HD
      obtain ⟨-, -, x0, x1, x2, x3, x4, -, -, -, -, -⟩ := HX5.out
      have t3 : True := trivial
      go_wp2_with (first
        | (go_at_call_of 28 kvA; clear t3; refine (TA.out _ HX5.out.below).mono ?_; rintro e w6 ⟨kv5, dv5, F5, rfl, hl5, hf5, hb5⟩; obtain ⟨⟨o1, c1, rfl⟩, ⟨o2, c2, rfl⟩⟩ := hl5.slices; have HX6 := Lib.hid (HX5.out.next hb5); have HL5 := Lib.hid hl5
           have HX6a := Lib.hid (HX6.out.next ((Below.refl _ w6).alloc (Nat.le_refl _) (.cells #[.int .i64 A.k, .int .i64 A.n, .string A.s, .slice o1 A.keys.length c1, .slice o2 A.kids.length c2] 30)))
           obtain ⟨-, -, -, -, -, -, -, y0, y1, y2, y3, y4⟩ := HX6a.out
           clear hl5 hf5 hb5 x0 x1 x2 x3 x4 HX5)
        | fail)
      have t4 : True := trivial
      go_wp2_with (first
        | (go_at_call_of 28 kvB; clear t4; refine (TB.out _ HX6a.out.below).mono ?_; rintro e w7 ⟨kv6, dv6, F6, rfl, hl6, hf6, hb6⟩; obtain ⟨⟨o3, c3, rfl⟩, ⟨o4, c4, rfl⟩⟩ := hl6.slices; have HX7 := Lib.hid (HX6a.out.next hb6)
           have X0 := Lib.hid ((Box.start w6 _ _ _ _ _ _).next hb6)
           have HL6 := Lib.hid (And.intro (HL5.out.stay (((Below.refl _ w6).alloc (Nat.le_refl _) _).trans (hb6.mono (by simp))) (Nat.le_refl _)) hl6)
           have X0a := Lib.hid fun o => X0.out.next ((Below.refl _ w7).alloc (Nat.le_refl _) o)
           have x0 := fun o => (X0a.out o).c0
           have x1 := fun o => (X0a.out o).c1
           have x2 := fun o => (X0a.out o).c2
           have x3 := fun o => (X0a.out o).c3
           have x4 := fun o => (X0a.out o).c4
           clear hl6 hf6 hb6 y0 y1 y2 y3 y4 HX6 HX6a HL5)
        | fail)
      have hbA := (Below.refl _ w7).alloc (Nat.le_refl _) (.cells #[.int .i64 B.k, .int .i64 B.n, .string B.s, .slice o3 B.keys.length c3, .slice o4 B.kids.length c4] 30)
      refine (impl_same A _ _ _ _ (HL6.out.1.stay hbA (Nat.le_refl _)) _ _ _ _ (HL6.out.2.stay hbA (Nat.le_refl _))).mono ?_
      rintro e w8 ⟨rfl, hb8⟩
      have hb78 := hbA.trans (hb8.mono (by simp))
      have HX8 := Lib.hid (HX7.out.next hb78)
      have Y0 := Lib.hid (X0.out.next hb78)
      have Y1 := Lib.hid ((Box.start w7 (.int .i64 B.k) (.int .i64 B.n) (.string B.s) (.slice o3 B.keys.length c3) (.slice o4 B.kids.length c4) 30).next hb8)
      have HL8 := Lib.hid (And.intro (HL6.out.1.stay hb78 (Nat.le_refl _)) (HL6.out.2.stay hb78 (Nat.le_refl _)))
      clear x0 x1 x2 x3 x4 hbA hb8 hb78 X0 X0a HL6 HX7
      go_wp2
      obtain ⟨-, -, x0, x1, x2, x3, x4⟩ := Y0.out
      obtain ⟨-, -, a0, a1, a2, a3, a4, -, -, -, -, -⟩ := HX8.out
      have hd := below_drewN (Below.refl w8.heap.size w8) 1
      go_region_held3 (fun w' => w'.cell? ⟨w6.heap.size, 0, none⟩ = some (.int .i64 A.k) ∧ w'.cell? ⟨w6.heap.size, 1, none⟩ = some (.int .i64 A.n) ∧ w'.cell? ⟨w6.heap.size, 2, none⟩ = some (.string A.s) ∧ w'.cell? ⟨w6.heap.size, 3, none⟩ = some (.slice o1 A.keys.length c1) ∧ w'.cell? ⟨w6.heap.size, 4, none⟩ = some (.slice o2 A.kids.length c2) ∧ w'.cell? ⟨w.heap.size, 0, none⟩ = some (.int .i64 A.k) ∧ w'.cell? ⟨w.heap.size, 1, none⟩ = some (.int .i64 A.n) ∧ w'.cell? ⟨w.heap.size, 2, none⟩ = some (.string A.s) ∧ w'.cell? ⟨w.heap.size, 3, none⟩ = some kvA ∧ w'.cell? ⟨w.heap.size, 4, none⟩ = some dvA) (go_keep)
        (first
          | (go_at_call_of 28 kvA; refine (TA.out _ (HX8.out.next hd).below).mono ?_; rintro e w9 ⟨kv9, dv9, F9, rfl, hl9, hf9, hb9⟩; have hb89 := Lib.hid (hd.trans (hb9.mono (Nat.le_refl _))); obtain ⟨-, -, p0, p1, p2, p3, p4⟩ := Y0.out.next hb89.out; obtain ⟨-, -, q0, q1, q2, q3, q4, -, -, -, -, -⟩ := HX8.out.next hb89.out; have HL9 := Lib.hid hl9; clear hl9 hf9 hb9)
          | (go_at_call 30; refine (eq_node A _ _ _ _ (HL8.out.1.stay hb89.out (Nat.le_refl _)) _ _ _ _ HL9.out).mono ?_; rintro e w10 ⟨rfl, hb10⟩; rw [same_yes rfl]; have hb810 := Lib.hid (hb89.out.trans (hb10.mono hb89.out.size)); obtain ⟨-, -, r0, r1, r2, r3, r4⟩ := Y0.out.next hb810.out; obtain ⟨-, -, s0, s1, s2, s3, s4, -, -, -, -, -⟩ := HX8.out.next hb810.out; clear hb10))
      clear r0 r1 r2 r3 r4 s0 s1 s2 s3 s4 p0 p1 p2 p3 p4 q0 q1 q2 q3 q4 a0 a1 a2 a3 a4 x0 x1 x2 x3 x4 hd
      go_wp2
      obtain ⟨-, -, x0, x1, x2, x3, x4⟩ := Y1.out.next hb810.out
      obtain ⟨-, -, -, -, -, -, -, a0, a1, a2, a3, a4⟩ := HX8.out.next hb810.out
      have hd := hb810.out.trans ((below_drewN (Below.refl w10.heap.size w10) 1).mono hb810.out.size)
      go_region_held3 (fun w' => w'.cell? ⟨w7.heap.size, 0, none⟩ = some (.int .i64 B.k) ∧ w'.cell? ⟨w7.heap.size, 1, none⟩ = some (.int .i64 B.n) ∧ w'.cell? ⟨w7.heap.size, 2, none⟩ = some (.string B.s) ∧ w'.cell? ⟨w7.heap.size, 3, none⟩ = some (.slice o3 B.keys.length c3) ∧ w'.cell? ⟨w7.heap.size, 4, none⟩ = some (.slice o4 B.kids.length c4) ∧ w'.cell? ⟨w.heap.size + 1, 0, none⟩ = some (.int .i64 B.k) ∧ w'.cell? ⟨w.heap.size + 1, 1, none⟩ = some (.int .i64 B.n) ∧ w'.cell? ⟨w.heap.size + 1, 2, none⟩ = some (.string B.s) ∧ w'.cell? ⟨w.heap.size + 1, 3, none⟩ = some kvB ∧ w'.cell? ⟨w.heap.size + 1, 4, none⟩ = some dvB) (go_keep)
        (first
          | (go_at_call_of 28 kvB; refine (TB.out _ (HX8.out.next hd).below).mono ?_; rintro e w11 ⟨kv11, dv11, F11, rfl, hl11, hf11, hb11⟩; have hb811 := Lib.hid (hd.trans (hb11.mono hd.size)); obtain ⟨-, -, p0, p1, p2, p3, p4⟩ := Y1.out.next hb811.out; obtain ⟨-, -, -, -, -, -, -, q0, q1, q2, q3, q4⟩ := HX8.out.next hb811.out; have HL11 := Lib.hid hl11; clear hl11 hf11 hb11)
          | (go_at_call 30; refine (eq_node B _ _ _ _ (HL8.out.2.stay hb811.out (Nat.le_refl _)) _ _ _ _ HL11.out).mono ?_; rintro e w12 ⟨rfl, hb12⟩; rw [same_yes rfl]; have hb812 := Lib.hid (hb811.out.trans (hb12.mono hb811.out.size)); obtain ⟨-, -, r0, r1, r2, r3, r4⟩ := Y1.out.next hb812.out; obtain ⟨-, -, -, -, -, -, -, s0, s1, s2, s3, s4⟩ := HX8.out.next hb812.out; clear hb12))
      clear r0 r1 r2 r3 r4 s0 s1 s2 s3 s4 p0 p1 p2 p3 p4 q0 q1 q2 q3 q4 a0 a1 a2 a3 a4 x0 x1 x2 x3 x4 hd
      go_wp2
      go_ret
      exact ⟨rfl, (HX8.out.next hb812.out).below⟩
    · have t1 : True := trivial
      have t2 : True := trivial
      clear hA hB
      go_enter Try.func6, Try.ntmps6
      go_wp2_with (first
        | (go_at_call 26; clear t1; refine (SA.out _ HX.out.below).mono ?_; rintro e w1 ⟨rfl, hb1⟩; rw [left_ok (by omega)]; replace HX := Lib.hid (HX.out.next hb1); obtain ⟨-, -, -, -, -, -, -, g0, g1, g2, g3, g4⟩ := HX.out; clear hb1)
        | fail)
      go_wp2_with (first
        | (go_at_call 26; clear t2; refine (SB.out _ HX.out.below _ (by omega) (by omega)).mono ?_; rintro e w2 ⟨rfl, hb1⟩; rw [left_no (by omega)]; replace HX := Lib.hid (HX.out.next hb1); clear hb1 g0 g1 g2 g3 g4)
        | fail)
      go_ret
      exact ⟨rfl, HX.out.below⟩
  · clear hA hB
    go_enter Try.func6, Try.ntmps6
    go_wp2_with (first
      | (go_at_call 26; refine (SA.out _ HX.out.below).mono ?_; rintro e w1 ⟨rfl, hb1⟩; rw [left_no (by omega)]; replace HX := Lib.hid (HX.out.next hb1); clear hb1)
      | fail)
    go_ret
    exact ⟨rfl, HX.out.below⟩
end Go.Proofs.Ythbphkakbjheeaa
