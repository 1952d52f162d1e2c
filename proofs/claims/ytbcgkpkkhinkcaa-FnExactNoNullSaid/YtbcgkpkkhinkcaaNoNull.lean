/-
  What is proved: for any tree the program's NoNull answers as the model's NoNull does, and the law returns true with its argument as it was; no condition.
-/
import Derived.Test.YtbcgkpkkhinkcaaNnI
import Derived.Test.YtbcgkpkkhinkcaaTreeEqN
namespace Go.Proofs.Ytbcgkpkkhinkcaa
open Go Go.RowKit

set_option maxRecDepth 100000 in
set_option maxHeartbeats 1600000 in
theorem noNull_walk (A : RT) (kvA dvA : Value) (FA : List Nat) (w : World) (hA : Lies w A kvA dvA FA) :
    Calls Try.prog 4 #[.agg #[.int .i64 A.k, .int .i64 A.n, .string A.s, kvA, dvA]] w fun e w' => e = .returned (.bool true) ∧ Below w.heap.size w w' := by
  have SA := Lib.hid fun (wr : World) (hb : Below w.heap.size w wr) => sz_node A wr kvA dvA FA (hA.stay hb (Nat.le_refl _)) 1048576 (by omega) (by omega)
  have HX := Lib.hid (Box.start w (.int .i64 A.k) (.int .i64 A.n) (.string A.s) kvA dvA 25)
  by_cases hsA : (A.sz : Int) ≤ 1048576
  · have TA := Lib.hid fun (wr : World) (hb : Below w.heap.size w wr) => to_node A wr kvA dvA FA (hA.stay hb (Nat.le_refl _)) (by omega)
    have hsz : Hid (A.sz ≤ 1048576) := by show A.sz ≤ _; omega
    clear hA
    go_enter Try.func4, Try.ntmps4
    go_wp2_with fail
    refine (SA.out _ HX.out.below).mono ?_
    rintro e w1 ⟨rfl, hb1⟩
    rw [left_ok (by omega)]
    have HX1 := Lib.hid (HX.out.next hb1)
    clear hb1
    obtain ⟨-, -, x0, x1, x2, x3, x4⟩ := HX1.out
    go_wp2_with fail
    refine (TA.out _ HX1.out.below).mono ?_
    rintro e w2 ⟨kv2, dv2, F2, rfl, hl2, hf2, hb2⟩
    have HX2 := Lib.hid (HX1.out.next hb2)
    have HL2 := Lib.hid hl2
    clear hb2 hl2 hf2 x0 x1 x2 x3 x4
    go_wp2_with fail
    refine (spec_noNull A _ _ _ _ HL2.out hsz.out).mono ?_
    rintro e w3 ⟨rfl, hb3⟩
    have HX3 := Lib.hid (HX2.out.next hb3)
    clear hb3
    obtain ⟨-, -, x0, x1, x2, x3, x4⟩ := HX3.out
    generalize htb : noNullT A = tb at *
    have HTB := Lib.hid htb
    clear htb
    go_wp2_with fail
    refine (TA.out _ HX3.out.below).mono ?_
    rintro e w4 ⟨kv4, dv4, F4, rfl, hl4, hf4, hb4⟩
    obtain ⟨⟨o1, c1, rfl⟩, ⟨o2, c2, rfl⟩⟩ := hl4.slices
    have HX4 := Lib.hid (HX3.out.next hb4)
    have HL4 := Lib.hid hl4
    clear hb4 hl4 hf4 x0 x1 x2 x3 x4
    have hbA := (Below.refl _ w4).alloc (Nat.le_refl _) (.cells #[.int .i64 A.k, .int .i64 A.n, .string A.s, .slice o1 A.keys.length c1, .slice o2 A.kids.length c2] 29)
    have HbA := Lib.hid hbA
    clear hbA
    go_wp2_with fail
    refine (impl_noNull A _ _ _ _ (HL4.out.stay HbA.out (Nat.le_refl _))).mono ?_
    rintro e w5 ⟨rfl, hb5⟩
    rw [HTB.out]
    have hb45 := HbA.out.trans (hb5.mono (by simp))
    have HX5 := Lib.hid (HX4.out.next hb45)
    have Y := Lib.hid ((Box.start w4 _ _ _ _ _ 29).next hb5)
    have HL5 := Lib.hid (HL4.out.stay hb45 (Nat.le_refl _))
    clear hb5 hb45
    obtain ⟨-, -, x0, x1, x2, x3, x4⟩ := Y.out
    obtain ⟨-, -, a0, a1, a2, a3, a4⟩ := HX5.out
    go_wp2
    have hd := below_drewN (Below.refl w5.heap.size w5) 1
    go_region_held3 (fun w' => w'.cell? ⟨w4.heap.size, 0, none⟩ = some (.int .i64 A.k) ∧ w'.cell? ⟨w4.heap.size, 1, none⟩ = some (.int .i64 A.n) ∧ w'.cell? ⟨w4.heap.size, 2, none⟩ = some (.string A.s) ∧ w'.cell? ⟨w4.heap.size, 3, none⟩ = some (.slice o1 A.keys.length c1) ∧ w'.cell? ⟨w4.heap.size, 4, none⟩ = some (.slice o2 A.kids.length c2) ∧ w'.cell? ⟨w.heap.size, 0, none⟩ = some (.int .i64 A.k) ∧ w'.cell? ⟨w.heap.size, 1, none⟩ = some (.int .i64 A.n) ∧ w'.cell? ⟨w.heap.size, 2, none⟩ = some (.string A.s) ∧ w'.cell? ⟨w.heap.size, 3, none⟩ = some kvA ∧ w'.cell? ⟨w.heap.size, 4, none⟩ = some dvA) (go_keep)
      (first
        | (go_at_call_of 7 kvA; refine (TA.out _ (HX5.out.next hd).below).mono ?_; rintro e w6 ⟨kv6, dv6, F6, rfl, hl6, hf6, hb6⟩; have hb56 := Lib.hid (hd.trans (hb6.mono (Nat.le_refl _))); obtain ⟨-, -, p0, p1, p2, p3, p4⟩ := Y.out.next hb56.out; obtain ⟨-, -, q0, q1, q2, q3, q4⟩ := HX5.out.next hb56.out; have HL6 := Lib.hid hl6; clear hl6 hf6 hb6)
        | (go_at_call 9; refine (eq_node A _ _ _ _ (HL5.out.stay hb56.out (Nat.le_refl _)) _ _ _ _ HL6.out).mono ?_; rintro e w7 ⟨rfl, hb7⟩; rw [same_yes rfl]; have hb57 := Lib.hid (hb56.out.trans (hb7.mono hb56.out.size)); obtain ⟨-, -, r0, r1, r2, r3, r4⟩ := Y.out.next hb57.out; obtain ⟨-, -, s0, s1, s2, s3, s4⟩ := HX5.out.next hb57.out; clear hb7))
    clear r0 r1 r2 r3 r4 s0 s1 s2 s3 s4 p0 p1 p2 p3 p4 q0 q1 q2 q3 q4 a0 a1 a2 a3 a4 x0 x1 x2 x3 x4 hd
    go_wp2
    go_ret
    exact ⟨rfl, (HX5.out.next hb57.out).below⟩
  · clear hA
    go_enter Try.func4, Try.ntmps4
    go_wp2_with (first
      | (go_at_call 5; refine (SA.out _ HX.out.below).mono ?_; rintro e w1 ⟨rfl, hb1⟩; rw [left_no (by omega)]; replace HX := Lib.hid (HX.out.next hb1); clear hb1)
      | fail)
    go_ret
    exact ⟨rfl, HX.out.below⟩
end Go.Proofs.Ytbcgkpkkhinkcaa
