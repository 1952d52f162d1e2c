/-
  What is proved: for any two trees and any text the program's Set answers as the model's Set does, in memory of its own, and the law returns true with its arguments as they were; no condition.
-/
import Derived.Test.YtbcgkpkkhinkcaaSetI
import Derived.Test.YtbcgkpkkhinkcaaSetS
import Derived.Test.YtbcgkpkkhinkcaaSetZ
import Derived.Test.YtbcgkpkkhinkcaaLaw
import Derived.Test.YtbcgkpkkhinkcaaTreeEqN
import Derived.Deep.DeepCutAuto
namespace Go.Proofs.Ytbcgkpkkhinkcaa
open Go Go.RowKit

set_option maxRecDepth 100000 in
set_option maxHeartbeats 3200000 in
theorem set_walk (A : RT) (kvA dvA : Value) (FA : List Nat) (key : ByteArray) (hk : key.size ≤ maxLen) (B : RT) (kvB dvB : Value) (FB : List Nat) (w : World) (hA : Lies w A kvA dvA FA) (hB : Lies w B kvB dvB FB) :
    Calls Try.prog 3 #[.agg #[.int .i64 A.k, .int .i64 A.n, .string A.s, kvA, dvA], .string key, .agg #[.int .i64 B.k, .int .i64 B.n, .string B.s, kvB, dvB]] w fun e w' => e = .returned (.bool true) ∧ Below w.heap.size w w' := by
  have SA := Lib.hid fun (wr : World) (hb : Below w.heap.size w wr) => sz_node A wr kvA dvA FA (hA.stay hb (Nat.le_refl _)) 1048576 (by omega) (by omega)
  have SB := Lib.hid fun (wr : World) (hb : Below w.heap.size w wr) => sz_node B wr kvB dvB FB (hB.stay hb (Nat.le_refl _))
  have HX := Lib.hid (Box2.start w (.int .i64 A.k) (.int .i64 A.n) (.string A.s) kvA dvA (.int .i64 B.k) (.int .i64 B.n) (.string B.s) kvB dvB 25 25)
  by_cases hkey : (key.size : Int) ≤ 1048576
  · by_cases hsA : (A.sz : Int) ≤ 1048576
    · by_cases hsB : (B.sz : Int) ≤ 1048576 - A.sz
      · have TA := Lib.hid fun (wr : World) (hb : Below w.heap.size w wr) => to_node A wr kvA dvA FA (hA.stay hb (Nat.le_refl _)) (by omega)
        have TB := Lib.hid fun (wr : World) (hb : Below w.heap.size w wr) => to_node B wr kvB dvB FB (hB.stay hb (Nat.le_refl _)) (by omega)
        have HSz : Hid (A.sz ≤ 1048576 ∧ B.sz ≤ 1048576) := by show _ ∧ _; omega
        have HKey := Lib.hid hk
        have hcA := cnt_sz A
        have hcB := cnt_sz B
        have hcR := setT_cnt A B key
        have HCn : Hid (1 + A.cnt ≤ 1000000000 ∧ 1 + A.cnt + B.cnt ≤ 1000000000 ∧ 1 + (setT A key B).cnt ≤ 1000000000) := by show _ ∧ _ ∧ _; omega
        have CS : Hid (∀ (w1 : World) (kv dv kx dx : Value) (F FX : List Nat), Lies w1 A kv dv F → Lies w1 B kx dx FX → Calls Try.prog 6 #[.agg #[.int .i64 A.k, .int .i64 A.n, .string A.s, kv, dv], .string key, .agg #[.int .i64 B.k, .int .i64 B.n, .string B.s, kx, dx]] w1 fun e w' => ∃ kv' dv' F', e = .returned (.agg #[.int .i64 (setT A key B).k, .int .i64 (setT A key B).n, .string (setT A key B).s, kv', dv']) ∧ Lies w' (setT A key B) kv' dv' F' ∧ Fresh w1 w' F' ∧ Below w1.heap.size w1 w') := fun w1 kv dv kx dx F FX h1 h2 => spec_set A B key w1 kv dv kx dx F FX h1 h2 (Nat.le_trans HSz.out.1 (by decide)) (Nat.le_trans HSz.out.2 (by decide)) HKey.out
        have CI : Hid (∀ (w1 : World) (kv dv kx dx : Value) (F FX : List Nat), Lies w1 A kv dv F → Lies w1 B kx dx FX → Calls Try.prog 8 #[.agg #[.int .i64 A.k, .int .i64 A.n, .string A.s, kv, dv], .string key, .agg #[.int .i64 B.k, .int .i64 B.n, .string B.s, kx, dx]] w1 fun e w' => ∃ kv' dv' F', e = .returned (.agg #[.int .i64 (setT A key B).k, .int .i64 (setT A key B).n, .string (setT A key B).s, kv', dv']) ∧ Lies w' (setT A key B) kv' dv' F' ∧ Fresh w1 w' F' ∧ Below w1.heap.size w1 w') := fun w1 kv dv kx dx F FX h1 h2 => impl_set A B key w1 kv dv kx dx F FX h1 h2 HSz.out.1 HSz.out.2 HKey.out
        clear hcA hcB hcR
        generalize setT A key B = R at *
        have hkk : ¬ (1048576 < (key.size : Int)) := by omega
        have t1 : True := trivial
        have t2 : True := trivial
        clear hA hB hk
        go_enter Try.func3, Try.ntmps3
        go_wp2_with (first
          | (go_at_call 5; clear t1; refine (SA.out _ HX.out.below).mono ?_; rintro e w1 ⟨rfl, hb1⟩; rw [left_ok (by omega)]; replace HX := Lib.hid (HX.out.next hb1); obtain ⟨-, -, -, -, -, -, -, g0, g1, g2, g3, g4⟩ := HX.out; clear hb1)
          | fail)
        go_upto_region 10 with (first
          | (go_at_call 5; clear t2; refine (SB.out _ HX.out.below _ (by omega) (by omega)).mono ?_; rintro e w2 ⟨rfl, hb1⟩; rw [left_ok (by omega)]; replace HX := Lib.hid (HX.out.next hb1); clear hb1 g0 g1 g2 g3 g4)
          | fail)
        go_cut [8] (fun p wc => ∃ (B8 : Nat) (oW cW oV cV : _) (FW : List Nat), p = .pointer (some ⟨B8, 0, none⟩) ∧ Hid (Box2 w wc (.int .i64 A.k) (.int .i64 A.n) (.string A.s) kvA dvA (.int .i64 B.k) (.int .i64 B.n) (.string B.s) kvB dvB ∧ Held w wc [.box B8 #[.int .i64 R.k, .int .i64 R.n, .string R.s, .slice oW R.keys.length cW, .slice oV R.kids.length cV] 29, .tree R (.slice oW R.keys.length cW) (.slice oV R.kids.length cV) FW]))
        case first =>
          have HS := Lib.hid (RS.start HX.out (L := []) ⟨HX.out.below, trivial⟩)
          obtain ⟨-, -, x0, x1, x2, x3, x4, y0, y1, y2, y3, y4⟩ := HX.out
          have xx1 : ¬ (w.heap.size = w2.heap.size) := (by have := HX.out.lt; omega)
          have xx2 : ¬ (w.heap.size + 1 = w2.heap.size) := (by have := HX.out.lt; omega)
          have xx3 : ¬ (w2.heap.size = w.heap.size) := (by have := HX.out.lt; omega)
          have xx4 : ¬ (w2.heap.size = w.heap.size + 1) := (by have := HX.out.lt; omega)
          go_region_held3 (fun w' => w'.cell? ⟨w.heap.size, 0, none⟩ = some (.int .i64 A.k) ∧ w'.cell? ⟨w.heap.size, 1, none⟩ = some (.int .i64 A.n) ∧ w'.cell? ⟨w.heap.size, 2, none⟩ = some (.string A.s) ∧ w'.cell? ⟨w.heap.size, 3, none⟩ = some kvA ∧ w'.cell? ⟨w.heap.size, 4, none⟩ = some dvA ∧ w'.cell? ⟨w.heap.size + 1, 0, none⟩ = some (.int .i64 B.k) ∧ w'.cell? ⟨w.heap.size + 1, 1, none⟩ = some (.int .i64 B.n) ∧ w'.cell? ⟨w.heap.size + 1, 2, none⟩ = some (.string B.s) ∧ w'.cell? ⟨w.heap.size + 1, 3, none⟩ = some kvB ∧ w'.cell? ⟨w.heap.size + 1, 4, none⟩ = some dvB) (go_keep)
          (first
            | (go_at_call_of 7 kvA; show Calls _ _ _ (World.drew (World.alloc _ _)) _; refine (TA.out _ (HS.out.alloc w2.heap.size rfl).box.below).mono ?_; rintro e wa1 ⟨kv1, dv1, Fa1, rfl, hl, hf, hb⟩; obtain ⟨⟨owa11, owa12, rfl⟩, ⟨owa13, owa14, rfl⟩⟩ := hl.slices; replace HS := Lib.hid ((HS.out.alloc w2.heap.size rfl).fresh hb hl hf); obtain ⟨-, -, pa0, pa1, pa2, pa3, pa4, pa5, pa6, pa7, pa8, pa9⟩ := HS.out.box; have pax1 : ¬ (w.heap.size = wa1.heap.size) := (by have := HS.out.box.lt; omega); have pax2 : ¬ (w.heap.size + 1 = wa1.heap.size) := (by have := HS.out.box.lt; omega); have pax3 : ¬ (wa1.heap.size = w.heap.size) := (by have := HS.out.box.lt; omega); have pax4 : ¬ (wa1.heap.size = w.heap.size + 1) := (by have := HS.out.box.lt; omega); clear hl hf hb)
            | (go_at_call_of 7 kvA; refine (TA.out _ HS.out.box.below).mono ?_; rintro e wa1 ⟨kv1, dv1, Fa1, rfl, hl, hf, hb⟩; obtain ⟨⟨owa11, owa12, rfl⟩, ⟨owa13, owa14, rfl⟩⟩ := hl.slices; replace HS := Lib.hid (HS.out.fresh hb hl hf); obtain ⟨-, -, pa0, pa1, pa2, pa3, pa4, pa5, pa6, pa7, pa8, pa9⟩ := HS.out.box; have pax1 : ¬ (w.heap.size = wa1.heap.size) := (by have := HS.out.box.lt; omega); have pax2 : ¬ (w.heap.size + 1 = wa1.heap.size) := (by have := HS.out.box.lt; omega); have pax3 : ¬ (wa1.heap.size = w.heap.size) := (by have := HS.out.box.lt; omega); have pax4 : ¬ (wa1.heap.size = w.heap.size + 1) := (by have := HS.out.box.lt; omega); clear hl hf hb)
            | (go_at_call_of 7 kvB; show Calls _ _ _ (World.alloc _ _) _; refine (TB.out _ (HS.out.alloc wa1.heap.size rfl).box.below).mono ?_; rintro e wa2 ⟨kv1, dv1, Fa2, rfl, hl, hf, hb⟩; obtain ⟨⟨owa21, owa22, rfl⟩, ⟨owa23, owa24, rfl⟩⟩ := hl.slices; replace HS := Lib.hid ((HS.out.alloc wa1.heap.size rfl).fresh hb hl hf); obtain ⟨-, -, qa0, qa1, qa2, qa3, qa4, qa5, qa6, qa7, qa8, qa9⟩ := HS.out.box; have qax1 : ¬ (w.heap.size = wa2.heap.size) := (by have := HS.out.box.lt; omega); have qax2 : ¬ (w.heap.size + 1 = wa2.heap.size) := (by have := HS.out.box.lt; omega); have qax3 : ¬ (wa2.heap.size = w.heap.size) := (by have := HS.out.box.lt; omega); have qax4 : ¬ (wa2.heap.size = w.heap.size + 1) := (by have := HS.out.box.lt; omega); clear hl hf hb)
            | (go_at_call_of 7 kvB; refine (TB.out _ HS.out.box.below).mono ?_; rintro e wa2 ⟨kv1, dv1, Fa2, rfl, hl, hf, hb⟩; obtain ⟨⟨owa21, owa22, rfl⟩, ⟨owa23, owa24, rfl⟩⟩ := hl.slices; replace HS := Lib.hid (HS.out.fresh hb hl hf); obtain ⟨-, -, qa0, qa1, qa2, qa3, qa4, qa5, qa6, qa7, qa8, qa9⟩ := HS.out.box; have qax1 : ¬ (w.heap.size = wa2.heap.size) := (by have := HS.out.box.lt; omega); have qax2 : ¬ (w.heap.size + 1 = wa2.heap.size) := (by have := HS.out.box.lt; omega); have qax3 : ¬ (wa2.heap.size = w.heap.size) := (by have := HS.out.box.lt; omega); have qax4 : ¬ (wa2.heap.size = w.heap.size + 1) := (by have := HS.out.box.lt; omega); clear hl hf hb)
            | (go_at_call 6; show Calls _ _ _ (World.alloc _ _) _; refine (CS.out _ _ _ _ _ _ _ (HS.out.alloc wa2.heap.size rfl).held.2.2.1.1 (HS.out.alloc wa2.heap.size rfl).held.2.1.1).mono ?_; rintro e wa3 ⟨kv1, dv1, Fa3, rfl, hl, hf, hb⟩; obtain ⟨⟨owa31, owa32, rfl⟩, ⟨owa33, owa34, rfl⟩⟩ := hl.slices; replace HS := Lib.hid ((HS.out.alloc wa2.heap.size rfl).fresh hb hl hf); obtain ⟨-, -, ra0, ra1, ra2, ra3, ra4, ra5, ra6, ra7, ra8, ra9⟩ := HS.out.box; have rax1 : ¬ (w.heap.size = wa3.heap.size) := (by have := HS.out.box.lt; omega); have rax2 : ¬ (w.heap.size + 1 = wa3.heap.size) := (by have := HS.out.box.lt; omega); have rax3 : ¬ (wa3.heap.size = w.heap.size) := (by have := HS.out.box.lt; omega); have rax4 : ¬ (wa3.heap.size = w.heap.size + 1) := (by have := HS.out.box.lt; omega); obtain ⟨z0, z1, z2, z3, z4, z5⟩ := five (HS.out.zero _ rfl); clear hl hf hb)
            | (go_at_call 6; refine (CS.out _ _ _ _ _ _ _ HS.out.held.2.2.1.1 HS.out.held.2.1.1).mono ?_; rintro e wa3 ⟨kv1, dv1, Fa3, rfl, hl, hf, hb⟩; obtain ⟨⟨owa31, owa32, rfl⟩, ⟨owa33, owa34, rfl⟩⟩ := hl.slices; replace HS := Lib.hid (HS.out.fresh hb hl hf); obtain ⟨-, -, ra0, ra1, ra2, ra3, ra4, ra5, ra6, ra7, ra8, ra9⟩ := HS.out.box; have rax1 : ¬ (w.heap.size = wa3.heap.size) := (by have := HS.out.box.lt; omega); have rax2 : ¬ (w.heap.size + 1 = wa3.heap.size) := (by have := HS.out.box.lt; omega); have rax3 : ¬ (wa3.heap.size = w.heap.size) := (by have := HS.out.box.lt; omega); have rax4 : ¬ (wa3.heap.size = w.heap.size + 1) := (by have := HS.out.box.lt; omega); first | (obtain ⟨z0, z1, z2, z3, z4, z5⟩ := five (HS.out.zero _ rfl)) | skip; clear hl hf hb))
          all_goals go_wp2_with fail
          all_goals go_meet
          · have hx := HS.out.last #[.int .i64 R.k, .int .i64 R.n, .string R.s, .slice owa31 R.keys.length owa32, .slice owa33 R.kids.length owa34] 29
            exact ⟨_, _, _, _, _, _, rfl, hx.1, hx.2.1, hx.2.2.1, hx.2.2.2.1.1, trivial⟩
          all_goals
            have hx := HS.out.store (.int .i64 R.k) (.int .i64 R.n) (.string R.s) (.slice owa31 R.keys.length owa32) (.slice owa33 R.kids.length owa34)
            exact ⟨_, _, _, _, _, _, rfl, hx.1, hx.2.1, hx.2.2.1, hx.2.2.2.1.1, trivial⟩
        case rest =>
          obtain ⟨B8, oW, cW, oV, cV, FW, rfl, hcc⟩ := hcut
          have HH := Lib.hid hcc.out.2
          replace HX := Lib.hid hcc.out.1
          clear hcc CS
          have HLc := Lib.hid HX.out.lt
          have H8 : Hid (B8 < wc.heap.size ∧ ∀ y ∈ FW, y < wc.heap.size) := ⟨(Array.getElem?_eq_some_iff.1 HH.out.2.1).1, HH.out.2.2.1.lt⟩
          obtain ⟨-, -, x0, x1, x2, x3, x4, -, -, -, -, -⟩ := HX.out
          go_upto_region 12 with (first
            | (go_at_call_of 7 kvA; refine (TA.out _ HX.out.below).mono ?_; rintro e w3 ⟨kv3, dv3, F3, rfl, hl, hf, hb⟩; obtain ⟨⟨o3, c3, rfl⟩, ⟨o4, c4, rfl⟩⟩ := hl.slices
               have H3 : Hid ((∀ y ∈ F3, wc.heap.size ≤ y ∧ y < w3.heap.size) ∧ wc.heap.size ≤ w3.heap.size ∧ (w3.alloc (.cells #[.int .i64 A.k, .int .i64 A.n, .string A.s, .slice o3 A.keys.length c3, .slice o4 A.kids.length c4] 29)).heap.size = w3.heap.size + 1) := ⟨fun y hy => ⟨hf.old y hy, hl.lt y hy⟩, hb.size, by simp⟩
               replace HX := Lib.hid ((HX.out.next hb).next ((Below.refl _ _).alloc (Nat.le_refl _) (.cells #[.int .i64 A.k, .int .i64 A.n, .string A.s, .slice o3 A.keys.length c3, .slice o4 A.kids.length c4] 29)))
               replace HH := Lib.hid ((HH.out.fresh hb hl hf).box #[.int .i64 A.k, .int .i64 A.n, .string A.s, .slice o3 A.keys.length c3, .slice o4 A.kids.length c4] 29)
               clear hl hf hb x0 x1 x2 x3 x4)
            | fail)
          generalize w3.alloc (.cells #[.int .i64 A.k, .int .i64 A.n, .string A.s, .slice o3 A.keys.length c3, .slice o4 A.kids.length c4] 29) = w4 at *
          generalize w3.heap.size = B9 at *
          clear w3
          obtain ⟨-, -, -, -, -, -, -, y0, y1, y2, y3, y4⟩ := HX.out
          go_upto_region 13 with (first
            | (go_at_call_of 7 kvB; refine (TB.out _ HX.out.below).mono ?_; rintro e w5 ⟨kv5, dv5, F5, rfl, hl, hf, hb⟩; obtain ⟨⟨o5, c5, rfl⟩, ⟨o6, c6, rfl⟩⟩ := hl.slices
               have H5 : Hid ((∀ y ∈ F5, w4.heap.size ≤ y ∧ y < w5.heap.size) ∧ w4.heap.size ≤ w5.heap.size ∧ (w5.alloc (.cells #[.int .i64 B.k, .int .i64 B.n, .string B.s, .slice o5 B.keys.length c5, .slice o6 B.kids.length c6] 29)).heap.size = w5.heap.size + 1) := ⟨fun y hy => ⟨hf.old y hy, hl.lt y hy⟩, hb.size, by simp⟩
               replace HX := Lib.hid ((HX.out.next hb).next ((Below.refl _ _).alloc (Nat.le_refl _) (.cells #[.int .i64 B.k, .int .i64 B.n, .string B.s, .slice o5 B.keys.length c5, .slice o6 B.kids.length c6] 29)))
               replace HH := Lib.hid ((HH.out.fresh hb hl hf).box #[.int .i64 B.k, .int .i64 B.n, .string B.s, .slice o5 B.keys.length c5, .slice o6 B.kids.length c6] 29)
               clear hl hf hb y0 y1 y2 y3 y4)
            | fail)
          generalize w5.alloc (.cells #[.int .i64 B.k, .int .i64 B.n, .string B.s, .slice o5 B.keys.length c5, .slice o6 B.kids.length c6] 29) = w6 at *
          generalize w5.heap.size = B10 at *
          clear w5
          obtain ⟨y0, y1, y2, y3, y4, -⟩ := five HH.out.2.1
          obtain ⟨x0, x1, x2, x3, x4, -⟩ := five HH.out.2.2.2.1
          go_upto_region 14 with (first
            | (go_at_call 8; refine (CI.out _ _ _ _ _ _ _ HH.out.2.2.2.2.1.1 HH.out.2.2.1.1).mono ?_; rintro e w7 ⟨kv7, dv7, F7, rfl, hl, hf, hb⟩; obtain ⟨⟨o7, c7, rfl⟩, ⟨o8, c8, rfl⟩⟩ := hl.slices
               have H7 : Hid ((∀ y ∈ F7, w6.heap.size ≤ y ∧ y < w7.heap.size) ∧ w6.heap.size ≤ w7.heap.size ∧ (w7.alloc (.cells #[.int .i64 R.k, .int .i64 R.n, .string R.s, .slice o7 R.keys.length c7, .slice o8 R.kids.length c8] 29)).heap.size = w7.heap.size + 1) := ⟨fun y hy => ⟨hf.old y hy, hl.lt y hy⟩, hb.size, by simp⟩
               replace HX := Lib.hid ((HX.out.next hb).next ((Below.refl _ _).alloc (Nat.le_refl _) (.cells #[.int .i64 R.k, .int .i64 R.n, .string R.s, .slice o7 R.keys.length c7, .slice o8 R.kids.length c8] 29)))
               replace HH := Lib.hid ((HH.out.fresh hb hl hf).box #[.int .i64 R.k, .int .i64 R.n, .string R.s, .slice o7 R.keys.length c7, .slice o8 R.kids.length c8] 29)
               clear hl hf hb x0 x1 x2 x3 x4 y0 y1 y2 y3 y4)
            | fail)
          generalize w7.alloc (.cells #[.int .i64 R.k, .int .i64 R.n, .string R.s, .slice o7 R.keys.length c7, .slice o8 R.kids.length c8] 29) = w8 at *
          generalize w7.heap.size = B11 at *
          clear w7
          have HLt := HX
          obtain ⟨y0, y1, y2, y3, y4, -⟩ := five HH.out.2.1
          obtain ⟨x0, x1, x2, x3, x4, -⟩ := five HH.out.2.2.2.2.2.2.2.1
          go_upto_region 16 with (first
            | (go_at_call 9; refine (eq_node R _ _ _ _ HH.out.2.2.1.1 _ _ _ _ HH.out.2.2.2.2.2.2.2.2.1).mono ?_; rintro e w9 ⟨rfl, hb⟩; rw [same_yes rfl]
               replace HX := Lib.hid (HX.out.next hb)
               replace HH := Lib.hid (HH.out.next hb)
               clear hb x0 x1 x2 x3 x4 y0 y1 y2 y3 y4)
            | fail)
          clear HLt
          have HD := Lib.hid (below_drewN (Below.refl w9.heap.size w9) 1)
          obtain ⟨x0, x1, x2, x3, x4, -⟩ := five HH.out.2.2.2.2.2.1
          obtain ⟨-, -, y0, y1, y2, y3, y4, -, -, -, -, -⟩ := HX.out
          go_region_held3 (fun w' => w'.cell? ⟨B9, 0, none⟩ = some (.int .i64 A.k) ∧ w'.cell? ⟨B9, 1, none⟩ = some (.int .i64 A.n) ∧ w'.cell? ⟨B9, 2, none⟩ = some (.string A.s) ∧ w'.cell? ⟨B9, 3, none⟩ = some (.slice o3 A.keys.length c3) ∧ w'.cell? ⟨B9, 4, none⟩ = some (.slice o4 A.kids.length c4) ∧ w'.cell? ⟨w.heap.size, 0, none⟩ = some (.int .i64 A.k) ∧ w'.cell? ⟨w.heap.size, 1, none⟩ = some (.int .i64 A.n) ∧ w'.cell? ⟨w.heap.size, 2, none⟩ = some (.string A.s) ∧ w'.cell? ⟨w.heap.size, 3, none⟩ = some kvA ∧ w'.cell? ⟨w.heap.size, 4, none⟩ = some dvA) (go_keep)
            (first
              | (go_at_call_of 7 kvA; refine (TA.out _ (HX.out.next HD.out).below).mono ?_; rintro e w10 ⟨kv, dv, F10, rfl, hl, hf, hb⟩; obtain ⟨⟨d1, d2, rfl⟩, ⟨d3, d4, rfl⟩⟩ := hl.slices
                 replace HX := Lib.hid ((HX.out.next HD.out).next hb)
                 replace HH := Lib.hid ((HH.out.next HD.out).fresh hb hl hf)
                 obtain ⟨p0, p1, p2, p3, p4, -⟩ := five HH.out.2.2.2.2.2.2.1
                 obtain ⟨-, -, q0, q1, q2, q3, q4, -, -, -, -, -⟩ := HX.out
                 clear hl hf hb)
              | (go_at_call 9; refine (eq_node A _ _ _ _ HH.out.2.2.2.2.2.2.2.1.1 _ _ _ _ HH.out.2.1.1).mono ?_; rintro e w11 ⟨rfl, hb⟩; rw [same_yes rfl]
                 replace HX := Lib.hid (HX.out.next hb)
                 replace HH := Lib.hid (HH.out.next hb)
                 obtain ⟨r0, r1, r2, r3, r4, -⟩ := five HH.out.2.2.2.2.2.2.1
                 obtain ⟨-, -, s0, s1, s2, s3, s4, -, -, -, -, -⟩ := HX.out
                 clear hb))
          replace HH := Lib.hid (show Held w w11 _ from ⟨HH.out.1, HH.out.2.2⟩)
          clear x0 x1 x2 x3 x4 y0 y1 y2 y3 y4 p0 p1 p2 p3 p4 q0 q1 q2 q3 q4 r0 r1 r2 r3 r4 s0 s1 s2 s3 s4 HD
          go_upto_region 18 with fail
          have HD := Lib.hid (below_drewN (Below.refl w11.heap.size w11) 1)
          obtain ⟨x0, x1, x2, x3, x4, -⟩ := five HH.out.2.2.2.1
          obtain ⟨-, -, -, -, -, -, -, y0, y1, y2, y3, y4⟩ := HX.out
          go_region_held3 (fun w' => w'.cell? ⟨B10, 0, none⟩ = some (.int .i64 B.k) ∧ w'.cell? ⟨B10, 1, none⟩ = some (.int .i64 B.n) ∧ w'.cell? ⟨B10, 2, none⟩ = some (.string B.s) ∧ w'.cell? ⟨B10, 3, none⟩ = some (.slice o5 B.keys.length c5) ∧ w'.cell? ⟨B10, 4, none⟩ = some (.slice o6 B.kids.length c6) ∧ w'.cell? ⟨w.heap.size + 1, 0, none⟩ = some (.int .i64 B.k) ∧ w'.cell? ⟨w.heap.size + 1, 1, none⟩ = some (.int .i64 B.n) ∧ w'.cell? ⟨w.heap.size + 1, 2, none⟩ = some (.string B.s) ∧ w'.cell? ⟨w.heap.size + 1, 3, none⟩ = some kvB ∧ w'.cell? ⟨w.heap.size + 1, 4, none⟩ = some dvB) (go_keep)
            (first
              | (go_at_call_of 7 kvB; refine (TB.out _ (HX.out.next HD.out).below).mono ?_; rintro e w12 ⟨kv, dv, F12, rfl, hl, hf, hb⟩; obtain ⟨⟨d1, d2, rfl⟩, ⟨d3, d4, rfl⟩⟩ := hl.slices
                 replace HX := Lib.hid ((HX.out.next HD.out).next hb)
                 replace HH := Lib.hid ((HH.out.next HD.out).fresh hb hl hf)
                 obtain ⟨p0, p1, p2, p3, p4, -⟩ := five HH.out.2.2.2.2.1
                 obtain ⟨-, -, -, -, -, -, -, q0, q1, q2, q3, q4⟩ := HX.out
                 clear hl hf hb)
              | (go_at_call 9; refine (eq_node B _ _ _ _ HH.out.2.2.2.2.2.1.1 _ _ _ _ HH.out.2.1.1).mono ?_; rintro e w13 ⟨rfl, hb⟩; rw [same_yes rfl]
                 replace HX := Lib.hid (HX.out.next hb)
                 replace HH := Lib.hid (HH.out.next hb)
                 obtain ⟨r0, r1, r2, r3, r4, -⟩ := five HH.out.2.2.2.2.1
                 obtain ⟨-, -, -, -, -, -, -, s0, s1, s2, s3, s4⟩ := HX.out
                 clear hb))
          replace HH := Lib.hid (show Held w w13 _ from ⟨HH.out.1, HH.out.2.2⟩)
          clear x0 x1 x2 x3 x4 y0 y1 y2 y3 y4 p0 p1 p2 p3 p4 q0 q1 q2 q3 q4 r0 r1 r2 r3 r4 s0 s1 s2 s3 s4 HD
          obtain ⟨x0, x1, x2, x3, x4, -⟩ := five HH.out.2.2.2.2.2.1
          go_upto_region 22 with (first
            | (go_at_call 10; refine (mark_node A _ _ _ _ HH.out.2.2.2.2.2.2.1.1 HH.out.2.2.2.2.2.2.1.2.1 HH.out.2.2.2.2.2.2.1.2.2 1 (by omega) HCn.out.1).mono ?_; rintro e w14 ⟨rfl, -, hb⟩
               have HM1 : Hid (0 < 1 + A.cnt ∧ 1 + A.cnt + B.cnt ≤ 1000000000) := ⟨by omega, HCn.out.2.1⟩
               generalize 1 + A.cnt = m1 at *
               replace HX := Lib.hid (HX.out.but hb (fun y hy => by have h1 := (H3.out.1 y hy).1; have h2 := HLc.out; omega))
               replace HH := Lib.hid ((show Held w w13 [.box B11 #[.int .i64 R.k, .int .i64 R.n, .string R.s, .slice o7 R.keys.length c7, .slice o8 R.kids.length c8] 29, .mine R _ _ F7, .box B10 #[.int .i64 B.k, .int .i64 B.n, .string B.s, .slice o5 B.keys.length c5, .slice o6 B.kids.length c6] 29, .mine B _ _ F5, .box B8 #[.int .i64 R.k, .int .i64 R.n, .string R.s, .slice oW R.keys.length cW, .slice oV R.kids.length cV] 29, .tree R _ _ FW] from ⟨HH.out.1, HH.out.2.1, HH.out.2.2.1, HH.out.2.2.2.1, HH.out.2.2.2.2.1, HH.out.2.2.2.2.2.2.2.1, HH.out.2.2.2.2.2.2.2.2.1, trivial⟩).but hb (fun y hy => by have h1 := (H3.out.1 y hy).1; have h2 := HLc.out; omega) (by
                 have h3 := H3.out; have h5 := H5.out; have h7 := H7.out; have h8 := H8.out
                 simp only [List.mem_cons, List.not_mem_nil, or_false, forall_eq_or_imp, forall_eq, Fc.blocks]
                 refine ⟨fun hx => ?_, fun y hy hx => ?_, fun hx => ?_, fun y hy hx => ?_, fun hx => ?_, fun y hy hx => ?_⟩
                 · have := h3.1 _ hx; omega
                 · have := h3.1 _ hx; have := h7.1 _ hy; omega
                 · have := h3.1 _ hx; omega
                 · have := h3.1 _ hx; have := h5.1 _ hy; omega
                 · have := h3.1 _ hx; omega
                 · have := h3.1 _ hx; have := h8.2 _ hy; omega))
               clear hb x0 x1 x2 x3 x4)
            | fail)
          obtain ⟨x0, x1, x2, x3, x4, -⟩ := five HH.out.2.2.2.1
          go_upto_region 23 with (first
            | (go_at_call 10; refine (mark_node B _ _ _ _ HH.out.2.2.2.2.1.1 HH.out.2.2.2.2.1.2.1 HH.out.2.2.2.2.1.2.2 m1 HM1.out.1 HM1.out.2).mono ?_; rintro e w15 ⟨rfl, -, hb⟩
               have hm2 : ¬ (((m1 + B.cnt : Nat) : Int) < 0) := (by omega)
               generalize ((m1 + B.cnt : Nat) : Int) = m2 at *
               have hG5 : ∀ y ∈ F5, w.heap.size + 1 < y := fun y hy => (by have h1 := (H5.out.1 y hy).1; have h2 := HLc.out; have h3 := H3.out.2; omega)
               replace HX := Lib.hid (HX.out.but hb hG5)
               replace HH := Lib.hid ((show Held w w14 [.box B11 #[.int .i64 R.k, .int .i64 R.n, .string R.s, .slice o7 R.keys.length c7, .slice o8 R.kids.length c8] 29, .mine R _ _ F7, .box B8 #[.int .i64 R.k, .int .i64 R.n, .string R.s, .slice oW R.keys.length cW, .slice oV R.kids.length cV] 29, .tree R _ _ FW] from ⟨HH.out.1, HH.out.2.1, HH.out.2.2.1, HH.out.2.2.2.2.2.1, HH.out.2.2.2.2.2.2.1, trivial⟩).but hb (fun y hy => by have h1 := hG5 y hy; omega) (by
                 have h3 := H3.out; have h5 := H5.out; have h7 := H7.out; have h8 := H8.out
                 simp only [List.mem_cons, List.not_mem_nil, or_false, forall_eq_or_imp, forall_eq, Fc.blocks]
                 refine ⟨fun hx => ?_, fun y hy hx => ?_, fun hx => ?_, fun y hy hx => ?_⟩
                 · have := h5.1 _ hx; omega
                 · have := h5.1 _ hx; have := h7.1 _ hy; omega
                 · have := h5.1 _ hx; omega
                 · have := h5.1 _ hx; have := h8.2 _ hy; omega))
               clear hb hG5 x0 x1 x2 x3 x4)
            | fail)
          obtain ⟨x0, x1, x2, x3, x4, -⟩ := five HH.out.2.1
          obtain ⟨y0, y1, y2, y3, y4, -⟩ := five HH.out.2.2.2.1
          go_upto_region 26 with (first
            | (go_at_call 9; refine (eq_node R _ _ _ _ HH.out.2.2.1.1 _ _ _ _ HH.out.2.2.2.2.1).mono ?_; rintro e w16 ⟨rfl, hb⟩; rw [same_yes rfl]
               replace HX := Lib.hid (HX.out.next hb)
               replace HH := Lib.hid (HH.out.next hb)
               clear hb x0 x1 x2 x3 x4 y0 y1 y2 y3 y4)
            | fail)
          obtain ⟨x0, x1, x2, x3, x4, -⟩ := five HH.out.2.1
          go_upto_region 28 with (first
            | (go_at_call 10; refine (mark_node R _ _ _ _ HH.out.2.2.1.1 HH.out.2.2.1.2.1 HH.out.2.2.1.2.2 1 (by omega) HCn.out.2.2).mono ?_; rintro e w17 ⟨rfl, hlm, hb⟩
               have hG7 : ∀ y ∈ F7, w.heap.size + 1 < y := fun y hy => (by have h1 := (H7.out.1 y hy).1; have h2 := HLc.out; have h3 := H3.out.2; have h5 := H5.out.2; omega)
               replace HX := Lib.hid (HX.out.but hb hG7)
               have hmk := mine_marked HH.out.2.2.1 hb hlm
               have hh7 := (show Held w w16 [.box B11 #[.int .i64 R.k, .int .i64 R.n, .string R.s, .slice o7 R.keys.length c7, .slice o8 R.kids.length c8] 29, .box B8 #[.int .i64 R.k, .int .i64 R.n, .string R.s, .slice oW R.keys.length cW, .slice oV R.kids.length cV] 29, .tree R _ _ FW] from ⟨HH.out.1, HH.out.2.1, HH.out.2.2.2.1, HH.out.2.2.2.2.1, trivial⟩).but hb (fun y hy => by have h1 := hG7 y hy; omega) (by
                 have h3 := H3.out; have h5 := H5.out; have h7 := H7.out; have h8 := H8.out
                 simp only [List.mem_cons, List.not_mem_nil, or_false, forall_eq_or_imp, forall_eq, Fc.blocks]
                 refine ⟨fun hx => ?_, fun hx => ?_, fun y hy hx => ?_⟩
                 · have := h7.1 _ hx; omega
                 · have := h7.1 _ hx; omega
                 · have := h7.1 _ hx; have := h8.2 _ hy; omega)
               replace HH := Lib.hid (show Held w w17 [.box B11 #[.int .i64 R.k, .int .i64 R.n, .string R.s, .slice o7 R.keys.length c7, .slice o8 R.kids.length c8] 29, .mine (R.mark 1) _ _ F7, .box B8 #[.int .i64 R.k, .int .i64 R.n, .string R.s, .slice oW R.keys.length cW, .slice oV R.kids.length cV] 29, .tree R _ _ FW] from ⟨hh7.1, hh7.2.1, hmk, hh7.2.2.1, hh7.2.2.2.1, trivial⟩)
               have HCR := Lib.hid HCn.out.2.2
               clear HCn
               have hm3 : ¬ (((1 + R.cnt : Nat) : Int) < 0) := (by omega)
               generalize hm4 : ((1 + R.cnt : Nat) : Int) = m3 at *
               have HM3 := Lib.hid hm4
               clear hm4
               clear hb hG7 hmk hh7 hlm x0 x1 x2 x3 x4)
            | fail)
          obtain ⟨x0, x1, x2, x3, x4, -⟩ := five HH.out.2.1
          go_upto_region 33 with (first
            | (go_at_call 11; refine (held_node1 R _ _ _ _ HH.out.2.2.1.1 HCR.out).mono ?_; rintro e w18 ⟨rfl, hb⟩
               rw [HM3.out]
               replace HX := Lib.hid (HX.out.next hb)
               replace HH := Lib.hid (HH.out.next hb)
               clear hb x0 x1 x2 x3 x4)
            | fail)
          go_cut [15] (fun p wd => ∃ (B15 : Nat) (oH cH oI cI : _) (FH : List Nat), p = .pointer (some ⟨B15, 0, none⟩) ∧ Hid (Box2 w wd (.int .i64 A.k) (.int .i64 A.n) (.string A.s) kvA dvA (.int .i64 B.k) (.int .i64 B.n) (.string B.s) kvB dvB ∧ Held w wd [.box B15 #[.int .i64 R.k, .int .i64 R.n, .string R.s, .slice oH R.keys.length cH, .slice oI R.kids.length cI] 29, .tree R (.slice oH R.keys.length cH) (.slice oI R.kids.length cI) FH, .box B11 #[.int .i64 R.k, .int .i64 R.n, .string R.s, .slice o7 R.keys.length c7, .slice o8 R.kids.length c8] 29, .mine (R.mark 1) (.slice o7 R.keys.length c7) (.slice o8 R.kids.length c8) F7, .box B8 #[.int .i64 R.k, .int .i64 R.n, .string R.s, .slice oW R.keys.length cW, .slice oV R.kids.length cV] 29, .tree R (.slice oW R.keys.length cW) (.slice oV R.kids.length cV) FW]))
          case first =>
            have HS := Lib.hid (RS.start HX.out HH.out)
            obtain ⟨-, -, x0, x1, x2, x3, x4, y0, y1, y2, y3, y4⟩ := HX.out
            have xx1 : ¬ (w.heap.size = w18.heap.size) := (by have := HX.out.lt; omega)
            have xx2 : ¬ (w.heap.size + 1 = w18.heap.size) := (by have := HX.out.lt; omega)
            have xx3 : ¬ (w18.heap.size = w.heap.size) := (by have := HX.out.lt; omega)
            have xx4 : ¬ (w18.heap.size = w.heap.size + 1) := (by have := HX.out.lt; omega)
            go_region_held3 (fun w' => w'.cell? ⟨w.heap.size, 0, none⟩ = some (.int .i64 A.k) ∧ w'.cell? ⟨w.heap.size, 1, none⟩ = some (.int .i64 A.n) ∧ w'.cell? ⟨w.heap.size, 2, none⟩ = some (.string A.s) ∧ w'.cell? ⟨w.heap.size, 3, none⟩ = some kvA ∧ w'.cell? ⟨w.heap.size, 4, none⟩ = some dvA ∧ w'.cell? ⟨w.heap.size + 1, 0, none⟩ = some (.int .i64 B.k) ∧ w'.cell? ⟨w.heap.size + 1, 1, none⟩ = some (.int .i64 B.n) ∧ w'.cell? ⟨w.heap.size + 1, 2, none⟩ = some (.string B.s) ∧ w'.cell? ⟨w.heap.size + 1, 3, none⟩ = some kvB ∧ w'.cell? ⟨w.heap.size + 1, 4, none⟩ = some dvB) (go_keep)
          (first
            | (go_at_call_of 7 kvA; show Calls _ _ _ (World.drew (World.alloc _ _)) _; refine (TA.out _ (HS.out.alloc w18.heap.size rfl).box.below).mono ?_; rintro e wb1 ⟨kv1, dv1, Fb1, rfl, hl, hf, hb⟩; obtain ⟨⟨owb11, owb12, rfl⟩, ⟨owb13, owb14, rfl⟩⟩ := hl.slices; replace HS := Lib.hid ((HS.out.alloc w18.heap.size rfl).fresh hb hl hf); obtain ⟨-, -, pb0, pb1, pb2, pb3, pb4, pb5, pb6, pb7, pb8, pb9⟩ := HS.out.box; have pbx1 : ¬ (w.heap.size = wb1.heap.size) := (by have := HS.out.box.lt; omega); have pbx2 : ¬ (w.heap.size + 1 = wb1.heap.size) := (by have := HS.out.box.lt; omega); have pbx3 : ¬ (wb1.heap.size = w.heap.size) := (by have := HS.out.box.lt; omega); have pbx4 : ¬ (wb1.heap.size = w.heap.size + 1) := (by have := HS.out.box.lt; omega); clear hl hf hb)
            | (go_at_call_of 7 kvA; refine (TA.out _ HS.out.box.below).mono ?_; rintro e wb1 ⟨kv1, dv1, Fb1, rfl, hl, hf, hb⟩; obtain ⟨⟨owb11, owb12, rfl⟩, ⟨owb13, owb14, rfl⟩⟩ := hl.slices; replace HS := Lib.hid (HS.out.fresh hb hl hf); obtain ⟨-, -, pb0, pb1, pb2, pb3, pb4, pb5, pb6, pb7, pb8, pb9⟩ := HS.out.box; have pbx1 : ¬ (w.heap.size = wb1.heap.size) := (by have := HS.out.box.lt; omega); have pbx2 : ¬ (w.heap.size + 1 = wb1.heap.size) := (by have := HS.out.box.lt; omega); have pbx3 : ¬ (wb1.heap.size = w.heap.size) := (by have := HS.out.box.lt; omega); have pbx4 : ¬ (wb1.heap.size = w.heap.size + 1) := (by have := HS.out.box.lt; omega); clear hl hf hb)
            | (go_at_call_of 7 kvB; show Calls _ _ _ (World.alloc _ _) _; refine (TB.out _ (HS.out.alloc wb1.heap.size rfl).box.below).mono ?_; rintro e wb2 ⟨kv1, dv1, Fb2, rfl, hl, hf, hb⟩; obtain ⟨⟨owb21, owb22, rfl⟩, ⟨owb23, owb24, rfl⟩⟩ := hl.slices; replace HS := Lib.hid ((HS.out.alloc wb1.heap.size rfl).fresh hb hl hf); obtain ⟨-, -, qb0, qb1, qb2, qb3, qb4, qb5, qb6, qb7, qb8, qb9⟩ := HS.out.box; have qbx1 : ¬ (w.heap.size = wb2.heap.size) := (by have := HS.out.box.lt; omega); have qbx2 : ¬ (w.heap.size + 1 = wb2.heap.size) := (by have := HS.out.box.lt; omega); have qbx3 : ¬ (wb2.heap.size = w.heap.size) := (by have := HS.out.box.lt; omega); have qbx4 : ¬ (wb2.heap.size = w.heap.size + 1) := (by have := HS.out.box.lt; omega); clear hl hf hb)
            | (go_at_call_of 7 kvB; refine (TB.out _ HS.out.box.below).mono ?_; rintro e wb2 ⟨kv1, dv1, Fb2, rfl, hl, hf, hb⟩; obtain ⟨⟨owb21, owb22, rfl⟩, ⟨owb23, owb24, rfl⟩⟩ := hl.slices; replace HS := Lib.hid (HS.out.fresh hb hl hf); obtain ⟨-, -, qb0, qb1, qb2, qb3, qb4, qb5, qb6, qb7, qb8, qb9⟩ := HS.out.box; have qbx1 : ¬ (w.heap.size = wb2.heap.size) := (by have := HS.out.box.lt; omega); have qbx2 : ¬ (w.heap.size + 1 = wb2.heap.size) := (by have := HS.out.box.lt; omega); have qbx3 : ¬ (wb2.heap.size = w.heap.size) := (by have := HS.out.box.lt; omega); have qbx4 : ¬ (wb2.heap.size = w.heap.size + 1) := (by have := HS.out.box.lt; omega); clear hl hf hb)
            | (go_at_call 8; show Calls _ _ _ (World.alloc _ _) _; refine (CI.out _ _ _ _ _ _ _ (HS.out.alloc wb2.heap.size rfl).held.2.2.1.1 (HS.out.alloc wb2.heap.size rfl).held.2.1.1).mono ?_; rintro e wb3 ⟨kv1, dv1, Fb3, rfl, hl, hf, hb⟩; obtain ⟨⟨owb31, owb32, rfl⟩, ⟨owb33, owb34, rfl⟩⟩ := hl.slices; replace HS := Lib.hid ((HS.out.alloc wb2.heap.size rfl).fresh hb hl hf); obtain ⟨-, -, rb0, rb1, rb2, rb3, rb4, rb5, rb6, rb7, rb8, rb9⟩ := HS.out.box; have rbx1 : ¬ (w.heap.size = wb3.heap.size) := (by have := HS.out.box.lt; omega); have rbx2 : ¬ (w.heap.size + 1 = wb3.heap.size) := (by have := HS.out.box.lt; omega); have rbx3 : ¬ (wb3.heap.size = w.heap.size) := (by have := HS.out.box.lt; omega); have rbx4 : ¬ (wb3.heap.size = w.heap.size + 1) := (by have := HS.out.box.lt; omega); obtain ⟨z0, z1, z2, z3, z4, z5⟩ := five (HS.out.zero _ rfl); clear hl hf hb)
            | (go_at_call 8; refine (CI.out _ _ _ _ _ _ _ HS.out.held.2.2.1.1 HS.out.held.2.1.1).mono ?_; rintro e wb3 ⟨kv1, dv1, Fb3, rfl, hl, hf, hb⟩; obtain ⟨⟨owb31, owb32, rfl⟩, ⟨owb33, owb34, rfl⟩⟩ := hl.slices; replace HS := Lib.hid (HS.out.fresh hb hl hf); obtain ⟨-, -, rb0, rb1, rb2, rb3, rb4, rb5, rb6, rb7, rb8, rb9⟩ := HS.out.box; have rbx1 : ¬ (w.heap.size = wb3.heap.size) := (by have := HS.out.box.lt; omega); have rbx2 : ¬ (w.heap.size + 1 = wb3.heap.size) := (by have := HS.out.box.lt; omega); have rbx3 : ¬ (wb3.heap.size = w.heap.size) := (by have := HS.out.box.lt; omega); have rbx4 : ¬ (wb3.heap.size = w.heap.size + 1) := (by have := HS.out.box.lt; omega); first | (obtain ⟨z0, z1, z2, z3, z4, z5⟩ := five (HS.out.zero _ rfl)) | skip; clear hl hf hb))
            all_goals go_wp2_with fail
            all_goals go_meet
            · have hx := HS.out.last #[.int .i64 R.k, .int .i64 R.n, .string R.s, .slice owb31 R.keys.length owb32, .slice owb33 R.kids.length owb34] 29
              exact ⟨_, _, _, _, _, _, rfl, hx.1, hx.2.1, hx.2.2.1, hx.2.2.2.1.1, hx.2.2.2.2.2.2⟩
            all_goals
              have hx := HS.out.store (.int .i64 R.k) (.int .i64 R.n) (.string R.s) (.slice owb31 R.keys.length owb32) (.slice owb33 R.kids.length owb34)
              exact ⟨_, _, _, _, _, _, rfl, hx.1, hx.2.1, hx.2.2.1, hx.2.2.2.1.1, hx.2.2.2.2.2.2⟩
          case rest =>
            obtain ⟨B15, oH, cH, oI, cI, FH, rfl, hcc⟩ := hcut
            replace HH := Lib.hid hcc.out.2
            clear hcc HX
            obtain ⟨x0, x1, x2, x3, x4, -⟩ := five HH.out.2.1
            obtain ⟨y0, y1, y2, y3, y4, -⟩ := five HH.out.2.2.2.2.2.1
            go_upto_region 37 with (first
              | (go_at_call 9; refine (eq_node R _ _ _ _ HH.out.2.2.1 _ _ _ _ HH.out.2.2.2.2.2.2.1).mono ?_; rintro e w20 ⟨rfl, hb⟩; rw [same_yes rfl]
                 replace HH := Lib.hid (HH.out.next hb)
                 clear hb x0 x1 x2 x3 x4 y0 y1 y2 y3 y4)
              | fail)
            obtain ⟨x0, x1, x2, x3, x4, -⟩ := five HH.out.2.2.2.1
            go_wp2_with (first
              | (go_at_call 11; refine (held_node1 R _ _ _ _ HH.out.2.2.2.2.1.1 HCR.out).mono ?_; rintro e w21 ⟨rfl, hb⟩
                 rw [HM3.out]
                 replace HH := Lib.hid (HH.out.next hb)
                 clear hb x0 x1 x2 x3 x4)
              | fail)
            go_ret
            exact ⟨rfl, HH.out.1⟩
      · have hkk : ¬ (1048576 < (key.size : Int)) := by omega
        have t1 : True := trivial
        have t2 : True := trivial
        clear hA hB hk
        go_enter Try.func3, Try.ntmps3
        go_wp2_with (first
          | (go_at_call 5; clear t1; refine (SA.out _ HX.out.below).mono ?_; rintro e w1 ⟨rfl, hb1⟩; rw [left_ok (by omega)]; replace HX := Lib.hid (HX.out.next hb1); obtain ⟨-, -, -, -, -, -, -, g0, g1, g2, g3, g4⟩ := HX.out; clear hb1)
          | fail)
        go_wp2_with (first
          | (go_at_call 5; clear t2; refine (SB.out _ HX.out.below _ (by omega) (by omega)).mono ?_; rintro e w2 ⟨rfl, hb1⟩; rw [left_no (by omega)]; replace HX := Lib.hid (HX.out.next hb1); clear hb1 g0 g1 g2 g3 g4)
          | fail)
        go_ret
        exact ⟨rfl, HX.out.below⟩
    · have hkk : ¬ (1048576 < (key.size : Int)) := by omega
      clear hA hB hk
      go_enter Try.func3, Try.ntmps3
      go_wp2_with (first
        | (go_at_call 5; refine (SA.out _ HX.out.below).mono ?_; rintro e w1 ⟨rfl, hb1⟩; rw [left_no (by omega)]; replace HX := Lib.hid (HX.out.next hb1); clear hb1)
        | fail)
      go_ret
      exact ⟨rfl, HX.out.below⟩
  · have hkk : 1048576 < (key.size : Int) := by omega
    clear hA hB hk
    go_enter Try.func3, Try.ntmps3
    go_wp2_with fail
    go_ret
    exact ⟨rfl, HX.out.below⟩
end Go.Proofs.Ytbcgkpkkhinkcaa
