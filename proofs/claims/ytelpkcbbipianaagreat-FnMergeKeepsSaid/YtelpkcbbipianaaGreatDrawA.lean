/-
  What is proved: the model's drawing of any tree (it need not be right): what is drawn is small, and lies in memory of its own; nothing turns but the cursor.
-/
import Derived.Test.YtelpkcbbipianaaGreatPartAY
import Derived.Deep.CutRange
namespace Go.Proofs.YtelpkcbbipianaaGreat
open Go Go.RowKit

set_option maxHeartbeats 1000000 in
/-- A number below n is drawn, n more than 256. -/
theorem below_wide (n : Nat) (h1 : 256 < n) (hn : n ≤ 1048576) (a : Option Addr) (len cap p : Nat) (w : World) (hc : Cur w p a len cap) :
    Calls Tryz.prog 24 #[.pointer (some ⟨p, 0, none⟩), .int .i64 n] w fun e w' => ∃ v, e = .returned v ∧ ∃ r : Nat, v = .int .i64 r ∧ r < n ∧ Cur w' p a len cap ∧ w.grownBy w' (some p) := by
  have HC := Lib.hid hc
  have HG := Lib.hid (World.grownBy.refl w (some p))
  clear hc
  have hz : ((n : Int) == 0) = false := by simp; omega
  have t1 : True := trivial
  have t2 : True := trivial
  have t3 : True := trivial
  have t4 : True := trivial
  go_enter Tryz.func24, Tryz.ntmps24
  go_wp2_with (first
    | (go_at_call 42; clear t1; refine (byte_any a len cap p _ HC.out.cur HC.out.code HC.out.apart).mono ?_; rintro e w1 ⟨⟨x, hx, rfl⟩, hc1, ho1⟩; replace HC := Lib.hid (HC.out.only hc1 ho1); replace HG := Lib.hid (HG.out.andThen ho1.grown (fun _ hj => .inr hj)); clear hc1 ho1)
    | (go_at_call 42; clear t2; refine (byte_any a len cap p _ HC.out.cur HC.out.code HC.out.apart).mono ?_; rintro e w2 ⟨⟨y, hy, rfl⟩, hc1, ho1⟩; replace HC := Lib.hid (HC.out.only hc1 ho1); replace HG := Lib.hid (HG.out.andThen ho1.grown (fun _ hj => .inr hj)); clear hc1 ho1)
    | (go_at_call 42; clear t3; refine (byte_any a len cap p _ HC.out.cur HC.out.code HC.out.apart).mono ?_; rintro e w3 ⟨⟨z, hzz, rfl⟩, hc1, ho1⟩; replace HC := Lib.hid (HC.out.only hc1 ho1); replace HG := Lib.hid (HG.out.andThen ho1.grown (fun _ hj => .inr hj)); clear hc1 ho1)
    | (go_at_call 42; clear t4; refine (byte_any a len cap p _ HC.out.cur HC.out.code HC.out.apart).mono ?_; rintro e w4 ⟨⟨u, hu, rfl⟩, hc1, ho1⟩; replace HC := Lib.hid (HC.out.only hc1 ho1); replace HG := Lib.hid (HG.out.andThen ho1.grown (fun _ hj => .inr hj)); clear hc1 ho1)
    | fail)
  go_ret
  exact ⟨_, rfl, (x * 16777216 + y * 65536 + z * 256 + u) % n, by go_num, Nat.mod_lt _ (by omega), HC.out, HG.out⟩

theorem below_all (n : Nat) (h1 : 0 < n) (hn : n ≤ 1048576) (a : Option Addr) (len cap p : Nat) (w : World) (hc : Cur w p a len cap) :
    Calls Tryz.prog 24 #[.pointer (some ⟨p, 0, none⟩), .int .i64 n] w fun e w' => ∃ v, e = .returned v ∧ ∃ r : Nat, v = .int .i64 r ∧ r < n ∧ Cur w' p a len cap ∧ w.grownBy w' (some p) := by
  by_cases h : n ≤ 256
  · refine (below_any n h1 h a len cap p w hc.cur hc.code hc.apart).mono ?_
    rintro e w' ⟨⟨r, hr, rfl⟩, hc1, ho1⟩
    exact ⟨_, rfl, r, rfl, hr, hc.only hc1 ho1, ho1.grown⟩
  · exact below_wide n (by omega) hn a len cap p w hc

set_option maxRecDepth 100000 in
set_option maxHeartbeats 4000000 in
theorem draw_all (a : Option Addr) (len cap p : Nat) (w : World) (hc : Cur w p a len cap) :
    Calls Tryz.prog 25 #[.pointer (some ⟨p, 0, none⟩)] w fun e w' => ∃ T kv dv F, e = .returned (.agg #[.int .i64 T.k, .int .i64 T.n, .string T.s, kv, dv]) ∧ Lies w' T kv dv F ∧ Fresh w w' F ∧ Cur w' p a len cap ∧ w.grownBy w' (some p) ∧ T.wz ≤ 3000 := by
  have HC := Lib.hid hc
  have HD := Lib.hid (DS.start hc)
  have hp : Hid (p < w.heap.size) := hc.lt
  clear hc
  have t1 : True := trivial
  go_enter Tryz.func25, Tryz.ntmps25
  go_wp2_with (first
    | (go_at_call 36; clear t1; refine (draw_three a len cap p _ HD.out.cur).mono ?_; rintro e w1 ⟨T, kt, dt, FT, rfl, hl1, hf1, hc1, hg1, hsz1⟩; obtain ⟨⟨o1, q1, rfl⟩, ⟨o2, q2, rfl⟩⟩ := hl1.slices
       have HH := Lib.hid (And.intro (Hole.start HD.out hp.out hc1 hg1 hl1 hf1) hsz1); clear hl1 hf1 hc1 hg1 hsz1)
    | fail)
  go_loopw [4, 5] (fun q k wr => ∃ (j nb no M : Nat) (N : RT) (kn dn : Value) (FN : List Nat), j ≤ 3 ∧ q = .pointer (some ⟨nb, no, none⟩) ∧ k = .int .i64 j ∧ Hid (Hole w (w.alloc (.cells #[.int .i64 0, .int .i64 0, .string ⟨#[]⟩, .slice none 0 0, .slice none 0 0] 27)) wr p a len cap w1.heap.size nb no M N kn dn FN ∧ M + N.wz ≤ 2700)) (fun _ k _ => 3 - (intOf k).toNat)
  case atStart => exact ⟨0, _, _, 0, T, _, _, _, by omega, rfl, rfl, HH.out.1, by have h := HH.out.2; have e : bnd 3 = 2685 := rfl; omega⟩
  case round =>
    obtain ⟨j, nb, no, M, N, kn, dn, FN, hj, rfl, rfl, hr⟩ := hrel
    clear HH HD
    generalize w.alloc (.cells #[.int .i64 0, .int .i64 0, .string ⟨#[]⟩, .slice none 0 0, .slice none 0 0] 27) = w0 at *
    generalize w1.heap.size = B at *
    go_upto_region 4 with fail
    go_cut [22] from 8 to 36 (fun c wc => ∃ b : Bool, c = .bool b ∧ (b = true → j < 3 ∧ 0 < N.kids.length) ∧ Hid (Hole w w0 wc p a len cap B nb no M N kn dn FN))
    case first =>
      obtain ⟨⟨o3, q3, rfl⟩, ⟨o4, q4, rfl⟩⟩ := hr.out.1.lie.slices
      obtain ⟨x0, x1, x2, x3, x4⟩ := hr.out.1.five
      by_cases hlt : j < 3
      · by_cases hk : 0 < N.kids.length
        · go_wp2_with (first
            | (go_at_call 35; refine (once_any 2 (by omega) (by omega) a len cap p _ hr.out.1.ds.cur).mono ?_; rintro e w3 ⟨⟨b, rfl⟩, hc3, ho3⟩; have H3 := Lib.hid (hr.out.1.draw hp.out hc3 ho3.grown); clear hc3 ho3)
            | fail)
          go_meet
          case rel => exact ⟨_, rfl, fun _ => ⟨hlt, hk⟩, H3.out⟩
        · have hk0 : N.kids.length = 0 := by omega
          rw [hk0] at x4
          go_wp2_with fail
          go_meet
          case rel => exact ⟨false, rfl, by simp, hr.out.1⟩
      · have e : j = 3 := by omega
        subst e
        go_wp2_with fail
        go_meet
        case rel => exact ⟨false, rfl, by simp, hr.out.1⟩
    case rest =>
      obtain ⟨b, rfl, hb, hh⟩ := hcut
      have HZ : Hid (N.wz ≤ 2700 ∧ M + N.wz ≤ 2700) := by have h := hr.out.2; exact ⟨by omega, h⟩
      clear hr
      cases b
      · clear hb
        go_upto_region 8 with (first
          | (go_at_call 24; refine (below_any 14 (by omega) (by omega) a len cap p _ hh.out.ds.cur.cur hh.out.ds.cur.code hh.out.ds.cur.apart).mono ?_; rintro e w3 ⟨⟨r, hr, rfl⟩, hc1, ho1⟩; have H3 := Lib.hid (hh.out.draw hp.out (hh.out.ds.cur.only hc1 ho1) ho1.grown); clear hc1 ho1)
          | fail)
        clear hh
        obtain ⟨⟨o3, q3, rfl⟩, ⟨o4, q4, rfl⟩⟩ := H3.out.lie.slices
        obtain ⟨x0, x1, x2, x3, x4⟩ := H3.out.five
        have x5 := H3.out.frz
        have HW := Lib.hid H3.out.later
        obtain rfl | rfl | rfl | rfl | rfl | h5 : r = 0 ∨ r = 1 ∨ r = 2 ∨ r = 3 ∨ r = 4 ∨ 5 ≤ r := by omega
        · go_upto_region 18 with (first
            | (go_at_call 24; refine (below_any 8 (by omega) (by omega) a len cap p _ H3.out.ds.cur.cur H3.out.ds.cur.code H3.out.ds.cur.apart).mono ?_; rintro e w4 ⟨⟨k, hk, rfl⟩, hc1, ho1⟩; have H4 := Lib.hid (H3.out.draw hp.out (H3.out.ds.cur.only hc1 ho1) ho1.grown); obtain ⟨y0, y1, y2, y3, y4⟩ := H4.out.five; have y5 := H4.out.frz; clear hc1 ho1 x0 x1 x2 x3 x4 x5)
            | fail)
          have HE := Lib.hid (H4.out.setK HC.out ((k : Int) - 1) ⟨by omega, by omega⟩ (S := 3000) (by have h1 := HZ.out.1; have h2 := HZ.out.2; omega))
          generalize w4.setCell ⟨nb, no, none⟩ (.int .i64 ((k : Int) - 1)) = w5 at *
          clear y0 y1 y2 y3 y4 y5 H4
          obtain ⟨hds, R, kr, dr, FR, hcB, hlR, hfR, hnB, hsR⟩ := HE.out
          obtain ⟨⟨o5, q5, rfl⟩, ⟨o6, q6, rfl⟩⟩ := hlR.slices
          obtain ⟨b0, b1, b2, b3, b4⟩ := kid_cells (o := 0) (fun j hj => by rw [Nat.zero_add]; exact hcB j hj) (Below.refl _ _)
          obtain ⟨z0, z1, z2, z3, z4, z5⟩ := five hds.res
          have HF := Lib.hid (And.intro (hds.fin HC.out hlR (hfR.earlier (Nat.le_of_lt HW.out)) (fun hx => by have := hfR.old _ hx; have := HW.out; omega)) hsR)
          clear hds hcB hlR hfR hnB hsR HE
          go_wp2
          exact bodyPost_ret (ret_node Tryz.results25 rfl HF.out.1.1) rfl ⟨_, _, _, _, rfl, HF.out.1.2.1, HF.out.1.2.2.1, HF.out.1.2.2.2.1, HF.out.1.2.2.2.2, HF.out.2⟩
        · go_upto_region 18 with (first
            | (go_at_call 43; refine (pickInt_laid Fit [1, 2, 1000000000001] _ rfl _ _ rfl (by decide) (by decide) (by unfold Fit; decide) a len cap p _ rfl H3.out.ds.cur).mono ?_; rintro e w4 ⟨⟨k, hk, rfl⟩, hc3, hg3⟩; have H4 := Lib.hid (H3.out.draw hp.out hc3 hg3); obtain ⟨y0, y1, y2, y3, y4⟩ := H4.out.five; have y5 := H4.out.frz; clear hc3 hg3 x0 x1 x2 x3 x4 x5)
            | fail)
          have HE := Lib.hid (H4.out.setN HC.out k hk (S := 3000) (by have h1 := HZ.out.1; have h2 := HZ.out.2; omega))
          generalize w4.setCell ⟨nb, no + 1, none⟩ (.int .i64 k) = w5 at *
          clear y0 y1 y2 y3 y4 y5 H4
          obtain ⟨hds, R, kr, dr, FR, hcB, hlR, hfR, hnB, hsR⟩ := HE.out
          obtain ⟨⟨o5, q5, rfl⟩, ⟨o6, q6, rfl⟩⟩ := hlR.slices
          obtain ⟨b0, b1, b2, b3, b4⟩ := kid_cells (o := 0) (fun j hj => by rw [Nat.zero_add]; exact hcB j hj) (Below.refl _ _)
          obtain ⟨z0, z1, z2, z3, z4, z5⟩ := five hds.res
          have HF := Lib.hid (And.intro (hds.fin HC.out hlR (hfR.earlier (Nat.le_of_lt HW.out)) (fun hx => by have := hfR.old _ hx; have := HW.out; omega)) hsR)
          clear hds hcB hlR hfR hnB hsR HE
          go_wp2
          exact bodyPost_ret (ret_node Tryz.results25 rfl HF.out.1.1) rfl ⟨_, _, _, _, rfl, HF.out.1.2.1, HF.out.1.2.2.1, HF.out.1.2.2.2.1, HF.out.1.2.2.2.2, HF.out.2⟩
        · go_upto_region 18 with (first
            | (go_at_call 44; refine (pick_laid (fun s => s.size ≤ 12) [⟨#[120]⟩, ⟨#[31]⟩, ⟨#[127]⟩] _ rfl _ _ rfl (by decide) (by decide) (by decide) a len cap p _ rfl H3.out.ds.cur).mono ?_; rintro e w4 ⟨⟨s, hs, rfl⟩, hc3, hg3⟩; have H4 := Lib.hid (H3.out.draw hp.out hc3 hg3); obtain ⟨y0, y1, y2, y3, y4⟩ := H4.out.five; have y5 := H4.out.frz; clear hc3 hg3 x0 x1 x2 x3 x4 x5)
            | fail)
          have HE := Lib.hid (H4.out.setS HC.out s hs (S := 3000) (by have h1 := HZ.out.1; have h2 := HZ.out.2; omega))
          generalize w4.setCell ⟨nb, no + 2, none⟩ (.string s) = w5 at *
          clear y0 y1 y2 y3 y4 y5 H4
          obtain ⟨hds, R, kr, dr, FR, hcB, hlR, hfR, hnB, hsR⟩ := HE.out
          obtain ⟨⟨o5, q5, rfl⟩, ⟨o6, q6, rfl⟩⟩ := hlR.slices
          obtain ⟨b0, b1, b2, b3, b4⟩ := kid_cells (o := 0) (fun j hj => by rw [Nat.zero_add]; exact hcB j hj) (Below.refl _ _)
          obtain ⟨z0, z1, z2, z3, z4, z5⟩ := five hds.res
          have HF := Lib.hid (And.intro (hds.fin HC.out hlR (hfR.earlier (Nat.le_of_lt HW.out)) (fun hx => by have := hfR.old _ hx; have := HW.out; omega)) hsR)
          clear hds hcB hlR hfR hnB hsR HE
          go_wp2
          exact bodyPost_ret (ret_node Tryz.results25 rfl HF.out.1.1) rfl ⟨_, _, _, _, rfl, HF.out.1.2.1, HF.out.1.2.2.1, HF.out.1.2.2.2.1, HF.out.1.2.2.2.2, HF.out.2⟩
        · have HM := Lib.hid (H3.out.key HC.out ⟨#[97]⟩ (by decide) (by have h1 := HZ.out.1; have h4 : N.keys.length ≤ N.wz := by { cases N; simp only [RT.wz, RT.keys]; omega }; omega) (S := 3000) (by have h1 := HZ.out.1; have h2 := HZ.out.2; omega))
          go_upto_region 18 with (first
            | (at_builtin; refine list_append_run rfl _ _ 24 rfl _ _ rfl rfl (HM.out _) ?_
               rintro v4 w4 ⟨o7, c7, rfl, ⟨u7, y3⟩, y5, hE⟩
               have HE := Lib.hid hE
               clear hE x0 x1 x2 x3 x4 x5)
            | fail)
          generalize w4.setCell ⟨nb, no + 3, none⟩ (.slice o7 (N.keys.length + 1) c7) = w5 at *
          clear y3 y5
          obtain ⟨hds, R, kr, dr, FR, hcB, hlR, hfR, hnB, hsR⟩ := HE.out
          obtain ⟨⟨o5, q5, rfl⟩, ⟨o6, q6, rfl⟩⟩ := hlR.slices
          obtain ⟨b0, b1, b2, b3, b4⟩ := kid_cells (o := 0) (fun j hj => by rw [Nat.zero_add]; exact hcB j hj) (Below.refl _ _)
          obtain ⟨z0, z1, z2, z3, z4, z5⟩ := five hds.res
          have HF := Lib.hid (And.intro (hds.fin HC.out hlR (hfR.earlier (Nat.le_of_lt HW.out)) (fun hx => by have := hfR.old _ hx; have := HW.out; omega)) hsR)
          clear hds hcB hlR hfR hnB hsR HE
          go_wp2
          exact bodyPost_ret (ret_node Tryz.results25 rfl HF.out.1.1) rfl ⟨_, _, _, _, rfl, HF.out.1.2.1, HF.out.1.2.2.1, HF.out.1.2.2.2.1, HF.out.1.2.2.2.2, HF.out.2⟩
        · go_upto_region 17 with fail
          have HS := Lib.hid (H3.out.next (below_drewN (Below.refl _ w3) 1))
          have x4a : (w3.alloc (.cells #[.int .i64 0, .int .i64 0, .string ⟨#[]⟩, .slice none 0 0, .slice none 0 0] 27)).cell? ⟨nb, no + 4, none⟩ = some (.slice o4 N.kids.length q4) := (H3.out.next ((Below.refl _ w3).alloc (Nat.le_refl _) (.cells #[.int .i64 0, .int .i64 0, .string ⟨#[]⟩, .slice none 0 0, .slice none 0 0] 27))).five.2.2.2.2
          have HM := Lib.hid (HS.out.leaf HC.out (by have h1 := HZ.out.1; have h4 : N.kids.length ≤ N.wz := by { cases N; simp only [RT.wz, RT.kids]; omega }; omega) (S := 3000) (by have h1 := HZ.out.1; have h2 := HZ.out.2; omega))
          go_region_law (first
            | (refine step_append_run (by rfl) _ _ 25 (by rfl) (.slice o4 N.kids.length q4) (.slice (some ⟨w3.heap.size, 0, none⟩) 1 1) (by rfl) (by rfl) (HM.out _) ?_
               rintro v4 w4 ⟨b7, off7, c7, rfl, hc1, hc2, hne, hfz, ⟨u0, u1, u2, u3, u4, c0, c1, c2, c3, c4⟩, ⟨u7, y4⟩, y5, hE⟩
               have HE : Hid (Healed w w0 ((((((w4.setCell ⟨b7, off7 + N.kids.length * 5, none⟩ (.int .i64 0)).setCell ⟨b7, off7 + N.kids.length * 5 + 1, none⟩ (.int .i64 0)).setCell ⟨b7, off7 + N.kids.length * 5 + 2, none⟩ (.string ⟨#[]⟩)).setCell ⟨b7, off7 + N.kids.length * 5 + 3, none⟩ (.slice none 0 0)).setCell ⟨b7, off7 + N.kids.length * 5 + 4, none⟩ (.slice none 0 0)).setCell ⟨nb, no + 4, none⟩ (.slice (some ⟨b7, off7, none⟩) (N.kids.length + 1) c7)) p a len cap B 3000) := hE
               have HE2 : Hid (Healed w w0 ((((((w4.setCell ⟨nb, no + 4, none⟩ (.slice (some ⟨b7, off7, none⟩) (N.kids.length + 1) c7)).setCell ⟨b7, off7 + N.kids.length * 5, none⟩ (.int .i64 0)).setCell ⟨b7, off7 + N.kids.length * 5 + 1, none⟩ (.int .i64 0)).setCell ⟨b7, off7 + N.kids.length * 5 + 2, none⟩ (.string ⟨#[]⟩)).setCell ⟨b7, off7 + N.kids.length * 5 + 3, none⟩ (.slice none 0 0)).setCell ⟨b7, off7 + N.kids.length * 5 + 4, none⟩ (.slice none 0 0)) p a len cap B 3000) := by
                 have e := set5_swap w4 hne (off7 + N.kids.length * 5) (no + 4) (.int .i64 0) (.int .i64 0) (.string ⟨#[]⟩) (.slice none 0 0) (.slice none 0 0) (.slice (some ⟨b7, off7, none⟩) (N.kids.length + 1) c7)
                 have hE' : Healed w w0 (set5 (w4.setCell ⟨nb, no + 4, none⟩ (.slice (some ⟨b7, off7, none⟩) (N.kids.length + 1) c7)) b7 (off7 + N.kids.length * 5) (.int .i64 0) (.int .i64 0) (.string ⟨#[]⟩) (.slice none 0 0) (.slice none 0 0)) p a len cap B 3000 := by rw [e]; exact hE
                 exact hE'
               have hne2 : ¬ (nb = b7) := fun e => hne e.symm
               have hlt7 : (N.kids.length : Int) < (N.kids.length : Int) + 1 := by omega
               clear hE)
            | fail)
          · go_upto_region 18 with fail
            generalize (((((w4.setCell ⟨b7, off7 + N.kids.length * 5, none⟩ (.int .i64 0)).setCell ⟨b7, off7 + N.kids.length * 5 + 1, none⟩ (.int .i64 0)).setCell ⟨b7, off7 + N.kids.length * 5 + 2, none⟩ (.string ⟨#[]⟩)).setCell ⟨b7, off7 + N.kids.length * 5 + 3, none⟩ (.slice none 0 0)).setCell ⟨b7, off7 + N.kids.length * 5 + 4, none⟩ (.slice none 0 0)).setCell ⟨nb, no + 4, none⟩ (.slice (some ⟨b7, off7, none⟩) (N.kids.length + 1) c7) = w5 at *
            clear HE2
            clear x0 x1 x2 x3 x4 x5 x4a c0 c1 c2 c3 c4 y4 y5
            obtain ⟨hds, R, kr, dr, FR, hcB, hlR, hfR, hnB, hsR⟩ := HE.out
            obtain ⟨⟨o5, q5, rfl⟩, ⟨o6, q6, rfl⟩⟩ := hlR.slices
            obtain ⟨b0, b1, b2, b3, b4⟩ := kid_cells (o := 0) (fun j hj => by rw [Nat.zero_add]; exact hcB j hj) (Below.refl _ _)
            obtain ⟨z0, z1, z2, z3, z4, z5⟩ := five hds.res
            have HF := Lib.hid (And.intro (hds.fin HC.out hlR (hfR.earlier (Nat.le_of_lt HW.out)) (fun hx => by have := hfR.old _ hx; have := HW.out; omega)) hsR)
            clear hds hcB hlR hfR hnB hsR HE
            go_wp2
            exact bodyPost_ret (ret_node Tryz.results25 rfl HF.out.1.1) rfl ⟨_, _, _, _, rfl, HF.out.1.2.1, HF.out.1.2.2.1, HF.out.1.2.2.2.1, HF.out.1.2.2.2.2, HF.out.2⟩
          · go_upto_region 18 with fail
            generalize (((((w4.setCell ⟨nb, no + 4, none⟩ (.slice (some ⟨b7, off7, none⟩) (N.kids.length + 1) c7)).setCell ⟨b7, off7 + N.kids.length * 5, none⟩ (.int .i64 0)).setCell ⟨b7, off7 + N.kids.length * 5 + 1, none⟩ (.int .i64 0)).setCell ⟨b7, off7 + N.kids.length * 5 + 2, none⟩ (.string ⟨#[]⟩)).setCell ⟨b7, off7 + N.kids.length * 5 + 3, none⟩ (.slice none 0 0)).setCell ⟨b7, off7 + N.kids.length * 5 + 4, none⟩ (.slice none 0 0) = w5 at *
            replace HE := HE2; clear HE2
            clear x0 x1 x2 x3 x4 x5 x4a c0 c1 c2 c3 c4 y4 y5
            obtain ⟨hds, R, kr, dr, FR, hcB, hlR, hfR, hnB, hsR⟩ := HE.out
            obtain ⟨⟨o5, q5, rfl⟩, ⟨o6, q6, rfl⟩⟩ := hlR.slices
            obtain ⟨b0, b1, b2, b3, b4⟩ := kid_cells (o := 0) (fun j hj => by rw [Nat.zero_add]; exact hcB j hj) (Below.refl _ _)
            obtain ⟨z0, z1, z2, z3, z4, z5⟩ := five hds.res
            have HF := Lib.hid (And.intro (hds.fin HC.out hlR (hfR.earlier (Nat.le_of_lt HW.out)) (fun hx => by have := hfR.old _ hx; have := HW.out; omega)) hsR)
            clear hds hcB hlR hfR hnB hsR HE
            go_wp2
            exact bodyPost_ret (ret_node Tryz.results25 rfl HF.out.1.1) rfl ⟨_, _, _, _, rfl, HF.out.1.2.1, HF.out.1.2.2.1, HF.out.1.2.2.2.1, HF.out.1.2.2.2.2, HF.out.2⟩
          · go_upto_region 18 with fail
            generalize (((((w4.setCell ⟨b7, off7 + N.kids.length * 5, none⟩ (.int .i64 0)).setCell ⟨b7, off7 + N.kids.length * 5 + 1, none⟩ (.int .i64 0)).setCell ⟨b7, off7 + N.kids.length * 5 + 2, none⟩ (.string ⟨#[]⟩)).setCell ⟨b7, off7 + N.kids.length * 5 + 3, none⟩ (.slice none 0 0)).setCell ⟨b7, off7 + N.kids.length * 5 + 4, none⟩ (.slice none 0 0)).setCell ⟨nb, no + 4, none⟩ (.slice (some ⟨b7, off7, none⟩) (N.kids.length + 1) c7) = w5 at *
            clear HE2
            clear x0 x1 x2 x3 x4 x5 x4a c0 c1 c2 c3 c4 y4 y5
            obtain ⟨hds, R, kr, dr, FR, hcB, hlR, hfR, hnB, hsR⟩ := HE.out
            obtain ⟨⟨o5, q5, rfl⟩, ⟨o6, q6, rfl⟩⟩ := hlR.slices
            obtain ⟨b0, b1, b2, b3, b4⟩ := kid_cells (o := 0) (fun j hj => by rw [Nat.zero_add]; exact hcB j hj) (Below.refl _ _)
            obtain ⟨z0, z1, z2, z3, z4, z5⟩ := five hds.res
            have HF := Lib.hid (And.intro (hds.fin HC.out hlR (hfR.earlier (Nat.le_of_lt HW.out)) (fun hx => by have := hfR.old _ hx; have := HW.out; omega)) hsR)
            clear hds hcB hlR hfR hnB hsR HE
            go_wp2
            exact bodyPost_ret (ret_node Tryz.results25 rfl HF.out.1.1) rfl ⟨_, _, _, _, rfl, HF.out.1.2.1, HF.out.1.2.2.1, HF.out.1.2.2.2.1, HF.out.1.2.2.2.2, HF.out.2⟩
          · go_upto_region 18 with fail
            generalize (((((w4.setCell ⟨nb, no + 4, none⟩ (.slice (some ⟨b7, off7, none⟩) (N.kids.length + 1) c7)).setCell ⟨b7, off7 + N.kids.length * 5, none⟩ (.int .i64 0)).setCell ⟨b7, off7 + N.kids.length * 5 + 1, none⟩ (.int .i64 0)).setCell ⟨b7, off7 + N.kids.length * 5 + 2, none⟩ (.string ⟨#[]⟩)).setCell ⟨b7, off7 + N.kids.length * 5 + 3, none⟩ (.slice none 0 0)).setCell ⟨b7, off7 + N.kids.length * 5 + 4, none⟩ (.slice none 0 0) = w5 at *
            replace HE := HE2; clear HE2
            clear x0 x1 x2 x3 x4 x5 x4a c0 c1 c2 c3 c4 y4 y5
            obtain ⟨hds, R, kr, dr, FR, hcB, hlR, hfR, hnB, hsR⟩ := HE.out
            obtain ⟨⟨o5, q5, rfl⟩, ⟨o6, q6, rfl⟩⟩ := hlR.slices
            obtain ⟨b0, b1, b2, b3, b4⟩ := kid_cells (o := 0) (fun j hj => by rw [Nat.zero_add]; exact hcB j hj) (Below.refl _ _)
            obtain ⟨z0, z1, z2, z3, z4, z5⟩ := five hds.res
            have HF := Lib.hid (And.intro (hds.fin HC.out hlR (hfR.earlier (Nat.le_of_lt HW.out)) (fun hx => by have := hfR.old _ hx; have := HW.out; omega)) hsR)
            clear hds hcB hlR hfR hnB hsR HE
            go_wp2
            exact bodyPost_ret (ret_node Tryz.results25 rfl HF.out.1.1) rfl ⟨_, _, _, _, rfl, HF.out.1.2.1, HF.out.1.2.2.1, HF.out.1.2.2.2.1, HF.out.1.2.2.2.2, HF.out.2⟩
        · have HE := Lib.hid (H3.out.stop HC.out (S := 3000) (by have h1 := HZ.out.1; have h2 := HZ.out.2; omega))
          have n0 : ¬ ((r : Int) = 0) := by omega
          have n1 : ¬ ((r : Int) = 1) := by omega
          have n2 : ¬ ((r : Int) = 2) := by omega
          have n3 : ¬ ((r : Int) = 3) := by omega
          have n4 : ¬ ((r : Int) = 4) := by omega
          go_upto_region 18 with fail
          clear x0 x1 x2 x3 x4 x5
          obtain ⟨hds, R, kr, dr, FR, hcB, hlR, hfR, hnB, hsR⟩ := HE.out
          obtain ⟨⟨o5, q5, rfl⟩, ⟨o6, q6, rfl⟩⟩ := hlR.slices
          obtain ⟨b0, b1, b2, b3, b4⟩ := kid_cells (o := 0) (fun j hj => by rw [Nat.zero_add]; exact hcB j hj) (Below.refl _ _)
          obtain ⟨z0, z1, z2, z3, z4, z5⟩ := five hds.res
          have HF := Lib.hid (And.intro (hds.fin HC.out hlR (hfR.earlier (Nat.le_of_lt HW.out)) (fun hx => by have := hfR.old _ hx; have := HW.out; omega)) hsR)
          clear hds hcB hlR hfR hnB hsR HE
          go_wp2
          exact bodyPost_ret (ret_node Tryz.results25 rfl HF.out.1.1) rfl ⟨_, _, _, _, rfl, HF.out.1.2.1, HF.out.1.2.2.1, HF.out.1.2.2.2.1, HF.out.1.2.2.2.2, HF.out.2⟩
      · obtain ⟨hlt, hk⟩ := hb rfl
        clear hb
        obtain ⟨b, off, c, rfl, hc1, hc2, -⟩ := hh.out.down hk
        obtain ⟨⟨o3, q3, rfl⟩, -⟩ := hh.out.lie.slices
        obtain ⟨x0, x1, x2, x3, x4⟩ := hh.out.five
        have HBel : Hid (∀ W, Cur W p a len cap → Calls Tryz.prog 24 #[.pointer (some ⟨p, 0, none⟩), .int .i64 N.kids.length] W fun e w' => ∃ v, e = .returned v ∧ ∃ i : Nat, v = .int .i64 i ∧ i < N.kids.length ∧ Cur w' p a len cap ∧ W.grownBy w' (some p)) := fun W hW => by
          have h1 := HZ.out.1
          have h4 : N.kids.length ≤ N.wz := by cases N; simp only [RT.wz, RT.kids]; omega
          exact below_all _ hk (by omega) a len cap p W hW
        go_upto_region 6 with fail
        have HS := Lib.hid (hh.out.next (below_drewN (Below.refl _ wc) 1))
        go_region_law (first
          | (refine step_calls (by rfl) 24 _ _ (by rfl) #[.pointer (some ⟨p, 0, none⟩), .int .i64 N.kids.length] (by simp [Act.eval, Act.put]) (by intros; simp [go_sem]) (fun _ _ => rfl) (HBel.out _ HS.out.ds.cur) ?_
             rintro u w5 ⟨i, rfl, hi, hc5, hg5⟩
             have H5 := Lib.hid (HS.out.draw hp.out hc5 hg5)
             obtain ⟨xx0, xx1, xx2, xx3, xx4⟩ := H5.out.five
             have hi0 : (i : Int) < (N.kids.length : Int) := by omega
             clear hc5 hg5)
          | fail)
        all_goals
          go_wp2
          go_roundw
          case rel =>
            obtain ⟨kx, dx, FX, hx⟩ := H5.out.kid hi
            exact ⟨j + 1, b, off + i * 5, M + (N.wz - N.kids[i].wz), N.kids[i], kx, dx, FX, by omega, rfl, by go_num, hx, by have h1 := kid_wz N i hi; have h2 := HZ.out.2; omega⟩
          case measure => simp [intOf]; omega

end Go.Proofs.YtelpkcbbipianaaGreat
