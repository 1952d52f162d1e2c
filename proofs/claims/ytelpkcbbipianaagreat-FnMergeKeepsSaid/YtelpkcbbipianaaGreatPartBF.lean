/-
  What is proved: the law FnMergeKeeps returns true at every code, given that the program's Merge is as it shall be.; the law FnMergeKeeps returns true at every argument, and each argument reads behind the call as it did; no condition.
-/
import Derived.Test.YtelpkcbbipianaaGreatPartBA
import Derived.Test.YtelpkcbbipianaaGreatPartBE
import Derived.Deep.CutRange
import Derived.Deep.RegionHeld3
import Derived.Test.YtelpkcbbipianaaGreatPartAA
import Derived.Test.YtelpkcbbipianaaGreatRows
import Derived.ProofKit
import Derived.OpenShut
import Derived.Carry
import Derived.Deep.Strs
import Derived.ChangeMaps5
import Derived.WalkKit
/- the law FnMergeKeeps returns true at every code, given that the program's Merge is as it shall be. -/
namespace Go.Proofs.YtelpkcbbipianaaGreat
open Go Go.RowKit

set_option maxRecDepth 100000 in
set_option maxHeartbeats 1000000 in
theorem mk_walk (HM : Hid MergeIs) (a : Option Addr) (len cap : Nat) (w : World) (hcode : CodeAt w a len) :
    Calls Tryz.prog 3 #[.slice a len cap] w fun e w' => e = .returned (.bool true) ∧ Below w.heap.size w w' := by
  have hs : ¬ (1048576 : Int) < len := by have := hcode.1; omega
  have HC := Lib.hid hcode
  clear hcode
  go_enter Tryz.func3, Tryz.ntmps3
  go_wp2_with fail
  refine (mk_big a len cap (by omega) w).mono ?_
  rintro e w0 ⟨rfl, e0⟩
  subst w0
  go_wp2_with fail
  refine (drawMerge_any a len cap _ HC.out).mono ?_
  rintro e w1 ⟨A, B, C, kA, dA, kB, dB, kC, dC, FA, FB, FC, rfl, lA, lB, lC, hz, hb1, -⟩
  obtain ⟨⟨o1, q1, rfl⟩, ⟨o2, q2, rfl⟩⟩ := lA.slices
  obtain ⟨⟨o3, q3, rfl⟩, ⟨o4, q4, rfl⟩⟩ := lB.slices
  obtain ⟨⟨o5, q5, rfl⟩, ⟨o6, q6, rfl⟩⟩ := lC.slices
  have h1 : NB w w1 [] := ⟨hb1, fun x hx => absurd hx (by simp)⟩
  have h2 := h1.add lA
  have b2 := (Below.refl _ w1).alloc (Nat.le_refl _) (.cells #[.int .i64 A.k, .int .i64 A.n, .string A.s, .slice o1 A.keys.length q1, .slice o2 A.kids.length q2] 27)
  have h3 := h2.add (lB.stay b2 (Nat.le_refl _))
  have b3 := b2.alloc (by simp) (.cells #[.int .i64 B.k, .int .i64 B.n, .string B.s, .slice o3 B.keys.length q3, .slice o4 B.kids.length q4] 27)
  have h4 := h3.add (lC.stay b3 (Nat.le_refl _))
  have HX := Lib.hid h4
  have HZ := Lib.hid hz
  have e1 : (w1.alloc (.cells #[.int .i64 A.k, .int .i64 A.n, .string A.s, .slice o1 A.keys.length q1, .slice o2 A.kids.length q2] 27)).heap.size = w1.heap.size + 1 := by simp
  have e2 : ((w1.alloc (.cells #[.int .i64 A.k, .int .i64 A.n, .string A.s, .slice o1 A.keys.length q1, .slice o2 A.kids.length q2] 27)).alloc (.cells #[.int .i64 B.k, .int .i64 B.n, .string B.s, .slice o3 B.keys.length q3, .slice o4 B.kids.length q4] 27)).heap.size = w1.heap.size + 1 + 1 := by simp
  rw [e2, e1] at HX
  clear h1 h2 h3 h4 b2 b3 lA lB lC hz hb1 e1 e2 HC
  have HA := Lib.hid (fun (wr : World) (h : NB w wr [(w1.heap.size + 1 + 1, C, .slice o5 C.keys.length q5, .slice o6 C.kids.length q6, FC), (w1.heap.size + 1, B, .slice o3 B.keys.length q3, .slice o4 B.kids.length q4, FB), (w1.heap.size, A, .slice o1 A.keys.length q1, .slice o2 A.kids.length q2, FA)]) => impl_treeOk A wr _ _ _ (h.box (w1.heap.size, A, .slice o1 A.keys.length q1, .slice o2 A.kids.length q2, FA) (by simp)).2)
  have HB := Lib.hid (fun (wr : World) (h : NB w wr [(w1.heap.size + 1 + 1, C, .slice o5 C.keys.length q5, .slice o6 C.kids.length q6, FC), (w1.heap.size + 1, B, .slice o3 B.keys.length q3, .slice o4 B.kids.length q4, FB), (w1.heap.size, A, .slice o1 A.keys.length q1, .slice o2 A.kids.length q2, FA)]) => impl_treeOk B wr _ _ _ (h.box (w1.heap.size + 1, B, .slice o3 B.keys.length q3, .slice o4 B.kids.length q4, FB) (by simp)).2)
  have HC := Lib.hid (fun (wr : World) (h : NB w wr [(w1.heap.size + 1 + 1, C, .slice o5 C.keys.length q5, .slice o6 C.kids.length q6, FC), (w1.heap.size + 1, B, .slice o3 B.keys.length q3, .slice o4 B.kids.length q4, FB), (w1.heap.size, A, .slice o1 A.keys.length q1, .slice o2 A.kids.length q2, FA)]) => impl_treeOk C wr _ _ _ (h.box (w1.heap.size + 1 + 1, C, .slice o5 C.keys.length q5, .slice o6 C.kids.length q6, FC) (by simp)).2)
  have HS := Lib.hid (fun (wr : World) (h : NB w wr [(w1.heap.size + 1 + 1, C, .slice o5 C.keys.length q5, .slice o6 C.kids.length q6, FC), (w1.heap.size + 1, B, .slice o3 B.keys.length q3, .slice o4 B.kids.length q4, FB), (w1.heap.size, A, .slice o1 A.keys.length q1, .slice o2 A.kids.length q2, FA)]) => spec_treeOk A wr _ _ _ (h.box (w1.heap.size, A, .slice o1 A.keys.length q1, .slice o2 A.kids.length q2, FA) (by simp)).2 (Nat.le_trans HZ.out (by decide)))
  obtain ⟨x0, x1, x2, x3, x4, -⟩ := five (HX.out.box (w1.heap.size, A, .slice o1 A.keys.length q1, .slice o2 A.kids.length q2, FA) (by simp)).1
  obtain ⟨y0, y1, y2, y3, y4, -⟩ := five (HX.out.box (w1.heap.size + 1, B, .slice o3 B.keys.length q3, .slice o4 B.kids.length q4, FB) (by simp)).1
  obtain ⟨z0, z1, z2, z3, z4, -⟩ := five (HX.out.box (w1.heap.size + 1 + 1, C, .slice o5 C.keys.length q5, .slice o6 C.kids.length q6, FC) (by simp)).1
  go_upto_region 4 with fail
  go_cut [55] from 20 to 55 (fun c wc => ∃ bad : Bool, c = .bool bad ∧ Hid (NB w wc [(w1.heap.size + 1 + 1, C, .slice o5 C.keys.length q5, .slice o6 C.kids.length q6, FC), (w1.heap.size + 1, B, .slice o3 B.keys.length q3, .slice o4 B.kids.length q4, FB), (w1.heap.size, A, .slice o1 A.keys.length q1, .slice o2 A.kids.length q2, FA)]) ∧ (bad = false → treeOk A = true ∧ treeOk B = true ∧ treeOk C = true ∧ A.k = 5 ∧ B.k = 5 ∧ C.k = 5))
  case first =>
    by_cases n1 : ¬ A.k = 5
    · go_wp2_with fail
      go_meet
      exact ⟨_, rfl, HX, fun h => by cases h⟩
    replace n1 := Decidable.not_not.1 n1
    by_cases n2 : ¬ B.k = 5
    · rw [n1] at HX
      go_wp2_with fail
      go_meet
      exact ⟨_, rfl, HX, fun h => by cases h⟩
    replace n2 := Decidable.not_not.1 n2
    by_cases n3 : ¬ C.k = 5
    · rw [n1, n2] at HX
      go_wp2_with fail
      go_meet
      exact ⟨_, rfl, HX, fun h => by cases h⟩
    replace n3 := Decidable.not_not.1 n3
    rw [n1] at HA
    rw [n2] at HB
    rw [n3] at HC
    rw [n1, n2, n3] at HX
    have h4 : treeOk A = false ∨ (treeOk A = true ∧ treeOk B = false) ∨ (treeOk A = true ∧ treeOk B = true ∧ treeOk C = false) ∨ (treeOk A = true ∧ treeOk B = true ∧ treeOk C = true) := by
      cases treeOk A <;> cases treeOk B <;> cases treeOk C <;> simp
    rcases h4 with hA | ⟨hA, hB⟩ | ⟨hA, hB, hC⟩ | ⟨hA, hB, hC⟩
    all_goals
      try rw [hA] at HA
      try rw [hB] at HB
      try rw [hC] at HC
      go_wp2_with (first
        | (go_at_call_of 6 A; refine (HA.out _ HX.out).mono ?_; rintro e w2 ⟨rfl, hb2⟩; replace HX := Lib.hid (HX.out.next hb2); clear x0 x1 x2 x3 x4 y0 y1 y2 y3 y4 z0 z1 z2 z3 z4; obtain ⟨x0, x1, x2, x3, x4, -⟩ := five (HX.out.box (w1.heap.size, A, .slice o1 A.keys.length q1, .slice o2 A.kids.length q2, FA) (by simp)).1; obtain ⟨y0, y1, y2, y3, y4, -⟩ := five (HX.out.box (w1.heap.size + 1, B, .slice o3 B.keys.length q3, .slice o4 B.kids.length q4, FB) (by simp)).1; obtain ⟨z0, z1, z2, z3, z4, -⟩ := five (HX.out.box (w1.heap.size + 1 + 1, C, .slice o5 C.keys.length q5, .slice o6 C.kids.length q6, FC) (by simp)).1; clear hb2)
        | (go_at_call_of 6 B; refine (HB.out _ HX.out).mono ?_; rintro e w2 ⟨rfl, hb2⟩; replace HX := Lib.hid (HX.out.next hb2); clear x0 x1 x2 x3 x4 y0 y1 y2 y3 y4 z0 z1 z2 z3 z4; obtain ⟨x0, x1, x2, x3, x4, -⟩ := five (HX.out.box (w1.heap.size, A, .slice o1 A.keys.length q1, .slice o2 A.kids.length q2, FA) (by simp)).1; obtain ⟨y0, y1, y2, y3, y4, -⟩ := five (HX.out.box (w1.heap.size + 1, B, .slice o3 B.keys.length q3, .slice o4 B.kids.length q4, FB) (by simp)).1; obtain ⟨z0, z1, z2, z3, z4, -⟩ := five (HX.out.box (w1.heap.size + 1 + 1, C, .slice o5 C.keys.length q5, .slice o6 C.kids.length q6, FC) (by simp)).1; clear hb2)
        | (go_at_call_of 6 C; refine (HC.out _ HX.out).mono ?_; rintro e w2 ⟨rfl, hb2⟩; replace HX := Lib.hid (HX.out.next hb2); clear x0 x1 x2 x3 x4 y0 y1 y2 y3 y4 z0 z1 z2 z3 z4; obtain ⟨x0, x1, x2, x3, x4, -⟩ := five (HX.out.box (w1.heap.size, A, .slice o1 A.keys.length q1, .slice o2 A.kids.length q2, FA) (by simp)).1; obtain ⟨y0, y1, y2, y3, y4, -⟩ := five (HX.out.box (w1.heap.size + 1, B, .slice o3 B.keys.length q3, .slice o4 B.kids.length q4, FB) (by simp)).1; obtain ⟨z0, z1, z2, z3, z4, -⟩ := five (HX.out.box (w1.heap.size + 1 + 1, C, .slice o5 C.keys.length q5, .slice o6 C.kids.length q6, FC) (by simp)).1; clear hb2)
        | fail)
      go_meet
      exact ⟨_, rfl, HX, fun h => by first | exact ⟨hA, hB, hC, n1, n2, n3⟩ | cases h⟩
  case rest =>
    clear HX x0 x1 x2 x3 x4 y0 y1 y2 y3 y4 z0 z1 z2 z3 z4
    obtain ⟨bad, rfl, HX, hgood⟩ := hcut
    generalize w1.heap.size = b at *
    clear w1
    obtain ⟨x0, x1, x2, x3, x4, -⟩ := five (HX.out.box (b, A, .slice o1 A.keys.length q1, .slice o2 A.kids.length q2, FA) (by simp)).1
    obtain ⟨y0, y1, y2, y3, y4, -⟩ := five (HX.out.box (b + 1, B, .slice o3 B.keys.length q3, .slice o4 B.kids.length q4, FB) (by simp)).1
    obtain ⟨z0, z1, z2, z3, z4, -⟩ := five (HX.out.box (b + 1 + 1, C, .slice o5 C.keys.length q5, .slice o6 C.kids.length q6, FC) (by simp)).1
    cases bad
    case true =>
      clear hgood HB HC HM
      generalize treeOk A = tA at HA HS
      cases tA
      all_goals
        go_wp2_with fail
        have HXd := Lib.hid (HX.out.next (below_drewN (Below.refl _ _) 1))
        go_region_held3 (fun w' => w'.cell? ⟨b, 0, none⟩ = some (.int .i64 A.k) ∧ w'.cell? ⟨b, 1, none⟩ = some (.int .i64 A.n) ∧ w'.cell? ⟨b, 2, none⟩ = some (.string A.s) ∧ w'.cell? ⟨b, 3, none⟩ = some (.slice o1 A.keys.length q1) ∧ w'.cell? ⟨b, 4, none⟩ = some (.slice o2 A.kids.length q2)) (go_keep)
          (first
            | (go_at_call 6; refine (HA.out _ HXd.out).mono ?_; rintro e w6 ⟨rfl, hb6⟩; have HX6 := Lib.hid (HXd.out.next hb6); obtain ⟨p0, p1, p2, p3, p4, -⟩ := five (HX6.out.box (b, A, .slice o1 A.keys.length q1, .slice o2 A.kids.length q2, FA) (by simp)).1; clear hb6)
            | (go_at_call 7; refine (HS.out _ HX6.out).mono ?_; rintro e w7 ⟨rfl, hb7⟩; have HX7 := Lib.hid (HX6.out.next hb7); obtain ⟨r0, r1, r2, r3, r4, -⟩ := five (HX7.out.box (b, A, .slice o1 A.keys.length q1, .slice o2 A.kids.length q2, FA) (by simp)).1; clear hb7))
        go_wp2
        go_ret
        exact ⟨rfl, HX7.out.below⟩
    case false =>
      have HOk := Lib.hid (hgood rfl)
      clear hgood
      have HMg := Lib.hid (fun (wr : World) (h : NB w wr [(b + 1 + 1, C, .slice o5 C.keys.length q5, .slice o6 C.kids.length q6, FC), (b + 1, B, .slice o3 B.keys.length q3, .slice o4 B.kids.length q4, FB), (b, A, .slice o1 A.keys.length q1, .slice o2 A.kids.length q2, FA)]) => HM.out A B C wr _ _ _ _ _ _ _ _ _ (h.box (b, A, .slice o1 A.keys.length q1, .slice o2 A.kids.length q2, FA) (by simp)).2 (h.box (b + 1, B, .slice o3 B.keys.length q3, .slice o4 B.kids.length q4, FB) (by simp)).2 (h.box (b + 1 + 1, C, .slice o5 C.keys.length q5, .slice o6 C.kids.length q6, FC) (by simp)).2 HOk.out.1 HOk.out.2.1 HOk.out.2.2.1 HOk.out.2.2.2.1 HOk.out.2.2.2.2.1 HOk.out.2.2.2.2.2)
      go_wp2_with fail
      refine (HMg.out _ HX.out).mono ?_
      rintro e w3 ⟨M, kM, dM, FM, oW, nW, cW, rfl, hlM, hb3, hK, hzM⟩
      obtain ⟨⟨o7, q7, rfl⟩, ⟨o8, q8, rfl⟩⟩ := hlM.slices
      have HX3 := Lib.hid ((HX.out.next hb3).add hlM)
      have HKM := Lib.hid (And.intro hK hzM)
      clear hlM hb3 hK hzM HX HA HB HC HS HMg HM x0 x1 x2 x3 x4 y0 y1 y2 y3 y4 z0 z1 z2 z3 z4
      go_wp2
      generalize hb' : w3.heap.size = b3 at *
      have HGA := Lib.hid (fun (key : ByteArray) (wr : World) (hl : Lies wr A (.slice o1 A.keys.length q1) (.slice o2 A.kids.length q2) FA) => get_at A (ok_map HOk.out.1 HOk.out.2.2.2.1) (Nat.le_trans (ok_sz HOk.out.1) (by decide)) key wr _ _ _ hl)
      have HGB := Lib.hid (fun (key : ByteArray) (wr : World) (hl : Lies wr B (.slice o3 B.keys.length q3) (.slice o4 B.kids.length q4) FB) => get_at B (ok_map HOk.out.2.1 HOk.out.2.2.2.2.1) (Nat.le_trans (ok_sz HOk.out.2.1) (by decide)) key wr _ _ _ hl)
      have HGC := Lib.hid (fun (key : ByteArray) (wr : World) (hl : Lies wr C (.slice o5 C.keys.length q5) (.slice o6 C.kids.length q6) FC) => get_at C (ok_map HOk.out.2.2.1 HOk.out.2.2.2.2.2) (Nat.le_trans (ok_sz HOk.out.2.2.1) (by decide)) key wr _ _ _ hl)
      have HGM := Lib.hid (fun (key : ByteArray) (wr : World) (hl : Lies wr M (.slice o7 M.keys.length q7) (.slice o8 M.kids.length q8) FM) => get_at M HKM.out.1.1 HKM.out.2 key wr _ _ _ hl)
      go_loopw [8] (fun i wr => ∃ j : Nat, j ≤ A.keys.length ∧ i = .int .i64 j ∧ Hid (NB w wr [(b3, M, .slice o7 M.keys.length q7, .slice o8 M.kids.length q8, FM), (b + 1 + 1, C, .slice o5 C.keys.length q5, .slice o6 C.kids.length q6, FC), (b + 1, B, .slice o3 B.keys.length q3, .slice o4 B.kids.length q4, FB), (b, A, .slice o1 A.keys.length q1, .slice o2 A.kids.length q2, FA)])) (fun i _ => A.keys.length - (intOf i).toNat)
      case atStart => exact ⟨0, Nat.zero_le _, rfl, HX3.out⟩
      case round =>
        obtain ⟨j, hj, rfl, hr⟩ := hrel
        obtain ⟨x0, x1, x2, x3, x4, -⟩ := five (hr.out.box (b, A, .slice o1 A.keys.length q1, .slice o2 A.kids.length q2, FA) (by simp)).1
        by_cases hlt : j < A.keys.length
        · obtain ⟨kb, kof, rfl, hc⟩ := key_cell (hr.out.box (b, A, .slice o1 A.keys.length q1, .slice o2 A.kids.length q2, FA) (by simp)).2 hlt
          go_wp2_with fail
          refine (HGA.out _ _ (hr.out.box (b, A, .slice (some ⟨kb, kof, none⟩) A.keys.length q1, .slice o2 A.kids.length q2, FA) (by simp)).2).mono ?_
          rintro e w5 ⟨X, okX, kX, dX, FX, rfl, hlX, hbX, hatX⟩
          obtain ⟨⟨pX1, rX1, rfl⟩, ⟨pX2, rX2, rfl⟩⟩ := hlX.slices
          have HX := Lib.hid ((hr.out.next hbX).add hlX)
          have TX := Lib.hid hatX
          clear hlX hbX hatX
          clear x0 x1 x2 x3 x4
          obtain ⟨x0, x1, x2, x3, x4, -⟩ := five (HX.out.box (b + 1, B, .slice o3 B.keys.length q3, .slice o4 B.kids.length q4, FB) (by simp)).1
          go_wp2_with fail
          refine (HGB.out _ _ (HX.out.box (b + 1, B, .slice o3 B.keys.length q3, .slice o4 B.kids.length q4, FB) (by simp)).2).mono ?_
          rintro e w6 ⟨Y, okY, kY, dY, FY, rfl, hlY, hbY, hatY⟩
          obtain ⟨⟨pY1, rY1, rfl⟩, ⟨pY2, rY2, rfl⟩⟩ := hlY.slices
          have HY := Lib.hid ((HX.out.next hbY).add hlY)
          have TY := Lib.hid hatY
          clear hlY hbY hatY
          clear x0 x1 x2 x3 x4
          obtain ⟨x0, x1, x2, x3, x4, -⟩ := five (HY.out.box (b + 1 + 1, C, .slice o5 C.keys.length q5, .slice o6 C.kids.length q6, FC) (by simp)).1
          go_wp2_with fail
          refine (HGC.out _ _ (HY.out.box (b + 1 + 1, C, .slice o5 C.keys.length q5, .slice o6 C.kids.length q6, FC) (by simp)).2).mono ?_
          rintro e w7 ⟨Z, okZ, kZ, dZ, FZ, rfl, hlZ, hbZ, hatZ⟩
          obtain ⟨⟨pZ1, rZ1, rfl⟩, ⟨pZ2, rZ2, rfl⟩⟩ := hlZ.slices
          have HZ := Lib.hid ((HY.out.next hbZ).add hlZ)
          have TZ := Lib.hid hatZ
          clear hlZ hbZ hatZ
          clear x0 x1 x2 x3 x4
          obtain ⟨x0, x1, x2, x3, x4, -⟩ := five (HZ.out.box (b3, M, .slice o7 M.keys.length q7, .slice o8 M.kids.length q8, FM) (by simp)).1
          go_wp2_with fail
          refine (HGM.out _ _ (HZ.out.box (b3, M, .slice o7 M.keys.length q7, .slice o8 M.kids.length q8, FM) (by simp)).2).mono ?_
          rintro e w8 ⟨G, okG, kG, dG, FG, rfl, hlG, hbG, hatG⟩
          obtain ⟨⟨pG1, rG1, rfl⟩, ⟨pG2, rG2, rfl⟩⟩ := hlG.slices
          have HG := Lib.hid ((HZ.out.next hbG).add hlG)
          have TG := Lib.hid hatG
          clear hlG hbG hatG
          clear x0 x1 x2 x3 x4
          obtain ⟨x0, x1, x2, x3, x4, -⟩ := five (HG.out.box (b3, M, .slice o7 M.keys.length q7, .slice o8 M.kids.length q8, FM) (by simp)).1
          have hAX : okX = true ∧ A.at A.keys[j] = some X := by
            obtain ⟨X', hX'⟩ := at_key (ok_map HOk.out.1 HOk.out.2.2.2.1) hlt
            have h := TX.out
            rw [hX'] at h
            cases okX
            · simp at h
            · exact ⟨rfl, by rw [hX']; simpa using h⟩
          obtain ⟨rfl, hat⟩ := hAX
          have hKp := HKM.out.1.2 _ _ hat (List.getElem_mem hlt)
          rw [TY.out, TZ.out, TG.out] at hKp
          have HKp := Lib.hid hKp
          have H8 := Lib.hid (HG.out.less (l' := [(w8.heap.size, G, .slice pG1 G.keys.length rG1, .slice pG2 G.kids.length rG2, FG), (w7.heap.size, Z, .slice pZ1 Z.keys.length rZ1, .slice pZ2 Z.kids.length rZ2, FZ), (w6.heap.size, Y, .slice pY1 Y.keys.length rY1, .slice pY2 Y.kids.length rY2, FY), (w5.heap.size, X, .slice pX1 X.keys.length rX1, .slice pX2 X.kids.length rX2, FX)]) (by intro x hx; simp only [List.mem_cons, List.not_mem_nil, or_false] at hx ⊢; rcases hx with rfl | rfl | rfl | rfl <;> simp))
          have H4 := Lib.hid (HG.out.less (l' := [(b3, M, .slice o7 M.keys.length q7, .slice o8 M.kids.length q8, FM), (b + 1 + 1, C, .slice o5 C.keys.length q5, .slice o6 C.kids.length q6, FC), (b + 1, B, .slice o3 B.keys.length q3, .slice o4 B.kids.length q4, FB), (b, A, .slice (some ⟨kb, kof, none⟩) A.keys.length q1, .slice o2 A.kids.length q2, FA)]) (by intro x hx; simp only [List.mem_cons, List.not_mem_nil, or_false] at hx ⊢; rcases hx with rfl | rfl | rfl | rfl <;> simp))
          clear hat hKp x0 x1 x2 x3 x4 HG HZ HY HX hc TX TY TZ TG
          have HYX := Lib.hid (fun (wr : World) (h : NB w wr [(w8.heap.size, G, .slice pG1 G.keys.length rG1, .slice pG2 G.kids.length rG2, FG), (w7.heap.size, Z, .slice pZ1 Z.keys.length rZ1, .slice pZ2 Z.kids.length rZ2, FZ), (w6.heap.size, Y, .slice pY1 Y.keys.length rY1, .slice pY2 Y.kids.length rY2, FY), (w5.heap.size, X, .slice pX1 X.keys.length rX1, .slice pX2 X.kids.length rX2, FX)]) => impl_same Y wr _ _ _ (h.box (w6.heap.size, Y, .slice pY1 Y.keys.length rY1, .slice pY2 Y.kids.length rY2, FY) (by simp)).2 X _ _ _ (h.box (w5.heap.size, X, .slice pX1 X.keys.length rX1, .slice pX2 X.kids.length rX2, FX) (by simp)).2)
          have HZX := Lib.hid (fun (wr : World) (h : NB w wr [(w8.heap.size, G, .slice pG1 G.keys.length rG1, .slice pG2 G.kids.length rG2, FG), (w7.heap.size, Z, .slice pZ1 Z.keys.length rZ1, .slice pZ2 Z.kids.length rZ2, FZ), (w6.heap.size, Y, .slice pY1 Y.keys.length rY1, .slice pY2 Y.kids.length rY2, FY), (w5.heap.size, X, .slice pX1 X.keys.length rX1, .slice pX2 X.kids.length rX2, FX)]) => impl_same Z wr _ _ _ (h.box (w7.heap.size, Z, .slice pZ1 Z.keys.length rZ1, .slice pZ2 Z.kids.length rZ2, FZ) (by simp)).2 X _ _ _ (h.box (w5.heap.size, X, .slice pX1 X.keys.length rX1, .slice pX2 X.kids.length rX2, FX) (by simp)).2)
          have HGX := Lib.hid (fun (wr : World) (h : NB w wr [(w8.heap.size, G, .slice pG1 G.keys.length rG1, .slice pG2 G.kids.length rG2, FG), (w7.heap.size, Z, .slice pZ1 Z.keys.length rZ1, .slice pZ2 Z.kids.length rZ2, FZ), (w6.heap.size, Y, .slice pY1 Y.keys.length rY1, .slice pY2 Y.kids.length rY2, FY), (w5.heap.size, X, .slice pX1 X.keys.length rX1, .slice pX2 X.kids.length rX2, FX)]) => impl_same G wr _ _ _ (h.box (w8.heap.size, G, .slice pG1 G.keys.length rG1, .slice pG2 G.kids.length rG2, FG) (by simp)).2 X _ _ _ (h.box (w5.heap.size, X, .slice pX1 X.keys.length rX1, .slice pX2 X.kids.length rX2, FX) (by simp)).2)
          have HGZ := Lib.hid (fun (wr : World) (h : NB w wr [(w8.heap.size, G, .slice pG1 G.keys.length rG1, .slice pG2 G.kids.length rG2, FG), (w7.heap.size, Z, .slice pZ1 Z.keys.length rZ1, .slice pZ2 Z.kids.length rZ2, FZ), (w6.heap.size, Y, .slice pY1 Y.keys.length rY1, .slice pY2 Y.kids.length rY2, FY), (w5.heap.size, X, .slice pX1 X.keys.length rX1, .slice pX2 X.kids.length rX2, FX)]) => impl_same G wr _ _ _ (h.box (w8.heap.size, G, .slice pG1 G.keys.length rG1, .slice pG2 G.kids.length rG2, FG) (by simp)).2 Z _ _ _ (h.box (w7.heap.size, Z, .slice pZ1 Z.keys.length rZ1, .slice pZ2 Z.kids.length rZ2, FZ) (by simp)).2)
          have HGY := Lib.hid (fun (wr : World) (h : NB w wr [(w8.heap.size, G, .slice pG1 G.keys.length rG1, .slice pG2 G.kids.length rG2, FG), (w7.heap.size, Z, .slice pZ1 Z.keys.length rZ1, .slice pZ2 Z.kids.length rZ2, FZ), (w6.heap.size, Y, .slice pY1 Y.keys.length rY1, .slice pY2 Y.kids.length rY2, FY), (w5.heap.size, X, .slice pX1 X.keys.length rX1, .slice pX2 X.kids.length rX2, FX)]) => impl_same G wr _ _ _ (h.box (w8.heap.size, G, .slice pG1 G.keys.length rG1, .slice pG2 G.kids.length rG2, FG) (by simp)).2 Y _ _ _ (h.box (w6.heap.size, Y, .slice pY1 Y.keys.length rY1, .slice pY2 Y.kids.length rY2, FY) (by simp)).2)
          obtain ⟨x0, x1, x2, x3, x4, -⟩ := five (H8.out.box (w5.heap.size, X, .slice pX1 X.keys.length rX1, .slice pX2 X.kids.length rX2, FX) (by simp)).1
          obtain ⟨y0, y1, y2, y3, y4, -⟩ := five (H8.out.box (w6.heap.size, Y, .slice pY1 Y.keys.length rY1, .slice pY2 Y.kids.length rY2, FY) (by simp)).1
          obtain ⟨z0, z1, z2, z3, z4, -⟩ := five (H8.out.box (w7.heap.size, Z, .slice pZ1 Z.keys.length rZ1, .slice pZ2 Z.kids.length rZ2, FZ) (by simp)).1
          obtain ⟨g0, g1, g2, g3, g4, -⟩ := five (H8.out.box (w8.heap.size, G, .slice pG1 G.keys.length rG1, .slice pG2 G.kids.length rG2, FG) (by simp)).1
          have hW := ways_b HKp.out
          clear HKp
          generalize same Y X = sYX at *
          generalize same Z X = sZX at *
          generalize same G X = sGX at *
          generalize same G Z = sGZ at *
          generalize same G Y = sGY at *
          have fin : ∀ wr : World, Hid (NB w wr [(b3, M, .slice o7 M.keys.length q7, .slice o8 M.kids.length q8, FM), (b + 1 + 1, C, .slice o5 C.keys.length q5, .slice o6 C.kids.length q6, FC), (b + 1, B, .slice o3 B.keys.length q3, .slice o4 B.kids.length q4, FB), (b, A, .slice (some ⟨kb, kof, none⟩) A.keys.length q1, .slice o2 A.kids.length q2, FA)]) → (∃ j_1 : Nat, j_1 ≤ A.keys.length ∧ Value.int .i64 (wrap64 ((j : Int) + 1)) = Value.int .i64 j_1 ∧ Hid (NB w wr [(b3, M, .slice o7 M.keys.length q7, .slice o8 M.kids.length q8, FM), (b + 1 + 1, C, .slice o5 C.keys.length q5, .slice o6 C.kids.length q6, FC), (b + 1, B, .slice o3 B.keys.length q3, .slice o4 B.kids.length q4, FB), (b, A, .slice (some ⟨kb, kof, none⟩) A.keys.length q1, .slice o2 A.kids.length q2, FA)])) ∧ A.keys.length - (intOf (Value.int .i64 (wrap64 ((j : Int) + 1)))).toNat < A.keys.length - (intOf (Value.int .i64 (j : Int))).toNat := fun wr h => by
            have hkl : A.keys.length ≤ 1000000 := by
              have h1 := HZ.out
              obtain ⟨k', n', s', keys', kids'⟩ := A
              simp only [RT.sz] at h1
              show keys'.length ≤ _
              omega
            have ew : wrap64 ((j : Int) + 1) = ((j + 1 : Nat) : Int) := by unfold wrap64; omega
            rw [ew]
            exact ⟨⟨j + 1, by omega, rfl, h⟩, by simp [intOf]; omega⟩
          have HFin := Lib.hid fin
          clear fin
          have h9 := ways9 hW
          clear hW
          rcases h9 with ⟨rfl, rfl⟩ | ⟨rfl, rfl, rfl⟩ | ⟨rfl, rfl, rfl, rfl⟩ | ⟨rfl, rfl, rfl⟩ | ⟨rfl, rfl, rfl, rfl⟩ | ⟨rfl, rfl, rfl, rfl⟩ | ⟨rfl, rfl, rfl, rfl, rfl, rfl⟩ | ⟨rfl, rfl, rfl, rfl, rfl, rfl⟩ | ⟨rfl, rfl, rfl, rfl, rfl, rfl⟩
          all_goals
            go_wp2_with (first
              | (go_at_call_of 10 Y; go_at_call_of 10 X; refine (HYX.out _ H8.out).mono ?_; rintro e w9 ⟨rfl, hb9⟩; replace H8 := Lib.hid (H8.out.next hb9); replace H4 := Lib.hid (H4.out.next hb9); clear hb9 x0 x1 x2 x3 x4 y0 y1 y2 y3 y4 z0 z1 z2 z3 z4 g0 g1 g2 g3 g4; obtain ⟨x0, x1, x2, x3, x4, -⟩ := five (H8.out.box (w5.heap.size, X, .slice pX1 X.keys.length rX1, .slice pX2 X.kids.length rX2, FX) (by simp)).1; obtain ⟨y0, y1, y2, y3, y4, -⟩ := five (H8.out.box (w6.heap.size, Y, .slice pY1 Y.keys.length rY1, .slice pY2 Y.kids.length rY2, FY) (by simp)).1; obtain ⟨z0, z1, z2, z3, z4, -⟩ := five (H8.out.box (w7.heap.size, Z, .slice pZ1 Z.keys.length rZ1, .slice pZ2 Z.kids.length rZ2, FZ) (by simp)).1; obtain ⟨g0, g1, g2, g3, g4, -⟩ := five (H8.out.box (w8.heap.size, G, .slice pG1 G.keys.length rG1, .slice pG2 G.kids.length rG2, FG) (by simp)).1)
              | (go_at_call_of 10 Z; go_at_call_of 10 X; refine (HZX.out _ H8.out).mono ?_; rintro e w9 ⟨rfl, hb9⟩; replace H8 := Lib.hid (H8.out.next hb9); replace H4 := Lib.hid (H4.out.next hb9); clear hb9 x0 x1 x2 x3 x4 y0 y1 y2 y3 y4 z0 z1 z2 z3 z4 g0 g1 g2 g3 g4; obtain ⟨x0, x1, x2, x3, x4, -⟩ := five (H8.out.box (w5.heap.size, X, .slice pX1 X.keys.length rX1, .slice pX2 X.kids.length rX2, FX) (by simp)).1; obtain ⟨y0, y1, y2, y3, y4, -⟩ := five (H8.out.box (w6.heap.size, Y, .slice pY1 Y.keys.length rY1, .slice pY2 Y.kids.length rY2, FY) (by simp)).1; obtain ⟨z0, z1, z2, z3, z4, -⟩ := five (H8.out.box (w7.heap.size, Z, .slice pZ1 Z.keys.length rZ1, .slice pZ2 Z.kids.length rZ2, FZ) (by simp)).1; obtain ⟨g0, g1, g2, g3, g4, -⟩ := five (H8.out.box (w8.heap.size, G, .slice pG1 G.keys.length rG1, .slice pG2 G.kids.length rG2, FG) (by simp)).1)
              | (go_at_call_of 10 G; go_at_call_of 10 X; refine (HGX.out _ H8.out).mono ?_; rintro e w9 ⟨rfl, hb9⟩; replace H8 := Lib.hid (H8.out.next hb9); replace H4 := Lib.hid (H4.out.next hb9); clear hb9 x0 x1 x2 x3 x4 y0 y1 y2 y3 y4 z0 z1 z2 z3 z4 g0 g1 g2 g3 g4; obtain ⟨x0, x1, x2, x3, x4, -⟩ := five (H8.out.box (w5.heap.size, X, .slice pX1 X.keys.length rX1, .slice pX2 X.kids.length rX2, FX) (by simp)).1; obtain ⟨y0, y1, y2, y3, y4, -⟩ := five (H8.out.box (w6.heap.size, Y, .slice pY1 Y.keys.length rY1, .slice pY2 Y.kids.length rY2, FY) (by simp)).1; obtain ⟨z0, z1, z2, z3, z4, -⟩ := five (H8.out.box (w7.heap.size, Z, .slice pZ1 Z.keys.length rZ1, .slice pZ2 Z.kids.length rZ2, FZ) (by simp)).1; obtain ⟨g0, g1, g2, g3, g4, -⟩ := five (H8.out.box (w8.heap.size, G, .slice pG1 G.keys.length rG1, .slice pG2 G.kids.length rG2, FG) (by simp)).1)
              | (go_at_call_of 10 G; go_at_call_of 10 Z; refine (HGZ.out _ H8.out).mono ?_; rintro e w9 ⟨rfl, hb9⟩; replace H8 := Lib.hid (H8.out.next hb9); replace H4 := Lib.hid (H4.out.next hb9); clear hb9 x0 x1 x2 x3 x4 y0 y1 y2 y3 y4 z0 z1 z2 z3 z4 g0 g1 g2 g3 g4; obtain ⟨x0, x1, x2, x3, x4, -⟩ := five (H8.out.box (w5.heap.size, X, .slice pX1 X.keys.length rX1, .slice pX2 X.kids.length rX2, FX) (by simp)).1; obtain ⟨y0, y1, y2, y3, y4, -⟩ := five (H8.out.box (w6.heap.size, Y, .slice pY1 Y.keys.length rY1, .slice pY2 Y.kids.length rY2, FY) (by simp)).1; obtain ⟨z0, z1, z2, z3, z4, -⟩ := five (H8.out.box (w7.heap.size, Z, .slice pZ1 Z.keys.length rZ1, .slice pZ2 Z.kids.length rZ2, FZ) (by simp)).1; obtain ⟨g0, g1, g2, g3, g4, -⟩ := five (H8.out.box (w8.heap.size, G, .slice pG1 G.keys.length rG1, .slice pG2 G.kids.length rG2, FG) (by simp)).1)
              | (go_at_call_of 10 G; go_at_call_of 10 Y; refine (HGY.out _ H8.out).mono ?_; rintro e w9 ⟨rfl, hb9⟩; replace H8 := Lib.hid (H8.out.next hb9); replace H4 := Lib.hid (H4.out.next hb9); clear hb9 x0 x1 x2 x3 x4 y0 y1 y2 y3 y4 z0 z1 z2 z3 z4 g0 g1 g2 g3 g4; obtain ⟨x0, x1, x2, x3, x4, -⟩ := five (H8.out.box (w5.heap.size, X, .slice pX1 X.keys.length rX1, .slice pX2 X.kids.length rX2, FX) (by simp)).1; obtain ⟨y0, y1, y2, y3, y4, -⟩ := five (H8.out.box (w6.heap.size, Y, .slice pY1 Y.keys.length rY1, .slice pY2 Y.kids.length rY2, FY) (by simp)).1; obtain ⟨z0, z1, z2, z3, z4, -⟩ := five (H8.out.box (w7.heap.size, Z, .slice pZ1 Z.keys.length rZ1, .slice pZ2 Z.kids.length rZ2, FZ) (by simp)).1; obtain ⟨g0, g1, g2, g3, g4, -⟩ := five (H8.out.box (w8.heap.size, G, .slice pG1 G.keys.length rG1, .slice pG2 G.kids.length rG2, FG) (by simp)).1)
              | fail)
            exact HFin.out _ H4
        · go_wp2
          go_ret
          exact ⟨rfl, hr.out.below⟩
end Go.Proofs.YtelpkcbbipianaaGreat

/- the law FnMergeKeeps returns true at every argument, and each argument reads behind the call as it did; no condition. -/
namespace Go.Proofs.YtelpkcbbipianaaGreat
open Go Go.RowKit Go.ChangeShapes Go.WideShapes Go.ChangeAt
open Go.ChangeMaps (open_string)

theorem fnMergeKeeps_own : ownKnob Tryz.prog.godebug = none := by kernel_rfl
theorem fnMergeKeeps_laidOut : laidOutB Tryz.prog = true := by kernel_rfl

/-- The bytes that came in, out of the row's reading of them. -/
theorem code_of_ints {W : World} {x : Addr} {len cap : Nat} {zs : List Int} (hl : len ≤ cap) (hs : len ≤ 1048576) (hz : zs.length = cap) (hcell : ∀ i, i < zs.length → W.cell? (x.add i) = some (.int .u8 (zs.getD i 0))) (hwz : ∀ n ∈ zs, (Lit.int .u8 n).wf = true) :
    CodeAt W (some x) len := by
  refine ⟨hs, ?_⟩
  rcases Nat.eq_zero_or_pos len with h0 | h0
  · exact .inl h0
  · right
    obtain ⟨b, off, spot⟩ := x
    have hc := hcell 0 (by omega)
    have hspot : spot = none := by simpa [Addr.add] using World.cell?_spot hc
    subst hspot
    have hc0 : W.cell? ⟨b, off, none⟩ = some (.int .u8 (zs.getD 0 0)) := by simpa [Addr.add] using hc
    refine ⟨b, off, rfl, ?_, fun i hi => ?_⟩
    · rcases Nat.lt_or_ge b W.heap.size with h | h
      · exact h
      · simp [World.cell?, Array.getElem?_eq_none h] at hc0
    · have hci := hcell i (by omega)
      have hm : zs.getD i 0 ∈ zs := by
        rw [List.getD_eq_getElem?_getD, List.getElem?_eq_getElem (show i < zs.length by omega)]
        exact List.getElem_mem _
      have hw := hwz _ hm
      have e1 : IntKind.u8.min = 0 := rfl
      have e2 : IntKind.u8.max = 255 := rfl
      simp only [Lit.wf, e1, e2, Bool.and_eq_true, decide_eq_true_eq] at hw
      refine ⟨(zs.getD i 0).toNat, by omega, ?_⟩
      have e3 : (((zs.getD i 0).toNat : Nat) : Int) = zs.getD i 0 := by omega
      rw [e3]
      by_cases hi0 : i = 0
      · subst hi0; simpa [Addr.add] using hci
      · simpa [Addr.add, hi0] using hci

set_option maxRecDepth 100000 in
theorem fnMergeKeeps_lifted (os : Os) (started : os.Started) (H : Type) (enc : TypeId × Value → H) :
    ReturnsInHanded {} Tryz.checked os 3 .any (Rows.fnMergeKeepsSpec.pre6 enc Tryz.prog Tryz.f3 Rows.fnMergeKeepsRow.domain false) (Rows.fnMergeKeepsSpec.post enc Tryz.prog Tryz.f3 false true false false) := by
  refine returnsInHanded_of_change (C := Tryz.checked) fnMergeKeeps_own started (by kernel_rfl) Tryz.func3
    (ChangeSpec.witness6 (enc := enc) (C := Tryz.checked) false ⟨#[], #[.slice none 0 0], []⟩ 8 (by kernel_rfl) (by kernel_rfl) (by kernel_rfl) (by kernel_rfl)) ?_
  intro W base args ds gs before hval0 hW hcnd _
  have hval : ∀ (j : Nat) t v, Tryz.f3.params[j]? = some t → args[j]? = some v → Value.okWide Tryz.prog W .any base t v := hval0
  have hW' := hW
  obtain ⟨p, q, hA0, hV, rfl, hfz, hnd⟩ := hW
  have hA : DataW.TrodAll enc Tryz.prog W 0 (fun _ => true) true Tryz.f3.params.toList args.toList ds p := hA0
  rw [Tryz.params3] at hA hval
  obtain ⟨v0, vs0, d0, ds0, p0, q0, hargs, rfl, rfl, h0, r0⟩ := trodAll_cons hA
  obtain ⟨rfl, rfl, rfl⟩ := trodAll_nil r0
  obtain rfl : args = #[v0] := by cases args; simp_all
  obtain ⟨rfl, rfl⟩ := trodVars_none hV
  have k0 := h0
  have lt0 : ∀ x ∈ p0, x.block < W.heap.size := by obtain ⟨m, hm⟩ := k0; exact DataW.trod_lt m _ _ _ hm
  obtain ⟨a0, len0, cap0, rfl⟩ := okWide_slice Tryz.underlying22 (hval 0 22 v0 rfl rfl)
  have hwalk : Calls Tryz.prog 3 #[.slice a0 len0 cap0] W fun e w' => e = .returned (.bool true) ∧ Below W.heap.size W w' := by
    obtain ⟨fuel, hf⟩ := h0
    rcases open_ints Tryz.underlying22 Tryz.underlying5 (by kernel_rfl) hf with ⟨hcs, _⟩ | ⟨x, l, c, zs, hcs, _, hl, hm, hz, _, hcell, hwz⟩
    · simp [Value.cells] at hcs
      obtain ⟨rfl, rfl, rfl⟩ := hcs
      exact mk_walk (Lib.hid merge_is) none 0 0 W ⟨Nat.zero_le _, .inl rfl⟩
    · simp [Value.cells] at hcs
      obtain ⟨rfl, rfl, rfl⟩ := hcs
      unfold maxLen at hm
      rcases Nat.lt_or_ge 1048576 len0 with hs | hs
      · exact mk_long _ len0 cap0 (by omega) (by omega) W
      · exact mk_walk (Lib.hid merge_is) _ len0 cap0 W (code_of_ints hl hs (by simpa using hz) hcell hwz)
  refine hwalk.mono fun e W' ⟨he, hb⟩ => ?_
  subst he
  exact ⟨_, rfl, _, _, _, [], _, [], hW', trodAll_mk1 (shut_bool Tryz.underlying4 _), (trodAll_cons_mk (Below.trod fnMergeKeeps_laidOut (by kernel_rfl) (of_decide_eq_true (by kernel_rfl)) k0 hb lt0) trodAll_mk0), rfl, hb.frame _, fun h => by cases h⟩

/-- The given statement. -/
theorem fnMergeKeeps_holds : Rows.FnMergeKeepsSaid :=
  OpenClaim.holds_of_wide 3 Tryz.f3 rfl rfl rfl rfl rfl rfl rfl ⟨rfl, rfl, rfl, rfl, rfl⟩ rfl rfl rfl rfl rfl (by kernel_rfl) Tryz.func3 (by kernel_rfl)
    (of_decide_eq_true (by kernel_rfl)) (by unfold Func.isWrapper; first | (rw [if_pos (by decide +kernel)]; kernel_rfl) | (rw [if_neg (by decide +kernel)]; exact ⟨rfl, rfl⟩))
    (fun os started H enc _ => fnMergeKeeps_lifted os started H enc)
end Go.Proofs.YtelpkcbbipianaaGreat
