/-
  What is proved: for any list of trees the program's ListOf answers as the model's ListOf does, in memory of its own, and the law returns true with its argument as it was; no condition.
-/
import Derived.Test.YthbphkakbjheeaaListB
import Derived.Test.YthbphkakbjheeaaOwn
namespace Go.Proofs.Ythbphkakbjheeaa
open Go Go.RowKit

theorem mark_nodes1 (kids : List RT) (w : World) (dv : Value) (F : List Nat) (hs : KidsLie w dv kids F) (hnd : F.Nodup) (hfz : ∀ b ∈ F, ∀ o, w.frozen? ⟨b, o, none⟩ = false) (h1 : 1 + cntAll kids ≤ 1000000000) :
    Calls Try.prog 41 #[dv, .int .i64 1] w fun e w' => e = .returned (.int .i64 (1 + cntAll kids : Nat)) ∧ KidsLie w' dv (markAll kids 1) F ∧ But F w w' :=
  mark_nodes (listT kids) w dv F hs hnd hfz 1 (by omega) h1

set_option maxRecDepth 100000 in
set_option maxHeartbeats 3200000 in
theorem listOf_walk (dvA : Value) (kids : List RT) (FA : List Nat) (w : World) (hA : KidsLie w dvA kids FA) :
    Calls Try.prog 11 #[dvA] w fun e w' => e = .returned (.bool true) ∧ Below w.heap.size w w' := by
  have SA := Lib.hid (sz_kids (fun t _ => sz_node t) w hA 1048576 (by omega) (by omega))
  by_cases hsA : ((kids.length + szAll kids : Nat) : Int) ≤ 1048576
  · have hsz : kids.length + szAll kids ≤ 1048576 := by omega
    have hcnt : 1 + cntAll kids ≤ 1000000000 := by have := cntAll_sz kids; omega
    have TA := Lib.hid fun (wr : World) (hb : Below w.heap.size w wr) => to_kids (fun t _ => to_node t) wr (hA.stay hb (Nat.le_refl _)) hsz
    rw [left_ok hsA] at SA
    have hk0 : ¬ (((1 + cntAll kids : Nat) : Int) < 0) := by omega
    have hT : Hid (1 + (listT kids).cnt ≤ 1000000000) := by show 1 + (0 + cntAll kids) ≤ _; omega
    have hcT : Hid ((listT kids).cnt = cntAll kids) := by show 0 + cntAll kids = _; omega
    have HSz := Lib.hid hsz
    have HCn := Lib.hid hcnt
    obtain ⟨oA, cA, rfl⟩ := hA.slice
    clear hA hsz hcnt
    have hp : (0 : Int) ≤ 1048576 - ((kids.length + szAll kids : Nat) : Int) := by omega
    generalize hS : 1048576 - ((kids.length + szAll kids : Nat) : Int) = SS at *
    clear hS hsA
    go_enter Try.func11, Try.ntmps11
    go_wp2_with fail
    refine SA.out.mono ?_
    rintro e w1 ⟨rfl, hb1⟩
    have HB1 := Lib.hid hb1
    clear hb1
    go_wp2_with fail
    refine (TA.out _ HB1.out).mono ?_
    rintro e w2 ⟨a2, F2, rfl, hk2, hf2, hb2⟩
    have HB2 := Lib.hid (HB1.out.trans (hb2.mono HB1.out.size))
    have HK2 := Lib.hid hk2
    clear hk2 hf2 hb2
    go_wp2_with fail
    refine (spec_listOf kids _ _ _ HK2.out HSz.out).mono ?_
    rintro e w3 ⟨dvW, FW, rfl, hlW, hfW, hb3⟩
    obtain ⟨oW, cW, rfl⟩ := hlW.slices.2
    have hbx3 := (Below.refl _ w3).alloc (Nat.le_refl _) (.cells #[.int .i64 4, .int .i64 0, .string ⟨#[]⟩, .slice none 0 0, .slice oW (listT kids).kids.length cW] 30)
    have HB3 := Lib.hid (((HB2.out.trans (hb3.mono HB2.out.size))).trans (hbx3.mono (HB2.out.trans (hb3.mono HB2.out.size)).size))
    have HW3 := Lib.hid (And.intro (hlW.stay hbx3 (Nat.le_refl _)) (And.intro (heap_last w3 (.cells #[.int .i64 4, .int .i64 0, .string ⟨#[]⟩, .slice none 0 0, .slice oW (listT kids).kids.length cW] 30)) hlW.lt))
    clear hlW hfW hb3 hbx3
    go_wp2_with fail
    refine (TA.out _ HB3.out).mono ?_
    rintro e w4 ⟨xv, FX, rfl, hk4, hf4, hb4⟩
    have HB4 := Lib.hid (HB3.out.trans (hb4.mono HB3.out.size))
    have HX4 := Lib.hid (And.intro hk4 (And.intro hf4.nodup (And.intro hf4.free hf4.old)))
    have HW4 := Lib.hid (And.intro (HW3.out.1.stay hb4 (Nat.le_refl _)) ((hb4.block _ (by simp)).trans HW3.out.2.1))
    obtain ⟨oX, cX, rfl⟩ := hk4.slice
    clear hk4 hf4 hb4
    go_wp2_with fail
    refine (impl_listOf kids _ _ _ HX4.out.1 HSz.out).mono ?_
    rintro e w5 ⟨dvG, FG, rfl, hlG, hfG, hb5⟩
    obtain ⟨oG, cG, rfl⟩ := hlG.slices.2
    have hbx5 := (Below.refl _ w5).alloc (Nat.le_refl _) (.cells #[.int .i64 4, .int .i64 0, .string ⟨#[]⟩, .slice none 0 0, .slice oG (listT kids).kids.length cG] 30)
    have hb45 := hb5.trans (hbx5.mono hb5.size)
    have GS : GState w (w5.alloc (.cells #[.int .i64 4, .int .i64 0, .string ⟨#[]⟩, .slice none 0 0, .slice oG (listT kids).kids.length cG] 30)) (listT kids) (listT kids) (.slice none 0 0) (.slice oW (listT kids).kids.length cW) (.slice none 0 0) (.slice oG (listT kids).kids.length cG) w3.heap.size w5.heap.size FW FG := by
      have hw4 : w3.heap.size < w4.heap.size := (Array.getElem?_eq_some_iff.1 HW4.out.2).1
      refine ⟨HB4.out.trans (hb45.mono HB4.out.size), (hb45.block _ hw4).trans HW4.out.2, heap_last w5 _, HW4.out.1.stay hb45 (Nat.le_refl _), hlG.stay hbx5 (Nat.le_refl _), hfG.nodup, fun b hb o => (hbx5.frozen (by exact hlG.lt b hb)).trans (hfG.free b hb o), ⟨fun hx => ?_, fun hx => ?_, fun x hx hx' => ?_⟩, fun x hx => ?_⟩
      · have := hfG.old _ hx; omega
      · have := hlG.lt _ hx; omega
      · have := hfG.old _ hx'; have := HW4.out.1.lt x hx; omega
      · have := hfG.old _ hx; have := HB4.out.size; omega
    have hapX : Hid (w3.heap.size ∉ FX ∧ w5.heap.size ∉ FX ∧ (∀ x ∈ FW, x ∉ FX) ∧ (∀ x ∈ FG, x ∉ FX) ∧ ∀ x ∈ FX, w.heap.size ≤ x) := by
      obtain ⟨hk4, -, -, hold⟩ := HX4.out
      have h34 : (w3.alloc (.cells #[.int .i64 4, .int .i64 0, .string ⟨#[]⟩, .slice none 0 0, .slice oW (listT kids).kids.length cW] 30)).heap.size = w3.heap.size + 1 := by simp
      rw [h34] at hold
      refine ⟨fun hx => ?_, fun hx => ?_, fun x hx hx' => ?_, fun x hx hx' => ?_, fun x hx => ?_⟩
      · have := hold _ hx; omega
      · have := hk4.lt _ hx; have := hb5.size; omega
      · have := hold _ hx'; have := HW3.out.2.2 x hx; omega
      · have := hfG.old _ hx; have := hk4.lt _ hx'; omega
      · have := hold _ hx; have := HB3.out.size; rw [h34] at this; omega
    have HGS := Lib.hid GS
    have HX5 := Lib.hid (And.intro (HX4.out.1.stay hb45 (Nat.le_refl _)) (fun b hb o => (hb45.frozen (by exact HX4.out.1.lt b hb)).trans (HX4.out.2.2.1 b hb o)))
    clear hlG hfG hb5 hbx5 hb45 GS HW3 HW4 HB1 HB2 HB3 HB4 HK2
    obtain ⟨x0, x1, x2, x3, x4, -⟩ := five HGS.out.boxW
    go_wp2_with fail
    refine (eq_node (listT kids) _ _ _ _ HGS.out.lieG _ _ _ _ HGS.out.lieW).mono ?_
    rintro e w6 ⟨rfl, hb6⟩
    rw [same_yes rfl]
    have HG6 := Lib.hid (HGS.out.next hb6)
    have HX6 := Lib.hid (And.intro (HX5.out.1.stay hb6 (Nat.le_refl _)) (fun b hb o => (hb6.frozen (by exact HX5.out.1.lt b hb)).trans (HX5.out.2 b hb o)))
    clear hb6 x0 x1 x2 x3 x4 HX5 HGS
    go_wp2_with fail
    refine (TA.out _ HG6.out.below).mono ?_
    rintro e w7 ⟨a7, F7, rfl, hk7, hf7, hb7⟩
    have HG7 := Lib.hid (HG6.out.next hb7)
    have HX7 := Lib.hid (And.intro (HX6.out.1.stay hb7 (Nat.le_refl _)) (fun b hb o => (hb7.frozen (by exact HX6.out.1.lt b hb)).trans (HX6.out.2 b hb o)))
    have HK7 := Lib.hid hk7
    clear hk7 hf7 hb7 HX6 HG6
    go_wp2_with fail
    refine (eq_kids (fun t _ => eq_node t) _ HX7.out.1 HK7.out).mono ?_
    rintro e w8 ⟨rfl, hb8⟩
    rw [same_yes rfl]
    have HG8 := Lib.hid (HG7.out.next hb8)
    have HX8 := Lib.hid (And.intro (HX7.out.1.stay hb8 (Nat.le_refl _)) (fun b hb o => (hb8.frozen (by exact HX7.out.1.lt b hb)).trans (HX7.out.2 b hb o)))
    clear hb8 HX7 HG7 HK7
    go_wp2_with fail
    refine (mark_nodes1 kids _ _ _ HX8.out.1 HX4.out.2.1 HX8.out.2 HCn.out).mono ?_
    rintro e w9 ⟨rfl, -, hb9⟩
    have HG9 := Lib.hid (HG8.out.but hb9 hapX.out.1 hapX.out.2.1 hapX.out.2.2.1 hapX.out.2.2.2.1 hapX.out.2.2.2.2)
    clear hb9 HX8 HG8
    generalize hk1 : ((1 + cntAll kids : Nat) : Int) = kk at *
    obtain ⟨x0, x1, x2, x3, x4, -⟩ := five HG9.out.boxW
    obtain ⟨y0, y1, y2, y3, y4, -⟩ := five HG9.out.boxG
    go_wp2_with fail
    refine (eq_node (listT kids) _ _ _ _ HG9.out.lieG _ _ _ _ HG9.out.lieW).mono ?_
    rintro e w10 ⟨rfl, hb10⟩
    rw [same_yes rfl]
    have HG10 := Lib.hid (HG9.out.next hb10)
    clear hb10 x0 x1 x2 x3 x4 y0 y1 y2 y3 y4 HG9
    obtain ⟨y0, y1, y2, y3, y4, -⟩ := five HG10.out.boxG
    go_wp2_with fail
    refine (mark_node1 (listT kids) _ _ _ _ HG10.out.lieG HG10.out.nodup HG10.out.free hT.out).mono ?_
    rintro e w11 ⟨rfl, hl11, hb11⟩
    have HG11 := Lib.hid (HG10.out.mark hb11 hl11)
    clear hb11 hl11 y0 y1 y2 y3 y4 HG10
    have hc0 : ¬ (((1 + (listT kids).cnt : Nat) : Int) < 0) := by omega
    generalize hm1 : ((1 + (listT kids).cnt : Nat) : Int) = mm at *
    have HM1 := Lib.hid hm1
    clear hm1
    obtain ⟨y0, y1, y2, y3, y4, -⟩ := five HG11.out.boxG
    go_wp2_with fail
    refine (held_node1 (listT kids) _ _ _ _ HG11.out.lieG hT.out).mono ?_
    rintro e w12 ⟨rfl, hb12⟩
    rw [HM1.out]
    have HG12 := Lib.hid (HG11.out.next hb12)
    clear hb12 y0 y1 y2 y3 y4 HG11
    go_wp2_with fail
    refine (TA.out _ HG12.out.below).mono ?_
    rintro e w13 ⟨a13, F13, rfl, hk13, hf13, hb13⟩
    have HG13 := Lib.hid (HG12.out.next hb13)
    have HK13 := Lib.hid hk13
    clear hk13 hf13 hb13 HG12
    go_wp2_with fail
    refine (impl_listOf kids _ _ _ HK13.out HSz.out).mono ?_
    rintro e w14 ⟨dvH, FH, rfl, hlH, hfH, hb14⟩
    obtain ⟨oH, cH, rfl⟩ := hlH.slices.2
    have hbx14 := (Below.refl _ w14).alloc (Nat.le_refl _) (.cells #[.int .i64 4, .int .i64 0, .string ⟨#[]⟩, .slice none 0 0, .slice oH (listT kids).kids.length cH] 30)
    have HG14 := Lib.hid ((HG13.out.next hb14).next hbx14)
    have HL14 := Lib.hid (hlH.stay hbx14 (Nat.le_refl _))
    clear hlH hfH hb14 hbx14 HG13 HK13
    obtain ⟨x0, x1, x2, x3, x4, -⟩ := five HG14.out.boxW
    go_wp2_with fail
    refine (eq_node (listT kids) _ _ _ _ HL14.out _ _ _ _ HG14.out.lieW).mono ?_
    rintro e w15 ⟨rfl, hb15⟩
    rw [same_yes rfl]
    have HG15 := Lib.hid (HG14.out.next hb15)
    clear hb15 x0 x1 x2 x3 x4 HG14 HL14
    obtain ⟨y0, y1, y2, y3, y4, -⟩ := five HG15.out.boxG
    go_wp2_with fail
    refine (held_node1 (listT kids) _ _ _ _ HG15.out.lieG hT.out).mono ?_
    rintro e w16 ⟨rfl, hb16⟩
    rw [HM1.out]
    have HG16 := Lib.hid (HG15.out.next hb16)
    clear hb16 y0 y1 y2 y3 y4 HG15
    go_wp2
    go_ret
    exact ⟨rfl, HG16.out.below⟩
  · clear hA
    rw [left_no hsA] at SA
    go_enter Try.func11, Try.ntmps11
    go_wp2_with (first | (go_at_call 38; refine SA.out.mono ?_; rintro e w1 ⟨rfl, hb1⟩; have HB := Lib.hid hb1; clear hb1) | fail)
    go_ret
    exact ⟨rfl, HB.out⟩
end Go.Proofs.Ythbphkakbjheeaa
