/-
  What is proved: at every argument the program's MetricTree answers as the model's MetricTree does, in memory of its own, and the law returns true; condition: the library's table of powers of ten starts as the program's text lays it.
-/
import Derived.Test.YtmbjmjbljnlifaaDoorShI
import Derived.Test.YtmbjmjbljnlifaaDoorShS
import Derived.Test.YtmbjmjbljnlifaaDoorMet
import Derived.Test.YtmbjmjbljnlifaaDoorBx
import Derived.Test.YtmbjmjbljnlifaaDoorOwn
import Derived.Test.YtmbjmjbljnlifaaDoorSetZ
namespace Go.Proofs.YtmbjmjbljnlifaaDoor
open Go Go.RowKit

set_option maxRecDepth 100000 in
set_option maxHeartbeats 6400000 in
theorem metricTree_walk (s : ByteArray) (k g : Int) (hs : s.size ≤ maxLen) (hk : Fit k) (hg : Fit g) (w : World) (htab : Lib.TabIs Tryd.prog w "internal/strconv.uint64pow10" .u64 Lib.pow10Tab) : Calls Tryd.prog 3 #[.agg #[.string s, .int .i64 k, .int .i64 g]] w fun e w' => e = .returned (.bool true) ∧ Below w.heap.size w w' := by
  have HT := Lib.hid (Lib.tabBelow_of_tabIs htab)
  have HTo := Lib.hid (to_metric s k g)
  have HX := Lib.hid (Bx.start w #[.string s, .int .i64 k, .int .i64 g] 23)
  have HSz := Lib.hid (sz_metric s k g 1048576 hs (Nat.le_refl _))
  by_cases hsz : s.size ≤ 1048576
  · rw [if_pos hsz] at HSz
    have hn : ¬ ((1048576 - s.size : Nat) : Int) < 0 := by omega
    generalize ((1048576 - s.size : Nat) : Int) = q at *
    have HS : Hid (∀ W, Calls Tryd.prog 6 #[.agg #[.string s, .int .i64 k, .int .i64 g]] W fun e w' => ∃ kv dv F, e = .returned (.agg #[.int .i64 (metT ⟨s, k, g⟩).k, .int .i64 (metT ⟨s, k, g⟩).n, .string (metT ⟨s, k, g⟩).s, kv, dv]) ∧ Lies w' (metT ⟨s, k, g⟩) kv dv F ∧ Fresh W w' F ∧ Below W.heap.size W w') := fun W => spec_metricTree s k g hs hk hg (by omega) W
    have HI : Hid (∀ W, Lib.TabIs Tryd.prog W "internal/strconv.uint64pow10" .u64 Lib.pow10Tab → Calls Tryd.prog 8 #[.agg #[.string s, .int .i64 k, .int .i64 g]] W fun e w' => ∃ kv dv F, e = .returned (.agg #[.int .i64 (metT ⟨s, k, g⟩).k, .int .i64 (metT ⟨s, k, g⟩).n, .string (metT ⟨s, k, g⟩).s, kv, dv]) ∧ Lies w' (metT ⟨s, k, g⟩) kv dv F ∧ Fresh W w' F ∧ Below W.heap.size W w') := fun W hW => impl_metricTree s k g hs hk hg W hW
    have hcnt : 1 + (metT ⟨s, k, g⟩).cnt ≤ 1000000000 := by have := cnt_sz (metT ⟨s, k, g⟩); have := (show (metT ⟨s, k, g⟩).sz ≤ s.size + 200 from metT_sz ⟨s, k, g⟩ hg.1 hg.2); omega
    have HCn := Lib.hid hcnt
    generalize hTT : (metT ⟨s, k, g⟩) = T at *
    clear hs hk hg hsz htab hTT hcnt
    go_enter Tryd.func3, Tryd.ntmps3
    go_wp2_with fail
    refine (HSz.out _).mono ?_
    rintro e w1 ⟨rfl, hb⟩
    replace HX := Lib.hid (HX.out.next hb)
    have c0 := HX.out.cell 0
    have c1 := HX.out.cell 1
    have c2 := HX.out.cell 2
    clear hb
    go_wp2_with fail
    refine (HTo.out _).mono ?_
    rintro e w2 ⟨rfl, hb⟩
    replace HX := Lib.hid (HX.out.next hb)
    clear hb
    go_wp2_with fail
    refine (HS.out _).mono ?_
    rintro e w3 ⟨kW, dW, FW, rfl, hlW, hfW, hb3⟩
    obtain ⟨⟨oW, cW, rfl⟩, ⟨pW, qW, rfl⟩⟩ := hlW.slices
    have hbx3 := (Below.refl _ w3).alloc (Nat.le_refl _) (.cells #[.int .i64 T.k, .int .i64 T.n, .string T.s, .slice oW T.keys.length cW, .slice pW T.kids.length qW] 28)
    have HW := Lib.hid (And.intro (hlW.stay hbx3 (Nat.le_refl _)) (And.intro (heap_last w3 (.cells #[.int .i64 T.k, .int .i64 T.n, .string T.s, .slice oW T.keys.length cW, .slice pW T.kids.length qW] 28)) hlW.lt))
    replace HX := Lib.hid ((HX.out.next hb3).next hbx3)
    have c0 := HX.out.cell 0
    have c1 := HX.out.cell 1
    have c2 := HX.out.cell 2
    clear hlW hfW hb3 hbx3
    go_wp2_with fail
    refine (HTo.out _).mono ?_
    rintro e w4 ⟨rfl, hb⟩
    replace HX := Lib.hid (HX.out.next hb)
    replace HW := Lib.hid (And.intro (HW.out.1.stay hb (Nat.le_refl _)) (And.intro ((hb.block _ (by simp)).trans HW.out.2.1) HW.out.2.2))
    clear hb c0 c1 c2
    go_wp2_with fail
    refine (HI.out _ (HT.out _ HX.out.below)).mono ?_
    rintro e w5 ⟨kG, dG, FG, rfl, hlG, hfG, hb5⟩
    obtain ⟨⟨oG, cG, rfl⟩, ⟨pG, qG, rfl⟩⟩ := hlG.slices
    have hbx5 := (Below.refl _ w5).alloc (Nat.le_refl _) (.cells #[.int .i64 T.k, .int .i64 T.n, .string T.s, .slice oG T.keys.length cG, .slice pG T.kids.length qG] 28)
    have hb45 := hb5.trans (hbx5.mono hb5.size)
    have HGS : Hid (GState w (w5.alloc (.cells #[.int .i64 T.k, .int .i64 T.n, .string T.s, .slice oG T.keys.length cG, .slice pG T.kids.length qG] 28)) T T (.slice oW T.keys.length cW) (.slice pW T.kids.length qW) (.slice oG T.keys.length cG) (.slice pG T.kids.length qG) w3.heap.size w5.heap.size FW FG) := by
      have hw4 : w3.heap.size < w4.heap.size := (Array.getElem?_eq_some_iff.1 HW.out.2.1).1
      refine ⟨HX.out.below.trans (hb45.mono HX.out.below.size), (hb45.block _ hw4).trans HW.out.2.1, heap_last w5 _, HW.out.1.stay hb45 (Nat.le_refl _), hlG.stay hbx5 (Nat.le_refl _), hfG.nodup, fun b hb o => (hbx5.frozen (by exact hlG.lt b hb)).trans (hfG.free b hb o), ⟨fun hx => ?_, fun hx => ?_, fun x hx hx' => ?_⟩, fun x hx => ?_⟩
      · have := hfG.old _ hx; omega
      · have := hlG.lt _ hx; omega
      · have := hfG.old _ hx'; have := HW.out.1.lt x hx; omega
      · have := hfG.old _ hx; have := HX.out.below.size; omega
    have HXb : Hid (∀ x ∈ FG, x ≠ w.heap.size) := fun x hx e => by have := hfG.old x hx; have := (Array.getElem?_eq_some_iff.1 HX.out.blk).1; omega
    replace HX := Lib.hid (HX.out.next hb45)
    clear hlG hfG hb5 hbx5 hb45 HW
    obtain ⟨x0, x1, x2, x3, x4, -⟩ := five HGS.out.boxW
    go_wp2_with fail
    refine (eq_node T _ _ _ _ HGS.out.lieG _ _ _ _ HGS.out.lieW).mono ?_
    rintro e w6 ⟨rfl, hb⟩
    rw [same_yes rfl]
    replace HGS := Lib.hid (HGS.out.next hb)
    replace HX := Lib.hid (HX.out.next hb)
    clear hb x0 x1 x2 x3 x4
    obtain ⟨y0, y1, y2, y3, y4, -⟩ := five HGS.out.boxG
    go_wp2_with fail
    refine (mark_node1 T _ _ _ _ HGS.out.lieG HGS.out.nodup HGS.out.free HCn.out).mono ?_
    rintro e w11 ⟨rfl, hl11, hb11⟩
    replace HX := Lib.hid (bx_but HX.out hb11 (fun hx => HXb.out _ hx rfl) HGS.out.old)
    replace HGS := Lib.hid (HGS.out.mark hb11 hl11)
    clear hb11 hl11 y0 y1 y2 y3 y4
    have hc0 : ¬ (((1 + T.cnt : Nat) : Int) < 0) := by omega
    generalize hm1 : ((1 + T.cnt : Nat) : Int) = mm at *
    have HM1 := Lib.hid hm1
    clear hm1
    obtain ⟨y0, y1, y2, y3, y4, -⟩ := five HGS.out.boxG
    go_wp2_with fail
    refine (held_node1 T _ _ _ _ HGS.out.lieG HCn.out).mono ?_
    rintro e w12 ⟨rfl, hb⟩
    rw [HM1.out]
    replace HGS := Lib.hid (HGS.out.next hb)
    replace HX := Lib.hid (HX.out.next hb)
    have c0 := HX.out.cell 0
    have c1 := HX.out.cell 1
    have c2 := HX.out.cell 2
    clear hb y0 y1 y2 y3 y4
    go_wp2_with fail
    refine (HTo.out _).mono ?_
    rintro e w13 ⟨rfl, hb⟩
    replace HGS := Lib.hid (HGS.out.next hb)
    replace HX := Lib.hid (HX.out.next hb)
    clear hb c0 c1 c2
    go_wp2_with fail
    refine (HI.out _ (HT.out _ HGS.out.below)).mono ?_
    rintro e w14 ⟨kH, dH, FH, rfl, hlH, hfH, hb14⟩
    obtain ⟨⟨oH, cH, rfl⟩, ⟨pH, qH, rfl⟩⟩ := hlH.slices
    have hbx14 := (Below.refl _ w14).alloc (Nat.le_refl _) (.cells #[.int .i64 T.k, .int .i64 T.n, .string T.s, .slice oH T.keys.length cH, .slice pH T.kids.length qH] 28)
    replace HGS := Lib.hid ((HGS.out.next hb14).next hbx14)
    have HL14 := Lib.hid (hlH.stay hbx14 (Nat.le_refl _))
    clear hlH hfH hb14 hbx14
    obtain ⟨x0, x1, x2, x3, x4, -⟩ := five HGS.out.boxW
    go_wp2_with fail
    refine (eq_node T _ _ _ _ HL14.out _ _ _ _ HGS.out.lieW).mono ?_
    rintro e w15 ⟨rfl, hb⟩
    rw [same_yes rfl]
    replace HGS := Lib.hid (HGS.out.next hb)
    clear hb x0 x1 x2 x3 x4
    obtain ⟨y0, y1, y2, y3, y4, -⟩ := five HGS.out.boxG
    go_wp2_with fail
    refine (held_node1 T _ _ _ _ HGS.out.lieG HCn.out).mono ?_
    rintro e w16 ⟨rfl, hb⟩
    rw [HM1.out]
    replace HGS := Lib.hid (HGS.out.next hb)
    clear hb y0 y1 y2 y3 y4
    go_wp2
    go_ret
    exact ⟨rfl, HGS.out.below⟩
  · rw [if_neg hsz] at HSz
    go_enter Tryd.func3, Tryd.ntmps3
    go_wp2_with (first
      | (go_at_call 5; refine (HSz.out _).mono ?_; rintro e w1 ⟨rfl, hb⟩
         replace HX := Lib.hid (HX.out.next hb)
         clear hb)
      | fail)
    go_ret
    exact ⟨rfl, HX.out.below⟩
end Go.Proofs.YtmbjmjbljnlifaaDoor
