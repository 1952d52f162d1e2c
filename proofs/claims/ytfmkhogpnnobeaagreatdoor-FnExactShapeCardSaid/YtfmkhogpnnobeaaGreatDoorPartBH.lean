/-
  What is proved: for any order the program's MidTree answers as the model's MidTree does, in memory of its own, and the law returns true with its argument as it was; condition: the library's table of powers of ten starts as the program's text lays it.; Shape of the program and of the model: an order's tree in the shape of that number, in memory of its own, of other numbers the zero node; condition of the program's: the library's table of powers of ten starts as the program's text lays it.
-/
import Derived.Test.YtfmkhogpnnobeaaGreatDoorPartBA
import Derived.Test.YtfmkhogpnnobeaaGreatDoorPartBG
import Derived.Test.YtfmkhogpnnobeaaGreatDoorPartBE
import Derived.Test.YtfmkhogpnnobeaaGreatDoorPartBF
import Derived.Test.YtfmkhogpnnobeaaGreatDoorPartAF
/- for any order the program's MidTree answers as the model's MidTree does, in memory of its own, and the law returns true with its argument as it was; condition: the library's table of powers of ten starts as the program's text lays it. -/
namespace Go.Proofs.YtfmkhogpnnobeaaGreatDoor
open Go Go.RowKit

/-- What MidTree answers. -/
noncomputable def ansM (O : Ord) : RT := if O.okB = true then midT O else .node 0 0 ⟨#[]⟩ [] []

theorem ansM_sz {O : Ord} (hg : ∀ m ∈ O.mets, m.ok) : (ansM O).sz ≤ 500000 := by
  unfold ansM
  split
  · rename_i h
    have a := saved_sz h
    have b := midB_sz h hg (savedT O)
    unfold midT
    omega
  · have k : (⟨#[]⟩ : ByteArray).size = 0 := rfl
    simp only [RT.sz, szAll, strSz, k, List.length_nil, List.map_nil, List.sum_nil]
    omega

theorem impl_mid {O : Ord} {mv nv : Value} {FM FN : List Nat} (w : World) (ho : OrdAt w O mv nv FM FN) (htab : Lib.TabIs Tryz.prog w "internal/strconv.uint64pow10" .u64 Lib.pow10Tab) :
    Calls Tryz.prog 9 #[.agg #[.string O.name, .string O.target, .int .i64 O.low, .int .i64 O.high, mv, .int .i64 O.pace.up, .int .i64 O.pace.down, .int .i64 O.pace.ups, .int .i64 O.pace.downs, nv]] w fun e w' => ∃ kv dv F, e = .returned (.agg #[.int .i64 (ansM O).k, .int .i64 (ansM O).n, .string (ansM O).s, kv, dv]) ∧ Lies w' (ansM O) kv dv F ∧ Fresh w w' F ∧ Below w.heap.size w w' := by
  by_cases hc : O.okB = true
  · have e : ansM O = midT O := if_pos hc
    rw [e]
    exact impl_midTree_yes w ho hc htab
  · have e : ansM O = .node 0 0 ⟨#[]⟩ [] [] := if_neg hc
    rw [e]
    refine (impl_midTree_no w ho (by simpa using hc)).mono ?_
    rintro e w' ⟨rfl, hb⟩
    exact ⟨_, _, [], rfl, leaf_lies w' ⟨by decide, by decide⟩ ⟨by decide, by decide⟩ (by decide), Fresh.nil _ _, hb⟩

theorem spec_mid {O : Ord} {mv nv : Value} {FM FN : List Nat} (w : World) (ho : OrdAt w O mv nv FM FN) :
    Calls Tryz.prog 7 #[.agg #[.string O.name, .string O.target, .int .i64 O.low, .int .i64 O.high, mv, .int .i64 O.pace.up, .int .i64 O.pace.down, .int .i64 O.pace.ups, .int .i64 O.pace.downs, nv]] w fun e w' => ∃ kv dv F, e = .returned (.agg #[.int .i64 (ansM O).k, .int .i64 (ansM O).n, .string (ansM O).s, kv, dv]) ∧ Lies w' (ansM O) kv dv F ∧ Fresh w w' F ∧ Below w.heap.size w w' := by
  by_cases hc : O.okB = true
  · have e : ansM O = midT O := if_pos hc
    rw [e]
    exact spec_midTree_yes w ho hc
  · have e : ansM O = .node 0 0 ⟨#[]⟩ [] [] := if_neg hc
    rw [e]
    refine (spec_midTree_no w ho (by simpa using hc)).mono ?_
    rintro e w' ⟨rfl, hb⟩
    exact ⟨_, _, [], rfl, leaf_lies w' ⟨by decide, by decide⟩ ⟨by decide, by decide⟩ (by decide), Fresh.nil _ _, hb⟩

set_option maxRecDepth 100000 in
set_option maxHeartbeats 16000000 in
theorem midTree_walk (A : Ord) (mvA nvA : Value) (FMA FNA : List Nat) (w : World) (hA : OrdAt w A mvA nvA FMA FNA) (htab : Lib.TabIs Tryz.prog w "internal/strconv.uint64pow10" .u64 Lib.pow10Tab) :
    Calls Tryz.prog 3 #[.agg #[.string A.name, .string A.target, .int .i64 A.low, .int .i64 A.high, mvA, .int .i64 A.pace.up, .int .i64 A.pace.down, .int .i64 A.pace.ups, .int .i64 A.pace.downs, nvA]] w fun e w' => e = .returned (.bool true) ∧ Below w.heap.size w w' := by
  have SA := Lib.hid fun (wr : World) (hb : Below w.heap.size w wr) => sz_order wr (hA.stay hb (Nat.le_refl _)) 1048576 (by omega) (by omega)
  have HX := Lib.hid (Bx.start w #[.string A.name, .string A.target, .int .i64 A.low, .int .i64 A.high, mvA, .int .i64 A.pace.up, .int .i64 A.pace.down, .int .i64 A.pace.ups, .int .i64 A.pace.downs, nvA] 27)
  by_cases hsA : (A.sz : Int) ≤ 1048576
  case neg =>
    clear hA htab
    go_enter Tryz.func3, Tryz.ntmps3
    go_wp2_with (first
      | (go_at_call 6; refine (SA.out _ HX.out.below).mono ?_; rintro e w1 ⟨rfl, hb1⟩; rw [left_no hsA]; replace HX := Lib.hid (HX.out.next hb1); clear hb1)
      | fail)
    go_ret
    exact ⟨rfl, HX.out.below⟩
  have hsz : A.sz ≤ 1048576 := by omega
  have TA := Lib.hid fun (wr : World) (hb : Below w.heap.size w wr) => to_order wr (hA.stay hb (Nat.le_refl _)) hsz
  have HT := Lib.hid (Lib.tabBelow_of_tabIs htab)
  have HS : Hid (∀ (W : World) (m n : Value) (F F' : List Nat), OrdAt W A m n F F' → Calls Tryz.prog 7 #[.agg #[.string A.name, .string A.target, .int .i64 A.low, .int .i64 A.high, m, .int .i64 A.pace.up, .int .i64 A.pace.down, .int .i64 A.pace.ups, .int .i64 A.pace.downs, n]] W fun e w' => ∃ kv dv F, e = .returned (.agg #[.int .i64 (ansM A).k, .int .i64 (ansM A).n, .string (ansM A).s, kv, dv]) ∧ Lies w' (ansM A) kv dv F ∧ Fresh W w' F ∧ Below W.heap.size W w') := fun W m n F F' h => spec_mid W h
  have HI : Hid (∀ (W : World) (m n : Value) (F F' : List Nat), OrdAt W A m n F F' → Below w.heap.size w W → Calls Tryz.prog 9 #[.agg #[.string A.name, .string A.target, .int .i64 A.low, .int .i64 A.high, m, .int .i64 A.pace.up, .int .i64 A.pace.down, .int .i64 A.pace.ups, .int .i64 A.pace.downs, n]] W fun e w' => ∃ kv dv F, e = .returned (.agg #[.int .i64 (ansM A).k, .int .i64 (ansM A).n, .string (ansM A).s, kv, dv]) ∧ Lies w' (ansM A) kv dv F ∧ Fresh W w' F ∧ Below W.heap.size W w') := fun W m n F F' h hW => impl_mid W h (HT.out _ hW)
  have HLn : Hid (A.mets.length ≤ 1048576 ∧ A.notes.length ≤ 1048576) := by unfold Ord.sz at hsz; exact ⟨by omega, by omega⟩
  have hcnt : 1 + (ansM A).cnt ≤ 1000000000 := by have := cnt_sz (ansM A); have := ansM_sz (RowAt.every hA.mets); omega
  have HCn := Lib.hid hcnt
  generalize ansM A = T at *
  have hlo := left_ok hsA
  have hp : (0 : Int) ≤ 1048576 - (A.sz : Int) := by omega
  clear hA htab hcnt
  have t1 : True := trivial
  go_enter Tryz.func3, Tryz.ntmps3
  go_wp2_with fail
  refine (SA.out _ HX.out.below).mono ?_
  rintro e w1 ⟨rfl, hb⟩
  rw [hlo]
  replace HX := Lib.hid (HX.out.next hb)
  clear hb hlo
  generalize 1048576 - (A.sz : Int) = SS at *
  have x0 := HX.out.cell 0
  have x1 := HX.out.cell 1
  have x2 := HX.out.cell 2
  have x3 := HX.out.cell 3
  have x4 := HX.out.cell 4
  have x5 := HX.out.cell 5
  have x6 := HX.out.cell 6
  have x7 := HX.out.cell 7
  have x8 := HX.out.cell 8
  have x9 := HX.out.cell 9
  go_wp2_with fail
  refine (TA.out _ HX.out.below).mono ?_
  rintro e w2 ⟨m1, n1, F1, F1', rfl, hl1, -, hb⟩
  have HL1 := Lib.hid hl1
  replace HX := Lib.hid (HX.out.next hb)
  clear hl1 hb x0 x1 x2 x3 x4 x5 x6 x7 x8 x9
  go_wp2_with fail
  refine (HS.out _ _ _ _ _ HL1.out).mono ?_
  rintro e w3 ⟨kW, dW, FW, rfl, hlW, hfW, hb3⟩
  obtain ⟨⟨oW, cW, rfl⟩, ⟨pW, qW, rfl⟩⟩ := hlW.slices
  have hbx3 := (Below.refl _ w3).alloc (Nat.le_refl _) (.cells #[.int .i64 T.k, .int .i64 T.n, .string T.s, .slice oW T.keys.length cW, .slice pW T.kids.length qW] 32)
  have HW := Lib.hid (And.intro (hlW.stay hbx3 (Nat.le_refl _)) (And.intro (heap_last w3 (.cells #[.int .i64 T.k, .int .i64 T.n, .string T.s, .slice oW T.keys.length cW, .slice pW T.kids.length qW] 32)) hlW.lt))
  have HB03 : Hid (w.heap.size ≤ w3.heap.size) := (HX.out.next hb3).below.size
  replace HX := Lib.hid ((HX.out.next hb3).next hbx3)
  have x0 := HX.out.cell 0
  have x1 := HX.out.cell 1
  have x2 := HX.out.cell 2
  have x3 := HX.out.cell 3
  have x4 := HX.out.cell 4
  have x5 := HX.out.cell 5
  have x6 := HX.out.cell 6
  have x7 := HX.out.cell 7
  have x8 := HX.out.cell 8
  have x9 := HX.out.cell 9
  clear hlW hfW hb3 hbx3 HL1
  go_wp2_with fail
  refine (TA.out _ HX.out.below).mono ?_
  rintro e w4 ⟨m3, n3, F3, F3', rfl, hl3, hf3, hb⟩
  have hbx4 := (Below.refl _ w4).alloc (Nat.le_refl _) (.cells #[.string A.name, .string A.target, .int .i64 A.low, .int .i64 A.high, .slice (some ⟨m3, 0, none⟩) A.mets.length A.mets.length, .int .i64 A.pace.up, .int .i64 A.pace.down, .int .i64 A.pace.ups, .int .i64 A.pace.downs, .slice (some ⟨n3, 0, none⟩) A.notes.length A.notes.length] 38)
  have HL3 := Lib.hid (And.intro (hl3.stay hbx4 (Nat.le_refl _)) (fun b hb' o => (hbx4.frozen (by rcases List.mem_append.1 hb' with h | h; exact RowAt.lt hl3.mets (by decide) b h; exact RowAt.lt hl3.notes (by decide) b h)).trans (hf3.free b hb' o)))
  have HF3 : Hid ((∀ x ∈ F3 ++ F3', w3.heap.size < x ∧ x < w4.heap.size) ∧ (∀ b ∈ F3', b ∉ F3)) := by
    refine ⟨fun x hx => ⟨by have := hf3.old x hx; simp at this; omega, by rcases List.mem_append.1 hx with h | h; exact RowAt.lt hl3.mets (by decide) x h; exact RowAt.lt hl3.notes (by decide) x h⟩, fun b hb1 hb2 => (List.nodup_append.1 hf3.nodup).2.2 b hb2 b hb1 rfl⟩
  have X0 := Lib.hid (Bx.start w4 #[.string A.name, .string A.target, .int .i64 A.low, .int .i64 A.high, .slice (some ⟨m3, 0, none⟩) A.mets.length A.mets.length, .int .i64 A.pace.up, .int .i64 A.pace.down, .int .i64 A.pace.ups, .int .i64 A.pace.downs, .slice (some ⟨n3, 0, none⟩) A.notes.length A.notes.length] 38)
  have HW4 : Hid (Lies w4 T (.slice oW T.keys.length cW) (.slice pW T.kids.length qW) FW ∧ w4.heap[w3.heap.size]? = some (.cells #[.int .i64 T.k, .int .i64 T.n, .string T.s, .slice oW T.keys.length cW, .slice pW T.kids.length qW] 32 (0, 0)) ∧ (∀ x ∈ FW, x < w3.heap.size)) := ⟨HW.out.1.stay hb (Nat.le_refl _), (hb.block _ (by simp)).trans HW.out.2.1, HW.out.2.2⟩
  replace HX := Lib.hid ((HX.out.next hb).next hbx4)
  replace HW := Lib.hid (And.intro (HW4.out.1.stay hbx4 (Nat.le_refl _)) (And.intro (blk_next HW4.out.2.1 hbx4) HW4.out.2.2))
  clear hl3 hf3 hb hbx4 HW4 x0 x1 x2 x3 x4 x5 x6 x7 x8 x9
  go_wp2_with fail
  refine (HI.out _ _ _ _ _ HL3.out.1 HX.out.below).mono ?_
  rintro e w5 ⟨kG, dG, FG, rfl, hlG, hfG, hb5⟩
  obtain ⟨⟨oG, cG, rfl⟩, ⟨pG, qG, rfl⟩⟩ := hlG.slices
  have hbx5 := (Below.refl _ w5).alloc (Nat.le_refl _) (.cells #[.int .i64 T.k, .int .i64 T.n, .string T.s, .slice oG T.keys.length cG, .slice pG T.kids.length qG] 32)
  have hb45 := hb5.trans (hbx5.mono hb5.size)
  have hsz5 : w4.heap.size + 1 ≤ w5.heap.size := by have := hb5.size; simp at this; exact this
  have H5z := Lib.hid hsz5
  have hw34 : w3.heap.size < w4.heap.size + 1 := by have := (Array.getElem?_eq_some_iff.1 HW.out.2.1).1; simp at this; omega
  have hoG : ∀ x ∈ FG, w4.heap.size + 1 ≤ x := fun x hx => by have := hfG.old x hx; simp at this; exact this
  have HGS : Hid (GState w (w5.alloc (.cells #[.int .i64 T.k, .int .i64 T.n, .string T.s, .slice oG T.keys.length cG, .slice pG T.kids.length qG] 32)) T T (.slice oW T.keys.length cW) (.slice pW T.kids.length qW) (.slice oG T.keys.length cG) (.slice pG T.kids.length qG) w3.heap.size w5.heap.size FW FG) := by
    refine ⟨HX.out.below.trans (hb45.mono HX.out.below.size), (hb45.block _ (by simp; omega)).trans HW.out.2.1, heap_last w5 _, HW.out.1.stay hb45 (Nat.le_refl _), hlG.stay hbx5 (Nat.le_refl _), hfG.nodup, fun b hb o => (hbx5.frozen (by exact hlG.lt b hb)).trans (hfG.free b hb o), ⟨fun hx => ?_, fun hx => ?_, fun x hx hx' => ?_⟩, fun x hx => ?_⟩
    · have := hoG _ hx; omega
    · have := hlG.lt _ hx; omega
    · have := hoG _ hx'; have := HW.out.2.2 x hx; omega
    · have := hoG _ hx; have := HX.out.below.size; simp at this; omega
  have HXb : Hid (∀ x ∈ FG, x ≠ w.heap.size) := fun x hx e => by have := hoG x hx; have := (Array.getElem?_eq_some_iff.1 HX.out.blk).1; simp at this; omega
  have HAp : Hid (w3.heap.size ∉ F3 ++ F3' ∧ w5.heap.size ∉ F3 ++ F3' ∧ (∀ x ∈ FW, x ∉ F3 ++ F3') ∧ (∀ x ∈ FG, x ∉ F3 ++ F3') ∧ (∀ x ∈ F3 ++ F3', w.heap.size < x)) := by
    refine ⟨fun hx => ?_, fun hx => ?_, fun x hx hx' => ?_, fun x hx hx' => ?_, fun x hx => ?_⟩
    · have := (HF3.out.1 _ hx).1; omega
    · have := (HF3.out.1 _ hx).2; omega
    · have := (HF3.out.1 _ hx').1; have := HW.out.2.2 x hx; omega
    · have := (HF3.out.1 _ hx').2; have := hoG x hx; omega
    · have := (HF3.out.1 _ hx).1; have := HB03.out; omega
  replace HX := Lib.hid (HX.out.next hb45)
  replace X0 := Lib.hid (X0.out.next hb45)
  replace HL3 := Lib.hid (And.intro (HL3.out.1.stay hb45 (Nat.le_refl _)) (fun b hb o => (hb45.frozen (by have := (HF3.out.1 b hb).2; show b < _; simp; omega)).trans (HL3.out.2 b hb o)))
  clear hlG hfG hb5 hbx5 hb45 HW hsz5 hw34 hoG
  obtain ⟨g0, g1, g2, g3, g4, -⟩ := five HGS.out.boxW
  go_wp2_with fail
  refine (eq_node T _ _ _ _ HGS.out.lieG _ _ _ _ HGS.out.lieW).mono ?_
  rintro e w6 ⟨rfl, hb⟩
  rw [same_yes rfl]
  replace HGS := Lib.hid (HGS.out.next hb)
  replace HX := Lib.hid (HX.out.next hb)
  replace X0 := Lib.hid (X0.out.next hb)
  replace HL3 := Lib.hid (And.intro (HL3.out.1.stay hb (Nat.le_refl _)) (fun b hb' o => (hb.frozen (by have := (HF3.out.1 b hb').2; have := H5z.out; show b < _; simp; omega)).trans (HL3.out.2 b hb' o)))
  clear hb g0 g1 g2 g3 g4
  have x0 := HX.out.cell 0
  have x1 := HX.out.cell 1
  have x2 := HX.out.cell 2
  have x3 := HX.out.cell 3
  have x4 := HX.out.cell 4
  have x5 := HX.out.cell 5
  have x6 := HX.out.cell 6
  have x7 := HX.out.cell 7
  have x8 := HX.out.cell 8
  have x9 := HX.out.cell 9
  have z0 := X0.out.cell 0
  have z1 := X0.out.cell 1
  have z2 := X0.out.cell 2
  have z3 := X0.out.cell 3
  have z4 := X0.out.cell 4
  have z5 := X0.out.cell 5
  have z6 := X0.out.cell 6
  have z7 := X0.out.cell 7
  have z8 := X0.out.cell 8
  have z9 := X0.out.cell 9
  go_wp2_with fail
  replace HX := Lib.hid (HX.out.drew 1); replace X0 := Lib.hid (X0.out.drew 1)
  have hbd := below_drewO (Below.refl w6.heap.size w6) 1
  replace HGS := Lib.hid (HGS.out.next hbd)
  replace HL3 := Lib.hid (And.intro (HL3.out.1.stay hbd (Nat.le_refl _)) (fun b hb' o => HL3.out.2 b hb' o))
  clear hbd
  go_region_held3 (fun w' => w'.cell? ⟨w.heap.size, 0, none⟩ = some (.string A.name) ∧ w'.cell? ⟨w.heap.size, 1, none⟩ = some (.string A.target) ∧ w'.cell? ⟨w.heap.size, 2, none⟩ = some (.int .i64 A.low) ∧ w'.cell? ⟨w.heap.size, 3, none⟩ = some (.int .i64 A.high) ∧ w'.cell? ⟨w.heap.size, 4, none⟩ = some (mvA) ∧ w'.cell? ⟨w.heap.size, 5, none⟩ = some (.int .i64 A.pace.up) ∧ w'.cell? ⟨w.heap.size, 6, none⟩ = some (.int .i64 A.pace.down) ∧ w'.cell? ⟨w.heap.size, 7, none⟩ = some (.int .i64 A.pace.ups) ∧ w'.cell? ⟨w.heap.size, 8, none⟩ = some (.int .i64 A.pace.downs) ∧ w'.cell? ⟨w.heap.size, 9, none⟩ = some (nvA) ∧ w'.cell? ⟨w4.heap.size, 0, none⟩ = some (.string A.name) ∧ w'.cell? ⟨w4.heap.size, 1, none⟩ = some (.string A.target) ∧ w'.cell? ⟨w4.heap.size, 2, none⟩ = some (.int .i64 A.low) ∧ w'.cell? ⟨w4.heap.size, 3, none⟩ = some (.int .i64 A.high) ∧ w'.cell? ⟨w4.heap.size, 4, none⟩ = some (.slice (some ⟨m3, 0, none⟩) A.mets.length A.mets.length) ∧ w'.cell? ⟨w4.heap.size, 5, none⟩ = some (.int .i64 A.pace.up) ∧ w'.cell? ⟨w4.heap.size, 6, none⟩ = some (.int .i64 A.pace.down) ∧ w'.cell? ⟨w4.heap.size, 7, none⟩ = some (.int .i64 A.pace.ups) ∧ w'.cell? ⟨w4.heap.size, 8, none⟩ = some (.int .i64 A.pace.downs) ∧ w'.cell? ⟨w4.heap.size, 9, none⟩ = some (.slice (some ⟨n3, 0, none⟩) A.notes.length A.notes.length)) (go_keep)
    (first
      | (go_at_call 8; refine (TA.out _ HX.out.below).mono ?_; rintro e w7 ⟨m5, n5, F5, F5', rfl, hl5, -, hb⟩
         replace HX := Lib.hid (HX.out.next hb); replace X0 := Lib.hid (X0.out.next hb); replace HGS := Lib.hid (HGS.out.next hb)
         have HB7 := Lib.hid hb
         have HL6 := Lib.hid hl5; clear hl5 hb; clear x0 x1 x2 x3 x4 x5 x6 x7 x8 x9; clear z0 z1 z2 z3 z4 z5 z6 z7 z8 z9; have x0 := HX.out.cell 0; have x1 := HX.out.cell 1; have x2 := HX.out.cell 2; have x3 := HX.out.cell 3; have x4 := HX.out.cell 4; have x5 := HX.out.cell 5; have x6 := HX.out.cell 6; have x7 := HX.out.cell 7; have x8 := HX.out.cell 8; have x9 := HX.out.cell 9; have z0 := X0.out.cell 0; have z1 := X0.out.cell 1; have z2 := X0.out.cell 2; have z3 := X0.out.cell 3; have z4 := X0.out.cell 4; have z5 := X0.out.cell 5; have z6 := X0.out.cell 6; have z7 := X0.out.cell 7; have z8 := X0.out.cell 8; have z9 := X0.out.cell 9)
      | (go_at_call 11; refine (eq_order _ (HL3.out.1.stay HB7.out (Nat.le_refl _)) HL6.out).mono ?_; rintro e w8 ⟨rfl, hb⟩
         replace HX := Lib.hid (HX.out.next hb); replace X0 := Lib.hid (X0.out.next hb); replace HGS := Lib.hid (HGS.out.next hb)
         have HB8 := Lib.hid (HB7.out.trans (hb.mono HB7.out.size))
         clear hb; clear x0 x1 x2 x3 x4 x5 x6 x7 x8 x9; clear z0 z1 z2 z3 z4 z5 z6 z7 z8 z9; have x0 := HX.out.cell 0; have x1 := HX.out.cell 1; have x2 := HX.out.cell 2; have x3 := HX.out.cell 3; have x4 := HX.out.cell 4; have x5 := HX.out.cell 5; have x6 := HX.out.cell 6; have x7 := HX.out.cell 7; have x8 := HX.out.cell 8; have x9 := HX.out.cell 9; have z0 := X0.out.cell 0; have z1 := X0.out.cell 1; have z2 := X0.out.cell 2; have z3 := X0.out.cell 3; have z4 := X0.out.cell 4; have z5 := X0.out.cell 5; have z6 := X0.out.cell 6; have z7 := X0.out.cell 7; have z8 := X0.out.cell 8; have z9 := X0.out.cell 9))
  go_wp2_with fail
  refine (mark_order _ (HL3.out.1.stay HB8.out (Nat.le_refl _)) (fun b hb' o => (HB8.out.frozen (by exact RowAt.lt HL3.out.1.mets (by decide) b hb')).trans (HL3.out.2 b (List.mem_append_left _ hb') o)) (fun b hb' o => (HB8.out.frozen (by exact RowAt.lt HL3.out.1.notes (by decide) b hb')).trans (HL3.out.2 b (List.mem_append_right _ hb') o)) HF3.out.2 HLn.out.1 HLn.out.2).mono ?_
  rintro e w9 ⟨qk, rfl, hb⟩
  replace HGS := Lib.hid (HGS.out.but hb HAp.out.1 HAp.out.2.1 HAp.out.2.2.1 HAp.out.2.2.2.1 (fun x hx => Nat.le_of_lt (HAp.out.2.2.2.2 x hx)))
  replace HX := Lib.hid (bx_but HX.out hb (fun hx => by have := HAp.out.2.2.2.2 _ hx; omega) (fun x hx => Nat.le_of_lt (HAp.out.2.2.2.2 x hx)))
  have hqk : ¬ ((qk : Int) < 0) := by omega
  clear hb x0 x1 x2 x3 x4 x5 x6 x7 x8 x9 z0 z1 z2 z3 z4 z5 z6 z7 z8 z9
  obtain ⟨g0, g1, g2, g3, g4, -⟩ := five HGS.out.boxW
  obtain ⟨y0, y1, y2, y3, y4, -⟩ := five HGS.out.boxG
  go_wp2_with fail
  refine (eq_node T _ _ _ _ HGS.out.lieG _ _ _ _ HGS.out.lieW).mono ?_
  rintro e w10 ⟨rfl, hb⟩
  rw [same_yes rfl]
  replace HGS := Lib.hid (HGS.out.next hb)
  replace HX := Lib.hid (HX.out.next hb)
  clear hb g0 g1 g2 g3 g4 y0 y1 y2 y3 y4
  obtain ⟨y0, y1, y2, y3, y4, -⟩ := five HGS.out.boxG
  go_wp2_with fail
  refine (mark_node1 T _ _ _ _ HGS.out.lieG HGS.out.nodup HGS.out.free HCn.out).mono ?_
  rintro e w11 ⟨rfl, hl11, hb11⟩
  replace HX := Lib.hid (bx_but HX.out hb11 (fun hx => HXb.out _ hx rfl) HGS.out.old)
  replace HGS := Lib.hid (HGS.out.mark hb11 hl11)
  clear hb11 hl11 y0 y1 y2 y3 y4
  have hc0 : ¬ (((1 + T.cnt : Nat) : Int) < 0) := by omega
  generalize hm1 : ((1 + T.cnt : Nat) : Int) = mm at *
  have HM1 := Lib.hid hm1
  clear hm1
  obtain ⟨y0, y1, y2, y3, y4, -⟩ := five HGS.out.boxG
  go_wp2_with fail
  refine (held_node1 T _ _ _ _ HGS.out.lieG HCn.out).mono ?_
  rintro e w12 ⟨rfl, hb⟩
  rw [HM1.out]
  replace HGS := Lib.hid (HGS.out.next hb)
  replace HX := Lib.hid (HX.out.next hb)
  have x0 := HX.out.cell 0
  have x1 := HX.out.cell 1
  have x2 := HX.out.cell 2
  have x3 := HX.out.cell 3
  have x4 := HX.out.cell 4
  have x5 := HX.out.cell 5
  have x6 := HX.out.cell 6
  have x7 := HX.out.cell 7
  have x8 := HX.out.cell 8
  have x9 := HX.out.cell 9
  clear hb y0 y1 y2 y3 y4
  go_wp2_with fail
  refine (TA.out _ HX.out.below).mono ?_
  rintro e w13 ⟨m9, n9, F9, F9', rfl, hl9, -, hb⟩
  have HL9 := Lib.hid hl9
  replace HGS := Lib.hid (HGS.out.next hb)
  replace HX := Lib.hid (HX.out.next hb)
  clear hl9 hb x0 x1 x2 x3 x4 x5 x6 x7 x8 x9
  go_wp2_with fail
  refine (HI.out _ _ _ _ _ HL9.out HX.out.below).mono ?_
  rintro e w14 ⟨kH, dH, FH, rfl, hlH, hfH, hb14⟩
  obtain ⟨⟨oH, cH, rfl⟩, ⟨pH, qH, rfl⟩⟩ := hlH.slices
  have hbx14 := (Below.refl _ w14).alloc (Nat.le_refl _) (.cells #[.int .i64 T.k, .int .i64 T.n, .string T.s, .slice oH T.keys.length cH, .slice pH T.kids.length qH] 32)
  replace HGS := Lib.hid ((HGS.out.next hb14).next hbx14)
  have HL14 := Lib.hid (hlH.stay hbx14 (Nat.le_refl _))
  clear hlH hfH hb14 hbx14 HL9 HX
  obtain ⟨g0, g1, g2, g3, g4, -⟩ := five HGS.out.boxW
  go_wp2_with fail
  refine (eq_node T _ _ _ _ HL14.out _ _ _ _ HGS.out.lieW).mono ?_
  rintro e w15 ⟨rfl, hb⟩
  rw [same_yes rfl]
  replace HGS := Lib.hid (HGS.out.next hb)
  clear hb g0 g1 g2 g3 g4
  obtain ⟨y0, y1, y2, y3, y4, -⟩ := five HGS.out.boxG
  go_wp2_with fail
  refine (held_node1 T _ _ _ _ HGS.out.lieG HCn.out).mono ?_
  rintro e w16 ⟨rfl, hb⟩
  rw [HM1.out]
  replace HGS := Lib.hid (HGS.out.next hb)
  clear hb y0 y1 y2 y3 y4
  go_wp2
  go_ret
  exact ⟨rfl, HGS.out.below⟩
end Go.Proofs.YtfmkhogpnnobeaaGreatDoor

/- Shape of the program and of the model: an order's tree in the shape of that number, in memory of its own, of other numbers the zero node; condition of the program's: the library's table of powers of ten starts as the program's text lays it. -/
namespace Go.Proofs.YtfmkhogpnnobeaaGreatDoor
open Go Go.RowKit

/-- What Shape answers. -/
noncomputable def ansS (O : Ord) (n : Int) : RT := if n = 0 then ansT O else if n = 1 then ansM O else if n = 2 then ansP O else .node 0 0 ⟨#[]⟩ [] []

theorem ansS_sz {O : Ord} (n : Int) (hp : O.pace.ok) (hg : ∀ m ∈ O.mets, m.ok) : (ansS O n).sz ≤ 1000000 := by
  unfold ansS
  split
  · have := ans_sz hp hg; omega
  split
  · have := ansM_sz hg; omega
  split
  · exact ansP_sz
  · have k : (⟨#[]⟩ : ByteArray).size = 0 := rfl
    simp only [RT.sz, szAll, strSz, k, List.length_nil, List.map_nil, List.sum_nil]
    omega

set_option maxRecDepth 100000 in
set_option maxHeartbeats 1600000 in
theorem spec_shape0 {O : Ord} {mv nv : Value} {FM FN : List Nat} (w : World) (ho : OrdAt w O mv nv FM FN) :
    Calls Tryz.prog 17 #[.agg #[.string O.name, .string O.target, .int .i64 O.low, .int .i64 O.high, mv, .int .i64 O.pace.up, .int .i64 O.pace.down, .int .i64 O.pace.ups, .int .i64 O.pace.downs, nv], .int .i64 0] w fun e w' => ∃ kv dv F, e = .returned (.agg #[.int .i64 (ansT O).k, .int .i64 (ansT O).n, .string (ansT O).s, kv, dv]) ∧ Lies w' (ansT O) kv dv F ∧ Fresh w w' F ∧ Below w.heap.size w w' := by
  have HTr : Hid (∀ wr, Below w.heap.size w wr → Calls Tryz.prog 48 #[.agg #[.string O.name, .string O.target, .int .i64 O.low, .int .i64 O.high, mv, .int .i64 O.pace.up, .int .i64 O.pace.down, .int .i64 O.pace.ups, .int .i64 O.pace.downs, nv]] wr fun e w' => ∃ kv dv F, e = .returned (.agg #[.int .i64 (ansT O).k, .int .i64 (ansT O).n, .string (ansT O).s, kv, dv]) ∧ Lies w' (ansT O) kv dv F ∧ Fresh wr w' F ∧ Below wr.heap.size wr w') := fun wr hb => spec_full wr (ho.stay hb (Nat.le_refl _))
  obtain ⟨⟨om, cm, rfl⟩, on_, cn, rfl⟩ := ho.slices
  clear ho
  generalize ansT O = T at *
  have H2 := Lib.hid (Two.start w (.cells #[.string O.name, .string O.target, .int .i64 O.low, .int .i64 O.high, .slice om O.mets.length cm, .int .i64 O.pace.up, .int .i64 O.pace.down, .int .i64 O.pace.ups, .int .i64 O.pace.downs, .slice on_ O.notes.length cn] 38) (.cells #[.int .i64 0, .int .i64 0, .string ⟨#[]⟩, .slice none 0 0, .slice none 0 0] 32))
  go_enter Tryz.func17, Tryz.ntmps17
  go_wp2_with (first
    | (go_at_call 48; refine (HTr.out _ H2.out.below).mono ?_; rintro e w2 ⟨kv, dv, F, rfl, hl, hf, hb⟩; obtain ⟨⟨a1, b1, rfl⟩, ⟨a2, b2, rfl⟩⟩ := hl.slices; have HL := Lib.hid (res_keep H2.out hl hf (Nat.le_refl _)); clear hl hf; replace H2 := Lib.hid (H2.out.next hb); clear hb; obtain ⟨s0, s1, s2, s3, s4, s5⟩ := five H2.out.res)
    | fail)
  have HF := res_fin H2.out HL.out
  exact bodyPost_ret (ret_node Tryz.results17 rfl HF.1) rfl ⟨_, _, _, rfl, HF.2.1, HF.2.2.1, HF.2.2.2⟩

set_option maxRecDepth 100000 in
set_option maxHeartbeats 1600000 in
theorem spec_shape1 {O : Ord} {mv nv : Value} {FM FN : List Nat} (w : World) (ho : OrdAt w O mv nv FM FN) :
    Calls Tryz.prog 17 #[.agg #[.string O.name, .string O.target, .int .i64 O.low, .int .i64 O.high, mv, .int .i64 O.pace.up, .int .i64 O.pace.down, .int .i64 O.pace.ups, .int .i64 O.pace.downs, nv], .int .i64 1] w fun e w' => ∃ kv dv F, e = .returned (.agg #[.int .i64 (ansM O).k, .int .i64 (ansM O).n, .string (ansM O).s, kv, dv]) ∧ Lies w' (ansM O) kv dv F ∧ Fresh w w' F ∧ Below w.heap.size w w' := by
  have HTr : Hid (∀ wr, Below w.heap.size w wr → Calls Tryz.prog 7 #[.agg #[.string O.name, .string O.target, .int .i64 O.low, .int .i64 O.high, mv, .int .i64 O.pace.up, .int .i64 O.pace.down, .int .i64 O.pace.ups, .int .i64 O.pace.downs, nv]] wr fun e w' => ∃ kv dv F, e = .returned (.agg #[.int .i64 (ansM O).k, .int .i64 (ansM O).n, .string (ansM O).s, kv, dv]) ∧ Lies w' (ansM O) kv dv F ∧ Fresh wr w' F ∧ Below wr.heap.size wr w') := fun wr hb => spec_mid wr (ho.stay hb (Nat.le_refl _))
  obtain ⟨⟨om, cm, rfl⟩, on_, cn, rfl⟩ := ho.slices
  clear ho
  generalize ansM O = T at *
  have H2 := Lib.hid (Two.start w (.cells #[.string O.name, .string O.target, .int .i64 O.low, .int .i64 O.high, .slice om O.mets.length cm, .int .i64 O.pace.up, .int .i64 O.pace.down, .int .i64 O.pace.ups, .int .i64 O.pace.downs, .slice on_ O.notes.length cn] 38) (.cells #[.int .i64 0, .int .i64 0, .string ⟨#[]⟩, .slice none 0 0, .slice none 0 0] 32))
  go_enter Tryz.func17, Tryz.ntmps17
  go_wp2_with (first
    | (go_at_call 7; refine (HTr.out _ H2.out.below).mono ?_; rintro e w2 ⟨kv, dv, F, rfl, hl, hf, hb⟩; obtain ⟨⟨a1, b1, rfl⟩, ⟨a2, b2, rfl⟩⟩ := hl.slices; have HL := Lib.hid (res_keep H2.out hl hf (Nat.le_refl _)); clear hl hf; replace H2 := Lib.hid (H2.out.next hb); clear hb; obtain ⟨s0, s1, s2, s3, s4, s5⟩ := five H2.out.res)
    | fail)
  have HF := res_fin H2.out HL.out
  exact bodyPost_ret (ret_node Tryz.results17 rfl HF.1) rfl ⟨_, _, _, rfl, HF.2.1, HF.2.2.1, HF.2.2.2⟩

set_option maxRecDepth 100000 in
set_option maxHeartbeats 1600000 in
theorem spec_shape2 {O : Ord} {mv nv : Value} {FM FN : List Nat} (w : World) (ho : OrdAt w O mv nv FM FN) :
    Calls Tryz.prog 17 #[.agg #[.string O.name, .string O.target, .int .i64 O.low, .int .i64 O.high, mv, .int .i64 O.pace.up, .int .i64 O.pace.down, .int .i64 O.pace.ups, .int .i64 O.pace.downs, nv], .int .i64 2] w fun e w' => ∃ kv dv F, e = .returned (.agg #[.int .i64 (ansP O).k, .int .i64 (ansP O).n, .string (ansP O).s, kv, dv]) ∧ Lies w' (ansP O) kv dv F ∧ Fresh w w' F ∧ Below w.heap.size w w' := by
  have HTr : Hid (∀ wr, Below w.heap.size w wr → Calls Tryz.prog 15 #[.agg #[.string O.name, .string O.target, .int .i64 O.low, .int .i64 O.high, mv, .int .i64 O.pace.up, .int .i64 O.pace.down, .int .i64 O.pace.ups, .int .i64 O.pace.downs, nv]] wr fun e w' => ∃ kv dv F, e = .returned (.agg #[.int .i64 (ansP O).k, .int .i64 (ansP O).n, .string (ansP O).s, kv, dv]) ∧ Lies w' (ansP O) kv dv F ∧ Fresh wr w' F ∧ Below wr.heap.size wr w') := fun wr hb => spec_plain_ wr (ho.stay hb (Nat.le_refl _))
  obtain ⟨⟨om, cm, rfl⟩, on_, cn, rfl⟩ := ho.slices
  clear ho
  generalize ansP O = T at *
  have H2 := Lib.hid (Two.start w (.cells #[.string O.name, .string O.target, .int .i64 O.low, .int .i64 O.high, .slice om O.mets.length cm, .int .i64 O.pace.up, .int .i64 O.pace.down, .int .i64 O.pace.ups, .int .i64 O.pace.downs, .slice on_ O.notes.length cn] 38) (.cells #[.int .i64 0, .int .i64 0, .string ⟨#[]⟩, .slice none 0 0, .slice none 0 0] 32))
  go_enter Tryz.func17, Tryz.ntmps17
  go_wp2_with (first
    | (go_at_call 15; refine (HTr.out _ H2.out.below).mono ?_; rintro e w2 ⟨kv, dv, F, rfl, hl, hf, hb⟩; obtain ⟨⟨a1, b1, rfl⟩, ⟨a2, b2, rfl⟩⟩ := hl.slices; have HL := Lib.hid (res_keep H2.out hl hf (Nat.le_refl _)); clear hl hf; replace H2 := Lib.hid (H2.out.next hb); clear hb; obtain ⟨s0, s1, s2, s3, s4, s5⟩ := five H2.out.res)
    | fail)
  have HF := res_fin H2.out HL.out
  exact bodyPost_ret (ret_node Tryz.results17 rfl HF.1) rfl ⟨_, _, _, rfl, HF.2.1, HF.2.2.1, HF.2.2.2⟩

set_option maxRecDepth 100000 in
set_option maxHeartbeats 1600000 in
theorem spec_shapeNo {O : Ord} {mv nv : Value} {FM FN : List Nat} (n : Int) (h0 : ¬ n = 0) (h1 : ¬ n = 1) (h2 : ¬ n = 2) (w : World) (ho : OrdAt w O mv nv FM FN) :
    Calls Tryz.prog 17 #[.agg #[.string O.name, .string O.target, .int .i64 O.low, .int .i64 O.high, mv, .int .i64 O.pace.up, .int .i64 O.pace.down, .int .i64 O.pace.ups, .int .i64 O.pace.downs, nv], .int .i64 n] w fun e w' => e = .returned (.agg #[.int .i64 0, .int .i64 0, .string ⟨#[]⟩, .slice none 0 0, .slice none 0 0]) ∧ Below w.heap.size w w' := by
  obtain ⟨⟨om, cm, rfl⟩, on_, cn, rfl⟩ := ho.slices
  clear ho
  have H2 := Lib.hid (Two.start w (.cells #[.string O.name, .string O.target, .int .i64 O.low, .int .i64 O.high, .slice om O.mets.length cm, .int .i64 O.pace.up, .int .i64 O.pace.down, .int .i64 O.pace.ups, .int .i64 O.pace.downs, .slice on_ O.notes.length cn] 38) (.cells #[.int .i64 0, .int .i64 0, .string ⟨#[]⟩, .slice none 0 0, .slice none 0 0] 32))
  go_enter Tryz.func17, Tryz.ntmps17
  go_wp2
  exact bodyPost_ret (ret_node Tryz.results17 rfl H2.out.res) rfl ⟨rfl, H2.out.below⟩

theorem spec_shape {O : Ord} {mv nv : Value} {FM FN : List Nat} (n : Int) (w : World) (ho : OrdAt w O mv nv FM FN) :
    Calls Tryz.prog 17 #[.agg #[.string O.name, .string O.target, .int .i64 O.low, .int .i64 O.high, mv, .int .i64 O.pace.up, .int .i64 O.pace.down, .int .i64 O.pace.ups, .int .i64 O.pace.downs, nv], .int .i64 n] w fun e w' => ∃ kv dv F, e = .returned (.agg #[.int .i64 (ansS O n).k, .int .i64 (ansS O n).n, .string (ansS O n).s, kv, dv]) ∧ Lies w' (ansS O n) kv dv F ∧ Fresh w w' F ∧ Below w.heap.size w w' := by
  unfold ansS
  by_cases h0 : n = 0
  · rw [if_pos h0]; subst h0; exact spec_shape0 w ho
  rw [if_neg h0]
  by_cases h1 : n = 1
  · rw [if_pos h1]; subst h1; exact spec_shape1 w ho
  rw [if_neg h1]
  by_cases h2 : n = 2
  · rw [if_pos h2]; subst h2; exact spec_shape2 w ho
  rw [if_neg h2]
  refine (spec_shapeNo n h0 h1 h2 w ho).mono ?_
  rintro e w' ⟨rfl, hb⟩
  exact ⟨_, _, [], rfl, leaf_lies w' ⟨by decide, by decide⟩ ⟨by decide, by decide⟩ (by decide), Fresh.nil _ _, hb⟩

set_option maxRecDepth 100000 in
set_option maxHeartbeats 1600000 in
theorem impl_shape0 {O : Ord} {mv nv : Value} {FM FN : List Nat} (w : World) (ho : OrdAt w O mv nv FM FN) (htab : Lib.TabIs Tryz.prog w "internal/strconv.uint64pow10" .u64 Lib.pow10Tab) :
    Calls Tryz.prog 18 #[.agg #[.string O.name, .string O.target, .int .i64 O.low, .int .i64 O.high, mv, .int .i64 O.pace.up, .int .i64 O.pace.down, .int .i64 O.pace.ups, .int .i64 O.pace.downs, nv], .int .i64 0] w fun e w' => ∃ kv dv F, e = .returned (.agg #[.int .i64 (ansT O).k, .int .i64 (ansT O).n, .string (ansT O).s, kv, dv]) ∧ Lies w' (ansT O) kv dv F ∧ Fresh w w' F ∧ Below w.heap.size w w' := by
  have HT := Lib.hid (Lib.tabBelow_of_tabIs htab)
  have HTr : Hid (∀ wr, Below w.heap.size w wr → Calls Tryz.prog 49 #[.agg #[.string O.name, .string O.target, .int .i64 O.low, .int .i64 O.high, mv, .int .i64 O.pace.up, .int .i64 O.pace.down, .int .i64 O.pace.ups, .int .i64 O.pace.downs, nv]] wr fun e w' => ∃ kv dv F, e = .returned (.agg #[.int .i64 (ansT O).k, .int .i64 (ansT O).n, .string (ansT O).s, kv, dv]) ∧ Lies w' (ansT O) kv dv F ∧ Fresh wr w' F ∧ Below wr.heap.size wr w') := fun wr hb => impl_full wr (ho.stay hb (Nat.le_refl _)) (HT.out _ hb)
  obtain ⟨⟨om, cm, rfl⟩, on_, cn, rfl⟩ := ho.slices
  clear ho htab
  generalize ansT O = T at *
  have H2 := Lib.hid (Two.start w (.cells #[.string O.name, .string O.target, .int .i64 O.low, .int .i64 O.high, .slice om O.mets.length cm, .int .i64 O.pace.up, .int .i64 O.pace.down, .int .i64 O.pace.ups, .int .i64 O.pace.downs, .slice on_ O.notes.length cn] 38) (.cells #[.int .i64 0, .int .i64 0, .string ⟨#[]⟩, .slice none 0 0, .slice none 0 0] 32))
  go_enter Tryz.func18, Tryz.ntmps18
  go_wp2_with (first
    | (go_at_call 49; refine (HTr.out _ H2.out.below).mono ?_; rintro e w2 ⟨kv, dv, F, rfl, hl, hf, hb⟩; obtain ⟨⟨a1, b1, rfl⟩, ⟨a2, b2, rfl⟩⟩ := hl.slices; have HL := Lib.hid (res_keep H2.out hl hf (Nat.le_refl _)); clear hl hf; replace H2 := Lib.hid (H2.out.next hb); clear hb; obtain ⟨s0, s1, s2, s3, s4, s5⟩ := five H2.out.res)
    | fail)
  have HF := res_fin H2.out HL.out
  exact bodyPost_ret (ret_node Tryz.results18 rfl HF.1) rfl ⟨_, _, _, rfl, HF.2.1, HF.2.2.1, HF.2.2.2⟩

set_option maxRecDepth 100000 in
set_option maxHeartbeats 1600000 in
theorem impl_shape1 {O : Ord} {mv nv : Value} {FM FN : List Nat} (w : World) (ho : OrdAt w O mv nv FM FN) (htab : Lib.TabIs Tryz.prog w "internal/strconv.uint64pow10" .u64 Lib.pow10Tab) :
    Calls Tryz.prog 18 #[.agg #[.string O.name, .string O.target, .int .i64 O.low, .int .i64 O.high, mv, .int .i64 O.pace.up, .int .i64 O.pace.down, .int .i64 O.pace.ups, .int .i64 O.pace.downs, nv], .int .i64 1] w fun e w' => ∃ kv dv F, e = .returned (.agg #[.int .i64 (ansM O).k, .int .i64 (ansM O).n, .string (ansM O).s, kv, dv]) ∧ Lies w' (ansM O) kv dv F ∧ Fresh w w' F ∧ Below w.heap.size w w' := by
  have HT := Lib.hid (Lib.tabBelow_of_tabIs htab)
  have HTr : Hid (∀ wr, Below w.heap.size w wr → Calls Tryz.prog 9 #[.agg #[.string O.name, .string O.target, .int .i64 O.low, .int .i64 O.high, mv, .int .i64 O.pace.up, .int .i64 O.pace.down, .int .i64 O.pace.ups, .int .i64 O.pace.downs, nv]] wr fun e w' => ∃ kv dv F, e = .returned (.agg #[.int .i64 (ansM O).k, .int .i64 (ansM O).n, .string (ansM O).s, kv, dv]) ∧ Lies w' (ansM O) kv dv F ∧ Fresh wr w' F ∧ Below wr.heap.size wr w') := fun wr hb => impl_mid wr (ho.stay hb (Nat.le_refl _)) (HT.out _ hb)
  obtain ⟨⟨om, cm, rfl⟩, on_, cn, rfl⟩ := ho.slices
  clear ho htab
  generalize ansM O = T at *
  have H2 := Lib.hid (Two.start w (.cells #[.string O.name, .string O.target, .int .i64 O.low, .int .i64 O.high, .slice om O.mets.length cm, .int .i64 O.pace.up, .int .i64 O.pace.down, .int .i64 O.pace.ups, .int .i64 O.pace.downs, .slice on_ O.notes.length cn] 38) (.cells #[.int .i64 0, .int .i64 0, .string ⟨#[]⟩, .slice none 0 0, .slice none 0 0] 32))
  go_enter Tryz.func18, Tryz.ntmps18
  go_wp2_with (first
    | (go_at_call 9; refine (HTr.out _ H2.out.below).mono ?_; rintro e w2 ⟨kv, dv, F, rfl, hl, hf, hb⟩; obtain ⟨⟨a1, b1, rfl⟩, ⟨a2, b2, rfl⟩⟩ := hl.slices; have HL := Lib.hid (res_keep H2.out hl hf (Nat.le_refl _)); clear hl hf; replace H2 := Lib.hid (H2.out.next hb); clear hb; obtain ⟨s0, s1, s2, s3, s4, s5⟩ := five H2.out.res)
    | fail)
  have HF := res_fin H2.out HL.out
  exact bodyPost_ret (ret_node Tryz.results18 rfl HF.1) rfl ⟨_, _, _, rfl, HF.2.1, HF.2.2.1, HF.2.2.2⟩

set_option maxRecDepth 100000 in
set_option maxHeartbeats 1600000 in
theorem impl_shape2 {O : Ord} {mv nv : Value} {FM FN : List Nat} (w : World) (ho : OrdAt w O mv nv FM FN) (htab : Lib.TabIs Tryz.prog w "internal/strconv.uint64pow10" .u64 Lib.pow10Tab) :
    Calls Tryz.prog 18 #[.agg #[.string O.name, .string O.target, .int .i64 O.low, .int .i64 O.high, mv, .int .i64 O.pace.up, .int .i64 O.pace.down, .int .i64 O.pace.ups, .int .i64 O.pace.downs, nv], .int .i64 2] w fun e w' => ∃ kv dv F, e = .returned (.agg #[.int .i64 (ansP O).k, .int .i64 (ansP O).n, .string (ansP O).s, kv, dv]) ∧ Lies w' (ansP O) kv dv F ∧ Fresh w w' F ∧ Below w.heap.size w w' := by
  have HT := Lib.hid (Lib.tabBelow_of_tabIs htab)
  have HTr : Hid (∀ wr, Below w.heap.size w wr → Calls Tryz.prog 16 #[.agg #[.string O.name, .string O.target, .int .i64 O.low, .int .i64 O.high, mv, .int .i64 O.pace.up, .int .i64 O.pace.down, .int .i64 O.pace.ups, .int .i64 O.pace.downs, nv]] wr fun e w' => ∃ kv dv F, e = .returned (.agg #[.int .i64 (ansP O).k, .int .i64 (ansP O).n, .string (ansP O).s, kv, dv]) ∧ Lies w' (ansP O) kv dv F ∧ Fresh wr w' F ∧ Below wr.heap.size wr w') := fun wr hb => impl_plain_ wr (ho.stay hb (Nat.le_refl _)) (HT.out _ hb)
  obtain ⟨⟨om, cm, rfl⟩, on_, cn, rfl⟩ := ho.slices
  clear ho htab
  generalize ansP O = T at *
  have H2 := Lib.hid (Two.start w (.cells #[.string O.name, .string O.target, .int .i64 O.low, .int .i64 O.high, .slice om O.mets.length cm, .int .i64 O.pace.up, .int .i64 O.pace.down, .int .i64 O.pace.ups, .int .i64 O.pace.downs, .slice on_ O.notes.length cn] 38) (.cells #[.int .i64 0, .int .i64 0, .string ⟨#[]⟩, .slice none 0 0, .slice none 0 0] 32))
  go_enter Tryz.func18, Tryz.ntmps18
  go_wp2_with (first
    | (go_at_call 16; refine (HTr.out _ H2.out.below).mono ?_; rintro e w2 ⟨kv, dv, F, rfl, hl, hf, hb⟩; obtain ⟨⟨a1, b1, rfl⟩, ⟨a2, b2, rfl⟩⟩ := hl.slices; have HL := Lib.hid (res_keep H2.out hl hf (Nat.le_refl _)); clear hl hf; replace H2 := Lib.hid (H2.out.next hb); clear hb; obtain ⟨s0, s1, s2, s3, s4, s5⟩ := five H2.out.res)
    | fail)
  have HF := res_fin H2.out HL.out
  exact bodyPost_ret (ret_node Tryz.results18 rfl HF.1) rfl ⟨_, _, _, rfl, HF.2.1, HF.2.2.1, HF.2.2.2⟩

set_option maxRecDepth 100000 in
set_option maxHeartbeats 1600000 in
theorem impl_shapeNo {O : Ord} {mv nv : Value} {FM FN : List Nat} (n : Int) (h0 : ¬ n = 0) (h1 : ¬ n = 1) (h2 : ¬ n = 2) (w : World) (ho : OrdAt w O mv nv FM FN) :
    Calls Tryz.prog 18 #[.agg #[.string O.name, .string O.target, .int .i64 O.low, .int .i64 O.high, mv, .int .i64 O.pace.up, .int .i64 O.pace.down, .int .i64 O.pace.ups, .int .i64 O.pace.downs, nv], .int .i64 n] w fun e w' => e = .returned (.agg #[.int .i64 0, .int .i64 0, .string ⟨#[]⟩, .slice none 0 0, .slice none 0 0]) ∧ Below w.heap.size w w' := by
  obtain ⟨⟨om, cm, rfl⟩, on_, cn, rfl⟩ := ho.slices
  clear ho
  have H2 := Lib.hid (Two.start w (.cells #[.string O.name, .string O.target, .int .i64 O.low, .int .i64 O.high, .slice om O.mets.length cm, .int .i64 O.pace.up, .int .i64 O.pace.down, .int .i64 O.pace.ups, .int .i64 O.pace.downs, .slice on_ O.notes.length cn] 38) (.cells #[.int .i64 0, .int .i64 0, .string ⟨#[]⟩, .slice none 0 0, .slice none 0 0] 32))
  go_enter Tryz.func18, Tryz.ntmps18
  go_wp2
  exact bodyPost_ret (ret_node Tryz.results18 rfl H2.out.res) rfl ⟨rfl, H2.out.below⟩

theorem impl_shape {O : Ord} {mv nv : Value} {FM FN : List Nat} (n : Int) (w : World) (ho : OrdAt w O mv nv FM FN) (htab : Lib.TabIs Tryz.prog w "internal/strconv.uint64pow10" .u64 Lib.pow10Tab) :
    Calls Tryz.prog 18 #[.agg #[.string O.name, .string O.target, .int .i64 O.low, .int .i64 O.high, mv, .int .i64 O.pace.up, .int .i64 O.pace.down, .int .i64 O.pace.ups, .int .i64 O.pace.downs, nv], .int .i64 n] w fun e w' => ∃ kv dv F, e = .returned (.agg #[.int .i64 (ansS O n).k, .int .i64 (ansS O n).n, .string (ansS O n).s, kv, dv]) ∧ Lies w' (ansS O n) kv dv F ∧ Fresh w w' F ∧ Below w.heap.size w w' := by
  unfold ansS
  by_cases h0 : n = 0
  · rw [if_pos h0]; subst h0; exact impl_shape0 w ho htab
  rw [if_neg h0]
  by_cases h1 : n = 1
  · rw [if_pos h1]; subst h1; exact impl_shape1 w ho htab
  rw [if_neg h1]
  by_cases h2 : n = 2
  · rw [if_pos h2]; subst h2; exact impl_shape2 w ho htab
  rw [if_neg h2]
  refine (impl_shapeNo n h0 h1 h2 w ho).mono ?_
  rintro e w' ⟨rfl, hb⟩
  exact ⟨_, _, [], rfl, leaf_lies w' ⟨by decide, by decide⟩ ⟨by decide, by decide⟩ (by decide), Fresh.nil _ _, hb⟩

end Go.Proofs.YtfmkhogpnnobeaaGreatDoor
