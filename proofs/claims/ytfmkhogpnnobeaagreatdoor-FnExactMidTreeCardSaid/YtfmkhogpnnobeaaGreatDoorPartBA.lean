/-
  What is proved: for any order the program's MidTree answers as the model's MidTree does, in memory of its own, and the law returns true with its argument as it was; condition: the library's table of powers of ten starts as the program's text lays it.; whatever reads as a metric, a pace, a note or an order of the laws' own types lies in memory as such.; the law FnExactMidTree returns true at every argument, and each argument reads behind the call as it did; condition: the library's table of powers of ten starts as the program's text lays it (the card ties it).
-/
import Derived.Test.YtfmkhogpnnobeaaGreatDoorPartAY
import Derived.Test.YtfmkhogpnnobeaaGreatDoorPartAZ
import Derived.Test.YtfmkhogpnnobeaaGreatDoorPartAF
import Derived.Test.YtfmkhogpnnobeaaGreatDoorPartAD
import Derived.Test.YtfmkhogpnnobeaaGreatDoorRows
import Derived.ProofKit
import Derived.OpenShut
import Derived.Carry
import Derived.Deep.Strs
import Derived.Test.YtfmkhogpnnobeaaGreatDoorPartAE
import Derived.Test.YtfmkhogpnnobeaaGreatDoorTie
import Derived.Test.YtfmkhogpnnobeaaGreatDoorCards
import Derived.SevenTiedAt
import Derived.ChangeMaps5
/- for any order the program's MidTree answers as the model's MidTree does, in memory of its own, and the law returns true with its argument as it was; condition: the library's table of powers of ten starts as the program's text lays it. -/
namespace Go.Proofs.YtfmkhogpnnobeaaGreatDoor
open Go Go.RowKit

/-- What MidTree answers. -/
noncomputable def ansM (O : Ord) : RT := if O.okB = true then midT O else .node 0 0 ⟨#[]⟩ [] []

theorem ansM_sz {O : Ord} (hg : ∀ m ∈ O.mets, m.ok) : (ansM O).sz ≤ 500000 := by
  unfold ansM
  split
  · rename_i h
    have a := saved_sz h
    have b := midB_sz h hg (savedT O)
    unfold midT
    omega
  · have k : (⟨#[]⟩ : ByteArray).size = 0 := rfl
    simp only [RT.sz, szAll, strSz, k, List.length_nil, List.map_nil, List.sum_nil]
    omega

theorem impl_mid {O : Ord} {mv nv : Value} {FM FN : List Nat} (w : World) (ho : OrdAt w O mv nv FM FN) (htab : Lib.TabIs Tryz.prog w "internal/strconv.uint64pow10" .u64 Lib.pow10Tab) :
    Calls Tryz.prog 9 #[.agg #[.string O.name, .string O.target, .int .i64 O.low, .int .i64 O.high, mv, .int .i64 O.pace.up, .int .i64 O.pace.down, .int .i64 O.pace.ups, .int .i64 O.pace.downs, nv]] w fun e w' => ∃ kv dv F, e = .returned (.agg #[.int .i64 (ansM O).k, .int .i64 (ansM O).n, .string (ansM O).s, kv, dv]) ∧ Lies w' (ansM O) kv dv F ∧ Fresh w w' F ∧ Below w.heap.size w w' := by
  by_cases hc : O.okB = true
  · have e : ansM O = midT O := if_pos hc
    rw [e]
    exact impl_midTree_yes w ho hc htab
  · have e : ansM O = .node 0 0 ⟨#[]⟩ [] [] := if_neg hc
    rw [e]
    refine (impl_midTree_no w ho (by simpa using hc)).mono ?_
    rintro e w' ⟨rfl, hb⟩
    exact ⟨_, _, [], rfl, leaf_lies w' ⟨by decide, by decide⟩ ⟨by decide, by decide⟩ (by decide), Fresh.nil _ _, hb⟩

theorem spec_mid {O : Ord} {mv nv : Value} {FM FN : List Nat} (w : World) (ho : OrdAt w O mv nv FM FN) :
    Calls Tryz.prog 7 #[.agg #[.string O.name, .string O.target, .int .i64 O.low, .int .i64 O.high, mv, .int .i64 O.pace.up, .int .i64 O.pace.down, .int .i64 O.pace.ups, .int .i64 O.pace.downs, nv]] w fun e w' => ∃ kv dv F, e = .returned (.agg #[.int .i64 (ansM O).k, .int .i64 (ansM O).n, .string (ansM O).s, kv, dv]) ∧ Lies w' (ansM O) kv dv F ∧ Fresh w w' F ∧ Below w.heap.size w w' := by
  by_cases hc : O.okB = true
  · have e : ansM O = midT O := if_pos hc
    rw [e]
    exact spec_midTree_yes w ho hc
  · have e : ansM O = .node 0 0 ⟨#[]⟩ [] [] := if_neg hc
    rw [e]
    refine (spec_midTree_no w ho (by simpa using hc)).mono ?_
    rintro e w' ⟨rfl, hb⟩
    exact ⟨_, _, [], rfl, leaf_lies w' ⟨by decide, by decide⟩ ⟨by decide, by decide⟩ (by decide), Fresh.nil _ _, hb⟩

set_option maxRecDepth 100000 in
set_option maxHeartbeats 16000000 in
theorem midTree_walk (A : Ord) (mvA nvA : Value) (FMA FNA : List Nat) (w : World) (hA : OrdAt w A mvA nvA FMA FNA) (htab : Lib.TabIs Tryz.prog w "internal/strconv.uint64pow10" .u64 Lib.pow10Tab) :
    Calls Tryz.prog 3 #[.agg #[.string A.name, .string A.target, .int .i64 A.low, .int .i64 A.high, mvA, .int .i64 A.pace.up, .int .i64 A.pace.down, .int .i64 A.pace.ups, .int .i64 A.pace.downs, nvA]] w fun e w' => e = .returned (.bool true) ∧ Below w.heap.size w w' := by
  have SA := Lib.hid fun (wr : World) (hb : Below w.heap.size w wr) => sz_order wr (hA.stay hb (Nat.le_refl _)) 1048576 (by omega) (by omega)
  have HX := Lib.hid (Bx.start w #[.string A.name, .string A.target, .int .i64 A.low, .int .i64 A.high, mvA, .int .i64 A.pace.up, .int .i64 A.pace.down, .int .i64 A.pace.ups, .int .i64 A.pace.downs, nvA] 27)
  by_cases hsA : (A.sz : Int) ≤ 1048576
  case neg =>
    clear hA htab
    go_enter Tryz.func3, Tryz.ntmps3
    go_wp2_with (first
      | (go_at_call 6; refine (SA.out _ HX.out.below).mono ?_; rintro e w1 ⟨rfl, hb1⟩; rw [left_no hsA]; replace HX := Lib.hid (HX.out.next hb1); clear hb1)
      | fail)
    go_ret
    exact ⟨rfl, HX.out.below⟩
  have hsz : A.sz ≤ 1048576 := by omega
  have TA := Lib.hid fun (wr : World) (hb : Below w.heap.size w wr) => to_order wr (hA.stay hb (Nat.le_refl _)) hsz
  have HT := Lib.hid (Lib.tabBelow_of_tabIs htab)
  have HS : Hid (∀ (W : World) (m n : Value) (F F' : List Nat), OrdAt W A m n F F' → Calls Tryz.prog 7 #[.agg #[.string A.name, .string A.target, .int .i64 A.low, .int .i64 A.high, m, .int .i64 A.pace.up, .int .i64 A.pace.down, .int .i64 A.pace.ups, .int .i64 A.pace.downs, n]] W fun e w' => ∃ kv dv F, e = .returned (.agg #[.int .i64 (ansM A).k, .int .i64 (ansM A).n, .string (ansM A).s, kv, dv]) ∧ Lies w' (ansM A) kv dv F ∧ Fresh W w' F ∧ Below W.heap.size W w') := fun W m n F F' h => spec_mid W h
  have HI : Hid (∀ (W : World) (m n : Value) (F F' : List Nat), OrdAt W A m n F F' → Below w.heap.size w W → Calls Tryz.prog 9 #[.agg #[.string A.name, .string A.target, .int .i64 A.low, .int .i64 A.high, m, .int .i64 A.pace.up, .int .i64 A.pace.down, .int .i64 A.pace.ups, .int .i64 A.pace.downs, n]] W fun e w' => ∃ kv dv F, e = .returned (.agg #[.int .i64 (ansM A).k, .int .i64 (ansM A).n, .string (ansM A).s, kv, dv]) ∧ Lies w' (ansM A) kv dv F ∧ Fresh W w' F ∧ Below W.heap.size W w') := fun W m n F F' h hW => impl_mid W h (HT.out _ hW)
  have HLn : Hid (A.mets.length ≤ 1048576 ∧ A.notes.length ≤ 1048576) := by unfold Ord.sz at hsz; exact ⟨by omega, by omega⟩
  have hcnt : 1 + (ansM A).cnt ≤ 1000000000 := by have := cnt_sz (ansM A); have := ansM_sz (RowAt.every hA.mets); omega
  have HCn := Lib.hid hcnt
  generalize ansM A = T at *
  have hlo := left_ok hsA
  have hp : (0 : Int) ≤ 1048576 - (A.sz : Int) := by omega
  clear hA htab hcnt
  have t1 : True := trivial
  go_enter Tryz.func3, Tryz.ntmps3
  go_wp2_with fail
  refine (SA.out _ HX.out.below).mono ?_
  rintro e w1 ⟨rfl, hb⟩
  rw [hlo]
  replace HX := Lib.hid (HX.out.next hb)
  clear hb hlo
  generalize 1048576 - (A.sz : Int) = SS at *
  have x0 := HX.out.cell 0
  have x1 := HX.out.cell 1
  have x2 := HX.out.cell 2
  have x3 := HX.out.cell 3
  have x4 := HX.out.cell 4
  have x5 := HX.out.cell 5
  have x6 := HX.out.cell 6
  have x7 := HX.out.cell 7
  have x8 := HX.out.cell 8
  have x9 := HX.out.cell 9
  go_wp2_with fail
  refine (TA.out _ HX.out.below).mono ?_
  rintro e w2 ⟨m1, n1, F1, F1', rfl, hl1, -, hb⟩
  have HL1 := Lib.hid hl1
  replace HX := Lib.hid (HX.out.next hb)
  clear hl1 hb x0 x1 x2 x3 x4 x5 x6 x7 x8 x9
  go_wp2_with fail
  refine (HS.out _ _ _ _ _ HL1.out).mono ?_
  rintro e w3 ⟨kW, dW, FW, rfl, hlW, hfW, hb3⟩
  obtain ⟨⟨oW, cW, rfl⟩, ⟨pW, qW, rfl⟩⟩ := hlW.slices
  have hbx3 := (Below.refl _ w3).alloc (Nat.le_refl _) (.cells #[.int .i64 T.k, .int .i64 T.n, .string T.s, .slice oW T.keys.length cW, .slice pW T.kids.length qW] 32)
  have HW := Lib.hid (And.intro (hlW.stay hbx3 (Nat.le_refl _)) (And.intro (heap_last w3 (.cells #[.int .i64 T.k, .int .i64 T.n, .string T.s, .slice oW T.keys.length cW, .slice pW T.kids.length qW] 32)) hlW.lt))
  have HB03 : Hid (w.heap.size ≤ w3.heap.size) := (HX.out.next hb3).below.size
  replace HX := Lib.hid ((HX.out.next hb3).next hbx3)
  have x0 := HX.out.cell 0
  have x1 := HX.out.cell 1
  have x2 := HX.out.cell 2
  have x3 := HX.out.cell 3
  have x4 := HX.out.cell 4
  have x5 := HX.out.cell 5
  have x6 := HX.out.cell 6
  have x7 := HX.out.cell 7
  have x8 := HX.out.cell 8
  have x9 := HX.out.cell 9
  clear hlW hfW hb3 hbx3 HL1
  go_wp2_with fail
  refine (TA.out _ HX.out.below).mono ?_
  rintro e w4 ⟨m3, n3, F3, F3', rfl, hl3, hf3, hb⟩
  have hbx4 := (Below.refl _ w4).alloc (Nat.le_refl _) (.cells #[.string A.name, .string A.target, .int .i64 A.low, .int .i64 A.high, .slice (some ⟨m3, 0, none⟩) A.mets.length A.mets.length, .int .i64 A.pace.up, .int .i64 A.pace.down, .int .i64 A.pace.ups, .int .i64 A.pace.downs, .slice (some ⟨n3, 0, none⟩) A.notes.length A.notes.length] 38)
  have HL3 := Lib.hid (And.intro (hl3.stay hbx4 (Nat.le_refl _)) (fun b hb' o => (hbx4.frozen (by rcases List.mem_append.1 hb' with h | h; exact RowAt.lt hl3.mets (by decide) b h; exact RowAt.lt hl3.notes (by decide) b h)).trans (hf3.free b hb' o)))
  have HF3 : Hid ((∀ x ∈ F3 ++ F3', w3.heap.size < x ∧ x < w4.heap.size) ∧ (∀ b ∈ F3', b ∉ F3)) := by
    refine ⟨fun x hx => ⟨by have := hf3.old x hx; simp at this; omega, by rcases List.mem_append.1 hx with h | h; exact RowAt.lt hl3.mets (by decide) x h; exact RowAt.lt hl3.notes (by decide) x h⟩, fun b hb1 hb2 => (List.nodup_append.1 hf3.nodup).2.2 b hb2 b hb1 rfl⟩
  have X0 := Lib.hid (Bx.start w4 #[.string A.name, .string A.target, .int .i64 A.low, .int .i64 A.high, .slice (some ⟨m3, 0, none⟩) A.mets.length A.mets.length, .int .i64 A.pace.up, .int .i64 A.pace.down, .int .i64 A.pace.ups, .int .i64 A.pace.downs, .slice (some ⟨n3, 0, none⟩) A.notes.length A.notes.length] 38)
  have HW4 : Hid (Lies w4 T (.slice oW T.keys.length cW) (.slice pW T.kids.length qW) FW ∧ w4.heap[w3.heap.size]? = some (.cells #[.int .i64 T.k, .int .i64 T.n, .string T.s, .slice oW T.keys.length cW, .slice pW T.kids.length qW] 32 (0, 0)) ∧ (∀ x ∈ FW, x < w3.heap.size)) := ⟨HW.out.1.stay hb (Nat.le_refl _), (hb.block _ (by simp)).trans HW.out.2.1, HW.out.2.2⟩
  replace HX := Lib.hid ((HX.out.next hb).next hbx4)
  replace HW := Lib.hid (And.intro (HW4.out.1.stay hbx4 (Nat.le_refl _)) (And.intro (blk_next HW4.out.2.1 hbx4) HW4.out.2.2))
  clear hl3 hf3 hb hbx4 HW4 x0 x1 x2 x3 x4 x5 x6 x7 x8 x9
  go_wp2_with fail
  refine (HI.out _ _ _ _ _ HL3.out.1 HX.out.below).mono ?_
  rintro e w5 ⟨kG, dG, FG, rfl, hlG, hfG, hb5⟩
  obtain ⟨⟨oG, cG, rfl⟩, ⟨pG, qG, rfl⟩⟩ := hlG.slices
  have hbx5 := (Below.refl _ w5).alloc (Nat.le_refl _) (.cells #[.int .i64 T.k, .int .i64 T.n, .string T.s, .slice oG T.keys.length cG, .slice pG T.kids.length qG] 32)
  have hb45 := hb5.trans (hbx5.mono hb5.size)
  have hsz5 : w4.heap.size + 1 ≤ w5.heap.size := by have := hb5.size; simp at this; exact this
  have H5z := Lib.hid hsz5
  have hw34 : w3.heap.size < w4.heap.size + 1 := by have := (Array.getElem?_eq_some_iff.1 HW.out.2.1).1; simp at this; omega
  have hoG : ∀ x ∈ FG, w4.heap.size + 1 ≤ x := fun x hx => by have := hfG.old x hx; simp at this; exact this
  have HGS : Hid (GState w (w5.alloc (.cells #[.int .i64 T.k, .int .i64 T.n, .string T.s, .slice oG T.keys.length cG, .slice pG T.kids.length qG] 32)) T T (.slice oW T.keys.length cW) (.slice pW T.kids.length qW) (.slice oG T.keys.length cG) (.slice pG T.kids.length qG) w3.heap.size w5.heap.size FW FG) := by
    refine ⟨HX.out.below.trans (hb45.mono HX.out.below.size), (hb45.block _ (by simp; omega)).trans HW.out.2.1, heap_last w5 _, HW.out.1.stay hb45 (Nat.le_refl _), hlG.stay hbx5 (Nat.le_refl _), hfG.nodup, fun b hb o => (hbx5.frozen (by exact hlG.lt b hb)).trans (hfG.free b hb o), ⟨fun hx => ?_, fun hx => ?_, fun x hx hx' => ?_⟩, fun x hx => ?_⟩
    · have := hoG _ hx; omega
    · have := hlG.lt _ hx; omega
    · have := hoG _ hx'; have := HW.out.2.2 x hx; omega
    · have := hoG _ hx; have := HX.out.below.size; simp at this; omega
  have HXb : Hid (∀ x ∈ FG, x ≠ w.heap.size) := fun x hx e => by have := hoG x hx; have := (Array.getElem?_eq_some_iff.1 HX.out.blk).1; simp at this; omega
  have HAp : Hid (w3.heap.size ∉ F3 ++ F3' ∧ w5.heap.size ∉ F3 ++ F3' ∧ (∀ x ∈ FW, x ∉ F3 ++ F3') ∧ (∀ x ∈ FG, x ∉ F3 ++ F3') ∧ (∀ x ∈ F3 ++ F3', w.heap.size < x)) := by
    refine ⟨fun hx => ?_, fun hx => ?_, fun x hx hx' => ?_, fun x hx hx' => ?_, fun x hx => ?_⟩
    · have := (HF3.out.1 _ hx).1; omega
    · have := (HF3.out.1 _ hx).2; omega
    · have := (HF3.out.1 _ hx').1; have := HW.out.2.2 x hx; omega
    · have := (HF3.out.1 _ hx').2; have := hoG x hx; omega
    · have := (HF3.out.1 _ hx).1; have := HB03.out; omega
  replace HX := Lib.hid (HX.out.next hb45)
  replace X0 := Lib.hid (X0.out.next hb45)
  replace HL3 := Lib.hid (And.intro (HL3.out.1.stay hb45 (Nat.le_refl _)) (fun b hb o => (hb45.frozen (by have := (HF3.out.1 b hb).2; show b < _; simp; omega)).trans (HL3.out.2 b hb o)))
  clear hlG hfG hb5 hbx5 hb45 HW hsz5 hw34 hoG
  obtain ⟨g0, g1, g2, g3, g4, -⟩ := five HGS.out.boxW
  go_wp2_with fail
  refine (eq_node T _ _ _ _ HGS.out.lieG _ _ _ _ HGS.out.lieW).mono ?_
  rintro e w6 ⟨rfl, hb⟩
  rw [same_yes rfl]
  replace HGS := Lib.hid (HGS.out.next hb)
  replace HX := Lib.hid (HX.out.next hb)
  replace X0 := Lib.hid (X0.out.next hb)
  replace HL3 := Lib.hid (And.intro (HL3.out.1.stay hb (Nat.le_refl _)) (fun b hb' o => (hb.frozen (by have := (HF3.out.1 b hb').2; have := H5z.out; show b < _; simp; omega)).trans (HL3.out.2 b hb' o)))
  clear hb g0 g1 g2 g3 g4
  have x0 := HX.out.cell 0
  have x1 := HX.out.cell 1
  have x2 := HX.out.cell 2
  have x3 := HX.out.cell 3
  have x4 := HX.out.cell 4
  have x5 := HX.out.cell 5
  have x6 := HX.out.cell 6
  have x7 := HX.out.cell 7
  have x8 := HX.out.cell 8
  have x9 := HX.out.cell 9
  have z0 := X0.out.cell 0
  have z1 := X0.out.cell 1
  have z2 := X0.out.cell 2
  have z3 := X0.out.cell 3
  have z4 := X0.out.cell 4
  have z5 := X0.out.cell 5
  have z6 := X0.out.cell 6
  have z7 := X0.out.cell 7
  have z8 := X0.out.cell 8
  have z9 := X0.out.cell 9
  go_wp2_with fail
  replace HX := Lib.hid (HX.out.drew 1); replace X0 := Lib.hid (X0.out.drew 1)
  have hbd := below_drewO (Below.refl w6.heap.size w6) 1
  replace HGS := Lib.hid (HGS.out.next hbd)
  replace HL3 := Lib.hid (And.intro (HL3.out.1.stay hbd (Nat.le_refl _)) (fun b hb' o => HL3.out.2 b hb' o))
  clear hbd
  go_region_held3 (fun w' => w'.cell? ⟨w.heap.size, 0, none⟩ = some (.string A.name) ∧ w'.cell? ⟨w.heap.size, 1, none⟩ = some (.string A.target) ∧ w'.cell? ⟨w.heap.size, 2, none⟩ = some (.int .i64 A.low) ∧ w'.cell? ⟨w.heap.size, 3, none⟩ = some (.int .i64 A.high) ∧ w'.cell? ⟨w.heap.size, 4, none⟩ = some (mvA) ∧ w'.cell? ⟨w.heap.size, 5, none⟩ = some (.int .i64 A.pace.up) ∧ w'.cell? ⟨w.heap.size, 6, none⟩ = some (.int .i64 A.pace.down) ∧ w'.cell? ⟨w.heap.size, 7, none⟩ = some (.int .i64 A.pace.ups) ∧ w'.cell? ⟨w.heap.size, 8, none⟩ = some (.int .i64 A.pace.downs) ∧ w'.cell? ⟨w.heap.size, 9, none⟩ = some (nvA) ∧ w'.cell? ⟨w4.heap.size, 0, none⟩ = some (.string A.name) ∧ w'.cell? ⟨w4.heap.size, 1, none⟩ = some (.string A.target) ∧ w'.cell? ⟨w4.heap.size, 2, none⟩ = some (.int .i64 A.low) ∧ w'.cell? ⟨w4.heap.size, 3, none⟩ = some (.int .i64 A.high) ∧ w'.cell? ⟨w4.heap.size, 4, none⟩ = some (.slice (some ⟨m3, 0, none⟩) A.mets.length A.mets.length) ∧ w'.cell? ⟨w4.heap.size, 5, none⟩ = some (.int .i64 A.pace.up) ∧ w'.cell? ⟨w4.heap.size, 6, none⟩ = some (.int .i64 A.pace.down) ∧ w'.cell? ⟨w4.heap.size, 7, none⟩ = some (.int .i64 A.pace.ups) ∧ w'.cell? ⟨w4.heap.size, 8, none⟩ = some (.int .i64 A.pace.downs) ∧ w'.cell? ⟨w4.heap.size, 9, none⟩ = some (.slice (some ⟨n3, 0, none⟩) A.notes.length A.notes.length)) (go_keep)
    (first
      | (go_at_call 8; refine (TA.out _ HX.out.below).mono ?_; rintro e w7 ⟨m5, n5, F5, F5', rfl, hl5, -, hb⟩
         replace HX := Lib.hid (HX.out.next hb); replace X0 := Lib.hid (X0.out.next hb); replace HGS := Lib.hid (HGS.out.next hb)
         have HB7 := Lib.hid hb
         have HL6 := Lib.hid hl5; clear hl5 hb; clear x0 x1 x2 x3 x4 x5 x6 x7 x8 x9; clear z0 z1 z2 z3 z4 z5 z6 z7 z8 z9; have x0 := HX.out.cell 0; have x1 := HX.out.cell 1; have x2 := HX.out.cell 2; have x3 := HX.out.cell 3; have x4 := HX.out.cell 4; have x5 := HX.out.cell 5; have x6 := HX.out.cell 6; have x7 := HX.out.cell 7; have x8 := HX.out.cell 8; have x9 := HX.out.cell 9; have z0 := X0.out.cell 0; have z1 := X0.out.cell 1; have z2 := X0.out.cell 2; have z3 := X0.out.cell 3; have z4 := X0.out.cell 4; have z5 := X0.out.cell 5; have z6 := X0.out.cell 6; have z7 := X0.out.cell 7; have z8 := X0.out.cell 8; have z9 := X0.out.cell 9)
      | (go_at_call 11; refine (eq_order _ (HL3.out.1.stay HB7.out (Nat.le_refl _)) HL6.out).mono ?_; rintro e w8 ⟨rfl, hb⟩
         replace HX := Lib.hid (HX.out.next hb); replace X0 := Lib.hid (X0.out.next hb); replace HGS := Lib.hid (HGS.out.next hb)
         have HB8 := Lib.hid (HB7.out.trans (hb.mono HB7.out.size))
         clear hb; clear x0 x1 x2 x3 x4 x5 x6 x7 x8 x9; clear z0 z1 z2 z3 z4 z5 z6 z7 z8 z9; have x0 := HX.out.cell 0; have x1 := HX.out.cell 1; have x2 := HX.out.cell 2; have x3 := HX.out.cell 3; have x4 := HX.out.cell 4; have x5 := HX.out.cell 5; have x6 := HX.out.cell 6; have x7 := HX.out.cell 7; have x8 := HX.out.cell 8; have x9 := HX.out.cell 9; have z0 := X0.out.cell 0; have z1 := X0.out.cell 1; have z2 := X0.out.cell 2; have z3 := X0.out.cell 3; have z4 := X0.out.cell 4; have z5 := X0.out.cell 5; have z6 := X0.out.cell 6; have z7 := X0.out.cell 7; have z8 := X0.out.cell 8; have z9 := X0.out.cell 9))
  go_wp2_with fail
  refine (mark_order _ (HL3.out.1.stay HB8.out (Nat.le_refl _)) (fun b hb' o => (HB8.out.frozen (by exact RowAt.lt HL3.out.1.mets (by decide) b hb')).trans (HL3.out.2 b (List.mem_append_left _ hb') o)) (fun b hb' o => (HB8.out.frozen (by exact RowAt.lt HL3.out.1.notes (by decide) b hb')).trans (HL3.out.2 b (List.mem_append_right _ hb') o)) HF3.out.2 HLn.out.1 HLn.out.2).mono ?_
  rintro e w9 ⟨qk, rfl, hb⟩
  replace HGS := Lib.hid (HGS.out.but hb HAp.out.1 HAp.out.2.1 HAp.out.2.2.1 HAp.out.2.2.2.1 (fun x hx => Nat.le_of_lt (HAp.out.2.2.2.2 x hx)))
  replace HX := Lib.hid (bx_but HX.out hb (fun hx => by have := HAp.out.2.2.2.2 _ hx; omega) (fun x hx => Nat.le_of_lt (HAp.out.2.2.2.2 x hx)))
  have hqk : ¬ ((qk : Int) < 0) := by omega
  clear hb x0 x1 x2 x3 x4 x5 x6 x7 x8 x9 z0 z1 z2 z3 z4 z5 z6 z7 z8 z9
  obtain ⟨g0, g1, g2, g3, g4, -⟩ := five HGS.out.boxW
  obtain ⟨y0, y1, y2, y3, y4, -⟩ := five HGS.out.boxG
  go_wp2_with fail
  refine (eq_node T _ _ _ _ HGS.out.lieG _ _ _ _ HGS.out.lieW).mono ?_
  rintro e w10 ⟨rfl, hb⟩
  rw [same_yes rfl]
  replace HGS := Lib.hid (HGS.out.next hb)
  replace HX := Lib.hid (HX.out.next hb)
  clear hb g0 g1 g2 g3 g4 y0 y1 y2 y3 y4
  obtain ⟨y0, y1, y2, y3, y4, -⟩ := five HGS.out.boxG
  go_wp2_with fail
  refine (mark_node1 T _ _ _ _ HGS.out.lieG HGS.out.nodup HGS.out.free HCn.out).mono ?_
  rintro e w11 ⟨rfl, hl11, hb11⟩
  replace HX := Lib.hid (bx_but HX.out hb11 (fun hx => HXb.out _ hx rfl) HGS.out.old)
  replace HGS := Lib.hid (HGS.out.mark hb11 hl11)
  clear hb11 hl11 y0 y1 y2 y3 y4
  have hc0 : ¬ (((1 + T.cnt : Nat) : Int) < 0) := by omega
  generalize hm1 : ((1 + T.cnt : Nat) : Int) = mm at *
  have HM1 := Lib.hid hm1
  clear hm1
  obtain ⟨y0, y1, y2, y3, y4, -⟩ := five HGS.out.boxG
  go_wp2_with fail
  refine (held_node1 T _ _ _ _ HGS.out.lieG HCn.out).mono ?_
  rintro e w12 ⟨rfl, hb⟩
  rw [HM1.out]
  replace HGS := Lib.hid (HGS.out.next hb)
  replace HX := Lib.hid (HX.out.next hb)
  have x0 := HX.out.cell 0
  have x1 := HX.out.cell 1
  have x2 := HX.out.cell 2
  have x3 := HX.out.cell 3
  have x4 := HX.out.cell 4
  have x5 := HX.out.cell 5
  have x6 := HX.out.cell 6
  have x7 := HX.out.cell 7
  have x8 := HX.out.cell 8
  have x9 := HX.out.cell 9
  clear hb y0 y1 y2 y3 y4
  go_wp2_with fail
  refine (TA.out _ HX.out.below).mono ?_
  rintro e w13 ⟨m9, n9, F9, F9', rfl, hl9, -, hb⟩
  have HL9 := Lib.hid hl9
  replace HGS := Lib.hid (HGS.out.next hb)
  replace HX := Lib.hid (HX.out.next hb)
  clear hl9 hb x0 x1 x2 x3 x4 x5 x6 x7 x8 x9
  go_wp2_with fail
  refine (HI.out _ _ _ _ _ HL9.out HX.out.below).mono ?_
  rintro e w14 ⟨kH, dH, FH, rfl, hlH, hfH, hb14⟩
  obtain ⟨⟨oH, cH, rfl⟩, ⟨pH, qH, rfl⟩⟩ := hlH.slices
  have hbx14 := (Below.refl _ w14).alloc (Nat.le_refl _) (.cells #[.int .i64 T.k, .int .i64 T.n, .string T.s, .slice oH T.keys.length cH, .slice pH T.kids.length qH] 32)
  replace HGS := Lib.hid ((HGS.out.next hb14).next hbx14)
  have HL14 := Lib.hid (hlH.stay hbx14 (Nat.le_refl _))
  clear hlH hfH hb14 hbx14 HL9 HX
  obtain ⟨g0, g1, g2, g3, g4, -⟩ := five HGS.out.boxW
  go_wp2_with fail
  refine (eq_node T _ _ _ _ HL14.out _ _ _ _ HGS.out.lieW).mono ?_
  rintro e w15 ⟨rfl, hb⟩
  rw [same_yes rfl]
  replace HGS := Lib.hid (HGS.out.next hb)
  clear hb g0 g1 g2 g3 g4
  obtain ⟨y0, y1, y2, y3, y4, -⟩ := five HGS.out.boxG
  go_wp2_with fail
  refine (held_node1 T _ _ _ _ HGS.out.lieG HCn.out).mono ?_
  rintro e w16 ⟨rfl, hb⟩
  rw [HM1.out]
  replace HGS := Lib.hid (HGS.out.next hb)
  clear hb y0 y1 y2 y3 y4
  go_wp2
  go_ret
  exact ⟨rfl, HGS.out.below⟩
end Go.Proofs.YtfmkhogpnnobeaaGreatDoor

/- whatever reads as a metric, a pace, a note or an order of the laws' own types lies in memory as such. -/
namespace Go.Proofs.YtfmkhogpnnobeaaGreatDoor
open Go Go.RowKit Go.ChangeShapes Go.WideShapes

section
variable {H : Type} {enc : TypeId × Value → H} {w : World} {base : Nat} {held : Bool}

theorem fit_of {x : Int} (h : (Lit.int .i64 x).wf = true) : Fit x := bounds_i64 h

theorem cellsO_string : Tryz.prog.cellsOf 9 = 1 := by kernel_rfl
theorem cellsO_int : Tryz.prog.cellsOf 3 = 1 := by kernel_rfl
theorem cellsO_met : Tryz.prog.cellsOf 80 = 3 := by kernel_rfl
theorem cellsO_pace : Tryz.prog.cellsOf 24 = 4 := by kernel_rfl
theorem cellsO_note : Tryz.prog.cellsOf 83 = 2 := by kernel_rfl
theorem cellsO_order : Tryz.prog.cellsOf 27 = 10 := by kernel_rfl
theorem cellsO_mets : Tryz.prog.cellsOf 22 = 1 := by kernel_rfl
theorem cellsO_nots : Tryz.prog.cellsOf 25 = 1 := by kernel_rfl

set_option maxRecDepth 100000 in
theorem open_met {fuel : Nat} {cs : List Value} {x : DataW H × List MemPlace} (h : DataW.trod enc Tryz.prog w base (fun _ => true) held fuel 80 cs = some x) : ∃ m : Met, cs = m.row ∧ m.ok := by
  obtain ⟨xs, n, rfl, rfl, hl, hlen, hf⟩ := DataW.trod_struct Tryz.underlying80 h
  rw [cellsO_met] at hl
  have hlen3 : xs.length = 3 := hlen
  clear hlen
  match xs, hlen3, cs, hl with
  | [y0, y1, y2], _, [v0, v1, v2], _ =>
    have g0 := hf 0 _ rfl
    have g1 := hf 1 _ rfl
    have g2 := hf 2 _ rfl
    simp [cellsO_int, cellsO_string] at g0 g1 g2
    obtain ⟨s, hv0, -, w0⟩ := DataW.trod_string Tryz.underlying9 g0
    obtain ⟨k, hv1, -, w1⟩ := DataW.trod_int Tryz.underlying3 g1
    obtain ⟨m, hv2, -, w2⟩ := DataW.trod_int Tryz.underlying3 g2
    simp at hv0 hv1 hv2
    subst hv0 hv1 hv2
    exact ⟨⟨s, k, m⟩, rfl, w0, fit_of w1, fit_of w2⟩

set_option maxRecDepth 100000 in
theorem open_note {fuel : Nat} {cs : List Value} {x : DataW H × List MemPlace} (h : DataW.trod enc Tryz.prog w base (fun _ => true) held fuel 83 cs = some x) : ∃ m : Not, cs = m.row ∧ m.ok := by
  obtain ⟨xs, n, rfl, rfl, hl, hlen, hf⟩ := DataW.trod_struct Tryz.underlying83 h
  rw [cellsO_note] at hl
  have hlen3 : xs.length = 2 := hlen
  clear hlen
  match xs, hlen3, cs, hl with
  | [y0, y1], _, [v0, v1], _ =>
    have g0 := hf 0 _ rfl
    have g1 := hf 1 _ rfl
    simp [cellsO_string] at g0 g1
    obtain ⟨s, hv0, -, w0⟩ := DataW.trod_string Tryz.underlying9 g0
    obtain ⟨k, hv1, -, w1⟩ := DataW.trod_string Tryz.underlying9 g1
    simp at hv0 hv1
    subst hv0 hv1
    exact ⟨⟨s, k⟩, rfl, w0, w1⟩

set_option maxRecDepth 100000 in
theorem open_pace {fuel : Nat} {cs : List Value} {x : DataW H × List MemPlace} (h : DataW.trod enc Tryz.prog w base (fun _ => true) held fuel 24 cs = some x) : ∃ p : Pac, cs = [.int .i64 p.up, .int .i64 p.down, .int .i64 p.ups, .int .i64 p.downs] ∧ p.ok := by
  obtain ⟨xs, n, rfl, rfl, hl, hlen, hf⟩ := DataW.trod_struct Tryz.underlying24 h
  rw [cellsO_pace] at hl
  have hlen3 : xs.length = 4 := hlen
  clear hlen
  match xs, hlen3, cs, hl with
  | [y0, y1, y2, y3], _, [v0, v1, v2, v3], _ =>
    have g0 := hf 0 _ rfl
    have g1 := hf 1 _ rfl
    have g2 := hf 2 _ rfl
    have g3 := hf 3 _ rfl
    simp [cellsO_int] at g0 g1 g2 g3
    obtain ⟨a, hv0, -, w0⟩ := DataW.trod_int Tryz.underlying3 g0
    obtain ⟨b, hv1, -, w1⟩ := DataW.trod_int Tryz.underlying3 g1
    obtain ⟨c, hv2, -, w2⟩ := DataW.trod_int Tryz.underlying3 g2
    obtain ⟨d, hv3, -, w3⟩ := DataW.trod_int Tryz.underlying3 g3
    simp at hv0 hv1 hv2 hv3
    subst hv0 hv1 hv2 hv3
    exact ⟨⟨a, b, c, d⟩, rfl, fit_of w0, fit_of w1, fit_of w2, fit_of w3⟩

/-- A list of small structs that is read. -/
theorem open_row {α : Type} (ec : α → List Value) (ok : α → Prop) (k : Nat) (hk : 0 < k) (hlen : ∀ a, (ec a).length = k) {ts te : TypeId} (und : Tryz.prog.underlying ts = some (.slice te)) (hc : Tryz.prog.cellsOf te = k) [Inhabited α]
    (op : ∀ (fuel : Nat) (cs : List Value) (x : DataW H × List MemPlace), DataW.trod enc Tryz.prog w base (fun _ => true) held fuel te cs = some x → ∃ a, cs = ec a ∧ ok a)
    {fuel : Nat} {cs : List Value} {x : DataW H × List MemPlace} (h : DataW.trod enc Tryz.prog w base (fun _ => true) held fuel ts cs = some x) : ∃ v xs F, cs = [v] ∧ RowAt ec ok k w v xs F := by
  rcases DataW.trod_slice und h with ⟨rfl, -⟩ | ⟨a, len, cap, elems, rest, n', rfl, rfl, -, hb, hlc, hm, hlen', hel, hres, -⟩
  · exact ⟨_, [], _, rfl, none, 0, 0, 0, rfl, Nat.le_refl _, Nat.zero_le _, fun h => absurd h (by simp), rfl, fun i hi => absurd hi (by simp), by rw [Nat.zero_mul]; exact Room.nil _ _ _⟩
  · obtain ⟨ab, aoff, aspot⟩ := a
    obtain ⟨hrl, hres⟩ := hres rfl
    rw [hc] at hel hres
    have every : ∀ i, i < cap → ∃ cs' y, w.cells? base ((⟨ab, aoff, aspot⟩ : Addr).add (i * k)) k = some cs' ∧ DataW.trod enc Tryz.prog w base (fun _ => true) held n' te cs' = some y := fun i hi => by
      by_cases hl : i < len
      · have he := hel i hl
        rw [List.getElem?_eq_getElem (by omega), Option.bind_eq_some_iff] at he
        obtain ⟨cs', hc, ht⟩ := he
        exact ⟨cs', _, hc, ht⟩
      · have he := hres (i - len) (by omega)
        rw [List.getElem?_eq_getElem (by omega), Option.bind_eq_some_iff] at he
        obtain ⟨cs', hc, ht⟩ := he
        rw [show len + (i - len) = i by omega] at hc
        exact ⟨cs', _, hc, ht⟩
    have each : ∀ i, i < cap → ∃ q : α, aspot = none ∧ (∀ j, j < k → w.cell? ⟨ab, aoff + i * k + j, none⟩ = (ec q)[j]?) ∧ ok q := fun i hi => by
      obtain ⟨cs', _, hc', ht⟩ := every i hi
      obtain ⟨q, rfl, hL⟩ := op n' cs' _ ht
      obtain ⟨-, -, hcell⟩ := World.cells?_some hc'
      have hspot : aspot = none := by
        obtain ⟨cs0, _, hc0, ht0⟩ := every 0 (by omega)
        obtain ⟨q0, rfl, _⟩ := op n' cs0 _ ht0
        obtain ⟨-, -, hcell0⟩ := World.cells?_some hc0
        have h0 := hcell0 0 hk
        rw [List.getElem?_eq_getElem (by rw [hlen]; exact hk)] at h0
        simp [Addr.add] at h0
        simpa using World.cell?_spot h0
      subst hspot
      refine ⟨q, rfl, fun j hj => ?_, hL⟩
      have := hcell j hj
      rw [add_plain, add_plain] at this
      exact this
    obtain ⟨Q, hQ⟩ := Go.Deep.choose_lt (α := α) each
    by_cases h0 : cap = 0
    · subst h0
      obtain rfl : len = 0 := by omega
      exact ⟨_, [], _, rfl, _, 0, 0, 0, rfl, Nat.zero_le _, hm, fun h => absurd h (by simp), rfl, fun i hi => absurd hi (by simp), by rw [Nat.zero_mul]; exact Room.nil _ _ _⟩
    · have hspot : aspot = none := (hQ 0 (by omega)).1
      subst hspot
      refine ⟨_, (List.range len).map Q, _, rfl, _, cap, ab, aoff, by simp, by simpa using hlc, hm, fun _ => rfl, rfl, fun i hi => ?_, fun i hi => ?_⟩
      · simp only [List.length_map, List.length_range] at hi
        have := (hQ i (by omega)).2
        simpa using ⟨this.2, this.1⟩
      · have hi' : i / k < cap := Nat.div_lt_of_lt_mul (by rw [Nat.mul_comm]; exact hi)
        have := (hQ (i / k) hi').2.1 (i % k) (Nat.mod_lt _ hk)
        rw [Nat.add_assoc, show i / k * k + i % k = i by rw [Nat.mul_comm]; exact Nat.div_add_mod i k] at this
        rw [this, List.getElem?_eq_getElem (by rw [hlen]; exact Nat.mod_lt _ hk)]
        rfl

instance : Inhabited Met := ⟨⟨⟨#[]⟩, 0, 0⟩⟩
instance : Inhabited Not := ⟨⟨⟨#[]⟩, ⟨#[]⟩⟩⟩

set_option maxRecDepth 100000 in
theorem open_order {fuel : Nat} {cs : List Value} {x : DataW H × List MemPlace} (h : DataW.trod enc Tryz.prog w base (fun _ => true) held fuel 27 cs = some x) : ∃ (o : Ord) (mv nv : Value) (FM FN : List Nat), cs = o.row mv nv ∧ OrdAt w o mv nv FM FN := by
  obtain ⟨xs, n, rfl, rfl, hl, hlen, hf⟩ := DataW.trod_struct Tryz.underlying27 h
  rw [cellsO_order] at hl
  have hlen3 : xs.length = 7 := hlen
  clear hlen
  match xs, hlen3, cs, hl with
  | [y0, y1, y2, y3, y4, y5, y6], _, [v0, v1, v2, v3, v4, v5, v6, v7, v8, v9], _ =>
    have g0 := hf 0 _ rfl
    have g1 := hf 1 _ rfl
    have g2 := hf 2 _ rfl
    have g3 := hf 3 _ rfl
    have g4 := hf 4 _ rfl
    have g5 := hf 5 _ rfl
    have g6 := hf 6 _ rfl
    simp [cellsO_string, cellsO_int, cellsO_pace, cellsO_mets, cellsO_nots] at g0 g1 g2 g3 g4 g5 g6
    obtain ⟨s, hv0, -, w0⟩ := DataW.trod_string Tryz.underlying9 g0
    obtain ⟨t, hv1, -, w1⟩ := DataW.trod_string Tryz.underlying9 g1
    obtain ⟨lo, hv2, -, w2⟩ := DataW.trod_int Tryz.underlying3 g2
    obtain ⟨hi, hv3, -, w3⟩ := DataW.trod_int Tryz.underlying3 g3
    obtain ⟨mv, ms, FM, hv4, w4⟩ := open_row Met.row Met.ok 3 (by decide) (fun _ => rfl) Tryz.underlying22 cellsO_met (fun _ _ _ h => open_met h) g4
    obtain ⟨p, hv5, w5⟩ := open_pace g5
    obtain ⟨nv, ns, FN, hv6, w6⟩ := open_row Not.row Not.ok 2 (by decide) (fun _ => rfl) Tryz.underlying25 cellsO_note (fun _ _ _ h => open_note h) g6
    simp at hv0 hv1 hv2 hv3 hv4 hv5 hv6
    subst hv0 hv1 hv2 hv3 hv4 hv6
    obtain ⟨rfl, rfl, rfl, rfl⟩ := hv5
    exact ⟨⟨s, t, lo, hi, ms, p, ns⟩, _, _, FM, FN, rfl, w0, w1, fit_of w2, fit_of w3, w5, w4, w6⟩
end
end Go.Proofs.YtfmkhogpnnobeaaGreatDoor

/- the law FnExactMidTree returns true at every argument, and each argument reads behind the call as it did; condition: the library's table of powers of ten starts as the program's text lays it (the card ties it). -/
namespace Go.Proofs.YtfmkhogpnnobeaaGreatDoor
open Go Go.ChangeShapes Go.WideShapes Go.ChangeAt Go.RowKit
open Go.ChangeMaps (open_string)

theorem midTree_laidOut : laidOutB Tryz.prog = true := by kernel_rfl

/-- The door's own heap meets the condition. -/
theorem midTree_door (os : Os) (args : Array Value) : laidMetH Tryz.prog Rows.fnExactMidTreeRow.laid ((World.doorLaid Tryz.prog 24 os).forCall (fun _ _ => 0) ⟨#[], args, []⟩).memory :=
  laidMetH_of_parts3 (fuel := 8) (laidMet_of_run' 8 (by kernel_rfl) (by kernel_rfl)) (by kernel_rfl) (by kernel_rfl)

set_option maxRecDepth 100000 in
theorem midTree_lifted (os : Os) (started : os.Started) (H : Type) (enc : TypeId × Value → H) :
    ReturnsInHanded {} Tryz.checked os 3 .any (fun w args => (Rows.fnExactMidTreeSpec.pre enc Tryz.prog Tryz.f3 [] false w args ∧ laidMetH Tryz.prog Rows.fnExactMidTreeRow.laid w) ∧ sizedMet enc Tryz.prog Tryz.f3 (OpenSpec.ofChange Rows.fnExactMidTreeSpec) false w args)
      (Rows.fnExactMidTreeSpec.post enc Tryz.prog Tryz.f3 false true false false) := by
  refine returnsInHanded_of_change_and (C := Tryz.checked) (X := fun w _ => laidMetH Tryz.prog Rows.fnExactMidTreeRow.laid w) (fun _ _ _ hh h => h.of_heap hh) own started (by kernel_rfl) Tryz.func3
    (ChangeSpec.witness_shaped (enc := enc) (C := Tryz.checked) (os := os) (X := fun w _ => laidMetH Tryz.prog Rows.fnExactMidTreeRow.laid w) false (World.doorLaid Tryz.prog 24 os) #[.agg #[.string ⟨#[]⟩, .string ⟨#[]⟩, .int .i64 0, .int .i64 0, .slice none 0 0, .int .i64 0, .int .i64 0, .int .i64 0, .int .i64 0, .slice none 0 0]] 8 rfl (World.shaped_of_RefB (by kernel_rfl) (by kernel_rfl)) (by kernel_rfl) (by kernel_rfl) (by kernel_rfl) (midTree_door os _)) ?_
  intro W base args ds gs before hval0 hW _ _ hL _
  have hval : ∀ (j : Nat) t v, Tryz.f3.params[j]? = some t → args[j]? = some v → Value.okWide Tryz.prog W .any base t v := hval0
  have hW' := hW
  obtain ⟨p, q, hA0, hV, rfl, hfz, hnd⟩ := hW
  have hA : DataW.TrodAll enc Tryz.prog W 0 (fun _ => true) true Tryz.f3.params.toList args.toList ds p := hA0
  rw [Tryz.params3] at hA hval
  obtain ⟨v0, vs0, d0, ds0, p0, q0, hargs, rfl, rfl, h0, r0⟩ := trodAll_cons hA
  obtain ⟨rfl, rfl, rfl⟩ := trodAll_nil r0
  obtain rfl : args = #[v0] := by cases args; simp_all
  obtain ⟨rfl, rfl⟩ := trodVars_none hV
  have k0 := h0
  have lt0 : ∀ x ∈ p0, x.block < W.heap.size := by obtain ⟨m, hm⟩ := k0; exact DataW.trod_lt m _ _ _ hm
  obtain ⟨cs0, rfl, -⟩ := okWide_struct Tryz.underlying27 (hval 0 27 v0 rfl rfl)
  obtain ⟨O0, mv0, nv0, FM0, FN0, hr0, hl0⟩ : ∃ (o : Ord) (mv nv : Value) (FM FN : List Nat), cs0.toList = o.row mv nv ∧ OrdAt W o mv nv FM FN := by
    obtain ⟨fuel, hf⟩ := h0
    exact open_order hf
  obtain rfl : cs0 = #[.string O0.name, .string O0.target, .int .i64 O0.low, .int .i64 O0.high, mv0, .int .i64 O0.pace.up, .int .i64 O0.pace.down, .int .i64 O0.pace.ups, .int .i64 O0.pace.downs, nv0] := by cases cs0; simpa [Met.row, Ord.row] using hr0
  clear hA0 hval0
  rw [MakeChecks.laidMetH_plain _ _ _ (by kernel_rfl)] at hL
  refine (midTree_walk O0 mv0 nv0 FM0 FN0 W hl0 (pow_of_laid hL.tail.tail)).mono fun e W' ⟨he, hb⟩ => ?_
  subst he
  exact ⟨_, rfl, _, _, _, [], _, [], hW', trodAll_mk1 (shut_bool Tryz.underlying4 _), (trodAll_cons_mk (Below.trod midTree_laidOut (by kernel_rfl) (of_decide_eq_true (by kernel_rfl)) k0 hb lt0) trodAll_mk0), rfl, hb.frame _, fun h => by cases h⟩

theorem midTree_row_holds : Rows.FnExactMidTreeSaid :=
  OpenClaim.holds_of_wide 3 Tryz.f3 rfl rfl rfl rfl rfl rfl rfl ⟨rfl, rfl, rfl, rfl, rfl⟩ rfl rfl rfl rfl rfl (by kernel_rfl) Tryz.func3 (by kernel_rfl)
    (of_decide_eq_true (by kernel_rfl)) (by unfold Func.isWrapper; first | (rw [if_pos (by decide +kernel)]; kernel_rfl) | (rw [if_neg (by decide +kernel)]; exact ⟨rfl, rfl⟩))
    (fun os started H enc _ => midTree_lifted os started H enc)

/-- The given card. -/
theorem midTree_holds : Rows.FnExactMidTreeCardSaid :=
  Claim7.holds_tied_plain_at .later [] [.data, .data, .data] true _ true
    midTree_row_holds (fun _ h => by cases h) (by kernel_rfl) (fun _ h => by cases h) fnExactMidTree_row_tie rfl ⟨rfl, rfl⟩ (by kernel_rfl) rfl
    (fun f fn hf hfn => by
      obtain rfl : f = 3 := Option.some.inj ((show Tryz.prog.funcNamed "loop.example/g00465/laws.FnExactMidTree" = some 3 by kernel_rfl).symm.trans hf) |>.symm
      obtain rfl : fn = Tryz.f3 := (Option.some.inj (Tryz.func3.symm.trans hfn)).symm
      exact ⟨by kernel_rfl, fun j t ht => by
        rw [Tryz.params3] at ht
        have hm : t ∈ [27] := by have := Array.mem_of_getElem? ht; simp at this ⊢; omega
        have hall : ([27].all fun u => !Tryz.prog.wantsStandIn u) = true := by kernel_rfl
        exact (show Tryz.prog.wantsStandIn t = false by simpa using List.all_eq_true.1 hall t hm)⟩)
    (by kernel_rfl)
end Go.Proofs.YtfmkhogpnnobeaaGreatDoor
