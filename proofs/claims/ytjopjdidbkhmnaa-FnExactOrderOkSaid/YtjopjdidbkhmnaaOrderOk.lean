/-
  What is proved: for any order the program's OrderOk answers as the model's OrderOk does, and the law returns true with its argument as it was; no condition.
-/
import Derived.Test.YtjopjdidbkhmnaaOrdOkP
import Derived.Test.YtjopjdidbkhmnaaOrdToO
import Derived.Test.YtjopjdidbkhmnaaOrdEqs
namespace Go.Proofs.Ytjopjdidbkhmnaa
open Go Go.RowKit


set_option maxRecDepth 100000 in
set_option maxHeartbeats 8000000 in
theorem orderOk_walk (A : Ord) (mvA nvA : Value) (FMA FNA : List Nat) (w : World) (hA : OrdAt w A mvA nvA FMA FNA) :
    Calls Try.prog 7 #[.agg #[.string A.name, .string A.target, .int .i64 A.low, .int .i64 A.high, mvA, .int .i64 A.pace.up, .int .i64 A.pace.down, .int .i64 A.pace.ups, .int .i64 A.pace.downs, nvA]] w fun e w' => e = .returned (.bool true) ∧ Below w.heap.size w w' := by
  have SA := Lib.hid fun (wr : World) (hb : Below w.heap.size w wr) => sz_order wr (hA.stay hb (Nat.le_refl _)) 1048576 (by omega) (by omega)
  have HX := Lib.hid (Bx.start w #[.string A.name, .string A.target, .int .i64 A.low, .int .i64 A.high, mvA, .int .i64 A.pace.up, .int .i64 A.pace.down, .int .i64 A.pace.ups, .int .i64 A.pace.downs, nvA] 42)
  by_cases hsA : (A.sz : Int) ≤ 1048576
  case neg =>
    clear hA
    go_enter Try.func7, Try.ntmps7
    go_wp2_with (first
      | (go_at_call 21; refine (SA.out _ HX.out.below).mono ?_; rintro e w1 ⟨rfl, hb1⟩; rw [left_no hsA]; replace HX := Lib.hid (HX.out.next hb1); clear hb1)
      | fail)
    go_ret
    exact ⟨rfl, HX.out.below⟩
  have TA := Lib.hid fun (wr : World) (hb : Below w.heap.size w wr) => to_order wr (hA.stay hb (Nat.le_refl _)) (by omega)
  clear hA
  have t1 : True := trivial
  have t2 : True := trivial
  go_enter Try.func7, Try.ntmps7
  go_wp2_with (first
    | (go_at_call 21; refine (SA.out _ HX.out.below).mono ?_; rintro e w1 ⟨rfl, hb1⟩; rw [left_ok (by omega)]; replace HX := Lib.hid (HX.out.next hb1); clear hb1; have x0 := HX.out.cell 0; have x1 := HX.out.cell 1; have x2 := HX.out.cell 2; have x3 := HX.out.cell 3; have x4 := HX.out.cell 4; have x5 := HX.out.cell 5; have x6 := HX.out.cell 6; have x7 := HX.out.cell 7; have x8 := HX.out.cell 8; have x9 := HX.out.cell 9)
    | (go_at_call 23; clear t1; refine (TA.out _ HX.out.below).mono ?_; rintro e w2 ⟨m1, n1, F1, F1', rfl, hl1, -, hb1⟩; replace HX := Lib.hid (HX.out.next hb1); have HL1 := Lib.hid hl1; clear hl1 hb1; clear x0 x1 x2 x3 x4 x5 x6 x7 x8 x9)
    | (go_at_call 22; refine (spec_orderOk _ HL1.out).mono ?_; rintro e w3 ⟨rfl, hb1⟩; replace HX := Lib.hid (HX.out.next hb1); clear hb1 HL1; have x0 := HX.out.cell 0; have x1 := HX.out.cell 1; have x2 := HX.out.cell 2; have x3 := HX.out.cell 3; have x4 := HX.out.cell 4; have x5 := HX.out.cell 5; have x6 := HX.out.cell 6; have x7 := HX.out.cell 7; have x8 := HX.out.cell 8; have x9 := HX.out.cell 9)
    | (go_at_call 23; clear t2; refine (TA.out _ HX.out.below).mono ?_; rintro e w4 ⟨m3, n3, F3, F3', rfl, hl3, -, hb1⟩; replace HX := Lib.hid ((HX.out.next hb1).alloc (.cells #[.string A.name, .string A.target, .int .i64 A.low, .int .i64 A.high, .slice (some ⟨m3, 0, none⟩) A.mets.length A.mets.length, .int .i64 A.pace.up, .int .i64 A.pace.down, .int .i64 A.pace.ups, .int .i64 A.pace.downs, .slice (some ⟨n3, 0, none⟩) A.notes.length A.notes.length] 48))
       have X0 := Lib.hid (Bx.start w4 #[.string A.name, .string A.target, .int .i64 A.low, .int .i64 A.high, .slice (some ⟨m3, 0, none⟩) A.mets.length A.mets.length, .int .i64 A.pace.up, .int .i64 A.pace.down, .int .i64 A.pace.ups, .int .i64 A.pace.downs, .slice (some ⟨n3, 0, none⟩) A.notes.length A.notes.length] 48)
       have HL3 := Lib.hid (hl3.stay ((Below.refl _ w4).alloc (Nat.le_refl _) (.cells #[.string A.name, .string A.target, .int .i64 A.low, .int .i64 A.high, .slice (some ⟨m3, 0, none⟩) A.mets.length A.mets.length, .int .i64 A.pace.up, .int .i64 A.pace.down, .int .i64 A.pace.ups, .int .i64 A.pace.downs, .slice (some ⟨n3, 0, none⟩) A.notes.length A.notes.length] 48)) (Nat.le_refl _)); clear hl3 hb1; clear x0 x1 x2 x3 x4 x5 x6 x7 x8 x9)
    | (go_at_call 24; refine (impl_orderOk _ HL3.out).mono ?_; rintro e w5 ⟨rfl, hb1⟩
       replace HX := Lib.hid (HX.out.next hb1); replace X0 := Lib.hid (X0.out.next hb1)
       replace HL3 := Lib.hid (HL3.out.stay hb1 (Nat.le_refl _))
       clear hb1)
    | fail)
  have x0 := HX.out.cell 0; have x1 := HX.out.cell 1; have x2 := HX.out.cell 2; have x3 := HX.out.cell 3; have x4 := HX.out.cell 4; have x5 := HX.out.cell 5; have x6 := HX.out.cell 6; have x7 := HX.out.cell 7; have x8 := HX.out.cell 8; have x9 := HX.out.cell 9
  have z0 := X0.out.cell 0; have z1 := X0.out.cell 1; have z2 := X0.out.cell 2; have z3 := X0.out.cell 3; have z4 := X0.out.cell 4; have z5 := X0.out.cell 5; have z6 := X0.out.cell 6; have z7 := X0.out.cell 7; have z8 := X0.out.cell 8; have z9 := X0.out.cell 9
  replace HX := Lib.hid (HX.out.drew 1); replace X0 := Lib.hid (X0.out.drew 1)
  replace HL3 := Lib.hid (HL3.out.stay (below_drewO (Below.refl _ w5) 1) (Nat.le_refl _))
  go_region_held3 (fun w' => w'.cell? ⟨w.heap.size, 0, none⟩ = some (.string A.name) ∧ w'.cell? ⟨w.heap.size, 1, none⟩ = some (.string A.target) ∧ w'.cell? ⟨w.heap.size, 2, none⟩ = some (.int .i64 A.low) ∧ w'.cell? ⟨w.heap.size, 3, none⟩ = some (.int .i64 A.high) ∧ w'.cell? ⟨w.heap.size, 4, none⟩ = some (mvA) ∧ w'.cell? ⟨w.heap.size, 5, none⟩ = some (.int .i64 A.pace.up) ∧ w'.cell? ⟨w.heap.size, 6, none⟩ = some (.int .i64 A.pace.down) ∧ w'.cell? ⟨w.heap.size, 7, none⟩ = some (.int .i64 A.pace.ups) ∧ w'.cell? ⟨w.heap.size, 8, none⟩ = some (.int .i64 A.pace.downs) ∧ w'.cell? ⟨w.heap.size, 9, none⟩ = some (nvA) ∧ w'.cell? ⟨w4.heap.size, 0, none⟩ = some (.string A.name) ∧ w'.cell? ⟨w4.heap.size, 1, none⟩ = some (.string A.target) ∧ w'.cell? ⟨w4.heap.size, 2, none⟩ = some (.int .i64 A.low) ∧ w'.cell? ⟨w4.heap.size, 3, none⟩ = some (.int .i64 A.high) ∧ w'.cell? ⟨w4.heap.size, 4, none⟩ = some (.slice (some ⟨m3, 0, none⟩) A.mets.length A.mets.length) ∧ w'.cell? ⟨w4.heap.size, 5, none⟩ = some (.int .i64 A.pace.up) ∧ w'.cell? ⟨w4.heap.size, 6, none⟩ = some (.int .i64 A.pace.down) ∧ w'.cell? ⟨w4.heap.size, 7, none⟩ = some (.int .i64 A.pace.ups) ∧ w'.cell? ⟨w4.heap.size, 8, none⟩ = some (.int .i64 A.pace.downs) ∧ w'.cell? ⟨w4.heap.size, 9, none⟩ = some (.slice (some ⟨n3, 0, none⟩) A.notes.length A.notes.length)) (go_keep)
    (first
      | (go_at_call 23; refine (TA.out _ HX.out.below).mono ?_; rintro e w6 ⟨m5, n5, F5, F5', rfl, hl5, -, hb1⟩
         replace HX := Lib.hid (HX.out.next hb1); replace X0 := Lib.hid (X0.out.next hb1)
         replace HL3 := Lib.hid (HL3.out.stay hb1 (Nat.le_refl _))
         have HL6 := Lib.hid hl5; clear hl5 hb1; clear x0 x1 x2 x3 x4 x5 x6 x7 x8 x9; clear z0 z1 z2 z3 z4 z5 z6 z7 z8 z9; have x0 := HX.out.cell 0; have x1 := HX.out.cell 1; have x2 := HX.out.cell 2; have x3 := HX.out.cell 3; have x4 := HX.out.cell 4; have x5 := HX.out.cell 5; have x6 := HX.out.cell 6; have x7 := HX.out.cell 7; have x8 := HX.out.cell 8; have x9 := HX.out.cell 9; have z0 := X0.out.cell 0; have z1 := X0.out.cell 1; have z2 := X0.out.cell 2; have z3 := X0.out.cell 3; have z4 := X0.out.cell 4; have z5 := X0.out.cell 5; have z6 := X0.out.cell 6; have z7 := X0.out.cell 7; have z8 := X0.out.cell 8; have z9 := X0.out.cell 9)
      | (go_at_call 25; refine (eq_order _ HL3.out HL6.out).mono ?_; rintro e w7 ⟨rfl, hb1⟩
         replace HX := Lib.hid (HX.out.next hb1); replace X0 := Lib.hid (X0.out.next hb1)
         clear hb1; clear x0 x1 x2 x3 x4 x5 x6 x7 x8 x9; clear z0 z1 z2 z3 z4 z5 z6 z7 z8 z9; have x0 := HX.out.cell 0; have x1 := HX.out.cell 1; have x2 := HX.out.cell 2; have x3 := HX.out.cell 3; have x4 := HX.out.cell 4; have x5 := HX.out.cell 5; have x6 := HX.out.cell 6; have x7 := HX.out.cell 7; have x8 := HX.out.cell 8; have x9 := HX.out.cell 9; have z0 := X0.out.cell 0; have z1 := X0.out.cell 1; have z2 := X0.out.cell 2; have z3 := X0.out.cell 3; have z4 := X0.out.cell 4; have z5 := X0.out.cell 5; have z6 := X0.out.cell 6; have z7 := X0.out.cell 7; have z8 := X0.out.cell 8; have z9 := X0.out.cell 9))
  go_wp2
  go_ret
  exact ⟨rfl, HX.out.below⟩
end Go.Proofs.Ytjopjdidbkhmnaa
