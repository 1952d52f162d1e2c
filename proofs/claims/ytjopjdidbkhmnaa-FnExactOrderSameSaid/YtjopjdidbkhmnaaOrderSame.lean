/-
  What is proved: for any two orders the program's OrderSame answers as the model's OrderSame does, and the law returns true with its arguments as they were; no condition.
-/
import Derived.Test.YtjopjdidbkhmnaaOrdSameI
import Derived.Test.YtjopjdidbkhmnaaOrdToO
import Derived.Test.YtjopjdidbkhmnaaOrdEqs
namespace Go.Proofs.Ytjopjdidbkhmnaa
open Go Go.RowKit


set_option maxRecDepth 100000 in
set_option maxHeartbeats 8000000 in
theorem orderSame_walk (A : Ord) (mvA nvA : Value) (FMA FNA : List Nat) (B : Ord) (mvB nvB : Value) (FMB FNB : List Nat) (w : World) (hA : OrdAt w A mvA nvA FMA FNA) (hB : OrdAt w B mvB nvB FMB FNB) :
    Calls Try.prog 8 #[.agg #[.string A.name, .string A.target, .int .i64 A.low, .int .i64 A.high, mvA, .int .i64 A.pace.up, .int .i64 A.pace.down, .int .i64 A.pace.ups, .int .i64 A.pace.downs, nvA], .agg #[.string B.name, .string B.target, .int .i64 B.low, .int .i64 B.high, mvB, .int .i64 B.pace.up, .int .i64 B.pace.down, .int .i64 B.pace.ups, .int .i64 B.pace.downs, nvB]] w fun e w' => e = .returned (.bool true) ∧ Below w.heap.size w w' := by
  have SA := Lib.hid fun (wr : World) (hb : Below w.heap.size w wr) => sz_order wr (hA.stay hb (Nat.le_refl _)) 1048576 (by omega) (by omega)
  have SB := Lib.hid fun (wr : World) (hb : Below w.heap.size w wr) => sz_order wr (hB.stay hb (Nat.le_refl _))
  have HX := Lib.hid (Two.start w #[.string A.name, .string A.target, .int .i64 A.low, .int .i64 A.high, mvA, .int .i64 A.pace.up, .int .i64 A.pace.down, .int .i64 A.pace.ups, .int .i64 A.pace.downs, nvA] #[.string B.name, .string B.target, .int .i64 B.low, .int .i64 B.high, mvB, .int .i64 B.pace.up, .int .i64 B.pace.down, .int .i64 B.pace.ups, .int .i64 B.pace.downs, nvB] 42)
  have t1 : True := trivial
  have t2 : True := trivial
  by_cases hsA : (A.sz : Int) ≤ 1048576
  case neg =>
    clear hA hB
    go_enter Try.func8, Try.ntmps8
    go_wp2_with (first
      | (go_at_call 21; refine (SA.out _ HX.out.1.below).mono ?_; rintro e w1 ⟨rfl, hb1⟩; rw [left_no hsA]; replace HX := Lib.hid (HX.out.next hb1); clear hb1)
      | fail)
    go_ret
    exact ⟨rfl, HX.out.1.below⟩
  by_cases hsB : (B.sz : Int) ≤ 1048576 - A.sz
  case neg =>
    clear hA hB
    go_enter Try.func8, Try.ntmps8
    go_wp2_with (first
      | (go_at_call 21; clear t1; refine (SA.out _ HX.out.1.below).mono ?_; rintro e w1 ⟨rfl, hb1⟩; rw [left_ok (by omega)]; replace HX := Lib.hid (HX.out.next hb1); clear hb1; have y0 := HX.out.2.cell 0; have y1 := HX.out.2.cell 1; have y2 := HX.out.2.cell 2; have y3 := HX.out.2.cell 3; have y4 := HX.out.2.cell 4; have y5 := HX.out.2.cell 5; have y6 := HX.out.2.cell 6; have y7 := HX.out.2.cell 7; have y8 := HX.out.2.cell 8; have y9 := HX.out.2.cell 9)
      | fail)
    go_wp2_with (first
      | (go_at_call 21; clear t2; refine (SB.out _ HX.out.1.below _ (by omega) (by omega)).mono ?_; rintro e w2 ⟨rfl, hb1⟩; rw [left_no (by omega)]; replace HX := Lib.hid (HX.out.next hb1); clear hb1; clear y0 y1 y2 y3 y4 y5 y6 y7 y8 y9)
      | fail)
    go_ret
    exact ⟨rfl, HX.out.1.below⟩
  have TA := Lib.hid fun (wr : World) (hb : Below w.heap.size w wr) => to_order wr (hA.stay hb (Nat.le_refl _)) (by omega)
  have TB := Lib.hid fun (wr : World) (hb : Below w.heap.size w wr) => to_order wr (hB.stay hb (Nat.le_refl _)) (by omega)
  clear hA hB
  go_enter Try.func8, Try.ntmps8
  go_wp2_with (first
    | (go_at_call 21; clear t1; refine (SA.out _ HX.out.1.below).mono ?_; rintro e w1 ⟨rfl, hb1⟩; rw [left_ok (by omega)]; replace HX := Lib.hid (HX.out.next hb1); clear hb1; have y0 := HX.out.2.cell 0; have y1 := HX.out.2.cell 1; have y2 := HX.out.2.cell 2; have y3 := HX.out.2.cell 3; have y4 := HX.out.2.cell 4; have y5 := HX.out.2.cell 5; have y6 := HX.out.2.cell 6; have y7 := HX.out.2.cell 7; have y8 := HX.out.2.cell 8; have y9 := HX.out.2.cell 9)
    | fail)
  go_wp2_with (first
    | (go_at_call 21; clear t2; refine (SB.out _ HX.out.1.below _ (by omega) (by omega)).mono ?_; rintro e w2 ⟨rfl, hb1⟩; rw [left_ok (by omega)]; replace HX := Lib.hid (HX.out.next hb1); clear hb1; clear y0 y1 y2 y3 y4 y5 y6 y7 y8 y9)
    | fail)
  clear SA SB hsA hsB
  have x0 := HX.out.1.cell 0; have x1 := HX.out.1.cell 1; have x2 := HX.out.1.cell 2; have x3 := HX.out.1.cell 3; have x4 := HX.out.1.cell 4; have x5 := HX.out.1.cell 5; have x6 := HX.out.1.cell 6; have x7 := HX.out.1.cell 7; have x8 := HX.out.1.cell 8; have x9 := HX.out.1.cell 9
  have y0 := HX.out.2.cell 0; have y1 := HX.out.2.cell 1; have y2 := HX.out.2.cell 2; have y3 := HX.out.2.cell 3; have y4 := HX.out.2.cell 4; have y5 := HX.out.2.cell 5; have y6 := HX.out.2.cell 6; have y7 := HX.out.2.cell 7; have y8 := HX.out.2.cell 8; have y9 := HX.out.2.cell 9
  replace HX := Lib.hid (HX.out.drew 1)
  go_region_held3 (fun w' => w'.cell? ⟨w.heap.size, 0, none⟩ = some (.string A.name) ∧ w'.cell? ⟨w.heap.size, 1, none⟩ = some (.string A.target) ∧ w'.cell? ⟨w.heap.size, 2, none⟩ = some (.int .i64 A.low) ∧ w'.cell? ⟨w.heap.size, 3, none⟩ = some (.int .i64 A.high) ∧ w'.cell? ⟨w.heap.size, 4, none⟩ = some (mvA) ∧ w'.cell? ⟨w.heap.size, 5, none⟩ = some (.int .i64 A.pace.up) ∧ w'.cell? ⟨w.heap.size, 6, none⟩ = some (.int .i64 A.pace.down) ∧ w'.cell? ⟨w.heap.size, 7, none⟩ = some (.int .i64 A.pace.ups) ∧ w'.cell? ⟨w.heap.size, 8, none⟩ = some (.int .i64 A.pace.downs) ∧ w'.cell? ⟨w.heap.size, 9, none⟩ = some (nvA) ∧ w'.cell? ⟨w.heap.size + 1, 0, none⟩ = some (.string B.name) ∧ w'.cell? ⟨w.heap.size + 1, 1, none⟩ = some (.string B.target) ∧ w'.cell? ⟨w.heap.size + 1, 2, none⟩ = some (.int .i64 B.low) ∧ w'.cell? ⟨w.heap.size + 1, 3, none⟩ = some (.int .i64 B.high) ∧ w'.cell? ⟨w.heap.size + 1, 4, none⟩ = some (mvB) ∧ w'.cell? ⟨w.heap.size + 1, 5, none⟩ = some (.int .i64 B.pace.up) ∧ w'.cell? ⟨w.heap.size + 1, 6, none⟩ = some (.int .i64 B.pace.down) ∧ w'.cell? ⟨w.heap.size + 1, 7, none⟩ = some (.int .i64 B.pace.ups) ∧ w'.cell? ⟨w.heap.size + 1, 8, none⟩ = some (.int .i64 B.pace.downs) ∧ w'.cell? ⟨w.heap.size + 1, 9, none⟩ = some (nvB)) (go_keep)
    (first
      | (go_at_call_of 23 mvA; refine (TA.out _ HX.out.1.below).mono ?_; rintro e w3 ⟨m1, n1, F1, F1', rfl, hl1, -, hb1⟩; replace HX := Lib.hid (HX.out.next hb1); have HL1 := Lib.hid hl1; clear hl1 hb1; clear x0 x1 x2 x3 x4 x5 x6 x7 x8 x9 y0 y1 y2 y3 y4 y5 y6 y7 y8 y9; have x0 := HX.out.1.cell 0; have x1 := HX.out.1.cell 1; have x2 := HX.out.1.cell 2; have x3 := HX.out.1.cell 3; have x4 := HX.out.1.cell 4; have x5 := HX.out.1.cell 5; have x6 := HX.out.1.cell 6; have x7 := HX.out.1.cell 7; have x8 := HX.out.1.cell 8; have x9 := HX.out.1.cell 9; have y0 := HX.out.2.cell 0; have y1 := HX.out.2.cell 1; have y2 := HX.out.2.cell 2; have y3 := HX.out.2.cell 3; have y4 := HX.out.2.cell 4; have y5 := HX.out.2.cell 5; have y6 := HX.out.2.cell 6; have y7 := HX.out.2.cell 7; have y8 := HX.out.2.cell 8; have y9 := HX.out.2.cell 9)
      | (go_at_call_of 23 mvB; refine (TB.out _ HX.out.1.below).mono ?_; rintro e w4 ⟨m2, n2, F2, F2', rfl, hl2, -, hb1⟩; replace HX := Lib.hid (HX.out.next hb1); have HL2 := Lib.hid (And.intro (HL1.out.stay hb1 (Nat.le_refl _)) hl2); clear hl2 hb1; clear x0 x1 x2 x3 x4 x5 x6 x7 x8 x9 y0 y1 y2 y3 y4 y5 y6 y7 y8 y9; have x0 := HX.out.1.cell 0; have x1 := HX.out.1.cell 1; have x2 := HX.out.1.cell 2; have x3 := HX.out.1.cell 3; have x4 := HX.out.1.cell 4; have x5 := HX.out.1.cell 5; have x6 := HX.out.1.cell 6; have x7 := HX.out.1.cell 7; have x8 := HX.out.1.cell 8; have x9 := HX.out.1.cell 9; have y0 := HX.out.2.cell 0; have y1 := HX.out.2.cell 1; have y2 := HX.out.2.cell 2; have y3 := HX.out.2.cell 3; have y4 := HX.out.2.cell 4; have y5 := HX.out.2.cell 5; have y6 := HX.out.2.cell 6; have y7 := HX.out.2.cell 7; have y8 := HX.out.2.cell 8; have y9 := HX.out.2.cell 9)
      | (go_at_call 26; refine (spec_orderSame _ HL2.out.1 HL2.out.2).mono ?_; rintro e w5 ⟨rfl, hb1⟩; replace HX := Lib.hid (HX.out.next hb1); clear hb1; clear x0 x1 x2 x3 x4 x5 x6 x7 x8 x9 y0 y1 y2 y3 y4 y5 y6 y7 y8 y9; have x0 := HX.out.1.cell 0; have x1 := HX.out.1.cell 1; have x2 := HX.out.1.cell 2; have x3 := HX.out.1.cell 3; have x4 := HX.out.1.cell 4; have x5 := HX.out.1.cell 5; have x6 := HX.out.1.cell 6; have x7 := HX.out.1.cell 7; have x8 := HX.out.1.cell 8; have x9 := HX.out.1.cell 9; have y0 := HX.out.2.cell 0; have y1 := HX.out.2.cell 1; have y2 := HX.out.2.cell 2; have y3 := HX.out.2.cell 3; have y4 := HX.out.2.cell 4; have y5 := HX.out.2.cell 5; have y6 := HX.out.2.cell 6; have y7 := HX.out.2.cell 7; have y8 := HX.out.2.cell 8; have y9 := HX.out.2.cell 9))
  clear HL1 HL2
  clear x0 x1 x2 x3 x4 x5 x6 x7 x8 x9 y0 y1 y2 y3 y4 y5 y6 y7 y8 y9
  have x0 := HX.out.1.cell 0; have x1 := HX.out.1.cell 1; have x2 := HX.out.1.cell 2; have x3 := HX.out.1.cell 3; have x4 := HX.out.1.cell 4; have x5 := HX.out.1.cell 5; have x6 := HX.out.1.cell 6; have x7 := HX.out.1.cell 7; have x8 := HX.out.1.cell 8; have x9 := HX.out.1.cell 9
  have t3 : True := trivial
  have t4 : True := trivial
  go_wp2_with (first
    | (go_at_call_of 23 mvA; clear t3; refine (TA.out _ HX.out.1.below).mono ?_; rintro e w6 ⟨m3, n3, F3, F3', rfl, hl3, -, hb1⟩; replace HX := Lib.hid ((HX.out.next hb1).next ((Below.refl _ w6).alloc (Nat.le_refl _) (.cells #[.string A.name, .string A.target, .int .i64 A.low, .int .i64 A.high, .slice (some ⟨m3, 0, none⟩) A.mets.length A.mets.length, .int .i64 A.pace.up, .int .i64 A.pace.down, .int .i64 A.pace.ups, .int .i64 A.pace.downs, .slice (some ⟨n3, 0, none⟩) A.notes.length A.notes.length] 48)))
       have X0 := Lib.hid (Bx.start w6 #[.string A.name, .string A.target, .int .i64 A.low, .int .i64 A.high, .slice (some ⟨m3, 0, none⟩) A.mets.length A.mets.length, .int .i64 A.pace.up, .int .i64 A.pace.down, .int .i64 A.pace.ups, .int .i64 A.pace.downs, .slice (some ⟨n3, 0, none⟩) A.notes.length A.notes.length] 48)
       have HL3 := Lib.hid (hl3.stay ((Below.refl _ w6).alloc (Nat.le_refl _) (.cells #[.string A.name, .string A.target, .int .i64 A.low, .int .i64 A.high, .slice (some ⟨m3, 0, none⟩) A.mets.length A.mets.length, .int .i64 A.pace.up, .int .i64 A.pace.down, .int .i64 A.pace.ups, .int .i64 A.pace.downs, .slice (some ⟨n3, 0, none⟩) A.notes.length A.notes.length] 48)) (Nat.le_refl _)); clear hl3 hb1; clear x0 x1 x2 x3 x4 x5 x6 x7 x8 x9; have y0 := HX.out.2.cell 0; have y1 := HX.out.2.cell 1; have y2 := HX.out.2.cell 2; have y3 := HX.out.2.cell 3; have y4 := HX.out.2.cell 4; have y5 := HX.out.2.cell 5; have y6 := HX.out.2.cell 6; have y7 := HX.out.2.cell 7; have y8 := HX.out.2.cell 8; have y9 := HX.out.2.cell 9)
    | fail)
  go_wp2_with (first
    | (go_at_call_of 23 mvB; clear t4; refine (TB.out _ HX.out.1.below).mono ?_; rintro e w7 ⟨m4, n4, F4, F4', rfl, hl4, -, hb1⟩; replace HX := Lib.hid ((HX.out.next hb1).next ((Below.refl _ w7).alloc (Nat.le_refl _) (.cells #[.string B.name, .string B.target, .int .i64 B.low, .int .i64 B.high, .slice (some ⟨m4, 0, none⟩) B.mets.length B.mets.length, .int .i64 B.pace.up, .int .i64 B.pace.down, .int .i64 B.pace.ups, .int .i64 B.pace.downs, .slice (some ⟨n4, 0, none⟩) B.notes.length B.notes.length] 48)))
       replace X0 := Lib.hid ((X0.out.next hb1).alloc (.cells #[.string B.name, .string B.target, .int .i64 B.low, .int .i64 B.high, .slice (some ⟨m4, 0, none⟩) B.mets.length B.mets.length, .int .i64 B.pace.up, .int .i64 B.pace.down, .int .i64 B.pace.ups, .int .i64 B.pace.downs, .slice (some ⟨n4, 0, none⟩) B.notes.length B.notes.length] 48))
       have X1 := Lib.hid (Bx.start w7 #[.string B.name, .string B.target, .int .i64 B.low, .int .i64 B.high, .slice (some ⟨m4, 0, none⟩) B.mets.length B.mets.length, .int .i64 B.pace.up, .int .i64 B.pace.down, .int .i64 B.pace.ups, .int .i64 B.pace.downs, .slice (some ⟨n4, 0, none⟩) B.notes.length B.notes.length] 48)
       have HL4 := Lib.hid (And.intro ((HL3.out.stay hb1 (Nat.le_refl _)).stay ((Below.refl _ w7).alloc (Nat.le_refl _) (.cells #[.string B.name, .string B.target, .int .i64 B.low, .int .i64 B.high, .slice (some ⟨m4, 0, none⟩) B.mets.length B.mets.length, .int .i64 B.pace.up, .int .i64 B.pace.down, .int .i64 B.pace.ups, .int .i64 B.pace.downs, .slice (some ⟨n4, 0, none⟩) B.notes.length B.notes.length] 48)) (Nat.le_refl _)) (hl4.stay ((Below.refl _ w7).alloc (Nat.le_refl _) (.cells #[.string B.name, .string B.target, .int .i64 B.low, .int .i64 B.high, .slice (some ⟨m4, 0, none⟩) B.mets.length B.mets.length, .int .i64 B.pace.up, .int .i64 B.pace.down, .int .i64 B.pace.ups, .int .i64 B.pace.downs, .slice (some ⟨n4, 0, none⟩) B.notes.length B.notes.length] 48)) (Nat.le_refl _))); clear hl4 hb1 HL3; clear y0 y1 y2 y3 y4 y5 y6 y7 y8 y9; have z0 := X0.out.cell 0; have z1 := X0.out.cell 1; have z2 := X0.out.cell 2; have z3 := X0.out.cell 3; have z4 := X0.out.cell 4; have z5 := X0.out.cell 5; have z6 := X0.out.cell 6; have z7 := X0.out.cell 7; have z8 := X0.out.cell 8; have z9 := X0.out.cell 9)
    | (go_at_call 27; refine (impl_orderSame _ HL4.out.1 HL4.out.2).mono ?_; rintro e w8 ⟨rfl, hb1⟩
       replace HX := Lib.hid (HX.out.next hb1); replace X0 := Lib.hid (X0.out.next hb1); replace X1 := Lib.hid (X1.out.next hb1)
       have HL5 := Lib.hid (And.intro (HL4.out.1.stay hb1 (Nat.le_refl _)) (HL4.out.2.stay hb1 (Nat.le_refl _)))
       clear hb1 HL4; clear z0 z1 z2 z3 z4 z5 z6 z7 z8 z9)
    | fail)
  have x0 := HX.out.1.cell 0; have x1 := HX.out.1.cell 1; have x2 := HX.out.1.cell 2; have x3 := HX.out.1.cell 3; have x4 := HX.out.1.cell 4; have x5 := HX.out.1.cell 5; have x6 := HX.out.1.cell 6; have x7 := HX.out.1.cell 7; have x8 := HX.out.1.cell 8; have x9 := HX.out.1.cell 9
  have z0 := X0.out.cell 0; have z1 := X0.out.cell 1; have z2 := X0.out.cell 2; have z3 := X0.out.cell 3; have z4 := X0.out.cell 4; have z5 := X0.out.cell 5; have z6 := X0.out.cell 6; have z7 := X0.out.cell 7; have z8 := X0.out.cell 8; have z9 := X0.out.cell 9
  replace HX := Lib.hid (HX.out.drew 1); replace X0 := Lib.hid (X0.out.drew 1); replace X1 := Lib.hid (X1.out.drew 1)
  replace HL5 := Lib.hid (And.intro (HL5.out.1.stay (below_drewO (Below.refl _ w8) 1) (Nat.le_refl _)) (HL5.out.2.stay (below_drewO (Below.refl _ w8) 1) (Nat.le_refl _)))
  go_region_held3 (fun w' => w'.cell? ⟨w.heap.size, 0, none⟩ = some (.string A.name) ∧ w'.cell? ⟨w.heap.size, 1, none⟩ = some (.string A.target) ∧ w'.cell? ⟨w.heap.size, 2, none⟩ = some (.int .i64 A.low) ∧ w'.cell? ⟨w.heap.size, 3, none⟩ = some (.int .i64 A.high) ∧ w'.cell? ⟨w.heap.size, 4, none⟩ = some (mvA) ∧ w'.cell? ⟨w.heap.size, 5, none⟩ = some (.int .i64 A.pace.up) ∧ w'.cell? ⟨w.heap.size, 6, none⟩ = some (.int .i64 A.pace.down) ∧ w'.cell? ⟨w.heap.size, 7, none⟩ = some (.int .i64 A.pace.ups) ∧ w'.cell? ⟨w.heap.size, 8, none⟩ = some (.int .i64 A.pace.downs) ∧ w'.cell? ⟨w.heap.size, 9, none⟩ = some (nvA) ∧ w'.cell? ⟨w6.heap.size, 0, none⟩ = some (.string A.name) ∧ w'.cell? ⟨w6.heap.size, 1, none⟩ = some (.string A.target) ∧ w'.cell? ⟨w6.heap.size, 2, none⟩ = some (.int .i64 A.low) ∧ w'.cell? ⟨w6.heap.size, 3, none⟩ = some (.int .i64 A.high) ∧ w'.cell? ⟨w6.heap.size, 4, none⟩ = some (.slice (some ⟨m3, 0, none⟩) A.mets.length A.mets.length) ∧ w'.cell? ⟨w6.heap.size, 5, none⟩ = some (.int .i64 A.pace.up) ∧ w'.cell? ⟨w6.heap.size, 6, none⟩ = some (.int .i64 A.pace.down) ∧ w'.cell? ⟨w6.heap.size, 7, none⟩ = some (.int .i64 A.pace.ups) ∧ w'.cell? ⟨w6.heap.size, 8, none⟩ = some (.int .i64 A.pace.downs) ∧ w'.cell? ⟨w6.heap.size, 9, none⟩ = some (.slice (some ⟨n3, 0, none⟩) A.notes.length A.notes.length)) (go_keep)
    (first
      | (go_at_call_of 23 mvA; refine (TA.out _ HX.out.1.below).mono ?_; rintro e w9 ⟨m5, n5, F5, F5', rfl, hl5, -, hb1⟩
         replace HX := Lib.hid (HX.out.next hb1); replace X0 := Lib.hid (X0.out.next hb1); replace X1 := Lib.hid (X1.out.next hb1)
         replace HL5 := Lib.hid (And.intro (HL5.out.1.stay hb1 (Nat.le_refl _)) (HL5.out.2.stay hb1 (Nat.le_refl _)))
         have HL6 := Lib.hid hl5; clear hl5 hb1; clear x0 x1 x2 x3 x4 x5 x6 x7 x8 x9; clear z0 z1 z2 z3 z4 z5 z6 z7 z8 z9; have x0 := HX.out.1.cell 0; have x1 := HX.out.1.cell 1; have x2 := HX.out.1.cell 2; have x3 := HX.out.1.cell 3; have x4 := HX.out.1.cell 4; have x5 := HX.out.1.cell 5; have x6 := HX.out.1.cell 6; have x7 := HX.out.1.cell 7; have x8 := HX.out.1.cell 8; have x9 := HX.out.1.cell 9; have z0 := X0.out.cell 0; have z1 := X0.out.cell 1; have z2 := X0.out.cell 2; have z3 := X0.out.cell 3; have z4 := X0.out.cell 4; have z5 := X0.out.cell 5; have z6 := X0.out.cell 6; have z7 := X0.out.cell 7; have z8 := X0.out.cell 8; have z9 := X0.out.cell 9)
      | (go_at_call 25; refine (eq_order _ HL5.out.1 HL6.out).mono ?_; rintro e w10 ⟨rfl, hb1⟩
         replace HX := Lib.hid (HX.out.next hb1); replace X0 := Lib.hid (X0.out.next hb1); replace X1 := Lib.hid (X1.out.next hb1)
         replace HL5 := Lib.hid (And.intro (HL5.out.1.stay hb1 (Nat.le_refl _)) (HL5.out.2.stay hb1 (Nat.le_refl _)))
         clear hb1; clear x0 x1 x2 x3 x4 x5 x6 x7 x8 x9; clear z0 z1 z2 z3 z4 z5 z6 z7 z8 z9; have x0 := HX.out.1.cell 0; have x1 := HX.out.1.cell 1; have x2 := HX.out.1.cell 2; have x3 := HX.out.1.cell 3; have x4 := HX.out.1.cell 4; have x5 := HX.out.1.cell 5; have x6 := HX.out.1.cell 6; have x7 := HX.out.1.cell 7; have x8 := HX.out.1.cell 8; have x9 := HX.out.1.cell 9; have z0 := X0.out.cell 0; have z1 := X0.out.cell 1; have z2 := X0.out.cell 2; have z3 := X0.out.cell 3; have z4 := X0.out.cell 4; have z5 := X0.out.cell 5; have z6 := X0.out.cell 6; have z7 := X0.out.cell 7; have z8 := X0.out.cell 8; have z9 := X0.out.cell 9))
  clear HL6
  clear x0 x1 x2 x3 x4 x5 x6 x7 x8 x9
  clear z0 z1 z2 z3 z4 z5 z6 z7 z8 z9
  go_wp2
  have y0 := HX.out.2.cell 0; have y1 := HX.out.2.cell 1; have y2 := HX.out.2.cell 2; have y3 := HX.out.2.cell 3; have y4 := HX.out.2.cell 4; have y5 := HX.out.2.cell 5; have y6 := HX.out.2.cell 6; have y7 := HX.out.2.cell 7; have y8 := HX.out.2.cell 8; have y9 := HX.out.2.cell 9
  have v0 := X1.out.cell 0; have v1 := X1.out.cell 1; have v2 := X1.out.cell 2; have v3 := X1.out.cell 3; have v4 := X1.out.cell 4; have v5 := X1.out.cell 5; have v6 := X1.out.cell 6; have v7 := X1.out.cell 7; have v8 := X1.out.cell 8; have v9 := X1.out.cell 9
  replace HX := Lib.hid (HX.out.drew 1); replace X1 := Lib.hid (X1.out.drew 1)
  replace HL5 := Lib.hid (And.intro (HL5.out.1.stay (below_drewO (Below.refl _ w10) 1) (Nat.le_refl _)) (HL5.out.2.stay (below_drewO (Below.refl _ w10) 1) (Nat.le_refl _)))
  go_region_held3 (fun w' => w'.cell? ⟨w.heap.size + 1, 0, none⟩ = some (.string B.name) ∧ w'.cell? ⟨w.heap.size + 1, 1, none⟩ = some (.string B.target) ∧ w'.cell? ⟨w.heap.size + 1, 2, none⟩ = some (.int .i64 B.low) ∧ w'.cell? ⟨w.heap.size + 1, 3, none⟩ = some (.int .i64 B.high) ∧ w'.cell? ⟨w.heap.size + 1, 4, none⟩ = some (mvB) ∧ w'.cell? ⟨w.heap.size + 1, 5, none⟩ = some (.int .i64 B.pace.up) ∧ w'.cell? ⟨w.heap.size + 1, 6, none⟩ = some (.int .i64 B.pace.down) ∧ w'.cell? ⟨w.heap.size + 1, 7, none⟩ = some (.int .i64 B.pace.ups) ∧ w'.cell? ⟨w.heap.size + 1, 8, none⟩ = some (.int .i64 B.pace.downs) ∧ w'.cell? ⟨w.heap.size + 1, 9, none⟩ = some (nvB) ∧ w'.cell? ⟨w7.heap.size, 0, none⟩ = some (.string B.name) ∧ w'.cell? ⟨w7.heap.size, 1, none⟩ = some (.string B.target) ∧ w'.cell? ⟨w7.heap.size, 2, none⟩ = some (.int .i64 B.low) ∧ w'.cell? ⟨w7.heap.size, 3, none⟩ = some (.int .i64 B.high) ∧ w'.cell? ⟨w7.heap.size, 4, none⟩ = some (.slice (some ⟨m4, 0, none⟩) B.mets.length B.mets.length) ∧ w'.cell? ⟨w7.heap.size, 5, none⟩ = some (.int .i64 B.pace.up) ∧ w'.cell? ⟨w7.heap.size, 6, none⟩ = some (.int .i64 B.pace.down) ∧ w'.cell? ⟨w7.heap.size, 7, none⟩ = some (.int .i64 B.pace.ups) ∧ w'.cell? ⟨w7.heap.size, 8, none⟩ = some (.int .i64 B.pace.downs) ∧ w'.cell? ⟨w7.heap.size, 9, none⟩ = some (.slice (some ⟨n4, 0, none⟩) B.notes.length B.notes.length)) (go_keep)
    (first
      | (go_at_call_of 23 mvB; refine (TB.out _ HX.out.1.below).mono ?_; rintro e w11 ⟨m6, n6, F6, F6', rfl, hl6, -, hb1⟩
         replace HX := Lib.hid (HX.out.next hb1); replace X1 := Lib.hid (X1.out.next hb1)
         replace HL5 := Lib.hid (And.intro (HL5.out.1.stay hb1 (Nat.le_refl _)) (HL5.out.2.stay hb1 (Nat.le_refl _)))
         have HL6 := Lib.hid hl6; clear hl6 hb1; clear y0 y1 y2 y3 y4 y5 y6 y7 y8 y9; clear v0 v1 v2 v3 v4 v5 v6 v7 v8 v9; have y0 := HX.out.2.cell 0; have y1 := HX.out.2.cell 1; have y2 := HX.out.2.cell 2; have y3 := HX.out.2.cell 3; have y4 := HX.out.2.cell 4; have y5 := HX.out.2.cell 5; have y6 := HX.out.2.cell 6; have y7 := HX.out.2.cell 7; have y8 := HX.out.2.cell 8; have y9 := HX.out.2.cell 9; have v0 := X1.out.cell 0; have v1 := X1.out.cell 1; have v2 := X1.out.cell 2; have v3 := X1.out.cell 3; have v4 := X1.out.cell 4; have v5 := X1.out.cell 5; have v6 := X1.out.cell 6; have v7 := X1.out.cell 7; have v8 := X1.out.cell 8; have v9 := X1.out.cell 9)
      | (go_at_call 25; refine (eq_order _ HL5.out.2 HL6.out).mono ?_; rintro e w12 ⟨rfl, hb1⟩
         replace HX := Lib.hid (HX.out.next hb1); replace X1 := Lib.hid (X1.out.next hb1)
         clear hb1; clear y0 y1 y2 y3 y4 y5 y6 y7 y8 y9; clear v0 v1 v2 v3 v4 v5 v6 v7 v8 v9; have y0 := HX.out.2.cell 0; have y1 := HX.out.2.cell 1; have y2 := HX.out.2.cell 2; have y3 := HX.out.2.cell 3; have y4 := HX.out.2.cell 4; have y5 := HX.out.2.cell 5; have y6 := HX.out.2.cell 6; have y7 := HX.out.2.cell 7; have y8 := HX.out.2.cell 8; have y9 := HX.out.2.cell 9; have v0 := X1.out.cell 0; have v1 := X1.out.cell 1; have v2 := X1.out.cell 2; have v3 := X1.out.cell 3; have v4 := X1.out.cell 4; have v5 := X1.out.cell 5; have v6 := X1.out.cell 6; have v7 := X1.out.cell 7; have v8 := X1.out.cell 8; have v9 := X1.out.cell 9))
  go_wp2
  go_ret
  exact ⟨rfl, HX.out.1.below⟩
end Go.Proofs.Ytjopjdidbkhmnaa
