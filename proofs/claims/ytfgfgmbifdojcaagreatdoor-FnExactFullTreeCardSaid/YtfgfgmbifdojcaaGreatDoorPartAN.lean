/-
  What is proved: the program's OrderOk tells of an order whether it is right.; the program's tree of an order in the full shape, in memory of its own; condition: the library's table of powers of ten starts as the program's text lays it.; the program's FullTree of an order that is right: its tree, in memory of its own; of others the zero node; condition: the library's table of powers of ten starts as the program's text lays it.; plain facts on one element that is put into a row that a call owns: Go's copy at any size of element, and what slices.Insert leaves of the row, in its place or in a new one.
-/
import Derived.Test.YtfgfgmbifdojcaaGreatDoorPartAK
import Derived.Test.YtfgfgmbifdojcaaGreatDoorPartAM
import Derived.Test.YtfgfgmbifdojcaaGreatDoorPartAH
import Derived.Test.YtfgfgmbifdojcaaGreatDoorPartAI
import Derived.Test.YtfgfgmbifdojcaaGreatDoorPartAC
import Derived.Laws.CopyRow
import Derived.Laws.NewBlocks
import Derived.Lib.Overlaps
import Derived.Lib.AppendZerosOnto
import Derived.Laws.Externs
import Derived.Shelf.Spec.SlicesInsert
/- the program's OrderOk tells of an order whether it is right. -/
namespace Go.Proofs.YtfgfgmbifdojcaaGreatDoor
open Go Go.RowKit

set_option maxRecDepth 100000 in
set_option maxHeartbeats 4000000 in
theorem impl_orderOk {O : Ord} {mv nv : Value} {FM FN : List Nat} (w : World) (ho : OrdAt w O mv nv FM FN) :
    Calls Tryz.prog 33 #[.agg #[.string O.name, .string O.target, .int .i64 O.low, .int .i64 O.high, mv, .int .i64 O.pace.up, .int .i64 O.pace.down, .int .i64 O.pace.ups, .int .i64 O.pace.downs, nv]] w fun e w' => e = .returned (.bool O.okB) ∧ Below w.heap.size w w' := by
  have HX := Lib.hid (Bx.start w #[.string O.name, .string O.target, .int .i64 O.low, .int .i64 O.high, mv, .int .i64 O.pace.up, .int .i64 O.pace.down, .int .i64 O.pace.ups, .int .i64 O.pace.downs, nv] 38)
  have h1 := ho.name
  have h2 := ho.target
  have HM := Lib.hid fun wr (hb : Below w.heap.size w wr) => impl_mets wr (RowAt.stay ho.mets (by decide) hb (Nat.le_refl _))
  have HN := Lib.hid fun wr (hb : Below w.heap.size w wr) => impl_nots wr (RowAt.stay ho.notes (by decide) hb (Nat.le_refl _))
  obtain ⟨⟨o1, c1, rfl⟩, o2, c2, rfl⟩ := ho.slices
  clear ho
  unfold Ord.okB
  rcases b1 : nameB O.name
  · go_enter Tryz.func33, Tryz.ntmps33
    go_wp2_with (first
      | (go_at_call 68; refine (impl_nameOk _ (by assumption) _).mono ?_; rintro e w1 ⟨rfl, e1⟩; subst e1; first | rw [b1] | rw [b2])
      | fail)
    go_ret
    exact ⟨rfl, HX.out.below⟩
  rcases b2 : nameB O.target
  · go_enter Tryz.func33, Tryz.ntmps33
    go_wp2_with (first
      | (go_at_call 68; refine (impl_nameOk _ (by assumption) _).mono ?_; rintro e w1 ⟨rfl, e1⟩; subst e1; first | rw [b1] | rw [b2])
      | fail)
    go_ret
    exact ⟨rfl, HX.out.below⟩
  rcases b3 : inB O.low 1 O.high
  · go_enter Tryz.func33, Tryz.ntmps33
    go_wp2_with (first
      | (go_at_call 68; refine (impl_nameOk _ (by assumption) _).mono ?_; rintro e w1 ⟨rfl, e1⟩; subst e1; first | rw [b1] | rw [b2])
      | (go_at_call 69; refine (impl_inB _ _ _ _).mono ?_; rintro e w1 ⟨rfl, e1⟩; subst e1; rw [b3])
      | fail)
    go_ret
    exact ⟨rfl, HX.out.below⟩
  rcases b4 : decide (O.high ≤ 1000)
  · go_enter Tryz.func33, Tryz.ntmps33
    go_wp2_with (first
      | (go_at_call 68; refine (impl_nameOk _ (by assumption) _).mono ?_; rintro e w1 ⟨rfl, e1⟩; subst e1; first | rw [b1] | rw [b2])
      | (go_at_call 69; refine (impl_inB _ _ _ _).mono ?_; rintro e w1 ⟨rfl, e1⟩; subst e1; rw [b3])
      | fail)
    go_ret
    exact ⟨rfl, HX.out.below⟩
  rcases b5 : dec (Els Met.name Met.okB O.mets)
  · go_enter Tryz.func33, Tryz.ntmps33
    go_wp2_with (first
      | (go_at_call 68; refine (impl_nameOk _ (by assumption) _).mono ?_; rintro e w1 ⟨rfl, e1⟩; subst e1; first | rw [b1] | rw [b2])
      | (go_at_call 69; refine (impl_inB _ _ _ _).mono ?_; rintro e w1 ⟨rfl, e1⟩; subst e1; rw [b3])
      | (go_at_call 70; refine (HM.out _ HX.out.below).mono ?_; rintro e w1 ⟨rfl, hb⟩; rw [b5]; replace HX := Lib.hid (HX.out.next hb); clear hb; have c5 := HX.out.cell 5; have c6 := HX.out.cell 6; have c7 := HX.out.cell 7; have c8 := HX.out.cell 8)
      | fail)
    go_ret
    exact ⟨rfl, HX.out.below⟩
  rcases b6 : paceB O.pace.up O.pace.down O.pace.ups O.pace.downs
  · go_enter Tryz.func33, Tryz.ntmps33
    go_wp2_with (first
      | (go_at_call 68; refine (impl_nameOk _ (by assumption) _).mono ?_; rintro e w1 ⟨rfl, e1⟩; subst e1; first | rw [b1] | rw [b2])
      | (go_at_call 69; refine (impl_inB _ _ _ _).mono ?_; rintro e w1 ⟨rfl, e1⟩; subst e1; rw [b3])
      | (go_at_call 70; refine (HM.out _ HX.out.below).mono ?_; rintro e w1 ⟨rfl, hb⟩; rw [b5]; replace HX := Lib.hid (HX.out.next hb); clear hb; have c5 := HX.out.cell 5; have c6 := HX.out.cell 6; have c7 := HX.out.cell 7; have c8 := HX.out.cell 8)
      | (go_at_call 71; refine (impl_paceOk _ _ _ _ _).mono ?_; rintro e w2 ⟨rfl, hb⟩; rw [b6]; replace HX := Lib.hid (HX.out.next hb); clear hb; have c9 := HX.out.cell 9)
      | fail)
    go_ret
    exact ⟨rfl, HX.out.below⟩
  rcases b7 : dec (Els Not.key Not.okB O.notes)
  · go_enter Tryz.func33, Tryz.ntmps33
    go_wp2_with (first
      | (go_at_call 68; refine (impl_nameOk _ (by assumption) _).mono ?_; rintro e w1 ⟨rfl, e1⟩; subst e1; first | rw [b1] | rw [b2])
      | (go_at_call 69; refine (impl_inB _ _ _ _).mono ?_; rintro e w1 ⟨rfl, e1⟩; subst e1; rw [b3])
      | (go_at_call 70; refine (HM.out _ HX.out.below).mono ?_; rintro e w1 ⟨rfl, hb⟩; rw [b5]; replace HX := Lib.hid (HX.out.next hb); clear hb; have c5 := HX.out.cell 5; have c6 := HX.out.cell 6; have c7 := HX.out.cell 7; have c8 := HX.out.cell 8)
      | (go_at_call 71; refine (impl_paceOk _ _ _ _ _).mono ?_; rintro e w2 ⟨rfl, hb⟩; rw [b6]; replace HX := Lib.hid (HX.out.next hb); clear hb; have c9 := HX.out.cell 9)
      | (go_at_call 72; refine (HN.out _ HX.out.below).mono ?_; rintro e w3 ⟨rfl, hb⟩; rw [b7]; replace HX := Lib.hid (HX.out.next hb); clear hb)
      | fail)
    go_ret
    exact ⟨rfl, HX.out.below⟩
  go_enter Tryz.func33, Tryz.ntmps33
  go_wp2_with (first
    | (go_at_call 68; refine (impl_nameOk _ (by assumption) _).mono ?_; rintro e w1 ⟨rfl, e1⟩; subst e1; first | rw [b1] | rw [b2])
    | (go_at_call 69; refine (impl_inB _ _ _ _).mono ?_; rintro e w1 ⟨rfl, e1⟩; subst e1; rw [b3])
    | (go_at_call 70; refine (HM.out _ HX.out.below).mono ?_; rintro e w1 ⟨rfl, hb⟩; rw [b5]; replace HX := Lib.hid (HX.out.next hb); clear hb; have c5 := HX.out.cell 5; have c6 := HX.out.cell 6; have c7 := HX.out.cell 7; have c8 := HX.out.cell 8)
    | (go_at_call 71; refine (impl_paceOk _ _ _ _ _).mono ?_; rintro e w2 ⟨rfl, hb⟩; rw [b6]; replace HX := Lib.hid (HX.out.next hb); clear hb; have c9 := HX.out.cell 9)
    | (go_at_call 72; refine (HN.out _ HX.out.below).mono ?_; rintro e w3 ⟨rfl, hb⟩; rw [b7]; replace HX := Lib.hid (HX.out.next hb); clear hb)
    | fail)
  go_ret
  exact ⟨rfl, HX.out.below⟩
end Go.Proofs.YtfgfgmbifdojcaaGreatDoor

/- the program's tree of an order in the full shape, in memory of its own; condition: the library's table of powers of ten starts as the program's text lays it. -/
namespace Go.Proofs.YtfgfgmbifdojcaaGreatDoor
open Go Go.RowKit

set_option maxRecDepth 100000 in
set_option maxHeartbeats 40000000 in
theorem impl_fullT {O : Ord} {mv nv : Value} {FM FN : List Nat} (w : World) (ho : OrdAt w O mv nv FM FN) (hlm : O.mets.length ≤ 1000000) (hln : O.notes.length ≤ 1000000) (htab : Lib.TabIs Tryz.prog w "internal/strconv.uint64pow10" .u64 Lib.pow10Tab) :
    Calls Tryz.prog 34 #[.agg #[.string O.name, .string O.target, .int .i64 O.low, .int .i64 O.high, mv, .int .i64 O.pace.up, .int .i64 O.pace.down, .int .i64 O.pace.ups, .int .i64 O.pace.downs, nv]] w fun e w' => ∃ kv dv F, e = .returned ((fullT O).val kv dv) ∧ Lies w' (fullT O) kv dv F ∧ Fresh w w' F ∧ Below w.heap.size w w' := by
  have HT := Lib.hid (Lib.tabBelow_of_tabIs htab)
  have HMs := Lib.hid fun wr (hb : Below w.heap.size w wr) => impl_metricsTree wr (RowAt.stay ho.mets (by decide) hb (Nat.le_refl _)) hlm (HT.out _ hb)
  have HNs := Lib.hid fun wr (hb : Below w.heap.size w wr) => impl_notesTree wr (RowAt.stay ho.notes (by decide) hb (Nat.le_refl _)) hln
  have HPs : Hid (∀ W, Below w.heap.size w W → Calls Tryz.prog 77 #[.agg #[.int .i64 O.pace.up, .int .i64 O.pace.down, .int .i64 O.pace.ups, .int .i64 O.pace.downs]] W fun e w' => ∃ kv dv F, e = .returned (.agg #[.int .i64 5, .int .i64 0, .string ⟨#[]⟩, kv, dv]) ∧ Lies w' (pacT O.pace) kv dv F ∧ Fresh W w' F ∧ Below W.heap.size W w') := fun W hW => impl_paceTree _ _ _ _ ho.pace.1 ho.pace.2.1 ho.pace.2.2.1 ho.pace.2.2.2 W (HT.out _ hW)
  have HFit := Lib.hid (And.intro ho.high (And.intro ho.low (And.intro ho.name ho.target)))
  obtain ⟨⟨om, cm, rfl⟩, on_, cn, rfl⟩ := ho.slices
  clear ho htab
  have H2 := Lib.hid (Two.start w (.cells #[.string O.name, .string O.target, .int .i64 O.low, .int .i64 O.high, .slice om O.mets.length cm, .int .i64 O.pace.up, .int .i64 O.pace.down, .int .i64 O.pace.ups, .int .i64 O.pace.downs, .slice on_ O.notes.length cn] 59) (.cells #[.int .i64 0, .int .i64 0, .string ⟨#[]⟩, .slice none 0 0, .slice none 0 0] 32))
  go_enter Tryz.func34, Tryz.ntmps34
  go_wp2_with fail
  generalize hw1 : (w.alloc (.cells #[.string O.name, .string O.target, .int .i64 O.low, .int .i64 O.high, .slice om O.mets.length cm, .int .i64 O.pace.up, .int .i64 O.pace.down, .int .i64 O.pace.ups, .int .i64 O.pace.downs, .slice on_ O.notes.length cn] 59)).alloc (.cells #[.int .i64 0, .int .i64 0, .string ⟨#[]⟩, .slice none 0 0, .slice none 0 0] 32) = w1 at *
  clear hw1
  have x0 := cell_of H2.out.arg 0
  have x1 := cell_of H2.out.arg 1
  have x2 := cell_of H2.out.arg 2
  have x3 := cell_of H2.out.arg 3
  have x4 := cell_of H2.out.arg 4
  have x5 := cell_of H2.out.arg 5
  have x6 := cell_of H2.out.arg 6
  have x7 := cell_of H2.out.arg 7
  have x8 := cell_of H2.out.arg 8
  have x9 := cell_of H2.out.arg 9
  simp only [List.getElem?_toArray, List.getElem?_cons_zero, List.getElem?_cons_succ] at x0 x1 x2 x3 x4 x5 x6 x7 x8 x9
  have HSz := Lib.hid H2.out.size
  go_region_held3 (fun w' => w'.cell? ⟨w.heap.size, 0, none⟩ = some (.string O.name) ∧ w'.cell? ⟨w.heap.size, 1, none⟩ = some (.string O.target) ∧ w'.cell? ⟨w.heap.size, 2, none⟩ = some (.int .i64 O.low) ∧ w'.cell? ⟨w.heap.size, 3, none⟩ = some (.int .i64 O.high) ∧ w'.cell? ⟨w.heap.size, 4, none⟩ = some (.slice om O.mets.length cm) ∧ w'.cell? ⟨w.heap.size, 5, none⟩ = some (.int .i64 O.pace.up) ∧ w'.cell? ⟨w.heap.size, 6, none⟩ = some (.int .i64 O.pace.down) ∧ w'.cell? ⟨w.heap.size, 7, none⟩ = some (.int .i64 O.pace.ups) ∧ w'.cell? ⟨w.heap.size, 8, none⟩ = some (.int .i64 O.pace.downs) ∧ w'.cell? ⟨w.heap.size, 9, none⟩ = some (.slice on_ O.notes.length cn)) (go_keep)
    (first
      | (go_at_call 73; refine (impl_intOf _ _).mono ?_; rintro e w' ⟨rfl, hb⟩; (first | (have hq := stepA H2.out hb; have hw := hq.2; replace H2 := Lib.hid hq.1; replace HSz := Lib.hid (And.intro HSz.out hw.size); clear hq) | (have hq := stepB H2.out hb; have hw := hq.2; replace H2 := Lib.hid hq.1; replace HSz := Lib.hid (And.intro HSz.out hw.size); clear hq) | (have hq := stepC H2.out hb (by simp); have hw := hq.2.1; have HZ := Lib.hid hq.2.2.1; replace H2 := Lib.hid hq.1; replace HSz := Lib.hid (And.intro HSz.out hq.2.2.2); clear hq; (first | replace HZ := Lib.hid (HZ.out.mv (n := w.heap.size + 1 + 1) (by simp)) | skip)) | (have hq := stepD H2.out hb; have hw := hq.2.1; have HZ := Lib.hid hq.2.2.1; replace H2 := Lib.hid hq.1; replace HSz := Lib.hid (And.intro HSz.out hq.2.2.2); clear hq; (first | replace HZ := Lib.hid (HZ.out.mv (n := w.heap.size + 1 + 1) (by simp)) | skip))); (try replace HZ := Lib.hid (HZ.out.next hw)); (try replace HMt := Lib.hid (HMt.out.next hw)); (try replace HNt := Lib.hid (HNt.out.next hw)); (try replace HPt := Lib.hid (HPt.out.next hw)); clear hw hb; clear x0 x1 x2 x3 x4 x5 x6 x7 x8 x9; have x0 := cell_of H2.out.arg 0; have x1 := cell_of H2.out.arg 1; have x2 := cell_of H2.out.arg 2; have x3 := cell_of H2.out.arg 3; have x4 := cell_of H2.out.arg 4; have x5 := cell_of H2.out.arg 5; have x6 := cell_of H2.out.arg 6; have x7 := cell_of H2.out.arg 7; have x8 := cell_of H2.out.arg 8; have x9 := cell_of H2.out.arg 9; simp only [List.getElem?_toArray, List.getElem?_cons_zero, List.getElem?_cons_succ] at x0 x1 x2 x3 x4 x5 x6 x7 x8 x9)
      | (go_at_call 74; refine (impl_textOf _ _).mono ?_; rintro e w' ⟨rfl, hb⟩; (first | (have hq := stepA H2.out hb; have hw := hq.2; replace H2 := Lib.hid hq.1; replace HSz := Lib.hid (And.intro HSz.out hw.size); clear hq) | (have hq := stepB H2.out hb; have hw := hq.2; replace H2 := Lib.hid hq.1; replace HSz := Lib.hid (And.intro HSz.out hw.size); clear hq) | (have hq := stepC H2.out hb (by simp); have hw := hq.2.1; have HZ := Lib.hid hq.2.2.1; replace H2 := Lib.hid hq.1; replace HSz := Lib.hid (And.intro HSz.out hq.2.2.2); clear hq; (first | replace HZ := Lib.hid (HZ.out.mv (n := w.heap.size + 1 + 1) (by simp)) | skip)) | (have hq := stepD H2.out hb; have hw := hq.2.1; have HZ := Lib.hid hq.2.2.1; replace H2 := Lib.hid hq.1; replace HSz := Lib.hid (And.intro HSz.out hq.2.2.2); clear hq; (first | replace HZ := Lib.hid (HZ.out.mv (n := w.heap.size + 1 + 1) (by simp)) | skip))); (try replace HZ := Lib.hid (HZ.out.next hw)); (try replace HMt := Lib.hid (HMt.out.next hw)); (try replace HNt := Lib.hid (HNt.out.next hw)); (try replace HPt := Lib.hid (HPt.out.next hw)); clear hw hb; clear x0 x1 x2 x3 x4 x5 x6 x7 x8 x9; have x0 := cell_of H2.out.arg 0; have x1 := cell_of H2.out.arg 1; have x2 := cell_of H2.out.arg 2; have x3 := cell_of H2.out.arg 3; have x4 := cell_of H2.out.arg 4; have x5 := cell_of H2.out.arg 5; have x6 := cell_of H2.out.arg 6; have x7 := cell_of H2.out.arg 7; have x8 := cell_of H2.out.arg 8; have x9 := cell_of H2.out.arg 9; simp only [List.getElem?_toArray, List.getElem?_cons_zero, List.getElem?_cons_succ] at x0 x1 x2 x3 x4 x5 x6 x7 x8 x9)
      | (go_at_call 75; refine (HMs.out _ (by first | exact H2.out.below | exact H2.out.below.trans ((below_drew1 _).mono H2.out.below.size) | exact H2.out.below.trans (((Below.refl _ _).alloc (Nat.le_refl _) _).mono H2.out.below.size) | exact H2.out.below.trans ((below_lit _ _).mono H2.out.below.size))).mono ?_; rintro e w' ⟨dm, GM, rfl, hl, hf, hb⟩; obtain ⟨am, bm, rfl⟩ := hl.slices.2; (first | (have HMt := Lib.hid (kid_at0 H2.out hl hf rfl)) | (have HMt := Lib.hid (kid_at1 H2.out hl hf (by simp))) | (have HMt := Lib.hid (kid_at1 H2.out hl hf (by simp [World.drew])))); clear hl hf; (first | (have hq := stepA H2.out hb; have hw := hq.2; replace H2 := Lib.hid hq.1; replace HSz := Lib.hid (And.intro HSz.out hw.size); clear hq) | (have hq := stepB H2.out hb; have hw := hq.2; replace H2 := Lib.hid hq.1; replace HSz := Lib.hid (And.intro HSz.out hw.size); clear hq) | (have hq := stepC H2.out hb (by simp); have hw := hq.2.1; have HZ := Lib.hid hq.2.2.1; replace H2 := Lib.hid hq.1; replace HSz := Lib.hid (And.intro HSz.out hq.2.2.2); clear hq; (first | replace HZ := Lib.hid (HZ.out.mv (n := w.heap.size + 1 + 1) (by simp)) | skip)) | (have hq := stepD H2.out hb; have hw := hq.2.1; have HZ := Lib.hid hq.2.2.1; replace H2 := Lib.hid hq.1; replace HSz := Lib.hid (And.intro HSz.out hq.2.2.2); clear hq; (first | replace HZ := Lib.hid (HZ.out.mv (n := w.heap.size + 1 + 1) (by simp)) | skip))); (try replace HZ := Lib.hid (HZ.out.next hw)); (try replace HMt := Lib.hid (HMt.out.next hw)); (try replace HNt := Lib.hid (HNt.out.next hw)); (try replace HPt := Lib.hid (HPt.out.next hw)); clear hw hb; clear x0 x1 x2 x3 x4 x5 x6 x7 x8 x9; have x0 := cell_of H2.out.arg 0; have x1 := cell_of H2.out.arg 1; have x2 := cell_of H2.out.arg 2; have x3 := cell_of H2.out.arg 3; have x4 := cell_of H2.out.arg 4; have x5 := cell_of H2.out.arg 5; have x6 := cell_of H2.out.arg 6; have x7 := cell_of H2.out.arg 7; have x8 := cell_of H2.out.arg 8; have x9 := cell_of H2.out.arg 9; simp only [List.getElem?_toArray, List.getElem?_cons_zero, List.getElem?_cons_succ] at x0 x1 x2 x3 x4 x5 x6 x7 x8 x9)
      | (go_at_call 76; refine (HNs.out _ (by first | exact H2.out.below | exact H2.out.below.trans ((below_drew1 _).mono H2.out.below.size) | exact H2.out.below.trans (((Below.refl _ _).alloc (Nat.le_refl _) _).mono H2.out.below.size) | exact H2.out.below.trans ((below_lit _ _).mono H2.out.below.size))).mono ?_; rintro e w' ⟨kn, dn, GN, rfl, hl, hf, hb⟩; obtain ⟨⟨an, bn, rfl⟩, ⟨an2, bn2, rfl⟩⟩ := hl.slices; (first | (have HNt := Lib.hid (kid_at0 H2.out hl hf rfl)) | (have HNt := Lib.hid (kid_at1 H2.out hl hf (by simp))) | (have HNt := Lib.hid (kid_at1 H2.out hl hf (by simp [World.drew])))); clear hl hf; (first | (have hq := stepA H2.out hb; have hw := hq.2; replace H2 := Lib.hid hq.1; replace HSz := Lib.hid (And.intro HSz.out hw.size); clear hq) | (have hq := stepB H2.out hb; have hw := hq.2; replace H2 := Lib.hid hq.1; replace HSz := Lib.hid (And.intro HSz.out hw.size); clear hq) | (have hq := stepC H2.out hb (by simp); have hw := hq.2.1; have HZ := Lib.hid hq.2.2.1; replace H2 := Lib.hid hq.1; replace HSz := Lib.hid (And.intro HSz.out hq.2.2.2); clear hq; (first | replace HZ := Lib.hid (HZ.out.mv (n := w.heap.size + 1 + 1) (by simp)) | skip)) | (have hq := stepD H2.out hb; have hw := hq.2.1; have HZ := Lib.hid hq.2.2.1; replace H2 := Lib.hid hq.1; replace HSz := Lib.hid (And.intro HSz.out hq.2.2.2); clear hq; (first | replace HZ := Lib.hid (HZ.out.mv (n := w.heap.size + 1 + 1) (by simp)) | skip))); (try replace HZ := Lib.hid (HZ.out.next hw)); (try replace HMt := Lib.hid (HMt.out.next hw)); (try replace HNt := Lib.hid (HNt.out.next hw)); (try replace HPt := Lib.hid (HPt.out.next hw)); clear hw hb; clear x0 x1 x2 x3 x4 x5 x6 x7 x8 x9; have x0 := cell_of H2.out.arg 0; have x1 := cell_of H2.out.arg 1; have x2 := cell_of H2.out.arg 2; have x3 := cell_of H2.out.arg 3; have x4 := cell_of H2.out.arg 4; have x5 := cell_of H2.out.arg 5; have x6 := cell_of H2.out.arg 6; have x7 := cell_of H2.out.arg 7; have x8 := cell_of H2.out.arg 8; have x9 := cell_of H2.out.arg 9; simp only [List.getElem?_toArray, List.getElem?_cons_zero, List.getElem?_cons_succ] at x0 x1 x2 x3 x4 x5 x6 x7 x8 x9)
      | (go_at_call 77; refine (HPs.out _ (by first | exact H2.out.below | exact H2.out.below.trans ((below_drew1 _).mono H2.out.below.size) | exact H2.out.below.trans (((Below.refl _ _).alloc (Nat.le_refl _) _).mono H2.out.below.size) | exact H2.out.below.trans ((below_lit _ _).mono H2.out.below.size))).mono ?_; rintro e w' ⟨kp, dp, GP, rfl, hl, hf, hb⟩; obtain ⟨⟨ap, bp, rfl⟩, ⟨ap2, bp2, rfl⟩⟩ := hl.slices; (first | (have HPt := Lib.hid (kid_at0 H2.out hl hf rfl)) | (have HPt := Lib.hid (kid_at1 H2.out hl hf (by simp))) | (have HPt := Lib.hid (kid_at1 H2.out hl hf (by simp [World.drew])))); clear hl hf; (first | (have hq := stepA H2.out hb; have hw := hq.2; replace H2 := Lib.hid hq.1; replace HSz := Lib.hid (And.intro HSz.out hw.size); clear hq) | (have hq := stepB H2.out hb; have hw := hq.2; replace H2 := Lib.hid hq.1; replace HSz := Lib.hid (And.intro HSz.out hw.size); clear hq) | (have hq := stepC H2.out hb (by simp); have hw := hq.2.1; have HZ := Lib.hid hq.2.2.1; replace H2 := Lib.hid hq.1; replace HSz := Lib.hid (And.intro HSz.out hq.2.2.2); clear hq; (first | replace HZ := Lib.hid (HZ.out.mv (n := w.heap.size + 1 + 1) (by simp)) | skip)) | (have hq := stepD H2.out hb; have hw := hq.2.1; have HZ := Lib.hid hq.2.2.1; replace H2 := Lib.hid hq.1; replace HSz := Lib.hid (And.intro HSz.out hq.2.2.2); clear hq; (first | replace HZ := Lib.hid (HZ.out.mv (n := w.heap.size + 1 + 1) (by simp)) | skip))); (try replace HZ := Lib.hid (HZ.out.next hw)); (try replace HMt := Lib.hid (HMt.out.next hw)); (try replace HNt := Lib.hid (HNt.out.next hw)); (try replace HPt := Lib.hid (HPt.out.next hw)); clear hw hb; clear x0 x1 x2 x3 x4 x5 x6 x7 x8 x9; have x0 := cell_of H2.out.arg 0; have x1 := cell_of H2.out.arg 1; have x2 := cell_of H2.out.arg 2; have x3 := cell_of H2.out.arg 3; have x4 := cell_of H2.out.arg 4; have x5 := cell_of H2.out.arg 5; have x6 := cell_of H2.out.arg 6; have x7 := cell_of H2.out.arg 7; have x8 := cell_of H2.out.arg 8; have x9 := cell_of H2.out.arg 9; simp only [List.getElem?_toArray, List.getElem?_cons_zero, List.getElem?_cons_succ] at x0 x1 x2 x3 x4 x5 x6 x7 x8 x9)
      | (go_at_call 78; refine (sh_node _ _ _ ⟨_, _, _, rfl⟩ ⟨_, _, _, rfl⟩).mono ?_; rintro e w' ⟨rfl, hb⟩; (first | (have hq := stepD H2.out hb; have hw := hq.2.1; replace HZ := Lib.hid (HZ.out.next hw); have HN := Lib.hid hq.2.2.1; replace H2 := Lib.hid hq.1; replace HSz := Lib.hid (And.intro HSz.out hq.2.2.2); clear hq) | (have hq := stepC H2.out hb (by simp); have hw := hq.2.1; replace HZ := Lib.hid (HZ.out.next hw); have HN := Lib.hid hq.2.2.1; replace H2 := Lib.hid hq.1; replace HSz := Lib.hid (And.intro HSz.out hq.2.2.2); clear hq) | (have hq := stepF H2.out hb; have hw := hq.2.1; have HZ := Lib.hid hq.2.2.1; have HN := Lib.hid hq.2.2.2; replace H2 := Lib.hid hq.1; clear hq; (first | (have h9 := HZ.out; have h8 : One w w' _ (.cells #[.string ⟨#[104, 105, 103, 104]⟩, .string ⟨#[107, 105, 110, 100]⟩, .string ⟨#[108, 111, 119]⟩, .string ⟨#[109, 101, 116, 114, 105, 99, 115]⟩, .string ⟨#[110, 97, 109, 101]⟩, .string ⟨#[110, 111, 116, 101, 115]⟩, .string ⟨#[112, 97, 99, 101]⟩, .string ⟨#[116, 97, 114, 103, 101, 116]⟩] 9) := h9; clear h8 h9) | (have hq := HZ; replace HZ := HN; replace HN := hq; clear hq))) | (have hq := stepE H2.out hb (by simp); have hw := hq.2.1; have HZ := Lib.hid hq.2.2.1; have HN := Lib.hid hq.2.2.2; replace H2 := Lib.hid hq.1; clear hq; (first | (have h9 := HZ.out; have h8 : One w w' _ (.cells #[.string ⟨#[104, 105, 103, 104]⟩, .string ⟨#[107, 105, 110, 100]⟩, .string ⟨#[108, 111, 119]⟩, .string ⟨#[109, 101, 116, 114, 105, 99, 115]⟩, .string ⟨#[110, 97, 109, 101]⟩, .string ⟨#[110, 111, 116, 101, 115]⟩, .string ⟨#[112, 97, 99, 101]⟩, .string ⟨#[116, 97, 114, 103, 101, 116]⟩] 9) := h9; clear h8 h9) | (have hq := HZ; replace HZ := HN; replace HN := hq; clear hq)))); replace HMt := Lib.hid (HMt.out.next hw); replace HNt := Lib.hid (HNt.out.next hw); replace HPt := Lib.hid (HPt.out.next hw); clear hw hb; clear x0 x1 x2 x3 x4 x5 x6 x7 x8 x9; have x0 := cell_of H2.out.arg 0; have x1 := cell_of H2.out.arg 1; have x2 := cell_of H2.out.arg 2; have x3 := cell_of H2.out.arg 3; have x4 := cell_of H2.out.arg 4; have x5 := cell_of H2.out.arg 5; have x6 := cell_of H2.out.arg 6; have x7 := cell_of H2.out.arg 7; have x8 := cell_of H2.out.arg 8; have x9 := cell_of H2.out.arg 9; simp only [List.getElem?_toArray, List.getElem?_cons_zero, List.getElem?_cons_succ] at x0 x1 x2 x3 x4 x5 x6 x7 x8 x9; obtain ⟨r0, r1, r2, r3, r4, r5⟩ := five H2.out.res))
  all_goals
    have hsz := HSz.out
    obtain ⟨F, HF⟩ := full_fin O H2.out HZ.out HN.out HMt.out HNt.out HPt.out (by omega) (by omega) (by omega) (by omega) (by omega) (by omega) (by omega) (by omega) (by omega) (by omega) (by omega) (by omega) rfl rfl HFit.out.1 HFit.out.2.1 HFit.out.2.2.1 HFit.out.2.2.2 rfl
    clear hsz
    go_wp2
    exact bodyPost_ret (ret_node Tryz.results34 rfl HF.1) rfl ⟨_, _, _, rfl, HF.2.1, HF.2.2.1, HF.2.2.2⟩

end Go.Proofs.YtfgfgmbifdojcaaGreatDoor

/- the program's FullTree of an order that is right: its tree, in memory of its own; of others the zero node; condition: the library's table of powers of ten starts as the program's text lays it. -/
namespace Go.Proofs.YtfgfgmbifdojcaaGreatDoor
open Go Go.RowKit

set_option maxRecDepth 100000 in
set_option maxHeartbeats 1600000 in
theorem impl_fullTree_no {O : Ord} {mv nv : Value} {FM FN : List Nat} (w : World) (ho : OrdAt w O mv nv FM FN) (hc : O.okB = false) :
    Calls Tryz.prog 10 #[.agg #[.string O.name, .string O.target, .int .i64 O.low, .int .i64 O.high, mv, .int .i64 O.pace.up, .int .i64 O.pace.down, .int .i64 O.pace.ups, .int .i64 O.pace.downs, nv]] w fun e w' => e = .returned (.agg #[.int .i64 0, .int .i64 0, .string ⟨#[]⟩, .slice none 0 0, .slice none 0 0]) ∧ Below w.heap.size w w' := by
  have HO := Lib.hid fun wr (hb : Below w.heap.size w wr) => impl_orderOk wr (ho.stay hb (Nat.le_refl _))
  obtain ⟨⟨om, cm, rfl⟩, on_, cn, rfl⟩ := ho.slices
  clear ho
  have H2 := Lib.hid (Two.start w (.cells #[.string O.name, .string O.target, .int .i64 O.low, .int .i64 O.high, .slice om O.mets.length cm, .int .i64 O.pace.up, .int .i64 O.pace.down, .int .i64 O.pace.ups, .int .i64 O.pace.downs, .slice on_ O.notes.length cn] 38) (.cells #[.int .i64 0, .int .i64 0, .string ⟨#[]⟩, .slice none 0 0, .slice none 0 0] 32))
  go_enter Tryz.func10, Tryz.ntmps10
  go_wp2_with (first
    | (go_at_call 33; refine (HO.out _ H2.out.below).mono ?_; rintro e w1 ⟨rfl, hb⟩; rw [hc]; replace H2 := Lib.hid (H2.out.next hb); clear hb; obtain ⟨r0, r1, r2, r3, r4, r5⟩ := five H2.out.res)
    | fail)
  exact bodyPost_ret (ret_node Tryz.results10 rfl (set5_end H2.out.res _ _ _ _ _)) rfl ⟨rfl, set5_below H2.out.below (by omega) _ _ _ _ _ _⟩

set_option maxRecDepth 100000 in
set_option maxHeartbeats 1600000 in
theorem impl_fullTree_yes {O : Ord} {mv nv : Value} {FM FN : List Nat} (w : World) (ho : OrdAt w O mv nv FM FN) (hc : O.okB = true) (hlm : O.mets.length ≤ 1000000) (hln : O.notes.length ≤ 1000000) (htab : Lib.TabIs Tryz.prog w "internal/strconv.uint64pow10" .u64 Lib.pow10Tab) :
    Calls Tryz.prog 10 #[.agg #[.string O.name, .string O.target, .int .i64 O.low, .int .i64 O.high, mv, .int .i64 O.pace.up, .int .i64 O.pace.down, .int .i64 O.pace.ups, .int .i64 O.pace.downs, nv]] w fun e w' => ∃ kv dv F, e = .returned ((fullT O).val kv dv) ∧ Lies w' (fullT O) kv dv F ∧ Fresh w w' F ∧ Below w.heap.size w w' := by
  have HO := Lib.hid fun wr (hb : Below w.heap.size w wr) => impl_orderOk wr (ho.stay hb (Nat.le_refl _))
  have HT := Lib.hid (Lib.tabBelow_of_tabIs htab)
  have HTr : Hid (∀ wr, Below w.heap.size w wr → Calls Tryz.prog 34 #[.agg #[.string O.name, .string O.target, .int .i64 O.low, .int .i64 O.high, mv, .int .i64 O.pace.up, .int .i64 O.pace.down, .int .i64 O.pace.ups, .int .i64 O.pace.downs, nv]] wr fun e w' => ∃ kv dv F, e = .returned (.agg #[.int .i64 (fullT O).k, .int .i64 (fullT O).n, .string (fullT O).s, kv, dv]) ∧ Lies w' (fullT O) kv dv F ∧ Fresh wr w' F ∧ Below wr.heap.size wr w') := fun wr hb => impl_fullT wr (ho.stay hb (Nat.le_refl _)) hlm hln (HT.out _ hb)
  obtain ⟨⟨om, cm, rfl⟩, on_, cn, rfl⟩ := ho.slices
  clear ho htab
  generalize fullT O = T at *
  have H2 := Lib.hid (Two.start w (.cells #[.string O.name, .string O.target, .int .i64 O.low, .int .i64 O.high, .slice om O.mets.length cm, .int .i64 O.pace.up, .int .i64 O.pace.down, .int .i64 O.pace.ups, .int .i64 O.pace.downs, .slice on_ O.notes.length cn] 38) (.cells #[.int .i64 0, .int .i64 0, .string ⟨#[]⟩, .slice none 0 0, .slice none 0 0] 32))
  show Calls Tryz.prog 10 _ w fun e w' => ∃ kv dv F, e = .returned (.agg #[.int .i64 T.k, .int .i64 T.n, .string T.s, kv, dv]) ∧ Lies w' T kv dv F ∧ Fresh w w' F ∧ Below w.heap.size w w'
  go_enter Tryz.func10, Tryz.ntmps10
  go_wp2_with (first
    | (go_at_call 33; refine (HO.out _ H2.out.below).mono ?_; rintro e w1 ⟨rfl, hb⟩; rw [hc]; replace H2 := Lib.hid (H2.out.next hb); clear hb; have x0 := cell_of H2.out.arg 0; have x1 := cell_of H2.out.arg 1; have x2 := cell_of H2.out.arg 2; have x3 := cell_of H2.out.arg 3; have x4 := cell_of H2.out.arg 4; have x5 := cell_of H2.out.arg 5; have x6 := cell_of H2.out.arg 6; have x7 := cell_of H2.out.arg 7; have x8 := cell_of H2.out.arg 8; have x9 := cell_of H2.out.arg 9; simp only [List.getElem?_toArray, List.getElem?_cons_zero, List.getElem?_cons_succ] at x0 x1 x2 x3 x4 x5 x6 x7 x8 x9)
    | (go_at_call 34; refine (HTr.out _ H2.out.below).mono ?_; rintro e w2 ⟨kv, dv, F, rfl, hl, hf, hb⟩; obtain ⟨⟨a1, b1, rfl⟩, ⟨a2, b2, rfl⟩⟩ := hl.slices; have HL := Lib.hid (res_keep H2.out hl hf (Nat.le_refl _)); clear hl hf; replace H2 := Lib.hid (H2.out.next hb); clear hb; obtain ⟨s0, s1, s2, s3, s4, s5⟩ := five H2.out.res)
    | fail)
  have HF := res_fin H2.out HL.out
  exact bodyPost_ret (ret_node Tryz.results10 rfl HF.1) rfl ⟨_, _, _, rfl, HF.2.1, HF.2.2.1, HF.2.2.2⟩
end Go.Proofs.YtfgfgmbifdojcaaGreatDoor

/- plain facts on one element that is put into a row that a call owns: Go's copy at any size of element, and what slices.Insert leaves of the row, in its place or in a new one. -/
namespace Go.Proofs.YtfgfgmbifdojcaaGreatDoor
open Go Go.RowKit

/-- copy(d, s) into a block that is known whole, at any size of element. -/
theorem run_copy_rowq (P : Program) (w : World) (dT sT ty elem : TypeId) (g o dLen dCap : Nat) (a : Addr) (sLen sCap q : Nat) (cur : Array Value) (t : TypeId) (cs : List Value)
    (hu : P.underlying dT = some (.slice elem)) (hs : (P.info? elem).map (·.size) = some q)
    (hg : w.heap[g]? = some (.cells cur t (0, 0))) (hn : cs.length = Nat.min sLen dLen * q)
    (hsrc : ∀ j v, cs[j]? = some v → w.cell? (a.add j) = some v) (hfit : o + cs.length ≤ cur.size) (h1 : ∀ v ∈ cs, v.oneCell' = true) :
    (Builtin.copy_ #[dT, sT] ty #[.slice (some ⟨g, o, none⟩) dLen dCap, .slice (some a) sLen sCap]).run P w =
      .ok (goInt (Nat.min sLen dLen)) (w.setRow g (cur.toList.take o ++ cs ++ cur.toList.drop (o + cs.length)).toArray) := by
  have hl := run_loadCells_list (P := P) w a cs hsrc
  have hst := run_storeCells_at P g o t cs 0 cur w hg (by simpa using hfit) h1
  cases hq : P.info? elem with
  | none => simp [hq] at hs
  | some i =>
    have hi : i.size = q := by simpa [hq] using hs
    rw [hn] at hl
    simp [Builtin.copy_, run_underlying hu, Builtin.lenOf, Builtin.firstCells, sizeOf, typeInfo, hq, hi, hl, hst]

/-- What a row is once cs stands in it from o on. -/
def over (cur : Array Value) (o : Nat) (cs : List Value) : Array Value := (cur.toList.take o ++ cs ++ cur.toList.drop (o + cs.length)).toArray

theorem over_size {cur : Array Value} {o : Nat} {cs : List Value} (h : o + cs.length ≤ cur.size) : (over cur o cs).size = cur.size := by
  simp only [over, List.size_toArray, List.length_append, List.length_take, List.length_drop, Array.length_toList]
  omega

theorem over_get {cur : Array Value} {o : Nat} {cs : List Value} (h : o + cs.length ≤ cur.size) (j : Nat) : (over cur o cs).toList[j]? = if j < o then cur.toList[j]? else if j < o + cs.length then cs[j - o]? else cur.toList[j]? := by
  have hl : (cur.toList.take o).length = o := by simp; omega
  simp only [over, List.toList_toArray]
  by_cases h1 : j < o
  · rw [if_pos h1, List.append_assoc, List.getElem?_append_left (by omega), List.getElem?_take_of_lt h1]
  · rw [if_neg h1, List.append_assoc, List.getElem?_append_right (by omega), hl]
    by_cases h2 : j < o + cs.length
    · rw [if_pos h2, List.getElem?_append_left (by omega)]
    · rw [if_neg h2, List.getElem?_append_right (by omega), List.getElem?_drop]
      congr 1
      omega

/-- Shifted, then put into its place. -/
theorem shift_row {cur : Array Value} {xs ys : List Value} {i n q cap : Nat} (hx : cur.toList.take (n * q) = xs) (hxl : xs.length = n * q) (hs : cur.size = cap * q) (hi : i < n) (hroom : n + 1 ≤ cap) (hy : ys.length = q) :
    (over (over cur ((i + 1) * q) (xs.drop (i * q))) (i * q) ys).size = cap * q ∧ (over (over cur ((i + 1) * q) (xs.drop (i * q))) (i * q) ys).toList.take ((n + 1) * q) = xs.take (i * q) ++ ys ++ xs.drop (i * q) := by
  have e1 : (i + 1) * q = i * q + q := Nat.succ_mul _ _
  have e2 : (n + 1) * q = n * q + q := Nat.succ_mul _ _
  have e3 : (n + 1) * q ≤ cap * q := Nat.mul_le_mul_right _ hroom
  have e4 : i * q ≤ n * q := Nat.mul_le_mul_right _ (by omega)
  have hd : (xs.drop (i * q)).length = n * q - i * q := by rw [List.length_drop, hxl]
  have b1 : (i + 1) * q + (xs.drop (i * q)).length ≤ cur.size := by rw [hd, hs]; omega
  have s1 := over_size b1
  have b2 : i * q + ys.length ≤ (over cur ((i + 1) * q) (xs.drop (i * q))).size := by rw [s1, hs, hy]; omega
  refine ⟨by rw [over_size b2, s1, hs], ?_⟩
  have ht : (xs.take (i * q)).length = i * q := by rw [List.length_take]; omega
  apply List.ext_getElem?
  intro j
  by_cases hj : j < (n + 1) * q
  · rw [List.getElem?_take_of_lt hj, over_get b2, List.append_assoc]
    by_cases h1 : j < i * q
    · rw [if_pos h1, over_get b1, if_pos (by omega), List.getElem?_append_left (by omega), List.getElem?_take_of_lt h1, ← hx, List.getElem?_take_of_lt (by omega)]
    · rw [if_neg h1, List.getElem?_append_right (by omega), ht]
      by_cases h2 : j < i * q + ys.length
      · rw [if_pos h2, List.getElem?_append_left (by omega)]
      · rw [if_neg h2, over_get b1, if_neg (by omega), if_pos (by omega), List.getElem?_append_right (by omega)]
        congr 1
        omega
  · rw [List.getElem?_eq_none (by rw [List.length_take]; omega), List.getElem?_eq_none]
    simp only [List.length_append, ht, hy, hd]
    omega

/-- A new row: what stood ahead, the new one, what stood behind. -/
theorem fresh_row {cur : Array Value} {xs ys : List Value} {i n q cap : Nat} (hx : cur.toList.take (i * q) = xs.take (i * q)) (hxl : xs.length = n * q) (hs : cur.size = cap * q) (hi : i < n) (hroom : n + 1 ≤ cap) (hy : ys.length = q) :
    (over (over cur (i * q) ys) ((i + 1) * q) (xs.drop (i * q))).size = cap * q ∧ (over (over cur (i * q) ys) ((i + 1) * q) (xs.drop (i * q))).toList.take ((n + 1) * q) = xs.take (i * q) ++ ys ++ xs.drop (i * q) := by
  have e1 : (i + 1) * q = i * q + q := Nat.succ_mul _ _
  have e2 : (n + 1) * q = n * q + q := Nat.succ_mul _ _
  have e3 : (n + 1) * q ≤ cap * q := Nat.mul_le_mul_right _ hroom
  have e4 : i * q ≤ n * q := Nat.mul_le_mul_right _ (by omega)
  have hd : (xs.drop (i * q)).length = n * q - i * q := by rw [List.length_drop, hxl]
  have b1 : i * q + ys.length ≤ cur.size := by rw [hs, hy]; omega
  have s1 := over_size b1
  have b2 : (i + 1) * q + (xs.drop (i * q)).length ≤ (over cur (i * q) ys).size := by rw [s1, hd, hs]; omega
  refine ⟨by rw [over_size b2, s1, hs], ?_⟩
  have ht : (xs.take (i * q)).length = i * q := by rw [List.length_take]; omega
  apply List.ext_getElem?
  intro j
  by_cases hj : j < (n + 1) * q
  · rw [List.getElem?_take_of_lt hj, over_get b2, List.append_assoc]
    by_cases h1 : j < i * q
    · rw [if_pos (by omega), over_get b1, if_pos h1, List.getElem?_append_left (by omega), ← hx, List.getElem?_take_of_lt h1]
    · rw [List.getElem?_append_right (by omega), ht]
      by_cases h2 : j < i * q + ys.length
      · rw [if_pos (by omega), over_get b1, if_neg h1, if_pos h2, List.getElem?_append_left (by omega)]
      · rw [if_neg (by omega), if_pos (by omega), List.getElem?_append_right (by omega)]
        congr 1
        omega
  · rw [List.getElem?_eq_none (by rw [List.length_take]; omega), List.getElem?_eq_none]
    simp only [List.length_append, ht, hy, hd]
    omega

/-- A world in which one block alone is another row. -/
theorem grown_of_row {w w' : World} {g : Nat} {cur cur' : Array Value} {t : TypeId} (hw : w.heap[g]? = some (.cells cur t (0, 0))) (he : w' = w.setRow g cur' ∨ w' = w.drew.setRow g cur' ∨ w' = (w.setRow g cur').drew ∨ w' = (w.drew.setRow g cur').drew) :
    w.grownBy w' (some g) ∧ w'.heap[g]? = some (.cells cur' t (0, 0)) := by
  have hs : (w.setRow g cur').heap.size = w.heap.size := by simp [World.setRow]
  have hb : ∀ k, k < w.heap.size → some k ≠ some g → (w.setRow g cur').heap[k]? = w.heap[k]? := fun k _ hk => setRow_other _ _ _ _ (fun e => hk (by rw [e]))
  have hh := setRow_heap w g cur cur' t (0, 0) hw
  rcases he with e | e | e | e <;> subst e <;> exact ⟨⟨rfl, rfl, rfl, Nat.le_of_eq hs.symm, hb⟩, hh⟩

theorem cell_row {w : World} {g : Nat} {cur : Array Value} {t : TypeId} (h : w.heap[g]? = some (.cells cur t (0, 0))) {o : Nat} {cs : List Value} (hc : ∀ j v, cs[j]? = some v → cur.toList[o + j]? = some v) : ∀ j v, cs[j]? = some v → w.cell? ((⟨g, o, none⟩ : Addr).add j) = some v := fun j v hj => by
  rw [Go.WideShapes.add_plain, cell_of h]
  simpa using hc j v hj

end Go.Proofs.YtfgfgmbifdojcaaGreatDoor
