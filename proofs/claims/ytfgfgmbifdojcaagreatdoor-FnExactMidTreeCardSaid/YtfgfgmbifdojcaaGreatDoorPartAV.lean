/-
  What is proved: the program's OrderOk tells of an order whether it is right.; the program's tree of an order in the full shape, in memory of its own; condition: the library's table of powers of ten starts as the program's text lays it.; the program's Unset of a map answers the map without that Key, in memory of its own; no condition.; the program's Unset of a map answers the map without that Key, in memory of its own; no condition.
-/
import Derived.Test.YtfgfgmbifdojcaaGreatDoorPartAL
import Derived.Test.YtfgfgmbifdojcaaGreatDoorPartAU
import Derived.Test.YtfgfgmbifdojcaaGreatDoorPartAR
import Derived.Test.YtfgfgmbifdojcaaGreatDoorPartAS
import Derived.Test.YtfgfgmbifdojcaaGreatDoorPartAP
import Derived.Test.YtfgfgmbifdojcaaGreatDoorCopyS
import Derived.Test.YtfgfgmbifdojcaaGreatDoorSetI
/- the program's OrderOk tells of an order whether it is right. -/
namespace Go.Proofs.YtfgfgmbifdojcaaGreatDoor
open Go Go.RowKit

set_option maxRecDepth 100000 in
set_option maxHeartbeats 4000000 in
theorem impl_orderOk {O : Ord} {mv nv : Value} {FM FN : List Nat} (w : World) (ho : OrdAt w O mv nv FM FN) :
    Calls Tryz.prog 33 #[.agg #[.string O.name, .string O.target, .int .i64 O.low, .int .i64 O.high, mv, .int .i64 O.pace.up, .int .i64 O.pace.down, .int .i64 O.pace.ups, .int .i64 O.pace.downs, nv]] w fun e w' => e = .returned (.bool O.okB) ∧ Below w.heap.size w w' := by
  have HX := Lib.hid (Bx.start w #[.string O.name, .string O.target, .int .i64 O.low, .int .i64 O.high, mv, .int .i64 O.pace.up, .int .i64 O.pace.down, .int .i64 O.pace.ups, .int .i64 O.pace.downs, nv] 38)
  have h1 := ho.name
  have h2 := ho.target
  have HM := Lib.hid fun wr (hb : Below w.heap.size w wr) => impl_mets wr (RowAt.stay ho.mets (by decide) hb (Nat.le_refl _))
  have HN := Lib.hid fun wr (hb : Below w.heap.size w wr) => impl_nots wr (RowAt.stay ho.notes (by decide) hb (Nat.le_refl _))
  obtain ⟨⟨o1, c1, rfl⟩, o2, c2, rfl⟩ := ho.slices
  clear ho
  unfold Ord.okB
  rcases b1 : nameB O.name
  · go_enter Tryz.func33, Tryz.ntmps33
    go_wp2_with (first
      | (go_at_call 68; refine (impl_nameOk _ (by assumption) _).mono ?_; rintro e w1 ⟨rfl, e1⟩; subst e1; first | rw [b1] | rw [b2])
      | fail)
    go_ret
    exact ⟨rfl, HX.out.below⟩
  rcases b2 : nameB O.target
  · go_enter Tryz.func33, Tryz.ntmps33
    go_wp2_with (first
      | (go_at_call 68; refine (impl_nameOk _ (by assumption) _).mono ?_; rintro e w1 ⟨rfl, e1⟩; subst e1; first | rw [b1] | rw [b2])
      | fail)
    go_ret
    exact ⟨rfl, HX.out.below⟩
  rcases b3 : inB O.low 1 O.high
  · go_enter Tryz.func33, Tryz.ntmps33
    go_wp2_with (first
      | (go_at_call 68; refine (impl_nameOk _ (by assumption) _).mono ?_; rintro e w1 ⟨rfl, e1⟩; subst e1; first | rw [b1] | rw [b2])
      | (go_at_call 69; refine (impl_inB _ _ _ _).mono ?_; rintro e w1 ⟨rfl, e1⟩; subst e1; rw [b3])
      | fail)
    go_ret
    exact ⟨rfl, HX.out.below⟩
  rcases b4 : decide (O.high ≤ 1000)
  · go_enter Tryz.func33, Tryz.ntmps33
    go_wp2_with (first
      | (go_at_call 68; refine (impl_nameOk _ (by assumption) _).mono ?_; rintro e w1 ⟨rfl, e1⟩; subst e1; first | rw [b1] | rw [b2])
      | (go_at_call 69; refine (impl_inB _ _ _ _).mono ?_; rintro e w1 ⟨rfl, e1⟩; subst e1; rw [b3])
      | fail)
    go_ret
    exact ⟨rfl, HX.out.below⟩
  rcases b5 : dec (Els Met.name Met.okB O.mets)
  · go_enter Tryz.func33, Tryz.ntmps33
    go_wp2_with (first
      | (go_at_call 68; refine (impl_nameOk _ (by assumption) _).mono ?_; rintro e w1 ⟨rfl, e1⟩; subst e1; first | rw [b1] | rw [b2])
      | (go_at_call 69; refine (impl_inB _ _ _ _).mono ?_; rintro e w1 ⟨rfl, e1⟩; subst e1; rw [b3])
      | (go_at_call 70; refine (HM.out _ HX.out.below).mono ?_; rintro e w1 ⟨rfl, hb⟩; rw [b5]; replace HX := Lib.hid (HX.out.next hb); clear hb; have c5 := HX.out.cell 5; have c6 := HX.out.cell 6; have c7 := HX.out.cell 7; have c8 := HX.out.cell 8)
      | fail)
    go_ret
    exact ⟨rfl, HX.out.below⟩
  rcases b6 : paceB O.pace.up O.pace.down O.pace.ups O.pace.downs
  · go_enter Tryz.func33, Tryz.ntmps33
    go_wp2_with (first
      | (go_at_call 68; refine (impl_nameOk _ (by assumption) _).mono ?_; rintro e w1 ⟨rfl, e1⟩; subst e1; first | rw [b1] | rw [b2])
      | (go_at_call 69; refine (impl_inB _ _ _ _).mono ?_; rintro e w1 ⟨rfl, e1⟩; subst e1; rw [b3])
      | (go_at_call 70; refine (HM.out _ HX.out.below).mono ?_; rintro e w1 ⟨rfl, hb⟩; rw [b5]; replace HX := Lib.hid (HX.out.next hb); clear hb; have c5 := HX.out.cell 5; have c6 := HX.out.cell 6; have c7 := HX.out.cell 7; have c8 := HX.out.cell 8)
      | (go_at_call 71; refine (impl_paceOk _ _ _ _ _).mono ?_; rintro e w2 ⟨rfl, hb⟩; rw [b6]; replace HX := Lib.hid (HX.out.next hb); clear hb; have c9 := HX.out.cell 9)
      | fail)
    go_ret
    exact ⟨rfl, HX.out.below⟩
  rcases b7 : dec (Els Not.key Not.okB O.notes)
  · go_enter Tryz.func33, Tryz.ntmps33
    go_wp2_with (first
      | (go_at_call 68; refine (impl_nameOk _ (by assumption) _).mono ?_; rintro e w1 ⟨rfl, e1⟩; subst e1; first | rw [b1] | rw [b2])
      | (go_at_call 69; refine (impl_inB _ _ _ _).mono ?_; rintro e w1 ⟨rfl, e1⟩; subst e1; rw [b3])
      | (go_at_call 70; refine (HM.out _ HX.out.below).mono ?_; rintro e w1 ⟨rfl, hb⟩; rw [b5]; replace HX := Lib.hid (HX.out.next hb); clear hb; have c5 := HX.out.cell 5; have c6 := HX.out.cell 6; have c7 := HX.out.cell 7; have c8 := HX.out.cell 8)
      | (go_at_call 71; refine (impl_paceOk _ _ _ _ _).mono ?_; rintro e w2 ⟨rfl, hb⟩; rw [b6]; replace HX := Lib.hid (HX.out.next hb); clear hb; have c9 := HX.out.cell 9)
      | (go_at_call 72; refine (HN.out _ HX.out.below).mono ?_; rintro e w3 ⟨rfl, hb⟩; rw [b7]; replace HX := Lib.hid (HX.out.next hb); clear hb)
      | fail)
    go_ret
    exact ⟨rfl, HX.out.below⟩
  go_enter Tryz.func33, Tryz.ntmps33
  go_wp2_with (first
    | (go_at_call 68; refine (impl_nameOk _ (by assumption) _).mono ?_; rintro e w1 ⟨rfl, e1⟩; subst e1; first | rw [b1] | rw [b2])
    | (go_at_call 69; refine (impl_inB _ _ _ _).mono ?_; rintro e w1 ⟨rfl, e1⟩; subst e1; rw [b3])
    | (go_at_call 70; refine (HM.out _ HX.out.below).mono ?_; rintro e w1 ⟨rfl, hb⟩; rw [b5]; replace HX := Lib.hid (HX.out.next hb); clear hb; have c5 := HX.out.cell 5; have c6 := HX.out.cell 6; have c7 := HX.out.cell 7; have c8 := HX.out.cell 8)
    | (go_at_call 71; refine (impl_paceOk _ _ _ _ _).mono ?_; rintro e w2 ⟨rfl, hb⟩; rw [b6]; replace HX := Lib.hid (HX.out.next hb); clear hb; have c9 := HX.out.cell 9)
    | (go_at_call 72; refine (HN.out _ HX.out.below).mono ?_; rintro e w3 ⟨rfl, hb⟩; rw [b7]; replace HX := Lib.hid (HX.out.next hb); clear hb)
    | fail)
  go_ret
  exact ⟨rfl, HX.out.below⟩
end Go.Proofs.YtfgfgmbifdojcaaGreatDoor

/- the program's tree of an order in the full shape, in memory of its own; condition: the library's table of powers of ten starts as the program's text lays it. -/
namespace Go.Proofs.YtfgfgmbifdojcaaGreatDoor
open Go Go.RowKit

set_option maxRecDepth 100000 in
set_option maxHeartbeats 40000000 in
theorem impl_fullT {O : Ord} {mv nv : Value} {FM FN : List Nat} (w : World) (ho : OrdAt w O mv nv FM FN) (hlm : O.mets.length ≤ 1000000) (hln : O.notes.length ≤ 1000000) (htab : Lib.TabIs Tryz.prog w "internal/strconv.uint64pow10" .u64 Lib.pow10Tab) :
    Calls Tryz.prog 34 #[.agg #[.string O.name, .string O.target, .int .i64 O.low, .int .i64 O.high, mv, .int .i64 O.pace.up, .int .i64 O.pace.down, .int .i64 O.pace.ups, .int .i64 O.pace.downs, nv]] w fun e w' => ∃ kv dv F, e = .returned ((fullT O).val kv dv) ∧ Lies w' (fullT O) kv dv F ∧ Fresh w w' F ∧ Below w.heap.size w w' := by
  have HT := Lib.hid (Lib.tabBelow_of_tabIs htab)
  have HMs := Lib.hid fun wr (hb : Below w.heap.size w wr) => impl_metricsTree wr (RowAt.stay ho.mets (by decide) hb (Nat.le_refl _)) hlm (HT.out _ hb)
  have HNs := Lib.hid fun wr (hb : Below w.heap.size w wr) => impl_notesTree wr (RowAt.stay ho.notes (by decide) hb (Nat.le_refl _)) hln
  have HPs : Hid (∀ W, Below w.heap.size w W → Calls Tryz.prog 77 #[.agg #[.int .i64 O.pace.up, .int .i64 O.pace.down, .int .i64 O.pace.ups, .int .i64 O.pace.downs]] W fun e w' => ∃ kv dv F, e = .returned (.agg #[.int .i64 5, .int .i64 0, .string ⟨#[]⟩, kv, dv]) ∧ Lies w' (pacT O.pace) kv dv F ∧ Fresh W w' F ∧ Below W.heap.size W w') := fun W hW => impl_paceTree _ _ _ _ ho.pace.1 ho.pace.2.1 ho.pace.2.2.1 ho.pace.2.2.2 W (HT.out _ hW)
  have HFit := Lib.hid (And.intro ho.high (And.intro ho.low (And.intro ho.name ho.target)))
  obtain ⟨⟨om, cm, rfl⟩, on_, cn, rfl⟩ := ho.slices
  clear ho htab
  have H2 := Lib.hid (Two.start w (.cells #[.string O.name, .string O.target, .int .i64 O.low, .int .i64 O.high, .slice om O.mets.length cm, .int .i64 O.pace.up, .int .i64 O.pace.down, .int .i64 O.pace.ups, .int .i64 O.pace.downs, .slice on_ O.notes.length cn] 59) (.cells #[.int .i64 0, .int .i64 0, .string ⟨#[]⟩, .slice none 0 0, .slice none 0 0] 32))
  go_enter Tryz.func34, Tryz.ntmps34
  go_wp2_with fail
  generalize hw1 : (w.alloc (.cells #[.string O.name, .string O.target, .int .i64 O.low, .int .i64 O.high, .slice om O.mets.length cm, .int .i64 O.pace.up, .int .i64 O.pace.down, .int .i64 O.pace.ups, .int .i64 O.pace.downs, .slice on_ O.notes.length cn] 59)).alloc (.cells #[.int .i64 0, .int .i64 0, .string ⟨#[]⟩, .slice none 0 0, .slice none 0 0] 32) = w1 at *
  clear hw1
  have x0 := cell_of H2.out.arg 0
  have x1 := cell_of H2.out.arg 1
  have x2 := cell_of H2.out.arg 2
  have x3 := cell_of H2.out.arg 3
  have x4 := cell_of H2.out.arg 4
  have x5 := cell_of H2.out.arg 5
  have x6 := cell_of H2.out.arg 6
  have x7 := cell_of H2.out.arg 7
  have x8 := cell_of H2.out.arg 8
  have x9 := cell_of H2.out.arg 9
  simp only [List.getElem?_toArray, List.getElem?_cons_zero, List.getElem?_cons_succ] at x0 x1 x2 x3 x4 x5 x6 x7 x8 x9
  have HSz := Lib.hid H2.out.size
  go_region_held3 (fun w' => w'.cell? ⟨w.heap.size, 0, none⟩ = some (.string O.name) ∧ w'.cell? ⟨w.heap.size, 1, none⟩ = some (.string O.target) ∧ w'.cell? ⟨w.heap.size, 2, none⟩ = some (.int .i64 O.low) ∧ w'.cell? ⟨w.heap.size, 3, none⟩ = some (.int .i64 O.high) ∧ w'.cell? ⟨w.heap.size, 4, none⟩ = some (.slice om O.mets.length cm) ∧ w'.cell? ⟨w.heap.size, 5, none⟩ = some (.int .i64 O.pace.up) ∧ w'.cell? ⟨w.heap.size, 6, none⟩ = some (.int .i64 O.pace.down) ∧ w'.cell? ⟨w.heap.size, 7, none⟩ = some (.int .i64 O.pace.ups) ∧ w'.cell? ⟨w.heap.size, 8, none⟩ = some (.int .i64 O.pace.downs) ∧ w'.cell? ⟨w.heap.size, 9, none⟩ = some (.slice on_ O.notes.length cn)) (go_keep)
    (first
      | (go_at_call 73; refine (impl_intOf _ _).mono ?_; rintro e w' ⟨rfl, hb⟩; (first | (have hq := stepA H2.out hb; have hw := hq.2; replace H2 := Lib.hid hq.1; replace HSz := Lib.hid (And.intro HSz.out hw.size); clear hq) | (have hq := stepB H2.out hb; have hw := hq.2; replace H2 := Lib.hid hq.1; replace HSz := Lib.hid (And.intro HSz.out hw.size); clear hq) | (have hq := stepC H2.out hb (by simp); have hw := hq.2.1; have HZ := Lib.hid hq.2.2.1; replace H2 := Lib.hid hq.1; replace HSz := Lib.hid (And.intro HSz.out hq.2.2.2); clear hq; (first | replace HZ := Lib.hid (HZ.out.mv (n := w.heap.size + 1 + 1) (by simp)) | skip)) | (have hq := stepD H2.out hb; have hw := hq.2.1; have HZ := Lib.hid hq.2.2.1; replace H2 := Lib.hid hq.1; replace HSz := Lib.hid (And.intro HSz.out hq.2.2.2); clear hq; (first | replace HZ := Lib.hid (HZ.out.mv (n := w.heap.size + 1 + 1) (by simp)) | skip))); (try replace HZ := Lib.hid (HZ.out.next hw)); (try replace HMt := Lib.hid (HMt.out.next hw)); (try replace HNt := Lib.hid (HNt.out.next hw)); (try replace HPt := Lib.hid (HPt.out.next hw)); clear hw hb; clear x0 x1 x2 x3 x4 x5 x6 x7 x8 x9; have x0 := cell_of H2.out.arg 0; have x1 := cell_of H2.out.arg 1; have x2 := cell_of H2.out.arg 2; have x3 := cell_of H2.out.arg 3; have x4 := cell_of H2.out.arg 4; have x5 := cell_of H2.out.arg 5; have x6 := cell_of H2.out.arg 6; have x7 := cell_of H2.out.arg 7; have x8 := cell_of H2.out.arg 8; have x9 := cell_of H2.out.arg 9; simp only [List.getElem?_toArray, List.getElem?_cons_zero, List.getElem?_cons_succ] at x0 x1 x2 x3 x4 x5 x6 x7 x8 x9)
      | (go_at_call 74; refine (impl_textOf _ _).mono ?_; rintro e w' ⟨rfl, hb⟩; (first | (have hq := stepA H2.out hb; have hw := hq.2; replace H2 := Lib.hid hq.1; replace HSz := Lib.hid (And.intro HSz.out hw.size); clear hq) | (have hq := stepB H2.out hb; have hw := hq.2; replace H2 := Lib.hid hq.1; replace HSz := Lib.hid (And.intro HSz.out hw.size); clear hq) | (have hq := stepC H2.out hb (by simp); have hw := hq.2.1; have HZ := Lib.hid hq.2.2.1; replace H2 := Lib.hid hq.1; replace HSz := Lib.hid (And.intro HSz.out hq.2.2.2); clear hq; (first | replace HZ := Lib.hid (HZ.out.mv (n := w.heap.size + 1 + 1) (by simp)) | skip)) | (have hq := stepD H2.out hb; have hw := hq.2.1; have HZ := Lib.hid hq.2.2.1; replace H2 := Lib.hid hq.1; replace HSz := Lib.hid (And.intro HSz.out hq.2.2.2); clear hq; (first | replace HZ := Lib.hid (HZ.out.mv (n := w.heap.size + 1 + 1) (by simp)) | skip))); (try replace HZ := Lib.hid (HZ.out.next hw)); (try replace HMt := Lib.hid (HMt.out.next hw)); (try replace HNt := Lib.hid (HNt.out.next hw)); (try replace HPt := Lib.hid (HPt.out.next hw)); clear hw hb; clear x0 x1 x2 x3 x4 x5 x6 x7 x8 x9; have x0 := cell_of H2.out.arg 0; have x1 := cell_of H2.out.arg 1; have x2 := cell_of H2.out.arg 2; have x3 := cell_of H2.out.arg 3; have x4 := cell_of H2.out.arg 4; have x5 := cell_of H2.out.arg 5; have x6 := cell_of H2.out.arg 6; have x7 := cell_of H2.out.arg 7; have x8 := cell_of H2.out.arg 8; have x9 := cell_of H2.out.arg 9; simp only [List.getElem?_toArray, List.getElem?_cons_zero, List.getElem?_cons_succ] at x0 x1 x2 x3 x4 x5 x6 x7 x8 x9)
      | (go_at_call 75; refine (HMs.out _ (by first | exact H2.out.below | exact H2.out.below.trans ((below_drew1 _).mono H2.out.below.size) | exact H2.out.below.trans (((Below.refl _ _).alloc (Nat.le_refl _) _).mono H2.out.below.size) | exact H2.out.below.trans ((below_lit _ _).mono H2.out.below.size))).mono ?_; rintro e w' ⟨dm, GM, rfl, hl, hf, hb⟩; obtain ⟨am, bm, rfl⟩ := hl.slices.2; (first | (have HMt := Lib.hid (kid_at0 H2.out hl hf rfl)) | (have HMt := Lib.hid (kid_at1 H2.out hl hf (by simp))) | (have HMt := Lib.hid (kid_at1 H2.out hl hf (by simp [World.drew])))); clear hl hf; (first | (have hq := stepA H2.out hb; have hw := hq.2; replace H2 := Lib.hid hq.1; replace HSz := Lib.hid (And.intro HSz.out hw.size); clear hq) | (have hq := stepB H2.out hb; have hw := hq.2; replace H2 := Lib.hid hq.1; replace HSz := Lib.hid (And.intro HSz.out hw.size); clear hq) | (have hq := stepC H2.out hb (by simp); have hw := hq.2.1; have HZ := Lib.hid hq.2.2.1; replace H2 := Lib.hid hq.1; replace HSz := Lib.hid (And.intro HSz.out hq.2.2.2); clear hq; (first | replace HZ := Lib.hid (HZ.out.mv (n := w.heap.size + 1 + 1) (by simp)) | skip)) | (have hq := stepD H2.out hb; have hw := hq.2.1; have HZ := Lib.hid hq.2.2.1; replace H2 := Lib.hid hq.1; replace HSz := Lib.hid (And.intro HSz.out hq.2.2.2); clear hq; (first | replace HZ := Lib.hid (HZ.out.mv (n := w.heap.size + 1 + 1) (by simp)) | skip))); (try replace HZ := Lib.hid (HZ.out.next hw)); (try replace HMt := Lib.hid (HMt.out.next hw)); (try replace HNt := Lib.hid (HNt.out.next hw)); (try replace HPt := Lib.hid (HPt.out.next hw)); clear hw hb; clear x0 x1 x2 x3 x4 x5 x6 x7 x8 x9; have x0 := cell_of H2.out.arg 0; have x1 := cell_of H2.out.arg 1; have x2 := cell_of H2.out.arg 2; have x3 := cell_of H2.out.arg 3; have x4 := cell_of H2.out.arg 4; have x5 := cell_of H2.out.arg 5; have x6 := cell_of H2.out.arg 6; have x7 := cell_of H2.out.arg 7; have x8 := cell_of H2.out.arg 8; have x9 := cell_of H2.out.arg 9; simp only [List.getElem?_toArray, List.getElem?_cons_zero, List.getElem?_cons_succ] at x0 x1 x2 x3 x4 x5 x6 x7 x8 x9)
      | (go_at_call 76; refine (HNs.out _ (by first | exact H2.out.below | exact H2.out.below.trans ((below_drew1 _).mono H2.out.below.size) | exact H2.out.below.trans (((Below.refl _ _).alloc (Nat.le_refl _) _).mono H2.out.below.size) | exact H2.out.below.trans ((below_lit _ _).mono H2.out.below.size))).mono ?_; rintro e w' ⟨kn, dn, GN, rfl, hl, hf, hb⟩; obtain ⟨⟨an, bn, rfl⟩, ⟨an2, bn2, rfl⟩⟩ := hl.slices; (first | (have HNt := Lib.hid (kid_at0 H2.out hl hf rfl)) | (have HNt := Lib.hid (kid_at1 H2.out hl hf (by simp))) | (have HNt := Lib.hid (kid_at1 H2.out hl hf (by simp [World.drew])))); clear hl hf; (first | (have hq := stepA H2.out hb; have hw := hq.2; replace H2 := Lib.hid hq.1; replace HSz := Lib.hid (And.intro HSz.out hw.size); clear hq) | (have hq := stepB H2.out hb; have hw := hq.2; replace H2 := Lib.hid hq.1; replace HSz := Lib.hid (And.intro HSz.out hw.size); clear hq) | (have hq := stepC H2.out hb (by simp); have hw := hq.2.1; have HZ := Lib.hid hq.2.2.1; replace H2 := Lib.hid hq.1; replace HSz := Lib.hid (And.intro HSz.out hq.2.2.2); clear hq; (first | replace HZ := Lib.hid (HZ.out.mv (n := w.heap.size + 1 + 1) (by simp)) | skip)) | (have hq := stepD H2.out hb; have hw := hq.2.1; have HZ := Lib.hid hq.2.2.1; replace H2 := Lib.hid hq.1; replace HSz := Lib.hid (And.intro HSz.out hq.2.2.2); clear hq; (first | replace HZ := Lib.hid (HZ.out.mv (n := w.heap.size + 1 + 1) (by simp)) | skip))); (try replace HZ := Lib.hid (HZ.out.next hw)); (try replace HMt := Lib.hid (HMt.out.next hw)); (try replace HNt := Lib.hid (HNt.out.next hw)); (try replace HPt := Lib.hid (HPt.out.next hw)); clear hw hb; clear x0 x1 x2 x3 x4 x5 x6 x7 x8 x9; have x0 := cell_of H2.out.arg 0; have x1 := cell_of H2.out.arg 1; have x2 := cell_of H2.out.arg 2; have x3 := cell_of H2.out.arg 3; have x4 := cell_of H2.out.arg 4; have x5 := cell_of H2.out.arg 5; have x6 := cell_of H2.out.arg 6; have x7 := cell_of H2.out.arg 7; have x8 := cell_of H2.out.arg 8; have x9 := cell_of H2.out.arg 9; simp only [List.getElem?_toArray, List.getElem?_cons_zero, List.getElem?_cons_succ] at x0 x1 x2 x3 x4 x5 x6 x7 x8 x9)
      | (go_at_call 77; refine (HPs.out _ (by first | exact H2.out.below | exact H2.out.below.trans ((below_drew1 _).mono H2.out.below.size) | exact H2.out.below.trans (((Below.refl _ _).alloc (Nat.le_refl _) _).mono H2.out.below.size) | exact H2.out.below.trans ((below_lit _ _).mono H2.out.below.size))).mono ?_; rintro e w' ⟨kp, dp, GP, rfl, hl, hf, hb⟩; obtain ⟨⟨ap, bp, rfl⟩, ⟨ap2, bp2, rfl⟩⟩ := hl.slices; (first | (have HPt := Lib.hid (kid_at0 H2.out hl hf rfl)) | (have HPt := Lib.hid (kid_at1 H2.out hl hf (by simp))) | (have HPt := Lib.hid (kid_at1 H2.out hl hf (by simp [World.drew])))); clear hl hf; (first | (have hq := stepA H2.out hb; have hw := hq.2; replace H2 := Lib.hid hq.1; replace HSz := Lib.hid (And.intro HSz.out hw.size); clear hq) | (have hq := stepB H2.out hb; have hw := hq.2; replace H2 := Lib.hid hq.1; replace HSz := Lib.hid (And.intro HSz.out hw.size); clear hq) | (have hq := stepC H2.out hb (by simp); have hw := hq.2.1; have HZ := Lib.hid hq.2.2.1; replace H2 := Lib.hid hq.1; replace HSz := Lib.hid (And.intro HSz.out hq.2.2.2); clear hq; (first | replace HZ := Lib.hid (HZ.out.mv (n := w.heap.size + 1 + 1) (by simp)) | skip)) | (have hq := stepD H2.out hb; have hw := hq.2.1; have HZ := Lib.hid hq.2.2.1; replace H2 := Lib.hid hq.1; replace HSz := Lib.hid (And.intro HSz.out hq.2.2.2); clear hq; (first | replace HZ := Lib.hid (HZ.out.mv (n := w.heap.size + 1 + 1) (by simp)) | skip))); (try replace HZ := Lib.hid (HZ.out.next hw)); (try replace HMt := Lib.hid (HMt.out.next hw)); (try replace HNt := Lib.hid (HNt.out.next hw)); (try replace HPt := Lib.hid (HPt.out.next hw)); clear hw hb; clear x0 x1 x2 x3 x4 x5 x6 x7 x8 x9; have x0 := cell_of H2.out.arg 0; have x1 := cell_of H2.out.arg 1; have x2 := cell_of H2.out.arg 2; have x3 := cell_of H2.out.arg 3; have x4 := cell_of H2.out.arg 4; have x5 := cell_of H2.out.arg 5; have x6 := cell_of H2.out.arg 6; have x7 := cell_of H2.out.arg 7; have x8 := cell_of H2.out.arg 8; have x9 := cell_of H2.out.arg 9; simp only [List.getElem?_toArray, List.getElem?_cons_zero, List.getElem?_cons_succ] at x0 x1 x2 x3 x4 x5 x6 x7 x8 x9)
      | (go_at_call 78; refine (sh_node _ _ _ ⟨_, _, _, rfl⟩ ⟨_, _, _, rfl⟩).mono ?_; rintro e w' ⟨rfl, hb⟩; (first | (have hq := stepD H2.out hb; have hw := hq.2.1; replace HZ := Lib.hid (HZ.out.next hw); have HN := Lib.hid hq.2.2.1; replace H2 := Lib.hid hq.1; replace HSz := Lib.hid (And.intro HSz.out hq.2.2.2); clear hq) | (have hq := stepC H2.out hb (by simp); have hw := hq.2.1; replace HZ := Lib.hid (HZ.out.next hw); have HN := Lib.hid hq.2.2.1; replace H2 := Lib.hid hq.1; replace HSz := Lib.hid (And.intro HSz.out hq.2.2.2); clear hq) | (have hq := stepF H2.out hb; have hw := hq.2.1; have HZ := Lib.hid hq.2.2.1; have HN := Lib.hid hq.2.2.2; replace H2 := Lib.hid hq.1; clear hq; (first | (have h9 := HZ.out; have h8 : One w w' _ (.cells #[.string ⟨#[104, 105, 103, 104]⟩, .string ⟨#[107, 105, 110, 100]⟩, .string ⟨#[108, 111, 119]⟩, .string ⟨#[109, 101, 116, 114, 105, 99, 115]⟩, .string ⟨#[110, 97, 109, 101]⟩, .string ⟨#[110, 111, 116, 101, 115]⟩, .string ⟨#[112, 97, 99, 101]⟩, .string ⟨#[116, 97, 114, 103, 101, 116]⟩] 9) := h9; clear h8 h9) | (have hq := HZ; replace HZ := HN; replace HN := hq; clear hq))) | (have hq := stepE H2.out hb (by simp); have hw := hq.2.1; have HZ := Lib.hid hq.2.2.1; have HN := Lib.hid hq.2.2.2; replace H2 := Lib.hid hq.1; clear hq; (first | (have h9 := HZ.out; have h8 : One w w' _ (.cells #[.string ⟨#[104, 105, 103, 104]⟩, .string ⟨#[107, 105, 110, 100]⟩, .string ⟨#[108, 111, 119]⟩, .string ⟨#[109, 101, 116, 114, 105, 99, 115]⟩, .string ⟨#[110, 97, 109, 101]⟩, .string ⟨#[110, 111, 116, 101, 115]⟩, .string ⟨#[112, 97, 99, 101]⟩, .string ⟨#[116, 97, 114, 103, 101, 116]⟩] 9) := h9; clear h8 h9) | (have hq := HZ; replace HZ := HN; replace HN := hq; clear hq)))); replace HMt := Lib.hid (HMt.out.next hw); replace HNt := Lib.hid (HNt.out.next hw); replace HPt := Lib.hid (HPt.out.next hw); clear hw hb; clear x0 x1 x2 x3 x4 x5 x6 x7 x8 x9; have x0 := cell_of H2.out.arg 0; have x1 := cell_of H2.out.arg 1; have x2 := cell_of H2.out.arg 2; have x3 := cell_of H2.out.arg 3; have x4 := cell_of H2.out.arg 4; have x5 := cell_of H2.out.arg 5; have x6 := cell_of H2.out.arg 6; have x7 := cell_of H2.out.arg 7; have x8 := cell_of H2.out.arg 8; have x9 := cell_of H2.out.arg 9; simp only [List.getElem?_toArray, List.getElem?_cons_zero, List.getElem?_cons_succ] at x0 x1 x2 x3 x4 x5 x6 x7 x8 x9; obtain ⟨r0, r1, r2, r3, r4, r5⟩ := five H2.out.res))
  all_goals
    have hsz := HSz.out
    obtain ⟨F, HF⟩ := full_fin O H2.out HZ.out HN.out HMt.out HNt.out HPt.out (by omega) (by omega) (by omega) (by omega) (by omega) (by omega) (by omega) (by omega) (by omega) (by omega) (by omega) (by omega) rfl rfl HFit.out.1 HFit.out.2.1 HFit.out.2.2.1 HFit.out.2.2.2 rfl
    clear hsz
    go_wp2
    exact bodyPost_ret (ret_node Tryz.results34 rfl HF.1) rfl ⟨_, _, _, rfl, HF.2.1, HF.2.2.1, HF.2.2.2⟩

end Go.Proofs.YtfgfgmbifdojcaaGreatDoor

/- the program's Unset of a map answers the map without that Key, in memory of its own; no condition. -/
namespace Go.Proofs.YtfgfgmbifdojcaaGreatDoor
open Go Go.RowKit

/-- Where Unset stands in its loop: mk Keys and md Kids of what stays are laid. -/
structure US (w wc wr : World) (a b c d e : Value) (B : Nat) (k n : Int) (s : ByteArray) (ks : List ByteArray) (kids : List RT) (mk md : Nat) (kv dv : Value) (KV DV : Nat → Value) (FF : Nat → List Nat) : Prop where
  cbox : CBox w wr 32 a b c d e
  out : wr.heap[B]? = some (.cells #[.int .i64 k, .int .i64 n, .string s, kv, dv] 32 (0, 0))
  big : w.heap.size + 2 ≤ B
  blt : B < wc.heap.size
  keys : wr.ownsRow wc.heap.size 9 1 kv mk ((ks.take mk).map .string)
  apart : ∀ g, kv.ownBlock = some g → g ∉ (List.range md).flatMap FF
  laid : LaidApp 32 w wc wr kids md dv KV DV FF

theorem LaidApp.grow {t : TypeId} {w0 w wr w3 : World} {kids : List RT} {k : Nat} {v : Value} {KV DV : Nat → Value} {FF : Nat → List Nat} (h : LaidApp t w0 w wr kids k v KV DV FF) (hk : k ≤ kids.length) {row : Option Nat} (hg : wr.grownBy w3 row)
    (hr : ∀ b, row = some b → w.heap.size ≤ b ∧ b ∉ (List.range k).flatMap FF ∧ v.ownBlock ≠ some b) : LaidApp t w0 w w3 kids k v KV DV FF := by
  have keep : ∀ b ∈ (List.range k).flatMap FF, w3.heap[b]? = wr.heap[b]? := fun b hb => hg.block b (h.lt hk b hb) (fun e => (hr b e.symm).2.1 hb)
  refine ⟨owns_carry h.own fun b e => hg.block b (h.ownlt b e).2 (fun e' => (hr b e'.symm).2.2 e), fun j hj hjk => (h.lie j hj hjk).carry fun b hbF => keep b (List.mem_flatMap.2 ⟨j, List.mem_range.2 hjk, hbF⟩), h.fresh.carry keep, h.apart,
    h.below.grown hg (Nat.le_trans h.size0 h.size) (fun b e => Nat.le_trans h.size0 (hr b e).1), Nat.le_trans h.size hg.size, h.size0, h.nil⟩

section
variable {w wc wr w1 w2 w3 : World} {a b c d e : Value} {B : Nat} {k n : Int} {s : ByteArray} {ks : List ByteArray} {kids : List RT} {mk md : Nat} {kv dv : Value} {KV DV : Nat → Value} {FF : Nat → List Nat}

theorem types_ne {w : World} {b : Nat} {cs cs' : Array Value} (h : w.heap[b]? = some (.cells cs 9 (0, 0))) (h' : w.heap[b]? = some (.cells cs' 32 (0, 0))) : False := by
  rw [h] at h'; injection h' with h'; injection h' with _ h'; exact absurd h' (by decide)

theorem US.next (h : US w wc wr a b c d e B k n s ks kids mk md kv dv KV DV FF) (hmd : md ≤ kids.length) (hb : Below wr.heap.size wr w1) : US w wc w1 a b c d e B k n s ks kids mk md kv dv KV DV FF :=
  ⟨h.cbox.next hb, blk_next h.out hb, h.big, h.blt, owns_below h.keys hb, h.apart, h.laid.stay hmd hb⟩

theorem US.start (hc : CBox w wr 32 a b c d e) (k n : Int) (s : ByteArray) (ks : List ByteArray) (kids : List RT) :
    US w (wr.alloc (.cells #[.int .i64 k, .int .i64 n, .string s, .slice none 0 0, .slice none 0 0] 32)) (wr.alloc (.cells #[.int .i64 k, .int .i64 n, .string s, .slice none 0 0, .slice none 0 0] 32)) a b c d e wr.heap.size k n s ks kids 0 0 (.slice none 0 0) (.slice none 0 0) (fun _ => .bool true) (fun _ => .bool true) (fun _ => []) := by
  have hb := (Below.refl _ wr).alloc (Nat.le_refl _) (.cells #[.int .i64 k, .int .i64 n, .string s, .slice none 0 0, .slice none 0 0] 32)
  have hc' := hc.next hb
  exact ⟨hc', heap_last wr _, hc.size, by simp, ⟨rfl, .inl ⟨rfl, rfl⟩⟩, fun g h => by simp [Value.ownBlock] at h, LaidApp.start _ kids hc'.below (Nat.le_refl _) hc'.below.size⟩

theorem US.key (h : US w wc wr a b c d e B k n s ks kids mk md kv dv KV DV FF) (hmd : md ≤ kids.length) {x : ByteArray} (hx : ks[mk]? = some x) {g cap : Nat} (hgrow : wr.grownBy w3 kv.ownBlock)
    (hown : w3.ownsRow wc.heap.size 9 1 (.slice (some ⟨g, 0, none⟩) (mk + 1) cap) (mk + 1) (((ks.take mk).map .string) ++ [.string x])) (hat : kv.ownBlock = some g ∨ g = wr.heap.size) :
    US w wc (w3.setCell ⟨B, 3, none⟩ (.slice (some ⟨g, 0, none⟩) (mk + 1) cap)) a b c d e B k n s ks kids (mk + 1) md (.slice (some ⟨g, 0, none⟩) (mk + 1) cap) dv KV DV FF := by
  have hk : ∀ x, kv.ownBlock = some x → wc.heap.size ≤ x := fun x e => (owns_blk h.keys e).1
  have hwc := h.laid.size
  have hbig := h.big
  have hblt := h.blt
  have keep : ∀ x, x < wc.heap.size → w3.heap[x]? = wr.heap[x]? := fun x hx => hgrow.block x (by omega) (fun e => by have := hk x e.symm; omega)
  have set : ∀ x, x ≠ B → (w3.setCell ⟨B, 3, none⟩ (.slice (some ⟨g, 0, none⟩) (mk + 1) cap)).heap[x]? = w3.heap[x]? := fun x hx => Below.heap_setCell _ _ _ _ hx
  have hL := h.laid.grow hmd hgrow (fun x e => ⟨hk x e, h.apart x e, fun e' => by
    obtain ⟨-, -, cs, e1⟩ := owns_blk h.keys e
    obtain ⟨-, -, cs', e2⟩ := owns_blk h.laid.own e'
    exact types_ne e1 e2⟩)
  have hsz := h.cbox.size
  refine ⟨⟨hL.below.setCell (by show w.heap.size ≤ B; omega) _, ?_, ?_, ?_⟩, heap_set ((keep B hblt).trans h.out) 3 _, hbig, hblt, ?_, fun g' e => ?_, hL.set hblt (by show w.heap.size ≤ B; omega) _⟩
  · have := hgrow.size; simp only [World.setCell, Array.size_modify]; omega
  · rw [set _ (by omega), keep _ (by omega)]; exact h.cbox.box
  · rw [set _ (by omega), keep _ (by omega)]; exact h.cbox.res
  · obtain ⟨hlt, rfl⟩ := List.getElem?_eq_some_iff.1 hx
    rw [List.take_succ_eq_append_getElem hlt, List.map_append]
    refine owns_carry hown fun b e => set b ?_
    have := (owns_blk hown e).1
    omega
  · have eg : g = g' := by simpa [Value.ownBlock] using e
    subst eg
    rcases hat with e' | e'
    · exact h.apart _ e'
    · intro hm
      have := h.laid.lt hmd _ hm
      omega

theorem US.kid (h : US w wc wr a b c d e B k n s ks kids mk md kv dv KV DV FF) (hj : md < kids.length) (hb1 : Below wr.heap.size wr w1) {kvx dvx : Value} {F : List Nat} (hl : Lies w1 kids[md] kvx dvx F) (hf : Fresh wr w1 F) (hb2 : Below w1.heap.size w1 w2)
    {g cap : Nat} (hgrow : w2.grownBy w3 dv.ownBlock) (hown : w3.ownsRow wc.heap.size 32 5 (.slice (some ⟨g, 0, none⟩) (md + 1) cap) (md + 1) (rowsOf kids KV DV md ++ kids[md].row kvx dvx)) (hat : dv.ownBlock = some g ∨ g = w2.heap.size) :
    US w wc (w3.setCell ⟨B, 4, none⟩ (.slice (some ⟨g, 0, none⟩) (md + 1) cap)) a b c d e B k n s ks kids mk (md + 1) kv (.slice (some ⟨g, 0, none⟩) (md + 1) cap) (fun i => if i = md then kvx else KV i) (fun i => if i = md then dvx else DV i) (fun i => if i = md then F else FF i) := by
  have hbw := hb1.trans (hb2.mono hb1.size)
  have hwc := h.laid.size
  have hblt := h.blt
  have hbig := h.big
  have keep : ∀ x, x < wc.heap.size → w3.heap[x]? = wr.heap[x]? := fun x hx => by
    rw [hgrow.block x (by have := hbw.size; omega) (fun e => by have := (h.laid.ownlt x e.symm).1; omega), hbw.block x (by omega)]
  have set : ∀ x, x ≠ B → (w3.setCell ⟨B, 4, none⟩ (.slice (some ⟨g, 0, none⟩) (md + 1) cap)).heap[x]? = w3.heap[x]? := fun x hx => Below.heap_setCell _ _ _ _ hx
  have hl3 := h.laid.step hj hb1 hl hf hb2 hgrow hown hat
  have hsz := h.cbox.size
  refine ⟨⟨hl3.below.setCell (by show w.heap.size ≤ B; omega) _, ?_, ?_, ?_⟩, heap_set ((keep B hblt).trans h.out) 4 _, hbig, hblt, ?_, fun g' e => ?_, hl3.set hblt (by show w.heap.size ≤ B; omega) _⟩
  · have := Nat.le_trans hbw.size hgrow.size
    simp only [World.setCell, Array.size_modify]
    omega
  · rw [set _ (by omega), keep _ (by omega)]; exact h.cbox.box
  · rw [set _ (by omega), keep _ (by omega)]; exact h.cbox.res
  · refine owns_carry h.keys fun x e => ?_
    obtain ⟨h1, h2, cs, h3⟩ := owns_blk h.keys e
    rw [set _ (by omega), hgrow.block _ (by have := hbw.size; omega) (fun e' => by
      obtain ⟨-, h5, cs', h4⟩ := owns_blk h.laid.own e'.symm
      exact types_ne h3 h4), hbw.block x h2]
  · have h1 := (owns_blk h.keys e).2.1
    rw [flat_succ]
    intro hm
    rcases List.mem_append.1 hm with hm | hm
    · exact h.apart _ e hm
    · have := hf.old _ hm; omega

theorem US.done (h : US w wc wr a b c d e B k n s ks kids ks.length kids.length kv dv KV DV FF) (hfit : Fit k ∧ Fit n ∧ s.size ≤ maxLen) (hks : ∀ x ∈ ks, x.size ≤ maxLen) :
    ∃ F, (set5 wr (w.heap.size + 1) 0 (.int .i64 k) (.int .i64 n) (.string s) kv dv).heap[w.heap.size + 1]? = some (.cells #[.int .i64 k, .int .i64 n, .string s, kv, dv] 32 (0, 0)) ∧
    Lies (set5 wr (w.heap.size + 1) 0 (.int .i64 k) (.int .i64 n) (.string s) kv dv) (.node k n s ks kids) kv dv F ∧ Fresh w (set5 wr (w.heap.size + 1) 0 (.int .i64 k) (.int .i64 n) (.string s) kv dv) F ∧
    Below w.heap.size w (set5 wr (w.heap.size + 1) 0 (.int .i64 k) (.int .i64 n) (.string s) kv dv) := by
  have hbig := h.big
  have hblt := h.blt
  have hk0 := h.keys
  rw [List.take_of_length_le (Nat.le_refl _)] at hk0
  obtain ⟨FK, k1, k2, k3⟩ := strs_owned (w := w) hk0 (fun i hi => hks _ (List.getElem_mem _)) (by omega)
  obtain ⟨FD, d1, d2, d3⟩ := kids_owned (w := w) h.laid.own (fun j hj => h.laid.lie j hj hj) (h.laid.fresh.earlier (by omega)) h.laid.apart (by omega)
  have hap : ∀ x ∈ FK, x ∉ FD := fun x hx hx' => by
    have e1 := k3 x hx
    rcases d3 x hx' with e | e
    · obtain ⟨-, -, cs, e2⟩ := owns_blk hk0 e1
      obtain ⟨-, -, cs', e3⟩ := owns_blk h.laid.own e
      exact types_ne e2 e3
    · exact h.apart _ e1 e
  have hfar : ∀ x ∈ FK ++ FD, w.heap.size + 2 ≤ x := fun x hx => by
    rcases List.mem_append.1 hx with hx | hx
    · have := (owns_blk hk0 (k3 x hx)).1; omega
    · rcases d3 x hx with e | e
      · have := (owns_blk h.laid.own e).1; omega
      · have := h.laid.fresh.old x e; omega
  have hf : Fresh w wr (FK ++ FD) := ⟨List.nodup_append.2 ⟨k2.nodup, d2.nodup, fun a ha b hb' e => hap a ha (e ▸ hb')⟩, fun x hx => by have := hfar x hx; omega, fun x hx => by
    rcases List.mem_append.1 hx with hx | hx
    · exact k2.free x hx
    · exact d2.free x hx⟩
  exact ⟨FK ++ FD, copy_fin h.cbox hfit k1 d1 hf hfar⟩
end
end Go.Proofs.YtfgfgmbifdojcaaGreatDoor

/- the program's Unset of a map answers the map without that Key, in memory of its own; no condition. -/
namespace Go.Proofs.YtfgfgmbifdojcaaGreatDoor
open Go Go.RowKit

theorem US.kid' {w wc wr w1 w2 w3 : World} {a b c d e : Value} {B : Nat} {k n : Int} {s : ByteArray} {ks : List ByteArray} {kids : List RT} {mk md : Nat} {kv dv : Value} {KV DV : Nat → Value} {FF : Nat → List Nat} (h : US w wc wr a b c d e B k n s ks kids mk md kv dv KV DV FF) {X : RT} (hX : kids[md]? = some X) (hb1 : Below wr.heap.size wr w1) {kvx dvx : Value} {F : List Nat} (hl : Lies w1 X kvx dvx F) (hf : Fresh wr w1 F) (hb2 : Below w1.heap.size w1 w2)
    {g cap : Nat} (hgrow : w2.grownBy w3 dv.ownBlock) (hown : w3.ownsRow wc.heap.size 32 5 (.slice (some ⟨g, 0, none⟩) (md + 1) cap) (md + 1) (rowsOf kids KV DV md ++ X.row kvx dvx)) (hat : dv.ownBlock = some g ∨ g = w2.heap.size) :
    US w wc (w3.setCell ⟨B, 4, none⟩ (.slice (some ⟨g, 0, none⟩) (md + 1) cap)) a b c d e B k n s ks kids mk (md + 1) kv (.slice (some ⟨g, 0, none⟩) (md + 1) cap) (fun i => if i = md then kvx else KV i) (fun i => if i = md then dvx else DV i) (fun i => if i = md then F else FF i) := by
  obtain ⟨hj, rfl⟩ := List.getElem?_eq_some_iff.1 hX
  exact h.kid hj hb1 hl hf hb2 hgrow hown hat

set_option maxRecDepth 100000 in
set_option maxHeartbeats 4000000 in
theorem impl_unset (T : RT) (key : ByteArray) (hm : T.isMap) (w : World) (kv dv : Value) (F : List Nat) (hl : Lies w T kv dv F) (hT : T.sz ≤ 1048576) :
    Calls Tryz.prog 84 #[T.val kv dv, .string key] w fun e w' => ∃ kv' dv' F', e = .returned (.agg #[.int .i64 T.k, .int .i64 T.n, .string T.s, kv', dv']) ∧ Lies w' (unT T key) kv' dv' F' ∧ Fresh w w' F' ∧ Below w.heap.size w w' := by
  cases T with
  | node k n s keys kids =>
    obtain ⟨hk, hn, hs, FK, FD, hK, hD, -⟩ := hl.outn
    clear hl
    have hsz := hT
    rw [RT.sz] at hsz
    have h5 : k = 5 := hm.1
    have hlen : keys.length = kids.length := hm.2
    subst h5
    have HX := Lib.hid (CBox.start w 32 (.int .i64 5) (.int .i64 n) (.string s) kv dv)
    have HFit : Hid (Fit 5 ∧ Fit n ∧ s.size ≤ maxLen) := ⟨hk, hn, hs⟩
    obtain ⟨ko, kc, kb, kof, rfl, hlc, hcm, ho, -, hcell, -⟩ := hK
    obtain ⟨o2, q2, b, off, FF, KV, DV, rfl, hlc2, hcm2, ho2, -, hcell2, hlies2, -⟩ := hD
    have HC := Lib.hid hcell
    have HO := Lib.hid ho
    have HC2 := Lib.hid hcell2
    have HO2 := Lib.hid ho2
    have HL2 := Lib.hid hlies2
    have HLen := Lib.hid hlen
    obtain ⟨i0, hi0, hz0, hz1, hz2⟩ := info_parts info_node
    obtain ⟨i1, hi1, hy0, hy1, hy2⟩ := info_parts info_string
    have HDec : Hid ((decide ((5 : Int) = 5) && decide (keys.length = kids.length)) = true) := Lib.hid (by simp [hlen])
    clear hcell ho hcell2 ho2 hlies2 hm hT hlen
    unfold maxLen at hcm hcm2
    show Calls Tryz.prog 84 #[.agg #[.int .i64 5, .int .i64 n, .string s, .slice ko keys.length kc, .slice o2 kids.length q2], .string key] w fun e w' => ∃ kv' dv' F', e = .returned (.agg #[.int .i64 5, .int .i64 n, .string s, kv', dv']) ∧ Lies w' (.node 5 n s (unK keys kids key) (unD keys kids key)) kv' dv' F' ∧ Fresh w w' F' ∧ Below w.heap.size w w'
    go_enter Tryz.func84, Tryz.ntmps84
    go_wp2_with (first
      | (go_at_call 114; refine (impl_isMap _ _ _ _ _ _ _ _ _ _).mono ?_; rintro e w1 ⟨rfl, hb⟩; rw [HDec.out]; replace HX := Lib.hid (HX.out.next hb); clear hb; obtain ⟨x0, x1, x2, x3, x4, -⟩ := five HX.out.box; have y3 : ∀ ob, (w1.alloc ob).cell? ⟨w.heap.size, 3, none⟩ = some (.slice ko keys.length kc) := fun ob => (World.cell?_alloc_lt w1 ob ⟨w.heap.size, 3, none⟩ (by show w.heap.size < _; have := HX.out.size; omega)).trans x3)
      | fail)
    have HS := Lib.hid (US.start HX.out 5 n s (unK keys kids key) (unD keys kids key))
    have HKs : Hid (∀ x ∈ unK keys kids key, x.size ≤ maxLen) := fun x hx => by
      obtain ⟨i, hi, rfl⟩ := List.getElem_of_mem (un_mem_k hx)
      exact (HC.out i hi).2
    clear x0 x1 x2 x3 x4 y3 HX HDec
    generalize w1.alloc (.cells #[.int .i64 5, .int .i64 n, .string s, .slice none 0 0, .slice none 0 0] 32) = wc at *
    generalize w1.heap.size = B at *
    clear w1
    have hkl : keys.length ≤ 1048576 := by have := (keys_le (.node 5 n s keys kids)).1; simp only [RT.keys, RT.sz] at this; omega
    have HSzA := Lib.hid hsz
    clear hsz
    go_loopw [23] (fun i wr => ∃ (j : Nat) (kv dv : Value) (KV' DV' : Nat → Value) (FF' : Nat → List Nat), j ≤ keys.length ∧ i = .int .i64 j ∧ Hid (US w wc wr (.int .i64 5) (.int .i64 n) (.string s) (.slice ko keys.length kc) (.slice o2 kids.length q2) B 5 n s (unK keys kids key) (unD keys kids key) (unN keys kids key j) (unN keys kids key j) kv dv KV' DV' FF')) (fun i _ => keys.length - (intOf i).toNat)
    case atStart => exact ⟨0, _, _, _, _, _, Nat.zero_le _, rfl, by rw [unN_zero]; exact HS.out⟩
    case round =>
      obtain ⟨j, kv, dv, KV', DV', FF', hj, rfl, hr⟩ := hrel
      by_cases hlt : j < keys.length
      · have hbel := hr.out.cbox.below
        have c0 : wr.cell? ⟨kb, kof + j, none⟩ = some (.string keys[j]) := (hbel.cell (by exact World.block_lt_of_cell? _ _ (HC.out j hlt).1)).trans (HC.out j hlt).1
        have ho := HO.out (by omega)
        subst ho
        by_cases he : keys[j] = key
        · have HN : Hid (unN keys kids key (j + 1) = unN keys kids key j) := unN_no HLen.out hlt he
          rw [he] at c0
          clear he hbel
          go_wp2
          exact ⟨⟨j + 1, _, _, _, _, _, by omega, by go_num, by rw [HN.out]; exact hr.out⟩, by simp [intOf]; omega⟩
        · have hlt2 : j < kids.length := by have := HLen.out; omega
          have hne := bytes_ne he
          obtain ⟨hy1', hy2', hy3'⟩ := unN_yes HLen.out hlt hlt2 he
          have HN := Lib.hid hy1'
          have hmj := unN_le (keys := keys) (kids := kids) (key := key) j
          have hmd : unN keys kids key j < (unD keys kids key).length := (List.getElem?_eq_some_iff.1 hy3').1
          have HKx := Lib.hid (fun (wr' w3 : World) (kv dv : Value) (KV' DV' : Nat → Value) (FF' : Nat → List Nat) (g cap : Nat) (h : US w wc wr' (.int .i64 5) (.int .i64 n) (.string s) (.slice (some ⟨kb, kof, none⟩) keys.length kc) (.slice o2 kids.length q2) B 5 n s (unK keys kids key) (unD keys kids key) (unN keys kids key j) (unN keys kids key j) kv dv KV' DV' FF') => h.key (w3 := w3) (g := g) (cap := cap) (Nat.le_of_lt hmd) hy2')
          have HKd := Lib.hid (fun (wr' w1 w2 w3 : World) (kv dv : Value) (KV' DV' : Nat → Value) (FF' : Nat → List Nat) (kvx dvx : Value) (F : List Nat) (g cap : Nat) (h : US w wc wr' (.int .i64 5) (.int .i64 n) (.string s) (.slice (some ⟨kb, kof, none⟩) keys.length kc) (.slice o2 kids.length q2) B 5 n s (unK keys kids key) (unD keys kids key) (unN keys kids key j + 1) (unN keys kids key j) kv dv KV' DV' FF') => h.kid' (w1 := w1) (w2 := w2) (w3 := w3) (kvx := kvx) (dvx := dvx) (F := F) (g := g) (cap := cap) hy3')
          have HNx := Lib.hid (fun (wr' w1 : World) (mk : Nat) (kv dv : Value) (KV' DV' : Nat → Value) (FF' : Nat → List Nat) (h : US w wc wr' (.int .i64 5) (.int .i64 n) (.string s) (.slice (some ⟨kb, kof, none⟩) keys.length kc) (.slice o2 kids.length q2) B 5 n s (unK keys kids key) (unD keys kids key) mk (unN keys kids key j) kv dv KV' DV' FF') => h.next (w1 := w1) (Nat.le_of_lt hmd))
          have HI : Hid (∀ w1 : World, Below w.heap.size w w1 → Calls Tryz.prog 113 #[.agg #[.int .i64 kids[j].k, .int .i64 kids[j].n, .string kids[j].s, KV j, DV j]] w1 fun e w' => ∃ u, e = .returned u ∧ ∃ kv' dv' F', u = .agg #[.int .i64 kids[j].k, .int .i64 kids[j].n, .string kids[j].s, kv', dv'] ∧ Lies w' kids[j] kv' dv' F' ∧ Fresh w1 w' F' ∧ Below w1.heap.size w1 w') := fun w1 hb1 => by
            refine (copy_node _ w1 _ _ _ ((HL2.out j hlt2).stay hb1 (Nat.le_refl _)) (Nat.le_trans (sz_take kids (List.getElem_mem hlt2)) (by have := HSzA.out; omega))).mono ?_
            rintro e w' ⟨kv', dv', F', rfl, g1, g2, g3, -⟩
            exact ⟨_, rfl, kv', dv', F', rfl, g1, g2, g3⟩
          have HCs := Lib.hid (fun (wx : World) (hb : Below w.heap.size w wx) => kid_cells (HC2.out j hlt2) hb)
          have ho2 := HO2.out (by omega)
          subst ho2
          obtain ⟨⟨os1, qs1, es1⟩, ⟨os2, qs2, es2⟩⟩ := (HL2.out j hlt2).slices
          clear he hy1' hy2' hy3'
          generalize unN keys kids key j = m at *
          generalize keys[j] = x at *
          generalize kids[j] = X at *
          generalize KV j = v1 at *
          generalize DV j = v2 at *
          subst es1 es2
          obtain ⟨ok_, ck, rfl⟩ := owns_form hr.out.keys
          obtain ⟨od, cd, rfl⟩ := owns_form hr.out.laid.own
          obtain ⟨y0, y1, y2, y3, y4, y5⟩ := five hr.out.out
          have HW : Hid (wc.heap.size ≤ wr.heap.size ∧ B < wc.heap.size ∧ w.heap.size < wr.heap.size) := ⟨hr.out.laid.size, hr.out.blt, by have := hr.out.cbox.size; omega⟩
          have hB := (Below.refl wr.heap.size wr).alloc (Nat.le_refl _) (.cells #[.string x] 9)
          have hR := Lib.hid (HNx.out _ _ _ _ _ _ _ _ hr.out hB)
          have HKO := Lib.hid (owns_below hr.out.keys hB)
          clear hB hbel
          go_wp2_with (first
            | (at_builtin; refine wpList_append_lies _ rfl (.tmp 32) (.tmp 34) 29 rfl wc.heap.size 9 i1 _ 1 16 Tryz.underlying29 hi1 hy0 hy1 hy2 rfl (by decide) (.slice ok_ m ck) m _ rfl HKO.out ⟨wr.heap.size, 0, none⟩ 1 1 [.string x] rfl rfl (World.news_of_block (cs := #[.string x]) (t := 9) (fr := (0, 0)) (heap_last wr _)) (by simp [Value.oneCell']) (by omega) (by unfold maxLen; omega) (by omega) (by have := HW.out; simp; omega) (wr.heap.size + 1) (by simp) ?_
               intro g cap' w3 hown3 hgrow hat hltg
               have hA := HKx.out _ w3 _ _ _ _ _ g cap' hR.out hgrow hown3 (by simpa using hat)
               have HA := Lib.hid hA
               have hne' : ∀ b', (Value.slice ok_ m ck).ownBlock = some b' → wc.heap.size ≤ b' := fun b' e => (owns_blk hr.out.keys e).1
               have hout3 : w3.heap[B]? = _ := (hgrow.block _ (by have := HW.out; simp; omega) (fun e => by have := hne' _ e.symm; have := HW.out; omega)).trans hR.out.out
               have k1 := cell_of hout3 3
               have k2 : w3.frozen? ⟨B, 3, none⟩ = false := by simp [World.frozen?, hout3]
               simp only [List.getElem?_toArray, List.getElem?_cons_zero, List.getElem?_cons_succ] at k1
               clear hown3 hgrow hat hltg hA hne' hout3)
            | fail)
          clear k1 k2 y0 y1 y2 y3 y4 y5 hR HKO HKx HW
          generalize w3.setCell ⟨B, 3, none⟩ (.slice (some ⟨g, 0, none⟩) (m + 1) cap') = wA at *
          clear w3 hr c0
          obtain ⟨x0, x1, x2, x3, x4, -⟩ := five HA.out.cbox.box
          obtain ⟨y0, y1, y2, y3, y4, y5⟩ := five HA.out.out
          obtain ⟨c0, c1, c2, c3, c4⟩ := HCs.out wA HA.out.cbox.below
          have HBl : Hid (B < wA.heap.size ∧ wc.heap.size ≤ wA.heap.size ∧ B < wc.heap.size) := ⟨by have := HA.out.laid.size; have := HA.out.blt; omega, HA.out.laid.size, HA.out.blt⟩
          have hj0 : (0 : Int) ≤ (j : Int) := by omega
          have hj1 : (j : Int) < (kids.length : Int) := by omega
          clear x0 x1 x2 x3 y0 y1 y2 y3
          go_wp2_with fail
          go_region_law (first
            | (refine step_calls (by rfl) 113 _ _ (by rfl) _ (by simp [Act.eval]) (by intros; simp [go_sem]) (fun _ _ => rfl) (HI.out _ (below_drewN HA.out.cbox.below 1)) ?_
               rintro u w1 ⟨kv1, dv1, F1, rfl, hl1, hf1, hb1⟩
               obtain ⟨⟨o3, q3, rfl⟩, ⟨o4, q4, rfl⟩⟩ := hl1.slices
               have hb01 := (below_drewN (Below.refl wA.heap.size wA) 1).trans (hb1.mono (Nat.le_refl _))
               have m1 : w1.cell? ⟨B, 4, none⟩ = _ := (hb01.cell (by exact HBl.out.1)).trans y4
               have m2 : ∀ ob, (w1.alloc ob).cell? ⟨B, 4, none⟩ = _ := fun ob => (World.cell?_alloc_lt w1 ob ⟨B, 4, none⟩ (Nat.lt_of_lt_of_le HBl.out.1 hb01.size)).trans m1
               have H1 := Lib.hid (And.intro hb01 (And.intro hl1 (hf1.earlier (w := wA) (Nat.le_refl _))))
               clear hl1 hf1 hb1 hb01)
            | (refine step_append_lies _ (by rfl) _ _ _ (by rfl) wc.heap.size 32 i0 _ 5 80 Tryz.underlying30 hi0 hz0 hz1 hz2 rfl (by decide) (.slice od m cd) m (rowsOf (unD keys kids key) KV' DV' m) (by rfl) (owns_below (owns_below HA.out.laid.own H1.out.1) ((Below.refl _ w1).alloc (Nat.le_refl _) _)) ⟨w1.heap.size, 0, none⟩ 1 1 [.int .i64 X.k, .int .i64 X.n, .string X.s, .slice o3 X.keys.length q3, .slice o4 X.kids.length q4] (by rfl) (by rfl) (World.news_of_block (cs := #[.int .i64 X.k, .int .i64 X.n, .string X.s, .slice o3 X.keys.length q3, .slice o4 X.kids.length q4]) (t := 32) (fr := (0, 0)) (heap_last w1 _)) (by simp [Value.oneCell']) (by omega) (by unfold maxLen; omega) (by omega) (by have := HBl.out; have := H1.out.1.size; simp; omega) _ rfl ?_
               intro g2 cap2 w3 hown3 hgrow3 hat3 hlt3
               have hx3 := HKd.out wA w1 _ w3 _ _ _ _ _ _ _ _ g2 cap2 HA.out H1.out.1 H1.out.2.1 H1.out.2.2 ((Below.refl _ w1).alloc (Nat.le_refl _) _) hgrow3 hown3 hat3
               have hBf := hgrow3.block B (by have := H1.out.1.size; have := HBl.out.1; simp; omega) (fun e => by have := (HA.out.laid.ownlt B e.symm).1; have := HBl.out.2.2; omega)
               have k1 : w3.cell? ⟨B, 4, none⟩ = _ := (World.cell?_of_block (a := ⟨B, 4, none⟩) hBf).trans (m2 _)
               have k2 : w3.frozen? ⟨B, 4, none⟩ = false := (World.frozen?_of_block (a := ⟨B, 4, none⟩) hBf).trans (by rw [((Below.refl _ w1).alloc (Nat.le_refl _) _).frozen (by have := H1.out.1.size; have := HBl.out.1; show B < _; omega), H1.out.1.frozen (by exact HBl.out.1)]; exact y5 4)
               have H3 := Lib.hid hx3
               clear hown3 hgrow3 hat3 hlt3 hx3 hBf)
            | fail)
          all_goals go_wp2
          all_goals exact ⟨⟨j + 1, _, _, _, _, _, by omega, by go_num, by rw [HN.out]; exact H3.out⟩, by simp [intOf]; omega⟩
      · have e : j = keys.length := by omega
        subst e
        have e1 := unN_end (keys := keys) (kids := kids) (key := key) HLen.out
        have h := hr.out
        rw [e1] at h
        have h' : US w wc wr (.int .i64 5) (.int .i64 n) (.string s) (.slice ko keys.length kc) (.slice o2 kids.length q2) B 5 n s (unK keys kids key) (unD keys kids key) (unK keys kids key).length (unD keys kids key).length kv dv KV' DV' FF' := by rw [unK_length, unD_length]; exact h
        have HD := Lib.hid (h'.done HFit.out HKs.out)
        clear h h'
        obtain ⟨ok_, ck, rfl⟩ := owns_form hr.out.keys
        obtain ⟨od, cd, rfl⟩ := owns_form hr.out.laid.own
        clear e1
        generalize unN keys kids key keys.length = m at *
        obtain ⟨y0, y1, y2, y3, y4, -⟩ := five hr.out.out
        obtain ⟨z0, z1, z2, z3, z4, z5⟩ := five hr.out.cbox.res
        go_wp2
        obtain ⟨F', hfin⟩ := HD.out
        refine bodyPost_ret (ret_node Tryz.results84 rfl hfin.1) rfl ⟨_, _, rfl, _, hfin.2⟩
end Go.Proofs.YtfgfgmbifdojcaaGreatDoor
