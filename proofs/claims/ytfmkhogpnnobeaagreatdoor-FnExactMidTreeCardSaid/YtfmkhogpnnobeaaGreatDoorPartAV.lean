/-
  What is proved: the program's OrderOk tells of an order whether it is right.; the program's tree of an order in the full shape, in memory of its own; condition: the library's table of powers of ten starts as the program's text lays it.; the program's Unset of a map answers the map without that Key, in memory of its own; no condition.
-/
import Derived.Test.YtfmkhogpnnobeaaGreatDoorPartAL
import Derived.Test.YtfmkhogpnnobeaaGreatDoorPartAU
import Derived.Test.YtfmkhogpnnobeaaGreatDoorPartAR
import Derived.Test.YtfmkhogpnnobeaaGreatDoorPartAS
import Derived.Test.YtfmkhogpnnobeaaGreatDoorPartAP
import Derived.Test.YtfmkhogpnnobeaaGreatDoorCopyS
import Derived.Test.YtfmkhogpnnobeaaGreatDoorSetI
/- the program's OrderOk tells of an order whether it is right. -/
namespace Go.Proofs.YtfmkhogpnnobeaaGreatDoor
open Go Go.RowKit

set_option maxRecDepth 100000 in
set_option maxHeartbeats 4000000 in
theorem impl_orderOk {O : Ord} {mv nv : Value} {FM FN : List Nat} (w : World) (ho : OrdAt w O mv nv FM FN) :
    Calls Tryz.prog 29 #[.agg #[.string O.name, .string O.target, .int .i64 O.low, .int .i64 O.high, mv, .int .i64 O.pace.up, .int .i64 O.pace.down, .int .i64 O.pace.ups, .int .i64 O.pace.downs, nv]] w fun e w' => e = .returned (.bool O.okB) ∧ Below w.heap.size w w' := by
  have HX := Lib.hid (Bx.start w #[.string O.name, .string O.target, .int .i64 O.low, .int .i64 O.high, mv, .int .i64 O.pace.up, .int .i64 O.pace.down, .int .i64 O.pace.ups, .int .i64 O.pace.downs, nv] 38)
  have h1 := ho.name
  have h2 := ho.target
  have HM := Lib.hid fun wr (hb : Below w.heap.size w wr) => impl_mets wr (RowAt.stay ho.mets (by decide) hb (Nat.le_refl _))
  have HN := Lib.hid fun wr (hb : Below w.heap.size w wr) => impl_nots wr (RowAt.stay ho.notes (by decide) hb (Nat.le_refl _))
  obtain ⟨⟨o1, c1, rfl⟩, o2, c2, rfl⟩ := ho.slices
  clear ho
  unfold Ord.okB
  rcases b1 : nameB O.name
  · go_enter Tryz.func29, Tryz.ntmps29
    go_wp2_with (first
      | (go_at_call 66; refine (impl_nameOk _ (by assumption) _).mono ?_; rintro e w1 ⟨rfl, e1⟩; subst e1; first | rw [b1] | rw [b2])
      | fail)
    go_ret
    exact ⟨rfl, HX.out.below⟩
  rcases b2 : nameB O.target
  · go_enter Tryz.func29, Tryz.ntmps29
    go_wp2_with (first
      | (go_at_call 66; refine (impl_nameOk _ (by assumption) _).mono ?_; rintro e w1 ⟨rfl, e1⟩; subst e1; first | rw [b1] | rw [b2])
      | fail)
    go_ret
    exact ⟨rfl, HX.out.below⟩
  rcases b3 : inB O.low 1 O.high
  · go_enter Tryz.func29, Tryz.ntmps29
    go_wp2_with (first
      | (go_at_call 66; refine (impl_nameOk _ (by assumption) _).mono ?_; rintro e w1 ⟨rfl, e1⟩; subst e1; first | rw [b1] | rw [b2])
      | (go_at_call 67; refine (impl_inB _ _ _ _).mono ?_; rintro e w1 ⟨rfl, e1⟩; subst e1; rw [b3])
      | fail)
    go_ret
    exact ⟨rfl, HX.out.below⟩
  rcases b4 : decide (O.high ≤ 1000)
  · go_enter Tryz.func29, Tryz.ntmps29
    go_wp2_with (first
      | (go_at_call 66; refine (impl_nameOk _ (by assumption) _).mono ?_; rintro e w1 ⟨rfl, e1⟩; subst e1; first | rw [b1] | rw [b2])
      | (go_at_call 67; refine (impl_inB _ _ _ _).mono ?_; rintro e w1 ⟨rfl, e1⟩; subst e1; rw [b3])
      | fail)
    go_ret
    exact ⟨rfl, HX.out.below⟩
  rcases b5 : dec (Els Met.name Met.okB O.mets)
  · go_enter Tryz.func29, Tryz.ntmps29
    go_wp2_with (first
      | (go_at_call 66; refine (impl_nameOk _ (by assumption) _).mono ?_; rintro e w1 ⟨rfl, e1⟩; subst e1; first | rw [b1] | rw [b2])
      | (go_at_call 67; refine (impl_inB _ _ _ _).mono ?_; rintro e w1 ⟨rfl, e1⟩; subst e1; rw [b3])
      | (go_at_call 68; refine (HM.out _ HX.out.below).mono ?_; rintro e w1 ⟨rfl, hb⟩; rw [b5]; replace HX := Lib.hid (HX.out.next hb); clear hb; have c5 := HX.out.cell 5; have c6 := HX.out.cell 6; have c7 := HX.out.cell 7; have c8 := HX.out.cell 8)
      | fail)
    go_ret
    exact ⟨rfl, HX.out.below⟩
  rcases b6 : paceB O.pace.up O.pace.down O.pace.ups O.pace.downs
  · go_enter Tryz.func29, Tryz.ntmps29
    go_wp2_with (first
      | (go_at_call 66; refine (impl_nameOk _ (by assumption) _).mono ?_; rintro e w1 ⟨rfl, e1⟩; subst e1; first | rw [b1] | rw [b2])
      | (go_at_call 67; refine (impl_inB _ _ _ _).mono ?_; rintro e w1 ⟨rfl, e1⟩; subst e1; rw [b3])
      | (go_at_call 68; refine (HM.out _ HX.out.below).mono ?_; rintro e w1 ⟨rfl, hb⟩; rw [b5]; replace HX := Lib.hid (HX.out.next hb); clear hb; have c5 := HX.out.cell 5; have c6 := HX.out.cell 6; have c7 := HX.out.cell 7; have c8 := HX.out.cell 8)
      | (go_at_call 69; refine (impl_paceOk _ _ _ _ _).mono ?_; rintro e w2 ⟨rfl, hb⟩; rw [b6]; replace HX := Lib.hid (HX.out.next hb); clear hb; have c9 := HX.out.cell 9)
      | fail)
    go_ret
    exact ⟨rfl, HX.out.below⟩
  rcases b7 : dec (Els Not.key Not.okB O.notes)
  · go_enter Tryz.func29, Tryz.ntmps29
    go_wp2_with (first
      | (go_at_call 66; refine (impl_nameOk _ (by assumption) _).mono ?_; rintro e w1 ⟨rfl, e1⟩; subst e1; first | rw [b1] | rw [b2])
      | (go_at_call 67; refine (impl_inB _ _ _ _).mono ?_; rintro e w1 ⟨rfl, e1⟩; subst e1; rw [b3])
      | (go_at_call 68; refine (HM.out _ HX.out.below).mono ?_; rintro e w1 ⟨rfl, hb⟩; rw [b5]; replace HX := Lib.hid (HX.out.next hb); clear hb; have c5 := HX.out.cell 5; have c6 := HX.out.cell 6; have c7 := HX.out.cell 7; have c8 := HX.out.cell 8)
      | (go_at_call 69; refine (impl_paceOk _ _ _ _ _).mono ?_; rintro e w2 ⟨rfl, hb⟩; rw [b6]; replace HX := Lib.hid (HX.out.next hb); clear hb; have c9 := HX.out.cell 9)
      | (go_at_call 70; refine (HN.out _ HX.out.below).mono ?_; rintro e w3 ⟨rfl, hb⟩; rw [b7]; replace HX := Lib.hid (HX.out.next hb); clear hb)
      | fail)
    go_ret
    exact ⟨rfl, HX.out.below⟩
  go_enter Tryz.func29, Tryz.ntmps29
  go_wp2_with (first
    | (go_at_call 66; refine (impl_nameOk _ (by assumption) _).mono ?_; rintro e w1 ⟨rfl, e1⟩; subst e1; first | rw [b1] | rw [b2])
    | (go_at_call 67; refine (impl_inB _ _ _ _).mono ?_; rintro e w1 ⟨rfl, e1⟩; subst e1; rw [b3])
    | (go_at_call 68; refine (HM.out _ HX.out.below).mono ?_; rintro e w1 ⟨rfl, hb⟩; rw [b5]; replace HX := Lib.hid (HX.out.next hb); clear hb; have c5 := HX.out.cell 5; have c6 := HX.out.cell 6; have c7 := HX.out.cell 7; have c8 := HX.out.cell 8)
    | (go_at_call 69; refine (impl_paceOk _ _ _ _ _).mono ?_; rintro e w2 ⟨rfl, hb⟩; rw [b6]; replace HX := Lib.hid (HX.out.next hb); clear hb; have c9 := HX.out.cell 9)
    | (go_at_call 70; refine (HN.out _ HX.out.below).mono ?_; rintro e w3 ⟨rfl, hb⟩; rw [b7]; replace HX := Lib.hid (HX.out.next hb); clear hb)
    | fail)
  go_ret
  exact ⟨rfl, HX.out.below⟩
end Go.Proofs.YtfmkhogpnnobeaaGreatDoor

/- the program's tree of an order in the full shape, in memory of its own; condition: the library's table of powers of ten starts as the program's text lays it. -/
namespace Go.Proofs.YtfmkhogpnnobeaaGreatDoor
open Go Go.RowKit

set_option maxRecDepth 100000 in
set_option maxHeartbeats 40000000 in
theorem impl_fullT {O : Ord} {mv nv : Value} {FM FN : List Nat} (w : World) (ho : OrdAt w O mv nv FM FN) (hlm : O.mets.length ≤ 1000000) (hln : O.notes.length ≤ 1000000) (htab : Lib.TabIs Tryz.prog w "internal/strconv.uint64pow10" .u64 Lib.pow10Tab) :
    Calls Tryz.prog 73 #[.agg #[.string O.name, .string O.target, .int .i64 O.low, .int .i64 O.high, mv, .int .i64 O.pace.up, .int .i64 O.pace.down, .int .i64 O.pace.ups, .int .i64 O.pace.downs, nv]] w fun e w' => ∃ kv dv F, e = .returned ((fullT O).val kv dv) ∧ Lies w' (fullT O) kv dv F ∧ Fresh w w' F ∧ Below w.heap.size w w' := by
  have HT := Lib.hid (Lib.tabBelow_of_tabIs htab)
  have HMs := Lib.hid fun wr (hb : Below w.heap.size w wr) => impl_metricsTree wr (RowAt.stay ho.mets (by decide) hb (Nat.le_refl _)) hlm (HT.out _ hb)
  have HNs := Lib.hid fun wr (hb : Below w.heap.size w wr) => impl_notesTree wr (RowAt.stay ho.notes (by decide) hb (Nat.le_refl _)) hln
  have HPs : Hid (∀ W, Below w.heap.size w W → Calls Tryz.prog 78 #[.agg #[.int .i64 O.pace.up, .int .i64 O.pace.down, .int .i64 O.pace.ups, .int .i64 O.pace.downs]] W fun e w' => ∃ kv dv F, e = .returned (.agg #[.int .i64 5, .int .i64 0, .string ⟨#[]⟩, kv, dv]) ∧ Lies w' (pacT O.pace) kv dv F ∧ Fresh W w' F ∧ Below W.heap.size W w') := fun W hW => impl_paceTree _ _ _ _ ho.pace.1 ho.pace.2.1 ho.pace.2.2.1 ho.pace.2.2.2 W (HT.out _ hW)
  have HFit := Lib.hid (And.intro ho.high (And.intro ho.low (And.intro ho.name ho.target)))
  obtain ⟨⟨om, cm, rfl⟩, on_, cn, rfl⟩ := ho.slices
  clear ho htab
  have H2 := Lib.hid (Two.start w (.cells #[.string O.name, .string O.target, .int .i64 O.low, .int .i64 O.high, .slice om O.mets.length cm, .int .i64 O.pace.up, .int .i64 O.pace.down, .int .i64 O.pace.ups, .int .i64 O.pace.downs, .slice on_ O.notes.length cn] 57) (.cells #[.int .i64 0, .int .i64 0, .string ⟨#[]⟩, .slice none 0 0, .slice none 0 0] 32))
  go_enter Tryz.func73, Tryz.ntmps73
  go_wp2_with fail
  generalize hw1 : (w.alloc (.cells #[.string O.name, .string O.target, .int .i64 O.low, .int .i64 O.high, .slice om O.mets.length cm, .int .i64 O.pace.up, .int .i64 O.pace.down, .int .i64 O.pace.ups, .int .i64 O.pace.downs, .slice on_ O.notes.length cn] 57)).alloc (.cells #[.int .i64 0, .int .i64 0, .string ⟨#[]⟩, .slice none 0 0, .slice none 0 0] 32) = w1 at *
  clear hw1
  have x0 := cell_of H2.out.arg 0
  have x1 := cell_of H2.out.arg 1
  have x2 := cell_of H2.out.arg 2
  have x3 := cell_of H2.out.arg 3
  have x4 := cell_of H2.out.arg 4
  have x5 := cell_of H2.out.arg 5
  have x6 := cell_of H2.out.arg 6
  have x7 := cell_of H2.out.arg 7
  have x8 := cell_of H2.out.arg 8
  have x9 := cell_of H2.out.arg 9
  simp only [List.getElem?_toArray, List.getElem?_cons_zero, List.getElem?_cons_succ] at x0 x1 x2 x3 x4 x5 x6 x7 x8 x9
  have HSz := Lib.hid H2.out.size
  go_region_held3 (fun w' => w'.cell? ⟨w.heap.size, 0, none⟩ = some (.string O.name) ∧ w'.cell? ⟨w.heap.size, 1, none⟩ = some (.string O.target) ∧ w'.cell? ⟨w.heap.size, 2, none⟩ = some (.int .i64 O.low) ∧ w'.cell? ⟨w.heap.size, 3, none⟩ = some (.int .i64 O.high) ∧ w'.cell? ⟨w.heap.size, 4, none⟩ = some (.slice om O.mets.length cm) ∧ w'.cell? ⟨w.heap.size, 5, none⟩ = some (.int .i64 O.pace.up) ∧ w'.cell? ⟨w.heap.size, 6, none⟩ = some (.int .i64 O.pace.down) ∧ w'.cell? ⟨w.heap.size, 7, none⟩ = some (.int .i64 O.pace.ups) ∧ w'.cell? ⟨w.heap.size, 8, none⟩ = some (.int .i64 O.pace.downs) ∧ w'.cell? ⟨w.heap.size, 9, none⟩ = some (.slice on_ O.notes.length cn)) (go_keep)
    (first
      | (go_at_call 85; refine (impl_intOf _ _).mono ?_; rintro e w' ⟨rfl, hb⟩; (first | (have hq := stepA H2.out hb; have hw := hq.2; replace H2 := Lib.hid hq.1; replace HSz := Lib.hid (And.intro HSz.out hw.size); clear hq) | (have hq := stepB H2.out hb; have hw := hq.2; replace H2 := Lib.hid hq.1; replace HSz := Lib.hid (And.intro HSz.out hw.size); clear hq) | (have hq := stepC H2.out hb (by simp); have hw := hq.2.1; have HZ := Lib.hid hq.2.2.1; replace H2 := Lib.hid hq.1; replace HSz := Lib.hid (And.intro HSz.out hq.2.2.2); clear hq; (first | replace HZ := Lib.hid (HZ.out.mv (n := w.heap.size + 1 + 1) (by simp)) | skip)) | (have hq := stepD H2.out hb; have hw := hq.2.1; have HZ := Lib.hid hq.2.2.1; replace H2 := Lib.hid hq.1; replace HSz := Lib.hid (And.intro HSz.out hq.2.2.2); clear hq; (first | replace HZ := Lib.hid (HZ.out.mv (n := w.heap.size + 1 + 1) (by simp)) | skip))); (try replace HZ := Lib.hid (HZ.out.next hw)); (try replace HMt := Lib.hid (HMt.out.next hw)); (try replace HNt := Lib.hid (HNt.out.next hw)); (try replace HPt := Lib.hid (HPt.out.next hw)); clear hw hb; clear x0 x1 x2 x3 x4 x5 x6 x7 x8 x9; have x0 := cell_of H2.out.arg 0; have x1 := cell_of H2.out.arg 1; have x2 := cell_of H2.out.arg 2; have x3 := cell_of H2.out.arg 3; have x4 := cell_of H2.out.arg 4; have x5 := cell_of H2.out.arg 5; have x6 := cell_of H2.out.arg 6; have x7 := cell_of H2.out.arg 7; have x8 := cell_of H2.out.arg 8; have x9 := cell_of H2.out.arg 9; simp only [List.getElem?_toArray, List.getElem?_cons_zero, List.getElem?_cons_succ] at x0 x1 x2 x3 x4 x5 x6 x7 x8 x9)
      | (go_at_call 74; refine (impl_textOf _ _).mono ?_; rintro e w' ⟨rfl, hb⟩; (first | (have hq := stepA H2.out hb; have hw := hq.2; replace H2 := Lib.hid hq.1; replace HSz := Lib.hid (And.intro HSz.out hw.size); clear hq) | (have hq := stepB H2.out hb; have hw := hq.2; replace H2 := Lib.hid hq.1; replace HSz := Lib.hid (And.intro HSz.out hw.size); clear hq) | (have hq := stepC H2.out hb (by simp); have hw := hq.2.1; have HZ := Lib.hid hq.2.2.1; replace H2 := Lib.hid hq.1; replace HSz := Lib.hid (And.intro HSz.out hq.2.2.2); clear hq; (first | replace HZ := Lib.hid (HZ.out.mv (n := w.heap.size + 1 + 1) (by simp)) | skip)) | (have hq := stepD H2.out hb; have hw := hq.2.1; have HZ := Lib.hid hq.2.2.1; replace H2 := Lib.hid hq.1; replace HSz := Lib.hid (And.intro HSz.out hq.2.2.2); clear hq; (first | replace HZ := Lib.hid (HZ.out.mv (n := w.heap.size + 1 + 1) (by simp)) | skip))); (try replace HZ := Lib.hid (HZ.out.next hw)); (try replace HMt := Lib.hid (HMt.out.next hw)); (try replace HNt := Lib.hid (HNt.out.next hw)); (try replace HPt := Lib.hid (HPt.out.next hw)); clear hw hb; clear x0 x1 x2 x3 x4 x5 x6 x7 x8 x9; have x0 := cell_of H2.out.arg 0; have x1 := cell_of H2.out.arg 1; have x2 := cell_of H2.out.arg 2; have x3 := cell_of H2.out.arg 3; have x4 := cell_of H2.out.arg 4; have x5 := cell_of H2.out.arg 5; have x6 := cell_of H2.out.arg 6; have x7 := cell_of H2.out.arg 7; have x8 := cell_of H2.out.arg 8; have x9 := cell_of H2.out.arg 9; simp only [List.getElem?_toArray, List.getElem?_cons_zero, List.getElem?_cons_succ] at x0 x1 x2 x3 x4 x5 x6 x7 x8 x9)
      | (go_at_call 88; refine (HMs.out _ (by first | exact H2.out.below | exact H2.out.below.trans ((below_drew1 _).mono H2.out.below.size) | exact H2.out.below.trans (((Below.refl _ _).alloc (Nat.le_refl _) _).mono H2.out.below.size) | exact H2.out.below.trans ((below_lit _ _).mono H2.out.below.size))).mono ?_; rintro e w' ⟨dm, GM, rfl, hl, hf, hb⟩; obtain ⟨am, bm, rfl⟩ := hl.slices.2; (first | (have HMt := Lib.hid (kid_at0 H2.out hl hf rfl)) | (have HMt := Lib.hid (kid_at1 H2.out hl hf (by simp))) | (have HMt := Lib.hid (kid_at1 H2.out hl hf (by simp [World.drew])))); clear hl hf; (first | (have hq := stepA H2.out hb; have hw := hq.2; replace H2 := Lib.hid hq.1; replace HSz := Lib.hid (And.intro HSz.out hw.size); clear hq) | (have hq := stepB H2.out hb; have hw := hq.2; replace H2 := Lib.hid hq.1; replace HSz := Lib.hid (And.intro HSz.out hw.size); clear hq) | (have hq := stepC H2.out hb (by simp); have hw := hq.2.1; have HZ := Lib.hid hq.2.2.1; replace H2 := Lib.hid hq.1; replace HSz := Lib.hid (And.intro HSz.out hq.2.2.2); clear hq; (first | replace HZ := Lib.hid (HZ.out.mv (n := w.heap.size + 1 + 1) (by simp)) | skip)) | (have hq := stepD H2.out hb; have hw := hq.2.1; have HZ := Lib.hid hq.2.2.1; replace H2 := Lib.hid hq.1; replace HSz := Lib.hid (And.intro HSz.out hq.2.2.2); clear hq; (first | replace HZ := Lib.hid (HZ.out.mv (n := w.heap.size + 1 + 1) (by simp)) | skip))); (try replace HZ := Lib.hid (HZ.out.next hw)); (try replace HMt := Lib.hid (HMt.out.next hw)); (try replace HNt := Lib.hid (HNt.out.next hw)); (try replace HPt := Lib.hid (HPt.out.next hw)); clear hw hb; clear x0 x1 x2 x3 x4 x5 x6 x7 x8 x9; have x0 := cell_of H2.out.arg 0; have x1 := cell_of H2.out.arg 1; have x2 := cell_of H2.out.arg 2; have x3 := cell_of H2.out.arg 3; have x4 := cell_of H2.out.arg 4; have x5 := cell_of H2.out.arg 5; have x6 := cell_of H2.out.arg 6; have x7 := cell_of H2.out.arg 7; have x8 := cell_of H2.out.arg 8; have x9 := cell_of H2.out.arg 9; simp only [List.getElem?_toArray, List.getElem?_cons_zero, List.getElem?_cons_succ] at x0 x1 x2 x3 x4 x5 x6 x7 x8 x9)
      | (go_at_call 109; refine (HNs.out _ (by first | exact H2.out.below | exact H2.out.below.trans ((below_drew1 _).mono H2.out.below.size) | exact H2.out.below.trans (((Below.refl _ _).alloc (Nat.le_refl _) _).mono H2.out.below.size) | exact H2.out.below.trans ((below_lit _ _).mono H2.out.below.size))).mono ?_; rintro e w' ⟨kn, dn, GN, rfl, hl, hf, hb⟩; obtain ⟨⟨an, bn, rfl⟩, ⟨an2, bn2, rfl⟩⟩ := hl.slices; (first | (have HNt := Lib.hid (kid_at0 H2.out hl hf rfl)) | (have HNt := Lib.hid (kid_at1 H2.out hl hf (by simp))) | (have HNt := Lib.hid (kid_at1 H2.out hl hf (by simp [World.drew])))); clear hl hf; (first | (have hq := stepA H2.out hb; have hw := hq.2; replace H2 := Lib.hid hq.1; replace HSz := Lib.hid (And.intro HSz.out hw.size); clear hq) | (have hq := stepB H2.out hb; have hw := hq.2; replace H2 := Lib.hid hq.1; replace HSz := Lib.hid (And.intro HSz.out hw.size); clear hq) | (have hq := stepC H2.out hb (by simp); have hw := hq.2.1; have HZ := Lib.hid hq.2.2.1; replace H2 := Lib.hid hq.1; replace HSz := Lib.hid (And.intro HSz.out hq.2.2.2); clear hq; (first | replace HZ := Lib.hid (HZ.out.mv (n := w.heap.size + 1 + 1) (by simp)) | skip)) | (have hq := stepD H2.out hb; have hw := hq.2.1; have HZ := Lib.hid hq.2.2.1; replace H2 := Lib.hid hq.1; replace HSz := Lib.hid (And.intro HSz.out hq.2.2.2); clear hq; (first | replace HZ := Lib.hid (HZ.out.mv (n := w.heap.size + 1 + 1) (by simp)) | skip))); (try replace HZ := Lib.hid (HZ.out.next hw)); (try replace HMt := Lib.hid (HMt.out.next hw)); (try replace HNt := Lib.hid (HNt.out.next hw)); (try replace HPt := Lib.hid (HPt.out.next hw)); clear hw hb; clear x0 x1 x2 x3 x4 x5 x6 x7 x8 x9; have x0 := cell_of H2.out.arg 0; have x1 := cell_of H2.out.arg 1; have x2 := cell_of H2.out.arg 2; have x3 := cell_of H2.out.arg 3; have x4 := cell_of H2.out.arg 4; have x5 := cell_of H2.out.arg 5; have x6 := cell_of H2.out.arg 6; have x7 := cell_of H2.out.arg 7; have x8 := cell_of H2.out.arg 8; have x9 := cell_of H2.out.arg 9; simp only [List.getElem?_toArray, List.getElem?_cons_zero, List.getElem?_cons_succ] at x0 x1 x2 x3 x4 x5 x6 x7 x8 x9)
      | (go_at_call 78; refine (HPs.out _ (by first | exact H2.out.below | exact H2.out.below.trans ((below_drew1 _).mono H2.out.below.size) | exact H2.out.below.trans (((Below.refl _ _).alloc (Nat.le_refl _) _).mono H2.out.below.size) | exact H2.out.below.trans ((below_lit _ _).mono H2.out.below.size))).mono ?_; rintro e w' ⟨kp, dp, GP, rfl, hl, hf, hb⟩; obtain ⟨⟨ap, bp, rfl⟩, ⟨ap2, bp2, rfl⟩⟩ := hl.slices; (first | (have HPt := Lib.hid (kid_at0 H2.out hl hf rfl)) | (have HPt := Lib.hid (kid_at1 H2.out hl hf (by simp))) | (have HPt := Lib.hid (kid_at1 H2.out hl hf (by simp [World.drew])))); clear hl hf; (first | (have hq := stepA H2.out hb; have hw := hq.2; replace H2 := Lib.hid hq.1; replace HSz := Lib.hid (And.intro HSz.out hw.size); clear hq) | (have hq := stepB H2.out hb; have hw := hq.2; replace H2 := Lib.hid hq.1; replace HSz := Lib.hid (And.intro HSz.out hw.size); clear hq) | (have hq := stepC H2.out hb (by simp); have hw := hq.2.1; have HZ := Lib.hid hq.2.2.1; replace H2 := Lib.hid hq.1; replace HSz := Lib.hid (And.intro HSz.out hq.2.2.2); clear hq; (first | replace HZ := Lib.hid (HZ.out.mv (n := w.heap.size + 1 + 1) (by simp)) | skip)) | (have hq := stepD H2.out hb; have hw := hq.2.1; have HZ := Lib.hid hq.2.2.1; replace H2 := Lib.hid hq.1; replace HSz := Lib.hid (And.intro HSz.out hq.2.2.2); clear hq; (first | replace HZ := Lib.hid (HZ.out.mv (n := w.heap.size + 1 + 1) (by simp)) | skip))); (try replace HZ := Lib.hid (HZ.out.next hw)); (try replace HMt := Lib.hid (HMt.out.next hw)); (try replace HNt := Lib.hid (HNt.out.next hw)); (try replace HPt := Lib.hid (HPt.out.next hw)); clear hw hb; clear x0 x1 x2 x3 x4 x5 x6 x7 x8 x9; have x0 := cell_of H2.out.arg 0; have x1 := cell_of H2.out.arg 1; have x2 := cell_of H2.out.arg 2; have x3 := cell_of H2.out.arg 3; have x4 := cell_of H2.out.arg 4; have x5 := cell_of H2.out.arg 5; have x6 := cell_of H2.out.arg 6; have x7 := cell_of H2.out.arg 7; have x8 := cell_of H2.out.arg 8; have x9 := cell_of H2.out.arg 9; simp only [List.getElem?_toArray, List.getElem?_cons_zero, List.getElem?_cons_succ] at x0 x1 x2 x3 x4 x5 x6 x7 x8 x9)
      | (go_at_call 110; refine (sh_node _ _ _ ⟨_, _, _, rfl⟩ ⟨_, _, _, rfl⟩).mono ?_; rintro e w' ⟨rfl, hb⟩; (first | (have hq := stepD H2.out hb; have hw := hq.2.1; replace HZ := Lib.hid (HZ.out.next hw); have HN := Lib.hid hq.2.2.1; replace H2 := Lib.hid hq.1; replace HSz := Lib.hid (And.intro HSz.out hq.2.2.2); clear hq) | (have hq := stepC H2.out hb (by simp); have hw := hq.2.1; replace HZ := Lib.hid (HZ.out.next hw); have HN := Lib.hid hq.2.2.1; replace H2 := Lib.hid hq.1; replace HSz := Lib.hid (And.intro HSz.out hq.2.2.2); clear hq) | (have hq := stepF H2.out hb; have hw := hq.2.1; have HZ := Lib.hid hq.2.2.1; have HN := Lib.hid hq.2.2.2; replace H2 := Lib.hid hq.1; clear hq; (first | (have h9 := HZ.out; have h8 : One w w' _ (.cells #[.string ⟨#[104, 105, 103, 104]⟩, .string ⟨#[107, 105, 110, 100]⟩, .string ⟨#[108, 111, 119]⟩, .string ⟨#[109, 101, 116, 114, 105, 99, 115]⟩, .string ⟨#[110, 97, 109, 101]⟩, .string ⟨#[110, 111, 116, 101, 115]⟩, .string ⟨#[112, 97, 99, 101]⟩, .string ⟨#[116, 97, 114, 103, 101, 116]⟩] 9) := h9; clear h8 h9) | (have hq := HZ; replace HZ := HN; replace HN := hq; clear hq))) | (have hq := stepE H2.out hb (by simp); have hw := hq.2.1; have HZ := Lib.hid hq.2.2.1; have HN := Lib.hid hq.2.2.2; replace H2 := Lib.hid hq.1; clear hq; (first | (have h9 := HZ.out; have h8 : One w w' _ (.cells #[.string ⟨#[104, 105, 103, 104]⟩, .string ⟨#[107, 105, 110, 100]⟩, .string ⟨#[108, 111, 119]⟩, .string ⟨#[109, 101, 116, 114, 105, 99, 115]⟩, .string ⟨#[110, 97, 109, 101]⟩, .string ⟨#[110, 111, 116, 101, 115]⟩, .string ⟨#[112, 97, 99, 101]⟩, .string ⟨#[116, 97, 114, 103, 101, 116]⟩] 9) := h9; clear h8 h9) | (have hq := HZ; replace HZ := HN; replace HN := hq; clear hq)))); replace HMt := Lib.hid (HMt.out.next hw); replace HNt := Lib.hid (HNt.out.next hw); replace HPt := Lib.hid (HPt.out.next hw); clear hw hb; clear x0 x1 x2 x3 x4 x5 x6 x7 x8 x9; have x0 := cell_of H2.out.arg 0; have x1 := cell_of H2.out.arg 1; have x2 := cell_of H2.out.arg 2; have x3 := cell_of H2.out.arg 3; have x4 := cell_of H2.out.arg 4; have x5 := cell_of H2.out.arg 5; have x6 := cell_of H2.out.arg 6; have x7 := cell_of H2.out.arg 7; have x8 := cell_of H2.out.arg 8; have x9 := cell_of H2.out.arg 9; simp only [List.getElem?_toArray, List.getElem?_cons_zero, List.getElem?_cons_succ] at x0 x1 x2 x3 x4 x5 x6 x7 x8 x9; obtain ⟨r0, r1, r2, r3, r4, r5⟩ := five H2.out.res))
  all_goals
    have hsz := HSz.out
    obtain ⟨F, HF⟩ := full_fin O H2.out HZ.out HN.out HMt.out HNt.out HPt.out (by omega) (by omega) (by omega) (by omega) (by omega) (by omega) (by omega) (by omega) (by omega) (by omega) (by omega) (by omega) rfl rfl HFit.out.1 HFit.out.2.1 HFit.out.2.2.1 HFit.out.2.2.2 rfl
    clear hsz
    go_wp2
    exact bodyPost_ret (ret_node Tryz.results73 rfl HF.1) rfl ⟨_, _, _, rfl, HF.2.1, HF.2.2.1, HF.2.2.2⟩

end Go.Proofs.YtfmkhogpnnobeaaGreatDoor

/- the program's Unset of a map answers the map without that Key, in memory of its own; no condition. -/
namespace Go.Proofs.YtfmkhogpnnobeaaGreatDoor
open Go Go.RowKit

/-- Where Unset stands in its loop: mk Keys and md Kids of what stays are laid. -/
structure US (w wc wr : World) (a b c d e : Value) (B : Nat) (k n : Int) (s : ByteArray) (ks : List ByteArray) (kids : List RT) (mk md : Nat) (kv dv : Value) (KV DV : Nat → Value) (FF : Nat → List Nat) : Prop where
  cbox : CBox w wr 32 a b c d e
  out : wr.heap[B]? = some (.cells #[.int .i64 k, .int .i64 n, .string s, kv, dv] 32 (0, 0))
  big : w.heap.size + 2 ≤ B
  blt : B < wc.heap.size
  keys : wr.ownsRow wc.heap.size 9 1 kv mk ((ks.take mk).map .string)
  apart : ∀ g, kv.ownBlock = some g → g ∉ (List.range md).flatMap FF
  laid : LaidApp 32 w wc wr kids md dv KV DV FF

theorem LaidApp.grow {t : TypeId} {w0 w wr w3 : World} {kids : List RT} {k : Nat} {v : Value} {KV DV : Nat → Value} {FF : Nat → List Nat} (h : LaidApp t w0 w wr kids k v KV DV FF) (hk : k ≤ kids.length) {row : Option Nat} (hg : wr.grownBy w3 row)
    (hr : ∀ b, row = some b → w.heap.size ≤ b ∧ b ∉ (List.range k).flatMap FF ∧ v.ownBlock ≠ some b) : LaidApp t w0 w w3 kids k v KV DV FF := by
  have keep : ∀ b ∈ (List.range k).flatMap FF, w3.heap[b]? = wr.heap[b]? := fun b hb => hg.block b (h.lt hk b hb) (fun e => (hr b e.symm).2.1 hb)
  refine ⟨owns_carry h.own fun b e => hg.block b (h.ownlt b e).2 (fun e' => (hr b e'.symm).2.2 e), fun j hj hjk => (h.lie j hj hjk).carry fun b hbF => keep b (List.mem_flatMap.2 ⟨j, List.mem_range.2 hjk, hbF⟩), h.fresh.carry keep, h.apart,
    h.below.grown hg (Nat.le_trans h.size0 h.size) (fun b e => Nat.le_trans h.size0 (hr b e).1), Nat.le_trans h.size hg.size, h.size0, h.nil⟩

section
variable {w wc wr w1 w2 w3 : World} {a b c d e : Value} {B : Nat} {k n : Int} {s : ByteArray} {ks : List ByteArray} {kids : List RT} {mk md : Nat} {kv dv : Value} {KV DV : Nat → Value} {FF : Nat → List Nat}

theorem types_ne {w : World} {b : Nat} {cs cs' : Array Value} (h : w.heap[b]? = some (.cells cs 9 (0, 0))) (h' : w.heap[b]? = some (.cells cs' 32 (0, 0))) : False := by
  rw [h] at h'; injection h' with h'; injection h' with _ h'; exact absurd h' (by decide)

theorem US.next (h : US w wc wr a b c d e B k n s ks kids mk md kv dv KV DV FF) (hmd : md ≤ kids.length) (hb : Below wr.heap.size wr w1) : US w wc w1 a b c d e B k n s ks kids mk md kv dv KV DV FF :=
  ⟨h.cbox.next hb, blk_next h.out hb, h.big, h.blt, owns_below h.keys hb, h.apart, h.laid.stay hmd hb⟩

theorem US.start (hc : CBox w wr 32 a b c d e) (k n : Int) (s : ByteArray) (ks : List ByteArray) (kids : List RT) :
    US w (wr.alloc (.cells #[.int .i64 k, .int .i64 n, .string s, .slice none 0 0, .slice none 0 0] 32)) (wr.alloc (.cells #[.int .i64 k, .int .i64 n, .string s, .slice none 0 0, .slice none 0 0] 32)) a b c d e wr.heap.size k n s ks kids 0 0 (.slice none 0 0) (.slice none 0 0) (fun _ => .bool true) (fun _ => .bool true) (fun _ => []) := by
  have hb := (Below.refl _ wr).alloc (Nat.le_refl _) (.cells #[.int .i64 k, .int .i64 n, .string s, .slice none 0 0, .slice none 0 0] 32)
  have hc' := hc.next hb
  exact ⟨hc', heap_last wr _, hc.size, by simp, ⟨rfl, .inl ⟨rfl, rfl⟩⟩, fun g h => by simp [Value.ownBlock] at h, LaidApp.start _ kids hc'.below (Nat.le_refl _) hc'.below.size⟩

theorem US.key (h : US w wc wr a b c d e B k n s ks kids mk md kv dv KV DV FF) (hmd : md ≤ kids.length) {x : ByteArray} (hx : ks[mk]? = some x) {g cap : Nat} (hgrow : wr.grownBy w3 kv.ownBlock)
    (hown : w3.ownsRow wc.heap.size 9 1 (.slice (some ⟨g, 0, none⟩) (mk + 1) cap) (mk + 1) (((ks.take mk).map .string) ++ [.string x])) (hat : kv.ownBlock = some g ∨ g = wr.heap.size) :
    US w wc (w3.setCell ⟨B, 3, none⟩ (.slice (some ⟨g, 0, none⟩) (mk + 1) cap)) a b c d e B k n s ks kids (mk + 1) md (.slice (some ⟨g, 0, none⟩) (mk + 1) cap) dv KV DV FF := by
  have hk : ∀ x, kv.ownBlock = some x → wc.heap.size ≤ x := fun x e => (owns_blk h.keys e).1
  have hwc := h.laid.size
  have hbig := h.big
  have hblt := h.blt
  have keep : ∀ x, x < wc.heap.size → w3.heap[x]? = wr.heap[x]? := fun x hx => hgrow.block x (by omega) (fun e => by have := hk x e.symm; omega)
  have set : ∀ x, x ≠ B → (w3.setCell ⟨B, 3, none⟩ (.slice (some ⟨g, 0, none⟩) (mk + 1) cap)).heap[x]? = w3.heap[x]? := fun x hx => Below.heap_setCell _ _ _ _ hx
  have hL := h.laid.grow hmd hgrow (fun x e => ⟨hk x e, h.apart x e, fun e' => by
    obtain ⟨-, -, cs, e1⟩ := owns_blk h.keys e
    obtain ⟨-, -, cs', e2⟩ := owns_blk h.laid.own e'
    exact types_ne e1 e2⟩)
  have hsz := h.cbox.size
  refine ⟨⟨hL.below.setCell (by show w.heap.size ≤ B; omega) _, ?_, ?_, ?_⟩, heap_set ((keep B hblt).trans h.out) 3 _, hbig, hblt, ?_, fun g' e => ?_, hL.set hblt (by show w.heap.size ≤ B; omega) _⟩
  · have := hgrow.size; simp only [World.setCell, Array.size_modify]; omega
  · rw [set _ (by omega), keep _ (by omega)]; exact h.cbox.box
  · rw [set _ (by omega), keep _ (by omega)]; exact h.cbox.res
  · obtain ⟨hlt, rfl⟩ := List.getElem?_eq_some_iff.1 hx
    rw [List.take_succ_eq_append_getElem hlt, List.map_append]
    refine owns_carry hown fun b e => set b ?_
    have := (owns_blk hown e).1
    omega
  · have eg : g = g' := by simpa [Value.ownBlock] using e
    subst eg
    rcases hat with e' | e'
    · exact h.apart _ e'
    · intro hm
      have := h.laid.lt hmd _ hm
      omega

theorem US.kid (h : US w wc wr a b c d e B k n s ks kids mk md kv dv KV DV FF) (hj : md < kids.length) (hb1 : Below wr.heap.size wr w1) {kvx dvx : Value} {F : List Nat} (hl : Lies w1 kids[md] kvx dvx F) (hf : Fresh wr w1 F) (hb2 : Below w1.heap.size w1 w2)
    {g cap : Nat} (hgrow : w2.grownBy w3 dv.ownBlock) (hown : w3.ownsRow wc.heap.size 32 5 (.slice (some ⟨g, 0, none⟩) (md + 1) cap) (md + 1) (rowsOf kids KV DV md ++ kids[md].row kvx dvx)) (hat : dv.ownBlock = some g ∨ g = w2.heap.size) :
    US w wc (w3.setCell ⟨B, 4, none⟩ (.slice (some ⟨g, 0, none⟩) (md + 1) cap)) a b c d e B k n s ks kids mk (md + 1) kv (.slice (some ⟨g, 0, none⟩) (md + 1) cap) (fun i => if i = md then kvx else KV i) (fun i => if i = md then dvx else DV i) (fun i => if i = md then F else FF i) := by
  have hbw := hb1.trans (hb2.mono hb1.size)
  have hwc := h.laid.size
  have hblt := h.blt
  have hbig := h.big
  have keep : ∀ x, x < wc.heap.size → w3.heap[x]? = wr.heap[x]? := fun x hx => by
    rw [hgrow.block x (by have := hbw.size; omega) (fun e => by have := (h.laid.ownlt x e.symm).1; omega), hbw.block x (by omega)]
  have set : ∀ x, x ≠ B → (w3.setCell ⟨B, 4, none⟩ (.slice (some ⟨g, 0, none⟩) (md + 1) cap)).heap[x]? = w3.heap[x]? := fun x hx => Below.heap_setCell _ _ _ _ hx
  have hl3 := h.laid.step hj hb1 hl hf hb2 hgrow hown hat
  have hsz := h.cbox.size
  refine ⟨⟨hl3.below.setCell (by show w.heap.size ≤ B; omega) _, ?_, ?_, ?_⟩, heap_set ((keep B hblt).trans h.out) 4 _, hbig, hblt, ?_, fun g' e => ?_, hl3.set hblt (by show w.heap.size ≤ B; omega) _⟩
  · have := Nat.le_trans hbw.size hgrow.size
    simp only [World.setCell, Array.size_modify]
    omega
  · rw [set _ (by omega), keep _ (by omega)]; exact h.cbox.box
  · rw [set _ (by omega), keep _ (by omega)]; exact h.cbox.res
  · refine owns_carry h.keys fun x e => ?_
    obtain ⟨h1, h2, cs, h3⟩ := owns_blk h.keys e
    rw [set _ (by omega), hgrow.block _ (by have := hbw.size; omega) (fun e' => by
      obtain ⟨-, h5, cs', h4⟩ := owns_blk h.laid.own e'.symm
      exact types_ne h3 h4), hbw.block x h2]
  · have h1 := (owns_blk h.keys e).2.1
    rw [flat_succ]
    intro hm
    rcases List.mem_append.1 hm with hm | hm
    · exact h.apart _ e hm
    · have := hf.old _ hm; omega

theorem US.done (h : US w wc wr a b c d e B k n s ks kids ks.length kids.length kv dv KV DV FF) (hfit : Fit k ∧ Fit n ∧ s.size ≤ maxLen) (hks : ∀ x ∈ ks, x.size ≤ maxLen) :
    ∃ F, (set5 wr (w.heap.size + 1) 0 (.int .i64 k) (.int .i64 n) (.string s) kv dv).heap[w.heap.size + 1]? = some (.cells #[.int .i64 k, .int .i64 n, .string s, kv, dv] 32 (0, 0)) ∧
    Lies (set5 wr (w.heap.size + 1) 0 (.int .i64 k) (.int .i64 n) (.string s) kv dv) (.node k n s ks kids) kv dv F ∧ Fresh w (set5 wr (w.heap.size + 1) 0 (.int .i64 k) (.int .i64 n) (.string s) kv dv) F ∧
    Below w.heap.size w (set5 wr (w.heap.size + 1) 0 (.int .i64 k) (.int .i64 n) (.string s) kv dv) := by
  have hbig := h.big
  have hblt := h.blt
  have hk0 := h.keys
  rw [List.take_of_length_le (Nat.le_refl _)] at hk0
  obtain ⟨FK, k1, k2, k3⟩ := strs_owned (w := w) hk0 (fun i hi => hks _ (List.getElem_mem _)) (by omega)
  obtain ⟨FD, d1, d2, d3⟩ := kids_owned (w := w) h.laid.own (fun j hj => h.laid.lie j hj hj) (h.laid.fresh.earlier (by omega)) h.laid.apart (by omega)
  have hap : ∀ x ∈ FK, x ∉ FD := fun x hx hx' => by
    have e1 := k3 x hx
    rcases d3 x hx' with e | e
    · obtain ⟨-, -, cs, e2⟩ := owns_blk hk0 e1
      obtain ⟨-, -, cs', e3⟩ := owns_blk h.laid.own e
      exact types_ne e2 e3
    · exact h.apart _ e1 e
  have hfar : ∀ x ∈ FK ++ FD, w.heap.size + 2 ≤ x := fun x hx => by
    rcases List.mem_append.1 hx with hx | hx
    · have := (owns_blk hk0 (k3 x hx)).1; omega
    · rcases d3 x hx with e | e
      · have := (owns_blk h.laid.own e).1; omega
      · have := h.laid.fresh.old x e; omega
  have hf : Fresh w wr (FK ++ FD) := ⟨List.nodup_append.2 ⟨k2.nodup, d2.nodup, fun a ha b hb' e => hap a ha (e ▸ hb')⟩, fun x hx => by have := hfar x hx; omega, fun x hx => by
    rcases List.mem_append.1 hx with hx | hx
    · exact k2.free x hx
    · exact d2.free x hx⟩
  exact ⟨FK ++ FD, copy_fin h.cbox hfit k1 d1 hf hfar⟩
end
end Go.Proofs.YtfmkhogpnnobeaaGreatDoor
