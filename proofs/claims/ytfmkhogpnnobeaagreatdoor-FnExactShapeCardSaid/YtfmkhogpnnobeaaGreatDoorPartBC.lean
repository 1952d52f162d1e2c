/-
  What is proved: the program's tree of an order in the plain shape, with a share and with metrics besides it, in memory of its own; condition: the library's table of powers of ten starts as the program's text lays it.; the program's PlainTree of an order that is right: its tree, in memory of its own; of others the zero node; condition: the library's table of powers of ten starts as the program's text lays it.; the model's PlainTree of an order that is right: its tree, in memory of its own; no condition.
-/
import Derived.Test.YtfmkhogpnnobeaaGreatDoorPartAT
import Derived.Test.YtfmkhogpnnobeaaGreatDoorPartBA
import Derived.Test.YtfmkhogpnnobeaaGreatDoorPartBB
import Derived.Test.YtfmkhogpnnobeaaGreatDoorPartAX
/- the program's tree of an order in the plain shape, with a share and with metrics besides it, in memory of its own; condition: the library's table of powers of ten starts as the program's text lays it. -/
namespace Go.Proofs.YtfmkhogpnnobeaaGreatDoor
open Go Go.RowKit

set_option maxRecDepth 100000 in
set_option maxHeartbeats 8000000 in
theorem impl_plainTYY {O : Ord} {mv nv : Value} {FM FN : List Nat} (w : World) (ho : OrdAt w O mv nv FM FN) (hc : O.okB = true) (hsh : shareB O.mets = true) (hot : (othersM O.mets).isEmpty = false) (htab : Lib.TabIs Tryz.prog w "internal/strconv.uint64pow10" .u64 Lib.pow10Tab) :
    Calls Tryz.prog 47 #[.agg #[.string O.name, .string O.target, .int .i64 O.low, .int .i64 O.high, mv, .int .i64 O.pace.up, .int .i64 O.pace.down, .int .i64 O.pace.ups, .int .i64 O.pace.downs, nv]] w fun e w' => ∃ kv dv F, e = .returned (.agg #[.int .i64 (plainT O).k, .int .i64 (plainT O).n, .string (plainT O).s, kv, dv]) ∧ Lies w' (plainT O) kv dv F ∧ Fresh w w' F ∧ Below w.heap.size w w' := by
  obtain ⟨hn1, hn2, ⟨hm1, hm2⟩, -⟩ := okB_out hc
  have hg := mets_goal hc
  have hone := one_cpu hc
  have hol := others_len O.mets
  have hsz := saved_sz hc
  have hmz := midB_sz hc (RowAt.every ho.mets) (savedT O)
  have h6z := plain6_sz hc (savedT O)
  have h7z := plain7_sz hc (savedT O) (shareN O.mets)
  have hbz := bracT_size (metsT (othersM O.mets))
  have HT := Lib.hid (Lib.tabBelow_of_tabIs htab)
  have HTr : Hid (∀ wr, Below w.heap.size w wr → Calls Tryz.prog 30 #[.agg #[.string O.name, .string O.target, .int .i64 O.low, .int .i64 O.high, mv, .int .i64 O.pace.up, .int .i64 O.pace.down, .int .i64 O.pace.ups, .int .i64 O.pace.downs, nv]] wr fun e w' => ∃ kv dv F, e = .returned (.agg #[.int .i64 (midT O).k, .int .i64 (midT O).n, .string (midT O).s, kv, dv]) ∧ Lies w' (midT O) kv dv F ∧ Fresh wr w' F ∧ Below wr.heap.size wr w') := fun wr hb => by
    by_cases hnew : sameO O.pace newP = true
    · exact impl_midTNew wr (ho.stay hb (Nat.le_refl _)) hc hnew (HT.out _ hb)
    · exact impl_midTOld wr (ho.stay hb (Nat.le_refl _)) hc (by simpa using hnew) (HT.out _ hb)
  have hm0 : (midT O).sz ≤ 420000 := by unfold midT; omega
  have HUs : Hid (∀ X kv dv G, Lies X (midT O) kv dv G → Calls Tryz.prog 72 #[.agg #[.int .i64 (midT O).k, .int .i64 (midT O).n, .string (midT O).s, kv, dv], .string ⟨#[109, 101, 116, 114, 105, 99, 115]⟩] X fun e w' => ∃ kr dr F, e = .returned (.agg #[.int .i64 (unT (midT O) ⟨#[109, 101, 116, 114, 105, 99, 115]⟩).k, .int .i64 (unT (midT O) ⟨#[109, 101, 116, 114, 105, 99, 115]⟩).n, .string (unT (midT O) ⟨#[109, 101, 116, 114, 105, 99, 115]⟩).s, kr, dr]) ∧ Lies w' (unT (midT O) ⟨#[109, 101, 116, 114, 105, 99, 115]⟩) kr dr F ∧ Fresh X w' F ∧ Below X.heap.size X w') := fun X kv dv G hl => impl_unset (midT O) ⟨#[109, 101, 116, 114, 105, 99, 115]⟩ ⟨rfl, rfl⟩ X kv dv G hl (by omega)
  have hps := pl_sets O (savedT O)
  have huz := unT_sz (midT O) ⟨#[109, 101, 116, 114, 105, 99, 115]⟩ ⟨rfl, rfl⟩
  have HLeaf : Hid (∀ W : World, Lies W (.node 3 0 ⟨#[112, 108, 97, 105, 110]⟩ [] []) (.slice none 0 0) (.slice none 0 0) []) := fun W => leaf_lies W ⟨by decide, by decide⟩ ⟨by decide, by decide⟩ (by decide)
  have HS1 : Hid (∀ X kv dv G kx dx G', Lies X (unT (midT O) ⟨#[109, 101, 116, 114, 105, 99, 115]⟩) kv dv G → Lies X (.node 3 0 ⟨#[112, 108, 97, 105, 110]⟩ [] []) kx dx G' → Calls Tryz.prog 71 #[.agg #[.int .i64 (unT (midT O) ⟨#[109, 101, 116, 114, 105, 99, 115]⟩).k, .int .i64 (unT (midT O) ⟨#[109, 101, 116, 114, 105, 99, 115]⟩).n, .string (unT (midT O) ⟨#[109, 101, 116, 114, 105, 99, 115]⟩).s, kv, dv], .string ⟨#[107, 105, 110, 100]⟩, .agg #[.int .i64 3, .int .i64 0, .string ⟨#[112, 108, 97, 105, 110]⟩, kx, dx]] X fun e w' => ∃ kr dr F, e = .returned (.agg #[.int .i64 (plain6 O (savedT O)).k, .int .i64 (plain6 O (savedT O)).n, .string (plain6 O (savedT O)).s, kr, dr]) ∧ Lies w' (plain6 O (savedT O)) kr dr F ∧ Fresh X w' F ∧ Below X.heap.size X w') := fun X kv dv G kx dx G' hl hx => by have h := impl_set (unT (midT O) ⟨#[109, 101, 116, 114, 105, 99, 115]⟩) (.node 3 0 ⟨#[112, 108, 97, 105, 110]⟩ [] []) ⟨#[107, 105, 110, 100]⟩ X kv dv kx dx G G' hl hx (by omega) (by decide) (by decide); rw [show midT O = midB O (savedT O) from rfl] at h ⊢; rw [hps] at h; exact h
  have HSh : Hid (∀ wr, Below w.heap.size w wr → Calls Tryz.prog 84 #[mv] wr fun e w' => e = .returned (.tuple #[.int .i64 (shareN O.mets), .bool true]) ∧ Below wr.heap.size wr w') := fun wr hb => by rw [← hsh]; exact impl_shareOf wr (RowAt.stay ho.mets (by decide) hb (Nat.le_refl _)) (by omega) hone hg
  have hne : ¬ (othersM O.mets = []) := by intro e; rw [e] at hot; cases hot
  have hpn : plainN O = setT (savedT O) ⟨#[113, 117, 97, 121, 47, 109, 101, 116, 114, 105, 99, 115]⟩ (.node 3 0 (bracT (metsT (othersM O.mets))) [] []) := if_neg hne
  have hpt : plainT O = plain7 O (plainN O) (shareN O.mets) := if_pos hsh
  rw [hpn] at hpt
  rw [hpt]
  clear hpn hpt
  have HLi : Hid (∀ W : World, Lies W (.node 2 (shareN O.mets) ⟨#[]⟩ [] []) (.slice none 0 0) (.slice none 0 0) []) := fun W => leaf_lies W ⟨by decide, by decide⟩ fit_share (by decide)
  have hpl := pl_share O (savedT O) (shareN O.mets)
  have zl : (RT.node 2 (shareN O.mets) ⟨#[]⟩ [] []).sz = 0 := by
    have k0 : (⟨#[]⟩ : ByteArray).size = 0 := rfl
    simp only [RT.sz, szAll, strSz, k0, List.length_nil, List.map_nil, List.sum_nil, Nat.add_zero]
  have HS2 : Hid (∀ X kv dv G kx dx G', Lies X (plain6 O (savedT O)) kv dv G → Lies X (.node 2 (shareN O.mets) ⟨#[]⟩ [] []) kx dx G' → Calls Tryz.prog 71 #[.agg #[.int .i64 (plain6 O (savedT O)).k, .int .i64 (plain6 O (savedT O)).n, .string (plain6 O (savedT O)).s, kv, dv], .string ⟨#[115, 104, 97, 114, 101]⟩, .agg #[.int .i64 2, .int .i64 (shareN O.mets), .string ⟨#[]⟩, kx, dx]] X fun e w' => ∃ kr dr F, e = .returned (.agg #[.int .i64 (plain7 O (savedT O) (shareN O.mets)).k, .int .i64 (plain7 O (savedT O) (shareN O.mets)).n, .string (plain7 O (savedT O) (shareN O.mets)).s, kr, dr]) ∧ Lies w' (plain7 O (savedT O) (shareN O.mets)) kr dr F ∧ Fresh X w' F ∧ Below X.heap.size X w') := fun X kv dv G kx dx G' hl hx => by have h := impl_set (plain6 O (savedT O)) (.node 2 (shareN O.mets) ⟨#[]⟩ [] []) ⟨#[115, 104, 97, 114, 101]⟩ X kv dv kx dx G G' hl hx (by omega) (by omega) (by decide); rw [hpl] at h; exact h
  clear hpl zl
  have hlt : cpuN O.mets < O.mets.length := by
    rcases Nat.lt_or_ge (cpuN O.mets) O.mets.length with h | h
    · exact h
    · have hno := (share_none (xs := O.mets) fun i hi => by
        have := List.findIdx_eq_length.1 (show O.mets.findIdx isCpu = O.mets.length from Nat.le_antisymm List.findIdx_le_length h) _ (List.getElem_mem hi)
        simpa using this).1
      rw [hsh] at hno
      cases hno
  have hcp : cpuI O.mets = ((cpuN O.mets : Nat) : Int) := if_pos hlt
  have hoe := others_at hone hlt (List.findIdx_getElem (p := isCpu) (w := hlt)) hsh
  have HCp : Hid (∀ wr, Below w.heap.size w wr → Calls Tryz.prog 87 #[mv] wr fun e w' => e = .returned (.int .i64 (cpuN O.mets : Nat)) ∧ Below wr.heap.size wr w') := fun wr hb => by
    rw [← hcp]
    exact impl_cpuAt wr (RowAt.stay ho.mets (by decide) hb (Nat.le_refl _)) (by omega)
  have HWo : Hid (∀ wr, Below w.heap.size w wr → Calls Tryz.prog 86 #[mv, .int .i64 (cpuN O.mets : Nat)] wr fun e w' => ∃ v' F', e = .returned v' ∧ MetsAt w' v' (othersM O.mets) F' ∧ Below wr.heap.size wr w') := fun wr hb => by
    rw [hoe]
    exact impl_without wr (RowAt.stay ho.mets (by decide) hb (Nat.le_refl _)) (by omega) _ hlt
  clear hlt hcp hoe
  have HMs := Lib.hid fun wr v F (hb : Below w.heap.size w wr) (h : MetsAt wr v (othersM O.mets) F) => impl_metricsTree wr h (by omega) (HT.out _ hb)
  have HBr : Hid (∀ W dv F, Below w.heap.size w W → Lies W (metsT (othersM O.mets)) (.slice none 0 0) dv F → Calls Tryz.prog 77 #[.agg #[.int .i64 4, .int .i64 0, .string ⟨#[]⟩, .slice none 0 0, dv]] W fun e w' => e = .returned (.string (bracT (metsT (othersM O.mets)))) ∧ Below W.heap.size W w') := fun W dv F hW hl => impl_braced (metsT (othersM O.mets)) W _ dv F hl (HT.out _ hW)
  have HWn : Hid (∀ X kv dv G, Lies X (plain7 O (savedT O) (shareN O.mets)) kv dv G → Calls Tryz.prog 76 #[.agg #[.int .i64 (plain7 O (savedT O) (shareN O.mets)).k, .int .i64 (plain7 O (savedT O) (shareN O.mets)).n, .string (plain7 O (savedT O) (shareN O.mets)).s, kv, dv], .string ⟨#[113, 117, 97, 121, 47, 109, 101, 116, 114, 105, 99, 115]⟩, .string (bracT (metsT (othersM O.mets)))] X fun e w' => ∃ kr dr F, e = .returned (.agg #[.int .i64 (plain7 O (setT (savedT O) ⟨#[113, 117, 97, 121, 47, 109, 101, 116, 114, 105, 99, 115]⟩ (.node 3 0 (bracT (metsT (othersM O.mets))) [] [])) (shareN O.mets)).k, .int .i64 (plain7 O (setT (savedT O) ⟨#[113, 117, 97, 121, 47, 109, 101, 116, 114, 105, 99, 115]⟩ (.node 3 0 (bracT (metsT (othersM O.mets))) [] [])) (shareN O.mets)).n, .string (plain7 O (setT (savedT O) ⟨#[113, 117, 97, 121, 47, 109, 101, 116, 114, 105, 99, 115]⟩ (.node 3 0 (bracT (metsT (othersM O.mets))) [] [])) (shareN O.mets)).s, kr, dr]) ∧ Lies w' (plain7 O (setT (savedT O) ⟨#[113, 117, 97, 121, 47, 109, 101, 116, 114, 105, 99, 115]⟩ (.node 3 0 (bracT (metsT (othersM O.mets))) [] [])) (shareN O.mets)) kr dr F ∧ Fresh X w' F ∧ Below X.heap.size X w') := fun X kv dv G hl => by
    have h := impl_withNote (plain7 O (savedT O) (shareN O.mets)) (savedT O) ⟨#[113, 117, 97, 121, 47, 109, 101, 116, 114, 105, 99, 115]⟩ (bracT (metsT (othersM O.mets))) 4 ⟨rfl, rfl⟩ (plain7_first O _ _) rfl X kv dv G hl (by omega) (by omega) (by decide) hbz
    rw [plain7_notes] at h
    exact h
  obtain ⟨⟨om, cm, rfl⟩, on_, cn, rfl⟩ := ho.slices
  clear ho hm1 hm2 hn1 hn2 hg hol hone hot hm0 huz hps hmz h6z h7z hbz hsz htab
  generalize unT (midT O) ⟨#[109, 101, 116, 114, 105, 99, 115]⟩ = TU at *
  generalize midT O = T0 at *
  generalize plain7 O (setT (savedT O) ⟨#[113, 117, 97, 121, 47, 109, 101, 116, 114, 105, 99, 115]⟩ (.node 3 0 (bracT (metsT (othersM O.mets))) [] [])) (shareN O.mets) = R at *
  generalize plain7 O (savedT O) (shareN O.mets) = T1 at *
  generalize plain6 O (savedT O) = TP at *
  generalize bracT (metsT (othersM O.mets)) = BT at *
  clear hc
  have H2 := Lib.hid (Two.start w (.cells #[.string O.name, .string O.target, .int .i64 O.low, .int .i64 O.high, .slice om O.mets.length cm, .int .i64 O.pace.up, .int .i64 O.pace.down, .int .i64 O.pace.ups, .int .i64 O.pace.downs, .slice on_ O.notes.length cn] 77) (.cells #[.int .i64 0, .int .i64 0, .string ⟨#[]⟩, .slice none 0 0, .slice none 0 0] 32))
  go_enter Tryz.func47, Tryz.ntmps47
  go_wp2_with (first
    | (go_at_call 30; refine (HTr.out _ H2.out.below).mono ?_; rintro e w' ⟨kh, dh, GH, rfl, hl, hf, hb⟩; obtain ⟨⟨a1, b1, rfl⟩, ⟨a2, b2, rfl⟩⟩ := hl.slices; have HFu := Lib.hid hl; replace H2 := Lib.hid (H2.out.next hb); clear hl hf hb)
    | (go_at_call 72; refine (HUs.out _ _ _ _ HFu.out).mono ?_; rintro e w' ⟨ku, du, GU, rfl, hl, hf, hb⟩; obtain ⟨⟨a3, b3, rfl⟩, ⟨a4, b4, rfl⟩⟩ := hl.slices; have HUn := Lib.hid hl; replace H2 := Lib.hid (H2.out.next hb); clear hl hf hb)
    | (go_at_call 74; refine (impl_textOf _ _).mono ?_; rintro e w' ⟨rfl, hb⟩; replace HUn := Lib.hid (HUn.out.stay hb (Nat.le_refl _)); replace H2 := Lib.hid (H2.out.next hb); clear hb)
    | fail)
  refine (HS1.out _ _ _ _ _ _ _ HUn.out (HLeaf.out _)).mono ?_
  rintro e w' ⟨kr, dr, G1, rfl, hl, hf, hb⟩
  obtain ⟨⟨a5, b5, rfl⟩, ⟨a6, b6, rfl⟩⟩ := hl.slices
  have HT1 := Lib.hid (kid_at0 H2.out hl hf rfl)
  have HFar := Lib.hid (kid_far HT1.out H2.out.size)
  replace H2 := Lib.hid (H2.out.next hb)
  clear hl hf hb
  have HZ : Hid (One w (w'.alloc (.cells #[.int .i64 TP.k, .int .i64 TP.n, .string TP.s, .slice a5 TP.keys.length b5, .slice a6 TP.kids.length b6] 32)) w'.heap.size (.cells #[.int .i64 TP.k, .int .i64 TP.n, .string TP.s, .slice a5 TP.keys.length b5, .slice a6 TP.kids.length b6] 32)) := ⟨heap_last w' _, H2.out.size⟩
  replace HT1 := Lib.hid (HT1.out.next ((Below.refl _ w').alloc (Nat.le_refl _) (.cells #[.int .i64 TP.k, .int .i64 TP.n, .string TP.s, .slice a5 TP.keys.length b5, .slice a6 TP.kids.length b6] 32)))
  replace H2 := Lib.hid (H2.out.next ((Below.refl _ w').alloc (Nat.le_refl _) (.cells #[.int .i64 TP.k, .int .i64 TP.n, .string TP.s, .slice a5 TP.keys.length b5, .slice a6 TP.kids.length b6] 32)))
  have x0 := cell_of H2.out.arg 0
  have x1 := cell_of H2.out.arg 1
  have x2 := cell_of H2.out.arg 2
  have x3 := cell_of H2.out.arg 3
  have x4 := cell_of H2.out.arg 4
  have x5 := cell_of H2.out.arg 5
  have x6 := cell_of H2.out.arg 6
  have x7 := cell_of H2.out.arg 7
  have x8 := cell_of H2.out.arg 8
  have x9 := cell_of H2.out.arg 9
  simp only [List.getElem?_toArray, List.getElem?_cons_zero, List.getElem?_cons_succ] at x0 x1 x2 x3 x4 x5 x6 x7 x8 x9
  go_wp2_with fail
  generalize w'.alloc (.cells #[.int .i64 TP.k, .int .i64 TP.n, .string TP.s, .slice a5 TP.keys.length b5, .slice a6 TP.kids.length b6] 32) = wc at *
  generalize w'.heap.size = bt at *
  refine (HSh.out _ H2.out.below).mono ?_
  rintro e w' ⟨rfl, hb⟩
  replace HZ := Lib.hid (HZ.out.next hb)
  replace HT1 := Lib.hid (HT1.out.next hb)
  replace H2 := Lib.hid (H2.out.next hb)
  clear hb x0 x1 x2 x3 x4 x5 x6 x7 x8 x9
  have x0 := cell_of H2.out.arg 0
  have x1 := cell_of H2.out.arg 1
  have x2 := cell_of H2.out.arg 2
  have x3 := cell_of H2.out.arg 3
  have x4 := cell_of H2.out.arg 4
  have x5 := cell_of H2.out.arg 5
  have x6 := cell_of H2.out.arg 6
  have x7 := cell_of H2.out.arg 7
  have x8 := cell_of H2.out.arg 8
  have x9 := cell_of H2.out.arg 9
  simp only [List.getElem?_toArray, List.getElem?_cons_zero, List.getElem?_cons_succ] at x0 x1 x2 x3 x4 x5 x6 x7 x8 x9
  obtain ⟨r0, r1, r2, r3, r4, r5⟩ := five HZ.out.at_
  have HSz : Hid (w.heap.size + 2 ≤ w'.heap.size) := H2.out.size
  have hn3 := one_ne HZ.out
  have hn4 := one_ne' HZ.out
  have hn5 : ¬ w.heap.size + 1 = bt := by have := HZ.out.old; omega
  have hn6 : ¬ bt = w.heap.size + 1 := by have := HZ.out.old; omega
  go_wp2_with fail
  go_region_with (first
    | (go_at_call 85; refine (impl_intOf _ _).mono ?_; rintro e w' ⟨rfl, hb⟩; (first | (have hq := stepA H2.out hb; have hw := hq.2; replace H2 := Lib.hid hq.1; replace HSz := Lib.hid (And.intro HSz.out hw.size); clear hq) | (have hq := stepB H2.out hb; have hw := hq.2; replace H2 := Lib.hid hq.1; replace HSz := Lib.hid (And.intro HSz.out hw.size); clear hq) | (have hq := stepC H2.out hb (by simp); have hw := hq.2.1; have HZ := Lib.hid hq.2.2.1; replace H2 := Lib.hid hq.1; replace HSz := Lib.hid (And.intro HSz.out hq.2.2.2); clear hq) | (have hq := stepD H2.out hb; have hw := hq.2.1; have HZ := Lib.hid hq.2.2.1; replace H2 := Lib.hid hq.1; replace HSz := Lib.hid (And.intro HSz.out hq.2.2.2); clear hq)); (try replace HZ := Lib.hid (HZ.out.next hw)); (try replace HT1 := Lib.hid (HT1.out.next hw)); (try replace HMt := Lib.hid (HMt.out.next hw)); (try replace HR := Lib.hid (HR.out.next hw)); clear hw hb; clear x0 x1 x2 x3 x4 x5 x6 x7 x8 x9; have x0 := cell_of H2.out.arg 0; have x1 := cell_of H2.out.arg 1; have x2 := cell_of H2.out.arg 2; have x3 := cell_of H2.out.arg 3; have x4 := cell_of H2.out.arg 4; have x5 := cell_of H2.out.arg 5; have x6 := cell_of H2.out.arg 6; have x7 := cell_of H2.out.arg 7; have x8 := cell_of H2.out.arg 8; have x9 := cell_of H2.out.arg 9; simp only [List.getElem?_toArray, List.getElem?_cons_zero, List.getElem?_cons_succ] at x0 x1 x2 x3 x4 x5 x6 x7 x8 x9; clear r0 r1 r2 r3 r4 r5; obtain ⟨r0, r1, r2, r3, r4, r5⟩ := five HZ.out.at_)
    | (go_at_call 71; refine (HS2.out _ _ _ _ _ _ _ (by first | exact HT1.out.lie | exact HT1.out.lie.stay (below_drew1 _) (Nat.le_refl _) | exact HT1.out.lie.stay ((Below.refl _ _).alloc (Nat.le_refl _) _) (Nat.le_refl _) | exact HT1.out.lie.stay (below_lit _ _) (Nat.le_refl _)) (HLi.out _)).mono ?_; rintro e w' ⟨kr, dr, GR, rfl, hl, hf, hb⟩; obtain ⟨⟨a7, b7, rfl⟩, ⟨a8, b8, rfl⟩⟩ := hl.slices; have HLoT := Lib.hid (Array.getElem?_eq_some_iff.1 HZ.out.at_).1; have HLoS := Lib.hid H2.out.size; (first | (have HR := Lib.hid (kid_at0 H2.out hl hf rfl)) | (have HR := Lib.hid (kid_at1 H2.out hl hf (by simp))) | (have HR := Lib.hid (kid_at1 H2.out hl hf (by simp [World.drew])))); clear hl hf; (first | (have hq := stepA H2.out hb; have hw := hq.2; replace H2 := Lib.hid hq.1; replace HSz := Lib.hid (And.intro HSz.out hw.size); clear hq) | (have hq := stepB H2.out hb; have hw := hq.2; replace H2 := Lib.hid hq.1; replace HSz := Lib.hid (And.intro HSz.out hw.size); clear hq) | (have hq := stepC H2.out hb (by simp); have hw := hq.2.1; have HZ := Lib.hid hq.2.2.1; replace H2 := Lib.hid hq.1; replace HSz := Lib.hid (And.intro HSz.out hq.2.2.2); clear hq) | (have hq := stepD H2.out hb; have hw := hq.2.1; have HZ := Lib.hid hq.2.2.1; replace H2 := Lib.hid hq.1; replace HSz := Lib.hid (And.intro HSz.out hq.2.2.2); clear hq)); (try replace HZ := Lib.hid (HZ.out.next hw)); (try replace HT1 := Lib.hid (HT1.out.next hw)); (try replace HMt := Lib.hid (HMt.out.next hw)); (try replace HR := Lib.hid (HR.out.next hw)); clear hw hb; clear x0 x1 x2 x3 x4 x5 x6 x7 x8 x9; have x0 := cell_of H2.out.arg 0; have x1 := cell_of H2.out.arg 1; have x2 := cell_of H2.out.arg 2; have x3 := cell_of H2.out.arg 3; have x4 := cell_of H2.out.arg 4; have x5 := cell_of H2.out.arg 5; have x6 := cell_of H2.out.arg 6; have x7 := cell_of H2.out.arg 7; have x8 := cell_of H2.out.arg 8; have x9 := cell_of H2.out.arg 9; simp only [List.getElem?_toArray, List.getElem?_cons_zero, List.getElem?_cons_succ] at x0 x1 x2 x3 x4 x5 x6 x7 x8 x9; clear r0 r1 r2 r3 r4 r5; obtain ⟨r0, r1, r2, r3, r4, r5⟩ := five HZ.out.at_))
  all_goals
    generalize hwe : (((((w'.setCell ⟨bt, 0, none⟩ (.int .i64 T1.k)).setCell ⟨bt, 1, none⟩ (.int .i64 T1.n)).setCell ⟨bt, 2, none⟩ (.string T1.s)).setCell ⟨bt, 3, none⟩ (.slice a7 T1.keys.length b7)).setCell ⟨bt, 4, none⟩ (.slice a8 T1.kids.length b8)) = we
    have hwe2 : set5 w' bt 0 (.int .i64 T1.k) (.int .i64 T1.n) (.string T1.s) (.slice a7 T1.keys.length b7) (.slice a8 T1.kids.length b8) = we := hwe
    clear hwe
    have hP := ft_put H2.out HZ.out HR.out (Or.inl (by have := HLoT.out; omega))
    have hk1 := ft_keep (v0 := .int .i64 T1.k) (v1 := .int .i64 T1.n) (v2 := .string T1.s) (v3 := .slice a7 T1.keys.length b7) (v4 := .slice a8 T1.kids.length b8) HR.out (bt := bt) (Or.inl (by have := HLoT.out; omega))
    rw [hwe2] at hP hk1
    have hfar := kid_far (w := w) hk1 (by have := HLoS.out; omega)
    clear HR HZ HT1 HFar
    have HZ : Hid (One w we bt _) := ⟨hP.one, hP.old⟩
    have HT1 := Lib.hid hk1
    have HFar := Lib.hid hfar
    replace H2 := Lib.hid hP.two
    clear hP hk1 hfar hwe2 r0 r1 r2 r3 r4 r5 x0 x1 x2 x3 x4 x5 x6 x7 x8 x9
    have x0 := cell_of H2.out.arg 0
    have x1 := cell_of H2.out.arg 1
    have x2 := cell_of H2.out.arg 2
    have x3 := cell_of H2.out.arg 3
    have x4 := cell_of H2.out.arg 4
    have x5 := cell_of H2.out.arg 5
    have x6 := cell_of H2.out.arg 6
    have x7 := cell_of H2.out.arg 7
    have x8 := cell_of H2.out.arg 8
    have x9 := cell_of H2.out.arg 9
    simp only [List.getElem?_toArray, List.getElem?_cons_zero, List.getElem?_cons_succ] at x0 x1 x2 x3 x4 x5 x6 x7 x8 x9
    obtain ⟨r0, r1, r2, r3, r4, r5⟩ := five HZ.out.at_
    go_wp2_with fail
    refine (HCp.out _ H2.out.below).mono ?_
    rintro e w' ⟨rfl, hb⟩
    clear r0 r1 r2 r3 r4 r5
    replace HZ := Lib.hid (HZ.out.next hb)
    replace HT1 := Lib.hid (HT1.out.next hb)
    replace H2 := Lib.hid (H2.out.next hb)
    clear hb x0 x1 x2 x3 x4 x5 x6 x7 x8 x9
    have x0 := cell_of H2.out.arg 0
    have x1 := cell_of H2.out.arg 1
    have x2 := cell_of H2.out.arg 2
    have x3 := cell_of H2.out.arg 3
    have x4 := cell_of H2.out.arg 4
    have x5 := cell_of H2.out.arg 5
    have x6 := cell_of H2.out.arg 6
    have x7 := cell_of H2.out.arg 7
    have x8 := cell_of H2.out.arg 8
    have x9 := cell_of H2.out.arg 9
    simp only [List.getElem?_toArray, List.getElem?_cons_zero, List.getElem?_cons_succ] at x0 x1 x2 x3 x4 x5 x6 x7 x8 x9
    obtain ⟨r0, r1, r2, r3, r4, r5⟩ := five HZ.out.at_
    go_wp2_with fail
    refine (HWo.out _ H2.out.below).mono ?_
    rintro e w' ⟨vo, Fo, rfl, hmo, hb⟩
    obtain ⟨oo, co, rfl, -⟩ := RowAt.slice hmo
    have HMo := Lib.hid fun (W : World) (hb : Below w'.heap.size w' W) => RowAt.stay hmo (by decide) hb (Nat.le_refl _)
    clear hmo
    clear r0 r1 r2 r3 r4 r5
    replace HZ := Lib.hid (HZ.out.next hb)
    replace HT1 := Lib.hid (HT1.out.next hb)
    replace H2 := Lib.hid (H2.out.next hb)
    clear hb x0 x1 x2 x3 x4 x5 x6 x7 x8 x9
    have x0 := cell_of H2.out.arg 0
    have x1 := cell_of H2.out.arg 1
    have x2 := cell_of H2.out.arg 2
    have x3 := cell_of H2.out.arg 3
    have x4 := cell_of H2.out.arg 4
    have x5 := cell_of H2.out.arg 5
    have x6 := cell_of H2.out.arg 6
    have x7 := cell_of H2.out.arg 7
    have x8 := cell_of H2.out.arg 8
    have x9 := cell_of H2.out.arg 9
    simp only [List.getElem?_toArray, List.getElem?_cons_zero, List.getElem?_cons_succ] at x0 x1 x2 x3 x4 x5 x6 x7 x8 x9
    obtain ⟨r0, r1, r2, r3, r4, r5⟩ := five HZ.out.at_
    have hl1 : ¬ ((othersM O.mets).length : Int) = 0 := by have := List.length_pos_iff.2 hne; omega
    have HSz : Hid (w.heap.size + 2 ≤ w'.heap.size) := H2.out.size
    have hn3 := one_ne HZ.out
    have hn4 := one_ne' HZ.out
    have hn5 : ¬ w.heap.size + 1 = bt := by have := HZ.out.old; omega
    have hn6 : ¬ bt = w.heap.size + 1 := by have := HZ.out.old; omega
    have tt1 : True := trivial
    go_wp2_with fail
    go_region_held3 (fun w' => w'.cell? ⟨w.heap.size, 0, none⟩ = some (.string O.name) ∧ w'.cell? ⟨w.heap.size, 1, none⟩ = some (.string O.target) ∧ w'.cell? ⟨w.heap.size, 2, none⟩ = some (.int .i64 O.low) ∧ w'.cell? ⟨w.heap.size, 3, none⟩ = some (.int .i64 O.high) ∧ w'.cell? ⟨w.heap.size, 4, none⟩ = some (.slice om O.mets.length cm) ∧ w'.cell? ⟨w.heap.size, 5, none⟩ = some (.int .i64 O.pace.up) ∧ w'.cell? ⟨w.heap.size, 6, none⟩ = some (.int .i64 O.pace.down) ∧ w'.cell? ⟨w.heap.size, 7, none⟩ = some (.int .i64 O.pace.ups) ∧ w'.cell? ⟨w.heap.size, 8, none⟩ = some (.int .i64 O.pace.downs) ∧ w'.cell? ⟨w.heap.size, 9, none⟩ = some (.slice on_ O.notes.length cn) ∧ w'.cell? ⟨bt, 0, none⟩ = some (.int .i64 T1.k) ∧ w'.cell? ⟨bt, 1, none⟩ = some (.int .i64 T1.n) ∧ w'.cell? ⟨bt, 2, none⟩ = some (.string T1.s) ∧ w'.cell? ⟨bt, 3, none⟩ = some (.slice a7 T1.keys.length b7) ∧ w'.cell? ⟨bt, 4, none⟩ = some (.slice a8 T1.kids.length b8)) (go_keep)
      (first
        | (go_at_call 88; refine (HMs.out _ _ _ (by first | exact H2.out.below | exact H2.out.below.trans ((below_drew1 _).mono H2.out.below.size) | exact H2.out.below.trans (((Below.refl _ _).alloc (Nat.le_refl _) _).mono H2.out.below.size) | exact H2.out.below.trans ((below_lit _ _).mono H2.out.below.size)) (HMo.out _ (by first | exact Below.refl _ _ | exact below_drew1 _ | exact (Below.refl _ _).alloc (Nat.le_refl _) _))).mono ?_; rintro e w' ⟨dm, GM, rfl, hl, hf, hb⟩; obtain ⟨am, bm, rfl⟩ := hl.slices.2; (first | (have HMt := Lib.hid (kid_at0 H2.out hl hf rfl)) | (have HMt := Lib.hid (kid_at1 H2.out hl hf (by simp))) | (have HMt := Lib.hid (kid_at1 H2.out hl hf (by simp [World.drew])))); clear hl hf; (first | (have hq := stepA H2.out hb; have hw := hq.2; replace H2 := Lib.hid hq.1; replace HSz := Lib.hid (And.intro HSz.out hw.size); clear hq) | (have hq := stepB H2.out hb; have hw := hq.2; replace H2 := Lib.hid hq.1; replace HSz := Lib.hid (And.intro HSz.out hw.size); clear hq) | (have hq := stepC H2.out hb (by simp); have hw := hq.2.1; have HZ := Lib.hid hq.2.2.1; replace H2 := Lib.hid hq.1; replace HSz := Lib.hid (And.intro HSz.out hq.2.2.2); clear hq) | (have hq := stepD H2.out hb; have hw := hq.2.1; have HZ := Lib.hid hq.2.2.1; replace H2 := Lib.hid hq.1; replace HSz := Lib.hid (And.intro HSz.out hq.2.2.2); clear hq)); (try replace HZ := Lib.hid (HZ.out.next hw)); (try replace HT1 := Lib.hid (HT1.out.next hw)); (try replace HMt := Lib.hid (HMt.out.next hw)); (try replace HR := Lib.hid (HR.out.next hw)); clear hw hb; clear x0 x1 x2 x3 x4 x5 x6 x7 x8 x9; have x0 := cell_of H2.out.arg 0; have x1 := cell_of H2.out.arg 1; have x2 := cell_of H2.out.arg 2; have x3 := cell_of H2.out.arg 3; have x4 := cell_of H2.out.arg 4; have x5 := cell_of H2.out.arg 5; have x6 := cell_of H2.out.arg 6; have x7 := cell_of H2.out.arg 7; have x8 := cell_of H2.out.arg 8; have x9 := cell_of H2.out.arg 9; simp only [List.getElem?_toArray, List.getElem?_cons_zero, List.getElem?_cons_succ] at x0 x1 x2 x3 x4 x5 x6 x7 x8 x9; clear r0 r1 r2 r3 r4 r5; obtain ⟨r0, r1, r2, r3, r4, r5⟩ := five HZ.out.at_)
        | (go_at_call 77; refine (HBr.out _ _ _ (by first | exact H2.out.below | exact H2.out.below.trans ((below_drew1 _).mono H2.out.below.size) | exact H2.out.below.trans (((Below.refl _ _).alloc (Nat.le_refl _) _).mono H2.out.below.size) | exact H2.out.below.trans ((below_lit _ _).mono H2.out.below.size)) (by first | exact HMt.out.lie | exact HMt.out.lie.stay (below_drew1 _) (Nat.le_refl _) | exact HMt.out.lie.stay ((Below.refl _ _).alloc (Nat.le_refl _) _) (Nat.le_refl _) | exact HMt.out.lie.stay (below_lit _ _) (Nat.le_refl _))).mono ?_; rintro e w' ⟨rfl, hb⟩; (first | (have hq := stepA H2.out hb; have hw := hq.2; replace H2 := Lib.hid hq.1; replace HSz := Lib.hid (And.intro HSz.out hw.size); clear hq) | (have hq := stepB H2.out hb; have hw := hq.2; replace H2 := Lib.hid hq.1; replace HSz := Lib.hid (And.intro HSz.out hw.size); clear hq) | (have hq := stepC H2.out hb (by simp); have hw := hq.2.1; have HZ := Lib.hid hq.2.2.1; replace H2 := Lib.hid hq.1; replace HSz := Lib.hid (And.intro HSz.out hq.2.2.2); clear hq) | (have hq := stepD H2.out hb; have hw := hq.2.1; have HZ := Lib.hid hq.2.2.1; replace H2 := Lib.hid hq.1; replace HSz := Lib.hid (And.intro HSz.out hq.2.2.2); clear hq)); (try replace HZ := Lib.hid (HZ.out.next hw)); (try replace HT1 := Lib.hid (HT1.out.next hw)); (try replace HMt := Lib.hid (HMt.out.next hw)); (try replace HR := Lib.hid (HR.out.next hw)); clear hw hb; clear x0 x1 x2 x3 x4 x5 x6 x7 x8 x9; have x0 := cell_of H2.out.arg 0; have x1 := cell_of H2.out.arg 1; have x2 := cell_of H2.out.arg 2; have x3 := cell_of H2.out.arg 3; have x4 := cell_of H2.out.arg 4; have x5 := cell_of H2.out.arg 5; have x6 := cell_of H2.out.arg 6; have x7 := cell_of H2.out.arg 7; have x8 := cell_of H2.out.arg 8; have x9 := cell_of H2.out.arg 9; simp only [List.getElem?_toArray, List.getElem?_cons_zero, List.getElem?_cons_succ] at x0 x1 x2 x3 x4 x5 x6 x7 x8 x9; clear r0 r1 r2 r3 r4 r5; obtain ⟨r0, r1, r2, r3, r4, r5⟩ := five HZ.out.at_)
        | (go_at_call 76; refine (HWn.out _ _ _ _ (by first | exact HT1.out.lie | exact HT1.out.lie.stay (below_drew1 _) (Nat.le_refl _) | exact HT1.out.lie.stay ((Below.refl _ _).alloc (Nat.le_refl _) _) (Nat.le_refl _) | exact HT1.out.lie.stay (below_lit _ _) (Nat.le_refl _))).mono ?_; rintro e w' ⟨k6, d6, G6, rfl, hl, hf, hb⟩; obtain ⟨⟨c7, e7, rfl⟩, ⟨c8, e8, rfl⟩⟩ := hl.slices; have HL := Lib.hid (res_keep H2.out hl hf (Nat.le_refl _)); clear hl hf; (first | (have hq := stepA H2.out hb; have hw := hq.2; replace H2 := Lib.hid hq.1; replace HSz := Lib.hid (And.intro HSz.out hw.size); clear hq) | (have hq := stepB H2.out hb; have hw := hq.2; replace H2 := Lib.hid hq.1; replace HSz := Lib.hid (And.intro HSz.out hw.size); clear hq) | (have hq := stepC H2.out hb (by simp); have hw := hq.2.1; have HZ := Lib.hid hq.2.2.1; replace H2 := Lib.hid hq.1; replace HSz := Lib.hid (And.intro HSz.out hq.2.2.2); clear hq) | (have hq := stepD H2.out hb; have hw := hq.2.1; have HZ := Lib.hid hq.2.2.1; replace H2 := Lib.hid hq.1; replace HSz := Lib.hid (And.intro HSz.out hq.2.2.2); clear hq)); (try replace HZ := Lib.hid (HZ.out.next hw)); (try replace HT1 := Lib.hid (HT1.out.next hw)); (try replace HMt := Lib.hid (HMt.out.next hw)); (try replace HR := Lib.hid (HR.out.next hw)); clear hw hb; clear x0 x1 x2 x3 x4 x5 x6 x7 x8 x9; have x0 := cell_of H2.out.arg 0; have x1 := cell_of H2.out.arg 1; have x2 := cell_of H2.out.arg 2; have x3 := cell_of H2.out.arg 3; have x4 := cell_of H2.out.arg 4; have x5 := cell_of H2.out.arg 5; have x6 := cell_of H2.out.arg 6; have x7 := cell_of H2.out.arg 7; have x8 := cell_of H2.out.arg 8; have x9 := cell_of H2.out.arg 9; simp only [List.getElem?_toArray, List.getElem?_cons_zero, List.getElem?_cons_succ] at x0 x1 x2 x3 x4 x5 x6 x7 x8 x9; clear r0 r1 r2 r3 r4 r5; obtain ⟨r0, r1, r2, r3, r4, r5⟩ := five HZ.out.at_; obtain ⟨s0, s1, s2, s3, s4, s5⟩ := five H2.out.res))
    all_goals
      have HF := res_fin H2.out HL.out
      go_wp2
      exact bodyPost_ret (ret_node Tryz.results47 rfl HF.1) rfl ⟨_, _, _, rfl, HF.2.1, HF.2.2.1, HF.2.2.2⟩
end Go.Proofs.YtfmkhogpnnobeaaGreatDoor

/- the program's PlainTree of an order that is right: its tree, in memory of its own; of others the zero node; condition: the library's table of powers of ten starts as the program's text lays it. -/
namespace Go.Proofs.YtfmkhogpnnobeaaGreatDoor
open Go Go.RowKit

set_option maxRecDepth 100000 in
set_option maxHeartbeats 1600000 in
theorem impl_plainTree_no {O : Ord} {mv nv : Value} {FM FN : List Nat} (w : World) (ho : OrdAt w O mv nv FM FN) (hc : O.okB = false) :
    Calls Tryz.prog 16 #[.agg #[.string O.name, .string O.target, .int .i64 O.low, .int .i64 O.high, mv, .int .i64 O.pace.up, .int .i64 O.pace.down, .int .i64 O.pace.ups, .int .i64 O.pace.downs, nv]] w fun e w' => e = .returned (.agg #[.int .i64 0, .int .i64 0, .string ⟨#[]⟩, .slice none 0 0, .slice none 0 0]) ∧ Below w.heap.size w w' := by
  have HO := Lib.hid fun wr (hb : Below w.heap.size w wr) => impl_orderOk wr (ho.stay hb (Nat.le_refl _))
  obtain ⟨⟨om, cm, rfl⟩, on_, cn, rfl⟩ := ho.slices
  clear ho
  have H2 := Lib.hid (Two.start w (.cells #[.string O.name, .string O.target, .int .i64 O.low, .int .i64 O.high, .slice om O.mets.length cm, .int .i64 O.pace.up, .int .i64 O.pace.down, .int .i64 O.pace.ups, .int .i64 O.pace.downs, .slice on_ O.notes.length cn] 38) (.cells #[.int .i64 0, .int .i64 0, .string ⟨#[]⟩, .slice none 0 0, .slice none 0 0] 32))
  go_enter Tryz.func16, Tryz.ntmps16
  go_wp2_with (first
    | (go_at_call 29; refine (HO.out _ H2.out.below).mono ?_; rintro e w1 ⟨rfl, hb⟩; rw [hc]; replace H2 := Lib.hid (H2.out.next hb); clear hb; obtain ⟨r0, r1, r2, r3, r4, r5⟩ := five H2.out.res)
    | fail)
  exact bodyPost_ret (ret_node Tryz.results16 rfl (set5_end H2.out.res _ _ _ _ _)) rfl ⟨rfl, set5_below H2.out.below (by omega) _ _ _ _ _ _⟩

set_option maxRecDepth 100000 in
set_option maxHeartbeats 1600000 in
theorem impl_plainTree_yes {O : Ord} {mv nv : Value} {FM FN : List Nat} (w : World) (ho : OrdAt w O mv nv FM FN) (hc : O.okB = true) (htab : Lib.TabIs Tryz.prog w "internal/strconv.uint64pow10" .u64 Lib.pow10Tab) :
    Calls Tryz.prog 16 #[.agg #[.string O.name, .string O.target, .int .i64 O.low, .int .i64 O.high, mv, .int .i64 O.pace.up, .int .i64 O.pace.down, .int .i64 O.pace.ups, .int .i64 O.pace.downs, nv]] w fun e w' => ∃ kv dv F, e = .returned (.agg #[.int .i64 (plainT O).k, .int .i64 (plainT O).n, .string (plainT O).s, kv, dv]) ∧ Lies w' (plainT O) kv dv F ∧ Fresh w w' F ∧ Below w.heap.size w w' := by
  have HO := Lib.hid fun wr (hb : Below w.heap.size w wr) => impl_orderOk wr (ho.stay hb (Nat.le_refl _))
  have HT := Lib.hid (Lib.tabBelow_of_tabIs htab)
  have HTr : Hid (∀ wr, Below w.heap.size w wr → Calls Tryz.prog 47 #[.agg #[.string O.name, .string O.target, .int .i64 O.low, .int .i64 O.high, mv, .int .i64 O.pace.up, .int .i64 O.pace.down, .int .i64 O.pace.ups, .int .i64 O.pace.downs, nv]] wr fun e w' => ∃ kv dv F, e = .returned (.agg #[.int .i64 (plainT O).k, .int .i64 (plainT O).n, .string (plainT O).s, kv, dv]) ∧ Lies w' (plainT O) kv dv F ∧ Fresh wr w' F ∧ Below wr.heap.size wr w') := fun wr hb => by
    have ho' := ho.stay hb (Nat.le_refl _)
    cases h1 : shareB O.mets <;> cases h2 : (othersM O.mets).isEmpty
    · exact impl_plainTNY wr ho' hc h1 h2 (HT.out _ hb)
    · exact impl_plainTNN wr ho' hc h1 h2 (HT.out _ hb)
    · exact impl_plainTYY wr ho' hc h1 h2 (HT.out _ hb)
    · exact impl_plainTYN wr ho' hc h1 h2 (HT.out _ hb)
  obtain ⟨⟨om, cm, rfl⟩, on_, cn, rfl⟩ := ho.slices
  clear ho htab
  generalize plainT O = T at *
  have H2 := Lib.hid (Two.start w (.cells #[.string O.name, .string O.target, .int .i64 O.low, .int .i64 O.high, .slice om O.mets.length cm, .int .i64 O.pace.up, .int .i64 O.pace.down, .int .i64 O.pace.ups, .int .i64 O.pace.downs, .slice on_ O.notes.length cn] 38) (.cells #[.int .i64 0, .int .i64 0, .string ⟨#[]⟩, .slice none 0 0, .slice none 0 0] 32))
  go_enter Tryz.func16, Tryz.ntmps16
  go_wp2_with (first
    | (go_at_call 29; refine (HO.out _ H2.out.below).mono ?_; rintro e w1 ⟨rfl, hb⟩; rw [hc]; replace H2 := Lib.hid (H2.out.next hb); clear hb; have x0 := cell_of H2.out.arg 0; have x1 := cell_of H2.out.arg 1; have x2 := cell_of H2.out.arg 2; have x3 := cell_of H2.out.arg 3; have x4 := cell_of H2.out.arg 4; have x5 := cell_of H2.out.arg 5; have x6 := cell_of H2.out.arg 6; have x7 := cell_of H2.out.arg 7; have x8 := cell_of H2.out.arg 8; have x9 := cell_of H2.out.arg 9; simp only [List.getElem?_toArray, List.getElem?_cons_zero, List.getElem?_cons_succ] at x0 x1 x2 x3 x4 x5 x6 x7 x8 x9)
    | (go_at_call 47; refine (HTr.out _ H2.out.below).mono ?_; rintro e w2 ⟨kv, dv, F, rfl, hl, hf, hb⟩; obtain ⟨⟨a1, b1, rfl⟩, ⟨a2, b2, rfl⟩⟩ := hl.slices; have HL := Lib.hid (res_keep H2.out hl hf (Nat.le_refl _)); clear hl hf; replace H2 := Lib.hid (H2.out.next hb); clear hb; obtain ⟨s0, s1, s2, s3, s4, s5⟩ := five H2.out.res)
    | fail)
  have HF := res_fin H2.out HL.out
  exact bodyPost_ret (ret_node Tryz.results16 rfl HF.1) rfl ⟨_, _, _, rfl, HF.2.1, HF.2.2.1, HF.2.2.2⟩
end Go.Proofs.YtfmkhogpnnobeaaGreatDoor

/- the model's PlainTree of an order that is right: its tree, in memory of its own; no condition. -/
namespace Go.Proofs.YtfmkhogpnnobeaaGreatDoor
open Go Go.RowKit

set_option maxRecDepth 100000 in
set_option maxHeartbeats 8000000 in
theorem spec_plainTNN {O : Ord} {mv nv : Value} {FM FN : List Nat} (w : World) (ho : OrdAt w O mv nv FM FN) (hc : O.okB = true) (hsh : shareB O.mets = false) (hot : (othersM O.mets).isEmpty = true) :
    Calls Tryz.prog 15 #[.agg #[.string O.name, .string O.target, .int .i64 O.low, .int .i64 O.high, mv, .int .i64 O.pace.up, .int .i64 O.pace.down, .int .i64 O.pace.ups, .int .i64 O.pace.downs, nv]] w fun e w' => ∃ kv dv F, e = .returned (.agg #[.int .i64 (plainT O).k, .int .i64 (plainT O).n, .string (plainT O).s, kv, dv]) ∧ Lies w' (plainT O) kv dv F ∧ Fresh w w' F ∧ Below w.heap.size w w' := by
  obtain ⟨hn1, hn2, ⟨hm1, hm2⟩, -⟩ := okB_out hc
  have hg := mets_goal hc
  have hoz := others_sz hc (RowAt.every ho.mets)
  have hol := others_len O.mets
  have hhz := head_sz hc ⟨#[112, 108, 97, 105, 110]⟩ (by decide)
  have hsz := saved_sz hc
  have hbz := bracT_size (metsT (othersM O.mets))
  have HO := Lib.hid fun wr (hb : Below w.heap.size w wr) => spec_orderOk wr (ho.stay hb (Nat.le_refl _))
  have HSv : Hid (∀ wr, Below w.heap.size w wr → Calls Tryz.prog 25 #[.agg #[.string O.name, .string O.target, .int .i64 O.low, .int .i64 O.high, mv, .int .i64 O.pace.up, .int .i64 O.pace.down, .int .i64 O.pace.ups, .int .i64 O.pace.downs, nv]] wr fun e w' => ∃ kv dv F, e = .returned (.agg #[.int .i64 (savedT O).k, .int .i64 (savedT O).n, .string (savedT O).s, kv, dv]) ∧ Lies w' (savedT O) kv dv F ∧ Fresh wr w' F ∧ Below wr.heap.size wr w') := fun wr hb => spec_l8Saved wr (ho.stay hb (Nat.le_refl _)) hc
  have HHs : Hid (∀ (om on_ : Option Addr) (cm cn : Nat) W, Calls Tryz.prog 23 #[.agg #[.string O.name, .string O.target, .int .i64 O.low, .int .i64 O.high, .slice om O.mets.length cm, .int .i64 O.pace.up, .int .i64 O.pace.down, .int .i64 O.pace.ups, .int .i64 O.pace.downs, .slice on_ O.notes.length cn], .string ⟨#[112, 108, 97, 105, 110]⟩] W fun e w' => ∃ kv dv F, e = .returned (.agg #[.int .i64 (headT ⟨#[112, 108, 97, 105, 110]⟩ O).k, .int .i64 (headT ⟨#[112, 108, 97, 105, 110]⟩ O).n, .string (headT ⟨#[112, 108, 97, 105, 110]⟩ O).s, kv, dv]) ∧ Lies w' (headT ⟨#[112, 108, 97, 105, 110]⟩ O) kv dv F ∧ Fresh W w' F ∧ Below W.heap.size W w') := fun om on_ cm cn W => spec_l7Head ⟨#[112, 108, 97, 105, 110]⟩ O om on_ _ cm _ cn hn1 hn2 (by decide) ho.low ho.high W
  have HSh : Hid (∀ wr, Below w.heap.size w wr → Calls Tryz.prog 42 #[mv] wr fun e w' => e = .returned (.tuple #[.int .i64 (shareN O.mets), .bool false]) ∧ Below wr.heap.size wr w') := fun wr hb => by rw [← hsh]; exact spec_shareOf wr (RowAt.stay ho.mets (by decide) hb (Nat.le_refl _)) (by omega) hg
  have HOs := Lib.hid fun wr (hb : Below w.heap.size w wr) => spec_l9Others wr (RowAt.stay ho.mets (by decide) hb (Nat.le_refl _)) (by omega) hg
  have hne : (othersM O.mets = []) := by exact List.isEmpty_iff.1 hot
  have hpn : plainN O = savedT O := if_pos hne
  have hE : setT (headT ⟨#[112, 108, 97, 105, 110]⟩ O) ⟨#[110, 111, 116, 101, 115]⟩ (savedT O) = plainT O := by
    unfold plainT shapeP
    rw [hpn, if_neg (by rw [hsh]; decide)]
    exact pl_head6 O _
  have hpz := plainN_sz hc
  rw [hpn] at hpz
  have k0 : (⟨#[]⟩ : ByteArray).size = 0 := rfl
  have k1 : (⟨#[115, 104, 97, 114, 101]⟩ : ByteArray).size = 5 := rfl
  obtain ⟨⟨om, cm, rfl⟩, on_, cn, rfl⟩ := ho.slices
  clear ho hm1 hm2 hn1 hn2 hg hoz hol hot
  generalize hTH : headT ⟨#[112, 108, 97, 105, 110]⟩ O = TH at *
  generalize hTS : savedT O = TS at *
  generalize plainT O = R at *
  have HSF : Hid (∀ X kv dv G kx dx G', Lies X TH kv dv G → Lies X TS kx dx G' → Calls Tryz.prog 22 #[.agg #[.int .i64 TH.k, .int .i64 TH.n, .string TH.s, kv, dv], .string ⟨#[110, 111, 116, 101, 115]⟩, .agg #[.int .i64 TS.k, .int .i64 TS.n, .string TS.s, kx, dx]] X fun e w' => ∃ kr dr F, e = .returned (.agg #[.int .i64 R.k, .int .i64 R.n, .string R.s, kr, dr]) ∧ Lies w' R kr dr F ∧ Fresh X w' F ∧ Below X.heap.size X w') := fun X kv dv G kx dx G' hl hx => by have h := spec_set TH TS ⟨#[110, 111, 116, 101, 115]⟩ X kv dv kx dx G G' hl hx (by omega) (by omega) (by decide); rw [hE] at h; exact h
  clear hTH hTS hE hpn hpz k0 k1 hhz hsz
  have H2 := Lib.hid (Two.start w (.cells #[.string O.name, .string O.target, .int .i64 O.low, .int .i64 O.high, .slice om O.mets.length cm, .int .i64 O.pace.up, .int .i64 O.pace.down, .int .i64 O.pace.ups, .int .i64 O.pace.downs, .slice on_ O.notes.length cn] 38) (.cells #[.int .i64 0, .int .i64 0, .string ⟨#[]⟩, .slice none 0 0, .slice none 0 0] 32))
  go_enter Tryz.func15, Tryz.ntmps15
  go_wp2_with (first
    | (go_at_call 21; refine (HO.out _ H2.out.below).mono ?_; rintro e w1 ⟨rfl, hb⟩; rw [hc]; replace H2 := Lib.hid (H2.out.next hb); clear hb; have x0 := cell_of H2.out.arg 0; have x1 := cell_of H2.out.arg 1; have x2 := cell_of H2.out.arg 2; have x3 := cell_of H2.out.arg 3; have x4 := cell_of H2.out.arg 4; have x5 := cell_of H2.out.arg 5; have x6 := cell_of H2.out.arg 6; have x7 := cell_of H2.out.arg 7; have x8 := cell_of H2.out.arg 8; have x9 := cell_of H2.out.arg 9; simp only [List.getElem?_toArray, List.getElem?_cons_zero, List.getElem?_cons_succ] at x0 x1 x2 x3 x4 x5 x6 x7 x8 x9)
    | fail)
  refine (HHs.out _ _ _ _ _).mono ?_
  rintro e w' ⟨kh, dh, GH, rfl, hl, hf, hb⟩
  obtain ⟨⟨a1, b1, rfl⟩, ⟨a2, b2, rfl⟩⟩ := hl.slices
  have HT1 := Lib.hid (kid_at0 H2.out hl hf rfl)
  replace H2 := Lib.hid (H2.out.next hb)
  clear hl hf hb x0 x1 x2 x3 x4 x5 x6 x7 x8 x9
  have HZ : Hid (One w (w'.alloc (.cells #[.int .i64 TH.k, .int .i64 TH.n, .string TH.s, .slice a1 TH.keys.length b1, .slice a2 TH.kids.length b2] 32)) w'.heap.size (.cells #[.int .i64 TH.k, .int .i64 TH.n, .string TH.s, .slice a1 TH.keys.length b1, .slice a2 TH.kids.length b2] 32)) := ⟨heap_last w' _, H2.out.size⟩
  replace HT1 := Lib.hid (HT1.out.next ((Below.refl _ w').alloc (Nat.le_refl _) (.cells #[.int .i64 TH.k, .int .i64 TH.n, .string TH.s, .slice a1 TH.keys.length b1, .slice a2 TH.kids.length b2] 32)))
  replace H2 := Lib.hid (H2.out.next ((Below.refl _ w').alloc (Nat.le_refl _) (.cells #[.int .i64 TH.k, .int .i64 TH.n, .string TH.s, .slice a1 TH.keys.length b1, .slice a2 TH.kids.length b2] 32)))
  have x0 := cell_of H2.out.arg 0
  have x1 := cell_of H2.out.arg 1
  have x2 := cell_of H2.out.arg 2
  have x3 := cell_of H2.out.arg 3
  have x4 := cell_of H2.out.arg 4
  have x5 := cell_of H2.out.arg 5
  have x6 := cell_of H2.out.arg 6
  have x7 := cell_of H2.out.arg 7
  have x8 := cell_of H2.out.arg 8
  have x9 := cell_of H2.out.arg 9
  simp only [List.getElem?_toArray, List.getElem?_cons_zero, List.getElem?_cons_succ] at x0 x1 x2 x3 x4 x5 x6 x7 x8 x9
  go_wp2_with fail
  generalize w'.alloc (.cells #[.int .i64 TH.k, .int .i64 TH.n, .string TH.s, .slice a1 TH.keys.length b1, .slice a2 TH.kids.length b2] 32) = wc at *
  generalize w'.heap.size = bt at *
  have HLt : Hid (bt < wc.heap.size) := (Array.getElem?_eq_some_iff.1 HZ.out.at_).1
  refine (HSv.out _ H2.out.below).mono ?_
  rintro e w' ⟨kn, dn, GN, rfl, hl, hf, hb⟩
  obtain ⟨⟨a3, b3, rfl⟩, ⟨a4, b4, rfl⟩⟩ := hl.slices
  have HN := Lib.hid (kid_at0 H2.out hl hf rfl)
  replace H2 := Lib.hid (H2.out.next hb)
  replace HZ := Lib.hid (HZ.out.next hb)
  replace HT1 := Lib.hid (HT1.out.next hb)
  have HLs : Hid (wc.heap.size ≤ w'.heap.size) := hb.size
  clear hl hf hb x0 x1 x2 x3 x4 x5 x6 x7 x8 x9
  have HY : Hid (One w (w'.alloc (.cells #[.int .i64 TS.k, .int .i64 TS.n, .string TS.s, .slice a3 TS.keys.length b3, .slice a4 TS.kids.length b4] 32)) w'.heap.size (.cells #[.int .i64 TS.k, .int .i64 TS.n, .string TS.s, .slice a3 TS.keys.length b3, .slice a4 TS.kids.length b4] 32)) := ⟨heap_last w' _, H2.out.size⟩
  replace HN := Lib.hid (HN.out.next ((Below.refl _ w').alloc (Nat.le_refl _) (.cells #[.int .i64 TS.k, .int .i64 TS.n, .string TS.s, .slice a3 TS.keys.length b3, .slice a4 TS.kids.length b4] 32)))
  replace HZ := Lib.hid (HZ.out.next ((Below.refl _ w').alloc (Nat.le_refl _) (.cells #[.int .i64 TS.k, .int .i64 TS.n, .string TS.s, .slice a3 TS.keys.length b3, .slice a4 TS.kids.length b4] 32)))
  replace HT1 := Lib.hid (HT1.out.next ((Below.refl _ w').alloc (Nat.le_refl _) (.cells #[.int .i64 TS.k, .int .i64 TS.n, .string TS.s, .slice a3 TS.keys.length b3, .slice a4 TS.kids.length b4] 32)))
  replace H2 := Lib.hid (H2.out.next ((Below.refl _ w').alloc (Nat.le_refl _) (.cells #[.int .i64 TS.k, .int .i64 TS.n, .string TS.s, .slice a3 TS.keys.length b3, .slice a4 TS.kids.length b4] 32)))
  have x0 := cell_of H2.out.arg 0
  have x1 := cell_of H2.out.arg 1
  have x2 := cell_of H2.out.arg 2
  have x3 := cell_of H2.out.arg 3
  have x4 := cell_of H2.out.arg 4
  have x5 := cell_of H2.out.arg 5
  have x6 := cell_of H2.out.arg 6
  have x7 := cell_of H2.out.arg 7
  have x8 := cell_of H2.out.arg 8
  have x9 := cell_of H2.out.arg 9
  simp only [List.getElem?_toArray, List.getElem?_cons_zero, List.getElem?_cons_succ] at x0 x1 x2 x3 x4 x5 x6 x7 x8 x9
  go_wp2_with fail
  generalize w'.alloc (.cells #[.int .i64 TS.k, .int .i64 TS.n, .string TS.s, .slice a3 TS.keys.length b3, .slice a4 TS.kids.length b4] 32) = wd at *
  generalize w'.heap.size = bn at *
  have HNe : Hid (bt ≠ bn) := by have := HLt.out; have := HLs.out; exact fun e => by omega
  refine (HSh.out _ H2.out.below).mono ?_
  rintro e w' ⟨rfl, hb⟩
  replace HZ := Lib.hid (HZ.out.next hb)
  replace HY := Lib.hid (HY.out.next hb)
  replace HT1 := Lib.hid (HT1.out.next hb)
  replace HN := Lib.hid (HN.out.next hb)
  replace H2 := Lib.hid (H2.out.next hb)
  clear hb x0 x1 x2 x3 x4 x5 x6 x7 x8 x9
  have x0 := cell_of H2.out.arg 0
  have x1 := cell_of H2.out.arg 1
  have x2 := cell_of H2.out.arg 2
  have x3 := cell_of H2.out.arg 3
  have x4 := cell_of H2.out.arg 4
  have x5 := cell_of H2.out.arg 5
  have x6 := cell_of H2.out.arg 6
  have x7 := cell_of H2.out.arg 7
  have x8 := cell_of H2.out.arg 8
  have x9 := cell_of H2.out.arg 9
  simp only [List.getElem?_toArray, List.getElem?_cons_zero, List.getElem?_cons_succ] at x0 x1 x2 x3 x4 x5 x6 x7 x8 x9
  obtain ⟨r0, r1, r2, r3, r4, r5⟩ := five HZ.out.at_
  obtain ⟨q0, q1, q2, q3, q4, q5⟩ := five HY.out.at_
  go_wp2_with fail
  refine (HOs.out _ H2.out.below).mono ?_
  rintro e w' ⟨vo, Fo, rfl, hmo, hb⟩
  obtain ⟨oo, co, rfl, -⟩ := RowAt.slice hmo
  have HMo := Lib.hid fun (W : World) (hb : Below w'.heap.size w' W) => RowAt.stay hmo (by decide) hb (Nat.le_refl _)
  clear r0 r1 r2 r3 r4 r5 q0 q1 q2 q3 q4 q5
  replace HZ := Lib.hid (HZ.out.next hb)
  replace HY := Lib.hid (HY.out.next hb)
  replace HT1 := Lib.hid (HT1.out.next hb)
  replace HN := Lib.hid (HN.out.next hb)
  replace H2 := Lib.hid (H2.out.next hb)
  clear hb x0 x1 x2 x3 x4 x5 x6 x7 x8 x9
  have x0 := cell_of H2.out.arg 0
  have x1 := cell_of H2.out.arg 1
  have x2 := cell_of H2.out.arg 2
  have x3 := cell_of H2.out.arg 3
  have x4 := cell_of H2.out.arg 4
  have x5 := cell_of H2.out.arg 5
  have x6 := cell_of H2.out.arg 6
  have x7 := cell_of H2.out.arg 7
  have x8 := cell_of H2.out.arg 8
  have x9 := cell_of H2.out.arg 9
  simp only [List.getElem?_toArray, List.getElem?_cons_zero, List.getElem?_cons_succ] at x0 x1 x2 x3 x4 x5 x6 x7 x8 x9
  obtain ⟨r0, r1, r2, r3, r4, r5⟩ := five HZ.out.at_
  obtain ⟨q0, q1, q2, q3, q4, q5⟩ := five HY.out.at_
  clear hmo
  generalize othersM O.mets = ys at *
  subst hne
  go_wp2_with fail
  refine (HSF.out _ _ _ _ _ _ _ HT1.out.lie HN.out.lie).mono ?_
  rintro e w' ⟨k6, d6, G6, rfl, hl, hf, hb⟩
  obtain ⟨⟨a7, b7, rfl⟩, ⟨a8, b8, rfl⟩⟩ := hl.slices
  have HL := Lib.hid (res_keep H2.out hl hf (Nat.le_refl _))
  replace H2 := Lib.hid (H2.out.next hb)
  clear hl hf hb
  obtain ⟨s0, s1, s2, s3, s4, s5⟩ := five H2.out.res
  have HF := res_fin H2.out HL.out
  go_wp2
  exact bodyPost_ret (ret_node Tryz.results15 rfl HF.1) rfl ⟨_, _, _, rfl, HF.2.1, HF.2.2.1, HF.2.2.2⟩
end Go.Proofs.YtfmkhogpnnobeaaGreatDoor
