/-
  What is proved: the model's PlainTree of an order that is right: its tree, in memory of its own; no condition.; the model's PlainTree of an order that is right: its tree, in memory of its own; of others the zero node; no condition.; the model's Shape: an order's tree in the shape of that number, in memory of its own, of other numbers the zero node; no condition.
-/
import Derived.Test.YtelpkcbbipianaaGreatPartAU
import Derived.Test.YtelpkcbbipianaaGreatPartAV
import Derived.Test.YtelpkcbbipianaaGreatPartAS
import Derived.Test.YtelpkcbbipianaaGreatPartAM
import Derived.Test.YtelpkcbbipianaaGreatPartAT
/- the model's PlainTree of an order that is right: its tree, in memory of its own; no condition. -/
namespace Go.Proofs.YtelpkcbbipianaaGreat
open Go Go.RowKit

set_option maxRecDepth 100000 in
set_option maxHeartbeats 8000000 in
theorem spec_plainTYY {O : Ord} {mv nv : Value} {FM FN : List Nat} (w : World) (ho : OrdAt w O mv nv FM FN) (hc : O.okB = true) (hsh : shareB O.mets = true) (hot : (othersM O.mets).isEmpty = false) :
    Calls Tryz.prog 61 #[.agg #[.string O.name, .string O.target, .int .i64 O.low, .int .i64 O.high, mv, .int .i64 O.pace.up, .int .i64 O.pace.down, .int .i64 O.pace.ups, .int .i64 O.pace.downs, nv]] w fun e w' => ∃ kv dv F, e = .returned (.agg #[.int .i64 (plainT O).k, .int .i64 (plainT O).n, .string (plainT O).s, kv, dv]) ∧ Lies w' (plainT O) kv dv F ∧ Fresh w w' F ∧ Below w.heap.size w w' := by
  obtain ⟨hn1, hn2, ⟨hm1, hm2⟩, -⟩ := okB_out hc
  have hg := mets_goal hc
  have hoz := others_sz hc (RowAt.every ho.mets)
  have hol := others_len O.mets
  have hhz := head_sz hc ⟨#[112, 108, 97, 105, 110]⟩ (by decide)
  have hsz := saved_sz hc
  have hbz := bracT_size (metsT (othersM O.mets))
  have HO := Lib.hid fun wr (hb : Below w.heap.size w wr) => spec_orderOk wr (ho.stay hb (Nat.le_refl _))
  have HSv : Hid (∀ wr, Below w.heap.size w wr → Calls Tryz.prog 76 #[.agg #[.string O.name, .string O.target, .int .i64 O.low, .int .i64 O.high, mv, .int .i64 O.pace.up, .int .i64 O.pace.down, .int .i64 O.pace.ups, .int .i64 O.pace.downs, nv]] wr fun e w' => ∃ kv dv F, e = .returned (.agg #[.int .i64 (savedT O).k, .int .i64 (savedT O).n, .string (savedT O).s, kv, dv]) ∧ Lies w' (savedT O) kv dv F ∧ Fresh wr w' F ∧ Below wr.heap.size wr w') := fun wr hb => spec_l8Saved wr (ho.stay hb (Nat.le_refl _)) hc
  have HHs : Hid (∀ (om on_ : Option Addr) (cm cn : Nat) W, Calls Tryz.prog 72 #[.agg #[.string O.name, .string O.target, .int .i64 O.low, .int .i64 O.high, .slice om O.mets.length cm, .int .i64 O.pace.up, .int .i64 O.pace.down, .int .i64 O.pace.ups, .int .i64 O.pace.downs, .slice on_ O.notes.length cn], .string ⟨#[112, 108, 97, 105, 110]⟩] W fun e w' => ∃ kv dv F, e = .returned (.agg #[.int .i64 (headT ⟨#[112, 108, 97, 105, 110]⟩ O).k, .int .i64 (headT ⟨#[112, 108, 97, 105, 110]⟩ O).n, .string (headT ⟨#[112, 108, 97, 105, 110]⟩ O).s, kv, dv]) ∧ Lies w' (headT ⟨#[112, 108, 97, 105, 110]⟩ O) kv dv F ∧ Fresh W w' F ∧ Below W.heap.size W w') := fun om on_ cm cn W => spec_l7Head ⟨#[112, 108, 97, 105, 110]⟩ O om on_ _ cm _ cn hn1 hn2 (by decide) ho.low ho.high W
  have HSh : Hid (∀ wr, Below w.heap.size w wr → Calls Tryz.prog 77 #[mv] wr fun e w' => e = .returned (.tuple #[.int .i64 (shareN O.mets), .bool true]) ∧ Below wr.heap.size wr w') := fun wr hb => by rw [← hsh]; exact spec_shareOf wr (RowAt.stay ho.mets (by decide) hb (Nat.le_refl _)) (by omega) hg
  have HOs := Lib.hid fun wr (hb : Below w.heap.size w wr) => spec_l9Others wr (RowAt.stay ho.mets (by decide) hb (Nat.le_refl _)) (by omega) hg
  have hne : ¬ (othersM O.mets = []) := by intro e; rw [e] at hot; cases hot
  have hpn : plainN O = setT (savedT O) ⟨#[113, 117, 97, 121, 47, 109, 101, 116, 114, 105, 99, 115]⟩ (.node 3 0 (bracT (metsT (othersM O.mets))) [] []) := if_neg hne
  have hE : setT (setT (headT ⟨#[112, 108, 97, 105, 110]⟩ O) ⟨#[115, 104, 97, 114, 101]⟩ (.node 2 (shareN O.mets) ⟨#[]⟩ [] [])) ⟨#[110, 111, 116, 101, 115]⟩ (setT (savedT O) ⟨#[113, 117, 97, 121, 47, 109, 101, 116, 114, 105, 99, 115]⟩ (.node 3 0 (bracT (metsT (othersM O.mets))) [] [])) = plainT O := by
    unfold plainT shapeP
    rw [hpn, if_pos hsh]
    exact pl_head7 O _ _
  have hpz := plainN_sz hc
  rw [hpn] at hpz
  have k0 : (⟨#[]⟩ : ByteArray).size = 0 := rfl
  have k1 : (⟨#[115, 104, 97, 114, 101]⟩ : ByteArray).size = 5 := rfl
  have z1 := setT_sz (headT ⟨#[112, 108, 97, 105, 110]⟩ O) (.node 2 (shareN O.mets) ⟨#[]⟩ [] []) ⟨#[115, 104, 97, 114, 101]⟩
  have zl : (RT.node 2 (shareN O.mets) ⟨#[]⟩ [] []).sz = 0 := by simp only [RT.sz, szAll, strSz, k0, List.length_nil, List.map_nil, List.sum_nil, Nat.add_zero]
  have HLi : Hid (∀ W : World, Lies W (.node 2 (shareN O.mets) ⟨#[]⟩ [] []) (.slice none 0 0) (.slice none 0 0) []) := fun W => leaf_lies W ⟨by decide, by decide⟩ fit_share (by decide)
  have HMs := Lib.hid fun wr v F (h : MetsAt wr v (othersM O.mets) F) => spec_l7Metrics wr h (by omega) (fun m hm => by have := hm2 m (others_mem hm); omega)
  have HBr : Hid (∀ W dv F, Lies W (metsT (othersM O.mets)) (.slice none 0 0) dv F → Calls Tryz.prog 79 #[.agg #[.int .i64 4, .int .i64 0, .string ⟨#[]⟩, .slice none 0 0, dv]] W fun e w' => e = .returned (.string (bracT (metsT (othersM O.mets)))) ∧ Below W.heap.size W w') := fun W dv F hl => spec_braced (metsT (othersM O.mets)) W _ dv F hl (by omega)
  have zq : (RT.node 3 0 (bracT (metsT (othersM O.mets))) [] []).sz = (bracT (metsT (othersM O.mets))).size := by simp [RT.sz, szAll, strSz]
  have HLq : Hid (∀ W : World, Lies W (.node 3 0 (bracT (metsT (othersM O.mets))) [] []) (.slice none 0 0) (.slice none 0 0) []) := fun W => leaf_lies W ⟨by decide, by decide⟩ ⟨by decide, by decide⟩ (by unfold maxLen; omega)
  obtain ⟨⟨om, cm, rfl⟩, on_, cn, rfl⟩ := ho.slices
  clear ho hm1 hm2 hn1 hn2 hg hoz hol hot
  generalize hTH : headT ⟨#[112, 108, 97, 105, 110]⟩ O = TH at *
  generalize hTS : savedT O = TS at *
  generalize hT1 : setT TH ⟨#[115, 104, 97, 114, 101]⟩ (.node 2 (shareN O.mets) ⟨#[]⟩ [] []) = T1 at *
  generalize hTN : setT TS ⟨#[113, 117, 97, 121, 47, 109, 101, 116, 114, 105, 99, 115]⟩ (.node 3 0 (bracT (metsT (othersM O.mets))) [] []) = TN at *
  generalize plainT O = R at *
  have HS1 : Hid (∀ X kv dv G kx dx G', Lies X TH kv dv G → Lies X (.node 2 (shareN O.mets) ⟨#[]⟩ [] []) kx dx G' → Calls Tryz.prog 40 #[.agg #[.int .i64 TH.k, .int .i64 TH.n, .string TH.s, kv, dv], .string ⟨#[115, 104, 97, 114, 101]⟩, .agg #[.int .i64 2, .int .i64 (shareN O.mets), .string ⟨#[]⟩, kx, dx]] X fun e w' => ∃ kr dr F, e = .returned (.agg #[.int .i64 T1.k, .int .i64 T1.n, .string T1.s, kr, dr]) ∧ Lies w' T1 kr dr F ∧ Fresh X w' F ∧ Below X.heap.size X w') := fun X kv dv G kx dx G' hl hx => by have h := spec_set TH (.node 2 (shareN O.mets) ⟨#[]⟩ [] []) ⟨#[115, 104, 97, 114, 101]⟩ X kv dv kx dx G G' hl hx (by omega) (by omega) (by decide); rw [hT1] at h; exact h
  have HS2 : Hid (∀ X kv dv G kx dx G', Lies X TS kv dv G → Lies X (.node 3 0 (bracT (metsT (othersM O.mets))) [] []) kx dx G' → Calls Tryz.prog 40 #[.agg #[.int .i64 TS.k, .int .i64 TS.n, .string TS.s, kv, dv], .string ⟨#[113, 117, 97, 121, 47, 109, 101, 116, 114, 105, 99, 115]⟩, .agg #[.int .i64 3, .int .i64 0, .string (bracT (metsT (othersM O.mets))), kx, dx]] X fun e w' => ∃ kr dr F, e = .returned (.agg #[.int .i64 TN.k, .int .i64 TN.n, .string TN.s, kr, dr]) ∧ Lies w' TN kr dr F ∧ Fresh X w' F ∧ Below X.heap.size X w') := fun X kv dv G kx dx G' hl hx => by have h := spec_set TS (.node 3 0 (bracT (metsT (othersM O.mets))) [] []) ⟨#[113, 117, 97, 121, 47, 109, 101, 116, 114, 105, 99, 115]⟩ X kv dv kx dx G G' hl hx (by omega) (by omega) (by decide); rw [hTN] at h; exact h
  have HSF : Hid (∀ X kv dv G kx dx G', Lies X T1 kv dv G → Lies X TN kx dx G' → Calls Tryz.prog 40 #[.agg #[.int .i64 T1.k, .int .i64 T1.n, .string T1.s, kv, dv], .string ⟨#[110, 111, 116, 101, 115]⟩, .agg #[.int .i64 TN.k, .int .i64 TN.n, .string TN.s, kx, dx]] X fun e w' => ∃ kr dr F, e = .returned (.agg #[.int .i64 R.k, .int .i64 R.n, .string R.s, kr, dr]) ∧ Lies w' R kr dr F ∧ Fresh X w' F ∧ Below X.heap.size X w') := fun X kv dv G kx dx G' hl hx => by have h := spec_set T1 TN ⟨#[110, 111, 116, 101, 115]⟩ X kv dv kx dx G G' hl hx (by omega) (by omega) (by decide); rw [hE] at h; exact h
  clear hTH hTS hE hpn hpz k0 k1 hhz hsz hT1 z1 zl hTN zq
  have H2 := Lib.hid (Two.start w (.cells #[.string O.name, .string O.target, .int .i64 O.low, .int .i64 O.high, .slice om O.mets.length cm, .int .i64 O.pace.up, .int .i64 O.pace.down, .int .i64 O.pace.ups, .int .i64 O.pace.downs, .slice on_ O.notes.length cn] 66) (.cells #[.int .i64 0, .int .i64 0, .string ⟨#[]⟩, .slice none 0 0, .slice none 0 0] 27))
  go_enter Tryz.func61, Tryz.ntmps61
  go_wp2_with (first
    | (go_at_call 71; refine (HO.out _ H2.out.below).mono ?_; rintro e w1 ⟨rfl, hb⟩; rw [hc]; replace H2 := Lib.hid (H2.out.next hb); clear hb; have x0 := cell_of H2.out.arg 0; have x1 := cell_of H2.out.arg 1; have x2 := cell_of H2.out.arg 2; have x3 := cell_of H2.out.arg 3; have x4 := cell_of H2.out.arg 4; have x5 := cell_of H2.out.arg 5; have x6 := cell_of H2.out.arg 6; have x7 := cell_of H2.out.arg 7; have x8 := cell_of H2.out.arg 8; have x9 := cell_of H2.out.arg 9; simp only [List.getElem?_toArray, List.getElem?_cons_zero, List.getElem?_cons_succ] at x0 x1 x2 x3 x4 x5 x6 x7 x8 x9)
    | fail)
  refine (HHs.out _ _ _ _ _).mono ?_
  rintro e w' ⟨kh, dh, GH, rfl, hl, hf, hb⟩
  obtain ⟨⟨a1, b1, rfl⟩, ⟨a2, b2, rfl⟩⟩ := hl.slices
  have HT1 := Lib.hid (kid_at0 H2.out hl hf rfl)
  replace H2 := Lib.hid (H2.out.next hb)
  clear hl hf hb x0 x1 x2 x3 x4 x5 x6 x7 x8 x9
  have HZ : Hid (One w (w'.alloc (.cells #[.int .i64 TH.k, .int .i64 TH.n, .string TH.s, .slice a1 TH.keys.length b1, .slice a2 TH.kids.length b2] 27)) w'.heap.size (.cells #[.int .i64 TH.k, .int .i64 TH.n, .string TH.s, .slice a1 TH.keys.length b1, .slice a2 TH.kids.length b2] 27)) := ⟨heap_last w' _, H2.out.size⟩
  replace HT1 := Lib.hid (HT1.out.next ((Below.refl _ w').alloc (Nat.le_refl _) (.cells #[.int .i64 TH.k, .int .i64 TH.n, .string TH.s, .slice a1 TH.keys.length b1, .slice a2 TH.kids.length b2] 27)))
  replace H2 := Lib.hid (H2.out.next ((Below.refl _ w').alloc (Nat.le_refl _) (.cells #[.int .i64 TH.k, .int .i64 TH.n, .string TH.s, .slice a1 TH.keys.length b1, .slice a2 TH.kids.length b2] 27)))
  have x0 := cell_of H2.out.arg 0
  have x1 := cell_of H2.out.arg 1
  have x2 := cell_of H2.out.arg 2
  have x3 := cell_of H2.out.arg 3
  have x4 := cell_of H2.out.arg 4
  have x5 := cell_of H2.out.arg 5
  have x6 := cell_of H2.out.arg 6
  have x7 := cell_of H2.out.arg 7
  have x8 := cell_of H2.out.arg 8
  have x9 := cell_of H2.out.arg 9
  simp only [List.getElem?_toArray, List.getElem?_cons_zero, List.getElem?_cons_succ] at x0 x1 x2 x3 x4 x5 x6 x7 x8 x9
  go_wp2_with fail
  generalize w'.alloc (.cells #[.int .i64 TH.k, .int .i64 TH.n, .string TH.s, .slice a1 TH.keys.length b1, .slice a2 TH.kids.length b2] 27) = wc at *
  generalize w'.heap.size = bt at *
  have HLt : Hid (bt < wc.heap.size) := (Array.getElem?_eq_some_iff.1 HZ.out.at_).1
  refine (HSv.out _ H2.out.below).mono ?_
  rintro e w' ⟨kn, dn, GN, rfl, hl, hf, hb⟩
  obtain ⟨⟨a3, b3, rfl⟩, ⟨a4, b4, rfl⟩⟩ := hl.slices
  have HN := Lib.hid (kid_at0 H2.out hl hf rfl)
  replace H2 := Lib.hid (H2.out.next hb)
  replace HZ := Lib.hid (HZ.out.next hb)
  replace HT1 := Lib.hid (HT1.out.next hb)
  have HLs : Hid (wc.heap.size ≤ w'.heap.size) := hb.size
  clear hl hf hb x0 x1 x2 x3 x4 x5 x6 x7 x8 x9
  have HY : Hid (One w (w'.alloc (.cells #[.int .i64 TS.k, .int .i64 TS.n, .string TS.s, .slice a3 TS.keys.length b3, .slice a4 TS.kids.length b4] 27)) w'.heap.size (.cells #[.int .i64 TS.k, .int .i64 TS.n, .string TS.s, .slice a3 TS.keys.length b3, .slice a4 TS.kids.length b4] 27)) := ⟨heap_last w' _, H2.out.size⟩
  replace HN := Lib.hid (HN.out.next ((Below.refl _ w').alloc (Nat.le_refl _) (.cells #[.int .i64 TS.k, .int .i64 TS.n, .string TS.s, .slice a3 TS.keys.length b3, .slice a4 TS.kids.length b4] 27)))
  replace HZ := Lib.hid (HZ.out.next ((Below.refl _ w').alloc (Nat.le_refl _) (.cells #[.int .i64 TS.k, .int .i64 TS.n, .string TS.s, .slice a3 TS.keys.length b3, .slice a4 TS.kids.length b4] 27)))
  replace HT1 := Lib.hid (HT1.out.next ((Below.refl _ w').alloc (Nat.le_refl _) (.cells #[.int .i64 TS.k, .int .i64 TS.n, .string TS.s, .slice a3 TS.keys.length b3, .slice a4 TS.kids.length b4] 27)))
  replace H2 := Lib.hid (H2.out.next ((Below.refl _ w').alloc (Nat.le_refl _) (.cells #[.int .i64 TS.k, .int .i64 TS.n, .string TS.s, .slice a3 TS.keys.length b3, .slice a4 TS.kids.length b4] 27)))
  have x0 := cell_of H2.out.arg 0
  have x1 := cell_of H2.out.arg 1
  have x2 := cell_of H2.out.arg 2
  have x3 := cell_of H2.out.arg 3
  have x4 := cell_of H2.out.arg 4
  have x5 := cell_of H2.out.arg 5
  have x6 := cell_of H2.out.arg 6
  have x7 := cell_of H2.out.arg 7
  have x8 := cell_of H2.out.arg 8
  have x9 := cell_of H2.out.arg 9
  simp only [List.getElem?_toArray, List.getElem?_cons_zero, List.getElem?_cons_succ] at x0 x1 x2 x3 x4 x5 x6 x7 x8 x9
  go_wp2_with fail
  generalize w'.alloc (.cells #[.int .i64 TS.k, .int .i64 TS.n, .string TS.s, .slice a3 TS.keys.length b3, .slice a4 TS.kids.length b4] 27) = wd at *
  generalize w'.heap.size = bn at *
  have HNe : Hid (bt ≠ bn) := by have := HLt.out; have := HLs.out; exact fun e => by omega
  refine (HSh.out _ H2.out.below).mono ?_
  rintro e w' ⟨rfl, hb⟩
  replace HZ := Lib.hid (HZ.out.next hb)
  replace HY := Lib.hid (HY.out.next hb)
  replace HT1 := Lib.hid (HT1.out.next hb)
  replace HN := Lib.hid (HN.out.next hb)
  replace H2 := Lib.hid (H2.out.next hb)
  clear hb x0 x1 x2 x3 x4 x5 x6 x7 x8 x9
  have x0 := cell_of H2.out.arg 0
  have x1 := cell_of H2.out.arg 1
  have x2 := cell_of H2.out.arg 2
  have x3 := cell_of H2.out.arg 3
  have x4 := cell_of H2.out.arg 4
  have x5 := cell_of H2.out.arg 5
  have x6 := cell_of H2.out.arg 6
  have x7 := cell_of H2.out.arg 7
  have x8 := cell_of H2.out.arg 8
  have x9 := cell_of H2.out.arg 9
  simp only [List.getElem?_toArray, List.getElem?_cons_zero, List.getElem?_cons_succ] at x0 x1 x2 x3 x4 x5 x6 x7 x8 x9
  obtain ⟨r0, r1, r2, r3, r4, r5⟩ := five HZ.out.at_
  obtain ⟨q0, q1, q2, q3, q4, q5⟩ := five HY.out.at_
  have HSz : Hid (w.heap.size + 2 ≤ w'.heap.size) := H2.out.size
  have hn3 := one_ne HZ.out
  have hn4 := one_ne' HZ.out
  have hn5 : ¬ w.heap.size + 1 = bt := by have := HZ.out.old; omega
  have hn6 : ¬ bt = w.heap.size + 1 := by have := HZ.out.old; omega
  go_wp2_with fail
  go_region_with (first
    | (go_at_call 55; refine (spec_intOf _ _).mono ?_; rintro e w' ⟨rfl, hb⟩; (first | (have hq := stepA H2.out hb; have hw := hq.2; replace H2 := Lib.hid hq.1; replace HSz := Lib.hid (And.intro HSz.out hw.size); clear hq) | (have hq := stepB H2.out hb; have hw := hq.2; replace H2 := Lib.hid hq.1; replace HSz := Lib.hid (And.intro HSz.out hw.size); clear hq) | (have hq := stepC H2.out hb (by simp); have hw := hq.2.1; have HZ := Lib.hid hq.2.2.1; replace H2 := Lib.hid hq.1; replace HSz := Lib.hid (And.intro HSz.out hq.2.2.2); clear hq) | (have hq := stepD H2.out hb; have hw := hq.2.1; have HZ := Lib.hid hq.2.2.1; replace H2 := Lib.hid hq.1; replace HSz := Lib.hid (And.intro HSz.out hq.2.2.2); clear hq)); (try replace HZ := Lib.hid (HZ.out.next hw)); (try replace HY := Lib.hid (HY.out.next hw)); (try replace HT1 := Lib.hid (HT1.out.next hw)); (try replace HN := Lib.hid (HN.out.next hw)); (try replace HOt := Lib.hid (HOt.out.next hw)); (try replace HMt := Lib.hid (HMt.out.next hw)); (try replace HR := Lib.hid (HR.out.next hw)); clear hw hb; clear x0 x1 x2 x3 x4 x5 x6 x7 x8 x9; have x0 := cell_of H2.out.arg 0; have x1 := cell_of H2.out.arg 1; have x2 := cell_of H2.out.arg 2; have x3 := cell_of H2.out.arg 3; have x4 := cell_of H2.out.arg 4; have x5 := cell_of H2.out.arg 5; have x6 := cell_of H2.out.arg 6; have x7 := cell_of H2.out.arg 7; have x8 := cell_of H2.out.arg 8; have x9 := cell_of H2.out.arg 9; simp only [List.getElem?_toArray, List.getElem?_cons_zero, List.getElem?_cons_succ] at x0 x1 x2 x3 x4 x5 x6 x7 x8 x9; clear r0 r1 r2 r3 r4 r5; obtain ⟨r0, r1, r2, r3, r4, r5⟩ := five HZ.out.at_)
    | (go_at_call 40; refine (HS1.out _ _ _ _ _ _ _ (by first | exact HT1.out.lie | exact HT1.out.lie.stay (below_drew1 _) (Nat.le_refl _) | exact HT1.out.lie.stay ((Below.refl _ _).alloc (Nat.le_refl _) _) (Nat.le_refl _) | exact HT1.out.lie.stay (below_lit _ _) (Nat.le_refl _)) (HLi.out _)).mono ?_; rintro e w' ⟨kr, dr, GR, rfl, hl, hf, hb⟩; obtain ⟨⟨a5, b5, rfl⟩, ⟨a6, b6, rfl⟩⟩ := hl.slices; have HLoT1 := Lib.hid (Array.getElem?_eq_some_iff.1 HZ.out.at_).1; have HLoN1 := Lib.hid (Array.getElem?_eq_some_iff.1 HY.out.at_).1; (first | (have HR := Lib.hid (kid_at0 H2.out hl hf rfl)) | (have HR := Lib.hid (kid_at1 H2.out hl hf (by simp))) | (have HR := Lib.hid (kid_at1 H2.out hl hf (by simp [World.drew])))); clear hl hf; (first | (have hq := stepA H2.out hb; have hw := hq.2; replace H2 := Lib.hid hq.1; replace HSz := Lib.hid (And.intro HSz.out hw.size); clear hq) | (have hq := stepB H2.out hb; have hw := hq.2; replace H2 := Lib.hid hq.1; replace HSz := Lib.hid (And.intro HSz.out hw.size); clear hq) | (have hq := stepC H2.out hb (by simp); have hw := hq.2.1; have HZ := Lib.hid hq.2.2.1; replace H2 := Lib.hid hq.1; replace HSz := Lib.hid (And.intro HSz.out hq.2.2.2); clear hq) | (have hq := stepD H2.out hb; have hw := hq.2.1; have HZ := Lib.hid hq.2.2.1; replace H2 := Lib.hid hq.1; replace HSz := Lib.hid (And.intro HSz.out hq.2.2.2); clear hq)); (try replace HZ := Lib.hid (HZ.out.next hw)); (try replace HY := Lib.hid (HY.out.next hw)); (try replace HT1 := Lib.hid (HT1.out.next hw)); (try replace HN := Lib.hid (HN.out.next hw)); (try replace HOt := Lib.hid (HOt.out.next hw)); (try replace HMt := Lib.hid (HMt.out.next hw)); (try replace HR := Lib.hid (HR.out.next hw)); clear hw hb; clear x0 x1 x2 x3 x4 x5 x6 x7 x8 x9; have x0 := cell_of H2.out.arg 0; have x1 := cell_of H2.out.arg 1; have x2 := cell_of H2.out.arg 2; have x3 := cell_of H2.out.arg 3; have x4 := cell_of H2.out.arg 4; have x5 := cell_of H2.out.arg 5; have x6 := cell_of H2.out.arg 6; have x7 := cell_of H2.out.arg 7; have x8 := cell_of H2.out.arg 8; have x9 := cell_of H2.out.arg 9; simp only [List.getElem?_toArray, List.getElem?_cons_zero, List.getElem?_cons_succ] at x0 x1 x2 x3 x4 x5 x6 x7 x8 x9; clear r0 r1 r2 r3 r4 r5; obtain ⟨r0, r1, r2, r3, r4, r5⟩ := five HZ.out.at_))
  all_goals
    generalize hwe : (((((w'.setCell ⟨bt, 0, none⟩ (.int .i64 T1.k)).setCell ⟨bt, 1, none⟩ (.int .i64 T1.n)).setCell ⟨bt, 2, none⟩ (.string T1.s)).setCell ⟨bt, 3, none⟩ (.slice a5 T1.keys.length b5)).setCell ⟨bt, 4, none⟩ (.slice a6 T1.kids.length b6)) = we
    have hwe2 : set5 w' bt 0 (.int .i64 T1.k) (.int .i64 T1.n) (.string T1.s) (.slice a5 T1.keys.length b5) (.slice a6 T1.kids.length b6) = we := hwe
    clear hwe
    have hP := ft_put H2.out HZ.out HR.out (Or.inl (by have := HLoT1.out; omega))
    have hk1 := ft_keep (v0 := .int .i64 T1.k) (v1 := .int .i64 T1.n) (v2 := .string T1.s) (v3 := .slice a5 T1.keys.length b5) (v4 := .slice a6 T1.kids.length b6) HR.out (bt := bt) (Or.inl (by have := HLoT1.out; omega))
    have hK := ft_keep (v0 := .int .i64 T1.k) (v1 := .int .i64 T1.n) (v2 := .string T1.s) (v3 := .slice a5 T1.keys.length b5) (v4 := .slice a6 T1.kids.length b6) HN.out (bt := bt) (Or.inl (by have := HLt.out; omega))
    have hO := one_keep (v0 := .int .i64 T1.k) (v1 := .int .i64 T1.n) (v2 := .string T1.s) (v3 := .slice a5 T1.keys.length b5) (v4 := .slice a6 T1.kids.length b6) HY.out (bt := bt) (Ne.symm HNe.out)
    rw [hwe2] at hP hK hO hk1
    clear HR HZ HT1
    have HZ : Hid (One w we bt _) := ⟨hP.one, hP.old⟩
    have HT1 := Lib.hid hk1
    replace H2 := Lib.hid hP.two
    replace HN := Lib.hid hK
    replace HY := Lib.hid hO
    clear hP hK hO hk1 hwe2 r0 r1 r2 r3 r4 r5 q0 q1 q2 q3 q4 q5 x0 x1 x2 x3 x4 x5 x6 x7 x8 x9
    have x0 := cell_of H2.out.arg 0
    have x1 := cell_of H2.out.arg 1
    have x2 := cell_of H2.out.arg 2
    have x3 := cell_of H2.out.arg 3
    have x4 := cell_of H2.out.arg 4
    have x5 := cell_of H2.out.arg 5
    have x6 := cell_of H2.out.arg 6
    have x7 := cell_of H2.out.arg 7
    have x8 := cell_of H2.out.arg 8
    have x9 := cell_of H2.out.arg 9
    simp only [List.getElem?_toArray, List.getElem?_cons_zero, List.getElem?_cons_succ] at x0 x1 x2 x3 x4 x5 x6 x7 x8 x9
    obtain ⟨r0, r1, r2, r3, r4, r5⟩ := five HZ.out.at_
    obtain ⟨q0, q1, q2, q3, q4, q5⟩ := five HY.out.at_
    go_wp2_with fail
    refine (HOs.out _ H2.out.below).mono ?_
    rintro e w' ⟨vo, Fo, rfl, hmo, hb⟩
    obtain ⟨oo, co, rfl, -⟩ := RowAt.slice hmo
    have HMo := Lib.hid fun (W : World) (hb : Below w'.heap.size w' W) => RowAt.stay hmo (by decide) hb (Nat.le_refl _)
    clear r0 r1 r2 r3 r4 r5 q0 q1 q2 q3 q4 q5
    replace HZ := Lib.hid (HZ.out.next hb)
    replace HY := Lib.hid (HY.out.next hb)
    replace HT1 := Lib.hid (HT1.out.next hb)
    replace HN := Lib.hid (HN.out.next hb)
    replace H2 := Lib.hid (H2.out.next hb)
    clear hb x0 x1 x2 x3 x4 x5 x6 x7 x8 x9
    have x0 := cell_of H2.out.arg 0
    have x1 := cell_of H2.out.arg 1
    have x2 := cell_of H2.out.arg 2
    have x3 := cell_of H2.out.arg 3
    have x4 := cell_of H2.out.arg 4
    have x5 := cell_of H2.out.arg 5
    have x6 := cell_of H2.out.arg 6
    have x7 := cell_of H2.out.arg 7
    have x8 := cell_of H2.out.arg 8
    have x9 := cell_of H2.out.arg 9
    simp only [List.getElem?_toArray, List.getElem?_cons_zero, List.getElem?_cons_succ] at x0 x1 x2 x3 x4 x5 x6 x7 x8 x9
    obtain ⟨r0, r1, r2, r3, r4, r5⟩ := five HZ.out.at_
    obtain ⟨q0, q1, q2, q3, q4, q5⟩ := five HY.out.at_
    clear hmo
    have hlen : (0 : Int) < ((othersM O.mets).length : Int) := by have := List.length_pos_iff.2 hne; omega
    have HSz : Hid (w.heap.size + 2 ≤ w'.heap.size) := H2.out.size
    have hn7 := one_ne HY.out
    have hn8 := one_ne' HY.out
    have hn9 : ¬ w.heap.size + 1 = bn := by have := HY.out.old; omega
    have hn10 : ¬ bn = w.heap.size + 1 := by have := HY.out.old; omega
    go_wp2_with fail
    go_region_with (first
      | (go_at_call 73; refine (HMs.out _ _ _ (HMo.out _ (by first | exact Below.refl _ _ | exact below_drew1 _))).mono ?_; rintro e w' ⟨dm, GM, rfl, hl, hf, hb⟩; obtain ⟨am, bm, rfl⟩ := hl.slices.2; (first | (have HMt := Lib.hid (kid_at0 H2.out hl hf rfl)) | (have HMt := Lib.hid (kid_at1 H2.out hl hf (by simp))) | (have HMt := Lib.hid (kid_at1 H2.out hl hf (by simp [World.drew])))); clear hl hf; (first | (have hq := stepA H2.out hb; have hw := hq.2; replace H2 := Lib.hid hq.1; replace HSz := Lib.hid (And.intro HSz.out hw.size); clear hq) | (have hq := stepB H2.out hb; have hw := hq.2; replace H2 := Lib.hid hq.1; replace HSz := Lib.hid (And.intro HSz.out hw.size); clear hq) | (have hq := stepC H2.out hb (by simp); have hw := hq.2.1; have HZ := Lib.hid hq.2.2.1; replace H2 := Lib.hid hq.1; replace HSz := Lib.hid (And.intro HSz.out hq.2.2.2); clear hq) | (have hq := stepD H2.out hb; have hw := hq.2.1; have HZ := Lib.hid hq.2.2.1; replace H2 := Lib.hid hq.1; replace HSz := Lib.hid (And.intro HSz.out hq.2.2.2); clear hq)); (try replace HZ := Lib.hid (HZ.out.next hw)); (try replace HY := Lib.hid (HY.out.next hw)); (try replace HT1 := Lib.hid (HT1.out.next hw)); (try replace HN := Lib.hid (HN.out.next hw)); (try replace HOt := Lib.hid (HOt.out.next hw)); (try replace HMt := Lib.hid (HMt.out.next hw)); (try replace HR := Lib.hid (HR.out.next hw)); clear hw hb; clear x0 x1 x2 x3 x4 x5 x6 x7 x8 x9; have x0 := cell_of H2.out.arg 0; have x1 := cell_of H2.out.arg 1; have x2 := cell_of H2.out.arg 2; have x3 := cell_of H2.out.arg 3; have x4 := cell_of H2.out.arg 4; have x5 := cell_of H2.out.arg 5; have x6 := cell_of H2.out.arg 6; have x7 := cell_of H2.out.arg 7; have x8 := cell_of H2.out.arg 8; have x9 := cell_of H2.out.arg 9; simp only [List.getElem?_toArray, List.getElem?_cons_zero, List.getElem?_cons_succ] at x0 x1 x2 x3 x4 x5 x6 x7 x8 x9; clear r0 r1 r2 r3 r4 r5; obtain ⟨r0, r1, r2, r3, r4, r5⟩ := five HZ.out.at_; clear q0 q1 q2 q3 q4 q5; obtain ⟨q0, q1, q2, q3, q4, q5⟩ := five HY.out.at_)
      | (go_at_call 79; refine (HBr.out _ _ _ (by first | exact HMt.out.lie | exact HMt.out.lie.stay (below_drew1 _) (Nat.le_refl _) | exact HMt.out.lie.stay ((Below.refl _ _).alloc (Nat.le_refl _) _) (Nat.le_refl _) | exact HMt.out.lie.stay (below_lit _ _) (Nat.le_refl _))).mono ?_; rintro e w' ⟨rfl, hb⟩; (first | (have hq := stepA H2.out hb; have hw := hq.2; replace H2 := Lib.hid hq.1; replace HSz := Lib.hid (And.intro HSz.out hw.size); clear hq) | (have hq := stepB H2.out hb; have hw := hq.2; replace H2 := Lib.hid hq.1; replace HSz := Lib.hid (And.intro HSz.out hw.size); clear hq) | (have hq := stepC H2.out hb (by simp); have hw := hq.2.1; have HZ := Lib.hid hq.2.2.1; replace H2 := Lib.hid hq.1; replace HSz := Lib.hid (And.intro HSz.out hq.2.2.2); clear hq) | (have hq := stepD H2.out hb; have hw := hq.2.1; have HZ := Lib.hid hq.2.2.1; replace H2 := Lib.hid hq.1; replace HSz := Lib.hid (And.intro HSz.out hq.2.2.2); clear hq)); (try replace HZ := Lib.hid (HZ.out.next hw)); (try replace HY := Lib.hid (HY.out.next hw)); (try replace HT1 := Lib.hid (HT1.out.next hw)); (try replace HN := Lib.hid (HN.out.next hw)); (try replace HOt := Lib.hid (HOt.out.next hw)); (try replace HMt := Lib.hid (HMt.out.next hw)); (try replace HR := Lib.hid (HR.out.next hw)); clear hw hb; clear x0 x1 x2 x3 x4 x5 x6 x7 x8 x9; have x0 := cell_of H2.out.arg 0; have x1 := cell_of H2.out.arg 1; have x2 := cell_of H2.out.arg 2; have x3 := cell_of H2.out.arg 3; have x4 := cell_of H2.out.arg 4; have x5 := cell_of H2.out.arg 5; have x6 := cell_of H2.out.arg 6; have x7 := cell_of H2.out.arg 7; have x8 := cell_of H2.out.arg 8; have x9 := cell_of H2.out.arg 9; simp only [List.getElem?_toArray, List.getElem?_cons_zero, List.getElem?_cons_succ] at x0 x1 x2 x3 x4 x5 x6 x7 x8 x9; clear r0 r1 r2 r3 r4 r5; obtain ⟨r0, r1, r2, r3, r4, r5⟩ := five HZ.out.at_; clear q0 q1 q2 q3 q4 q5; obtain ⟨q0, q1, q2, q3, q4, q5⟩ := five HY.out.at_)
      | (go_at_call 56; refine (spec_textOf _ _).mono ?_; rintro e w' ⟨rfl, hb⟩; (first | (have hq := stepA H2.out hb; have hw := hq.2; replace H2 := Lib.hid hq.1; replace HSz := Lib.hid (And.intro HSz.out hw.size); clear hq) | (have hq := stepB H2.out hb; have hw := hq.2; replace H2 := Lib.hid hq.1; replace HSz := Lib.hid (And.intro HSz.out hw.size); clear hq) | (have hq := stepC H2.out hb (by simp); have hw := hq.2.1; have HZ := Lib.hid hq.2.2.1; replace H2 := Lib.hid hq.1; replace HSz := Lib.hid (And.intro HSz.out hq.2.2.2); clear hq) | (have hq := stepD H2.out hb; have hw := hq.2.1; have HZ := Lib.hid hq.2.2.1; replace H2 := Lib.hid hq.1; replace HSz := Lib.hid (And.intro HSz.out hq.2.2.2); clear hq)); (try replace HZ := Lib.hid (HZ.out.next hw)); (try replace HY := Lib.hid (HY.out.next hw)); (try replace HT1 := Lib.hid (HT1.out.next hw)); (try replace HN := Lib.hid (HN.out.next hw)); (try replace HOt := Lib.hid (HOt.out.next hw)); (try replace HMt := Lib.hid (HMt.out.next hw)); (try replace HR := Lib.hid (HR.out.next hw)); clear hw hb; clear x0 x1 x2 x3 x4 x5 x6 x7 x8 x9; have x0 := cell_of H2.out.arg 0; have x1 := cell_of H2.out.arg 1; have x2 := cell_of H2.out.arg 2; have x3 := cell_of H2.out.arg 3; have x4 := cell_of H2.out.arg 4; have x5 := cell_of H2.out.arg 5; have x6 := cell_of H2.out.arg 6; have x7 := cell_of H2.out.arg 7; have x8 := cell_of H2.out.arg 8; have x9 := cell_of H2.out.arg 9; simp only [List.getElem?_toArray, List.getElem?_cons_zero, List.getElem?_cons_succ] at x0 x1 x2 x3 x4 x5 x6 x7 x8 x9; clear r0 r1 r2 r3 r4 r5; obtain ⟨r0, r1, r2, r3, r4, r5⟩ := five HZ.out.at_; clear q0 q1 q2 q3 q4 q5; obtain ⟨q0, q1, q2, q3, q4, q5⟩ := five HY.out.at_)
      | (go_at_call 40; refine (HS2.out _ _ _ _ _ _ _ (by first | exact HN.out.lie | exact HN.out.lie.stay (below_drew1 _) (Nat.le_refl _) | exact HN.out.lie.stay ((Below.refl _ _).alloc (Nat.le_refl _) _) (Nat.le_refl _) | exact HN.out.lie.stay (below_lit _ _) (Nat.le_refl _)) (HLq.out _)).mono ?_; rintro e w' ⟨kr, dr, GR, rfl, hl, hf, hb⟩; obtain ⟨⟨a7, b7, rfl⟩, ⟨a8, b8, rfl⟩⟩ := hl.slices; have HLoT2 := Lib.hid (Array.getElem?_eq_some_iff.1 HZ.out.at_).1; have HLoN2 := Lib.hid (Array.getElem?_eq_some_iff.1 HY.out.at_).1; (first | (have HR := Lib.hid (kid_at0 H2.out hl hf rfl)) | (have HR := Lib.hid (kid_at1 H2.out hl hf (by simp))) | (have HR := Lib.hid (kid_at1 H2.out hl hf (by simp [World.drew])))); clear hl hf; (first | (have hq := stepA H2.out hb; have hw := hq.2; replace H2 := Lib.hid hq.1; replace HSz := Lib.hid (And.intro HSz.out hw.size); clear hq) | (have hq := stepB H2.out hb; have hw := hq.2; replace H2 := Lib.hid hq.1; replace HSz := Lib.hid (And.intro HSz.out hw.size); clear hq) | (have hq := stepC H2.out hb (by simp); have hw := hq.2.1; have HZ := Lib.hid hq.2.2.1; replace H2 := Lib.hid hq.1; replace HSz := Lib.hid (And.intro HSz.out hq.2.2.2); clear hq) | (have hq := stepD H2.out hb; have hw := hq.2.1; have HZ := Lib.hid hq.2.2.1; replace H2 := Lib.hid hq.1; replace HSz := Lib.hid (And.intro HSz.out hq.2.2.2); clear hq)); (try replace HZ := Lib.hid (HZ.out.next hw)); (try replace HY := Lib.hid (HY.out.next hw)); (try replace HT1 := Lib.hid (HT1.out.next hw)); (try replace HN := Lib.hid (HN.out.next hw)); (try replace HOt := Lib.hid (HOt.out.next hw)); (try replace HMt := Lib.hid (HMt.out.next hw)); (try replace HR := Lib.hid (HR.out.next hw)); clear hw hb; clear x0 x1 x2 x3 x4 x5 x6 x7 x8 x9; have x0 := cell_of H2.out.arg 0; have x1 := cell_of H2.out.arg 1; have x2 := cell_of H2.out.arg 2; have x3 := cell_of H2.out.arg 3; have x4 := cell_of H2.out.arg 4; have x5 := cell_of H2.out.arg 5; have x6 := cell_of H2.out.arg 6; have x7 := cell_of H2.out.arg 7; have x8 := cell_of H2.out.arg 8; have x9 := cell_of H2.out.arg 9; simp only [List.getElem?_toArray, List.getElem?_cons_zero, List.getElem?_cons_succ] at x0 x1 x2 x3 x4 x5 x6 x7 x8 x9; clear r0 r1 r2 r3 r4 r5; obtain ⟨r0, r1, r2, r3, r4, r5⟩ := five HZ.out.at_; clear q0 q1 q2 q3 q4 q5; obtain ⟨q0, q1, q2, q3, q4, q5⟩ := five HY.out.at_))
    all_goals
      generalize hwe : (((((w'.setCell ⟨bn, 0, none⟩ (.int .i64 TN.k)).setCell ⟨bn, 1, none⟩ (.int .i64 TN.n)).setCell ⟨bn, 2, none⟩ (.string TN.s)).setCell ⟨bn, 3, none⟩ (.slice a7 TN.keys.length b7)).setCell ⟨bn, 4, none⟩ (.slice a8 TN.kids.length b8)) = we
      have hwe2 : set5 w' bn 0 (.int .i64 TN.k) (.int .i64 TN.n) (.string TN.s) (.slice a7 TN.keys.length b7) (.slice a8 TN.kids.length b8) = we := hwe
      clear hwe
      have hP := ft_put H2.out HY.out HR.out (Or.inl (by have := HLoN2.out; omega))
      have hk1 := ft_keep (v0 := .int .i64 TN.k) (v1 := .int .i64 TN.n) (v2 := .string TN.s) (v3 := .slice a7 TN.keys.length b7) (v4 := .slice a8 TN.kids.length b8) HR.out (bt := bn) (Or.inl (by have := HLoN2.out; omega))
      have hK := ft_keep (v0 := .int .i64 TN.k) (v1 := .int .i64 TN.n) (v2 := .string TN.s) (v3 := .slice a7 TN.keys.length b7) (v4 := .slice a8 TN.kids.length b8) HT1.out (bt := bn) (Or.inl (by have := HLoN1.out; omega))
      have hO := one_keep (v0 := .int .i64 TN.k) (v1 := .int .i64 TN.n) (v2 := .string TN.s) (v3 := .slice a7 TN.keys.length b7) (v4 := .slice a8 TN.kids.length b8) HZ.out (bt := bn) (HNe.out)
      rw [hwe2] at hP hK hO hk1
      clear HR HY HN
      have HY : Hid (One w we bn _) := ⟨hP.one, hP.old⟩
      have HN := Lib.hid hk1
      replace H2 := Lib.hid hP.two
      replace HT1 := Lib.hid hK
      replace HZ := Lib.hid hO
      clear hP hK hO hk1 hwe2 r0 r1 r2 r3 r4 r5 q0 q1 q2 q3 q4 q5 x0 x1 x2 x3 x4 x5 x6 x7 x8 x9
      have x0 := cell_of H2.out.arg 0
      have x1 := cell_of H2.out.arg 1
      have x2 := cell_of H2.out.arg 2
      have x3 := cell_of H2.out.arg 3
      have x4 := cell_of H2.out.arg 4
      have x5 := cell_of H2.out.arg 5
      have x6 := cell_of H2.out.arg 6
      have x7 := cell_of H2.out.arg 7
      have x8 := cell_of H2.out.arg 8
      have x9 := cell_of H2.out.arg 9
      simp only [List.getElem?_toArray, List.getElem?_cons_zero, List.getElem?_cons_succ] at x0 x1 x2 x3 x4 x5 x6 x7 x8 x9
      obtain ⟨r0, r1, r2, r3, r4, r5⟩ := five HZ.out.at_
      obtain ⟨q0, q1, q2, q3, q4, q5⟩ := five HY.out.at_
      go_wp2_with fail
      refine (HSF.out _ _ _ _ _ _ _ HT1.out.lie HN.out.lie).mono ?_
      rintro e w' ⟨k6, d6, G6, rfl, hl, hf, hb⟩
      obtain ⟨⟨a7, b7, rfl⟩, ⟨a8, b8, rfl⟩⟩ := hl.slices
      have HL := Lib.hid (res_keep H2.out hl hf (Nat.le_refl _))
      replace H2 := Lib.hid (H2.out.next hb)
      clear hl hf hb
      obtain ⟨s0, s1, s2, s3, s4, s5⟩ := five H2.out.res
      have HF := res_fin H2.out HL.out
      go_wp2
      exact bodyPost_ret (ret_node Tryz.results61 rfl HF.1) rfl ⟨_, _, _, rfl, HF.2.1, HF.2.2.1, HF.2.2.2⟩
end Go.Proofs.YtelpkcbbipianaaGreat

/- the model's PlainTree of an order that is right: its tree, in memory of its own; of others the zero node; no condition. -/
namespace Go.Proofs.YtelpkcbbipianaaGreat
open Go Go.RowKit

set_option maxRecDepth 100000 in
set_option maxHeartbeats 1600000 in
theorem spec_plainTree_no {O : Ord} {mv nv : Value} {FM FN : List Nat} (w : World) (ho : OrdAt w O mv nv FM FN) (hc : O.okB = false) :
    Calls Tryz.prog 61 #[.agg #[.string O.name, .string O.target, .int .i64 O.low, .int .i64 O.high, mv, .int .i64 O.pace.up, .int .i64 O.pace.down, .int .i64 O.pace.ups, .int .i64 O.pace.downs, nv]] w fun e w' => e = .returned (.agg #[.int .i64 0, .int .i64 0, .string ⟨#[]⟩, .slice none 0 0, .slice none 0 0]) ∧ Below w.heap.size w w' := by
  have HO := Lib.hid fun wr (hb : Below w.heap.size w wr) => spec_orderOk wr (ho.stay hb (Nat.le_refl _))
  obtain ⟨⟨om, cm, rfl⟩, on_, cn, rfl⟩ := ho.slices
  clear ho
  have H2 := Lib.hid (Two.start w (.cells #[.string O.name, .string O.target, .int .i64 O.low, .int .i64 O.high, .slice om O.mets.length cm, .int .i64 O.pace.up, .int .i64 O.pace.down, .int .i64 O.pace.ups, .int .i64 O.pace.downs, .slice on_ O.notes.length cn] 66) (.cells #[.int .i64 0, .int .i64 0, .string ⟨#[]⟩, .slice none 0 0, .slice none 0 0] 27))
  go_enter Tryz.func61, Tryz.ntmps61
  go_wp2_with (first
    | (go_at_call 71; refine (HO.out _ H2.out.below).mono ?_; rintro e w1 ⟨rfl, hb⟩; rw [hc]; replace H2 := Lib.hid (H2.out.next hb); clear hb; obtain ⟨r0, r1, r2, r3, r4, r5⟩ := five H2.out.res)
    | fail)
  exact bodyPost_ret (ret_node Tryz.results61 rfl (set5_end H2.out.res _ _ _ _ _)) rfl ⟨rfl, set5_below H2.out.below (by omega) _ _ _ _ _ _⟩

theorem spec_plainTree_yes {O : Ord} {mv nv : Value} {FM FN : List Nat} (w : World) (ho : OrdAt w O mv nv FM FN) (hc : O.okB = true) :
    Calls Tryz.prog 61 #[.agg #[.string O.name, .string O.target, .int .i64 O.low, .int .i64 O.high, mv, .int .i64 O.pace.up, .int .i64 O.pace.down, .int .i64 O.pace.ups, .int .i64 O.pace.downs, nv]] w fun e w' => ∃ kv dv F, e = .returned (.agg #[.int .i64 (plainT O).k, .int .i64 (plainT O).n, .string (plainT O).s, kv, dv]) ∧ Lies w' (plainT O) kv dv F ∧ Fresh w w' F ∧ Below w.heap.size w w' := by
  cases h1 : shareB O.mets <;> cases h2 : (othersM O.mets).isEmpty
  · exact spec_plainTNY w ho hc h1 h2
  · exact spec_plainTNN w ho hc h1 h2
  · exact spec_plainTYY w ho hc h1 h2
  · exact spec_plainTYN w ho hc h1 h2
end Go.Proofs.YtelpkcbbipianaaGreat

/- the model's Shape: an order's tree in the shape of that number, in memory of its own, of other numbers the zero node; no condition. -/
namespace Go.Proofs.YtelpkcbbipianaaGreat
open Go Go.RowKit

/-- What FullTree answers. -/
noncomputable def drT (O : Ord) : RT := if O.okB = true then fullT O else .node 0 0 ⟨#[]⟩ [] []

theorem dr_sz {O : Ord} (hp : O.pace.ok) (hg : ∀ m ∈ O.mets, m.ok) : (drT O).sz ≤ 10000 := by
  unfold drT
  split
  · rename_i h
    have a := mets_sz h hg
    have b := notes_sz h
    have c := head_sz h ⟨#[102, 117, 108, 108]⟩ (by decide)
    have d := pacT_sz O.pace hp
    have e := full_sets O
    have z1 := setT_sz (headT ⟨#[102, 117, 108, 108]⟩ O) (metsT O.mets) ⟨#[109, 101, 116, 114, 105, 99, 115]⟩
    have z2 := setT_sz (setT (headT ⟨#[102, 117, 108, 108]⟩ O) ⟨#[109, 101, 116, 114, 105, 99, 115]⟩ (metsT O.mets)) (pacT O.pace) ⟨#[112, 97, 99, 101]⟩
    have z3 := setT_sz (setT (setT (headT ⟨#[102, 117, 108, 108]⟩ O) ⟨#[109, 101, 116, 114, 105, 99, 115]⟩ (metsT O.mets)) ⟨#[112, 97, 99, 101]⟩ (pacT O.pace)) (notesT O.notes) ⟨#[110, 111, 116, 101, 115]⟩
    have k1 : (⟨#[109, 101, 116, 114, 105, 99, 115]⟩ : ByteArray).size = 7 := rfl
    have k2 : (⟨#[112, 97, 99, 101]⟩ : ByteArray).size = 4 := rfl
    have k3 : (⟨#[110, 111, 116, 101, 115]⟩ : ByteArray).size = 5 := rfl
    rw [e] at z3
    omega
  · have k : (⟨#[]⟩ : ByteArray).size = 0 := rfl
    simp only [RT.sz, szAll, strSz, k, List.length_nil, List.map_nil, List.sum_nil]
    omega

theorem d_spec_full {O : Ord} {mv nv : Value} {FM FN : List Nat} (w : World) (ho : OrdAt w O mv nv FM FN) :
    Calls Tryz.prog 59 #[.agg #[.string O.name, .string O.target, .int .i64 O.low, .int .i64 O.high, mv, .int .i64 O.pace.up, .int .i64 O.pace.down, .int .i64 O.pace.ups, .int .i64 O.pace.downs, nv]] w fun e w' => ∃ kv dv F, e = .returned (.agg #[.int .i64 (drT O).k, .int .i64 (drT O).n, .string (drT O).s, kv, dv]) ∧ Lies w' (drT O) kv dv F ∧ Fresh w w' F ∧ Below w.heap.size w w' := by
  by_cases hc : O.okB = true
  · have e : drT O = fullT O := if_pos hc
    rw [e]
    exact spec_fullTree_yes w ho hc
  · have e : drT O = .node 0 0 ⟨#[]⟩ [] [] := if_neg hc
    rw [e]
    refine (spec_fullTree_no w ho (by simpa using hc)).mono ?_
    rintro e w' ⟨rfl, hb⟩
    exact ⟨_, _, [], rfl, leaf_lies w' ⟨by decide, by decide⟩ ⟨by decide, by decide⟩ (by decide), Fresh.nil _ _, hb⟩

/-- What MidTree answers. -/
noncomputable def drM (O : Ord) : RT := if O.okB = true then midT O else .node 0 0 ⟨#[]⟩ [] []

theorem drM_sz {O : Ord} (hg : ∀ m ∈ O.mets, m.ok) : (drM O).sz ≤ 500000 := by
  unfold drM
  split
  · rename_i h
    have a := saved_sz h
    have b := midB_sz h hg (savedT O)
    unfold midT
    omega
  · have k : (⟨#[]⟩ : ByteArray).size = 0 := rfl
    simp only [RT.sz, szAll, strSz, k, List.length_nil, List.map_nil, List.sum_nil]
    omega

theorem d_spec_mid {O : Ord} {mv nv : Value} {FM FN : List Nat} (w : World) (ho : OrdAt w O mv nv FM FN) :
    Calls Tryz.prog 60 #[.agg #[.string O.name, .string O.target, .int .i64 O.low, .int .i64 O.high, mv, .int .i64 O.pace.up, .int .i64 O.pace.down, .int .i64 O.pace.ups, .int .i64 O.pace.downs, nv]] w fun e w' => ∃ kv dv F, e = .returned (.agg #[.int .i64 (drM O).k, .int .i64 (drM O).n, .string (drM O).s, kv, dv]) ∧ Lies w' (drM O) kv dv F ∧ Fresh w w' F ∧ Below w.heap.size w w' := by
  by_cases hc : O.okB = true
  · have e : drM O = midT O := if_pos hc
    rw [e]
    exact spec_midTree_yes w ho hc
  · have e : drM O = .node 0 0 ⟨#[]⟩ [] [] := if_neg hc
    rw [e]
    refine (spec_midTree_no w ho (by simpa using hc)).mono ?_
    rintro e w' ⟨rfl, hb⟩
    exact ⟨_, _, [], rfl, leaf_lies w' ⟨by decide, by decide⟩ ⟨by decide, by decide⟩ (by decide), Fresh.nil _ _, hb⟩

/-- What PlainTree answers. -/
noncomputable def drP (O : Ord) : RT := if O.okB = true then plainT O else .node 0 0 ⟨#[]⟩ [] []

theorem drP_sz {O : Ord} : (drP O).sz ≤ 1000000 := by
  unfold drP
  split
  · rename_i h
    have a := plainT_sz h
    omega
  · have k : (⟨#[]⟩ : ByteArray).size = 0 := rfl
    simp only [RT.sz, szAll, strSz, k, List.length_nil, List.map_nil, List.sum_nil]
    omega

theorem d_spec_plain_ {O : Ord} {mv nv : Value} {FM FN : List Nat} (w : World) (ho : OrdAt w O mv nv FM FN) :
    Calls Tryz.prog 61 #[.agg #[.string O.name, .string O.target, .int .i64 O.low, .int .i64 O.high, mv, .int .i64 O.pace.up, .int .i64 O.pace.down, .int .i64 O.pace.ups, .int .i64 O.pace.downs, nv]] w fun e w' => ∃ kv dv F, e = .returned (.agg #[.int .i64 (drP O).k, .int .i64 (drP O).n, .string (drP O).s, kv, dv]) ∧ Lies w' (drP O) kv dv F ∧ Fresh w w' F ∧ Below w.heap.size w w' := by
  by_cases hc : O.okB = true
  · have e : drP O = plainT O := if_pos hc
    rw [e]
    exact spec_plainTree_yes w ho hc
  · have e : drP O = .node 0 0 ⟨#[]⟩ [] [] := if_neg hc
    rw [e]
    refine (spec_plainTree_no w ho (by simpa using hc)).mono ?_
    rintro e w' ⟨rfl, hb⟩
    exact ⟨_, _, [], rfl, leaf_lies w' ⟨by decide, by decide⟩ ⟨by decide, by decide⟩ (by decide), Fresh.nil _ _, hb⟩

/-- What Shape answers. -/
noncomputable def drS (O : Ord) (n : Int) : RT := if n = 0 then drT O else if n = 1 then drM O else if n = 2 then drP O else .node 0 0 ⟨#[]⟩ [] []

theorem drS_sz {O : Ord} (n : Int) (hp : O.pace.ok) (hg : ∀ m ∈ O.mets, m.ok) : (drS O n).sz ≤ 1000000 := by
  unfold drS
  split
  · have := dr_sz hp hg; omega
  split
  · have := drM_sz hg; omega
  split
  · exact drP_sz
  · have k : (⟨#[]⟩ : ByteArray).size = 0 := rfl
    simp only [RT.sz, szAll, strSz, k, List.length_nil, List.map_nil, List.sum_nil]
    omega

set_option maxRecDepth 100000 in
set_option maxHeartbeats 1600000 in
theorem d_spec_shape0 {O : Ord} {mv nv : Value} {FM FN : List Nat} (w : World) (ho : OrdAt w O mv nv FM FN) :
    Calls Tryz.prog 37 #[.agg #[.string O.name, .string O.target, .int .i64 O.low, .int .i64 O.high, mv, .int .i64 O.pace.up, .int .i64 O.pace.down, .int .i64 O.pace.ups, .int .i64 O.pace.downs, nv], .int .i64 0] w fun e w' => ∃ kv dv F, e = .returned (.agg #[.int .i64 (drT O).k, .int .i64 (drT O).n, .string (drT O).s, kv, dv]) ∧ Lies w' (drT O) kv dv F ∧ Fresh w w' F ∧ Below w.heap.size w w' := by
  have HTr : Hid (∀ wr, Below w.heap.size w wr → Calls Tryz.prog 59 #[.agg #[.string O.name, .string O.target, .int .i64 O.low, .int .i64 O.high, mv, .int .i64 O.pace.up, .int .i64 O.pace.down, .int .i64 O.pace.ups, .int .i64 O.pace.downs, nv]] wr fun e w' => ∃ kv dv F, e = .returned (.agg #[.int .i64 (drT O).k, .int .i64 (drT O).n, .string (drT O).s, kv, dv]) ∧ Lies w' (drT O) kv dv F ∧ Fresh wr w' F ∧ Below wr.heap.size wr w') := fun wr hb => d_spec_full wr (ho.stay hb (Nat.le_refl _))
  obtain ⟨⟨om, cm, rfl⟩, on_, cn, rfl⟩ := ho.slices
  clear ho
  generalize drT O = T at *
  have H2 := Lib.hid (Two.start w (.cells #[.string O.name, .string O.target, .int .i64 O.low, .int .i64 O.high, .slice om O.mets.length cm, .int .i64 O.pace.up, .int .i64 O.pace.down, .int .i64 O.pace.ups, .int .i64 O.pace.downs, .slice on_ O.notes.length cn] 66) (.cells #[.int .i64 0, .int .i64 0, .string ⟨#[]⟩, .slice none 0 0, .slice none 0 0] 27))
  go_enter Tryz.func37, Tryz.ntmps37
  go_wp2_with (first
    | (go_at_call 59; refine (HTr.out _ H2.out.below).mono ?_; rintro e w2 ⟨kv, dv, F, rfl, hl, hf, hb⟩; obtain ⟨⟨a1, b1, rfl⟩, ⟨a2, b2, rfl⟩⟩ := hl.slices; have HL := Lib.hid (res_keep H2.out hl hf (Nat.le_refl _)); clear hl hf; replace H2 := Lib.hid (H2.out.next hb); clear hb; obtain ⟨s0, s1, s2, s3, s4, s5⟩ := five H2.out.res)
    | fail)
  have HF := res_fin H2.out HL.out
  exact bodyPost_ret (ret_node Tryz.results37 rfl HF.1) rfl ⟨_, _, _, rfl, HF.2.1, HF.2.2.1, HF.2.2.2⟩

set_option maxRecDepth 100000 in
set_option maxHeartbeats 1600000 in
theorem d_spec_shape1 {O : Ord} {mv nv : Value} {FM FN : List Nat} (w : World) (ho : OrdAt w O mv nv FM FN) :
    Calls Tryz.prog 37 #[.agg #[.string O.name, .string O.target, .int .i64 O.low, .int .i64 O.high, mv, .int .i64 O.pace.up, .int .i64 O.pace.down, .int .i64 O.pace.ups, .int .i64 O.pace.downs, nv], .int .i64 1] w fun e w' => ∃ kv dv F, e = .returned (.agg #[.int .i64 (drM O).k, .int .i64 (drM O).n, .string (drM O).s, kv, dv]) ∧ Lies w' (drM O) kv dv F ∧ Fresh w w' F ∧ Below w.heap.size w w' := by
  have HTr : Hid (∀ wr, Below w.heap.size w wr → Calls Tryz.prog 60 #[.agg #[.string O.name, .string O.target, .int .i64 O.low, .int .i64 O.high, mv, .int .i64 O.pace.up, .int .i64 O.pace.down, .int .i64 O.pace.ups, .int .i64 O.pace.downs, nv]] wr fun e w' => ∃ kv dv F, e = .returned (.agg #[.int .i64 (drM O).k, .int .i64 (drM O).n, .string (drM O).s, kv, dv]) ∧ Lies w' (drM O) kv dv F ∧ Fresh wr w' F ∧ Below wr.heap.size wr w') := fun wr hb => d_spec_mid wr (ho.stay hb (Nat.le_refl _))
  obtain ⟨⟨om, cm, rfl⟩, on_, cn, rfl⟩ := ho.slices
  clear ho
  generalize drM O = T at *
  have H2 := Lib.hid (Two.start w (.cells #[.string O.name, .string O.target, .int .i64 O.low, .int .i64 O.high, .slice om O.mets.length cm, .int .i64 O.pace.up, .int .i64 O.pace.down, .int .i64 O.pace.ups, .int .i64 O.pace.downs, .slice on_ O.notes.length cn] 66) (.cells #[.int .i64 0, .int .i64 0, .string ⟨#[]⟩, .slice none 0 0, .slice none 0 0] 27))
  go_enter Tryz.func37, Tryz.ntmps37
  go_wp2_with (first
    | (go_at_call 60; refine (HTr.out _ H2.out.below).mono ?_; rintro e w2 ⟨kv, dv, F, rfl, hl, hf, hb⟩; obtain ⟨⟨a1, b1, rfl⟩, ⟨a2, b2, rfl⟩⟩ := hl.slices; have HL := Lib.hid (res_keep H2.out hl hf (Nat.le_refl _)); clear hl hf; replace H2 := Lib.hid (H2.out.next hb); clear hb; obtain ⟨s0, s1, s2, s3, s4, s5⟩ := five H2.out.res)
    | fail)
  have HF := res_fin H2.out HL.out
  exact bodyPost_ret (ret_node Tryz.results37 rfl HF.1) rfl ⟨_, _, _, rfl, HF.2.1, HF.2.2.1, HF.2.2.2⟩

set_option maxRecDepth 100000 in
set_option maxHeartbeats 1600000 in
theorem d_spec_shape2 {O : Ord} {mv nv : Value} {FM FN : List Nat} (w : World) (ho : OrdAt w O mv nv FM FN) :
    Calls Tryz.prog 37 #[.agg #[.string O.name, .string O.target, .int .i64 O.low, .int .i64 O.high, mv, .int .i64 O.pace.up, .int .i64 O.pace.down, .int .i64 O.pace.ups, .int .i64 O.pace.downs, nv], .int .i64 2] w fun e w' => ∃ kv dv F, e = .returned (.agg #[.int .i64 (drP O).k, .int .i64 (drP O).n, .string (drP O).s, kv, dv]) ∧ Lies w' (drP O) kv dv F ∧ Fresh w w' F ∧ Below w.heap.size w w' := by
  have HTr : Hid (∀ wr, Below w.heap.size w wr → Calls Tryz.prog 61 #[.agg #[.string O.name, .string O.target, .int .i64 O.low, .int .i64 O.high, mv, .int .i64 O.pace.up, .int .i64 O.pace.down, .int .i64 O.pace.ups, .int .i64 O.pace.downs, nv]] wr fun e w' => ∃ kv dv F, e = .returned (.agg #[.int .i64 (drP O).k, .int .i64 (drP O).n, .string (drP O).s, kv, dv]) ∧ Lies w' (drP O) kv dv F ∧ Fresh wr w' F ∧ Below wr.heap.size wr w') := fun wr hb => d_spec_plain_ wr (ho.stay hb (Nat.le_refl _))
  obtain ⟨⟨om, cm, rfl⟩, on_, cn, rfl⟩ := ho.slices
  clear ho
  generalize drP O = T at *
  have H2 := Lib.hid (Two.start w (.cells #[.string O.name, .string O.target, .int .i64 O.low, .int .i64 O.high, .slice om O.mets.length cm, .int .i64 O.pace.up, .int .i64 O.pace.down, .int .i64 O.pace.ups, .int .i64 O.pace.downs, .slice on_ O.notes.length cn] 66) (.cells #[.int .i64 0, .int .i64 0, .string ⟨#[]⟩, .slice none 0 0, .slice none 0 0] 27))
  go_enter Tryz.func37, Tryz.ntmps37
  go_wp2_with (first
    | (go_at_call 61; refine (HTr.out _ H2.out.below).mono ?_; rintro e w2 ⟨kv, dv, F, rfl, hl, hf, hb⟩; obtain ⟨⟨a1, b1, rfl⟩, ⟨a2, b2, rfl⟩⟩ := hl.slices; have HL := Lib.hid (res_keep H2.out hl hf (Nat.le_refl _)); clear hl hf; replace H2 := Lib.hid (H2.out.next hb); clear hb; obtain ⟨s0, s1, s2, s3, s4, s5⟩ := five H2.out.res)
    | fail)
  have HF := res_fin H2.out HL.out
  exact bodyPost_ret (ret_node Tryz.results37 rfl HF.1) rfl ⟨_, _, _, rfl, HF.2.1, HF.2.2.1, HF.2.2.2⟩

set_option maxRecDepth 100000 in
set_option maxHeartbeats 1600000 in
theorem d_spec_shapeNo {O : Ord} {mv nv : Value} {FM FN : List Nat} (n : Int) (h0 : ¬ n = 0) (h1 : ¬ n = 1) (h2 : ¬ n = 2) (w : World) (ho : OrdAt w O mv nv FM FN) :
    Calls Tryz.prog 37 #[.agg #[.string O.name, .string O.target, .int .i64 O.low, .int .i64 O.high, mv, .int .i64 O.pace.up, .int .i64 O.pace.down, .int .i64 O.pace.ups, .int .i64 O.pace.downs, nv], .int .i64 n] w fun e w' => e = .returned (.agg #[.int .i64 0, .int .i64 0, .string ⟨#[]⟩, .slice none 0 0, .slice none 0 0]) ∧ Below w.heap.size w w' := by
  obtain ⟨⟨om, cm, rfl⟩, on_, cn, rfl⟩ := ho.slices
  clear ho
  have H2 := Lib.hid (Two.start w (.cells #[.string O.name, .string O.target, .int .i64 O.low, .int .i64 O.high, .slice om O.mets.length cm, .int .i64 O.pace.up, .int .i64 O.pace.down, .int .i64 O.pace.ups, .int .i64 O.pace.downs, .slice on_ O.notes.length cn] 66) (.cells #[.int .i64 0, .int .i64 0, .string ⟨#[]⟩, .slice none 0 0, .slice none 0 0] 27))
  go_enter Tryz.func37, Tryz.ntmps37
  go_wp2
  exact bodyPost_ret (ret_node Tryz.results37 rfl H2.out.res) rfl ⟨rfl, H2.out.below⟩

theorem d_spec_shape {O : Ord} {mv nv : Value} {FM FN : List Nat} (n : Int) (w : World) (ho : OrdAt w O mv nv FM FN) :
    Calls Tryz.prog 37 #[.agg #[.string O.name, .string O.target, .int .i64 O.low, .int .i64 O.high, mv, .int .i64 O.pace.up, .int .i64 O.pace.down, .int .i64 O.pace.ups, .int .i64 O.pace.downs, nv], .int .i64 n] w fun e w' => ∃ kv dv F, e = .returned (.agg #[.int .i64 (drS O n).k, .int .i64 (drS O n).n, .string (drS O n).s, kv, dv]) ∧ Lies w' (drS O n) kv dv F ∧ Fresh w w' F ∧ Below w.heap.size w w' := by
  unfold drS
  by_cases h0 : n = 0
  · rw [if_pos h0]; subst h0; exact d_spec_shape0 w ho
  rw [if_neg h0]
  by_cases h1 : n = 1
  · rw [if_pos h1]; subst h1; exact d_spec_shape1 w ho
  rw [if_neg h1]
  by_cases h2 : n = 2
  · rw [if_pos h2]; subst h2; exact d_spec_shape2 w ho
  rw [if_neg h2]
  refine (d_spec_shapeNo n h0 h1 h2 w ho).mono ?_
  rintro e w' ⟨rfl, hb⟩
  exact ⟨_, _, [], rfl, leaf_lies w' ⟨by decide, by decide⟩ ⟨by decide, by decide⟩ (by decide), Fresh.nil _ _, hb⟩
end Go.Proofs.YtelpkcbbipianaaGreat
