/-
  What is proved: the model's l8Saved and MidTree of an order that is right: its trees, in memory of their own; no condition.; the model's MidTree of an order that is right: its tree, in memory of its own; of others the zero node; no condition.
-/
import Derived.Test.YtelpkcbbipianaaGreatPartAS
import Derived.Test.YtelpkcbbipianaaGreatPartAK
import Derived.Test.YtelpkcbbipianaaGreatPartAN
import Derived.Test.YtelpkcbbipianaaGreatPartAE
/- the model's l8Saved and MidTree of an order that is right: its trees, in memory of their own; no condition. -/
namespace Go.Proofs.YtelpkcbbipianaaGreat
open Go Go.RowKit

/-- A tree that a function laid itself, as what it answers. -/
theorem kid_fin {w W : World} {a : Obj} {zs : Array Value} {T : RT} {kr dr : Value} {G : List Nat} {lo hi : Nat} (_ : Two w W a (.cells zs 27)) (hl : KidAt W T kr dr G lo hi) (hlo : w.heap.size + 2 ≤ lo) : Lies W T kr dr G ∧ Fresh w W G ∧ ∀ x ∈ G, w.heap.size + 2 ≤ x :=
  ⟨hl.lie, ⟨hl.nodup, fun x hx => by have := hl.span x hx; omega, hl.free⟩, fun x hx => by have := hl.span x hx; omega⟩

set_option maxRecDepth 100000 in
set_option maxHeartbeats 8000000 in
theorem spec_l8Saved {O : Ord} {mv nv : Value} {FM FN : List Nat} (w : World) (ho : OrdAt w O mv nv FM FN) (hc : O.okB = true) :
    Calls Tryz.prog 76 #[.agg #[.string O.name, .string O.target, .int .i64 O.low, .int .i64 O.high, mv, .int .i64 O.pace.up, .int .i64 O.pace.down, .int .i64 O.pace.ups, .int .i64 O.pace.downs, nv]] w fun e w' => ∃ kv dv F, e = .returned (.agg #[.int .i64 (savedT O).k, .int .i64 (savedT O).n, .string (savedT O).s, kv, dv]) ∧ Lies w' (savedT O) kv dv F ∧ Fresh w w' F ∧ Below w.heap.size w w' := by
  obtain ⟨-, -, -, hs1, hs2, hs3⟩ := okB_out hc
  have hnz := notes_sz hc
  have hpz := pacT_sz O.pace ho.pace
  have hbz := bracT_size (pacT O.pace)
  have HNs : Hid (∀ wr, Below w.heap.size w wr → Calls Tryz.prog 75 #[nv] wr fun e w' => ∃ kv dv G, e = .returned (.agg #[.int .i64 (notesT O.notes).k, .int .i64 (notesT O.notes).n, .string (notesT O.notes).s, kv, dv]) ∧ Lies w' (notesT O.notes) kv dv G ∧ Fresh wr w' G ∧ Below wr.heap.size wr w') := fun wr hb => spec_l7Notes wr (RowAt.stay ho.notes (by decide) hb (Nat.le_refl _)) (by omega) hs3 (by omega)
  have HPs : Hid (∀ W, Calls Tryz.prog 74 #[.agg #[.int .i64 O.pace.up, .int .i64 O.pace.down, .int .i64 O.pace.ups, .int .i64 O.pace.downs]] W fun e w' => ∃ kv dv F, e = .returned (.agg #[.int .i64 5, .int .i64 0, .string ⟨#[]⟩, kv, dv]) ∧ Lies w' (pacT O.pace) kv dv F ∧ Fresh W w' F ∧ Below W.heap.size W w') := fun W => spec_paceTree _ _ _ _ ho.pace.1 ho.pace.2.1 ho.pace.2.2.1 ho.pace.2.2.2 W
  have HBr : Hid (∀ W kv dv F, Lies W (pacT O.pace) kv dv F → Calls Tryz.prog 79 #[.agg #[.int .i64 5, .int .i64 0, .string ⟨#[]⟩, kv, dv]] W fun e w' => e = .returned (.string (bracT (pacT O.pace))) ∧ Below W.heap.size W w') := fun W kv dv F hl => spec_braced (pacT O.pace) W kv dv F hl (by omega)
  have hLeaf : ∀ W : World, Lies W (.node 3 0 (bracT (pacT O.pace)) [] []) (.slice none 0 0) (.slice none 0 0) [] := fun W => leaf_lies W ⟨by decide, by decide⟩ ⟨by decide, by decide⟩ (by unfold maxLen; omega)
  have HLeaf := Lib.hid hLeaf
  have hXz : (RT.node 3 0 (bracT (pacT O.pace)) [] []).sz ≤ 4000000 := by simp [RT.sz, szAll, strSz]; omega
  have hE : ∀ W, (binOp .neq 63 (.agg #[.int .i64 O.pace.up, .int .i64 O.pace.down, .int .i64 O.pace.ups, .int .i64 O.pace.downs]) (.agg #[.int .i64 0, .int .i64 0, .int .i64 0, .int .i64 300])).run Tryz.prog W = .ok (.bool (!sameO O.pace newP)) W := fun W => neq_pac O.pace newP W
  have HS1 : Hid (∀ X kv dv G kx dx G', Lies X (notesT O.notes) kv dv G → Lies X (.node 3 0 (bracT (pacT O.pace)) [] []) kx dx G' → Calls Tryz.prog 40 #[.agg #[.int .i64 (notesT O.notes).k, .int .i64 (notesT O.notes).n, .string (notesT O.notes).s, kv, dv], .string ⟨#[113, 117, 97, 121, 47, 112, 97, 99, 101]⟩, .agg #[.int .i64 3, .int .i64 0, .string (bracT (pacT O.pace)), kx, dx]] X fun e w' => ∃ kr dr F, e = .returned (.agg #[.int .i64 (setT (notesT O.notes) ⟨#[113, 117, 97, 121, 47, 112, 97, 99, 101]⟩ (.node 3 0 (bracT (pacT O.pace)) [] [])).k, .int .i64 (setT (notesT O.notes) ⟨#[113, 117, 97, 121, 47, 112, 97, 99, 101]⟩ (.node 3 0 (bracT (pacT O.pace)) [] [])).n, .string (setT (notesT O.notes) ⟨#[113, 117, 97, 121, 47, 112, 97, 99, 101]⟩ (.node 3 0 (bracT (pacT O.pace)) [] [])).s, kr, dr]) ∧ Lies w' (setT (notesT O.notes) ⟨#[113, 117, 97, 121, 47, 112, 97, 99, 101]⟩ (.node 3 0 (bracT (pacT O.pace)) [] [])) kr dr F ∧ Fresh X w' F ∧ Below X.heap.size X w') := fun X kv dv G kx dx G' hl hx => spec_set (notesT O.notes) (.node 3 0 (bracT (pacT O.pace)) [] []) ⟨#[113, 117, 97, 121, 47, 112, 97, 99, 101]⟩ X kv dv kx dx G G' hl hx (by omega) hXz (by decide)
  obtain ⟨⟨om, cm, rfl⟩, on_, cn, rfl⟩ := ho.slices
  clear ho hs1 hs2 hs3 hbz hpz hnz hLeaf hXz
  have H2 := Lib.hid (Two.start w (.cells #[.string O.name, .string O.target, .int .i64 O.low, .int .i64 O.high, .slice om O.mets.length cm, .int .i64 O.pace.up, .int .i64 O.pace.down, .int .i64 O.pace.ups, .int .i64 O.pace.downs, .slice on_ O.notes.length cn] 66) (.cells #[.int .i64 0, .int .i64 0, .string ⟨#[]⟩, .slice none 0 0, .slice none 0 0] 27))
  by_cases hnew : sameO O.pace newP = true
  · have hR : savedT O = notesT O.notes := if_pos hnew
    rw [hR]
    rw [hnew] at hE
    simp only [Bool.not_true] at hE
    clear HS1 HBr HPs hnew hR
    generalize notesT O.notes = T at *
    go_enter Tryz.func76, Tryz.ntmps76
    go_wp2_with (first
      | (go_at_call 75; refine (HNs.out _ H2.out.below).mono ?_; rintro e w' ⟨kn, dn, GN, rfl, hl, hf, hb⟩; obtain ⟨⟨a1, b1, rfl⟩, ⟨a2, b2, rfl⟩⟩ := hl.slices; have HT1 := Lib.hid (kid_at0 H2.out hl hf rfl); have HLo := Lib.hid H2.out.size; clear hl hf; replace H2 := Lib.hid (H2.out.next hb); clear hb)
      | fail)
    have HZ : Hid (One w (w'.alloc (.cells #[.int .i64 T.k, .int .i64 T.n, .string T.s, .slice a1 T.keys.length b1, .slice a2 T.kids.length b2] 27)) w'.heap.size (.cells #[.int .i64 T.k, .int .i64 T.n, .string T.s, .slice a1 T.keys.length b1, .slice a2 T.kids.length b2] 27)) := ⟨heap_last w' _, H2.out.size⟩
    replace HT1 := Lib.hid (HT1.out.next ((Below.refl _ w').alloc (Nat.le_refl _) (.cells #[.int .i64 T.k, .int .i64 T.n, .string T.s, .slice a1 T.keys.length b1, .slice a2 T.kids.length b2] 27)))
    replace H2 := Lib.hid (H2.out.next ((Below.refl _ w').alloc (Nat.le_refl _) (.cells #[.int .i64 T.k, .int .i64 T.n, .string T.s, .slice a1 T.keys.length b1, .slice a2 T.kids.length b2] 27)))
    generalize w'.alloc (.cells #[.int .i64 T.k, .int .i64 T.n, .string T.s, .slice a1 T.keys.length b1, .slice a2 T.kids.length b2] 27) = wc at *
    generalize w'.heap.size = bt at *
    have HSz : Hid (w.heap.size + 2 ≤ wc.heap.size) := H2.out.size
    have hn3 := one_ne HZ.out
    have hn4 := one_ne' HZ.out
    have hn5 : ¬ w.heap.size + 1 = bt := by have := HZ.out.old; omega
    have hn6 : ¬ bt = w.heap.size + 1 := by have := HZ.out.old; omega
    have x0 := cell_of H2.out.arg 0
    have x1 := cell_of H2.out.arg 1
    have x2 := cell_of H2.out.arg 2
    have x3 := cell_of H2.out.arg 3
    have x4 := cell_of H2.out.arg 4
    have x5 := cell_of H2.out.arg 5
    have x6 := cell_of H2.out.arg 6
    have x7 := cell_of H2.out.arg 7
    have x8 := cell_of H2.out.arg 8
    have x9 := cell_of H2.out.arg 9
    simp only [List.getElem?_toArray, List.getElem?_cons_zero, List.getElem?_cons_succ] at x0 x1 x2 x3 x4 x5 x6 x7 x8 x9
    obtain ⟨r0, r1, r2, r3, r4, r5⟩ := five HZ.out.at_
    go_region_held3 (fun w' => w'.cell? ⟨w.heap.size, 0, none⟩ = some (.string O.name) ∧ w'.cell? ⟨w.heap.size, 1, none⟩ = some (.string O.target) ∧ w'.cell? ⟨w.heap.size, 2, none⟩ = some (.int .i64 O.low) ∧ w'.cell? ⟨w.heap.size, 3, none⟩ = some (.int .i64 O.high) ∧ w'.cell? ⟨w.heap.size, 4, none⟩ = some (.slice om O.mets.length cm) ∧ w'.cell? ⟨w.heap.size, 5, none⟩ = some (.int .i64 O.pace.up) ∧ w'.cell? ⟨w.heap.size, 6, none⟩ = some (.int .i64 O.pace.down) ∧ w'.cell? ⟨w.heap.size, 7, none⟩ = some (.int .i64 O.pace.ups) ∧ w'.cell? ⟨w.heap.size, 8, none⟩ = some (.int .i64 O.pace.downs) ∧ w'.cell? ⟨w.heap.size, 9, none⟩ = some (.slice on_ O.notes.length cn)) (go_keep)
      (first
        | (go_at_call 80; refine (spec_paceNew _).mono ?_; rintro e w' ⟨rfl, hb⟩; (first | (have hq := stepA H2.out hb; have hw := hq.2; replace H2 := Lib.hid hq.1; replace HSz := Lib.hid (And.intro HSz.out hw.size); clear hq) | (have hq := stepB H2.out hb; have hw := hq.2; replace H2 := Lib.hid hq.1; replace HSz := Lib.hid (And.intro HSz.out hw.size); clear hq) | (have hq := stepC H2.out hb (by simp); have hw := hq.2.1; have HZ := Lib.hid hq.2.2.1; replace H2 := Lib.hid hq.1; replace HSz := Lib.hid (And.intro HSz.out hq.2.2.2); clear hq) | (have hq := stepD H2.out hb; have hw := hq.2.1; have HZ := Lib.hid hq.2.2.1; replace H2 := Lib.hid hq.1; replace HSz := Lib.hid (And.intro HSz.out hq.2.2.2); clear hq)); (try replace HZ := Lib.hid (HZ.out.next hw)); (try replace HT1 := Lib.hid (HT1.out.next hw)); (try replace HPt := Lib.hid (HPt.out.next hw)); (try replace HTx := Lib.hid (HTx.out.next hw)); clear hw hb; clear x0 x1 x2 x3 x4 x5 x6 x7 x8 x9; have x0 := cell_of H2.out.arg 0; have x1 := cell_of H2.out.arg 1; have x2 := cell_of H2.out.arg 2; have x3 := cell_of H2.out.arg 3; have x4 := cell_of H2.out.arg 4; have x5 := cell_of H2.out.arg 5; have x6 := cell_of H2.out.arg 6; have x7 := cell_of H2.out.arg 7; have x8 := cell_of H2.out.arg 8; have x9 := cell_of H2.out.arg 9; simp only [List.getElem?_toArray, List.getElem?_cons_zero, List.getElem?_cons_succ] at x0 x1 x2 x3 x4 x5 x6 x7 x8 x9; clear r0 r1 r2 r3 r4 r5; obtain ⟨r0, r1, r2, r3, r4, r5⟩ := five HZ.out.at_))
    all_goals
      obtain ⟨s0, s1, s2, s3, s4, s5⟩ := five H2.out.res
      have HL := Lib.hid (kid_fin H2.out HT1.out HLo.out)
      go_wp2
      have HF := res_fin H2.out HL.out
      exact bodyPost_ret (ret_node Tryz.results76 rfl HF.1) rfl ⟨_, _, _, rfl, HF.2.1, HF.2.2.1, HF.2.2.2⟩
  · have hR : savedT O = setT (notesT O.notes) ⟨#[113, 117, 97, 121, 47, 112, 97, 99, 101]⟩ (.node 3 0 (bracT (pacT O.pace)) [] []) := if_neg hnew
    have hnew' : sameO O.pace newP = false := by simpa using hnew
    rw [hR]
    rw [hnew'] at hE
    simp only [Bool.not_false] at hE
    clear hnew hR hnew'
    generalize setT (notesT O.notes) ⟨#[113, 117, 97, 121, 47, 112, 97, 99, 101]⟩ (.node 3 0 (bracT (pacT O.pace)) [] []) = R at *
    generalize notesT O.notes = T at *
    generalize bracT (pacT O.pace) = BT at *
    go_enter Tryz.func76, Tryz.ntmps76
    go_wp2_with (first
      | (go_at_call 75; refine (HNs.out _ H2.out.below).mono ?_; rintro e w' ⟨kn, dn, GN, rfl, hl, hf, hb⟩; obtain ⟨⟨a1, b1, rfl⟩, ⟨a2, b2, rfl⟩⟩ := hl.slices; have HT1 := Lib.hid (kid_at0 H2.out hl hf rfl); have HLo := Lib.hid H2.out.size; clear hl hf; replace H2 := Lib.hid (H2.out.next hb); clear hb)
      | fail)
    have HZ : Hid (One w (w'.alloc (.cells #[.int .i64 T.k, .int .i64 T.n, .string T.s, .slice a1 T.keys.length b1, .slice a2 T.kids.length b2] 27)) w'.heap.size (.cells #[.int .i64 T.k, .int .i64 T.n, .string T.s, .slice a1 T.keys.length b1, .slice a2 T.kids.length b2] 27)) := ⟨heap_last w' _, H2.out.size⟩
    replace HT1 := Lib.hid (HT1.out.next ((Below.refl _ w').alloc (Nat.le_refl _) (.cells #[.int .i64 T.k, .int .i64 T.n, .string T.s, .slice a1 T.keys.length b1, .slice a2 T.kids.length b2] 27)))
    replace H2 := Lib.hid (H2.out.next ((Below.refl _ w').alloc (Nat.le_refl _) (.cells #[.int .i64 T.k, .int .i64 T.n, .string T.s, .slice a1 T.keys.length b1, .slice a2 T.kids.length b2] 27)))
    generalize w'.alloc (.cells #[.int .i64 T.k, .int .i64 T.n, .string T.s, .slice a1 T.keys.length b1, .slice a2 T.kids.length b2] 27) = wc at *
    generalize w'.heap.size = bt at *
    have HSz : Hid (w.heap.size + 2 ≤ wc.heap.size) := H2.out.size
    have hn3 := one_ne HZ.out
    have hn4 := one_ne' HZ.out
    have hn5 : ¬ w.heap.size + 1 = bt := by have := HZ.out.old; omega
    have hn6 : ¬ bt = w.heap.size + 1 := by have := HZ.out.old; omega
    have x0 := cell_of H2.out.arg 0
    have x1 := cell_of H2.out.arg 1
    have x2 := cell_of H2.out.arg 2
    have x3 := cell_of H2.out.arg 3
    have x4 := cell_of H2.out.arg 4
    have x5 := cell_of H2.out.arg 5
    have x6 := cell_of H2.out.arg 6
    have x7 := cell_of H2.out.arg 7
    have x8 := cell_of H2.out.arg 8
    have x9 := cell_of H2.out.arg 9
    simp only [List.getElem?_toArray, List.getElem?_cons_zero, List.getElem?_cons_succ] at x0 x1 x2 x3 x4 x5 x6 x7 x8 x9
    obtain ⟨r0, r1, r2, r3, r4, r5⟩ := five HZ.out.at_
    go_region_held3 (fun w' => w'.cell? ⟨w.heap.size, 0, none⟩ = some (.string O.name) ∧ w'.cell? ⟨w.heap.size, 1, none⟩ = some (.string O.target) ∧ w'.cell? ⟨w.heap.size, 2, none⟩ = some (.int .i64 O.low) ∧ w'.cell? ⟨w.heap.size, 3, none⟩ = some (.int .i64 O.high) ∧ w'.cell? ⟨w.heap.size, 4, none⟩ = some (.slice om O.mets.length cm) ∧ w'.cell? ⟨w.heap.size, 5, none⟩ = some (.int .i64 O.pace.up) ∧ w'.cell? ⟨w.heap.size, 6, none⟩ = some (.int .i64 O.pace.down) ∧ w'.cell? ⟨w.heap.size, 7, none⟩ = some (.int .i64 O.pace.ups) ∧ w'.cell? ⟨w.heap.size, 8, none⟩ = some (.int .i64 O.pace.downs) ∧ w'.cell? ⟨w.heap.size, 9, none⟩ = some (.slice on_ O.notes.length cn)) (go_keep)
      (first
        | (go_at_call 80; refine (spec_paceNew _).mono ?_; rintro e w' ⟨rfl, hb⟩; (first | (have hq := stepA H2.out hb; have hw := hq.2; replace H2 := Lib.hid hq.1; replace HSz := Lib.hid (And.intro HSz.out hw.size); clear hq) | (have hq := stepB H2.out hb; have hw := hq.2; replace H2 := Lib.hid hq.1; replace HSz := Lib.hid (And.intro HSz.out hw.size); clear hq) | (have hq := stepC H2.out hb (by simp); have hw := hq.2.1; have HZ := Lib.hid hq.2.2.1; replace H2 := Lib.hid hq.1; replace HSz := Lib.hid (And.intro HSz.out hq.2.2.2); clear hq) | (have hq := stepD H2.out hb; have hw := hq.2.1; have HZ := Lib.hid hq.2.2.1; replace H2 := Lib.hid hq.1; replace HSz := Lib.hid (And.intro HSz.out hq.2.2.2); clear hq)); (try replace HZ := Lib.hid (HZ.out.next hw)); (try replace HT1 := Lib.hid (HT1.out.next hw)); (try replace HPt := Lib.hid (HPt.out.next hw)); (try replace HTx := Lib.hid (HTx.out.next hw)); clear hw hb; clear x0 x1 x2 x3 x4 x5 x6 x7 x8 x9; have x0 := cell_of H2.out.arg 0; have x1 := cell_of H2.out.arg 1; have x2 := cell_of H2.out.arg 2; have x3 := cell_of H2.out.arg 3; have x4 := cell_of H2.out.arg 4; have x5 := cell_of H2.out.arg 5; have x6 := cell_of H2.out.arg 6; have x7 := cell_of H2.out.arg 7; have x8 := cell_of H2.out.arg 8; have x9 := cell_of H2.out.arg 9; simp only [List.getElem?_toArray, List.getElem?_cons_zero, List.getElem?_cons_succ] at x0 x1 x2 x3 x4 x5 x6 x7 x8 x9; clear r0 r1 r2 r3 r4 r5; obtain ⟨r0, r1, r2, r3, r4, r5⟩ := five HZ.out.at_))
    all_goals
      go_wp2_with fail
      go_region_held3 (fun w' => w'.cell? ⟨w.heap.size, 0, none⟩ = some (.string O.name) ∧ w'.cell? ⟨w.heap.size, 1, none⟩ = some (.string O.target) ∧ w'.cell? ⟨w.heap.size, 2, none⟩ = some (.int .i64 O.low) ∧ w'.cell? ⟨w.heap.size, 3, none⟩ = some (.int .i64 O.high) ∧ w'.cell? ⟨w.heap.size, 4, none⟩ = some (.slice om O.mets.length cm) ∧ w'.cell? ⟨w.heap.size, 5, none⟩ = some (.int .i64 O.pace.up) ∧ w'.cell? ⟨w.heap.size, 6, none⟩ = some (.int .i64 O.pace.down) ∧ w'.cell? ⟨w.heap.size, 7, none⟩ = some (.int .i64 O.pace.ups) ∧ w'.cell? ⟨w.heap.size, 8, none⟩ = some (.int .i64 O.pace.downs) ∧ w'.cell? ⟨w.heap.size, 9, none⟩ = some (.slice on_ O.notes.length cn) ∧ w'.cell? ⟨bt, 0, none⟩ = some (.int .i64 T.k) ∧ w'.cell? ⟨bt, 1, none⟩ = some (.int .i64 T.n) ∧ w'.cell? ⟨bt, 2, none⟩ = some (.string T.s) ∧ w'.cell? ⟨bt, 3, none⟩ = some (.slice a1 T.keys.length b1) ∧ w'.cell? ⟨bt, 4, none⟩ = some (.slice a2 T.kids.length b2)) (go_keep)
        (first
          | (go_at_call 74; refine (HPs.out _).mono ?_; rintro e w' ⟨kp, dp, GP, rfl, hl, hf, hb⟩; obtain ⟨⟨c1, d1, rfl⟩, ⟨c2, d2, rfl⟩⟩ := hl.slices; (first | (have HPt := Lib.hid (kid_at0 H2.out hl hf rfl)) | (have HPt := Lib.hid (kid_at1 H2.out hl hf (by simp))) | (have HPt := Lib.hid (kid_at1 H2.out hl hf (by simp [World.drew])))); clear hl hf; (first | (have hq := stepA H2.out hb; have hw := hq.2; replace H2 := Lib.hid hq.1; replace HSz := Lib.hid (And.intro HSz.out hw.size); clear hq) | (have hq := stepB H2.out hb; have hw := hq.2; replace H2 := Lib.hid hq.1; replace HSz := Lib.hid (And.intro HSz.out hw.size); clear hq) | (have hq := stepC H2.out hb (by simp); have hw := hq.2.1; have HZ := Lib.hid hq.2.2.1; replace H2 := Lib.hid hq.1; replace HSz := Lib.hid (And.intro HSz.out hq.2.2.2); clear hq) | (have hq := stepD H2.out hb; have hw := hq.2.1; have HZ := Lib.hid hq.2.2.1; replace H2 := Lib.hid hq.1; replace HSz := Lib.hid (And.intro HSz.out hq.2.2.2); clear hq)); (try replace HZ := Lib.hid (HZ.out.next hw)); (try replace HT1 := Lib.hid (HT1.out.next hw)); (try replace HPt := Lib.hid (HPt.out.next hw)); (try replace HTx := Lib.hid (HTx.out.next hw)); clear hw hb; clear x0 x1 x2 x3 x4 x5 x6 x7 x8 x9; have x0 := cell_of H2.out.arg 0; have x1 := cell_of H2.out.arg 1; have x2 := cell_of H2.out.arg 2; have x3 := cell_of H2.out.arg 3; have x4 := cell_of H2.out.arg 4; have x5 := cell_of H2.out.arg 5; have x6 := cell_of H2.out.arg 6; have x7 := cell_of H2.out.arg 7; have x8 := cell_of H2.out.arg 8; have x9 := cell_of H2.out.arg 9; simp only [List.getElem?_toArray, List.getElem?_cons_zero, List.getElem?_cons_succ] at x0 x1 x2 x3 x4 x5 x6 x7 x8 x9; clear r0 r1 r2 r3 r4 r5; obtain ⟨r0, r1, r2, r3, r4, r5⟩ := five HZ.out.at_)
          | (go_at_call 79; refine (HBr.out _ _ _ _ (by first | exact HPt.out.lie | exact HPt.out.lie.stay (below_drew1 _) (Nat.le_refl _) | exact HPt.out.lie.stay ((Below.refl _ _).alloc (Nat.le_refl _) _) (Nat.le_refl _) | exact HPt.out.lie.stay (below_lit _ _) (Nat.le_refl _))).mono ?_; rintro e w' ⟨rfl, hb⟩; (first | (have hq := stepA H2.out hb; have hw := hq.2; replace H2 := Lib.hid hq.1; replace HSz := Lib.hid (And.intro HSz.out hw.size); clear hq) | (have hq := stepB H2.out hb; have hw := hq.2; replace H2 := Lib.hid hq.1; replace HSz := Lib.hid (And.intro HSz.out hw.size); clear hq) | (have hq := stepC H2.out hb (by simp); have hw := hq.2.1; have HZ := Lib.hid hq.2.2.1; replace H2 := Lib.hid hq.1; replace HSz := Lib.hid (And.intro HSz.out hq.2.2.2); clear hq) | (have hq := stepD H2.out hb; have hw := hq.2.1; have HZ := Lib.hid hq.2.2.1; replace H2 := Lib.hid hq.1; replace HSz := Lib.hid (And.intro HSz.out hq.2.2.2); clear hq)); (try replace HZ := Lib.hid (HZ.out.next hw)); (try replace HT1 := Lib.hid (HT1.out.next hw)); (try replace HPt := Lib.hid (HPt.out.next hw)); (try replace HTx := Lib.hid (HTx.out.next hw)); clear hw hb; clear x0 x1 x2 x3 x4 x5 x6 x7 x8 x9; have x0 := cell_of H2.out.arg 0; have x1 := cell_of H2.out.arg 1; have x2 := cell_of H2.out.arg 2; have x3 := cell_of H2.out.arg 3; have x4 := cell_of H2.out.arg 4; have x5 := cell_of H2.out.arg 5; have x6 := cell_of H2.out.arg 6; have x7 := cell_of H2.out.arg 7; have x8 := cell_of H2.out.arg 8; have x9 := cell_of H2.out.arg 9; simp only [List.getElem?_toArray, List.getElem?_cons_zero, List.getElem?_cons_succ] at x0 x1 x2 x3 x4 x5 x6 x7 x8 x9; clear r0 r1 r2 r3 r4 r5; obtain ⟨r0, r1, r2, r3, r4, r5⟩ := five HZ.out.at_)
          | (go_at_call 56; refine (spec_textOf _ _).mono ?_; rintro e w' ⟨rfl, hb⟩; (first | (have hq := stepA H2.out hb; have hw := hq.2; replace H2 := Lib.hid hq.1; replace HSz := Lib.hid (And.intro HSz.out hw.size); clear hq) | (have hq := stepB H2.out hb; have hw := hq.2; replace H2 := Lib.hid hq.1; replace HSz := Lib.hid (And.intro HSz.out hw.size); clear hq) | (have hq := stepC H2.out hb (by simp); have hw := hq.2.1; have HZ := Lib.hid hq.2.2.1; replace H2 := Lib.hid hq.1; replace HSz := Lib.hid (And.intro HSz.out hq.2.2.2); clear hq) | (have hq := stepD H2.out hb; have hw := hq.2.1; have HZ := Lib.hid hq.2.2.1; replace H2 := Lib.hid hq.1; replace HSz := Lib.hid (And.intro HSz.out hq.2.2.2); clear hq)); (try replace HZ := Lib.hid (HZ.out.next hw)); (try replace HT1 := Lib.hid (HT1.out.next hw)); (try replace HPt := Lib.hid (HPt.out.next hw)); (try replace HTx := Lib.hid (HTx.out.next hw)); clear hw hb; clear x0 x1 x2 x3 x4 x5 x6 x7 x8 x9; have x0 := cell_of H2.out.arg 0; have x1 := cell_of H2.out.arg 1; have x2 := cell_of H2.out.arg 2; have x3 := cell_of H2.out.arg 3; have x4 := cell_of H2.out.arg 4; have x5 := cell_of H2.out.arg 5; have x6 := cell_of H2.out.arg 6; have x7 := cell_of H2.out.arg 7; have x8 := cell_of H2.out.arg 8; have x9 := cell_of H2.out.arg 9; simp only [List.getElem?_toArray, List.getElem?_cons_zero, List.getElem?_cons_succ] at x0 x1 x2 x3 x4 x5 x6 x7 x8 x9; clear r0 r1 r2 r3 r4 r5; obtain ⟨r0, r1, r2, r3, r4, r5⟩ := five HZ.out.at_)
          | (go_at_call 40; refine (HS1.out _ _ _ _ _ _ _ (by first | exact HT1.out.lie | exact HT1.out.lie.stay (below_drew1 _) (Nat.le_refl _) | exact HT1.out.lie.stay ((Below.refl _ _).alloc (Nat.le_refl _) _) (Nat.le_refl _) | exact HT1.out.lie.stay (below_lit _ _) (Nat.le_refl _)) (HLeaf.out _)).mono ?_; rintro e w' ⟨k6, d6, G6, rfl, hl, hf, hb⟩; obtain ⟨⟨a7, b7, rfl⟩, ⟨a8, b8, rfl⟩⟩ := hl.slices; have HL := Lib.hid (res_keep H2.out hl hf (Nat.le_refl _)); clear hl hf; (first | (have hq := stepA H2.out hb; have hw := hq.2; replace H2 := Lib.hid hq.1; replace HSz := Lib.hid (And.intro HSz.out hw.size); clear hq) | (have hq := stepB H2.out hb; have hw := hq.2; replace H2 := Lib.hid hq.1; replace HSz := Lib.hid (And.intro HSz.out hw.size); clear hq) | (have hq := stepC H2.out hb (by simp); have hw := hq.2.1; have HZ := Lib.hid hq.2.2.1; replace H2 := Lib.hid hq.1; replace HSz := Lib.hid (And.intro HSz.out hq.2.2.2); clear hq) | (have hq := stepD H2.out hb; have hw := hq.2.1; have HZ := Lib.hid hq.2.2.1; replace H2 := Lib.hid hq.1; replace HSz := Lib.hid (And.intro HSz.out hq.2.2.2); clear hq)); (try replace HZ := Lib.hid (HZ.out.next hw)); (try replace HT1 := Lib.hid (HT1.out.next hw)); (try replace HPt := Lib.hid (HPt.out.next hw)); (try replace HTx := Lib.hid (HTx.out.next hw)); clear hw hb; clear x0 x1 x2 x3 x4 x5 x6 x7 x8 x9; have x0 := cell_of H2.out.arg 0; have x1 := cell_of H2.out.arg 1; have x2 := cell_of H2.out.arg 2; have x3 := cell_of H2.out.arg 3; have x4 := cell_of H2.out.arg 4; have x5 := cell_of H2.out.arg 5; have x6 := cell_of H2.out.arg 6; have x7 := cell_of H2.out.arg 7; have x8 := cell_of H2.out.arg 8; have x9 := cell_of H2.out.arg 9; simp only [List.getElem?_toArray, List.getElem?_cons_zero, List.getElem?_cons_succ] at x0 x1 x2 x3 x4 x5 x6 x7 x8 x9; clear r0 r1 r2 r3 r4 r5; obtain ⟨r0, r1, r2, r3, r4, r5⟩ := five HZ.out.at_; obtain ⟨s0, s1, s2, s3, s4, s5⟩ := five H2.out.res))
    all_goals
      have HF := res_fin H2.out HL.out
      go_wp2
      exact bodyPost_ret (ret_node Tryz.results76 rfl HF.1) rfl ⟨_, _, _, rfl, HF.2.1, HF.2.2.1, HF.2.2.2⟩
end Go.Proofs.YtelpkcbbipianaaGreat

/- the model's MidTree of an order that is right: its tree, in memory of its own; of others the zero node; no condition. -/
namespace Go.Proofs.YtelpkcbbipianaaGreat
open Go Go.RowKit

set_option maxRecDepth 100000 in
set_option maxHeartbeats 1600000 in
theorem spec_midTree_no {O : Ord} {mv nv : Value} {FM FN : List Nat} (w : World) (ho : OrdAt w O mv nv FM FN) (hc : O.okB = false) :
    Calls Tryz.prog 60 #[.agg #[.string O.name, .string O.target, .int .i64 O.low, .int .i64 O.high, mv, .int .i64 O.pace.up, .int .i64 O.pace.down, .int .i64 O.pace.ups, .int .i64 O.pace.downs, nv]] w fun e w' => e = .returned (.agg #[.int .i64 0, .int .i64 0, .string ⟨#[]⟩, .slice none 0 0, .slice none 0 0]) ∧ Below w.heap.size w w' := by
  have HO := Lib.hid fun wr (hb : Below w.heap.size w wr) => spec_orderOk wr (ho.stay hb (Nat.le_refl _))
  obtain ⟨⟨om, cm, rfl⟩, on_, cn, rfl⟩ := ho.slices
  clear ho
  have H2 := Lib.hid (Two.start w (.cells #[.string O.name, .string O.target, .int .i64 O.low, .int .i64 O.high, .slice om O.mets.length cm, .int .i64 O.pace.up, .int .i64 O.pace.down, .int .i64 O.pace.ups, .int .i64 O.pace.downs, .slice on_ O.notes.length cn] 66) (.cells #[.int .i64 0, .int .i64 0, .string ⟨#[]⟩, .slice none 0 0, .slice none 0 0] 27))
  go_enter Tryz.func60, Tryz.ntmps60
  go_wp2_with (first
    | (go_at_call 71; refine (HO.out _ H2.out.below).mono ?_; rintro e w1 ⟨rfl, hb⟩; rw [hc]; replace H2 := Lib.hid (H2.out.next hb); clear hb; obtain ⟨r0, r1, r2, r3, r4, r5⟩ := five H2.out.res)
    | fail)
  exact bodyPost_ret (ret_node Tryz.results60 rfl (set5_end H2.out.res _ _ _ _ _)) rfl ⟨rfl, set5_below H2.out.below (by omega) _ _ _ _ _ _⟩

set_option maxRecDepth 100000 in
set_option maxHeartbeats 8000000 in
theorem spec_midTree_yes {O : Ord} {mv nv : Value} {FM FN : List Nat} (w : World) (ho : OrdAt w O mv nv FM FN) (hc : O.okB = true) :
    Calls Tryz.prog 60 #[.agg #[.string O.name, .string O.target, .int .i64 O.low, .int .i64 O.high, mv, .int .i64 O.pace.up, .int .i64 O.pace.down, .int .i64 O.pace.ups, .int .i64 O.pace.downs, nv]] w fun e w' => ∃ kv dv F, e = .returned (.agg #[.int .i64 (midT O).k, .int .i64 (midT O).n, .string (midT O).s, kv, dv]) ∧ Lies w' (midT O) kv dv F ∧ Fresh w w' F ∧ Below w.heap.size w w' := by
  obtain ⟨hn1, hn2, ⟨hm1, hm2⟩, -⟩ := okB_out hc
  have hmz := mets_sz hc (RowAt.every ho.mets)
  have hhz := head_sz hc ⟨#[109, 105, 100, 100, 108, 101]⟩ (by decide)
  have hsz := saved_sz hc
  have HO := Lib.hid fun wr (hb : Below w.heap.size w wr) => spec_orderOk wr (ho.stay hb (Nat.le_refl _))
  have HMs := Lib.hid fun wr (hb : Below w.heap.size w wr) => spec_l7Metrics wr (RowAt.stay ho.mets (by decide) hb (Nat.le_refl _)) (by omega) (fun m hm => by have := hm2 m hm; omega)
  have HSv : Hid (∀ wr, Below w.heap.size w wr → Calls Tryz.prog 76 #[.agg #[.string O.name, .string O.target, .int .i64 O.low, .int .i64 O.high, mv, .int .i64 O.pace.up, .int .i64 O.pace.down, .int .i64 O.pace.ups, .int .i64 O.pace.downs, nv]] wr fun e w' => ∃ kv dv F, e = .returned (.agg #[.int .i64 (savedT O).k, .int .i64 (savedT O).n, .string (savedT O).s, kv, dv]) ∧ Lies w' (savedT O) kv dv F ∧ Fresh wr w' F ∧ Below wr.heap.size wr w') := fun wr hb => spec_l8Saved wr (ho.stay hb (Nat.le_refl _)) hc
  have HHs : Hid (∀ (om on_ : Option Addr) (cm cn : Nat) W, Calls Tryz.prog 72 #[.agg #[.string O.name, .string O.target, .int .i64 O.low, .int .i64 O.high, .slice om O.mets.length cm, .int .i64 O.pace.up, .int .i64 O.pace.down, .int .i64 O.pace.ups, .int .i64 O.pace.downs, .slice on_ O.notes.length cn], .string ⟨#[109, 105, 100, 100, 108, 101]⟩] W fun e w' => ∃ kv dv F, e = .returned (.agg #[.int .i64 (headT ⟨#[109, 105, 100, 100, 108, 101]⟩ O).k, .int .i64 (headT ⟨#[109, 105, 100, 100, 108, 101]⟩ O).n, .string (headT ⟨#[109, 105, 100, 100, 108, 101]⟩ O).s, kv, dv]) ∧ Lies w' (headT ⟨#[109, 105, 100, 100, 108, 101]⟩ O) kv dv F ∧ Fresh W w' F ∧ Below W.heap.size W w') := fun om on_ cm cn W => spec_l7Head ⟨#[109, 105, 100, 100, 108, 101]⟩ O om on_ _ cm _ cn hn1 hn2 (by decide) ho.low ho.high W
  have hE := mid_sets2 O (savedT O)
  obtain ⟨⟨om, cm, rfl⟩, on_, cn, rfl⟩ := ho.slices
  have z1 := setT_sz (headT ⟨#[109, 105, 100, 100, 108, 101]⟩ O) (metsT O.mets) ⟨#[109, 101, 116, 114, 105, 99, 115]⟩
  have k1 : (⟨#[109, 101, 116, 114, 105, 99, 115]⟩ : ByteArray).size = 7 := rfl
  have hRm : midT O = midB O (savedT O) := rfl
  rw [hRm]
  clear ho hm1 hm2 hn1 hn2
  generalize hTH : headT ⟨#[109, 105, 100, 100, 108, 101]⟩ O = TH at *
  generalize hT1 : setT TH ⟨#[109, 101, 116, 114, 105, 99, 115]⟩ (metsT O.mets) = T1 at *
  generalize midB O (savedT O) = T3 at *
  generalize savedT O = TS at *
  have HS1 : Hid (∀ X kv dv G kx dx G', Lies X TH kv dv G → Lies X (metsT O.mets) kx dx G' → Calls Tryz.prog 40 #[.agg #[.int .i64 TH.k, .int .i64 TH.n, .string TH.s, kv, dv], .string ⟨#[109, 101, 116, 114, 105, 99, 115]⟩, .agg #[.int .i64 4, .int .i64 0, .string ⟨#[]⟩, kx, dx]] X fun e w' => ∃ kr dr F, e = .returned (.agg #[.int .i64 T1.k, .int .i64 T1.n, .string T1.s, kr, dr]) ∧ Lies w' T1 kr dr F ∧ Fresh X w' F ∧ Below X.heap.size X w') := fun X kv dv G kx dx G' hl hx => by have h := spec_set TH (metsT O.mets) ⟨#[109, 101, 116, 114, 105, 99, 115]⟩ X kv dv kx dx G G' hl hx (by omega) (by omega) (by decide); rw [hT1] at h; exact h
  have HS2 : Hid (∀ X kv dv G kx dx G', Lies X T1 kv dv G → Lies X TS kx dx G' → Calls Tryz.prog 40 #[.agg #[.int .i64 T1.k, .int .i64 T1.n, .string T1.s, kv, dv], .string ⟨#[110, 111, 116, 101, 115]⟩, .agg #[.int .i64 TS.k, .int .i64 TS.n, .string TS.s, kx, dx]] X fun e w' => ∃ kr dr F, e = .returned (.agg #[.int .i64 T3.k, .int .i64 T3.n, .string T3.s, kr, dr]) ∧ Lies w' T3 kr dr F ∧ Fresh X w' F ∧ Below X.heap.size X w') := fun X kv dv G kx dx G' hl hx => by have h := spec_set T1 TS ⟨#[110, 111, 116, 101, 115]⟩ X kv dv kx dx G G' hl hx (by omega) (by omega) (by decide); rw [hE] at h; exact h
  clear hTH hT1 hE z1 k1 hmz hsz hhz hRm
  have H2 := Lib.hid (Two.start w (.cells #[.string O.name, .string O.target, .int .i64 O.low, .int .i64 O.high, .slice om O.mets.length cm, .int .i64 O.pace.up, .int .i64 O.pace.down, .int .i64 O.pace.ups, .int .i64 O.pace.downs, .slice on_ O.notes.length cn] 66) (.cells #[.int .i64 0, .int .i64 0, .string ⟨#[]⟩, .slice none 0 0, .slice none 0 0] 27))
  go_enter Tryz.func60, Tryz.ntmps60
  go_wp2_with (first
    | (go_at_call 71; refine (HO.out _ H2.out.below).mono ?_; rintro e w1 ⟨rfl, hb⟩; rw [hc]; replace H2 := Lib.hid (H2.out.next hb); clear hb)
    | fail)
  go_cut [3] (fun p wc => ∃ (bt : Nat) (kr dr : Value) (G : List Nat), p = .pointer (some ⟨bt, 0, none⟩) ∧ Hid (FT w wc (.cells #[.string O.name, .string O.target, .int .i64 O.low, .int .i64 O.high, .slice om O.mets.length cm, .int .i64 O.pace.up, .int .i64 O.pace.down, .int .i64 O.pace.ups, .int .i64 O.pace.downs, .slice on_ O.notes.length cn] 66) (.cells #[.int .i64 0, .int .i64 0, .string ⟨#[]⟩, .slice none 0 0, .slice none 0 0] 27) T1 bt kr dr G))
  case first =>
    have x0 := cell_of H2.out.arg 0
    have x1 := cell_of H2.out.arg 1
    have x2 := cell_of H2.out.arg 2
    have x3 := cell_of H2.out.arg 3
    have x4 := cell_of H2.out.arg 4
    have x5 := cell_of H2.out.arg 5
    have x6 := cell_of H2.out.arg 6
    have x7 := cell_of H2.out.arg 7
    have x8 := cell_of H2.out.arg 8
    have x9 := cell_of H2.out.arg 9
    simp only [List.getElem?_toArray, List.getElem?_cons_zero, List.getElem?_cons_succ] at x0 x1 x2 x3 x4 x5 x6 x7 x8 x9
    have HSz : Hid (w.heap.size + 2 ≤ w1.heap.size) := H2.out.size
    go_region_held3 (fun w' => w'.cell? ⟨w.heap.size, 0, none⟩ = some (.string O.name) ∧ w'.cell? ⟨w.heap.size, 1, none⟩ = some (.string O.target) ∧ w'.cell? ⟨w.heap.size, 2, none⟩ = some (.int .i64 O.low) ∧ w'.cell? ⟨w.heap.size, 3, none⟩ = some (.int .i64 O.high) ∧ w'.cell? ⟨w.heap.size, 4, none⟩ = some (.slice om O.mets.length cm) ∧ w'.cell? ⟨w.heap.size, 5, none⟩ = some (.int .i64 O.pace.up) ∧ w'.cell? ⟨w.heap.size, 6, none⟩ = some (.int .i64 O.pace.down) ∧ w'.cell? ⟨w.heap.size, 7, none⟩ = some (.int .i64 O.pace.ups) ∧ w'.cell? ⟨w.heap.size, 8, none⟩ = some (.int .i64 O.pace.downs) ∧ w'.cell? ⟨w.heap.size, 9, none⟩ = some (.slice on_ O.notes.length cn)) (go_keep)
      (first
        | (go_at_call 72; refine (HHs.out _ _ _ _ _).mono ?_; rintro e w' ⟨kh, dh, GH, rfl, hl, hf, hb⟩; obtain ⟨⟨a1, b1, rfl⟩, ⟨a2, b2, rfl⟩⟩ := hl.slices; (first | (have HHd := Lib.hid (kid_at0 H2.out hl hf rfl)) | (have HHd := Lib.hid (kid_at1 H2.out hl hf (by simp))) | (have HHd := Lib.hid (kid_at1 H2.out hl hf (by simp [World.drew])))); clear hl hf; (first | (have hq := stepA H2.out hb; have hw := hq.2; replace H2 := Lib.hid hq.1; replace HSz := Lib.hid (And.intro HSz.out hw.size); clear hq) | (have hq := stepB H2.out hb; have hw := hq.2; replace H2 := Lib.hid hq.1; replace HSz := Lib.hid (And.intro HSz.out hw.size); clear hq) | (have hq := stepC H2.out hb (by simp); have hw := hq.2.1; have HZ := Lib.hid hq.2.2.1; replace H2 := Lib.hid hq.1; replace HSz := Lib.hid (And.intro HSz.out hq.2.2.2); clear hq) | (have hq := stepD H2.out hb; have hw := hq.2.1; have HZ := Lib.hid hq.2.2.1; replace H2 := Lib.hid hq.1; replace HSz := Lib.hid (And.intro HSz.out hq.2.2.2); clear hq)); (try replace HZ := Lib.hid (HZ.out.next hw)); (try replace HHd := Lib.hid (HHd.out.next hw)); (try replace HMt := Lib.hid (HMt.out.next hw)); (try replace HT1 := Lib.hid (HT1.out.next hw)); (try replace HNt := Lib.hid (HNt.out.next hw)); clear hw hb; clear x0 x1 x2 x3 x4 x5 x6 x7 x8 x9; have x0 := cell_of H2.out.arg 0; have x1 := cell_of H2.out.arg 1; have x2 := cell_of H2.out.arg 2; have x3 := cell_of H2.out.arg 3; have x4 := cell_of H2.out.arg 4; have x5 := cell_of H2.out.arg 5; have x6 := cell_of H2.out.arg 6; have x7 := cell_of H2.out.arg 7; have x8 := cell_of H2.out.arg 8; have x9 := cell_of H2.out.arg 9; simp only [List.getElem?_toArray, List.getElem?_cons_zero, List.getElem?_cons_succ] at x0 x1 x2 x3 x4 x5 x6 x7 x8 x9)
        | (go_at_call 73; refine (HMs.out _ (by first | exact H2.out.below | exact H2.out.below.trans ((below_drew1 _).mono H2.out.below.size) | exact H2.out.below.trans (((Below.refl _ _).alloc (Nat.le_refl _) _).mono H2.out.below.size) | exact H2.out.below.trans ((below_lit _ _).mono H2.out.below.size))).mono ?_; rintro e w' ⟨dm, GM, rfl, hl, hf, hb⟩; obtain ⟨a3, b3, rfl⟩ := hl.slices.2; (first | (have HMt := Lib.hid (kid_at0 H2.out hl hf rfl)) | (have HMt := Lib.hid (kid_at1 H2.out hl hf (by simp))) | (have HMt := Lib.hid (kid_at1 H2.out hl hf (by simp [World.drew])))); clear hl hf; (first | (have hq := stepA H2.out hb; have hw := hq.2; replace H2 := Lib.hid hq.1; replace HSz := Lib.hid (And.intro HSz.out hw.size); clear hq) | (have hq := stepB H2.out hb; have hw := hq.2; replace H2 := Lib.hid hq.1; replace HSz := Lib.hid (And.intro HSz.out hw.size); clear hq) | (have hq := stepC H2.out hb (by simp); have hw := hq.2.1; have HZ := Lib.hid hq.2.2.1; replace H2 := Lib.hid hq.1; replace HSz := Lib.hid (And.intro HSz.out hq.2.2.2); clear hq) | (have hq := stepD H2.out hb; have hw := hq.2.1; have HZ := Lib.hid hq.2.2.1; replace H2 := Lib.hid hq.1; replace HSz := Lib.hid (And.intro HSz.out hq.2.2.2); clear hq)); (try replace HZ := Lib.hid (HZ.out.next hw)); (try replace HHd := Lib.hid (HHd.out.next hw)); (try replace HMt := Lib.hid (HMt.out.next hw)); (try replace HT1 := Lib.hid (HT1.out.next hw)); (try replace HNt := Lib.hid (HNt.out.next hw)); clear hw hb; clear x0 x1 x2 x3 x4 x5 x6 x7 x8 x9; have x0 := cell_of H2.out.arg 0; have x1 := cell_of H2.out.arg 1; have x2 := cell_of H2.out.arg 2; have x3 := cell_of H2.out.arg 3; have x4 := cell_of H2.out.arg 4; have x5 := cell_of H2.out.arg 5; have x6 := cell_of H2.out.arg 6; have x7 := cell_of H2.out.arg 7; have x8 := cell_of H2.out.arg 8; have x9 := cell_of H2.out.arg 9; simp only [List.getElem?_toArray, List.getElem?_cons_zero, List.getElem?_cons_succ] at x0 x1 x2 x3 x4 x5 x6 x7 x8 x9)
        | (go_at_call 40; refine (HS1.out _ _ _ _ _ _ _ (by first | exact HHd.out.lie | exact HHd.out.lie.stay (below_drew1 _) (Nat.le_refl _) | exact HHd.out.lie.stay ((Below.refl _ _).alloc (Nat.le_refl _) _) (Nat.le_refl _) | exact HHd.out.lie.stay (below_lit _ _) (Nat.le_refl _)) (by first | exact HMt.out.lie | exact HMt.out.lie.stay (below_drew1 _) (Nat.le_refl _) | exact HMt.out.lie.stay ((Below.refl _ _).alloc (Nat.le_refl _) _) (Nat.le_refl _) | exact HMt.out.lie.stay (below_lit _ _) (Nat.le_refl _))).mono ?_; rintro e w' ⟨kr, dr, G1, rfl, hl, hf, hb⟩; obtain ⟨⟨a4, b4, rfl⟩, ⟨a5, b5, rfl⟩⟩ := hl.slices; (first | (have HT1 := Lib.hid (kid_at0 H2.out hl hf rfl)) | (have HT1 := Lib.hid (kid_at1 H2.out hl hf (by simp))) | (have HT1 := Lib.hid (kid_at1 H2.out hl hf (by simp [World.drew])))); clear hl hf; (first | (have hq := stepA H2.out hb; have hw := hq.2; replace H2 := Lib.hid hq.1; replace HSz := Lib.hid (And.intro HSz.out hw.size); clear hq) | (have hq := stepB H2.out hb; have hw := hq.2; replace H2 := Lib.hid hq.1; replace HSz := Lib.hid (And.intro HSz.out hw.size); clear hq) | (have hq := stepC H2.out hb (by simp); have hw := hq.2.1; have HZ := Lib.hid hq.2.2.1; replace H2 := Lib.hid hq.1; replace HSz := Lib.hid (And.intro HSz.out hq.2.2.2); clear hq) | (have hq := stepD H2.out hb; have hw := hq.2.1; have HZ := Lib.hid hq.2.2.1; replace H2 := Lib.hid hq.1; replace HSz := Lib.hid (And.intro HSz.out hq.2.2.2); clear hq)); (try replace HZ := Lib.hid (HZ.out.next hw)); (try replace HHd := Lib.hid (HHd.out.next hw)); (try replace HMt := Lib.hid (HMt.out.next hw)); (try replace HT1 := Lib.hid (HT1.out.next hw)); (try replace HNt := Lib.hid (HNt.out.next hw)); clear hw hb; clear x0 x1 x2 x3 x4 x5 x6 x7 x8 x9; have x0 := cell_of H2.out.arg 0; have x1 := cell_of H2.out.arg 1; have x2 := cell_of H2.out.arg 2; have x3 := cell_of H2.out.arg 3; have x4 := cell_of H2.out.arg 4; have x5 := cell_of H2.out.arg 5; have x6 := cell_of H2.out.arg 6; have x7 := cell_of H2.out.arg 7; have x8 := cell_of H2.out.arg 8; have x9 := cell_of H2.out.arg 9; simp only [List.getElem?_toArray, List.getElem?_cons_zero, List.getElem?_cons_succ] at x0 x1 x2 x3 x4 x5 x6 x7 x8 x9; have hn1 := two_ne H2.out; have hn2 := two_ne' H2.out; (try (have hfv := five HZ.out.at_; have hn3 := one_ne HZ.out; have hn4 := one_ne' HZ.out; obtain ⟨r0, r1, r2, r3, r4, r5⟩ := hfv))))
    all_goals go_wp2_with fail
    all_goals go_meet
    all_goals
      have hsz := HSz.out
      first
        | exact ⟨_, _, _, _, rfl, ft_put H2.out HZ.out HT1.out (by omega)⟩
        | exact ⟨_, _, _, _, rfl, ft_alloc H2.out HT1.out⟩
  case rest =>
    obtain ⟨bt, kr, dr, G, rfl, hft⟩ := hcut
    obtain ⟨lo1, hi1, hk1⟩ := hft.out.kid
    replace H2 := Lib.hid hft.out.two
    have HZ : Hid (One w wc bt _) := ⟨hft.out.one, hft.out.old⟩
    have HT1 := Lib.hid hk1
    have HSz : Hid (w.heap.size + 2 ≤ wc.heap.size) := H2.out.size
    obtain ⟨⟨e1, f1, rfl⟩, ⟨e2, f2, rfl⟩⟩ := hk1.lie.slices
    have hn3 := one_ne HZ.out
    have hn4 := one_ne' HZ.out
    have hn5 : ¬ w.heap.size + 1 = bt := by have := HZ.out.old; omega
    have hn6 : ¬ bt = w.heap.size + 1 := by have := HZ.out.old; omega
    clear hk1 hft
    have x0 := cell_of H2.out.arg 0
    have x1 := cell_of H2.out.arg 1
    have x2 := cell_of H2.out.arg 2
    have x3 := cell_of H2.out.arg 3
    have x4 := cell_of H2.out.arg 4
    have x5 := cell_of H2.out.arg 5
    have x6 := cell_of H2.out.arg 6
    have x7 := cell_of H2.out.arg 7
    have x8 := cell_of H2.out.arg 8
    have x9 := cell_of H2.out.arg 9
    simp only [List.getElem?_toArray, List.getElem?_cons_zero, List.getElem?_cons_succ] at x0 x1 x2 x3 x4 x5 x6 x7 x8 x9
    obtain ⟨r0, r1, r2, r3, r4, r5⟩ := five HZ.out.at_
    have tt1 : True := trivial
    go_wp2_with fail
    go_region_held3 (fun w' => w'.cell? ⟨w.heap.size, 0, none⟩ = some (.string O.name) ∧ w'.cell? ⟨w.heap.size, 1, none⟩ = some (.string O.target) ∧ w'.cell? ⟨w.heap.size, 2, none⟩ = some (.int .i64 O.low) ∧ w'.cell? ⟨w.heap.size, 3, none⟩ = some (.int .i64 O.high) ∧ w'.cell? ⟨w.heap.size, 4, none⟩ = some (.slice om O.mets.length cm) ∧ w'.cell? ⟨w.heap.size, 5, none⟩ = some (.int .i64 O.pace.up) ∧ w'.cell? ⟨w.heap.size, 6, none⟩ = some (.int .i64 O.pace.down) ∧ w'.cell? ⟨w.heap.size, 7, none⟩ = some (.int .i64 O.pace.ups) ∧ w'.cell? ⟨w.heap.size, 8, none⟩ = some (.int .i64 O.pace.downs) ∧ w'.cell? ⟨w.heap.size, 9, none⟩ = some (.slice on_ O.notes.length cn) ∧ w'.cell? ⟨bt, 0, none⟩ = some (.int .i64 T1.k) ∧ w'.cell? ⟨bt, 1, none⟩ = some (.int .i64 T1.n) ∧ w'.cell? ⟨bt, 2, none⟩ = some (.string T1.s) ∧ w'.cell? ⟨bt, 3, none⟩ = some (.slice e1 T1.keys.length f1) ∧ w'.cell? ⟨bt, 4, none⟩ = some (.slice e2 T1.kids.length f2)) (go_keep)
      (first
        | (go_at_call 76; refine (HSv.out _ (by first | exact H2.out.below | exact H2.out.below.trans ((below_drew1 _).mono H2.out.below.size) | exact H2.out.below.trans (((Below.refl _ _).alloc (Nat.le_refl _) _).mono H2.out.below.size) | exact H2.out.below.trans ((below_lit _ _).mono H2.out.below.size))).mono ?_; rintro e w' ⟨kn, dn, GN, rfl, hl, hf, hb⟩; obtain ⟨⟨a3, b3, rfl⟩, ⟨a4, b4, rfl⟩⟩ := hl.slices; (first | (have HNt := Lib.hid (kid_at0 H2.out hl hf rfl)) | (have HNt := Lib.hid (kid_at1 H2.out hl hf (by simp))) | (have HNt := Lib.hid (kid_at1 H2.out hl hf (by simp [World.drew])))); clear hl hf; (first | (have hq := stepA H2.out hb; have hw := hq.2; replace H2 := Lib.hid hq.1; replace HSz := Lib.hid (And.intro HSz.out hw.size); clear hq) | (have hq := stepB H2.out hb; have hw := hq.2; replace H2 := Lib.hid hq.1; replace HSz := Lib.hid (And.intro HSz.out hw.size); clear hq) | (have hq := stepC H2.out hb (by simp); have hw := hq.2.1; have HZ := Lib.hid hq.2.2.1; replace H2 := Lib.hid hq.1; replace HSz := Lib.hid (And.intro HSz.out hq.2.2.2); clear hq) | (have hq := stepD H2.out hb; have hw := hq.2.1; have HZ := Lib.hid hq.2.2.1; replace H2 := Lib.hid hq.1; replace HSz := Lib.hid (And.intro HSz.out hq.2.2.2); clear hq)); (try replace HZ := Lib.hid (HZ.out.next hw)); (try replace HHd := Lib.hid (HHd.out.next hw)); (try replace HMt := Lib.hid (HMt.out.next hw)); (try replace HT1 := Lib.hid (HT1.out.next hw)); (try replace HNt := Lib.hid (HNt.out.next hw)); clear hw hb; clear x0 x1 x2 x3 x4 x5 x6 x7 x8 x9; have x0 := cell_of H2.out.arg 0; have x1 := cell_of H2.out.arg 1; have x2 := cell_of H2.out.arg 2; have x3 := cell_of H2.out.arg 3; have x4 := cell_of H2.out.arg 4; have x5 := cell_of H2.out.arg 5; have x6 := cell_of H2.out.arg 6; have x7 := cell_of H2.out.arg 7; have x8 := cell_of H2.out.arg 8; have x9 := cell_of H2.out.arg 9; simp only [List.getElem?_toArray, List.getElem?_cons_zero, List.getElem?_cons_succ] at x0 x1 x2 x3 x4 x5 x6 x7 x8 x9; clear r0 r1 r2 r3 r4 r5; obtain ⟨r0, r1, r2, r3, r4, r5⟩ := five HZ.out.at_)
        | (go_at_call 40; refine (HS2.out _ _ _ _ _ _ _ (by first | exact HT1.out.lie | exact HT1.out.lie.stay (below_drew1 _) (Nat.le_refl _) | exact HT1.out.lie.stay ((Below.refl _ _).alloc (Nat.le_refl _) _) (Nat.le_refl _) | exact HT1.out.lie.stay (below_lit _ _) (Nat.le_refl _)) (by first | exact HNt.out.lie | exact HNt.out.lie.stay (below_drew1 _) (Nat.le_refl _) | exact HNt.out.lie.stay ((Below.refl _ _).alloc (Nat.le_refl _) _) (Nat.le_refl _) | exact HNt.out.lie.stay (below_lit _ _) (Nat.le_refl _))).mono ?_; rintro e w' ⟨k6, d6, G6, rfl, hl, hf, hb⟩; obtain ⟨⟨a7, b7, rfl⟩, ⟨a8, b8, rfl⟩⟩ := hl.slices; have HL := Lib.hid (res_keep H2.out hl hf (Nat.le_refl _)); clear hl hf; (first | (have hq := stepA H2.out hb; have hw := hq.2; replace H2 := Lib.hid hq.1; replace HSz := Lib.hid (And.intro HSz.out hw.size); clear hq) | (have hq := stepB H2.out hb; have hw := hq.2; replace H2 := Lib.hid hq.1; replace HSz := Lib.hid (And.intro HSz.out hw.size); clear hq) | (have hq := stepC H2.out hb (by simp); have hw := hq.2.1; have HZ := Lib.hid hq.2.2.1; replace H2 := Lib.hid hq.1; replace HSz := Lib.hid (And.intro HSz.out hq.2.2.2); clear hq) | (have hq := stepD H2.out hb; have hw := hq.2.1; have HZ := Lib.hid hq.2.2.1; replace H2 := Lib.hid hq.1; replace HSz := Lib.hid (And.intro HSz.out hq.2.2.2); clear hq)); (try replace HZ := Lib.hid (HZ.out.next hw)); (try replace HHd := Lib.hid (HHd.out.next hw)); (try replace HMt := Lib.hid (HMt.out.next hw)); (try replace HT1 := Lib.hid (HT1.out.next hw)); (try replace HNt := Lib.hid (HNt.out.next hw)); clear hw hb; clear x0 x1 x2 x3 x4 x5 x6 x7 x8 x9; have x0 := cell_of H2.out.arg 0; have x1 := cell_of H2.out.arg 1; have x2 := cell_of H2.out.arg 2; have x3 := cell_of H2.out.arg 3; have x4 := cell_of H2.out.arg 4; have x5 := cell_of H2.out.arg 5; have x6 := cell_of H2.out.arg 6; have x7 := cell_of H2.out.arg 7; have x8 := cell_of H2.out.arg 8; have x9 := cell_of H2.out.arg 9; simp only [List.getElem?_toArray, List.getElem?_cons_zero, List.getElem?_cons_succ] at x0 x1 x2 x3 x4 x5 x6 x7 x8 x9; clear r0 r1 r2 r3 r4 r5; obtain ⟨r0, r1, r2, r3, r4, r5⟩ := five HZ.out.at_; obtain ⟨s0, s1, s2, s3, s4, s5⟩ := five H2.out.res))
    all_goals
      have HF := res_fin H2.out HL.out
      go_wp2
      exact bodyPost_ret (ret_node Tryz.results60 rfl HF.1) rfl ⟨_, _, _, rfl, HF.2.1, HF.2.2.1, HF.2.2.2⟩
end Go.Proofs.YtelpkcbbipianaaGreat
