/-
  What is proved: the model's MidTree of an order that is right: its tree, in memory of its own; of others the zero node; no condition.; for any order the program's MidTree answers as the model's MidTree does, in memory of its own, and the law returns true with its argument as it was; condition: the library's table of powers of ten starts as the program's text lays it.
-/
import Derived.Test.YtfgfgmbifdojcaaGreatDoorPartAT
import Derived.Test.YtfgfgmbifdojcaaGreatDoorPartBA
import Derived.Test.YtfgfgmbifdojcaaGreatDoorPartBE
import Derived.Test.YtfgfgmbifdojcaaGreatDoorPartBF
import Derived.Test.YtfgfgmbifdojcaaGreatDoorPartAF
/- the model's MidTree of an order that is right: its tree, in memory of its own; of others the zero node; no condition. -/
namespace Go.Proofs.YtfgfgmbifdojcaaGreatDoor
open Go Go.RowKit

set_option maxRecDepth 100000 in
set_option maxHeartbeats 1600000 in
theorem spec_midTree_no {O : Ord} {mv nv : Value} {FM FN : List Nat} (w : World) (ho : OrdAt w O mv nv FM FN) (hc : O.okB = false) :
    Calls Tryz.prog 16 #[.agg #[.string O.name, .string O.target, .int .i64 O.low, .int .i64 O.high, mv, .int .i64 O.pace.up, .int .i64 O.pace.down, .int .i64 O.pace.ups, .int .i64 O.pace.downs, nv]] w fun e w' => e = .returned (.agg #[.int .i64 0, .int .i64 0, .string ⟨#[]⟩, .slice none 0 0, .slice none 0 0]) ∧ Below w.heap.size w w' := by
  have HO := Lib.hid fun wr (hb : Below w.heap.size w wr) => spec_orderOk wr (ho.stay hb (Nat.le_refl _))
  obtain ⟨⟨om, cm, rfl⟩, on_, cn, rfl⟩ := ho.slices
  clear ho
  have H2 := Lib.hid (Two.start w (.cells #[.string O.name, .string O.target, .int .i64 O.low, .int .i64 O.high, .slice om O.mets.length cm, .int .i64 O.pace.up, .int .i64 O.pace.down, .int .i64 O.pace.ups, .int .i64 O.pace.downs, .slice on_ O.notes.length cn] 38) (.cells #[.int .i64 0, .int .i64 0, .string ⟨#[]⟩, .slice none 0 0, .slice none 0 0] 32))
  go_enter Tryz.func16, Tryz.ntmps16
  go_wp2_with (first
    | (go_at_call 24; refine (HO.out _ H2.out.below).mono ?_; rintro e w1 ⟨rfl, hb⟩; rw [hc]; replace H2 := Lib.hid (H2.out.next hb); clear hb; obtain ⟨r0, r1, r2, r3, r4, r5⟩ := five H2.out.res)
    | fail)
  exact bodyPost_ret (ret_node Tryz.results16 rfl (set5_end H2.out.res _ _ _ _ _)) rfl ⟨rfl, set5_below H2.out.below (by omega) _ _ _ _ _ _⟩

set_option maxRecDepth 100000 in
set_option maxHeartbeats 8000000 in
theorem spec_midTree_yes {O : Ord} {mv nv : Value} {FM FN : List Nat} (w : World) (ho : OrdAt w O mv nv FM FN) (hc : O.okB = true) :
    Calls Tryz.prog 16 #[.agg #[.string O.name, .string O.target, .int .i64 O.low, .int .i64 O.high, mv, .int .i64 O.pace.up, .int .i64 O.pace.down, .int .i64 O.pace.ups, .int .i64 O.pace.downs, nv]] w fun e w' => ∃ kv dv F, e = .returned (.agg #[.int .i64 (midT O).k, .int .i64 (midT O).n, .string (midT O).s, kv, dv]) ∧ Lies w' (midT O) kv dv F ∧ Fresh w w' F ∧ Below w.heap.size w w' := by
  obtain ⟨hn1, hn2, ⟨hm1, hm2⟩, -⟩ := okB_out hc
  have hmz := mets_sz hc (RowAt.every ho.mets)
  have hhz := head_sz hc ⟨#[109, 105, 100, 100, 108, 101]⟩ (by decide)
  have hsz := saved_sz hc
  have HO := Lib.hid fun wr (hb : Below w.heap.size w wr) => spec_orderOk wr (ho.stay hb (Nat.le_refl _))
  have HMs := Lib.hid fun wr (hb : Below w.heap.size w wr) => spec_l7Metrics wr (RowAt.stay ho.mets (by decide) hb (Nat.le_refl _)) (by omega) (fun m hm => by have := hm2 m hm; omega)
  have HSv : Hid (∀ wr, Below w.heap.size w wr → Calls Tryz.prog 46 #[.agg #[.string O.name, .string O.target, .int .i64 O.low, .int .i64 O.high, mv, .int .i64 O.pace.up, .int .i64 O.pace.down, .int .i64 O.pace.ups, .int .i64 O.pace.downs, nv]] wr fun e w' => ∃ kv dv F, e = .returned (.agg #[.int .i64 (savedT O).k, .int .i64 (savedT O).n, .string (savedT O).s, kv, dv]) ∧ Lies w' (savedT O) kv dv F ∧ Fresh wr w' F ∧ Below wr.heap.size wr w') := fun wr hb => spec_l8Saved wr (ho.stay hb (Nat.le_refl _)) hc
  have HHs : Hid (∀ (om on_ : Option Addr) (cm cn : Nat) W, Calls Tryz.prog 26 #[.agg #[.string O.name, .string O.target, .int .i64 O.low, .int .i64 O.high, .slice om O.mets.length cm, .int .i64 O.pace.up, .int .i64 O.pace.down, .int .i64 O.pace.ups, .int .i64 O.pace.downs, .slice on_ O.notes.length cn], .string ⟨#[109, 105, 100, 100, 108, 101]⟩] W fun e w' => ∃ kv dv F, e = .returned (.agg #[.int .i64 (headT ⟨#[109, 105, 100, 100, 108, 101]⟩ O).k, .int .i64 (headT ⟨#[109, 105, 100, 100, 108, 101]⟩ O).n, .string (headT ⟨#[109, 105, 100, 100, 108, 101]⟩ O).s, kv, dv]) ∧ Lies w' (headT ⟨#[109, 105, 100, 100, 108, 101]⟩ O) kv dv F ∧ Fresh W w' F ∧ Below W.heap.size W w') := fun om on_ cm cn W => spec_l7Head ⟨#[109, 105, 100, 100, 108, 101]⟩ O om on_ _ cm _ cn hn1 hn2 (by decide) ho.low ho.high W
  have hE := mid_sets2 O (savedT O)
  obtain ⟨⟨om, cm, rfl⟩, on_, cn, rfl⟩ := ho.slices
  have z1 := setT_sz (headT ⟨#[109, 105, 100, 100, 108, 101]⟩ O) (metsT O.mets) ⟨#[109, 101, 116, 114, 105, 99, 115]⟩
  have k1 : (⟨#[109, 101, 116, 114, 105, 99, 115]⟩ : ByteArray).size = 7 := rfl
  have hRm : midT O = midB O (savedT O) := rfl
  rw [hRm]
  clear ho hm1 hm2 hn1 hn2
  generalize hTH : headT ⟨#[109, 105, 100, 100, 108, 101]⟩ O = TH at *
  generalize hT1 : setT TH ⟨#[109, 101, 116, 114, 105, 99, 115]⟩ (metsT O.mets) = T1 at *
  generalize midB O (savedT O) = T3 at *
  generalize savedT O = TS at *
  have HS1 : Hid (∀ X kv dv G kx dx G', Lies X TH kv dv G → Lies X (metsT O.mets) kx dx G' → Calls Tryz.prog 25 #[.agg #[.int .i64 TH.k, .int .i64 TH.n, .string TH.s, kv, dv], .string ⟨#[109, 101, 116, 114, 105, 99, 115]⟩, .agg #[.int .i64 4, .int .i64 0, .string ⟨#[]⟩, kx, dx]] X fun e w' => ∃ kr dr F, e = .returned (.agg #[.int .i64 T1.k, .int .i64 T1.n, .string T1.s, kr, dr]) ∧ Lies w' T1 kr dr F ∧ Fresh X w' F ∧ Below X.heap.size X w') := fun X kv dv G kx dx G' hl hx => by have h := spec_set TH (metsT O.mets) ⟨#[109, 101, 116, 114, 105, 99, 115]⟩ X kv dv kx dx G G' hl hx (by omega) (by omega) (by decide); rw [hT1] at h; exact h
  have HS2 : Hid (∀ X kv dv G kx dx G', Lies X T1 kv dv G → Lies X TS kx dx G' → Calls Tryz.prog 25 #[.agg #[.int .i64 T1.k, .int .i64 T1.n, .string T1.s, kv, dv], .string ⟨#[110, 111, 116, 101, 115]⟩, .agg #[.int .i64 TS.k, .int .i64 TS.n, .string TS.s, kx, dx]] X fun e w' => ∃ kr dr F, e = .returned (.agg #[.int .i64 T3.k, .int .i64 T3.n, .string T3.s, kr, dr]) ∧ Lies w' T3 kr dr F ∧ Fresh X w' F ∧ Below X.heap.size X w') := fun X kv dv G kx dx G' hl hx => by have h := spec_set T1 TS ⟨#[110, 111, 116, 101, 115]⟩ X kv dv kx dx G G' hl hx (by omega) (by omega) (by decide); rw [hE] at h; exact h
  clear hTH hT1 hE z1 k1 hmz hsz hhz hRm
  have H2 := Lib.hid (Two.start w (.cells #[.string O.name, .string O.target, .int .i64 O.low, .int .i64 O.high, .slice om O.mets.length cm, .int .i64 O.pace.up, .int .i64 O.pace.down, .int .i64 O.pace.ups, .int .i64 O.pace.downs, .slice on_ O.notes.length cn] 38) (.cells #[.int .i64 0, .int .i64 0, .string ⟨#[]⟩, .slice none 0 0, .slice none 0 0] 32))
  go_enter Tryz.func16, Tryz.ntmps16
  go_wp2_with (first
    | (go_at_call 24; refine (HO.out _ H2.out.below).mono ?_; rintro e w1 ⟨rfl, hb⟩; rw [hc]; replace H2 := Lib.hid (H2.out.next hb); clear hb)
    | fail)
  go_cut [3] (fun p wc => ∃ (bt : Nat) (kr dr : Value) (G : List Nat), p = .pointer (some ⟨bt, 0, none⟩) ∧ Hid (FT w wc (.cells #[.string O.name, .string O.target, .int .i64 O.low, .int .i64 O.high, .slice om O.mets.length cm, .int .i64 O.pace.up, .int .i64 O.pace.down, .int .i64 O.pace.ups, .int .i64 O.pace.downs, .slice on_ O.notes.length cn] 38) (.cells #[.int .i64 0, .int .i64 0, .string ⟨#[]⟩, .slice none 0 0, .slice none 0 0] 32) T1 bt kr dr G))
  case first =>
    have x0 := cell_of H2.out.arg 0
    have x1 := cell_of H2.out.arg 1
    have x2 := cell_of H2.out.arg 2
    have x3 := cell_of H2.out.arg 3
    have x4 := cell_of H2.out.arg 4
    have x5 := cell_of H2.out.arg 5
    have x6 := cell_of H2.out.arg 6
    have x7 := cell_of H2.out.arg 7
    have x8 := cell_of H2.out.arg 8
    have x9 := cell_of H2.out.arg 9
    simp only [List.getElem?_toArray, List.getElem?_cons_zero, List.getElem?_cons_succ] at x0 x1 x2 x3 x4 x5 x6 x7 x8 x9
    have HSz : Hid (w.heap.size + 2 ≤ w1.heap.size) := H2.out.size
    go_region_held3 (fun w' => w'.cell? ⟨w.heap.size, 0, none⟩ = some (.string O.name) ∧ w'.cell? ⟨w.heap.size, 1, none⟩ = some (.string O.target) ∧ w'.cell? ⟨w.heap.size, 2, none⟩ = some (.int .i64 O.low) ∧ w'.cell? ⟨w.heap.size, 3, none⟩ = some (.int .i64 O.high) ∧ w'.cell? ⟨w.heap.size, 4, none⟩ = some (.slice om O.mets.length cm) ∧ w'.cell? ⟨w.heap.size, 5, none⟩ = some (.int .i64 O.pace.up) ∧ w'.cell? ⟨w.heap.size, 6, none⟩ = some (.int .i64 O.pace.down) ∧ w'.cell? ⟨w.heap.size, 7, none⟩ = some (.int .i64 O.pace.ups) ∧ w'.cell? ⟨w.heap.size, 8, none⟩ = some (.int .i64 O.pace.downs) ∧ w'.cell? ⟨w.heap.size, 9, none⟩ = some (.slice on_ O.notes.length cn)) (go_keep)
      (first
        | (go_at_call 26; refine (HHs.out _ _ _ _ _).mono ?_; rintro e w' ⟨kh, dh, GH, rfl, hl, hf, hb⟩; obtain ⟨⟨a1, b1, rfl⟩, ⟨a2, b2, rfl⟩⟩ := hl.slices; (first | (have HHd := Lib.hid (kid_at0 H2.out hl hf rfl)) | (have HHd := Lib.hid (kid_at1 H2.out hl hf (by simp))) | (have HHd := Lib.hid (kid_at1 H2.out hl hf (by simp [World.drew])))); clear hl hf; (first | (have hq := stepA H2.out hb; have hw := hq.2; replace H2 := Lib.hid hq.1; replace HSz := Lib.hid (And.intro HSz.out hw.size); clear hq) | (have hq := stepB H2.out hb; have hw := hq.2; replace H2 := Lib.hid hq.1; replace HSz := Lib.hid (And.intro HSz.out hw.size); clear hq) | (have hq := stepC H2.out hb (by simp); have hw := hq.2.1; have HZ := Lib.hid hq.2.2.1; replace H2 := Lib.hid hq.1; replace HSz := Lib.hid (And.intro HSz.out hq.2.2.2); clear hq) | (have hq := stepD H2.out hb; have hw := hq.2.1; have HZ := Lib.hid hq.2.2.1; replace H2 := Lib.hid hq.1; replace HSz := Lib.hid (And.intro HSz.out hq.2.2.2); clear hq)); (try replace HZ := Lib.hid (HZ.out.next hw)); (try replace HHd := Lib.hid (HHd.out.next hw)); (try replace HMt := Lib.hid (HMt.out.next hw)); (try replace HT1 := Lib.hid (HT1.out.next hw)); (try replace HNt := Lib.hid (HNt.out.next hw)); clear hw hb; clear x0 x1 x2 x3 x4 x5 x6 x7 x8 x9; have x0 := cell_of H2.out.arg 0; have x1 := cell_of H2.out.arg 1; have x2 := cell_of H2.out.arg 2; have x3 := cell_of H2.out.arg 3; have x4 := cell_of H2.out.arg 4; have x5 := cell_of H2.out.arg 5; have x6 := cell_of H2.out.arg 6; have x7 := cell_of H2.out.arg 7; have x8 := cell_of H2.out.arg 8; have x9 := cell_of H2.out.arg 9; simp only [List.getElem?_toArray, List.getElem?_cons_zero, List.getElem?_cons_succ] at x0 x1 x2 x3 x4 x5 x6 x7 x8 x9)
        | (go_at_call 27; refine (HMs.out _ (by first | exact H2.out.below | exact H2.out.below.trans ((below_drew1 _).mono H2.out.below.size) | exact H2.out.below.trans (((Below.refl _ _).alloc (Nat.le_refl _) _).mono H2.out.below.size) | exact H2.out.below.trans ((below_lit _ _).mono H2.out.below.size))).mono ?_; rintro e w' ⟨dm, GM, rfl, hl, hf, hb⟩; obtain ⟨a3, b3, rfl⟩ := hl.slices.2; (first | (have HMt := Lib.hid (kid_at0 H2.out hl hf rfl)) | (have HMt := Lib.hid (kid_at1 H2.out hl hf (by simp))) | (have HMt := Lib.hid (kid_at1 H2.out hl hf (by simp [World.drew])))); clear hl hf; (first | (have hq := stepA H2.out hb; have hw := hq.2; replace H2 := Lib.hid hq.1; replace HSz := Lib.hid (And.intro HSz.out hw.size); clear hq) | (have hq := stepB H2.out hb; have hw := hq.2; replace H2 := Lib.hid hq.1; replace HSz := Lib.hid (And.intro HSz.out hw.size); clear hq) | (have hq := stepC H2.out hb (by simp); have hw := hq.2.1; have HZ := Lib.hid hq.2.2.1; replace H2 := Lib.hid hq.1; replace HSz := Lib.hid (And.intro HSz.out hq.2.2.2); clear hq) | (have hq := stepD H2.out hb; have hw := hq.2.1; have HZ := Lib.hid hq.2.2.1; replace H2 := Lib.hid hq.1; replace HSz := Lib.hid (And.intro HSz.out hq.2.2.2); clear hq)); (try replace HZ := Lib.hid (HZ.out.next hw)); (try replace HHd := Lib.hid (HHd.out.next hw)); (try replace HMt := Lib.hid (HMt.out.next hw)); (try replace HT1 := Lib.hid (HT1.out.next hw)); (try replace HNt := Lib.hid (HNt.out.next hw)); clear hw hb; clear x0 x1 x2 x3 x4 x5 x6 x7 x8 x9; have x0 := cell_of H2.out.arg 0; have x1 := cell_of H2.out.arg 1; have x2 := cell_of H2.out.arg 2; have x3 := cell_of H2.out.arg 3; have x4 := cell_of H2.out.arg 4; have x5 := cell_of H2.out.arg 5; have x6 := cell_of H2.out.arg 6; have x7 := cell_of H2.out.arg 7; have x8 := cell_of H2.out.arg 8; have x9 := cell_of H2.out.arg 9; simp only [List.getElem?_toArray, List.getElem?_cons_zero, List.getElem?_cons_succ] at x0 x1 x2 x3 x4 x5 x6 x7 x8 x9)
        | (go_at_call 25; refine (HS1.out _ _ _ _ _ _ _ (by first | exact HHd.out.lie | exact HHd.out.lie.stay (below_drew1 _) (Nat.le_refl _) | exact HHd.out.lie.stay ((Below.refl _ _).alloc (Nat.le_refl _) _) (Nat.le_refl _) | exact HHd.out.lie.stay (below_lit _ _) (Nat.le_refl _)) (by first | exact HMt.out.lie | exact HMt.out.lie.stay (below_drew1 _) (Nat.le_refl _) | exact HMt.out.lie.stay ((Below.refl _ _).alloc (Nat.le_refl _) _) (Nat.le_refl _) | exact HMt.out.lie.stay (below_lit _ _) (Nat.le_refl _))).mono ?_; rintro e w' ⟨kr, dr, G1, rfl, hl, hf, hb⟩; obtain ⟨⟨a4, b4, rfl⟩, ⟨a5, b5, rfl⟩⟩ := hl.slices; (first | (have HT1 := Lib.hid (kid_at0 H2.out hl hf rfl)) | (have HT1 := Lib.hid (kid_at1 H2.out hl hf (by simp))) | (have HT1 := Lib.hid (kid_at1 H2.out hl hf (by simp [World.drew])))); clear hl hf; (first | (have hq := stepA H2.out hb; have hw := hq.2; replace H2 := Lib.hid hq.1; replace HSz := Lib.hid (And.intro HSz.out hw.size); clear hq) | (have hq := stepB H2.out hb; have hw := hq.2; replace H2 := Lib.hid hq.1; replace HSz := Lib.hid (And.intro HSz.out hw.size); clear hq) | (have hq := stepC H2.out hb (by simp); have hw := hq.2.1; have HZ := Lib.hid hq.2.2.1; replace H2 := Lib.hid hq.1; replace HSz := Lib.hid (And.intro HSz.out hq.2.2.2); clear hq) | (have hq := stepD H2.out hb; have hw := hq.2.1; have HZ := Lib.hid hq.2.2.1; replace H2 := Lib.hid hq.1; replace HSz := Lib.hid (And.intro HSz.out hq.2.2.2); clear hq)); (try replace HZ := Lib.hid (HZ.out.next hw)); (try replace HHd := Lib.hid (HHd.out.next hw)); (try replace HMt := Lib.hid (HMt.out.next hw)); (try replace HT1 := Lib.hid (HT1.out.next hw)); (try replace HNt := Lib.hid (HNt.out.next hw)); clear hw hb; clear x0 x1 x2 x3 x4 x5 x6 x7 x8 x9; have x0 := cell_of H2.out.arg 0; have x1 := cell_of H2.out.arg 1; have x2 := cell_of H2.out.arg 2; have x3 := cell_of H2.out.arg 3; have x4 := cell_of H2.out.arg 4; have x5 := cell_of H2.out.arg 5; have x6 := cell_of H2.out.arg 6; have x7 := cell_of H2.out.arg 7; have x8 := cell_of H2.out.arg 8; have x9 := cell_of H2.out.arg 9; simp only [List.getElem?_toArray, List.getElem?_cons_zero, List.getElem?_cons_succ] at x0 x1 x2 x3 x4 x5 x6 x7 x8 x9; have hn1 := two_ne H2.out; have hn2 := two_ne' H2.out; (try (have hfv := five HZ.out.at_; have hn3 := one_ne HZ.out; have hn4 := one_ne' HZ.out; obtain ⟨r0, r1, r2, r3, r4, r5⟩ := hfv))))
    all_goals go_wp2_with fail
    all_goals go_meet
    all_goals
      have hsz := HSz.out
      first
        | exact ⟨_, _, _, _, rfl, ft_put H2.out HZ.out HT1.out (by omega)⟩
        | exact ⟨_, _, _, _, rfl, ft_alloc H2.out HT1.out⟩
  case rest =>
    obtain ⟨bt, kr, dr, G, rfl, hft⟩ := hcut
    obtain ⟨lo1, hi1, hk1⟩ := hft.out.kid
    replace H2 := Lib.hid hft.out.two
    have HZ : Hid (One w wc bt _) := ⟨hft.out.one, hft.out.old⟩
    have HT1 := Lib.hid hk1
    have HSz : Hid (w.heap.size + 2 ≤ wc.heap.size) := H2.out.size
    obtain ⟨⟨e1, f1, rfl⟩, ⟨e2, f2, rfl⟩⟩ := hk1.lie.slices
    have hn3 := one_ne HZ.out
    have hn4 := one_ne' HZ.out
    have hn5 : ¬ w.heap.size + 1 = bt := by have := HZ.out.old; omega
    have hn6 : ¬ bt = w.heap.size + 1 := by have := HZ.out.old; omega
    clear hk1 hft
    have x0 := cell_of H2.out.arg 0
    have x1 := cell_of H2.out.arg 1
    have x2 := cell_of H2.out.arg 2
    have x3 := cell_of H2.out.arg 3
    have x4 := cell_of H2.out.arg 4
    have x5 := cell_of H2.out.arg 5
    have x6 := cell_of H2.out.arg 6
    have x7 := cell_of H2.out.arg 7
    have x8 := cell_of H2.out.arg 8
    have x9 := cell_of H2.out.arg 9
    simp only [List.getElem?_toArray, List.getElem?_cons_zero, List.getElem?_cons_succ] at x0 x1 x2 x3 x4 x5 x6 x7 x8 x9
    obtain ⟨r0, r1, r2, r3, r4, r5⟩ := five HZ.out.at_
    have tt1 : True := trivial
    go_wp2_with fail
    go_region_held3 (fun w' => w'.cell? ⟨w.heap.size, 0, none⟩ = some (.string O.name) ∧ w'.cell? ⟨w.heap.size, 1, none⟩ = some (.string O.target) ∧ w'.cell? ⟨w.heap.size, 2, none⟩ = some (.int .i64 O.low) ∧ w'.cell? ⟨w.heap.size, 3, none⟩ = some (.int .i64 O.high) ∧ w'.cell? ⟨w.heap.size, 4, none⟩ = some (.slice om O.mets.length cm) ∧ w'.cell? ⟨w.heap.size, 5, none⟩ = some (.int .i64 O.pace.up) ∧ w'.cell? ⟨w.heap.size, 6, none⟩ = some (.int .i64 O.pace.down) ∧ w'.cell? ⟨w.heap.size, 7, none⟩ = some (.int .i64 O.pace.ups) ∧ w'.cell? ⟨w.heap.size, 8, none⟩ = some (.int .i64 O.pace.downs) ∧ w'.cell? ⟨w.heap.size, 9, none⟩ = some (.slice on_ O.notes.length cn) ∧ w'.cell? ⟨bt, 0, none⟩ = some (.int .i64 T1.k) ∧ w'.cell? ⟨bt, 1, none⟩ = some (.int .i64 T1.n) ∧ w'.cell? ⟨bt, 2, none⟩ = some (.string T1.s) ∧ w'.cell? ⟨bt, 3, none⟩ = some (.slice e1 T1.keys.length f1) ∧ w'.cell? ⟨bt, 4, none⟩ = some (.slice e2 T1.kids.length f2)) (go_keep)
      (first
        | (go_at_call 46; refine (HSv.out _ (by first | exact H2.out.below | exact H2.out.below.trans ((below_drew1 _).mono H2.out.below.size) | exact H2.out.below.trans (((Below.refl _ _).alloc (Nat.le_refl _) _).mono H2.out.below.size) | exact H2.out.below.trans ((below_lit _ _).mono H2.out.below.size))).mono ?_; rintro e w' ⟨kn, dn, GN, rfl, hl, hf, hb⟩; obtain ⟨⟨a3, b3, rfl⟩, ⟨a4, b4, rfl⟩⟩ := hl.slices; (first | (have HNt := Lib.hid (kid_at0 H2.out hl hf rfl)) | (have HNt := Lib.hid (kid_at1 H2.out hl hf (by simp))) | (have HNt := Lib.hid (kid_at1 H2.out hl hf (by simp [World.drew])))); clear hl hf; (first | (have hq := stepA H2.out hb; have hw := hq.2; replace H2 := Lib.hid hq.1; replace HSz := Lib.hid (And.intro HSz.out hw.size); clear hq) | (have hq := stepB H2.out hb; have hw := hq.2; replace H2 := Lib.hid hq.1; replace HSz := Lib.hid (And.intro HSz.out hw.size); clear hq) | (have hq := stepC H2.out hb (by simp); have hw := hq.2.1; have HZ := Lib.hid hq.2.2.1; replace H2 := Lib.hid hq.1; replace HSz := Lib.hid (And.intro HSz.out hq.2.2.2); clear hq) | (have hq := stepD H2.out hb; have hw := hq.2.1; have HZ := Lib.hid hq.2.2.1; replace H2 := Lib.hid hq.1; replace HSz := Lib.hid (And.intro HSz.out hq.2.2.2); clear hq)); (try replace HZ := Lib.hid (HZ.out.next hw)); (try replace HHd := Lib.hid (HHd.out.next hw)); (try replace HMt := Lib.hid (HMt.out.next hw)); (try replace HT1 := Lib.hid (HT1.out.next hw)); (try replace HNt := Lib.hid (HNt.out.next hw)); clear hw hb; clear x0 x1 x2 x3 x4 x5 x6 x7 x8 x9; have x0 := cell_of H2.out.arg 0; have x1 := cell_of H2.out.arg 1; have x2 := cell_of H2.out.arg 2; have x3 := cell_of H2.out.arg 3; have x4 := cell_of H2.out.arg 4; have x5 := cell_of H2.out.arg 5; have x6 := cell_of H2.out.arg 6; have x7 := cell_of H2.out.arg 7; have x8 := cell_of H2.out.arg 8; have x9 := cell_of H2.out.arg 9; simp only [List.getElem?_toArray, List.getElem?_cons_zero, List.getElem?_cons_succ] at x0 x1 x2 x3 x4 x5 x6 x7 x8 x9; clear r0 r1 r2 r3 r4 r5; obtain ⟨r0, r1, r2, r3, r4, r5⟩ := five HZ.out.at_)
        | (go_at_call 25; refine (HS2.out _ _ _ _ _ _ _ (by first | exact HT1.out.lie | exact HT1.out.lie.stay (below_drew1 _) (Nat.le_refl _) | exact HT1.out.lie.stay ((Below.refl _ _).alloc (Nat.le_refl _) _) (Nat.le_refl _) | exact HT1.out.lie.stay (below_lit _ _) (Nat.le_refl _)) (by first | exact HNt.out.lie | exact HNt.out.lie.stay (below_drew1 _) (Nat.le_refl _) | exact HNt.out.lie.stay ((Below.refl _ _).alloc (Nat.le_refl _) _) (Nat.le_refl _) | exact HNt.out.lie.stay (below_lit _ _) (Nat.le_refl _))).mono ?_; rintro e w' ⟨k6, d6, G6, rfl, hl, hf, hb⟩; obtain ⟨⟨a7, b7, rfl⟩, ⟨a8, b8, rfl⟩⟩ := hl.slices; have HL := Lib.hid (res_keep H2.out hl hf (Nat.le_refl _)); clear hl hf; (first | (have hq := stepA H2.out hb; have hw := hq.2; replace H2 := Lib.hid hq.1; replace HSz := Lib.hid (And.intro HSz.out hw.size); clear hq) | (have hq := stepB H2.out hb; have hw := hq.2; replace H2 := Lib.hid hq.1; replace HSz := Lib.hid (And.intro HSz.out hw.size); clear hq) | (have hq := stepC H2.out hb (by simp); have hw := hq.2.1; have HZ := Lib.hid hq.2.2.1; replace H2 := Lib.hid hq.1; replace HSz := Lib.hid (And.intro HSz.out hq.2.2.2); clear hq) | (have hq := stepD H2.out hb; have hw := hq.2.1; have HZ := Lib.hid hq.2.2.1; replace H2 := Lib.hid hq.1; replace HSz := Lib.hid (And.intro HSz.out hq.2.2.2); clear hq)); (try replace HZ := Lib.hid (HZ.out.next hw)); (try replace HHd := Lib.hid (HHd.out.next hw)); (try replace HMt := Lib.hid (HMt.out.next hw)); (try replace HT1 := Lib.hid (HT1.out.next hw)); (try replace HNt := Lib.hid (HNt.out.next hw)); clear hw hb; clear x0 x1 x2 x3 x4 x5 x6 x7 x8 x9; have x0 := cell_of H2.out.arg 0; have x1 := cell_of H2.out.arg 1; have x2 := cell_of H2.out.arg 2; have x3 := cell_of H2.out.arg 3; have x4 := cell_of H2.out.arg 4; have x5 := cell_of H2.out.arg 5; have x6 := cell_of H2.out.arg 6; have x7 := cell_of H2.out.arg 7; have x8 := cell_of H2.out.arg 8; have x9 := cell_of H2.out.arg 9; simp only [List.getElem?_toArray, List.getElem?_cons_zero, List.getElem?_cons_succ] at x0 x1 x2 x3 x4 x5 x6 x7 x8 x9; clear r0 r1 r2 r3 r4 r5; obtain ⟨r0, r1, r2, r3, r4, r5⟩ := five HZ.out.at_; obtain ⟨s0, s1, s2, s3, s4, s5⟩ := five H2.out.res))
    all_goals
      have HF := res_fin H2.out HL.out
      go_wp2
      exact bodyPost_ret (ret_node Tryz.results16 rfl HF.1) rfl ⟨_, _, _, rfl, HF.2.1, HF.2.2.1, HF.2.2.2⟩
end Go.Proofs.YtfgfgmbifdojcaaGreatDoor

/- for any order the program's MidTree answers as the model's MidTree does, in memory of its own, and the law returns true with its argument as it was; condition: the library's table of powers of ten starts as the program's text lays it. -/
namespace Go.Proofs.YtfgfgmbifdojcaaGreatDoor
open Go Go.RowKit

/-- What MidTree answers. -/
noncomputable def ansM (O : Ord) : RT := if O.okB = true then midT O else .node 0 0 ⟨#[]⟩ [] []

theorem ansM_sz {O : Ord} (hg : ∀ m ∈ O.mets, m.ok) : (ansM O).sz ≤ 500000 := by
  unfold ansM
  split
  · rename_i h
    have a := saved_sz h
    have b := midB_sz h hg (savedT O)
    unfold midT
    omega
  · have k : (⟨#[]⟩ : ByteArray).size = 0 := rfl
    simp only [RT.sz, szAll, strSz, k, List.length_nil, List.map_nil, List.sum_nil]
    omega

theorem impl_mid {O : Ord} {mv nv : Value} {FM FN : List Nat} (w : World) (ho : OrdAt w O mv nv FM FN) (htab : Lib.TabIs Tryz.prog w "internal/strconv.uint64pow10" .u64 Lib.pow10Tab) :
    Calls Tryz.prog 17 #[.agg #[.string O.name, .string O.target, .int .i64 O.low, .int .i64 O.high, mv, .int .i64 O.pace.up, .int .i64 O.pace.down, .int .i64 O.pace.ups, .int .i64 O.pace.downs, nv]] w fun e w' => ∃ kv dv F, e = .returned (.agg #[.int .i64 (ansM O).k, .int .i64 (ansM O).n, .string (ansM O).s, kv, dv]) ∧ Lies w' (ansM O) kv dv F ∧ Fresh w w' F ∧ Below w.heap.size w w' := by
  by_cases hc : O.okB = true
  · have e : ansM O = midT O := if_pos hc
    rw [e]
    exact impl_midTree_yes w ho hc htab
  · have e : ansM O = .node 0 0 ⟨#[]⟩ [] [] := if_neg hc
    rw [e]
    refine (impl_midTree_no w ho (by simpa using hc)).mono ?_
    rintro e w' ⟨rfl, hb⟩
    exact ⟨_, _, [], rfl, leaf_lies w' ⟨by decide, by decide⟩ ⟨by decide, by decide⟩ (by decide), Fresh.nil _ _, hb⟩

theorem spec_mid {O : Ord} {mv nv : Value} {FM FN : List Nat} (w : World) (ho : OrdAt w O mv nv FM FN) :
    Calls Tryz.prog 16 #[.agg #[.string O.name, .string O.target, .int .i64 O.low, .int .i64 O.high, mv, .int .i64 O.pace.up, .int .i64 O.pace.down, .int .i64 O.pace.ups, .int .i64 O.pace.downs, nv]] w fun e w' => ∃ kv dv F, e = .returned (.agg #[.int .i64 (ansM O).k, .int .i64 (ansM O).n, .string (ansM O).s, kv, dv]) ∧ Lies w' (ansM O) kv dv F ∧ Fresh w w' F ∧ Below w.heap.size w w' := by
  by_cases hc : O.okB = true
  · have e : ansM O = midT O := if_pos hc
    rw [e]
    exact spec_midTree_yes w ho hc
  · have e : ansM O = .node 0 0 ⟨#[]⟩ [] [] := if_neg hc
    rw [e]
    refine (spec_midTree_no w ho (by simpa using hc)).mono ?_
    rintro e w' ⟨rfl, hb⟩
    exact ⟨_, _, [], rfl, leaf_lies w' ⟨by decide, by decide⟩ ⟨by decide, by decide⟩ (by decide), Fresh.nil _ _, hb⟩

set_option maxRecDepth 100000 in
set_option maxHeartbeats 16000000 in
theorem midTree_walk (A : Ord) (mvA nvA : Value) (FMA FNA : List Nat) (w : World) (hA : OrdAt w A mvA nvA FMA FNA) (htab : Lib.TabIs Tryz.prog w "internal/strconv.uint64pow10" .u64 Lib.pow10Tab) :
    Calls Tryz.prog 4 #[.agg #[.string A.name, .string A.target, .int .i64 A.low, .int .i64 A.high, mvA, .int .i64 A.pace.up, .int .i64 A.pace.down, .int .i64 A.pace.ups, .int .i64 A.pace.downs, nvA]] w fun e w' => e = .returned (.bool true) ∧ Below w.heap.size w w' := by
  have SA := Lib.hid fun (wr : World) (hb : Below w.heap.size w wr) => sz_order wr (hA.stay hb (Nat.le_refl _)) 1048576 (by omega) (by omega)
  have HX := Lib.hid (Bx.start w #[.string A.name, .string A.target, .int .i64 A.low, .int .i64 A.high, mvA, .int .i64 A.pace.up, .int .i64 A.pace.down, .int .i64 A.pace.ups, .int .i64 A.pace.downs, nvA] 27)
  by_cases hsA : (A.sz : Int) ≤ 1048576
  case neg =>
    clear hA htab
    go_enter Tryz.func4, Tryz.ntmps4
    go_wp2_with (first
      | (go_at_call 7; refine (SA.out _ HX.out.below).mono ?_; rintro e w1 ⟨rfl, hb1⟩; rw [left_no hsA]; replace HX := Lib.hid (HX.out.next hb1); clear hb1)
      | fail)
    go_ret
    exact ⟨rfl, HX.out.below⟩
  have hsz : A.sz ≤ 1048576 := by omega
  have TA := Lib.hid fun (wr : World) (hb : Below w.heap.size w wr) => to_order wr (hA.stay hb (Nat.le_refl _)) hsz
  have HT := Lib.hid (Lib.tabBelow_of_tabIs htab)
  have HS : Hid (∀ (W : World) (m n : Value) (F F' : List Nat), OrdAt W A m n F F' → Calls Tryz.prog 16 #[.agg #[.string A.name, .string A.target, .int .i64 A.low, .int .i64 A.high, m, .int .i64 A.pace.up, .int .i64 A.pace.down, .int .i64 A.pace.ups, .int .i64 A.pace.downs, n]] W fun e w' => ∃ kv dv F, e = .returned (.agg #[.int .i64 (ansM A).k, .int .i64 (ansM A).n, .string (ansM A).s, kv, dv]) ∧ Lies w' (ansM A) kv dv F ∧ Fresh W w' F ∧ Below W.heap.size W w') := fun W m n F F' h => spec_mid W h
  have HI : Hid (∀ (W : World) (m n : Value) (F F' : List Nat), OrdAt W A m n F F' → Below w.heap.size w W → Calls Tryz.prog 17 #[.agg #[.string A.name, .string A.target, .int .i64 A.low, .int .i64 A.high, m, .int .i64 A.pace.up, .int .i64 A.pace.down, .int .i64 A.pace.ups, .int .i64 A.pace.downs, n]] W fun e w' => ∃ kv dv F, e = .returned (.agg #[.int .i64 (ansM A).k, .int .i64 (ansM A).n, .string (ansM A).s, kv, dv]) ∧ Lies w' (ansM A) kv dv F ∧ Fresh W w' F ∧ Below W.heap.size W w') := fun W m n F F' h hW => impl_mid W h (HT.out _ hW)
  have HLn : Hid (A.mets.length ≤ 1048576 ∧ A.notes.length ≤ 1048576) := by unfold Ord.sz at hsz; exact ⟨by omega, by omega⟩
  have hcnt : 1 + (ansM A).cnt ≤ 1000000000 := by have := cnt_sz (ansM A); have := ansM_sz (RowAt.every hA.mets); omega
  have HCn := Lib.hid hcnt
  generalize ansM A = T at *
  have hlo := left_ok hsA
  have hp : (0 : Int) ≤ 1048576 - (A.sz : Int) := by omega
  clear hA htab hcnt
  have t1 : True := trivial
  go_enter Tryz.func4, Tryz.ntmps4
  go_wp2_with fail
  refine (SA.out _ HX.out.below).mono ?_
  rintro e w1 ⟨rfl, hb⟩
  rw [hlo]
  replace HX := Lib.hid (HX.out.next hb)
  clear hb hlo
  generalize 1048576 - (A.sz : Int) = SS at *
  have x0 := HX.out.cell 0
  have x1 := HX.out.cell 1
  have x2 := HX.out.cell 2
  have x3 := HX.out.cell 3
  have x4 := HX.out.cell 4
  have x5 := HX.out.cell 5
  have x6 := HX.out.cell 6
  have x7 := HX.out.cell 7
  have x8 := HX.out.cell 8
  have x9 := HX.out.cell 9
  go_wp2_with fail
  refine (TA.out _ HX.out.below).mono ?_
  rintro e w2 ⟨m1, n1, F1, F1', rfl, hl1, -, hb⟩
  have HL1 := Lib.hid hl1
  replace HX := Lib.hid (HX.out.next hb)
  clear hl1 hb x0 x1 x2 x3 x4 x5 x6 x7 x8 x9
  go_wp2_with fail
  refine (HS.out _ _ _ _ _ HL1.out).mono ?_
  rintro e w3 ⟨kW, dW, FW, rfl, hlW, hfW, hb3⟩
  obtain ⟨⟨oW, cW, rfl⟩, ⟨pW, qW, rfl⟩⟩ := hlW.slices
  have hbx3 := (Below.refl _ w3).alloc (Nat.le_refl _) (.cells #[.int .i64 T.k, .int .i64 T.n, .string T.s, .slice oW T.keys.length cW, .slice pW T.kids.length qW] 32)
  have HW := Lib.hid (And.intro (hlW.stay hbx3 (Nat.le_refl _)) (And.intro (heap_last w3 (.cells #[.int .i64 T.k, .int .i64 T.n, .string T.s, .slice oW T.keys.length cW, .slice pW T.kids.length qW] 32)) hlW.lt))
  have HB03 : Hid (w.heap.size ≤ w3.heap.size) := (HX.out.next hb3).below.size
  replace HX := Lib.hid ((HX.out.next hb3).next hbx3)
  have x0 := HX.out.cell 0
  have x1 := HX.out.cell 1
  have x2 := HX.out.cell 2
  have x3 := HX.out.cell 3
  have x4 := HX.out.cell 4
  have x5 := HX.out.cell 5
  have x6 := HX.out.cell 6
  have x7 := HX.out.cell 7
  have x8 := HX.out.cell 8
  have x9 := HX.out.cell 9
  clear hlW hfW hb3 hbx3 HL1
  go_wp2_with fail
  refine (TA.out _ HX.out.below).mono ?_
  rintro e w4 ⟨m3, n3, F3, F3', rfl, hl3, hf3, hb⟩
  have hbx4 := (Below.refl _ w4).alloc (Nat.le_refl _) (.cells #[.string A.name, .string A.target, .int .i64 A.low, .int .i64 A.high, .slice (some ⟨m3, 0, none⟩) A.mets.length A.mets.length, .int .i64 A.pace.up, .int .i64 A.pace.down, .int .i64 A.pace.ups, .int .i64 A.pace.downs, .slice (some ⟨n3, 0, none⟩) A.notes.length A.notes.length] 38)
  have HL3 := Lib.hid (And.intro (hl3.stay hbx4 (Nat.le_refl _)) (fun b hb' o => (hbx4.frozen (by rcases List.mem_append.1 hb' with h | h; exact RowAt.lt hl3.mets (by decide) b h; exact RowAt.lt hl3.notes (by decide) b h)).trans (hf3.free b hb' o)))
  have HF3 : Hid ((∀ x ∈ F3 ++ F3', w3.heap.size < x ∧ x < w4.heap.size) ∧ (∀ b ∈ F3', b ∉ F3)) := by
    refine ⟨fun x hx => ⟨by have := hf3.old x hx; simp at this; omega, by rcases List.mem_append.1 hx with h | h; exact RowAt.lt hl3.mets (by decide) x h; exact RowAt.lt hl3.notes (by decide) x h⟩, fun b hb1 hb2 => (List.nodup_append.1 hf3.nodup).2.2 b hb2 b hb1 rfl⟩
  have X0 := Lib.hid (Bx.start w4 #[.string A.name, .string A.target, .int .i64 A.low, .int .i64 A.high, .slice (some ⟨m3, 0, none⟩) A.mets.length A.mets.length, .int .i64 A.pace.up, .int .i64 A.pace.down, .int .i64 A.pace.ups, .int .i64 A.pace.downs, .slice (some ⟨n3, 0, none⟩) A.notes.length A.notes.length] 38)
  have HW4 : Hid (Lies w4 T (.slice oW T.keys.length cW) (.slice pW T.kids.length qW) FW ∧ w4.heap[w3.heap.size]? = some (.cells #[.int .i64 T.k, .int .i64 T.n, .string T.s, .slice oW T.keys.length cW, .slice pW T.kids.length qW] 32 (0, 0)) ∧ (∀ x ∈ FW, x < w3.heap.size)) := ⟨HW.out.1.stay hb (Nat.le_refl _), (hb.block _ (by simp)).trans HW.out.2.1, HW.out.2.2⟩
  replace HX := Lib.hid ((HX.out.next hb).next hbx4)
  replace HW := Lib.hid (And.intro (HW4.out.1.stay hbx4 (Nat.le_refl _)) (And.intro (blk_next HW4.out.2.1 hbx4) HW4.out.2.2))
  clear hl3 hf3 hb hbx4 HW4 x0 x1 x2 x3 x4 x5 x6 x7 x8 x9
  go_wp2_with fail
  refine (HI.out _ _ _ _ _ HL3.out.1 HX.out.below).mono ?_
  rintro e w5 ⟨kG, dG, FG, rfl, hlG, hfG, hb5⟩
  obtain ⟨⟨oG, cG, rfl⟩, ⟨pG, qG, rfl⟩⟩ := hlG.slices
  have hbx5 := (Below.refl _ w5).alloc (Nat.le_refl _) (.cells #[.int .i64 T.k, .int .i64 T.n, .string T.s, .slice oG T.keys.length cG, .slice pG T.kids.length qG] 32)
  have hb45 := hb5.trans (hbx5.mono hb5.size)
  have hsz5 : w4.heap.size + 1 ≤ w5.heap.size := by have := hb5.size; simp at this; exact this
  have H5z := Lib.hid hsz5
  have hw34 : w3.heap.size < w4.heap.size + 1 := by have := (Array.getElem?_eq_some_iff.1 HW.out.2.1).1; simp at this; omega
  have hoG : ∀ x ∈ FG, w4.heap.size + 1 ≤ x := fun x hx => by have := hfG.old x hx; simp at this; exact this
  have HGS : Hid (GState w (w5.alloc (.cells #[.int .i64 T.k, .int .i64 T.n, .string T.s, .slice oG T.keys.length cG, .slice pG T.kids.length qG] 32)) T T (.slice oW T.keys.length cW) (.slice pW T.kids.length qW) (.slice oG T.keys.length cG) (.slice pG T.kids.length qG) w3.heap.size w5.heap.size FW FG) := by
    refine ⟨HX.out.below.trans (hb45.mono HX.out.below.size), (hb45.block _ (by simp; omega)).trans HW.out.2.1, heap_last w5 _, HW.out.1.stay hb45 (Nat.le_refl _), hlG.stay hbx5 (Nat.le_refl _), hfG.nodup, fun b hb o => (hbx5.frozen (by exact hlG.lt b hb)).trans (hfG.free b hb o), ⟨fun hx => ?_, fun hx => ?_, fun x hx hx' => ?_⟩, fun x hx => ?_⟩
    · have := hoG _ hx; omega
    · have := hlG.lt _ hx; omega
    · have := hoG _ hx'; have := HW.out.2.2 x hx; omega
    · have := hoG _ hx; have := HX.out.below.size; simp at this; omega
  have HXb : Hid (∀ x ∈ FG, x ≠ w.heap.size) := fun x hx e => by have := hoG x hx; have := (Array.getElem?_eq_some_iff.1 HX.out.blk).1; simp at this; omega
  have HAp : Hid (w3.heap.size ∉ F3 ++ F3' ∧ w5.heap.size ∉ F3 ++ F3' ∧ (∀ x ∈ FW, x ∉ F3 ++ F3') ∧ (∀ x ∈ FG, x ∉ F3 ++ F3') ∧ (∀ x ∈ F3 ++ F3', w.heap.size < x)) := by
    refine ⟨fun hx => ?_, fun hx => ?_, fun x hx hx' => ?_, fun x hx hx' => ?_, fun x hx => ?_⟩
    · have := (HF3.out.1 _ hx).1; omega
    · have := (HF3.out.1 _ hx).2; omega
    · have := (HF3.out.1 _ hx').1; have := HW.out.2.2 x hx; omega
    · have := (HF3.out.1 _ hx').2; have := hoG x hx; omega
    · have := (HF3.out.1 _ hx).1; have := HB03.out; omega
  replace HX := Lib.hid (HX.out.next hb45)
  replace X0 := Lib.hid (X0.out.next hb45)
  replace HL3 := Lib.hid (And.intro (HL3.out.1.stay hb45 (Nat.le_refl _)) (fun b hb o => (hb45.frozen (by have := (HF3.out.1 b hb).2; show b < _; simp; omega)).trans (HL3.out.2 b hb o)))
  clear hlG hfG hb5 hbx5 hb45 HW hsz5 hw34 hoG
  obtain ⟨g0, g1, g2, g3, g4, -⟩ := five HGS.out.boxW
  go_wp2_with fail
  refine (eq_node T _ _ _ _ HGS.out.lieG _ _ _ _ HGS.out.lieW).mono ?_
  rintro e w6 ⟨rfl, hb⟩
  rw [same_yes rfl]
  replace HGS := Lib.hid (HGS.out.next hb)
  replace HX := Lib.hid (HX.out.next hb)
  replace X0 := Lib.hid (X0.out.next hb)
  replace HL3 := Lib.hid (And.intro (HL3.out.1.stay hb (Nat.le_refl _)) (fun b hb' o => (hb.frozen (by have := (HF3.out.1 b hb').2; have := H5z.out; show b < _; simp; omega)).trans (HL3.out.2 b hb' o)))
  clear hb g0 g1 g2 g3 g4
  have x0 := HX.out.cell 0
  have x1 := HX.out.cell 1
  have x2 := HX.out.cell 2
  have x3 := HX.out.cell 3
  have x4 := HX.out.cell 4
  have x5 := HX.out.cell 5
  have x6 := HX.out.cell 6
  have x7 := HX.out.cell 7
  have x8 := HX.out.cell 8
  have x9 := HX.out.cell 9
  have z0 := X0.out.cell 0
  have z1 := X0.out.cell 1
  have z2 := X0.out.cell 2
  have z3 := X0.out.cell 3
  have z4 := X0.out.cell 4
  have z5 := X0.out.cell 5
  have z6 := X0.out.cell 6
  have z7 := X0.out.cell 7
  have z8 := X0.out.cell 8
  have z9 := X0.out.cell 9
  go_wp2_with fail
  replace HX := Lib.hid (HX.out.drew 1); replace X0 := Lib.hid (X0.out.drew 1)
  have hbd := below_drewO (Below.refl w6.heap.size w6) 1
  replace HGS := Lib.hid (HGS.out.next hbd)
  replace HL3 := Lib.hid (And.intro (HL3.out.1.stay hbd (Nat.le_refl _)) (fun b hb' o => HL3.out.2 b hb' o))
  clear hbd
  go_region_held3 (fun w' => w'.cell? ⟨w.heap.size, 0, none⟩ = some (.string A.name) ∧ w'.cell? ⟨w.heap.size, 1, none⟩ = some (.string A.target) ∧ w'.cell? ⟨w.heap.size, 2, none⟩ = some (.int .i64 A.low) ∧ w'.cell? ⟨w.heap.size, 3, none⟩ = some (.int .i64 A.high) ∧ w'.cell? ⟨w.heap.size, 4, none⟩ = some (mvA) ∧ w'.cell? ⟨w.heap.size, 5, none⟩ = some (.int .i64 A.pace.up) ∧ w'.cell? ⟨w.heap.size, 6, none⟩ = some (.int .i64 A.pace.down) ∧ w'.cell? ⟨w.heap.size, 7, none⟩ = some (.int .i64 A.pace.ups) ∧ w'.cell? ⟨w.heap.size, 8, none⟩ = some (.int .i64 A.pace.downs) ∧ w'.cell? ⟨w.heap.size, 9, none⟩ = some (nvA) ∧ w'.cell? ⟨w4.heap.size, 0, none⟩ = some (.string A.name) ∧ w'.cell? ⟨w4.heap.size, 1, none⟩ = some (.string A.target) ∧ w'.cell? ⟨w4.heap.size, 2, none⟩ = some (.int .i64 A.low) ∧ w'.cell? ⟨w4.heap.size, 3, none⟩ = some (.int .i64 A.high) ∧ w'.cell? ⟨w4.heap.size, 4, none⟩ = some (.slice (some ⟨m3, 0, none⟩) A.mets.length A.mets.length) ∧ w'.cell? ⟨w4.heap.size, 5, none⟩ = some (.int .i64 A.pace.up) ∧ w'.cell? ⟨w4.heap.size, 6, none⟩ = some (.int .i64 A.pace.down) ∧ w'.cell? ⟨w4.heap.size, 7, none⟩ = some (.int .i64 A.pace.ups) ∧ w'.cell? ⟨w4.heap.size, 8, none⟩ = some (.int .i64 A.pace.downs) ∧ w'.cell? ⟨w4.heap.size, 9, none⟩ = some (.slice (some ⟨n3, 0, none⟩) A.notes.length A.notes.length)) (go_keep)
    (first
      | (go_at_call 9; refine (TA.out _ HX.out.below).mono ?_; rintro e w7 ⟨m5, n5, F5, F5', rfl, hl5, -, hb⟩
         replace HX := Lib.hid (HX.out.next hb); replace X0 := Lib.hid (X0.out.next hb); replace HGS := Lib.hid (HGS.out.next hb)
         have HB7 := Lib.hid hb
         have HL6 := Lib.hid hl5; clear hl5 hb; clear x0 x1 x2 x3 x4 x5 x6 x7 x8 x9; clear z0 z1 z2 z3 z4 z5 z6 z7 z8 z9; have x0 := HX.out.cell 0; have x1 := HX.out.cell 1; have x2 := HX.out.cell 2; have x3 := HX.out.cell 3; have x4 := HX.out.cell 4; have x5 := HX.out.cell 5; have x6 := HX.out.cell 6; have x7 := HX.out.cell 7; have x8 := HX.out.cell 8; have x9 := HX.out.cell 9; have z0 := X0.out.cell 0; have z1 := X0.out.cell 1; have z2 := X0.out.cell 2; have z3 := X0.out.cell 3; have z4 := X0.out.cell 4; have z5 := X0.out.cell 5; have z6 := X0.out.cell 6; have z7 := X0.out.cell 7; have z8 := X0.out.cell 8; have z9 := X0.out.cell 9)
      | (go_at_call 12; refine (eq_order _ (HL3.out.1.stay HB7.out (Nat.le_refl _)) HL6.out).mono ?_; rintro e w8 ⟨rfl, hb⟩
         replace HX := Lib.hid (HX.out.next hb); replace X0 := Lib.hid (X0.out.next hb); replace HGS := Lib.hid (HGS.out.next hb)
         have HB8 := Lib.hid (HB7.out.trans (hb.mono HB7.out.size))
         clear hb; clear x0 x1 x2 x3 x4 x5 x6 x7 x8 x9; clear z0 z1 z2 z3 z4 z5 z6 z7 z8 z9; have x0 := HX.out.cell 0; have x1 := HX.out.cell 1; have x2 := HX.out.cell 2; have x3 := HX.out.cell 3; have x4 := HX.out.cell 4; have x5 := HX.out.cell 5; have x6 := HX.out.cell 6; have x7 := HX.out.cell 7; have x8 := HX.out.cell 8; have x9 := HX.out.cell 9; have z0 := X0.out.cell 0; have z1 := X0.out.cell 1; have z2 := X0.out.cell 2; have z3 := X0.out.cell 3; have z4 := X0.out.cell 4; have z5 := X0.out.cell 5; have z6 := X0.out.cell 6; have z7 := X0.out.cell 7; have z8 := X0.out.cell 8; have z9 := X0.out.cell 9))
  go_wp2_with fail
  refine (mark_order _ (HL3.out.1.stay HB8.out (Nat.le_refl _)) (fun b hb' o => (HB8.out.frozen (by exact RowAt.lt HL3.out.1.mets (by decide) b hb')).trans (HL3.out.2 b (List.mem_append_left _ hb') o)) (fun b hb' o => (HB8.out.frozen (by exact RowAt.lt HL3.out.1.notes (by decide) b hb')).trans (HL3.out.2 b (List.mem_append_right _ hb') o)) HF3.out.2 HLn.out.1 HLn.out.2).mono ?_
  rintro e w9 ⟨qk, rfl, hb⟩
  replace HGS := Lib.hid (HGS.out.but hb HAp.out.1 HAp.out.2.1 HAp.out.2.2.1 HAp.out.2.2.2.1 (fun x hx => Nat.le_of_lt (HAp.out.2.2.2.2 x hx)))
  replace HX := Lib.hid (bx_but HX.out hb (fun hx => by have := HAp.out.2.2.2.2 _ hx; omega) (fun x hx => Nat.le_of_lt (HAp.out.2.2.2.2 x hx)))
  have hqk : ¬ ((qk : Int) < 0) := by omega
  clear hb x0 x1 x2 x3 x4 x5 x6 x7 x8 x9 z0 z1 z2 z3 z4 z5 z6 z7 z8 z9
  obtain ⟨g0, g1, g2, g3, g4, -⟩ := five HGS.out.boxW
  obtain ⟨y0, y1, y2, y3, y4, -⟩ := five HGS.out.boxG
  go_wp2_with fail
  refine (eq_node T _ _ _ _ HGS.out.lieG _ _ _ _ HGS.out.lieW).mono ?_
  rintro e w10 ⟨rfl, hb⟩
  rw [same_yes rfl]
  replace HGS := Lib.hid (HGS.out.next hb)
  replace HX := Lib.hid (HX.out.next hb)
  clear hb g0 g1 g2 g3 g4 y0 y1 y2 y3 y4
  obtain ⟨y0, y1, y2, y3, y4, -⟩ := five HGS.out.boxG
  go_wp2_with fail
  refine (mark_node1 T _ _ _ _ HGS.out.lieG HGS.out.nodup HGS.out.free HCn.out).mono ?_
  rintro e w11 ⟨rfl, hl11, hb11⟩
  replace HX := Lib.hid (bx_but HX.out hb11 (fun hx => HXb.out _ hx rfl) HGS.out.old)
  replace HGS := Lib.hid (HGS.out.mark hb11 hl11)
  clear hb11 hl11 y0 y1 y2 y3 y4
  have hc0 : ¬ (((1 + T.cnt : Nat) : Int) < 0) := by omega
  generalize hm1 : ((1 + T.cnt : Nat) : Int) = mm at *
  have HM1 := Lib.hid hm1
  clear hm1
  obtain ⟨y0, y1, y2, y3, y4, -⟩ := five HGS.out.boxG
  go_wp2_with fail
  refine (held_node1 T _ _ _ _ HGS.out.lieG HCn.out).mono ?_
  rintro e w12 ⟨rfl, hb⟩
  rw [HM1.out]
  replace HGS := Lib.hid (HGS.out.next hb)
  replace HX := Lib.hid (HX.out.next hb)
  have x0 := HX.out.cell 0
  have x1 := HX.out.cell 1
  have x2 := HX.out.cell 2
  have x3 := HX.out.cell 3
  have x4 := HX.out.cell 4
  have x5 := HX.out.cell 5
  have x6 := HX.out.cell 6
  have x7 := HX.out.cell 7
  have x8 := HX.out.cell 8
  have x9 := HX.out.cell 9
  clear hb y0 y1 y2 y3 y4
  go_wp2_with fail
  refine (TA.out _ HX.out.below).mono ?_
  rintro e w13 ⟨m9, n9, F9, F9', rfl, hl9, -, hb⟩
  have HL9 := Lib.hid hl9
  replace HGS := Lib.hid (HGS.out.next hb)
  replace HX := Lib.hid (HX.out.next hb)
  clear hl9 hb x0 x1 x2 x3 x4 x5 x6 x7 x8 x9
  go_wp2_with fail
  refine (HI.out _ _ _ _ _ HL9.out HX.out.below).mono ?_
  rintro e w14 ⟨kH, dH, FH, rfl, hlH, hfH, hb14⟩
  obtain ⟨⟨oH, cH, rfl⟩, ⟨pH, qH, rfl⟩⟩ := hlH.slices
  have hbx14 := (Below.refl _ w14).alloc (Nat.le_refl _) (.cells #[.int .i64 T.k, .int .i64 T.n, .string T.s, .slice oH T.keys.length cH, .slice pH T.kids.length qH] 32)
  replace HGS := Lib.hid ((HGS.out.next hb14).next hbx14)
  have HL14 := Lib.hid (hlH.stay hbx14 (Nat.le_refl _))
  clear hlH hfH hb14 hbx14 HL9 HX
  obtain ⟨g0, g1, g2, g3, g4, -⟩ := five HGS.out.boxW
  go_wp2_with fail
  refine (eq_node T _ _ _ _ HL14.out _ _ _ _ HGS.out.lieW).mono ?_
  rintro e w15 ⟨rfl, hb⟩
  rw [same_yes rfl]
  replace HGS := Lib.hid (HGS.out.next hb)
  clear hb g0 g1 g2 g3 g4
  obtain ⟨y0, y1, y2, y3, y4, -⟩ := five HGS.out.boxG
  go_wp2_with fail
  refine (held_node1 T _ _ _ _ HGS.out.lieG HCn.out).mono ?_
  rintro e w16 ⟨rfl, hb⟩
  rw [HM1.out]
  replace HGS := Lib.hid (HGS.out.next hb)
  clear hb y0 y1 y2 y3 y4
  go_wp2
  go_ret
  exact ⟨rfl, HGS.out.below⟩
end Go.Proofs.YtfgfgmbifdojcaaGreatDoor
