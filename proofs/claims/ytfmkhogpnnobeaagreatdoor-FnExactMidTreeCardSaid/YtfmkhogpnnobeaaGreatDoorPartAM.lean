/-
  What is proved: the model's FullTree of an order that is right: its tree, in memory of its own; of others the zero node; no condition.; for both flags the program's FlagOf answers as the model's FlagOf does, in memory of its own; no condition.; the program's nodeOk tells of a node alone whether it is as its kind has it.; the program's formOf, formOk and nodeOk, kind by kind.
-/
import Derived.Test.YtfmkhogpnnobeaaGreatDoorPartAI
import Derived.Test.YtfmkhogpnnobeaaGreatDoorPartAL
import Derived.Test.YtfmkhogpnnobeaaGreatDoorPartAJ
import Derived.Test.YtfmkhogpnnobeaaGreatDoorPartAC
import Derived.Test.YtfmkhogpnnobeaaGreatDoorPartAE
/- the model's FullTree of an order that is right: its tree, in memory of its own; of others the zero node; no condition. -/
namespace Go.Proofs.YtfmkhogpnnobeaaGreatDoor
open Go Go.RowKit

set_option maxRecDepth 100000 in
set_option maxHeartbeats 1600000 in
theorem spec_fullTree_no {O : Ord} {mv nv : Value} {FM FN : List Nat} (w : World) (ho : OrdAt w O mv nv FM FN) (hc : O.okB = false) :
    Calls Tryz.prog 48 #[.agg #[.string O.name, .string O.target, .int .i64 O.low, .int .i64 O.high, mv, .int .i64 O.pace.up, .int .i64 O.pace.down, .int .i64 O.pace.ups, .int .i64 O.pace.downs, nv]] w fun e w' => e = .returned (.agg #[.int .i64 0, .int .i64 0, .string ⟨#[]⟩, .slice none 0 0, .slice none 0 0]) ∧ Below w.heap.size w w' := by
  have HO := Lib.hid fun wr (hb : Below w.heap.size w wr) => spec_orderOk wr (ho.stay hb (Nat.le_refl _))
  obtain ⟨⟨om, cm, rfl⟩, on_, cn, rfl⟩ := ho.slices
  clear ho
  have H2 := Lib.hid (Two.start w (.cells #[.string O.name, .string O.target, .int .i64 O.low, .int .i64 O.high, .slice om O.mets.length cm, .int .i64 O.pace.up, .int .i64 O.pace.down, .int .i64 O.pace.ups, .int .i64 O.pace.downs, .slice on_ O.notes.length cn] 38) (.cells #[.int .i64 0, .int .i64 0, .string ⟨#[]⟩, .slice none 0 0, .slice none 0 0] 32))
  go_enter Tryz.func48, Tryz.ntmps48
  go_wp2_with (first
    | (go_at_call 21; refine (HO.out _ H2.out.below).mono ?_; rintro e w1 ⟨rfl, hb⟩; rw [hc]; replace H2 := Lib.hid (H2.out.next hb); clear hb; obtain ⟨r0, r1, r2, r3, r4, r5⟩ := five H2.out.res)
    | fail)
  exact bodyPost_ret (ret_node Tryz.results48 rfl (set5_end H2.out.res _ _ _ _ _)) rfl ⟨rfl, set5_below H2.out.below (by omega) _ _ _ _ _ _⟩

/-- Where FullTree stands behind its first assignment: its t lies in a block of its own. -/
structure FT (w wc : World) (a r : Obj) (T : RT) (bt : Nat) (kr dr : Value) (G : List Nat) : Prop where
  two : Two w wc a r
  one : wc.heap[bt]? = some (.cells #[.int .i64 T.k, .int .i64 T.n, .string T.s, kr, dr] 32 (0, 0))
  kid : ∃ lo hi, KidAt wc T kr dr G lo hi
  old : w.heap.size + 2 ≤ bt

theorem two_ne {w W : World} {a r : Obj} (h : Two w W a r) : ¬ w.heap.size = W.heap.size := by have := h.size; omega
theorem two_ne' {w W : World} {a r : Obj} (h : Two w W a r) : ¬ W.heap.size = w.heap.size := by have := h.size; omega
theorem one_ne {w W : World} {b : Nat} {o : Obj} (h : One w W b o) : ¬ w.heap.size = b := by have := h.old; omega
theorem one_ne' {w W : World} {b : Nat} {o : Obj} (h : One w W b o) : ¬ b = w.heap.size := by have := h.old; omega

theorem ft_alloc {w W : World} {a r : Obj} {T : RT} {kr dr : Value} {G : List Nat} {lo hi : Nat} (H2 : Two w W a r) (hl : KidAt W T kr dr G lo hi) : FT w (W.alloc (.cells #[.int .i64 T.k, .int .i64 T.n, .string T.s, kr, dr] 32)) a r T W.heap.size kr dr G := by
  have hb := (Below.refl _ W).alloc (Nat.le_refl _) (.cells #[.int .i64 T.k, .int .i64 T.n, .string T.s, kr, dr] 32)
  exact ⟨H2.next hb, heap_last W _, ⟨_, _, hl.next hb⟩, H2.size⟩

theorem ft_put {w W : World} {a r : Obj} {T : RT} {kr dr : Value} {G : List Nat} {lo hi bt : Nat} {z0 z1 z2 z3 z4 : Value} (H2 : Two w W a r) (HZ : One w W bt (.cells #[z0, z1, z2, z3, z4] 32)) (hl : KidAt W T kr dr G lo hi) (hne : bt < lo ∨ hi ≤ bt) :
    FT w (set5 W bt 0 (.int .i64 T.k) (.int .i64 T.n) (.string T.s) kr dr) a r T bt kr dr G := by
  have hold := HZ.old
  have keep : ∀ x, x ≠ bt → (set5 W bt 0 (.int .i64 T.k) (.int .i64 T.n) (.string T.s) kr dr).heap[x]? = W.heap[x]? := fun x hx => set5_other _ _ _ _ _ _ _ _ _ hx
  exact ⟨⟨set5_below H2.below (by omega) _ _ _ _ _ _, (keep _ (by omega)).trans H2.arg, (keep _ (by omega)).trans H2.res, by rw [set5_size]; exact H2.size⟩, set5_end HZ.at_ _ _ _ _ _, ⟨_, _, hl.lie.carry fun x hx => keep x (by have := hl.span x hx; omega), hl.nodup, fun x hx o => (World.frozen?_of_block (a := ⟨x, o, none⟩) (keep x (by have := hl.span x hx; omega))).trans (hl.free x hx o), hl.span⟩, hold⟩

set_option maxRecDepth 100000 in
set_option maxHeartbeats 8000000 in
theorem spec_fullTree_yes {O : Ord} {mv nv : Value} {FM FN : List Nat} (w : World) (ho : OrdAt w O mv nv FM FN) (hc : O.okB = true) :
    Calls Tryz.prog 48 #[.agg #[.string O.name, .string O.target, .int .i64 O.low, .int .i64 O.high, mv, .int .i64 O.pace.up, .int .i64 O.pace.down, .int .i64 O.pace.ups, .int .i64 O.pace.downs, nv]] w fun e w' => ∃ kv dv F, e = .returned (.agg #[.int .i64 (fullT O).k, .int .i64 (fullT O).n, .string (fullT O).s, kv, dv]) ∧ Lies w' (fullT O) kv dv F ∧ Fresh w w' F ∧ Below w.heap.size w w' := by
  obtain ⟨hn1, hn2, ⟨hm1, hm2⟩, hs1, hs2, hs3⟩ := okB_out hc
  have hmz := mets_sz hc (RowAt.every ho.mets)
  have hnz := notes_sz hc
  have hhz := head_sz hc ⟨#[102, 117, 108, 108]⟩ (by decide)
  have hpz := pacT_sz O.pace ho.pace
  have HO := Lib.hid fun wr (hb : Below w.heap.size w wr) => spec_orderOk wr (ho.stay hb (Nat.le_refl _))
  have HMs := Lib.hid fun wr (hb : Below w.heap.size w wr) => spec_l7Metrics wr (RowAt.stay ho.mets (by decide) hb (Nat.le_refl _)) (by omega) (fun m hm => by have := hm2 m hm; omega)
  have HNs : Hid (∀ wr, Below w.heap.size w wr → Calls Tryz.prog 61 #[nv] wr fun e w' => ∃ kv dv G, e = .returned (.agg #[.int .i64 5, .int .i64 0, .string ⟨#[]⟩, kv, dv]) ∧ Lies w' (notesT O.notes) kv dv G ∧ Fresh wr w' G ∧ Below wr.heap.size wr w') := fun wr hb => spec_l7Notes wr (RowAt.stay ho.notes (by decide) hb (Nat.le_refl _)) (by omega) hs3 (by omega)
  have HPs : Hid (∀ W, Calls Tryz.prog 63 #[.agg #[.int .i64 O.pace.up, .int .i64 O.pace.down, .int .i64 O.pace.ups, .int .i64 O.pace.downs]] W fun e w' => ∃ kv dv F, e = .returned (.agg #[.int .i64 5, .int .i64 0, .string ⟨#[]⟩, kv, dv]) ∧ Lies w' (pacT O.pace) kv dv F ∧ Fresh W w' F ∧ Below W.heap.size W w') := fun W => spec_paceTree _ _ _ _ ho.pace.1 ho.pace.2.1 ho.pace.2.2.1 ho.pace.2.2.2 W
  have HHs : Hid (∀ (om on_ : Option Addr) (cm cn : Nat) W, Calls Tryz.prog 23 #[.agg #[.string O.name, .string O.target, .int .i64 O.low, .int .i64 O.high, .slice om O.mets.length cm, .int .i64 O.pace.up, .int .i64 O.pace.down, .int .i64 O.pace.ups, .int .i64 O.pace.downs, .slice on_ O.notes.length cn], .string ⟨#[102, 117, 108, 108]⟩] W fun e w' => ∃ kv dv F, e = .returned (.agg #[.int .i64 (headT ⟨#[102, 117, 108, 108]⟩ O).k, .int .i64 (headT ⟨#[102, 117, 108, 108]⟩ O).n, .string (headT ⟨#[102, 117, 108, 108]⟩ O).s, kv, dv]) ∧ Lies w' (headT ⟨#[102, 117, 108, 108]⟩ O) kv dv F ∧ Fresh W w' F ∧ Below W.heap.size W w') := fun om on_ cm cn W => spec_l7Head ⟨#[102, 117, 108, 108]⟩ O om on_ _ cm _ cn hn1 hn2 (by decide) ho.low ho.high W
  have hE := full_sets O
  obtain ⟨⟨om, cm, rfl⟩, on_, cn, rfl⟩ := ho.slices
  have z1 := setT_sz (headT ⟨#[102, 117, 108, 108]⟩ O) (metsT O.mets) ⟨#[109, 101, 116, 114, 105, 99, 115]⟩
  have z2 := setT_sz (setT (headT ⟨#[102, 117, 108, 108]⟩ O) ⟨#[109, 101, 116, 114, 105, 99, 115]⟩ (metsT O.mets)) (pacT O.pace) ⟨#[112, 97, 99, 101]⟩
  have k1 : (⟨#[109, 101, 116, 114, 105, 99, 115]⟩ : ByteArray).size = 7 := rfl
  have k2 : (⟨#[112, 97, 99, 101]⟩ : ByteArray).size = 4 := rfl
  clear ho hm1 hm2 hs1 hs2 hs3 hn1 hn2
  generalize hTH : headT ⟨#[102, 117, 108, 108]⟩ O = TH at *
  generalize hT1 : setT TH ⟨#[109, 101, 116, 114, 105, 99, 115]⟩ (metsT O.mets) = T1 at *
  generalize hT2 : setT T1 ⟨#[112, 97, 99, 101]⟩ (pacT O.pace) = T2 at *
  generalize fullT O = T3 at *
  have HS1 : Hid (∀ X kv dv G kx dx G', Lies X TH kv dv G → Lies X (metsT O.mets) kx dx G' → Calls Tryz.prog 22 #[.agg #[.int .i64 TH.k, .int .i64 TH.n, .string TH.s, kv, dv], .string ⟨#[109, 101, 116, 114, 105, 99, 115]⟩, .agg #[.int .i64 4, .int .i64 0, .string ⟨#[]⟩, kx, dx]] X fun e w' => ∃ kr dr F, e = .returned (.agg #[.int .i64 T1.k, .int .i64 T1.n, .string T1.s, kr, dr]) ∧ Lies w' T1 kr dr F ∧ Fresh X w' F ∧ Below X.heap.size X w') := fun X kv dv G kx dx G' hl hx => by have h := spec_set TH (metsT O.mets) ⟨#[109, 101, 116, 114, 105, 99, 115]⟩ X kv dv kx dx G G' hl hx (by omega) (by omega) (by decide); rw [hT1] at h; exact h
  have HS2 : Hid (∀ X kv dv G kx dx G', Lies X T1 kv dv G → Lies X (pacT O.pace) kx dx G' → Calls Tryz.prog 22 #[.agg #[.int .i64 T1.k, .int .i64 T1.n, .string T1.s, kv, dv], .string ⟨#[112, 97, 99, 101]⟩, .agg #[.int .i64 5, .int .i64 0, .string ⟨#[]⟩, kx, dx]] X fun e w' => ∃ kr dr F, e = .returned (.agg #[.int .i64 T2.k, .int .i64 T2.n, .string T2.s, kr, dr]) ∧ Lies w' T2 kr dr F ∧ Fresh X w' F ∧ Below X.heap.size X w') := fun X kv dv G kx dx G' hl hx => by have h := spec_set T1 (pacT O.pace) ⟨#[112, 97, 99, 101]⟩ X kv dv kx dx G G' hl hx (by omega) (by omega) (by decide); rw [hT2] at h; exact h
  have HS3 : Hid (∀ X kv dv G kx dx G', Lies X T2 kv dv G → Lies X (notesT O.notes) kx dx G' → Calls Tryz.prog 22 #[.agg #[.int .i64 T2.k, .int .i64 T2.n, .string T2.s, kv, dv], .string ⟨#[110, 111, 116, 101, 115]⟩, .agg #[.int .i64 5, .int .i64 0, .string ⟨#[]⟩, kx, dx]] X fun e w' => ∃ kr dr F, e = .returned (.agg #[.int .i64 T3.k, .int .i64 T3.n, .string T3.s, kr, dr]) ∧ Lies w' T3 kr dr F ∧ Fresh X w' F ∧ Below X.heap.size X w') := fun X kv dv G kx dx G' hl hx => by have h := spec_set T2 (notesT O.notes) ⟨#[110, 111, 116, 101, 115]⟩ X kv dv kx dx G G' hl hx (by omega) (by omega) (by decide); rw [hE] at h; exact h
  clear hTH hT1 hT2 hE z1 z2 k1 k2 hmz hnz hhz hpz
  have H2 := Lib.hid (Two.start w (.cells #[.string O.name, .string O.target, .int .i64 O.low, .int .i64 O.high, .slice om O.mets.length cm, .int .i64 O.pace.up, .int .i64 O.pace.down, .int .i64 O.pace.ups, .int .i64 O.pace.downs, .slice on_ O.notes.length cn] 38) (.cells #[.int .i64 0, .int .i64 0, .string ⟨#[]⟩, .slice none 0 0, .slice none 0 0] 32))
  go_enter Tryz.func48, Tryz.ntmps48
  go_wp2_with (first
    | (go_at_call 21; refine (HO.out _ H2.out.below).mono ?_; rintro e w1 ⟨rfl, hb⟩; rw [hc]; replace H2 := Lib.hid (H2.out.next hb); clear hb)
    | fail)
  go_cut [3] (fun p wc => ∃ (bt : Nat) (kr dr : Value) (G : List Nat), p = .pointer (some ⟨bt, 0, none⟩) ∧ Hid (FT w wc (.cells #[.string O.name, .string O.target, .int .i64 O.low, .int .i64 O.high, .slice om O.mets.length cm, .int .i64 O.pace.up, .int .i64 O.pace.down, .int .i64 O.pace.ups, .int .i64 O.pace.downs, .slice on_ O.notes.length cn] 38) (.cells #[.int .i64 0, .int .i64 0, .string ⟨#[]⟩, .slice none 0 0, .slice none 0 0] 32) T1 bt kr dr G))
  case first =>
    have x0 := cell_of H2.out.arg 0
    have x1 := cell_of H2.out.arg 1
    have x2 := cell_of H2.out.arg 2
    have x3 := cell_of H2.out.arg 3
    have x4 := cell_of H2.out.arg 4
    have x5 := cell_of H2.out.arg 5
    have x6 := cell_of H2.out.arg 6
    have x7 := cell_of H2.out.arg 7
    have x8 := cell_of H2.out.arg 8
    have x9 := cell_of H2.out.arg 9
    simp only [List.getElem?_toArray, List.getElem?_cons_zero, List.getElem?_cons_succ] at x0 x1 x2 x3 x4 x5 x6 x7 x8 x9
    have HSz : Hid (w.heap.size + 2 ≤ w1.heap.size) := H2.out.size
    go_region_held3 (fun w' => w'.cell? ⟨w.heap.size, 0, none⟩ = some (.string O.name) ∧ w'.cell? ⟨w.heap.size, 1, none⟩ = some (.string O.target) ∧ w'.cell? ⟨w.heap.size, 2, none⟩ = some (.int .i64 O.low) ∧ w'.cell? ⟨w.heap.size, 3, none⟩ = some (.int .i64 O.high) ∧ w'.cell? ⟨w.heap.size, 4, none⟩ = some (.slice om O.mets.length cm) ∧ w'.cell? ⟨w.heap.size, 5, none⟩ = some (.int .i64 O.pace.up) ∧ w'.cell? ⟨w.heap.size, 6, none⟩ = some (.int .i64 O.pace.down) ∧ w'.cell? ⟨w.heap.size, 7, none⟩ = some (.int .i64 O.pace.ups) ∧ w'.cell? ⟨w.heap.size, 8, none⟩ = some (.int .i64 O.pace.downs) ∧ w'.cell? ⟨w.heap.size, 9, none⟩ = some (.slice on_ O.notes.length cn)) (go_keep)
      (first
        | (go_at_call 23; refine (HHs.out _ _ _ _ _).mono ?_; rintro e w' ⟨kh, dh, GH, rfl, hl, hf, hb⟩; obtain ⟨⟨a1, b1, rfl⟩, ⟨a2, b2, rfl⟩⟩ := hl.slices; (first | (have HHd := Lib.hid (kid_at0 H2.out hl hf rfl)) | (have HHd := Lib.hid (kid_at1 H2.out hl hf (by simp))) | (have HHd := Lib.hid (kid_at1 H2.out hl hf (by simp [World.drew])))); clear hl hf; (first | (have hq := stepA H2.out hb; have hw := hq.2; replace H2 := Lib.hid hq.1; replace HSz := Lib.hid (And.intro HSz.out hw.size); clear hq) | (have hq := stepB H2.out hb; have hw := hq.2; replace H2 := Lib.hid hq.1; replace HSz := Lib.hid (And.intro HSz.out hw.size); clear hq) | (have hq := stepC H2.out hb (by simp); have hw := hq.2.1; have HZ := Lib.hid hq.2.2.1; replace H2 := Lib.hid hq.1; replace HSz := Lib.hid (And.intro HSz.out hq.2.2.2); clear hq) | (have hq := stepD H2.out hb; have hw := hq.2.1; have HZ := Lib.hid hq.2.2.1; replace H2 := Lib.hid hq.1; replace HSz := Lib.hid (And.intro HSz.out hq.2.2.2); clear hq)); (try replace HZ := Lib.hid (HZ.out.next hw)); (try replace HHd := Lib.hid (HHd.out.next hw)); (try replace HMt := Lib.hid (HMt.out.next hw)); (try replace HT1 := Lib.hid (HT1.out.next hw)); (try replace HPt := Lib.hid (HPt.out.next hw)); (try replace HT2 := Lib.hid (HT2.out.next hw)); (try replace HNt := Lib.hid (HNt.out.next hw)); clear hw hb; clear x0 x1 x2 x3 x4 x5 x6 x7 x8 x9; have x0 := cell_of H2.out.arg 0; have x1 := cell_of H2.out.arg 1; have x2 := cell_of H2.out.arg 2; have x3 := cell_of H2.out.arg 3; have x4 := cell_of H2.out.arg 4; have x5 := cell_of H2.out.arg 5; have x6 := cell_of H2.out.arg 6; have x7 := cell_of H2.out.arg 7; have x8 := cell_of H2.out.arg 8; have x9 := cell_of H2.out.arg 9; simp only [List.getElem?_toArray, List.getElem?_cons_zero, List.getElem?_cons_succ] at x0 x1 x2 x3 x4 x5 x6 x7 x8 x9)
        | (go_at_call 24; refine (HMs.out _ (by first | exact H2.out.below | exact H2.out.below.trans ((below_drew1 _).mono H2.out.below.size) | exact H2.out.below.trans (((Below.refl _ _).alloc (Nat.le_refl _) _).mono H2.out.below.size) | exact H2.out.below.trans ((below_lit _ _).mono H2.out.below.size))).mono ?_; rintro e w' ⟨dm, GM, rfl, hl, hf, hb⟩; obtain ⟨a3, b3, rfl⟩ := hl.slices.2; (first | (have HMt := Lib.hid (kid_at0 H2.out hl hf rfl)) | (have HMt := Lib.hid (kid_at1 H2.out hl hf (by simp))) | (have HMt := Lib.hid (kid_at1 H2.out hl hf (by simp [World.drew])))); clear hl hf; (first | (have hq := stepA H2.out hb; have hw := hq.2; replace H2 := Lib.hid hq.1; replace HSz := Lib.hid (And.intro HSz.out hw.size); clear hq) | (have hq := stepB H2.out hb; have hw := hq.2; replace H2 := Lib.hid hq.1; replace HSz := Lib.hid (And.intro HSz.out hw.size); clear hq) | (have hq := stepC H2.out hb (by simp); have hw := hq.2.1; have HZ := Lib.hid hq.2.2.1; replace H2 := Lib.hid hq.1; replace HSz := Lib.hid (And.intro HSz.out hq.2.2.2); clear hq) | (have hq := stepD H2.out hb; have hw := hq.2.1; have HZ := Lib.hid hq.2.2.1; replace H2 := Lib.hid hq.1; replace HSz := Lib.hid (And.intro HSz.out hq.2.2.2); clear hq)); (try replace HZ := Lib.hid (HZ.out.next hw)); (try replace HHd := Lib.hid (HHd.out.next hw)); (try replace HMt := Lib.hid (HMt.out.next hw)); (try replace HT1 := Lib.hid (HT1.out.next hw)); (try replace HPt := Lib.hid (HPt.out.next hw)); (try replace HT2 := Lib.hid (HT2.out.next hw)); (try replace HNt := Lib.hid (HNt.out.next hw)); clear hw hb; clear x0 x1 x2 x3 x4 x5 x6 x7 x8 x9; have x0 := cell_of H2.out.arg 0; have x1 := cell_of H2.out.arg 1; have x2 := cell_of H2.out.arg 2; have x3 := cell_of H2.out.arg 3; have x4 := cell_of H2.out.arg 4; have x5 := cell_of H2.out.arg 5; have x6 := cell_of H2.out.arg 6; have x7 := cell_of H2.out.arg 7; have x8 := cell_of H2.out.arg 8; have x9 := cell_of H2.out.arg 9; simp only [List.getElem?_toArray, List.getElem?_cons_zero, List.getElem?_cons_succ] at x0 x1 x2 x3 x4 x5 x6 x7 x8 x9)
        | (go_at_call 22; refine (HS1.out _ _ _ _ _ _ _ (by first | exact HHd.out.lie | exact HHd.out.lie.stay (below_drew1 _) (Nat.le_refl _) | exact HHd.out.lie.stay ((Below.refl _ _).alloc (Nat.le_refl _) _) (Nat.le_refl _) | exact HHd.out.lie.stay (below_lit _ _) (Nat.le_refl _)) (by first | exact HMt.out.lie | exact HMt.out.lie.stay (below_drew1 _) (Nat.le_refl _) | exact HMt.out.lie.stay ((Below.refl _ _).alloc (Nat.le_refl _) _) (Nat.le_refl _) | exact HMt.out.lie.stay (below_lit _ _) (Nat.le_refl _))).mono ?_; rintro e w' ⟨kr, dr, G1, rfl, hl, hf, hb⟩; obtain ⟨⟨a4, b4, rfl⟩, ⟨a5, b5, rfl⟩⟩ := hl.slices; (first | (have HT1 := Lib.hid (kid_at0 H2.out hl hf rfl)) | (have HT1 := Lib.hid (kid_at1 H2.out hl hf (by simp))) | (have HT1 := Lib.hid (kid_at1 H2.out hl hf (by simp [World.drew])))); clear hl hf; (first | (have hq := stepA H2.out hb; have hw := hq.2; replace H2 := Lib.hid hq.1; replace HSz := Lib.hid (And.intro HSz.out hw.size); clear hq) | (have hq := stepB H2.out hb; have hw := hq.2; replace H2 := Lib.hid hq.1; replace HSz := Lib.hid (And.intro HSz.out hw.size); clear hq) | (have hq := stepC H2.out hb (by simp); have hw := hq.2.1; have HZ := Lib.hid hq.2.2.1; replace H2 := Lib.hid hq.1; replace HSz := Lib.hid (And.intro HSz.out hq.2.2.2); clear hq) | (have hq := stepD H2.out hb; have hw := hq.2.1; have HZ := Lib.hid hq.2.2.1; replace H2 := Lib.hid hq.1; replace HSz := Lib.hid (And.intro HSz.out hq.2.2.2); clear hq)); (try replace HZ := Lib.hid (HZ.out.next hw)); (try replace HHd := Lib.hid (HHd.out.next hw)); (try replace HMt := Lib.hid (HMt.out.next hw)); (try replace HT1 := Lib.hid (HT1.out.next hw)); (try replace HPt := Lib.hid (HPt.out.next hw)); (try replace HT2 := Lib.hid (HT2.out.next hw)); (try replace HNt := Lib.hid (HNt.out.next hw)); clear hw hb; clear x0 x1 x2 x3 x4 x5 x6 x7 x8 x9; have x0 := cell_of H2.out.arg 0; have x1 := cell_of H2.out.arg 1; have x2 := cell_of H2.out.arg 2; have x3 := cell_of H2.out.arg 3; have x4 := cell_of H2.out.arg 4; have x5 := cell_of H2.out.arg 5; have x6 := cell_of H2.out.arg 6; have x7 := cell_of H2.out.arg 7; have x8 := cell_of H2.out.arg 8; have x9 := cell_of H2.out.arg 9; simp only [List.getElem?_toArray, List.getElem?_cons_zero, List.getElem?_cons_succ] at x0 x1 x2 x3 x4 x5 x6 x7 x8 x9; have hn1 := two_ne H2.out; have hn2 := two_ne' H2.out; (try (have hfv := five HZ.out.at_; have hn3 := one_ne HZ.out; have hn4 := one_ne' HZ.out; obtain ⟨r0, r1, r2, r3, r4, r5⟩ := hfv))))
    all_goals go_wp2_with fail
    all_goals go_meet
    all_goals
      have hsz := HSz.out
      first
        | exact ⟨_, _, _, _, rfl, ft_put H2.out HZ.out HT1.out (by omega)⟩
        | exact ⟨_, _, _, _, rfl, ft_alloc H2.out HT1.out⟩
  case rest =>
    obtain ⟨bt, kr, dr, G, rfl, hft⟩ := hcut
    obtain ⟨lo1, hi1, hk1⟩ := hft.out.kid
    replace H2 := Lib.hid hft.out.two
    have HZ : Hid (One w wc bt _) := ⟨hft.out.one, hft.out.old⟩
    have HT1 := Lib.hid hk1
    have HSz : Hid (w.heap.size + 2 ≤ wc.heap.size) := H2.out.size
    obtain ⟨⟨e1, f1, rfl⟩, ⟨e2, f2, rfl⟩⟩ := hk1.lie.slices
    have hn3 := one_ne HZ.out
    have hn4 := one_ne' HZ.out
    have hn5 : ¬ w.heap.size + 1 = bt := by have := HZ.out.old; omega
    have hn6 : ¬ bt = w.heap.size + 1 := by have := HZ.out.old; omega
    clear hk1 hft
    have x0 := cell_of H2.out.arg 0
    have x1 := cell_of H2.out.arg 1
    have x2 := cell_of H2.out.arg 2
    have x3 := cell_of H2.out.arg 3
    have x4 := cell_of H2.out.arg 4
    have x5 := cell_of H2.out.arg 5
    have x6 := cell_of H2.out.arg 6
    have x7 := cell_of H2.out.arg 7
    have x8 := cell_of H2.out.arg 8
    have x9 := cell_of H2.out.arg 9
    simp only [List.getElem?_toArray, List.getElem?_cons_zero, List.getElem?_cons_succ] at x0 x1 x2 x3 x4 x5 x6 x7 x8 x9
    obtain ⟨r0, r1, r2, r3, r4, r5⟩ := five HZ.out.at_
    have tt1 : True := trivial
    go_wp2_with fail
    go_region_held3 (fun w' => w'.cell? ⟨w.heap.size, 0, none⟩ = some (.string O.name) ∧ w'.cell? ⟨w.heap.size, 1, none⟩ = some (.string O.target) ∧ w'.cell? ⟨w.heap.size, 2, none⟩ = some (.int .i64 O.low) ∧ w'.cell? ⟨w.heap.size, 3, none⟩ = some (.int .i64 O.high) ∧ w'.cell? ⟨w.heap.size, 4, none⟩ = some (.slice om O.mets.length cm) ∧ w'.cell? ⟨w.heap.size, 5, none⟩ = some (.int .i64 O.pace.up) ∧ w'.cell? ⟨w.heap.size, 6, none⟩ = some (.int .i64 O.pace.down) ∧ w'.cell? ⟨w.heap.size, 7, none⟩ = some (.int .i64 O.pace.ups) ∧ w'.cell? ⟨w.heap.size, 8, none⟩ = some (.int .i64 O.pace.downs) ∧ w'.cell? ⟨w.heap.size, 9, none⟩ = some (.slice on_ O.notes.length cn) ∧ w'.cell? ⟨bt, 0, none⟩ = some (.int .i64 T1.k) ∧ w'.cell? ⟨bt, 1, none⟩ = some (.int .i64 T1.n) ∧ w'.cell? ⟨bt, 2, none⟩ = some (.string T1.s) ∧ w'.cell? ⟨bt, 3, none⟩ = some (.slice e1 T1.keys.length f1) ∧ w'.cell? ⟨bt, 4, none⟩ = some (.slice e2 T1.kids.length f2)) (go_keep)
      (first
        | (go_at_call 63; refine (HPs.out _).mono ?_; rintro e w' ⟨kp, dp, GP, rfl, hl, hf, hb⟩; obtain ⟨⟨a1, b1, rfl⟩, ⟨a2, b2, rfl⟩⟩ := hl.slices; (first | (have HPt := Lib.hid (kid_at0 H2.out hl hf rfl)) | (have HPt := Lib.hid (kid_at1 H2.out hl hf (by simp))) | (have HPt := Lib.hid (kid_at1 H2.out hl hf (by simp [World.drew])))); clear hl hf; (first | (have hq := stepA H2.out hb; have hw := hq.2; replace H2 := Lib.hid hq.1; replace HSz := Lib.hid (And.intro HSz.out hw.size); clear hq) | (have hq := stepB H2.out hb; have hw := hq.2; replace H2 := Lib.hid hq.1; replace HSz := Lib.hid (And.intro HSz.out hw.size); clear hq) | (have hq := stepC H2.out hb (by simp); have hw := hq.2.1; have HZ := Lib.hid hq.2.2.1; replace H2 := Lib.hid hq.1; replace HSz := Lib.hid (And.intro HSz.out hq.2.2.2); clear hq) | (have hq := stepD H2.out hb; have hw := hq.2.1; have HZ := Lib.hid hq.2.2.1; replace H2 := Lib.hid hq.1; replace HSz := Lib.hid (And.intro HSz.out hq.2.2.2); clear hq)); (try replace HZ := Lib.hid (HZ.out.next hw)); (try replace HHd := Lib.hid (HHd.out.next hw)); (try replace HMt := Lib.hid (HMt.out.next hw)); (try replace HT1 := Lib.hid (HT1.out.next hw)); (try replace HPt := Lib.hid (HPt.out.next hw)); (try replace HT2 := Lib.hid (HT2.out.next hw)); (try replace HNt := Lib.hid (HNt.out.next hw)); clear hw hb; clear x0 x1 x2 x3 x4 x5 x6 x7 x8 x9; have x0 := cell_of H2.out.arg 0; have x1 := cell_of H2.out.arg 1; have x2 := cell_of H2.out.arg 2; have x3 := cell_of H2.out.arg 3; have x4 := cell_of H2.out.arg 4; have x5 := cell_of H2.out.arg 5; have x6 := cell_of H2.out.arg 6; have x7 := cell_of H2.out.arg 7; have x8 := cell_of H2.out.arg 8; have x9 := cell_of H2.out.arg 9; simp only [List.getElem?_toArray, List.getElem?_cons_zero, List.getElem?_cons_succ] at x0 x1 x2 x3 x4 x5 x6 x7 x8 x9; clear r0 r1 r2 r3 r4 r5; obtain ⟨r0, r1, r2, r3, r4, r5⟩ := five HZ.out.at_)
        | (go_at_call 61; refine (HNs.out _ (by first | exact H2.out.below | exact H2.out.below.trans ((below_drew1 _).mono H2.out.below.size) | exact H2.out.below.trans (((Below.refl _ _).alloc (Nat.le_refl _) _).mono H2.out.below.size) | exact H2.out.below.trans ((below_lit _ _).mono H2.out.below.size))).mono ?_; rintro e w' ⟨kn, dn, GN, rfl, hl, hf, hb⟩; obtain ⟨⟨a3, b3, rfl⟩, ⟨a4, b4, rfl⟩⟩ := hl.slices; (first | (have HNt := Lib.hid (kid_at0 H2.out hl hf rfl)) | (have HNt := Lib.hid (kid_at1 H2.out hl hf (by simp))) | (have HNt := Lib.hid (kid_at1 H2.out hl hf (by simp [World.drew])))); clear hl hf; (first | (have hq := stepA H2.out hb; have hw := hq.2; replace H2 := Lib.hid hq.1; replace HSz := Lib.hid (And.intro HSz.out hw.size); clear hq) | (have hq := stepB H2.out hb; have hw := hq.2; replace H2 := Lib.hid hq.1; replace HSz := Lib.hid (And.intro HSz.out hw.size); clear hq) | (have hq := stepC H2.out hb (by simp); have hw := hq.2.1; have HZ := Lib.hid hq.2.2.1; replace H2 := Lib.hid hq.1; replace HSz := Lib.hid (And.intro HSz.out hq.2.2.2); clear hq) | (have hq := stepD H2.out hb; have hw := hq.2.1; have HZ := Lib.hid hq.2.2.1; replace H2 := Lib.hid hq.1; replace HSz := Lib.hid (And.intro HSz.out hq.2.2.2); clear hq)); (try replace HZ := Lib.hid (HZ.out.next hw)); (try replace HHd := Lib.hid (HHd.out.next hw)); (try replace HMt := Lib.hid (HMt.out.next hw)); (try replace HT1 := Lib.hid (HT1.out.next hw)); (try replace HPt := Lib.hid (HPt.out.next hw)); (try replace HT2 := Lib.hid (HT2.out.next hw)); (try replace HNt := Lib.hid (HNt.out.next hw)); clear hw hb; clear x0 x1 x2 x3 x4 x5 x6 x7 x8 x9; have x0 := cell_of H2.out.arg 0; have x1 := cell_of H2.out.arg 1; have x2 := cell_of H2.out.arg 2; have x3 := cell_of H2.out.arg 3; have x4 := cell_of H2.out.arg 4; have x5 := cell_of H2.out.arg 5; have x6 := cell_of H2.out.arg 6; have x7 := cell_of H2.out.arg 7; have x8 := cell_of H2.out.arg 8; have x9 := cell_of H2.out.arg 9; simp only [List.getElem?_toArray, List.getElem?_cons_zero, List.getElem?_cons_succ] at x0 x1 x2 x3 x4 x5 x6 x7 x8 x9; clear r0 r1 r2 r3 r4 r5; obtain ⟨r0, r1, r2, r3, r4, r5⟩ := five HZ.out.at_)
        | (go_at_call 22; clear tt1; refine (HS2.out _ _ _ _ _ _ _ (by first | exact HT1.out.lie | exact HT1.out.lie.stay (below_drew1 _) (Nat.le_refl _) | exact HT1.out.lie.stay ((Below.refl _ _).alloc (Nat.le_refl _) _) (Nat.le_refl _) | exact HT1.out.lie.stay (below_lit _ _) (Nat.le_refl _)) (by first | exact HPt.out.lie | exact HPt.out.lie.stay (below_drew1 _) (Nat.le_refl _) | exact HPt.out.lie.stay ((Below.refl _ _).alloc (Nat.le_refl _) _) (Nat.le_refl _) | exact HPt.out.lie.stay (below_lit _ _) (Nat.le_refl _))).mono ?_; rintro e w' ⟨k5, d5, G5, rfl, hl, hf, hb⟩; obtain ⟨⟨a5, b5, rfl⟩, ⟨a6, b6, rfl⟩⟩ := hl.slices; (first | (have HT2 := Lib.hid (kid_at0 H2.out hl hf rfl)) | (have HT2 := Lib.hid (kid_at1 H2.out hl hf (by simp))) | (have HT2 := Lib.hid (kid_at1 H2.out hl hf (by simp [World.drew])))); clear hl hf; (first | (have hq := stepA H2.out hb; have hw := hq.2; replace H2 := Lib.hid hq.1; replace HSz := Lib.hid (And.intro HSz.out hw.size); clear hq) | (have hq := stepB H2.out hb; have hw := hq.2; replace H2 := Lib.hid hq.1; replace HSz := Lib.hid (And.intro HSz.out hw.size); clear hq) | (have hq := stepC H2.out hb (by simp); have hw := hq.2.1; have HZ := Lib.hid hq.2.2.1; replace H2 := Lib.hid hq.1; replace HSz := Lib.hid (And.intro HSz.out hq.2.2.2); clear hq) | (have hq := stepD H2.out hb; have hw := hq.2.1; have HZ := Lib.hid hq.2.2.1; replace H2 := Lib.hid hq.1; replace HSz := Lib.hid (And.intro HSz.out hq.2.2.2); clear hq)); (try replace HZ := Lib.hid (HZ.out.next hw)); (try replace HHd := Lib.hid (HHd.out.next hw)); (try replace HMt := Lib.hid (HMt.out.next hw)); (try replace HT1 := Lib.hid (HT1.out.next hw)); (try replace HPt := Lib.hid (HPt.out.next hw)); (try replace HT2 := Lib.hid (HT2.out.next hw)); (try replace HNt := Lib.hid (HNt.out.next hw)); clear hw hb; clear x0 x1 x2 x3 x4 x5 x6 x7 x8 x9; have x0 := cell_of H2.out.arg 0; have x1 := cell_of H2.out.arg 1; have x2 := cell_of H2.out.arg 2; have x3 := cell_of H2.out.arg 3; have x4 := cell_of H2.out.arg 4; have x5 := cell_of H2.out.arg 5; have x6 := cell_of H2.out.arg 6; have x7 := cell_of H2.out.arg 7; have x8 := cell_of H2.out.arg 8; have x9 := cell_of H2.out.arg 9; simp only [List.getElem?_toArray, List.getElem?_cons_zero, List.getElem?_cons_succ] at x0 x1 x2 x3 x4 x5 x6 x7 x8 x9; clear r0 r1 r2 r3 r4 r5; obtain ⟨r0, r1, r2, r3, r4, r5⟩ := five HZ.out.at_)
        | (go_at_call 22; refine (HS3.out _ _ _ _ _ _ _ (by first | exact HT2.out.lie | exact HT2.out.lie.stay (below_drew1 _) (Nat.le_refl _) | exact HT2.out.lie.stay ((Below.refl _ _).alloc (Nat.le_refl _) _) (Nat.le_refl _) | exact HT2.out.lie.stay (below_lit _ _) (Nat.le_refl _)) (by first | exact HNt.out.lie | exact HNt.out.lie.stay (below_drew1 _) (Nat.le_refl _) | exact HNt.out.lie.stay ((Below.refl _ _).alloc (Nat.le_refl _) _) (Nat.le_refl _) | exact HNt.out.lie.stay (below_lit _ _) (Nat.le_refl _))).mono ?_; rintro e w' ⟨k6, d6, G6, rfl, hl, hf, hb⟩; obtain ⟨⟨a7, b7, rfl⟩, ⟨a8, b8, rfl⟩⟩ := hl.slices; have HL := Lib.hid (res_keep H2.out hl hf (Nat.le_refl _)); clear hl hf; (first | (have hq := stepA H2.out hb; have hw := hq.2; replace H2 := Lib.hid hq.1; replace HSz := Lib.hid (And.intro HSz.out hw.size); clear hq) | (have hq := stepB H2.out hb; have hw := hq.2; replace H2 := Lib.hid hq.1; replace HSz := Lib.hid (And.intro HSz.out hw.size); clear hq) | (have hq := stepC H2.out hb (by simp); have hw := hq.2.1; have HZ := Lib.hid hq.2.2.1; replace H2 := Lib.hid hq.1; replace HSz := Lib.hid (And.intro HSz.out hq.2.2.2); clear hq) | (have hq := stepD H2.out hb; have hw := hq.2.1; have HZ := Lib.hid hq.2.2.1; replace H2 := Lib.hid hq.1; replace HSz := Lib.hid (And.intro HSz.out hq.2.2.2); clear hq)); (try replace HZ := Lib.hid (HZ.out.next hw)); (try replace HHd := Lib.hid (HHd.out.next hw)); (try replace HMt := Lib.hid (HMt.out.next hw)); (try replace HT1 := Lib.hid (HT1.out.next hw)); (try replace HPt := Lib.hid (HPt.out.next hw)); (try replace HT2 := Lib.hid (HT2.out.next hw)); (try replace HNt := Lib.hid (HNt.out.next hw)); clear hw hb; clear x0 x1 x2 x3 x4 x5 x6 x7 x8 x9; have x0 := cell_of H2.out.arg 0; have x1 := cell_of H2.out.arg 1; have x2 := cell_of H2.out.arg 2; have x3 := cell_of H2.out.arg 3; have x4 := cell_of H2.out.arg 4; have x5 := cell_of H2.out.arg 5; have x6 := cell_of H2.out.arg 6; have x7 := cell_of H2.out.arg 7; have x8 := cell_of H2.out.arg 8; have x9 := cell_of H2.out.arg 9; simp only [List.getElem?_toArray, List.getElem?_cons_zero, List.getElem?_cons_succ] at x0 x1 x2 x3 x4 x5 x6 x7 x8 x9; clear r0 r1 r2 r3 r4 r5; obtain ⟨r0, r1, r2, r3, r4, r5⟩ := five HZ.out.at_; obtain ⟨s0, s1, s2, s3, s4, s5⟩ := five H2.out.res))
    all_goals
      have HF := res_fin H2.out HL.out
      go_wp2
      exact bodyPost_ret (ret_node Tryz.results48 rfl HF.1) rfl ⟨_, _, _, rfl, HF.2.1, HF.2.2.1, HF.2.2.2⟩
end Go.Proofs.YtfmkhogpnnobeaaGreatDoor

/- for both flags the program's FlagOf answers as the model's FlagOf does, in memory of its own; no condition. -/
namespace Go.Proofs.YtfmkhogpnnobeaaGreatDoor
open Go Go.RowKit

set_option maxHeartbeats 400000 in
theorem node_flag (x : Int) (w : World) : Calls Tryz.prog 224 #[.int .i64 x] w fun e w' => e = .returned (.agg #[.int .i64 1, .int .i64 x, .string ⟨#[]⟩, .slice none 0 0, .slice none 0 0]) ∧ Below w.heap.size w w' := by
  go_enter Tryz.func224, Tryz.ntmps224
  go_wp2
  exact bodyPost_ret (ret_node Tryz.results224 rfl (heap_last w _)) rfl ⟨rfl, (Below.refl _ w).alloc (Nat.le_refl _) _⟩

end Go.Proofs.YtfmkhogpnnobeaaGreatDoor

/- the program's nodeOk tells of a node alone whether it is as its kind has it. -/
namespace Go.Proofs.YtfmkhogpnnobeaaGreatDoor
open Go Go.RowKit

/-- A node alone is as its kind has it. -/
def HeadOk (T : RT) : Prop :=
  (T.k = 0 ∧ T.n = 0 ∧ T.s = ⟨#[]⟩ ∧ T.keys.length = 0 ∧ T.kids.length = 0) ∨
  (T.k = 1 ∧ (T.n = 0 ∨ T.n = 1) ∧ T.s = ⟨#[]⟩ ∧ T.keys.length = 0 ∧ T.kids.length = 0) ∨
  (T.k = 2 ∧ (-1000000000000 ≤ T.n ∧ T.n ≤ 1000000000000) ∧ T.s = ⟨#[]⟩ ∧ T.keys.length = 0 ∧ T.kids.length = 0) ∨
  (T.k = 3 ∧ T.n = 0 ∧ textOk T.s = true ∧ T.keys.length = 0 ∧ T.kids.length = 0) ∨
  (T.k = 4 ∧ T.n = 0 ∧ T.s = ⟨#[]⟩ ∧ T.keys.length = 0) ∨
  (T.k = 5 ∧ T.n = 0 ∧ T.s = ⟨#[]⟩ ∧ T.keys.length = T.kids.length ∧ keysOk T.keys = true)

noncomputable def headOk (T : RT) : Bool := @decide (HeadOk T) (Classical.propDecidable _)
theorem headOk_yes {T : RT} (h : HeadOk T) : headOk T = true := @decide_eq_true _ (Classical.propDecidable _) h
theorem headOk_no {T : RT} (h : ¬ HeadOk T) : headOk T = false := @decide_eq_false _ (Classical.propDecidable _) h

/-! ### What the program's type switch finds -/

theorem zero_null : (Tryz.prog.info? 158).map (·.zero) = some (some (.agg #[])) := by kernel_rfl
theorem as_null_yes (v : Value) (xT : TypeId) (w : World) : (Instr.typeAssert (.iface 158 v) xT 158 true).run Tryz.prog w = .ok (.tuple #[v, .bool true]) w := by
  simp [Instr.typeAssert, run_underlying Tryz.underlying158, go_sem, Result.andThen]
theorem as_null_no (t : TypeId) (h : t ≠ 158) (v : Value) (xT : TypeId) (w : World) : (Instr.typeAssert (.iface t v) xT 158 true).run Tryz.prog w = .ok (.tuple #[.agg #[], .bool false]) w := by
  obtain ⟨i, hi, hz⟩ := Option.map_eq_some_iff.1 zero_null
  simp [Instr.typeAssert, run_underlying Tryz.underlying158, go_sem, Result.andThen, zeroValue, typeInfo, hi, hz, h]

theorem zero_flag : (Tryz.prog.info? 142).map (·.zero) = some (some (.int .i64 0)) := by kernel_rfl
theorem as_flag_yes (v : Value) (xT : TypeId) (w : World) : (Instr.typeAssert (.iface 142 v) xT 142 true).run Tryz.prog w = .ok (.tuple #[v, .bool true]) w := by
  simp [Instr.typeAssert, run_underlying Tryz.underlying142, go_sem, Result.andThen]
theorem as_flag_no (t : TypeId) (h : t ≠ 142) (v : Value) (xT : TypeId) (w : World) : (Instr.typeAssert (.iface t v) xT 142 true).run Tryz.prog w = .ok (.tuple #[.int .i64 0, .bool false]) w := by
  obtain ⟨i, hi, hz⟩ := Option.map_eq_some_iff.1 zero_flag
  simp [Instr.typeAssert, run_underlying Tryz.underlying142, go_sem, Result.andThen, zeroValue, typeInfo, hi, hz, h]

theorem zero_int : (Tryz.prog.info? 127).map (·.zero) = some (some (.int .i64 0)) := by kernel_rfl
theorem as_int_yes (v : Value) (xT : TypeId) (w : World) : (Instr.typeAssert (.iface 127 v) xT 127 true).run Tryz.prog w = .ok (.tuple #[v, .bool true]) w := by
  simp [Instr.typeAssert, run_underlying Tryz.underlying127, go_sem, Result.andThen]
theorem as_int_no (t : TypeId) (h : t ≠ 127) (v : Value) (xT : TypeId) (w : World) : (Instr.typeAssert (.iface t v) xT 127 true).run Tryz.prog w = .ok (.tuple #[.int .i64 0, .bool false]) w := by
  obtain ⟨i, hi, hz⟩ := Option.map_eq_some_iff.1 zero_int
  simp [Instr.typeAssert, run_underlying Tryz.underlying127, go_sem, Result.andThen, zeroValue, typeInfo, hi, hz, h]

theorem zero_text : (Tryz.prog.info? 120).map (·.zero) = some (some (.string ⟨#[]⟩)) := by kernel_rfl
theorem as_text_yes (v : Value) (xT : TypeId) (w : World) : (Instr.typeAssert (.iface 120 v) xT 120 true).run Tryz.prog w = .ok (.tuple #[v, .bool true]) w := by
  simp [Instr.typeAssert, run_underlying Tryz.underlying120, go_sem, Result.andThen]
theorem as_text_no (t : TypeId) (h : t ≠ 120) (v : Value) (xT : TypeId) (w : World) : (Instr.typeAssert (.iface t v) xT 120 true).run Tryz.prog w = .ok (.tuple #[.string ⟨#[]⟩, .bool false]) w := by
  obtain ⟨i, hi, hz⟩ := Option.map_eq_some_iff.1 zero_text
  simp [Instr.typeAssert, run_underlying Tryz.underlying120, go_sem, Result.andThen, zeroValue, typeInfo, hi, hz, h]

theorem zero_list : (Tryz.prog.info? 129).map (·.zero) = some (some (.slice none 0 0)) := by kernel_rfl
theorem as_list_yes (v : Value) (xT : TypeId) (w : World) : (Instr.typeAssert (.iface 129 v) xT 129 true).run Tryz.prog w = .ok (.tuple #[v, .bool true]) w := by
  simp [Instr.typeAssert, run_underlying Tryz.underlying129, go_sem, Result.andThen]
theorem as_list_no (t : TypeId) (h : t ≠ 129) (v : Value) (xT : TypeId) (w : World) : (Instr.typeAssert (.iface t v) xT 129 true).run Tryz.prog w = .ok (.tuple #[.slice none 0 0, .bool false]) w := by
  obtain ⟨i, hi, hz⟩ := Option.map_eq_some_iff.1 zero_list
  simp [Instr.typeAssert, run_underlying Tryz.underlying129, go_sem, Result.andThen, zeroValue, typeInfo, hi, hz, h]

theorem zero_map : (Tryz.prog.info? 119).map (·.zero) = some (some (.agg #[.slice none 0 0, .slice none 0 0])) := by kernel_rfl
theorem as_map_yes (v : Value) (xT : TypeId) (w : World) : (Instr.typeAssert (.iface 119 v) xT 119 true).run Tryz.prog w = .ok (.tuple #[v, .bool true]) w := by
  simp [Instr.typeAssert, run_underlying Tryz.underlying119, go_sem, Result.andThen]
theorem as_map_no (t : TypeId) (h : t ≠ 119) (v : Value) (xT : TypeId) (w : World) : (Instr.typeAssert (.iface t v) xT 119 true).run Tryz.prog w = .ok (.tuple #[.agg #[.slice none 0 0, .slice none 0 0], .bool false]) w := by
  obtain ⟨i, hi, hz⟩ := Option.map_eq_some_iff.1 zero_map
  simp [Instr.typeAssert, run_underlying Tryz.underlying119, go_sem, Result.andThen, zeroValue, typeInfo, hi, hz, h]

set_option maxHeartbeats 400000 in
theorem node_null (w : World) : Calls Tryz.prog 225 #[.agg #[]] w fun e w' => e = .returned (.agg #[.int .i64 0, .int .i64 0, .string ⟨#[]⟩, .slice none 0 0, .slice none 0 0]) ∧ Below w.heap.size w w' := by
  go_enter Tryz.func225, Tryz.ntmps225
  go_wp2
  have h1 := heap_last (w.alloc (Obj.cells #[] 158)) (Obj.cells #[.int .i64 0, .int .i64 0, .string ⟨#[]⟩, .slice none 0 0, .slice none 0 0] 32)
  have e1 : (w.alloc (Obj.cells #[] 158)).heap.size = w.heap.size + 1 := by simp
  rw [e1] at h1
  exact bodyPost_ret (ret_node Tryz.results225 rfl h1) rfl ⟨rfl, ((Below.refl _ w).alloc (Nat.le_refl _) _).alloc (by simp) _⟩

set_option maxHeartbeats 400000 in
theorem node_list (o : Option Addr) (l c : Nat) (w : World) : Calls Tryz.prog 126 #[.slice o l c] w fun e w' => e = .returned (.agg #[.int .i64 4, .int .i64 0, .string ⟨#[]⟩, .slice none 0 0, .slice o l c]) ∧ Below w.heap.size w w' := by
  go_enter Tryz.func126, Tryz.ntmps126
  go_wp2
  exact bodyPost_ret (ret_node Tryz.results126 rfl (heap_last w _)) rfl ⟨rfl, (Below.refl _ w).alloc (Nat.le_refl _) _⟩

set_option maxHeartbeats 400000 in
theorem node_map (ko o : Option Addr) (kl kc l c : Nat) (w : World) : Calls Tryz.prog 110 #[.agg #[.slice ko kl kc, .slice o l c]] w fun e w' => e = .returned (.agg #[.int .i64 5, .int .i64 0, .string ⟨#[]⟩, .slice ko kl kc, .slice o l c]) ∧ Below w.heap.size w w' := by
  go_enter Tryz.func110, Tryz.ntmps110
  go_wp2
  have h1 := heap_last (w.alloc (Obj.cells #[.slice ko kl kc, .slice o l c] 119)) (Obj.cells #[.int .i64 5, .int .i64 0, .string ⟨#[]⟩, .slice ko kl kc, .slice o l c] 32)
  have e1 : (w.alloc (Obj.cells #[.slice ko kl kc, .slice o l c] 119)).heap.size = w.heap.size + 1 := by simp
  rw [e1] at h1
  exact bodyPost_ret (ret_node Tryz.results110 rfl h1) rfl ⟨rfl, ((Below.refl _ w).alloc (Nat.le_refl _) _).alloc (by simp) _⟩

theorem meth_null (v : Value) (w : World) : (method 312 158 v "loop.example/g00465/impl.node").run Tryz.prog w = .ok (225, v) w := by kernel_rfl
theorem meth_flag (v : Value) (w : World) : (method 312 142 v "loop.example/g00465/impl.node").run Tryz.prog w = .ok (224, v) w := by kernel_rfl
theorem meth_int (v : Value) (w : World) : (method 312 127 v "loop.example/g00465/impl.node").run Tryz.prog w = .ok (122, v) w := by kernel_rfl
theorem meth_text (v : Value) (w : World) : (method 312 120 v "loop.example/g00465/impl.node").run Tryz.prog w = .ok (111, v) w := by kernel_rfl
theorem meth_list (v : Value) (w : World) : (method 312 129 v "loop.example/g00465/impl.node").run Tryz.prog w = .ok (126, v) w := by kernel_rfl
theorem meth_map (v : Value) (w : World) : (method 312 119 v "loop.example/g00465/impl.node").run Tryz.prog w = .ok (110, v) w := by kernel_rfl
end Go.Proofs.YtfmkhogpnnobeaaGreatDoor

/- the program's formOf, formOk and nodeOk, kind by kind. -/
namespace Go.Proofs.YtfmkhogpnnobeaaGreatDoor
open Go Go.RowKit

theorem empty_ne {s : ByteArray} (h : ¬ s = ⟨#[]⟩) : (s.toList == []) = false := by
  have := bytes_ne h
  simpa [ByteArray.toList_eq] using this

set_option maxRecDepth 100000 in
set_option maxHeartbeats 400000 in
theorem formOf_null (n : Int) (s : ByteArray) (ko o : Option Addr) (kl kc dl dc : Nat) (w : World) : Calls Tryz.prog 142 #[.agg #[.int .i64 0, .int .i64 n, .string s, .slice ko kl kc, .slice o dl dc]] w fun e w' => e = .returned (.tuple #[.iface 158 (.agg #[]), .bool true]) ∧ Below w.heap.size w w' := by
  go_enter Tryz.func142, Tryz.ntmps142
  go_wp2
  go_ret2
  exact ⟨rfl, (Below.refl _ w).alloc (Nat.le_refl _) _⟩

set_option maxRecDepth 100000 in
set_option maxHeartbeats 400000 in
theorem formOf_flag (n : Int) (s : ByteArray) (ko o : Option Addr) (kl kc dl dc : Nat) (w : World) : Calls Tryz.prog 142 #[.agg #[.int .i64 1, .int .i64 n, .string s, .slice ko kl kc, .slice o dl dc]] w fun e w' => e = .returned (.tuple #[.iface 142 (.int .i64 n), .bool true]) ∧ Below w.heap.size w w' := by
  go_enter Tryz.func142, Tryz.ntmps142
  go_wp2
  go_ret2
  exact ⟨rfl, (Below.refl _ w).alloc (Nat.le_refl _) _⟩

set_option maxRecDepth 100000 in
set_option maxHeartbeats 400000 in
theorem formOf_int (n : Int) (s : ByteArray) (ko o : Option Addr) (kl kc dl dc : Nat) (w : World) : Calls Tryz.prog 142 #[.agg #[.int .i64 2, .int .i64 n, .string s, .slice ko kl kc, .slice o dl dc]] w fun e w' => e = .returned (.tuple #[.iface 127 (.int .i64 n), .bool true]) ∧ Below w.heap.size w w' := by
  go_enter Tryz.func142, Tryz.ntmps142
  go_wp2
  go_ret2
  exact ⟨rfl, (Below.refl _ w).alloc (Nat.le_refl _) _⟩

set_option maxRecDepth 100000 in
set_option maxHeartbeats 400000 in
theorem formOf_text (n : Int) (s : ByteArray) (ko o : Option Addr) (kl kc dl dc : Nat) (w : World) : Calls Tryz.prog 142 #[.agg #[.int .i64 3, .int .i64 n, .string s, .slice ko kl kc, .slice o dl dc]] w fun e w' => e = .returned (.tuple #[.iface 120 (.string s), .bool true]) ∧ Below w.heap.size w w' := by
  go_enter Tryz.func142, Tryz.ntmps142
  go_wp2
  go_ret2
  exact ⟨rfl, (Below.refl _ w).alloc (Nat.le_refl _) _⟩

set_option maxRecDepth 100000 in
set_option maxHeartbeats 400000 in
theorem formOf_list (n : Int) (s : ByteArray) (ko o : Option Addr) (kl kc dl dc : Nat) (w : World) : Calls Tryz.prog 142 #[.agg #[.int .i64 4, .int .i64 n, .string s, .slice ko kl kc, .slice o dl dc]] w fun e w' => e = .returned (.tuple #[.iface 129 (.slice o dl dc), .bool true]) ∧ Below w.heap.size w w' := by
  go_enter Tryz.func142, Tryz.ntmps142
  go_wp2
  go_ret2
  exact ⟨rfl, (Below.refl _ w).alloc (Nat.le_refl _) _⟩

set_option maxRecDepth 100000 in
set_option maxHeartbeats 400000 in
theorem formOf_map (n : Int) (s : ByteArray) (ko o : Option Addr) (kl kc dl dc : Nat) (w : World) : Calls Tryz.prog 142 #[.agg #[.int .i64 5, .int .i64 n, .string s, .slice ko kl kc, .slice o dl dc]] w fun e w' => e = .returned (.tuple #[.iface 119 (.agg #[.slice ko kl kc, .slice o dl dc]), .bool true]) ∧ Below w.heap.size w w' := by
  go_enter Tryz.func142, Tryz.ntmps142
  go_wp2
  go_ret2
  exact ⟨rfl, (Below.refl _ w).alloc (Nat.le_refl _) _⟩

set_option maxRecDepth 100000 in
set_option maxHeartbeats 400000 in
theorem formOf_none (k : Int) (h0 : ¬ k = 0) (h1 : ¬ k = 1) (h2 : ¬ k = 2) (h3 : ¬ k = 3) (h4 : ¬ k = 4) (h5 : ¬ k = 5) (n : Int) (s : ByteArray) (ko o : Option Addr) (kl kc dl dc : Nat) (w : World) : Calls Tryz.prog 142 #[.agg #[.int .i64 k, .int .i64 n, .string s, .slice ko kl kc, .slice o dl dc]] w fun e w' => e = .returned (.tuple #[.nilIface, .bool false]) ∧ Below w.heap.size w w' := by
  go_enter Tryz.func142, Tryz.ntmps142
  go_wp2
  go_ret2
  exact ⟨rfl, (Below.refl _ w).alloc (Nat.le_refl _) _⟩

set_option maxRecDepth 100000 in
set_option maxHeartbeats 400000 in
theorem formOk_null  (w : World) : Calls Tryz.prog 179 #[.iface 158 (.agg #[])] w fun e w' => e = .returned (.bool true) ∧ Below w.heap.size w w' := by
  have a_null := as_null_yes
  have a_list := as_list_no 158 (by decide)
  go_enter Tryz.func179, Tryz.ntmps179
  go_wp2
  go_ret
  exact ⟨rfl, Below.refl _ _⟩

set_option maxRecDepth 100000 in
set_option maxHeartbeats 400000 in
theorem formOk_list (o : Option Addr) (dl dc : Nat) (w : World) : Calls Tryz.prog 179 #[.iface 129 (.slice o dl dc)] w fun e w' => e = .returned (.bool true) ∧ Below w.heap.size w w' := by
  have a_null := as_null_no 129 (by decide)
  have a_list := as_list_yes
  go_enter Tryz.func179, Tryz.ntmps179
  go_wp2
  go_ret
  exact ⟨rfl, Below.refl _ _⟩

set_option maxRecDepth 100000 in
set_option maxHeartbeats 400000 in
theorem formOk_flag0  (w : World) : Calls Tryz.prog 179 #[.iface 142 (.int .i64 0)] w fun e w' => e = .returned (.bool true) ∧ Below w.heap.size w w' := by
  have a_null := as_null_no 142 (by decide)
  have a_list := as_list_no 142 (by decide)
  have a_flag := as_flag_yes
  go_enter Tryz.func179, Tryz.ntmps179
  go_wp2
  go_ret
  exact ⟨rfl, Below.refl _ _⟩

set_option maxRecDepth 100000 in
set_option maxHeartbeats 400000 in
theorem formOk_flag1  (w : World) : Calls Tryz.prog 179 #[.iface 142 (.int .i64 1)] w fun e w' => e = .returned (.bool true) ∧ Below w.heap.size w w' := by
  have a_null := as_null_no 142 (by decide)
  have a_list := as_list_no 142 (by decide)
  have a_flag := as_flag_yes
  go_enter Tryz.func179, Tryz.ntmps179
  go_wp2
  go_ret
  exact ⟨rfl, Below.refl _ _⟩

set_option maxRecDepth 100000 in
set_option maxHeartbeats 400000 in
theorem formOk_flag_no (n : Int) (h0 : ¬ n = 0) (h1 : ¬ n = 1) (w : World) : Calls Tryz.prog 179 #[.iface 142 (.int .i64 n)] w fun e w' => e = .returned (.bool false) ∧ Below w.heap.size w w' := by
  have a_null := as_null_no 142 (by decide)
  have a_list := as_list_no 142 (by decide)
  have a_flag := as_flag_yes
  go_enter Tryz.func179, Tryz.ntmps179
  go_wp2
  go_ret
  exact ⟨ret_bool (by simp [h0, h1]), Below.refl _ _⟩

set_option maxRecDepth 100000 in
set_option maxHeartbeats 400000 in
theorem formOk_int_yes (n : Int) (h0 : -1000000000000 ≤ n) (h1 : n ≤ 1000000000000) (w : World) : Calls Tryz.prog 179 #[.iface 127 (.int .i64 n)] w fun e w' => e = .returned (.bool true) ∧ Below w.heap.size w w' := by
  have a_null := as_null_no 127 (by decide)
  have a_list := as_list_no 127 (by decide)
  have a_flag := as_flag_no 127 (by decide)
  have a_int := as_int_yes
  go_enter Tryz.func179, Tryz.ntmps179
  go_wp2
  go_ret
  exact ⟨rfl, Below.refl _ _⟩

set_option maxRecDepth 100000 in
set_option maxHeartbeats 400000 in
theorem formOk_int_low (n : Int) (h0 : ¬ -1000000000000 ≤ n) (w : World) : Calls Tryz.prog 179 #[.iface 127 (.int .i64 n)] w fun e w' => e = .returned (.bool false) ∧ Below w.heap.size w w' := by
  have a_null := as_null_no 127 (by decide)
  have a_list := as_list_no 127 (by decide)
  have a_flag := as_flag_no 127 (by decide)
  have a_int := as_int_yes
  go_enter Tryz.func179, Tryz.ntmps179
  go_wp2
  go_ret
  exact ⟨rfl, Below.refl _ _⟩

set_option maxRecDepth 100000 in
set_option maxHeartbeats 400000 in
theorem formOk_int_high (n : Int) (h0 : -1000000000000 ≤ n) (h1 : ¬ n ≤ 1000000000000) (w : World) : Calls Tryz.prog 179 #[.iface 127 (.int .i64 n)] w fun e w' => e = .returned (.bool false) ∧ Below w.heap.size w w' := by
  have a_null := as_null_no 127 (by decide)
  have a_list := as_list_no 127 (by decide)
  have a_flag := as_flag_no 127 (by decide)
  have a_int := as_int_yes
  go_enter Tryz.func179, Tryz.ntmps179
  go_wp2
  go_ret
  exact ⟨rfl, Below.refl _ _⟩

set_option maxRecDepth 100000 in
set_option maxHeartbeats 400000 in
theorem formOk_text (s : ByteArray) (hs : s.size ≤ maxLen) (w : World) : Calls Tryz.prog 179 #[.iface 120 (.string s)] w fun e w' => e = .returned (.bool (textOk s)) ∧ Below w.heap.size w w' := by
  have a_null := as_null_no 120 (by decide)
  have a_list := as_list_no 120 (by decide)
  have a_flag := as_flag_no 120 (by decide)
  have a_int := as_int_no 120 (by decide)
  have a_text := as_text_yes
  have HT := Lib.hid (impl_textOk s hs)
  clear hs
  go_enter Tryz.func179, Tryz.ntmps179
  go_wp2_with (first | (go_at_call 132; refine (HT.out _).mono ?_; rintro e w1 ⟨rfl, e1⟩; subst e1) | go_in)
  go_ret
  exact ⟨rfl, Below.refl _ _⟩

set_option maxRecDepth 100000 in
set_option maxHeartbeats 400000 in
theorem formOk_map_no (ko o : Option Addr) (kl kc dl dc : Nat) (h : ¬ (kl : Int) = dl) (w : World) : Calls Tryz.prog 179 #[.iface 119 (.agg #[.slice ko kl kc, .slice o dl dc])] w fun e w' => e = .returned (.bool false) ∧ Below w.heap.size w w' := by
  have a_null := as_null_no 119 (by decide)
  have a_list := as_list_no 119 (by decide)
  have a_flag := as_flag_no 119 (by decide)
  have a_int := as_int_no 119 (by decide)
  have a_text := as_text_no 119 (by decide)
  have a_map := as_map_yes
  go_enter Tryz.func179, Tryz.ntmps179
  go_wp2
  go_ret
  exact ⟨rfl, (Below.refl _ w).alloc (Nat.le_refl _) _⟩

set_option maxRecDepth 100000 in
set_option maxHeartbeats 400000 in
theorem formOk_map_yes (kv : Value) (keys : List ByteArray) (FK : List Nat) (o : Option Addr) (dc : Nat) (w : World) (hK : StrsAt w kv keys FK) : Calls Tryz.prog 179 #[.iface 119 (.agg #[kv, .slice o keys.length dc])] w fun e w' => e = .returned (.bool (keysOk keys)) ∧ Below w.heap.size w w' := by
  have HT := Lib.hid fun ob => impl_keysOk (w.alloc ob) (hK.stay ((Below.refl _ w).alloc (Nat.le_refl _) ob) (Nat.le_refl _))
  obtain ⟨ko, kc, rfl⟩ := hK.slice
  clear hK
  have a_null := as_null_no 119 (by decide)
  have a_list := as_list_no 119 (by decide)
  have a_flag := as_flag_no 119 (by decide)
  have a_int := as_int_no 119 (by decide)
  have a_text := as_text_no 119 (by decide)
  have a_map := as_map_yes
  go_enter Tryz.func179, Tryz.ntmps179
  go_wp2_with (first | (go_at_call 190; refine (HT.out _).mono ?_; rintro e w1 ⟨rfl, e1⟩; subst e1) | go_in)
  go_ret
  exact ⟨rfl, (Below.refl _ w).alloc (Nat.le_refl _) _⟩
end Go.Proofs.YtfmkhogpnnobeaaGreatDoor
