/-
  What is proved: the program's withNote puts a note among a map's notes, in memory of its own; no condition.; the program's trees of a metric and of a pace: maps whose Keys ascend, in memory of their own; condition: the library's table of powers of ten starts as the program's text lays it.; the program's tree of a list of metrics: a list of their trees, in memory of its own; condition: the library's table of powers of ten starts as the program's text lays it.
-/
import Derived.Test.YtfmkhogpnnobeaaGreatDoorPartAM
import Derived.Test.YtfmkhogpnnobeaaGreatDoorPartAQ
import Derived.Test.YtfmkhogpnnobeaaGreatDoorPartAE
import Derived.Test.YtfmkhogpnnobeaaGreatDoorPartAF
import Derived.Test.YtfmkhogpnnobeaaGreatDoorPartAG
/- the program's withNote puts a note among a map's notes, in memory of its own; no condition. -/
namespace Go.Proofs.YtfmkhogpnnobeaaGreatDoor
open Go Go.RowKit

set_option maxRecDepth 100000 in
set_option maxHeartbeats 8000000 in
theorem impl_withNote (T N : RT) (key text : ByteArray) (i : Nat) (hm : T.isMap) (hi : FirstAt T.keys ⟨#[110, 111, 116, 101, 115]⟩ i) (hX : T.kids[i]? = some N) (w : World) (kv dv : Value) (F : List Nat) (hl : Lies w T kv dv F) (hT : T.sz ≤ 600000) (hN : N.sz ≤ 600000) (hk : key.size ≤ 100) (ht : text.size ≤ 400000) :
    Calls Tryz.prog 76 #[.agg #[.int .i64 T.k, .int .i64 T.n, .string T.s, kv, dv], .string key, .string text] w fun e w' => ∃ kv dv F, e = .returned (.agg #[.int .i64 (setT T ⟨#[110, 111, 116, 101, 115]⟩ (setT N key (.node 3 0 text [] []))).k, .int .i64 (setT T ⟨#[110, 111, 116, 101, 115]⟩ (setT N key (.node 3 0 text [] []))).n, .string (setT T ⟨#[110, 111, 116, 101, 115]⟩ (setT N key (.node 3 0 text [] []))).s, kv, dv]) ∧ Lies w' (setT T ⟨#[110, 111, 116, 101, 115]⟩ (setT N key (.node 3 0 text [] []))) kv dv F ∧ Fresh w w' F ∧ Below w.heap.size w w' := by
  have HG := Lib.hid fun wr (hb : Below w.heap.size w wr) => impl_get_yes T N ⟨#[110, 111, 116, 101, 115]⟩ i hm hi hX wr kv dv F (hl.stay hb (Nat.le_refl _)) (by omega)
  have HTl := Lib.hid fun wr (hb : Below w.heap.size w wr) => hl.stay hb (Nat.le_refl _)
  have HLeaf : Hid (∀ W : World, Lies W (.node 3 0 text [] []) (.slice none 0 0) (.slice none 0 0) []) := fun W => leaf_lies W ⟨by decide, by decide⟩ ⟨by decide, by decide⟩ (by unfold maxLen; omega)
  have hXz : (RT.node 3 0 text [] []).sz ≤ 400000 := by simp [RT.sz, szAll, strSz]; omega
  have z1 := setT_sz N (.node 3 0 text [] []) key
  have HS1 : Hid (∀ X kv dv G kx dx G', Lies X N kv dv G → Lies X (.node 3 0 text [] []) kx dx G' → Calls Tryz.prog 71 #[.agg #[.int .i64 N.k, .int .i64 N.n, .string N.s, kv, dv], .string key, .agg #[.int .i64 3, .int .i64 0, .string text, kx, dx]] X fun e w' => ∃ kr dr F, e = .returned (.agg #[.int .i64 (setT N key (.node 3 0 text [] [])).k, .int .i64 (setT N key (.node 3 0 text [] [])).n, .string (setT N key (.node 3 0 text [] [])).s, kr, dr]) ∧ Lies w' (setT N key (.node 3 0 text [] [])) kr dr F ∧ Fresh X w' F ∧ Below X.heap.size X w') := fun X kv dv G kx dx G' hl hx => impl_set N (.node 3 0 text [] []) key X kv dv kx dx G G' hl hx (by omega) (by omega) (by unfold maxLen; omega)
  generalize hR1 : setT N key (.node 3 0 text [] []) = R1 at *
  have HS2 : Hid (∀ X kv dv G kx dx G', Lies X T kv dv G → Lies X R1 kx dx G' → Calls Tryz.prog 71 #[.agg #[.int .i64 T.k, .int .i64 T.n, .string T.s, kv, dv], .string ⟨#[110, 111, 116, 101, 115]⟩, .agg #[.int .i64 R1.k, .int .i64 R1.n, .string R1.s, kx, dx]] X fun e w' => ∃ kr dr F, e = .returned (.agg #[.int .i64 (setT T ⟨#[110, 111, 116, 101, 115]⟩ R1).k, .int .i64 (setT T ⟨#[110, 111, 116, 101, 115]⟩ R1).n, .string (setT T ⟨#[110, 111, 116, 101, 115]⟩ R1).s, kr, dr]) ∧ Lies w' (setT T ⟨#[110, 111, 116, 101, 115]⟩ R1) kr dr F ∧ Fresh X w' F ∧ Below X.heap.size X w') := fun X kv dv G kx dx G' hl hx => impl_set T R1 ⟨#[110, 111, 116, 101, 115]⟩ X kv dv kx dx G G' hl hx (by omega) (by omega) (by decide)
  generalize setT T ⟨#[110, 111, 116, 101, 115]⟩ R1 = R2 at *
  obtain ⟨⟨o1, c1, rfl⟩, ⟨o2, c2, rfl⟩⟩ := hl.slices
  clear hl hT hN hk ht hm hi hX hXz z1 hR1
  have H2 := Lib.hid (Two.start w (.cells #[.int .i64 T.k, .int .i64 T.n, .string T.s, .slice o1 T.keys.length c1, .slice o2 T.kids.length c2] 32) (.cells #[.int .i64 0, .int .i64 0, .string ⟨#[]⟩, .slice none 0 0, .slice none 0 0] 32))
  go_enter Tryz.func76, Tryz.ntmps76
  go_wp2_with (first
    | (go_at_call 112; refine (HG.out _ H2.out.below).mono ?_; rintro e w' ⟨kn, dn, GN, rfl, hl, hf, hb⟩; obtain ⟨⟨a1, b1, rfl⟩, ⟨a2, b2, rfl⟩⟩ := hl.slices; have HNt := Lib.hid (kid_at0 H2.out hl hf rfl); clear hl hf; replace H2 := Lib.hid (H2.out.next hb); clear hb)
    | fail)
  have HZ : Hid (One w (w'.alloc (.cells #[.int .i64 N.k, .int .i64 N.n, .string N.s, .slice a1 N.keys.length b1, .slice a2 N.kids.length b2] 32)) w'.heap.size (.cells #[.int .i64 N.k, .int .i64 N.n, .string N.s, .slice a1 N.keys.length b1, .slice a2 N.kids.length b2] 32)) := ⟨heap_last w' _, H2.out.size⟩
  replace HNt := Lib.hid (HNt.out.next ((Below.refl _ w').alloc (Nat.le_refl _) (.cells #[.int .i64 N.k, .int .i64 N.n, .string N.s, .slice a1 N.keys.length b1, .slice a2 N.kids.length b2] 32)))
  replace H2 := Lib.hid (H2.out.next ((Below.refl _ w').alloc (Nat.le_refl _) (.cells #[.int .i64 N.k, .int .i64 N.n, .string N.s, .slice a1 N.keys.length b1, .slice a2 N.kids.length b2] 32)))
  generalize w'.alloc (.cells #[.int .i64 N.k, .int .i64 N.n, .string N.s, .slice a1 N.keys.length b1, .slice a2 N.kids.length b2] 32) = wc at *
  generalize w'.heap.size = bt at *
  have HSz : Hid (w.heap.size + 2 ≤ wc.heap.size) := H2.out.size
  have hn3 := one_ne HZ.out
  have hn4 := one_ne' HZ.out
  have hn5 : ¬ w.heap.size + 1 = bt := by have := HZ.out.old; omega
  have hn6 : ¬ bt = w.heap.size + 1 := by have := HZ.out.old; omega
  have x0 := cell_of H2.out.arg 0
  have x1 := cell_of H2.out.arg 1
  have x2 := cell_of H2.out.arg 2
  have x3 := cell_of H2.out.arg 3
  have x4 := cell_of H2.out.arg 4
  simp only [List.getElem?_toArray, List.getElem?_cons_zero, List.getElem?_cons_succ] at x0 x1 x2 x3 x4
  obtain ⟨r0, r1, r2, r3, r4, r5⟩ := five HZ.out.at_
  have tt1 : True := trivial
  go_wp2_with fail
  go_region_held3 (fun w' => w'.cell? ⟨w.heap.size, 0, none⟩ = some (.int .i64 T.k) ∧ w'.cell? ⟨w.heap.size, 1, none⟩ = some (.int .i64 T.n) ∧ w'.cell? ⟨w.heap.size, 2, none⟩ = some (.string T.s) ∧ w'.cell? ⟨w.heap.size, 3, none⟩ = some (.slice o1 T.keys.length c1) ∧ w'.cell? ⟨w.heap.size, 4, none⟩ = some (.slice o2 T.kids.length c2) ∧ w'.cell? ⟨bt, 0, none⟩ = some (.int .i64 N.k) ∧ w'.cell? ⟨bt, 1, none⟩ = some (.int .i64 N.n) ∧ w'.cell? ⟨bt, 2, none⟩ = some (.string N.s) ∧ w'.cell? ⟨bt, 3, none⟩ = some (.slice a1 N.keys.length b1) ∧ w'.cell? ⟨bt, 4, none⟩ = some (.slice a2 N.kids.length b2)) (go_keep)
    (first
      | (go_at_call 74; refine (impl_textOf _ _).mono ?_; rintro e w' ⟨rfl, hb⟩; (first | (have hq := stepA H2.out hb; have hw := hq.2; replace H2 := Lib.hid hq.1; replace HSz := Lib.hid (And.intro HSz.out hw.size); clear hq) | (have hq := stepB H2.out hb; have hw := hq.2; replace H2 := Lib.hid hq.1; replace HSz := Lib.hid (And.intro HSz.out hw.size); clear hq) | (have hq := stepC H2.out hb (by simp); have hw := hq.2.1; have HZ := Lib.hid hq.2.2.1; replace H2 := Lib.hid hq.1; replace HSz := Lib.hid (And.intro HSz.out hq.2.2.2); clear hq) | (have hq := stepD H2.out hb; have hw := hq.2.1; have HZ := Lib.hid hq.2.2.1; replace H2 := Lib.hid hq.1; replace HSz := Lib.hid (And.intro HSz.out hq.2.2.2); clear hq)); (try replace HZ := Lib.hid (HZ.out.next hw)); (try replace HNt := Lib.hid (HNt.out.next hw)); (try replace HT1 := Lib.hid (HT1.out.next hw)); (try replace HR1 := Lib.hid (HR1.out.next hw)); clear hw hb; clear x0 x1 x2 x3 x4; have x0 := cell_of H2.out.arg 0; have x1 := cell_of H2.out.arg 1; have x2 := cell_of H2.out.arg 2; have x3 := cell_of H2.out.arg 3; have x4 := cell_of H2.out.arg 4; simp only [List.getElem?_toArray, List.getElem?_cons_zero, List.getElem?_cons_succ] at x0 x1 x2 x3 x4; clear r0 r1 r2 r3 r4 r5; obtain ⟨r0, r1, r2, r3, r4, r5⟩ := five HZ.out.at_)
      | (go_at_call 71; clear tt1; refine (HS1.out _ _ _ _ _ _ _ (by first | exact HNt.out.lie | exact HNt.out.lie.stay (below_drew1 _) (Nat.le_refl _) | exact HNt.out.lie.stay ((Below.refl _ _).alloc (Nat.le_refl _) _) (Nat.le_refl _) | exact HNt.out.lie.stay (below_lit _ _) (Nat.le_refl _)) (HLeaf.out _)).mono ?_; rintro e w' ⟨k5, d5, G5, rfl, hl, hf, hb⟩; obtain ⟨⟨a5, b5, rfl⟩, ⟨a6, b6, rfl⟩⟩ := hl.slices; (first | (have HR1 := Lib.hid (kid_at0 H2.out hl hf rfl)) | (have HR1 := Lib.hid (kid_at1 H2.out hl hf (by simp))) | (have HR1 := Lib.hid (kid_at1 H2.out hl hf (by simp [World.drew])))); clear hl hf; (first | (have hq := stepA H2.out hb; have hw := hq.2; replace H2 := Lib.hid hq.1; replace HSz := Lib.hid (And.intro HSz.out hw.size); clear hq) | (have hq := stepB H2.out hb; have hw := hq.2; replace H2 := Lib.hid hq.1; replace HSz := Lib.hid (And.intro HSz.out hw.size); clear hq) | (have hq := stepC H2.out hb (by simp); have hw := hq.2.1; have HZ := Lib.hid hq.2.2.1; replace H2 := Lib.hid hq.1; replace HSz := Lib.hid (And.intro HSz.out hq.2.2.2); clear hq) | (have hq := stepD H2.out hb; have hw := hq.2.1; have HZ := Lib.hid hq.2.2.1; replace H2 := Lib.hid hq.1; replace HSz := Lib.hid (And.intro HSz.out hq.2.2.2); clear hq)); (try replace HZ := Lib.hid (HZ.out.next hw)); (try replace HNt := Lib.hid (HNt.out.next hw)); (try replace HT1 := Lib.hid (HT1.out.next hw)); (try replace HR1 := Lib.hid (HR1.out.next hw)); clear hw hb; clear x0 x1 x2 x3 x4; have x0 := cell_of H2.out.arg 0; have x1 := cell_of H2.out.arg 1; have x2 := cell_of H2.out.arg 2; have x3 := cell_of H2.out.arg 3; have x4 := cell_of H2.out.arg 4; simp only [List.getElem?_toArray, List.getElem?_cons_zero, List.getElem?_cons_succ] at x0 x1 x2 x3 x4; clear r0 r1 r2 r3 r4 r5; obtain ⟨r0, r1, r2, r3, r4, r5⟩ := five HZ.out.at_)
      | (go_at_call 71; refine (HS2.out _ _ _ _ _ _ _ (HTl.out _ (by first | exact H2.out.below | exact H2.out.below.trans ((below_drew1 _).mono H2.out.below.size) | exact H2.out.below.trans (((Below.refl _ _).alloc (Nat.le_refl _) _).mono H2.out.below.size) | exact H2.out.below.trans ((below_lit _ _).mono H2.out.below.size))) (by first | exact HR1.out.lie | exact HR1.out.lie.stay (below_drew1 _) (Nat.le_refl _) | exact HR1.out.lie.stay ((Below.refl _ _).alloc (Nat.le_refl _) _) (Nat.le_refl _) | exact HR1.out.lie.stay (below_lit _ _) (Nat.le_refl _))).mono ?_; rintro e w' ⟨k6, d6, G6, rfl, hl, hf, hb⟩; obtain ⟨⟨a7, b7, rfl⟩, ⟨a8, b8, rfl⟩⟩ := hl.slices; have HL := Lib.hid (res_keep H2.out hl hf (Nat.le_refl _)); clear hl hf; (first | (have hq := stepA H2.out hb; have hw := hq.2; replace H2 := Lib.hid hq.1; replace HSz := Lib.hid (And.intro HSz.out hw.size); clear hq) | (have hq := stepB H2.out hb; have hw := hq.2; replace H2 := Lib.hid hq.1; replace HSz := Lib.hid (And.intro HSz.out hw.size); clear hq) | (have hq := stepC H2.out hb (by simp); have hw := hq.2.1; have HZ := Lib.hid hq.2.2.1; replace H2 := Lib.hid hq.1; replace HSz := Lib.hid (And.intro HSz.out hq.2.2.2); clear hq) | (have hq := stepD H2.out hb; have hw := hq.2.1; have HZ := Lib.hid hq.2.2.1; replace H2 := Lib.hid hq.1; replace HSz := Lib.hid (And.intro HSz.out hq.2.2.2); clear hq)); (try replace HZ := Lib.hid (HZ.out.next hw)); (try replace HNt := Lib.hid (HNt.out.next hw)); (try replace HT1 := Lib.hid (HT1.out.next hw)); (try replace HR1 := Lib.hid (HR1.out.next hw)); clear hw hb; clear x0 x1 x2 x3 x4; have x0 := cell_of H2.out.arg 0; have x1 := cell_of H2.out.arg 1; have x2 := cell_of H2.out.arg 2; have x3 := cell_of H2.out.arg 3; have x4 := cell_of H2.out.arg 4; simp only [List.getElem?_toArray, List.getElem?_cons_zero, List.getElem?_cons_succ] at x0 x1 x2 x3 x4; clear r0 r1 r2 r3 r4 r5; obtain ⟨r0, r1, r2, r3, r4, r5⟩ := five HZ.out.at_; obtain ⟨s0, s1, s2, s3, s4, s5⟩ := five H2.out.res))
  all_goals
    have HF := res_fin H2.out HL.out
    go_wp2
    exact bodyPost_ret (ret_node Tryz.results76 rfl HF.1) rfl ⟨_, _, _, rfl, HF.2.1, HF.2.2.1, HF.2.2.2⟩
end Go.Proofs.YtfmkhogpnnobeaaGreatDoor

/- the program's trees of a metric and of a pace: maps whose Keys ascend, in memory of their own; condition: the library's table of powers of ten starts as the program's text lays it. -/
namespace Go.Proofs.YtfmkhogpnnobeaaGreatDoor
open Go Go.RowKit

set_option maxRecDepth 100000 in
set_option maxHeartbeats 8000000 in
theorem impl_metricTree (s : ByteArray) (k g : Int) (hs : s.size ≤ maxLen) (hk : Fit k) (hg : Fit g) (w : World) (htab : Lib.TabIs Tryz.prog w "internal/strconv.uint64pow10" .u64 Lib.pow10Tab) :
    Calls Tryz.prog 125 #[.agg #[.string s, .int .i64 k, .int .i64 g]] w fun e w' => ∃ kv dv F, e = .returned ((metT ⟨s, k, g⟩).val kv dv) ∧ Lies w' (metT ⟨s, k, g⟩) kv dv F ∧ Fresh w w' F ∧ Below w.heap.size w w' := by
  have HT := Lib.hid (Lib.tabBelow_of_tabIs htab)
  have HG := Lib.hid hg
  have HLf := Lib.hid (metT_leaves ⟨s, k, g⟩ ⟨hs, hk, hg⟩)
  clear htab hs hk hg
  go_enter Tryz.func125, Tryz.ntmps125
  go_wp2_with fail
  have H2 := Lib.hid (Two.start w (.cells #[.string s, .int .i64 k, .int .i64 g] 93) (.cells #[.int .i64 0, .int .i64 0, .string ⟨#[]⟩, .slice none 0 0, .slice none 0 0] 32))
  have x0 := cell_of H2.out.arg 0
  have x1 := cell_of H2.out.arg 1
  have x2 := cell_of H2.out.arg 2
  simp only [List.getElem?_toArray, List.getElem?_cons_zero, List.getElem?_cons_succ] at x0 x1 x2
  go_region_held3 (fun w' => w'.cell? ⟨w.heap.size, 0, none⟩ = some (.string s) ∧ w'.cell? ⟨w.heap.size, 1, none⟩ = some (.int .i64 k) ∧ w'.cell? ⟨w.heap.size, 2, none⟩ = some (.int .i64 g)) (go_keep)
    (first
      | (go_at_call 150; refine (impl_amountText g HG.out.1 HG.out.2 _ (by first | exact HT.out _ H2.out.below | exact HT.out _ (H2.out.below.trans ((below_drew1 _).mono H2.out.below.size)) | exact HT.out _ (H2.out.below.trans (((Below.refl _ _).alloc (Nat.le_refl _) _).mono H2.out.below.size)) | exact HT.out _ (H2.out.below.trans ((below_lit _ _).mono H2.out.below.size)))).mono ?_; rintro e w' ⟨rfl, hb⟩; (first | (replace H2 := Lib.hid (H2.out.next hb); (try replace HZ := Lib.hid (HZ.out.next hb))) | (replace H2 := Lib.hid (H2.out.next1 hb)) | (have HZ := Lib.hid (H2.out.lit hb (by simp)).2; replace H2 := Lib.hid (H2.out.lit hb (by simp)).1; (first | replace HZ := Lib.hid (HZ.out.mv (n := w.heap.size + 1 + 1) (by simp)) | skip)) | (have HZ := Lib.hid (H2.out.lit1 hb).2; replace H2 := Lib.hid (H2.out.lit1 hb).1; (first | replace HZ := Lib.hid (HZ.out.mv (n := w.heap.size + 1 + 1) (by simp)) | skip))); clear hb x0 x1 x2; have x0 := cell_of H2.out.arg 0; have x1 := cell_of H2.out.arg 1; have x2 := cell_of H2.out.arg 2; simp only [List.getElem?_toArray, List.getElem?_cons_zero, List.getElem?_cons_succ] at x0 x1 x2)
      | (go_at_call 74; refine (impl_textOf _ _).mono ?_; rintro e w' ⟨rfl, hb⟩; (first | (replace H2 := Lib.hid (H2.out.next hb); (try replace HZ := Lib.hid (HZ.out.next hb))) | (replace H2 := Lib.hid (H2.out.next1 hb)) | (have HZ := Lib.hid (H2.out.lit hb (by simp)).2; replace H2 := Lib.hid (H2.out.lit hb (by simp)).1; (first | replace HZ := Lib.hid (HZ.out.mv (n := w.heap.size + 1 + 1) (by simp)) | skip)) | (have HZ := Lib.hid (H2.out.lit1 hb).2; replace H2 := Lib.hid (H2.out.lit1 hb).1; (first | replace HZ := Lib.hid (HZ.out.mv (n := w.heap.size + 1 + 1) (by simp)) | skip))); clear hb x0 x1 x2; have x0 := cell_of H2.out.arg 0; have x1 := cell_of H2.out.arg 1; have x2 := cell_of H2.out.arg 2; simp only [List.getElem?_toArray, List.getElem?_cons_zero, List.getElem?_cons_succ] at x0 x1 x2)
      | (go_at_call 151; refine (impl_kindText _ _).mono ?_; rintro e w' ⟨rfl, hb⟩; (first | (replace H2 := Lib.hid (H2.out.next hb); (try replace HZ := Lib.hid (HZ.out.next hb))) | (replace H2 := Lib.hid (H2.out.next1 hb)) | (have HZ := Lib.hid (H2.out.lit hb (by simp)).2; replace H2 := Lib.hid (H2.out.lit hb (by simp)).1; (first | replace HZ := Lib.hid (HZ.out.mv (n := w.heap.size + 1 + 1) (by simp)) | skip)) | (have HZ := Lib.hid (H2.out.lit1 hb).2; replace H2 := Lib.hid (H2.out.lit1 hb).1; (first | replace HZ := Lib.hid (HZ.out.mv (n := w.heap.size + 1 + 1) (by simp)) | skip))); clear hb x0 x1 x2; have x0 := cell_of H2.out.arg 0; have x1 := cell_of H2.out.arg 1; have x2 := cell_of H2.out.arg 2; simp only [List.getElem?_toArray, List.getElem?_cons_zero, List.getElem?_cons_succ] at x0 x1 x2)
      | (go_at_call 110; refine (sh_node _ _ _ ⟨_, _, _, rfl⟩ ⟨_, _, _, rfl⟩).mono ?_; rintro e w' ⟨rfl, hb⟩; (first | (replace HZ := Lib.hid (HZ.out.lit1 hb); have HN := Lib.hid (H2.out.lit1 hb).2; replace H2 := Lib.hid (H2.out.lit1 hb).1) | (have HZ := Lib.hid (H2.out.lits1 hb).2.1; have HN := Lib.hid (H2.out.lits1 hb).2.2; replace H2 := Lib.hid (H2.out.lits1 hb).1; (first | (have h9 := HZ.out; have h8 : One w w' _ (.cells #[.string ⟨#[103, 111, 97, 108]⟩, .string ⟨#[107, 105, 110, 100]⟩, .string ⟨#[110, 97, 109, 101]⟩] 9) := h9; clear h8 h9) | (have hq := HZ; replace HZ := HN; replace HN := hq; clear hq))) | (have HN := Lib.hid (H2.out.lit hb (by simp)).2; replace HZ := Lib.hid (HZ.out.lit hb (by simp)); replace H2 := Lib.hid (H2.out.lit hb (by simp)).1) | (have HZ := Lib.hid (H2.out.lits hb (by simp)).2.1; have HN := Lib.hid (H2.out.lits hb (by simp)).2.2; replace H2 := Lib.hid (H2.out.lits hb (by simp)).1; (first | (have h9 := HZ.out; have h8 : One w w' _ (.cells #[.string ⟨#[103, 111, 97, 108]⟩, .string ⟨#[107, 105, 110, 100]⟩, .string ⟨#[110, 97, 109, 101]⟩] 9) := h9; clear h8 h9) | (have hq := HZ; replace HZ := HN; replace HN := hq; clear hq)))); clear hb x0 x1 x2; have x0 := cell_of H2.out.arg 0; have x1 := cell_of H2.out.arg 1; have x2 := cell_of H2.out.arg 2; simp only [List.getElem?_toArray, List.getElem?_cons_zero, List.getElem?_cons_succ] at x0 x1 x2; obtain ⟨r0, r1, r2, r3, r4, r5⟩ := five H2.out.res))
  all_goals
    have HF := lit_leaves H2.out HZ.out HN.out (metT ⟨s, k, g⟩) ⟨rfl, rfl, rfl⟩ rfl (metT_keys _) (show 0 < 3 by decide) (show 3 ≤ maxLen by decide) rfl HLf.out (show 0 < 3 by decide) (show 3 ≤ maxLen by decide) 3 3 rfl rfl rfl
    go_wp2
    exact bodyPost_ret (ret_node Tryz.results125 rfl HF.1) rfl ⟨_, _, _, rfl, HF.2.1, HF.2.2.1, HF.2.2.2⟩

set_option maxRecDepth 100000 in
set_option maxHeartbeats 8000000 in
theorem impl_paceTree (u d us ds : Int) (hu : Fit u) (hd : Fit d) (hus : Fit us) (hds : Fit ds) (w : World) (htab : Lib.TabIs Tryz.prog w "internal/strconv.uint64pow10" .u64 Lib.pow10Tab) :
    Calls Tryz.prog 78 #[.agg #[.int .i64 u, .int .i64 d, .int .i64 us, .int .i64 ds]] w fun e w' => ∃ kv dv F, e = .returned ((pacT ⟨u, d, us, ds⟩).val kv dv) ∧ Lies w' (pacT ⟨u, d, us, ds⟩) kv dv F ∧ Fresh w w' F ∧ Below w.heap.size w w' := by
  have HT := Lib.hid (Lib.tabBelow_of_tabIs htab)
  have HU : Hid (-9223372036854775808 ≤ us ∧ us ≤ 9223372036854775807) := hus
  have HD : Hid (-9223372036854775808 ≤ ds ∧ ds ≤ 9223372036854775807) := hds
  have HSU := Lib.hid (fun W (hW : Below w.heap.size w W) => impl_spanText us hus.1 hus.2 W (HT.out _ hW))
  have HSD := Lib.hid (fun W (hW : Below w.heap.size w W) => impl_spanText ds hds.1 hds.2 W (HT.out _ hW))
  have HLf := Lib.hid (pacT_leaves ⟨u, d, us, ds⟩ ⟨hu, hd, hus, hds⟩)
  clear htab hu hd hus hds
  go_enter Tryz.func78, Tryz.ntmps78
  go_wp2_with fail
  have H2 := Lib.hid (Two.start w (.cells #[.int .i64 u, .int .i64 d, .int .i64 us, .int .i64 ds] 35) (.cells #[.int .i64 0, .int .i64 0, .string ⟨#[]⟩, .slice none 0 0, .slice none 0 0] 32))
  have x0 := cell_of H2.out.arg 0
  have x1 := cell_of H2.out.arg 1
  have x2 := cell_of H2.out.arg 2
  have x3 := cell_of H2.out.arg 3
  simp only [List.getElem?_toArray, List.getElem?_cons_zero, List.getElem?_cons_succ] at x0 x1 x2 x3
  go_region_held3 (fun w' => w'.cell? ⟨w.heap.size, 0, none⟩ = some (.int .i64 u) ∧ w'.cell? ⟨w.heap.size, 1, none⟩ = some (.int .i64 d) ∧ w'.cell? ⟨w.heap.size, 2, none⟩ = some (.int .i64 us) ∧ w'.cell? ⟨w.heap.size, 3, none⟩ = some (.int .i64 ds)) (go_keep)
    (first
      | (go_at_call 85; refine (impl_intOf _ _).mono ?_; rintro e w' ⟨rfl, hb⟩; (first | (replace H2 := Lib.hid (H2.out.next hb); (try replace HZ := Lib.hid (HZ.out.next hb))) | (replace H2 := Lib.hid (H2.out.next1 hb)) | (have HZ := Lib.hid (H2.out.lit hb (by simp)).2; replace H2 := Lib.hid (H2.out.lit hb (by simp)).1; (first | replace HZ := Lib.hid (HZ.out.mv (n := w.heap.size + 1 + 1) (by simp)) | skip)) | (have HZ := Lib.hid (H2.out.lit1 hb).2; replace H2 := Lib.hid (H2.out.lit1 hb).1; (first | replace HZ := Lib.hid (HZ.out.mv (n := w.heap.size + 1 + 1) (by simp)) | skip))); clear hb x0 x1 x2 x3; have x0 := cell_of H2.out.arg 0; have x1 := cell_of H2.out.arg 1; have x2 := cell_of H2.out.arg 2; have x3 := cell_of H2.out.arg 3; simp only [List.getElem?_toArray, List.getElem?_cons_zero, List.getElem?_cons_succ] at x0 x1 x2 x3)
      | (go_at_call 115; (first | (with_reducible refine (HSU.out _ (by first | exact H2.out.below | exact H2.out.below.trans ((below_drew1 _).mono H2.out.below.size) | exact H2.out.below.trans (((Below.refl _ _).alloc (Nat.le_refl _) _).mono H2.out.below.size) | exact H2.out.below.trans ((below_lit _ _).mono H2.out.below.size))).mono ?_) | (with_reducible refine (HSD.out _ (by first | exact H2.out.below | exact H2.out.below.trans ((below_drew1 _).mono H2.out.below.size) | exact H2.out.below.trans (((Below.refl _ _).alloc (Nat.le_refl _) _).mono H2.out.below.size) | exact H2.out.below.trans ((below_lit _ _).mono H2.out.below.size))).mono ?_)); rintro e w' ⟨rfl, hb⟩; (first | (replace H2 := Lib.hid (H2.out.next hb); (try replace HZ := Lib.hid (HZ.out.next hb))) | (replace H2 := Lib.hid (H2.out.next1 hb)) | (have HZ := Lib.hid (H2.out.lit hb (by simp)).2; replace H2 := Lib.hid (H2.out.lit hb (by simp)).1; (first | replace HZ := Lib.hid (HZ.out.mv (n := w.heap.size + 1 + 1) (by simp)) | skip)) | (have HZ := Lib.hid (H2.out.lit1 hb).2; replace H2 := Lib.hid (H2.out.lit1 hb).1; (first | replace HZ := Lib.hid (HZ.out.mv (n := w.heap.size + 1 + 1) (by simp)) | skip))); clear hb x0 x1 x2 x3; have x0 := cell_of H2.out.arg 0; have x1 := cell_of H2.out.arg 1; have x2 := cell_of H2.out.arg 2; have x3 := cell_of H2.out.arg 3; simp only [List.getElem?_toArray, List.getElem?_cons_zero, List.getElem?_cons_succ] at x0 x1 x2 x3)
      | (go_at_call 74; refine (impl_textOf _ _).mono ?_; rintro e w' ⟨rfl, hb⟩; (first | (replace H2 := Lib.hid (H2.out.next hb); (try replace HZ := Lib.hid (HZ.out.next hb))) | (replace H2 := Lib.hid (H2.out.next1 hb)) | (have HZ := Lib.hid (H2.out.lit hb (by simp)).2; replace H2 := Lib.hid (H2.out.lit hb (by simp)).1; (first | replace HZ := Lib.hid (HZ.out.mv (n := w.heap.size + 1 + 1) (by simp)) | skip)) | (have HZ := Lib.hid (H2.out.lit1 hb).2; replace H2 := Lib.hid (H2.out.lit1 hb).1; (first | replace HZ := Lib.hid (HZ.out.mv (n := w.heap.size + 1 + 1) (by simp)) | skip))); clear hb x0 x1 x2 x3; have x0 := cell_of H2.out.arg 0; have x1 := cell_of H2.out.arg 1; have x2 := cell_of H2.out.arg 2; have x3 := cell_of H2.out.arg 3; simp only [List.getElem?_toArray, List.getElem?_cons_zero, List.getElem?_cons_succ] at x0 x1 x2 x3)
      | (go_at_call 110; refine (sh_node _ _ _ ⟨_, _, _, rfl⟩ ⟨_, _, _, rfl⟩).mono ?_; rintro e w' ⟨rfl, hb⟩; (first | (replace HZ := Lib.hid (HZ.out.lit1 hb); have HN := Lib.hid (H2.out.lit1 hb).2; replace H2 := Lib.hid (H2.out.lit1 hb).1) | (have HZ := Lib.hid (H2.out.lits1 hb).2.1; have HN := Lib.hid (H2.out.lits1 hb).2.2; replace H2 := Lib.hid (H2.out.lits1 hb).1; (first | (have h9 := HZ.out; have h8 : One w w' _ (.cells #[.string ⟨#[100, 111, 119, 110]⟩, .string ⟨#[100, 111, 119, 110, 115, 112, 97, 110]⟩, .string ⟨#[117, 112]⟩, .string ⟨#[117, 112, 115, 112, 97, 110]⟩] 9) := h9; clear h8 h9) | (have hq := HZ; replace HZ := HN; replace HN := hq; clear hq))) | (have HN := Lib.hid (H2.out.lit hb (by simp)).2; replace HZ := Lib.hid (HZ.out.lit hb (by simp)); replace H2 := Lib.hid (H2.out.lit hb (by simp)).1) | (have HZ := Lib.hid (H2.out.lits hb (by simp)).2.1; have HN := Lib.hid (H2.out.lits hb (by simp)).2.2; replace H2 := Lib.hid (H2.out.lits hb (by simp)).1; (first | (have h9 := HZ.out; have h8 : One w w' _ (.cells #[.string ⟨#[100, 111, 119, 110]⟩, .string ⟨#[100, 111, 119, 110, 115, 112, 97, 110]⟩, .string ⟨#[117, 112]⟩, .string ⟨#[117, 112, 115, 112, 97, 110]⟩] 9) := h9; clear h8 h9) | (have hq := HZ; replace HZ := HN; replace HN := hq; clear hq)))); clear hb x0 x1 x2 x3; have x0 := cell_of H2.out.arg 0; have x1 := cell_of H2.out.arg 1; have x2 := cell_of H2.out.arg 2; have x3 := cell_of H2.out.arg 3; simp only [List.getElem?_toArray, List.getElem?_cons_zero, List.getElem?_cons_succ] at x0 x1 x2 x3; obtain ⟨r0, r1, r2, r3, r4, r5⟩ := five H2.out.res))
  all_goals
    have HF := lit_leaves H2.out HZ.out HN.out (pacT ⟨u, d, us, ds⟩) ⟨rfl, rfl, rfl⟩ rfl (pacT_keys _) (show 0 < 4 by decide) (show 4 ≤ maxLen by decide) rfl HLf.out (show 0 < 4 by decide) (show 4 ≤ maxLen by decide) 4 4 rfl rfl rfl
    go_wp2
    exact bodyPost_ret (ret_node Tryz.results78 rfl HF.1) rfl ⟨_, _, _, rfl, HF.2.1, HF.2.2.1, HF.2.2.2⟩
end Go.Proofs.YtfmkhogpnnobeaaGreatDoor

/- the program's tree of a list of metrics: a list of their trees, in memory of its own; condition: the library's table of powers of ten starts as the program's text lays it. -/
namespace Go.Proofs.YtfmkhogpnnobeaaGreatDoor
open Go Go.RowKit

/-- Where metricsTree starts: the result's block. -/
def W1 (w : World) : World := w.alloc (.cells #[.int .i64 0, .int .i64 0, .string ⟨#[]⟩, .slice none 0 0, .slice none 0 0] 32)

structure LI (w wr : World) (kids : List RT) (j : Nat) (v : Value) (KV DV : Nat → Value) (FF : Nat → List Nat) : Prop where
  res : wr.heap[w.heap.size]? = some (.cells #[.int .i64 0, .int .i64 0, .string ⟨#[]⟩, .slice none 0 0, .slice none 0 0] 32 (0, 0))
  laid : LaidApp 32 w (W1 w) wr kids j v KV DV FF

section
variable {w wr w1 w2 w3 : World} {kids : List RT} {j : Nat} {v : Value} {KV DV : Nat → Value} {FF : Nat → List Nat}

theorem w1_size (w : World) : (W1 w).heap.size = w.heap.size + 1 := by simp [W1]

theorem LI.start (w : World) (kids : List RT) : LI w (W1 w) kids 0 (.slice none 0 0) (fun _ => .bool true) (fun _ => .bool true) (fun _ => []) := by
  have hb := (Below.refl _ w).alloc (Nat.le_refl _) (.cells #[.int .i64 0, .int .i64 0, .string ⟨#[]⟩, .slice none 0 0, .slice none 0 0] 32)
  exact ⟨heap_last w _, LaidApp.start _ kids hb (Nat.le_refl _) hb.size⟩

theorem LI.step (h : LI w wr kids j v KV DV FF) (hj : j < kids.length) (hb1 : Below wr.heap.size wr w1) {kvx dvx : Value} {F : List Nat} (hl : Lies w1 kids[j] kvx dvx F) (hf : Fresh wr w1 F) (hb2 : Below w1.heap.size w1 w2)
    {g cap : Nat} (hgrow : w2.grownBy w3 v.ownBlock) (hown : w3.ownsRow (W1 w).heap.size 32 5 (.slice (some ⟨g, 0, none⟩) (j + 1) cap) (j + 1) (rowsOf kids KV DV j ++ kids[j].row kvx dvx)) (hat : v.ownBlock = some g ∨ g = w2.heap.size) :
    LI w w3 kids (j + 1) (.slice (some ⟨g, 0, none⟩) (j + 1) cap) (fun i => if i = j then kvx else KV i) (fun i => if i = j then dvx else DV i) (fun i => if i = j then F else FF i) := by
  have hbw := hb1.trans (hb2.mono hb1.size)
  have hwc := h.laid.size
  have hsz := w1_size w
  refine ⟨?_, h.laid.step hj hb1 hl hf hb2 hgrow hown hat⟩
  rw [hgrow.block _ (by have := hbw.size; omega) (fun e => by have := (h.laid.ownlt _ e.symm).1; omega), hbw.block _ (by omega)]
  exact h.res

theorem LI.fin (h : LI w wr kids kids.length v KV DV FF) (hb : Below wr.heap.size wr w1) :
    ∃ F, (set5 w1 w.heap.size 0 (.int .i64 4) (.int .i64 0) (.string ⟨#[]⟩) (.slice none 0 0) v).heap[w.heap.size]? = some (.cells #[.int .i64 4, .int .i64 0, .string ⟨#[]⟩, .slice none 0 0, v] 32 (0, 0)) ∧
    Lies (set5 w1 w.heap.size 0 (.int .i64 4) (.int .i64 0) (.string ⟨#[]⟩) (.slice none 0 0) v) (.node 4 0 ⟨#[]⟩ [] kids) (.slice none 0 0) v F ∧ Fresh w (set5 w1 w.heap.size 0 (.int .i64 4) (.int .i64 0) (.string ⟨#[]⟩) (.slice none 0 0) v) F ∧
    Below w.heap.size w (set5 w1 w.heap.size 0 (.int .i64 4) (.int .i64 0) (.string ⟨#[]⟩) (.slice none 0 0) v) := by
  obtain ⟨F, hD, hf, -⟩ := h.laid.done
  have hsz := w1_size w
  have hD1 : KidsLie w1 v kids F := hD.stay hb (Nat.le_refl _)
  have hf1 : Fresh (W1 w) w1 F := hf.carry fun x hx => hb.block x (hD.lt x hx)
  have keep : ∀ x ∈ F, (set5 w1 w.heap.size 0 (.int .i64 4) (.int .i64 0) (.string ⟨#[]⟩) (.slice none 0 0) v).heap[x]? = w1.heap[x]? := fun x hx => set5_other _ _ _ _ _ _ _ _ _ (by have := hf.old x hx; omega)
  have hL := Lies.into (k := 4) (n := 0) (s := ⟨#[]⟩) (FK := []) ⟨by decide, by decide⟩ ⟨by decide, by decide⟩ (by decide) (strs_nil w1 none) hD1
  have hlt := (Array.getElem?_eq_some_iff.1 h.res).1
  exact ⟨[] ++ F, set5_end ((hb.block _ hlt).trans h.res) _ _ _ _ _, hL.carry (by simpa using keep), (hf1.carry (by simpa using keep)).earlier (by omega), set5_below (h.laid.below.trans (hb.mono h.laid.below.size)) (Nat.le_refl _) _ _ _ _ _ _⟩
end

set_option maxRecDepth 100000 in
set_option maxHeartbeats 3200000 in
theorem impl_metricsTree {v : Value} {xs : List Met} {F : List Nat} (w : World) (hs : MetsAt w v xs F) (h1 : xs.length ≤ 1000000) (htab : Lib.TabIs Tryz.prog w "internal/strconv.uint64pow10" .u64 Lib.pow10Tab) :
    Calls Tryz.prog 88 #[v] w fun e w' => ∃ dv G, e = .returned (.agg #[.int .i64 4, .int .i64 0, .string ⟨#[]⟩, .slice none 0 0, dv]) ∧ Lies w' (metsT xs) (.slice none 0 0) dv G ∧ Fresh w w' G ∧ Below w.heap.size w w' := by
  have HOK := Lib.hid (RowAt.every hs)
  obtain ⟨o, cap, b, off, rfl, hlc, hcm, ho, -, hcell, -⟩ := hs
  have HC := Lib.hid hcell
  have HO := Lib.hid ho
  have HT := Lib.hid (Lib.tabBelow_of_tabIs htab)
  have HM := Lib.hid (LI.start w (xs.map metT))
  have HLn : Hid ((xs.map metT).length = xs.length) := List.length_map _
  clear hcell ho htab
  obtain ⟨i0, hi0, hz0, hz1, hz2⟩ := info_parts info_node
  go_enter Tryz.func88, Tryz.ntmps88
  go_wp2
  go_loopw [3, 8] (fun v i wr => ∃ (k : Nat) (KV' DV' : Nat → Value) (FF' : Nat → List Nat), k ≤ xs.length ∧ i = .int .i64 k ∧ Hid (LI w wr (xs.map metT) k v KV' DV' FF')) (fun _ i _ => xs.length - (intOf i).toNat)
  case atStart => exact ⟨0, _, _, _, Nat.zero_le _, rfl, HM.out⟩
  case round =>
    obtain ⟨k, KV', DV', FF', hk, rfl, hr⟩ := hrel
    by_cases hlt : k < xs.length
    · have hjk : k < (xs.map metT).length := by have := HLn.out; omega
      have hbel := hr.out.laid.below
      have c0 : wr.cell? ⟨b, off + k * 3, none⟩ = some (.string xs[k].name) := by
        have := (HC.out k hlt).2 0 (by decide)
        rw [hbel.cell (by exact World.block_lt_of_cell? _ _ this)]; exact this
      have c1 : wr.cell? ⟨b, off + k * 3 + 1, none⟩ = some (.int .i64 xs[k].kind) := by
        have := (HC.out k hlt).2 1 (by decide)
        rw [hbel.cell (by exact World.block_lt_of_cell? _ _ this)]; exact this
      have c2 : wr.cell? ⟨b, off + k * 3 + 2, none⟩ = some (.int .i64 xs[k].goal) := by
        have := (HC.out k hlt).2 2 (by decide)
        rw [hbel.cell (by exact World.block_lt_of_cell? _ _ this)]; exact this
      have ho := HO.out (by omega)
      subst ho
      have hok := HOK.out _ (List.getElem_mem hlt)
      have HI : Hid (∀ w1 : World, Below w.heap.size w w1 → Calls Tryz.prog 125 #[.agg #[.string xs[k].name, .int .i64 xs[k].kind, .int .i64 xs[k].goal]] w1 fun e w' => ∃ kv' dv' F', e = .returned (.agg #[.int .i64 (metT xs[k]).k, .int .i64 (metT xs[k]).n, .string (metT xs[k]).s, kv', dv']) ∧ Lies w' (metT xs[k]) kv' dv' F' ∧ Fresh w1 w' F' ∧ Below w1.heap.size w1 w') := fun w1 hb1 =>
        impl_metricTree xs[k].name xs[k].kind xs[k].goal hok.1 hok.2.1 hok.2.2 w1 (HT.out _ hb1)
      have HS := Lib.hid fun (w1 w2 w3 : World) (kvx dvx : Value) (F : List Nat) (g cap : Nat) => hr.out.step (w1 := w1) (w2 := w2) (w3 := w3) (kvx := kvx) (dvx := dvx) (F := F) (g := g) (cap := cap) hjk
      have e1 : (xs.map metT)[k] = metT xs[k] := List.getElem_map _
      rw [e1] at HS
      have hB1 : Hid (∀ ob, Below wr.heap.size wr (wr.alloc ob)) := fun ob => (Below.refl _ wr).alloc (Nat.le_refl _) ob
      have HBw := Lib.hid hbel
      generalize hxe : metT xs[k] = T at *
      generalize xs[k] = x at *
      clear hxe hok e1 hbel
      go_wp2_with fail
      refine (HI.out _ (HBw.out.trans ((hB1.out _).mono HBw.out.size))).mono ?_
      rintro e w1 ⟨kv1, dv1, F1, rfl, hl1, hf1, hb1⟩
      obtain ⟨⟨o3, q3, rfl⟩, ⟨o4, q4, rfl⟩⟩ := hl1.slices
      have hbw : Below wr.heap.size wr w1 := (hB1.out _).trans (hb1.mono (hB1.out _).size)
      have hf1' : Fresh wr w1 F1 := hf1.earlier (hB1.out _).size
      have HS1 := Lib.hid fun (w2 w3 : World) (g cap : Nat) => HS.out w1 w2 w3 _ _ _ g cap hbw hl1 hf1'
      have HOwn := Lib.hid (owns_below (owns_below hr.out.laid.own hbw) ((Below.refl _ w1).alloc (Nat.le_refl _) (.cells #[.int .i64 T.k, .int .i64 T.n, .string T.s, .slice o3 T.keys.length q3, .slice o4 T.kids.length q4] 32)))
      have hbase : (W1 w).heap.size ≤ w1.heap.size + 1 := by have := hr.out.laid.size; have := hbw.size; omega
      have HBase := Lib.hid hbase
      clear hl1 hf1 hb1 hbw hf1' hbase c0 c1 c2
      rename_i u3
      go_wp2_with (first
        | (at_builtin; refine wpList_append_lies _ rfl (.tmp 12) (.tmp 15) 129 rfl (W1 w).heap.size 32 i0 _ 5 80 Tryz.underlying129 hi0 hz0 hz1 hz2 rfl (by decide) u3 k _ rfl HOwn.out ⟨w1.heap.size, 0, none⟩ 1 1 [.int .i64 T.k, .int .i64 T.n, .string T.s, .slice o3 T.keys.length q3, .slice o4 T.kids.length q4] rfl rfl (World.news_of_block (cs := #[.int .i64 T.k, .int .i64 T.n, .string T.s, .slice o3 T.keys.length q3, .slice o4 T.kids.length q4]) (t := 32) (fr := (0, 0)) (heap_last w1 _)) (by simp [Value.oneCell']) (by omega) (by unfold maxLen; omega) (by omega) (by simp; exact HBase.out) (w1.heap.size + 1) (by simp) ?_; intro g cap' w3 hown3 hgrow hat hltg; have H3 := Lib.hid (And.intro hown3 (And.intro hgrow hat)); clear hown3 hgrow hat hltg)
        | fail)
      exact ⟨⟨k + 1, _, _, _, by omega, by go_num, HS1.out _ w3 g cap' ((Below.refl _ w1).alloc (Nat.le_refl _) _) H3.out.2.1 H3.out.1 (by simpa using H3.out.2.2)⟩, by simp [intOf]; omega⟩
    · have e : k = xs.length := by omega
      subst e
      have hr' := hr.out
      rw [← HLn.out] at hr'
      have HD := Lib.hid fun (w5 : World) (hb : Below wr.heap.size wr w5) => hr'.fin hb
      have HRs := Lib.hid hr'.res
      obtain ⟨ov, cv, hvs⟩ := hr.out.laid.slice
      clear hr'
      subst hvs
      go_wp2_with (first
        | (go_at_call 126; refine (node_list _ _ _ _).mono ?_; rintro e w5 ⟨rfl, hb5⟩; have H5 := Lib.hid (HD.out w5 hb5); obtain ⟨z0, z1, z2, z3, z4, z5⟩ := five (blk_next HRs.out hb5); clear hb5)
        | fail)
      obtain ⟨F', hfin⟩ := H5.out
      exact bodyPost_ret (ret_node Tryz.results88 rfl hfin.1) rfl ⟨_, _, rfl, hfin.2⟩
end Go.Proofs.YtfmkhogpnnobeaaGreatDoor
