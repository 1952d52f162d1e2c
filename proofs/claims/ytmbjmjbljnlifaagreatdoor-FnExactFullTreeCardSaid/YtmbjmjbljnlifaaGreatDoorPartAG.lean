/-
  What is proved: the program's trees of a metric and of a pace: maps whose Keys ascend, in memory of their own; condition: the library's table of powers of ten starts as the program's text lays it.; the program's copyTrees and copyTree lay the same trees into new memory.; for both flags the program's FlagOf answers as the model's FlagOf does, in memory of its own; no condition.; the program's nodeOk tells of a node alone whether it is as its kind has it.; the program's tree of a list of metrics: a list of their trees, in memory of its own; condition: the library's table of powers of ten starts as the program's text lays it.
-/
import Derived.Test.YtmbjmjbljnlifaaGreatDoorPartAF
import Derived.Test.YtmbjmjbljnlifaaGreatDoorPartAC
import Derived.Test.YtmbjmjbljnlifaaGreatDoorPartAE
/- the program's trees of a metric and of a pace: maps whose Keys ascend, in memory of their own; condition: the library's table of powers of ten starts as the program's text lays it. -/
namespace Go.Proofs.YtmbjmjbljnlifaaGreatDoor
open Go Go.RowKit

set_option maxRecDepth 100000 in
set_option maxHeartbeats 8000000 in
theorem impl_metricTree (s : ByteArray) (k g : Int) (hs : s.size ≤ maxLen) (hk : Fit k) (hg : Fit g) (w : World) (htab : Lib.TabIs Tryz.prog w "internal/strconv.uint64pow10" .u64 Lib.pow10Tab) :
    Calls Tryz.prog 65 #[.agg #[.string s, .int .i64 k, .int .i64 g]] w fun e w' => ∃ kv dv F, e = .returned ((metT ⟨s, k, g⟩).val kv dv) ∧ Lies w' (metT ⟨s, k, g⟩) kv dv F ∧ Fresh w w' F ∧ Below w.heap.size w w' := by
  have HT := Lib.hid (Lib.tabBelow_of_tabIs htab)
  have HG := Lib.hid hg
  have HLf := Lib.hid (metT_leaves ⟨s, k, g⟩ ⟨hs, hk, hg⟩)
  clear htab hs hk hg
  go_enter Tryz.func65, Tryz.ntmps65
  go_wp2_with fail
  have H2 := Lib.hid (Two.start w (.cells #[.string s, .int .i64 k, .int .i64 g] 85) (.cells #[.int .i64 0, .int .i64 0, .string ⟨#[]⟩, .slice none 0 0, .slice none 0 0] 32))
  have x0 := cell_of H2.out.arg 0
  have x1 := cell_of H2.out.arg 1
  have x2 := cell_of H2.out.arg 2
  simp only [List.getElem?_toArray, List.getElem?_cons_zero, List.getElem?_cons_succ] at x0 x1 x2
  go_region_held3 (fun w' => w'.cell? ⟨w.heap.size, 0, none⟩ = some (.string s) ∧ w'.cell? ⟨w.heap.size, 1, none⟩ = some (.int .i64 k) ∧ w'.cell? ⟨w.heap.size, 2, none⟩ = some (.int .i64 g)) (go_keep)
    (first
      | (go_at_call 86; refine (impl_amountText g HG.out.1 HG.out.2 _ (by first | exact HT.out _ H2.out.below | exact HT.out _ (H2.out.below.trans ((below_drew1 _).mono H2.out.below.size)) | exact HT.out _ (H2.out.below.trans (((Below.refl _ _).alloc (Nat.le_refl _) _).mono H2.out.below.size)) | exact HT.out _ (H2.out.below.trans ((below_lit _ _).mono H2.out.below.size)))).mono ?_; rintro e w' ⟨rfl, hb⟩; (first | (replace H2 := Lib.hid (H2.out.next hb); (try replace HZ := Lib.hid (HZ.out.next hb))) | (replace H2 := Lib.hid (H2.out.next1 hb)) | (have HZ := Lib.hid (H2.out.lit hb (by simp)).2; replace H2 := Lib.hid (H2.out.lit hb (by simp)).1; (first | replace HZ := Lib.hid (HZ.out.mv (n := w.heap.size + 1 + 1) (by simp)) | skip)) | (have HZ := Lib.hid (H2.out.lit1 hb).2; replace H2 := Lib.hid (H2.out.lit1 hb).1; (first | replace HZ := Lib.hid (HZ.out.mv (n := w.heap.size + 1 + 1) (by simp)) | skip))); clear hb x0 x1 x2; have x0 := cell_of H2.out.arg 0; have x1 := cell_of H2.out.arg 1; have x2 := cell_of H2.out.arg 2; simp only [List.getElem?_toArray, List.getElem?_cons_zero, List.getElem?_cons_succ] at x0 x1 x2)
      | (go_at_call 26; refine (impl_textOf _ _).mono ?_; rintro e w' ⟨rfl, hb⟩; (first | (replace H2 := Lib.hid (H2.out.next hb); (try replace HZ := Lib.hid (HZ.out.next hb))) | (replace H2 := Lib.hid (H2.out.next1 hb)) | (have HZ := Lib.hid (H2.out.lit hb (by simp)).2; replace H2 := Lib.hid (H2.out.lit hb (by simp)).1; (first | replace HZ := Lib.hid (HZ.out.mv (n := w.heap.size + 1 + 1) (by simp)) | skip)) | (have HZ := Lib.hid (H2.out.lit1 hb).2; replace H2 := Lib.hid (H2.out.lit1 hb).1; (first | replace HZ := Lib.hid (HZ.out.mv (n := w.heap.size + 1 + 1) (by simp)) | skip))); clear hb x0 x1 x2; have x0 := cell_of H2.out.arg 0; have x1 := cell_of H2.out.arg 1; have x2 := cell_of H2.out.arg 2; simp only [List.getElem?_toArray, List.getElem?_cons_zero, List.getElem?_cons_succ] at x0 x1 x2)
      | (go_at_call 87; refine (impl_kindText _ _).mono ?_; rintro e w' ⟨rfl, hb⟩; (first | (replace H2 := Lib.hid (H2.out.next hb); (try replace HZ := Lib.hid (HZ.out.next hb))) | (replace H2 := Lib.hid (H2.out.next1 hb)) | (have HZ := Lib.hid (H2.out.lit hb (by simp)).2; replace H2 := Lib.hid (H2.out.lit hb (by simp)).1; (first | replace HZ := Lib.hid (HZ.out.mv (n := w.heap.size + 1 + 1) (by simp)) | skip)) | (have HZ := Lib.hid (H2.out.lit1 hb).2; replace H2 := Lib.hid (H2.out.lit1 hb).1; (first | replace HZ := Lib.hid (HZ.out.mv (n := w.heap.size + 1 + 1) (by simp)) | skip))); clear hb x0 x1 x2; have x0 := cell_of H2.out.arg 0; have x1 := cell_of H2.out.arg 1; have x2 := cell_of H2.out.arg 2; simp only [List.getElem?_toArray, List.getElem?_cons_zero, List.getElem?_cons_succ] at x0 x1 x2)
      | (go_at_call 30; refine (sh_node _ _ _ ⟨_, _, _, rfl⟩ ⟨_, _, _, rfl⟩).mono ?_; rintro e w' ⟨rfl, hb⟩; (first | (replace HZ := Lib.hid (HZ.out.lit1 hb); have HN := Lib.hid (H2.out.lit1 hb).2; replace H2 := Lib.hid (H2.out.lit1 hb).1) | (have HZ := Lib.hid (H2.out.lits1 hb).2.1; have HN := Lib.hid (H2.out.lits1 hb).2.2; replace H2 := Lib.hid (H2.out.lits1 hb).1; (first | (have h9 := HZ.out; have h8 : One w w' _ (.cells #[.string ⟨#[103, 111, 97, 108]⟩, .string ⟨#[107, 105, 110, 100]⟩, .string ⟨#[110, 97, 109, 101]⟩] 9) := h9; clear h8 h9) | (have hq := HZ; replace HZ := HN; replace HN := hq; clear hq))) | (have HN := Lib.hid (H2.out.lit hb (by simp)).2; replace HZ := Lib.hid (HZ.out.lit hb (by simp)); replace H2 := Lib.hid (H2.out.lit hb (by simp)).1) | (have HZ := Lib.hid (H2.out.lits hb (by simp)).2.1; have HN := Lib.hid (H2.out.lits hb (by simp)).2.2; replace H2 := Lib.hid (H2.out.lits hb (by simp)).1; (first | (have h9 := HZ.out; have h8 : One w w' _ (.cells #[.string ⟨#[103, 111, 97, 108]⟩, .string ⟨#[107, 105, 110, 100]⟩, .string ⟨#[110, 97, 109, 101]⟩] 9) := h9; clear h8 h9) | (have hq := HZ; replace HZ := HN; replace HN := hq; clear hq)))); clear hb x0 x1 x2; have x0 := cell_of H2.out.arg 0; have x1 := cell_of H2.out.arg 1; have x2 := cell_of H2.out.arg 2; simp only [List.getElem?_toArray, List.getElem?_cons_zero, List.getElem?_cons_succ] at x0 x1 x2; obtain ⟨r0, r1, r2, r3, r4, r5⟩ := five H2.out.res))
  all_goals
    have HF := lit_leaves H2.out HZ.out HN.out (metT ⟨s, k, g⟩) ⟨rfl, rfl, rfl⟩ rfl (metT_keys _) (show 0 < 3 by decide) (show 3 ≤ maxLen by decide) rfl HLf.out (show 0 < 3 by decide) (show 3 ≤ maxLen by decide) 3 3 rfl rfl rfl
    go_wp2
    exact bodyPost_ret (ret_node Tryz.results65 rfl HF.1) rfl ⟨_, _, _, rfl, HF.2.1, HF.2.2.1, HF.2.2.2⟩

set_option maxRecDepth 100000 in
set_option maxHeartbeats 8000000 in
theorem impl_paceTree (u d us ds : Int) (hu : Fit u) (hd : Fit d) (hus : Fit us) (hds : Fit ds) (w : World) (htab : Lib.TabIs Tryz.prog w "internal/strconv.uint64pow10" .u64 Lib.pow10Tab) :
    Calls Tryz.prog 29 #[.agg #[.int .i64 u, .int .i64 d, .int .i64 us, .int .i64 ds]] w fun e w' => ∃ kv dv F, e = .returned ((pacT ⟨u, d, us, ds⟩).val kv dv) ∧ Lies w' (pacT ⟨u, d, us, ds⟩) kv dv F ∧ Fresh w w' F ∧ Below w.heap.size w w' := by
  have HT := Lib.hid (Lib.tabBelow_of_tabIs htab)
  have HU : Hid (-9223372036854775808 ≤ us ∧ us ≤ 9223372036854775807) := hus
  have HD : Hid (-9223372036854775808 ≤ ds ∧ ds ≤ 9223372036854775807) := hds
  have HSU := Lib.hid (fun W (hW : Below w.heap.size w W) => impl_spanText us hus.1 hus.2 W (HT.out _ hW))
  have HSD := Lib.hid (fun W (hW : Below w.heap.size w W) => impl_spanText ds hds.1 hds.2 W (HT.out _ hW))
  have HLf := Lib.hid (pacT_leaves ⟨u, d, us, ds⟩ ⟨hu, hd, hus, hds⟩)
  clear htab hu hd hus hds
  go_enter Tryz.func29, Tryz.ntmps29
  go_wp2_with fail
  have H2 := Lib.hid (Two.start w (.cells #[.int .i64 u, .int .i64 d, .int .i64 us, .int .i64 ds] 35) (.cells #[.int .i64 0, .int .i64 0, .string ⟨#[]⟩, .slice none 0 0, .slice none 0 0] 32))
  have x0 := cell_of H2.out.arg 0
  have x1 := cell_of H2.out.arg 1
  have x2 := cell_of H2.out.arg 2
  have x3 := cell_of H2.out.arg 3
  simp only [List.getElem?_toArray, List.getElem?_cons_zero, List.getElem?_cons_succ] at x0 x1 x2 x3
  go_region_held3 (fun w' => w'.cell? ⟨w.heap.size, 0, none⟩ = some (.int .i64 u) ∧ w'.cell? ⟨w.heap.size, 1, none⟩ = some (.int .i64 d) ∧ w'.cell? ⟨w.heap.size, 2, none⟩ = some (.int .i64 us) ∧ w'.cell? ⟨w.heap.size, 3, none⟩ = some (.int .i64 ds)) (go_keep)
    (first
      | (go_at_call 25; refine (impl_intOf _ _).mono ?_; rintro e w' ⟨rfl, hb⟩; (first | (replace H2 := Lib.hid (H2.out.next hb); (try replace HZ := Lib.hid (HZ.out.next hb))) | (replace H2 := Lib.hid (H2.out.next1 hb)) | (have HZ := Lib.hid (H2.out.lit hb (by simp)).2; replace H2 := Lib.hid (H2.out.lit hb (by simp)).1; (first | replace HZ := Lib.hid (HZ.out.mv (n := w.heap.size + 1 + 1) (by simp)) | skip)) | (have HZ := Lib.hid (H2.out.lit1 hb).2; replace H2 := Lib.hid (H2.out.lit1 hb).1; (first | replace HZ := Lib.hid (HZ.out.mv (n := w.heap.size + 1 + 1) (by simp)) | skip))); clear hb x0 x1 x2 x3; have x0 := cell_of H2.out.arg 0; have x1 := cell_of H2.out.arg 1; have x2 := cell_of H2.out.arg 2; have x3 := cell_of H2.out.arg 3; simp only [List.getElem?_toArray, List.getElem?_cons_zero, List.getElem?_cons_succ] at x0 x1 x2 x3)
      | (go_at_call 67; (first | (with_reducible refine (HSU.out _ (by first | exact H2.out.below | exact H2.out.below.trans ((below_drew1 _).mono H2.out.below.size) | exact H2.out.below.trans (((Below.refl _ _).alloc (Nat.le_refl _) _).mono H2.out.below.size) | exact H2.out.below.trans ((below_lit _ _).mono H2.out.below.size))).mono ?_) | (with_reducible refine (HSD.out _ (by first | exact H2.out.below | exact H2.out.below.trans ((below_drew1 _).mono H2.out.below.size) | exact H2.out.below.trans (((Below.refl _ _).alloc (Nat.le_refl _) _).mono H2.out.below.size) | exact H2.out.below.trans ((below_lit _ _).mono H2.out.below.size))).mono ?_)); rintro e w' ⟨rfl, hb⟩; (first | (replace H2 := Lib.hid (H2.out.next hb); (try replace HZ := Lib.hid (HZ.out.next hb))) | (replace H2 := Lib.hid (H2.out.next1 hb)) | (have HZ := Lib.hid (H2.out.lit hb (by simp)).2; replace H2 := Lib.hid (H2.out.lit hb (by simp)).1; (first | replace HZ := Lib.hid (HZ.out.mv (n := w.heap.size + 1 + 1) (by simp)) | skip)) | (have HZ := Lib.hid (H2.out.lit1 hb).2; replace H2 := Lib.hid (H2.out.lit1 hb).1; (first | replace HZ := Lib.hid (HZ.out.mv (n := w.heap.size + 1 + 1) (by simp)) | skip))); clear hb x0 x1 x2 x3; have x0 := cell_of H2.out.arg 0; have x1 := cell_of H2.out.arg 1; have x2 := cell_of H2.out.arg 2; have x3 := cell_of H2.out.arg 3; simp only [List.getElem?_toArray, List.getElem?_cons_zero, List.getElem?_cons_succ] at x0 x1 x2 x3)
      | (go_at_call 26; refine (impl_textOf _ _).mono ?_; rintro e w' ⟨rfl, hb⟩; (first | (replace H2 := Lib.hid (H2.out.next hb); (try replace HZ := Lib.hid (HZ.out.next hb))) | (replace H2 := Lib.hid (H2.out.next1 hb)) | (have HZ := Lib.hid (H2.out.lit hb (by simp)).2; replace H2 := Lib.hid (H2.out.lit hb (by simp)).1; (first | replace HZ := Lib.hid (HZ.out.mv (n := w.heap.size + 1 + 1) (by simp)) | skip)) | (have HZ := Lib.hid (H2.out.lit1 hb).2; replace H2 := Lib.hid (H2.out.lit1 hb).1; (first | replace HZ := Lib.hid (HZ.out.mv (n := w.heap.size + 1 + 1) (by simp)) | skip))); clear hb x0 x1 x2 x3; have x0 := cell_of H2.out.arg 0; have x1 := cell_of H2.out.arg 1; have x2 := cell_of H2.out.arg 2; have x3 := cell_of H2.out.arg 3; simp only [List.getElem?_toArray, List.getElem?_cons_zero, List.getElem?_cons_succ] at x0 x1 x2 x3)
      | (go_at_call 30; refine (sh_node _ _ _ ⟨_, _, _, rfl⟩ ⟨_, _, _, rfl⟩).mono ?_; rintro e w' ⟨rfl, hb⟩; (first | (replace HZ := Lib.hid (HZ.out.lit1 hb); have HN := Lib.hid (H2.out.lit1 hb).2; replace H2 := Lib.hid (H2.out.lit1 hb).1) | (have HZ := Lib.hid (H2.out.lits1 hb).2.1; have HN := Lib.hid (H2.out.lits1 hb).2.2; replace H2 := Lib.hid (H2.out.lits1 hb).1; (first | (have h9 := HZ.out; have h8 : One w w' _ (.cells #[.string ⟨#[100, 111, 119, 110]⟩, .string ⟨#[100, 111, 119, 110, 115, 112, 97, 110]⟩, .string ⟨#[117, 112]⟩, .string ⟨#[117, 112, 115, 112, 97, 110]⟩] 9) := h9; clear h8 h9) | (have hq := HZ; replace HZ := HN; replace HN := hq; clear hq))) | (have HN := Lib.hid (H2.out.lit hb (by simp)).2; replace HZ := Lib.hid (HZ.out.lit hb (by simp)); replace H2 := Lib.hid (H2.out.lit hb (by simp)).1) | (have HZ := Lib.hid (H2.out.lits hb (by simp)).2.1; have HN := Lib.hid (H2.out.lits hb (by simp)).2.2; replace H2 := Lib.hid (H2.out.lits hb (by simp)).1; (first | (have h9 := HZ.out; have h8 : One w w' _ (.cells #[.string ⟨#[100, 111, 119, 110]⟩, .string ⟨#[100, 111, 119, 110, 115, 112, 97, 110]⟩, .string ⟨#[117, 112]⟩, .string ⟨#[117, 112, 115, 112, 97, 110]⟩] 9) := h9; clear h8 h9) | (have hq := HZ; replace HZ := HN; replace HN := hq; clear hq)))); clear hb x0 x1 x2 x3; have x0 := cell_of H2.out.arg 0; have x1 := cell_of H2.out.arg 1; have x2 := cell_of H2.out.arg 2; have x3 := cell_of H2.out.arg 3; simp only [List.getElem?_toArray, List.getElem?_cons_zero, List.getElem?_cons_succ] at x0 x1 x2 x3; obtain ⟨r0, r1, r2, r3, r4, r5⟩ := five H2.out.res))
  all_goals
    have HF := lit_leaves H2.out HZ.out HN.out (pacT ⟨u, d, us, ds⟩) ⟨rfl, rfl, rfl⟩ rfl (pacT_keys _) (show 0 < 4 by decide) (show 4 ≤ maxLen by decide) rfl HLf.out (show 0 < 4 by decide) (show 4 ≤ maxLen by decide) 4 4 rfl rfl rfl
    go_wp2
    exact bodyPost_ret (ret_node Tryz.results29 rfl HF.1) rfl ⟨_, _, _, rfl, HF.2.1, HF.2.2.1, HF.2.2.2⟩
end Go.Proofs.YtmbjmjbljnlifaaGreatDoor

/- the program's copyTrees and copyTree lay the same trees into new memory. -/
namespace Go.Proofs.YtmbjmjbljnlifaaGreatDoor
open Go Go.RowKit

/-! ### A node copied whole -/

/-- The block of what a function was handed, and the block of what it answers. -/
structure CBox (w wr : World) (t : TypeId) (a b c d e : Value) : Prop where
  below : Below w.heap.size w wr
  size : w.heap.size + 2 ≤ wr.heap.size
  box : wr.heap[w.heap.size]? = some (.cells #[a, b, c, d, e] t (0, 0))
  res : wr.heap[w.heap.size + 1]? = some (.cells #[.int .i64 0, .int .i64 0, .string ⟨#[]⟩, .slice none 0 0, .slice none 0 0] 32 (0, 0))

theorem CBox.start (w : World) (t : TypeId) (a b c d e : Value) : CBox w ((w.alloc (.cells #[a, b, c, d, e] t)).alloc (.cells #[.int .i64 0, .int .i64 0, .string ⟨#[]⟩, .slice none 0 0, .slice none 0 0] 32)) t a b c d e where
  below := ((Below.refl _ w).alloc (Nat.le_refl _) _).alloc (by simp) _
  size := by simp
  box := (Below.heap_alloc _ _ _ (by simp)).trans (heap_last w _)
  res := by
    have := heap_last (w.alloc (.cells #[a, b, c, d, e] t)) (.cells #[.int .i64 0, .int .i64 0, .string ⟨#[]⟩, .slice none 0 0, .slice none 0 0] 32)
    simpa using this

theorem CBox.next {w wr w1 : World} {t : TypeId} {a b c d e : Value} (h : CBox w wr t a b c d e) (hb : Below wr.heap.size wr w1) : CBox w w1 t a b c d e where
  below := h.below.trans (hb.mono h.below.size)
  size := Nat.le_trans h.size hb.size
  box := (hb.block _ (by have := h.size; omega)).trans h.box
  res := (hb.block _ (by have := h.size; omega)).trans h.res

theorem below_of_grown {w w' : World} (h : w.grownBy w' none) : Below w.heap.size w w' := ⟨h.os, h.tape, h.output, h.size, fun k hk => h.block k hk (by simp)⟩

/-- The texts that an append onto nothing has laid. -/
theorem strs_of_owns {w wr : World} {base g cap : Nat} {ks : List ByteArray} {t : TypeId} (hn : 0 < ks.length) (hs : ∀ i (h : i < ks.length), ks[i].size ≤ maxLen) (hb : w.heap.size ≤ base) (h : wr.ownsRow base t 1 (.slice (some ⟨g, 0, none⟩) (0 + ks.length) cap) (0 + ks.length) ([] ++ ks.map .string)) :
    StrsAt wr (.slice (some ⟨g, 0, none⟩) ks.length cap) ks [g] ∧ Fresh w wr [g] := by
  rcases h.2 with ⟨h0, _⟩ | ⟨g', cap', cur, hv, hg, hh, hnc, hcm, hsz, htk⟩
  · cases h0
  · injection hv with e1 e2 e3
    injection e1 with e1
    injection e1 with e1
    subst e1 e3
    refine ⟨⟨_, _, g, 0, rfl, by omega, hcm, fun _ => rfl, by rw [if_neg (by omega)], fun i hi => ⟨?_, hs i hi⟩, room_of hh (by omega)⟩, ⟨by simp, fun b hb' => by simp at hb'; omega, fun b hb' o => by simp at hb'; subst hb'; simp [World.frozen?, hh]⟩⟩
    rw [Nat.zero_add, cell_of hh]
    have h1 : (cur.toList.take ((0 + ks.length) * 1))[i]? = (([] ++ ks.map Value.string) : List Value)[i]? := by rw [htk]
    rw [List.getElem?_take_of_lt (by omega)] at h1
    simpa [List.getElem?_eq_getElem hi] using h1

theorem app_nothing_ty (ty : TypeId) (w : World) (bo ko : Option Addr) (bc kc : Nat) : (Builtin.append_ #[29, 29] ty #[.slice bo 0 bc, .slice ko 0 kc]).run Tryz.prog w = .ok (.slice bo 0 bc) w := by
  obtain ⟨i, hi, hzz⟩ := Option.map_eq_some_iff.1 info_string
  have hs : Src Tryz.prog i.size 29 (.slice ko 0 kc) 0 [] w := by
    cases ko with
    | none => exact Src.ofNil w Tryz.underlying29 kc
    | some a => exact Src.ofSlice w Tryz.underlying29 a 0 kc [] (by simp) (fun j u h => by simp at h) (fun u h => by simp at h)
  exact run_append_nothing w 29 29 ty 9 i Tryz.underlying29 hi bo 0 bc (Nat.zero_le _) _ hs

/-- Nothing is appended, at a step of a region that draws its order. -/
theorem step_append_nothing {ops : Array Oper} {o : Oper} {a : Act} {w : World} {K : Act → World → Prop} {Q : Exit → Act → World → Prop} {E : Prop} (hgd : o.guard = none) (s x : Operand)
    (ho : o.op = .call { callee := .builtin .append, args := #[s, x], argTypes := #[29, 29] }) (bo ko : Option Addr) (bc kc : Nat) (hs : a.eval s = .slice bo 0 bc) (hx : a.eval x = .slice ko 0 kc)
    (h : K (a.put o.dst (.slice bo 0 bc)) w) : if Region.wanted o (yielded ops a.tmps) = true then Oper.wp Tryz.prog o a w K Q else E := by
  have hw : Region.wanted o (yielded ops a.tmps) = true := by simp [Region.wanted, hgd]
  rw [if_pos hw]
  unfold Oper.wp execOp
  simp only [ho, resolve, invoke, builtin, Sem.run_bind, Sem.run_pure, Result.andThen_ok, List.map_toArray, List.map_cons, List.map_nil, hs, hx, app_nothing_ty]
  exact h

/-- What is answered: the node stored whole into its block. -/
theorem copy_fin {w wr : World} {t : TypeId} {a b c d e : Value} (hx : CBox w wr t a b c d e) {k n : Int} {s : ByteArray} {keys : List ByteArray} {kids : List RT} {kv dv : Value} {FK FD : List Nat} (hfit : Fit k ∧ Fit n ∧ s.size ≤ maxLen)
    (hK : StrsAt wr kv keys FK) (hD : KidsLie wr dv kids FD) (hf : Fresh w wr (FK ++ FD)) (h2 : ∀ x ∈ FK ++ FD, w.heap.size + 2 ≤ x) :
    (set5 wr (w.heap.size + 1) 0 (.int .i64 k) (.int .i64 n) (.string s) kv dv).heap[w.heap.size + 1]? = some (.cells #[.int .i64 k, .int .i64 n, .string s, kv, dv] 32 (0, 0)) ∧
    Lies (set5 wr (w.heap.size + 1) 0 (.int .i64 k) (.int .i64 n) (.string s) kv dv) (.node k n s keys kids) kv dv (FK ++ FD) ∧ Fresh w (set5 wr (w.heap.size + 1) 0 (.int .i64 k) (.int .i64 n) (.string s) kv dv) (FK ++ FD) ∧
    Below w.heap.size w (set5 wr (w.heap.size + 1) 0 (.int .i64 k) (.int .i64 n) (.string s) kv dv) := by
  have keep : ∀ x ∈ FK ++ FD, (set5 wr (w.heap.size + 1) 0 (.int .i64 k) (.int .i64 n) (.string s) kv dv).heap[x]? = wr.heap[x]? := fun x hxm => set5_other _ _ _ _ _ _ _ _ _ (by have := h2 x hxm; omega)
  exact ⟨set5_end hx.res _ _ _ _ _, Lies.into hfit.1 hfit.2.1 hfit.2.2 (hK.carry fun x hxm => keep x (List.mem_append_left _ hxm)) (hD.carry fun x hxm => keep x (List.mem_append_right _ hxm)), hf.carry keep, set5_below hx.below (by omega) _ _ _ _ _ _⟩

theorem whole_set5 {w wr : World} {t : TypeId} {q : Nat} {v : Value} (h : Whole wr (w.heap.size + 2) t q v) (a b c d e : Value) : Whole (set5 wr (w.heap.size + 1) 0 a b c d e) w.heap.size t q v :=
  h.carry (by omega) fun x hx _ => set5_other _ _ _ _ _ _ _ _ _ (by omega)

theorem strs_nil (w : World) (o : Option Addr) : StrsAt w (.slice o 0 0) [] [] := ⟨o, 0, 0, 0, rfl, Nat.zero_le _, Nat.zero_le _, fun h => absurd h (by simp), rfl, fun i hi => absurd hi (by simp), Room.nil _ _ _⟩

end Go.Proofs.YtmbjmjbljnlifaaGreatDoor

/- for both flags the program's FlagOf answers as the model's FlagOf does, in memory of its own; no condition. -/
namespace Go.Proofs.YtmbjmjbljnlifaaGreatDoor
open Go Go.RowKit

end Go.Proofs.YtmbjmjbljnlifaaGreatDoor

/- the program's nodeOk tells of a node alone whether it is as its kind has it. -/
namespace Go.Proofs.YtmbjmjbljnlifaaGreatDoor
open Go Go.RowKit

/-- A node alone is as its kind has it. -/
def HeadOk (T : RT) : Prop :=
  (T.k = 0 ∧ T.n = 0 ∧ T.s = ⟨#[]⟩ ∧ T.keys.length = 0 ∧ T.kids.length = 0) ∨
  (T.k = 1 ∧ (T.n = 0 ∨ T.n = 1) ∧ T.s = ⟨#[]⟩ ∧ T.keys.length = 0 ∧ T.kids.length = 0) ∨
  (T.k = 2 ∧ (-1000000000000 ≤ T.n ∧ T.n ≤ 1000000000000) ∧ T.s = ⟨#[]⟩ ∧ T.keys.length = 0 ∧ T.kids.length = 0) ∨
  (T.k = 3 ∧ T.n = 0 ∧ textOk T.s = true ∧ T.keys.length = 0 ∧ T.kids.length = 0) ∨
  (T.k = 4 ∧ T.n = 0 ∧ T.s = ⟨#[]⟩ ∧ T.keys.length = 0) ∨
  (T.k = 5 ∧ T.n = 0 ∧ T.s = ⟨#[]⟩ ∧ T.keys.length = T.kids.length ∧ keysOk T.keys = true)

noncomputable def headOk (T : RT) : Bool := @decide (HeadOk T) (Classical.propDecidable _)
theorem headOk_yes {T : RT} (h : HeadOk T) : headOk T = true := @decide_eq_true _ (Classical.propDecidable _) h
theorem headOk_no {T : RT} (h : ¬ HeadOk T) : headOk T = false := @decide_eq_false _ (Classical.propDecidable _) h

theorem zero_int : (Tryz.prog.info? 90).map (·.zero) = some (some (.int .i64 0)) := by kernel_rfl
theorem as_int_yes (v : Value) (xT : TypeId) (w : World) : (Instr.typeAssert (.iface 90 v) xT 90 true).run Tryz.prog w = .ok (.tuple #[v, .bool true]) w := by
  simp [Instr.typeAssert, run_underlying Tryz.underlying90, go_sem, Result.andThen]
theorem as_int_no (t : TypeId) (h : t ≠ 90) (v : Value) (xT : TypeId) (w : World) : (Instr.typeAssert (.iface t v) xT 90 true).run Tryz.prog w = .ok (.tuple #[.int .i64 0, .bool false]) w := by
  obtain ⟨i, hi, hz⟩ := Option.map_eq_some_iff.1 zero_int
  simp [Instr.typeAssert, run_underlying Tryz.underlying90, go_sem, Result.andThen, zeroValue, typeInfo, hi, hz, h]

theorem zero_text : (Tryz.prog.info? 91).map (·.zero) = some (some (.string ⟨#[]⟩)) := by kernel_rfl
theorem as_text_yes (v : Value) (xT : TypeId) (w : World) : (Instr.typeAssert (.iface 91 v) xT 91 true).run Tryz.prog w = .ok (.tuple #[v, .bool true]) w := by
  simp [Instr.typeAssert, run_underlying Tryz.underlying91, go_sem, Result.andThen]
theorem as_text_no (t : TypeId) (h : t ≠ 91) (v : Value) (xT : TypeId) (w : World) : (Instr.typeAssert (.iface t v) xT 91 true).run Tryz.prog w = .ok (.tuple #[.string ⟨#[]⟩, .bool false]) w := by
  obtain ⟨i, hi, hz⟩ := Option.map_eq_some_iff.1 zero_text
  simp [Instr.typeAssert, run_underlying Tryz.underlying91, go_sem, Result.andThen, zeroValue, typeInfo, hi, hz, h]

theorem zero_list : (Tryz.prog.info? 92).map (·.zero) = some (some (.slice none 0 0)) := by kernel_rfl
theorem as_list_yes (v : Value) (xT : TypeId) (w : World) : (Instr.typeAssert (.iface 92 v) xT 92 true).run Tryz.prog w = .ok (.tuple #[v, .bool true]) w := by
  simp [Instr.typeAssert, run_underlying Tryz.underlying92, go_sem, Result.andThen]
theorem as_list_no (t : TypeId) (h : t ≠ 92) (v : Value) (xT : TypeId) (w : World) : (Instr.typeAssert (.iface t v) xT 92 true).run Tryz.prog w = .ok (.tuple #[.slice none 0 0, .bool false]) w := by
  obtain ⟨i, hi, hz⟩ := Option.map_eq_some_iff.1 zero_list
  simp [Instr.typeAssert, run_underlying Tryz.underlying92, go_sem, Result.andThen, zeroValue, typeInfo, hi, hz, h]

theorem zero_map : (Tryz.prog.info? 59).map (·.zero) = some (some (.agg #[.slice none 0 0, .slice none 0 0])) := by kernel_rfl
theorem as_map_yes (v : Value) (xT : TypeId) (w : World) : (Instr.typeAssert (.iface 59 v) xT 59 true).run Tryz.prog w = .ok (.tuple #[v, .bool true]) w := by
  simp [Instr.typeAssert, run_underlying Tryz.underlying59, go_sem, Result.andThen]
theorem as_map_no (t : TypeId) (h : t ≠ 59) (v : Value) (xT : TypeId) (w : World) : (Instr.typeAssert (.iface t v) xT 59 true).run Tryz.prog w = .ok (.tuple #[.agg #[.slice none 0 0, .slice none 0 0], .bool false]) w := by
  obtain ⟨i, hi, hz⟩ := Option.map_eq_some_iff.1 zero_map
  simp [Instr.typeAssert, run_underlying Tryz.underlying59, go_sem, Result.andThen, zeroValue, typeInfo, hi, hz, h]

set_option maxHeartbeats 400000 in
theorem node_list (o : Option Addr) (l c : Nat) (w : World) : Calls Tryz.prog 66 #[.slice o l c] w fun e w' => e = .returned (.agg #[.int .i64 4, .int .i64 0, .string ⟨#[]⟩, .slice none 0 0, .slice o l c]) ∧ Below w.heap.size w w' := by
  go_enter Tryz.func66, Tryz.ntmps66
  go_wp2
  exact bodyPost_ret (ret_node Tryz.results66 rfl (heap_last w _)) rfl ⟨rfl, (Below.refl _ w).alloc (Nat.le_refl _) _⟩

set_option maxHeartbeats 400000 in
theorem node_map (ko o : Option Addr) (kl kc l c : Nat) (w : World) : Calls Tryz.prog 30 #[.agg #[.slice ko kl kc, .slice o l c]] w fun e w' => e = .returned (.agg #[.int .i64 5, .int .i64 0, .string ⟨#[]⟩, .slice ko kl kc, .slice o l c]) ∧ Below w.heap.size w w' := by
  go_enter Tryz.func30, Tryz.ntmps30
  go_wp2
  have h1 := heap_last (w.alloc (Obj.cells #[.slice ko kl kc, .slice o l c] 59)) (Obj.cells #[.int .i64 5, .int .i64 0, .string ⟨#[]⟩, .slice ko kl kc, .slice o l c] 32)
  have e1 : (w.alloc (Obj.cells #[.slice ko kl kc, .slice o l c] 59)).heap.size = w.heap.size + 1 := by simp
  rw [e1] at h1
  exact bodyPost_ret (ret_node Tryz.results30 rfl h1) rfl ⟨rfl, ((Below.refl _ w).alloc (Nat.le_refl _) _).alloc (by simp) _⟩

theorem meth_int (v : Value) (w : World) : (method 254 90 v "loop.example/g00465/impl.node").run Tryz.prog w = .ok (63, v) w := by kernel_rfl
theorem meth_text (v : Value) (w : World) : (method 254 91 v "loop.example/g00465/impl.node").run Tryz.prog w = .ok (64, v) w := by kernel_rfl
theorem meth_list (v : Value) (w : World) : (method 254 92 v "loop.example/g00465/impl.node").run Tryz.prog w = .ok (66, v) w := by kernel_rfl
theorem meth_map (v : Value) (w : World) : (method 254 59 v "loop.example/g00465/impl.node").run Tryz.prog w = .ok (30, v) w := by kernel_rfl
end Go.Proofs.YtmbjmjbljnlifaaGreatDoor

/- the program's tree of a list of metrics: a list of their trees, in memory of its own; condition: the library's table of powers of ten starts as the program's text lays it. -/
namespace Go.Proofs.YtmbjmjbljnlifaaGreatDoor
open Go Go.RowKit

/-- Where metricsTree starts: the result's block. -/
def W1 (w : World) : World := w.alloc (.cells #[.int .i64 0, .int .i64 0, .string ⟨#[]⟩, .slice none 0 0, .slice none 0 0] 32)

structure LI (w wr : World) (kids : List RT) (j : Nat) (v : Value) (KV DV : Nat → Value) (FF : Nat → List Nat) : Prop where
  res : wr.heap[w.heap.size]? = some (.cells #[.int .i64 0, .int .i64 0, .string ⟨#[]⟩, .slice none 0 0, .slice none 0 0] 32 (0, 0))
  laid : LaidApp 32 w (W1 w) wr kids j v KV DV FF

section
variable {w wr w1 w2 w3 : World} {kids : List RT} {j : Nat} {v : Value} {KV DV : Nat → Value} {FF : Nat → List Nat}

theorem w1_size (w : World) : (W1 w).heap.size = w.heap.size + 1 := by simp [W1]

theorem LI.start (w : World) (kids : List RT) : LI w (W1 w) kids 0 (.slice none 0 0) (fun _ => .bool true) (fun _ => .bool true) (fun _ => []) := by
  have hb := (Below.refl _ w).alloc (Nat.le_refl _) (.cells #[.int .i64 0, .int .i64 0, .string ⟨#[]⟩, .slice none 0 0, .slice none 0 0] 32)
  exact ⟨heap_last w _, LaidApp.start _ kids hb (Nat.le_refl _) hb.size⟩

theorem LI.step (h : LI w wr kids j v KV DV FF) (hj : j < kids.length) (hb1 : Below wr.heap.size wr w1) {kvx dvx : Value} {F : List Nat} (hl : Lies w1 kids[j] kvx dvx F) (hf : Fresh wr w1 F) (hb2 : Below w1.heap.size w1 w2)
    {g cap : Nat} (hgrow : w2.grownBy w3 v.ownBlock) (hown : w3.ownsRow (W1 w).heap.size 32 5 (.slice (some ⟨g, 0, none⟩) (j + 1) cap) (j + 1) (rowsOf kids KV DV j ++ kids[j].row kvx dvx)) (hat : v.ownBlock = some g ∨ g = w2.heap.size) :
    LI w w3 kids (j + 1) (.slice (some ⟨g, 0, none⟩) (j + 1) cap) (fun i => if i = j then kvx else KV i) (fun i => if i = j then dvx else DV i) (fun i => if i = j then F else FF i) := by
  have hbw := hb1.trans (hb2.mono hb1.size)
  have hwc := h.laid.size
  have hsz := w1_size w
  refine ⟨?_, h.laid.step hj hb1 hl hf hb2 hgrow hown hat⟩
  rw [hgrow.block _ (by have := hbw.size; omega) (fun e => by have := (h.laid.ownlt _ e.symm).1; omega), hbw.block _ (by omega)]
  exact h.res

theorem LI.fin (h : LI w wr kids kids.length v KV DV FF) (hb : Below wr.heap.size wr w1) :
    ∃ F, (set5 w1 w.heap.size 0 (.int .i64 4) (.int .i64 0) (.string ⟨#[]⟩) (.slice none 0 0) v).heap[w.heap.size]? = some (.cells #[.int .i64 4, .int .i64 0, .string ⟨#[]⟩, .slice none 0 0, v] 32 (0, 0)) ∧
    Lies (set5 w1 w.heap.size 0 (.int .i64 4) (.int .i64 0) (.string ⟨#[]⟩) (.slice none 0 0) v) (.node 4 0 ⟨#[]⟩ [] kids) (.slice none 0 0) v F ∧ Fresh w (set5 w1 w.heap.size 0 (.int .i64 4) (.int .i64 0) (.string ⟨#[]⟩) (.slice none 0 0) v) F ∧
    Below w.heap.size w (set5 w1 w.heap.size 0 (.int .i64 4) (.int .i64 0) (.string ⟨#[]⟩) (.slice none 0 0) v) := by
  obtain ⟨F, hD, hf, -⟩ := h.laid.done
  have hsz := w1_size w
  have hD1 : KidsLie w1 v kids F := hD.stay hb (Nat.le_refl _)
  have hf1 : Fresh (W1 w) w1 F := hf.carry fun x hx => hb.block x (hD.lt x hx)
  have keep : ∀ x ∈ F, (set5 w1 w.heap.size 0 (.int .i64 4) (.int .i64 0) (.string ⟨#[]⟩) (.slice none 0 0) v).heap[x]? = w1.heap[x]? := fun x hx => set5_other _ _ _ _ _ _ _ _ _ (by have := hf.old x hx; omega)
  have hL := Lies.into (k := 4) (n := 0) (s := ⟨#[]⟩) (FK := []) ⟨by decide, by decide⟩ ⟨by decide, by decide⟩ (by decide) (strs_nil w1 none) hD1
  have hlt := (Array.getElem?_eq_some_iff.1 h.res).1
  exact ⟨[] ++ F, set5_end ((hb.block _ hlt).trans h.res) _ _ _ _ _, hL.carry (by simpa using keep), (hf1.carry (by simpa using keep)).earlier (by omega), set5_below (h.laid.below.trans (hb.mono h.laid.below.size)) (Nat.le_refl _) _ _ _ _ _ _⟩
end

set_option maxRecDepth 100000 in
set_option maxHeartbeats 3200000 in
theorem impl_metricsTree {v : Value} {xs : List Met} {F : List Nat} (w : World) (hs : MetsAt w v xs F) (h1 : xs.length ≤ 1000000) (htab : Lib.TabIs Tryz.prog w "internal/strconv.uint64pow10" .u64 Lib.pow10Tab) :
    Calls Tryz.prog 27 #[v] w fun e w' => ∃ dv G, e = .returned (.agg #[.int .i64 4, .int .i64 0, .string ⟨#[]⟩, .slice none 0 0, dv]) ∧ Lies w' (metsT xs) (.slice none 0 0) dv G ∧ Fresh w w' G ∧ Below w.heap.size w w' := by
  have HOK := Lib.hid (RowAt.every hs)
  obtain ⟨o, cap, b, off, rfl, hlc, hcm, ho, -, hcell, -⟩ := hs
  have HC := Lib.hid hcell
  have HO := Lib.hid ho
  have HT := Lib.hid (Lib.tabBelow_of_tabIs htab)
  have HM := Lib.hid (LI.start w (xs.map metT))
  have HLn : Hid ((xs.map metT).length = xs.length) := List.length_map _
  clear hcell ho htab
  obtain ⟨i0, hi0, hz0, hz1, hz2⟩ := info_parts info_node
  go_enter Tryz.func27, Tryz.ntmps27
  go_wp2
  go_loopw [3, 8] (fun v i wr => ∃ (k : Nat) (KV' DV' : Nat → Value) (FF' : Nat → List Nat), k ≤ xs.length ∧ i = .int .i64 k ∧ Hid (LI w wr (xs.map metT) k v KV' DV' FF')) (fun _ i _ => xs.length - (intOf i).toNat)
  case atStart => exact ⟨0, _, _, _, Nat.zero_le _, rfl, HM.out⟩
  case round =>
    obtain ⟨k, KV', DV', FF', hk, rfl, hr⟩ := hrel
    by_cases hlt : k < xs.length
    · have hjk : k < (xs.map metT).length := by have := HLn.out; omega
      have hbel := hr.out.laid.below
      have c0 : wr.cell? ⟨b, off + k * 3, none⟩ = some (.string xs[k].name) := by
        have := (HC.out k hlt).2 0 (by decide)
        rw [hbel.cell (by exact World.block_lt_of_cell? _ _ this)]; exact this
      have c1 : wr.cell? ⟨b, off + k * 3 + 1, none⟩ = some (.int .i64 xs[k].kind) := by
        have := (HC.out k hlt).2 1 (by decide)
        rw [hbel.cell (by exact World.block_lt_of_cell? _ _ this)]; exact this
      have c2 : wr.cell? ⟨b, off + k * 3 + 2, none⟩ = some (.int .i64 xs[k].goal) := by
        have := (HC.out k hlt).2 2 (by decide)
        rw [hbel.cell (by exact World.block_lt_of_cell? _ _ this)]; exact this
      have ho := HO.out (by omega)
      subst ho
      have hok := HOK.out _ (List.getElem_mem hlt)
      have HI : Hid (∀ w1 : World, Below w.heap.size w w1 → Calls Tryz.prog 65 #[.agg #[.string xs[k].name, .int .i64 xs[k].kind, .int .i64 xs[k].goal]] w1 fun e w' => ∃ kv' dv' F', e = .returned (.agg #[.int .i64 (metT xs[k]).k, .int .i64 (metT xs[k]).n, .string (metT xs[k]).s, kv', dv']) ∧ Lies w' (metT xs[k]) kv' dv' F' ∧ Fresh w1 w' F' ∧ Below w1.heap.size w1 w') := fun w1 hb1 =>
        impl_metricTree xs[k].name xs[k].kind xs[k].goal hok.1 hok.2.1 hok.2.2 w1 (HT.out _ hb1)
      have HS := Lib.hid fun (w1 w2 w3 : World) (kvx dvx : Value) (F : List Nat) (g cap : Nat) => hr.out.step (w1 := w1) (w2 := w2) (w3 := w3) (kvx := kvx) (dvx := dvx) (F := F) (g := g) (cap := cap) hjk
      have e1 : (xs.map metT)[k] = metT xs[k] := List.getElem_map _
      rw [e1] at HS
      have hB1 : Hid (∀ ob, Below wr.heap.size wr (wr.alloc ob)) := fun ob => (Below.refl _ wr).alloc (Nat.le_refl _) ob
      have HBw := Lib.hid hbel
      generalize hxe : metT xs[k] = T at *
      generalize xs[k] = x at *
      clear hxe hok e1 hbel
      go_wp2_with fail
      refine (HI.out _ (HBw.out.trans ((hB1.out _).mono HBw.out.size))).mono ?_
      rintro e w1 ⟨kv1, dv1, F1, rfl, hl1, hf1, hb1⟩
      obtain ⟨⟨o3, q3, rfl⟩, ⟨o4, q4, rfl⟩⟩ := hl1.slices
      have hbw : Below wr.heap.size wr w1 := (hB1.out _).trans (hb1.mono (hB1.out _).size)
      have hf1' : Fresh wr w1 F1 := hf1.earlier (hB1.out _).size
      have HS1 := Lib.hid fun (w2 w3 : World) (g cap : Nat) => HS.out w1 w2 w3 _ _ _ g cap hbw hl1 hf1'
      have HOwn := Lib.hid (owns_below (owns_below hr.out.laid.own hbw) ((Below.refl _ w1).alloc (Nat.le_refl _) (.cells #[.int .i64 T.k, .int .i64 T.n, .string T.s, .slice o3 T.keys.length q3, .slice o4 T.kids.length q4] 32)))
      have hbase : (W1 w).heap.size ≤ w1.heap.size + 1 := by have := hr.out.laid.size; have := hbw.size; omega
      have HBase := Lib.hid hbase
      clear hl1 hf1 hb1 hbw hf1' hbase c0 c1 c2
      rename_i u3
      go_wp2_with (first
        | (at_builtin; refine wpList_append_lies _ rfl (.tmp 12) (.tmp 15) 92 rfl (W1 w).heap.size 32 i0 _ 5 80 Tryz.underlying92 hi0 hz0 hz1 hz2 rfl (by decide) u3 k _ rfl HOwn.out ⟨w1.heap.size, 0, none⟩ 1 1 [.int .i64 T.k, .int .i64 T.n, .string T.s, .slice o3 T.keys.length q3, .slice o4 T.kids.length q4] rfl rfl (World.news_of_block (cs := #[.int .i64 T.k, .int .i64 T.n, .string T.s, .slice o3 T.keys.length q3, .slice o4 T.kids.length q4]) (t := 32) (fr := (0, 0)) (heap_last w1 _)) (by simp [Value.oneCell']) (by omega) (by unfold maxLen; omega) (by omega) (by simp; exact HBase.out) (w1.heap.size + 1) (by simp) ?_; intro g cap' w3 hown3 hgrow hat hltg; have H3 := Lib.hid (And.intro hown3 (And.intro hgrow hat)); clear hown3 hgrow hat hltg)
        | fail)
      exact ⟨⟨k + 1, _, _, _, by omega, by go_num, HS1.out _ w3 g cap' ((Below.refl _ w1).alloc (Nat.le_refl _) _) H3.out.2.1 H3.out.1 (by simpa using H3.out.2.2)⟩, by simp [intOf]; omega⟩
    · have e : k = xs.length := by omega
      subst e
      have hr' := hr.out
      rw [← HLn.out] at hr'
      have HD := Lib.hid fun (w5 : World) (hb : Below wr.heap.size wr w5) => hr'.fin hb
      have HRs := Lib.hid hr'.res
      obtain ⟨ov, cv, hvs⟩ := hr.out.laid.slice
      clear hr'
      subst hvs
      go_wp2_with (first
        | (go_at_call 66; refine (node_list _ _ _ _).mono ?_; rintro e w5 ⟨rfl, hb5⟩; have H5 := Lib.hid (HD.out w5 hb5); obtain ⟨z0, z1, z2, z3, z4, z5⟩ := five (blk_next HRs.out hb5); clear hb5)
        | fail)
      obtain ⟨F', hfin⟩ := H5.out
      exact bodyPost_ret (ret_node Tryz.results27 rfl hfin.1) rfl ⟨_, _, rfl, hfin.2⟩
end Go.Proofs.YtmbjmjbljnlifaaGreatDoor
