/-
  What is proved: the program's trees of a metric and of a pace: maps whose Keys ascend, in memory of their own; condition: the library's table of powers of ten starts as the program's text lays it.; the program's tree of a list of metrics: a list of their trees, in memory of its own; condition: the library's table of powers of ten starts as the program's text lays it.; cmp.Compare of two texts; the closures by which metrics and notes are ordered, and told alike, answer by their names.; plain facts on lists that are ordered by names: the order is one; what is in order stays as it is when it is sorted by insertion; what is sorted, and has no two of one name side by side, ascends.; slices.SortStableFunc of at most four metrics, or notes, sorts them by insertion.
-/
import Derived.Test.YtfmkhogpnnobeaaGreatDoorPartAF
import Derived.Test.YtfmkhogpnnobeaaGreatDoorPartAG
import Derived.Test.YtfmkhogpnnobeaaGreatDoorPartAK
import Derived.Test.YtfmkhogpnnobeaaGreatDoorPartAI
import Derived.Sort.Grow
import Derived.Test.YtfmkhogpnnobeaaGreatDoorOrdOkS
import Derived.Test.YtfmkhogpnnobeaaGreatDoorSort
import Derived.Sort.Walk0
import Derived.Sort.LotA
import Derived.Sort.WalkA
/- the program's trees of a metric and of a pace: maps whose Keys ascend, in memory of their own; condition: the library's table of powers of ten starts as the program's text lays it. -/
namespace Go.Proofs.YtfmkhogpnnobeaaGreatDoor
open Go Go.RowKit

set_option maxRecDepth 100000 in
set_option maxHeartbeats 8000000 in
theorem impl_metricTree (s : ByteArray) (k g : Int) (hs : s.size ≤ maxLen) (hk : Fit k) (hg : Fit g) (w : World) (htab : Lib.TabIs Tryz.prog w "internal/strconv.uint64pow10" .u64 Lib.pow10Tab) :
    Calls Tryz.prog 125 #[.agg #[.string s, .int .i64 k, .int .i64 g]] w fun e w' => ∃ kv dv F, e = .returned ((metT ⟨s, k, g⟩).val kv dv) ∧ Lies w' (metT ⟨s, k, g⟩) kv dv F ∧ Fresh w w' F ∧ Below w.heap.size w w' := by
  have HT := Lib.hid (Lib.tabBelow_of_tabIs htab)
  have HG := Lib.hid hg
  have HLf := Lib.hid (metT_leaves ⟨s, k, g⟩ ⟨hs, hk, hg⟩)
  clear htab hs hk hg
  go_enter Tryz.func125, Tryz.ntmps125
  go_wp2_with fail
  have H2 := Lib.hid (Two.start w (.cells #[.string s, .int .i64 k, .int .i64 g] 93) (.cells #[.int .i64 0, .int .i64 0, .string ⟨#[]⟩, .slice none 0 0, .slice none 0 0] 32))
  have x0 := cell_of H2.out.arg 0
  have x1 := cell_of H2.out.arg 1
  have x2 := cell_of H2.out.arg 2
  simp only [List.getElem?_toArray, List.getElem?_cons_zero, List.getElem?_cons_succ] at x0 x1 x2
  go_region_held3 (fun w' => w'.cell? ⟨w.heap.size, 0, none⟩ = some (.string s) ∧ w'.cell? ⟨w.heap.size, 1, none⟩ = some (.int .i64 k) ∧ w'.cell? ⟨w.heap.size, 2, none⟩ = some (.int .i64 g)) (go_keep)
    (first
      | (go_at_call 150; refine (impl_amountText g HG.out.1 HG.out.2 _ (by first | exact HT.out _ H2.out.below | exact HT.out _ (H2.out.below.trans ((below_drew1 _).mono H2.out.below.size)) | exact HT.out _ (H2.out.below.trans (((Below.refl _ _).alloc (Nat.le_refl _) _).mono H2.out.below.size)) | exact HT.out _ (H2.out.below.trans ((below_lit _ _).mono H2.out.below.size)))).mono ?_; rintro e w' ⟨rfl, hb⟩; (first | (replace H2 := Lib.hid (H2.out.next hb); (try replace HZ := Lib.hid (HZ.out.next hb))) | (replace H2 := Lib.hid (H2.out.next1 hb)) | (have HZ := Lib.hid (H2.out.lit hb (by simp)).2; replace H2 := Lib.hid (H2.out.lit hb (by simp)).1; (first | replace HZ := Lib.hid (HZ.out.mv (n := w.heap.size + 1 + 1) (by simp)) | skip)) | (have HZ := Lib.hid (H2.out.lit1 hb).2; replace H2 := Lib.hid (H2.out.lit1 hb).1; (first | replace HZ := Lib.hid (HZ.out.mv (n := w.heap.size + 1 + 1) (by simp)) | skip))); clear hb x0 x1 x2; have x0 := cell_of H2.out.arg 0; have x1 := cell_of H2.out.arg 1; have x2 := cell_of H2.out.arg 2; simp only [List.getElem?_toArray, List.getElem?_cons_zero, List.getElem?_cons_succ] at x0 x1 x2)
      | (go_at_call 74; refine (impl_textOf _ _).mono ?_; rintro e w' ⟨rfl, hb⟩; (first | (replace H2 := Lib.hid (H2.out.next hb); (try replace HZ := Lib.hid (HZ.out.next hb))) | (replace H2 := Lib.hid (H2.out.next1 hb)) | (have HZ := Lib.hid (H2.out.lit hb (by simp)).2; replace H2 := Lib.hid (H2.out.lit hb (by simp)).1; (first | replace HZ := Lib.hid (HZ.out.mv (n := w.heap.size + 1 + 1) (by simp)) | skip)) | (have HZ := Lib.hid (H2.out.lit1 hb).2; replace H2 := Lib.hid (H2.out.lit1 hb).1; (first | replace HZ := Lib.hid (HZ.out.mv (n := w.heap.size + 1 + 1) (by simp)) | skip))); clear hb x0 x1 x2; have x0 := cell_of H2.out.arg 0; have x1 := cell_of H2.out.arg 1; have x2 := cell_of H2.out.arg 2; simp only [List.getElem?_toArray, List.getElem?_cons_zero, List.getElem?_cons_succ] at x0 x1 x2)
      | (go_at_call 151; refine (impl_kindText _ _).mono ?_; rintro e w' ⟨rfl, hb⟩; (first | (replace H2 := Lib.hid (H2.out.next hb); (try replace HZ := Lib.hid (HZ.out.next hb))) | (replace H2 := Lib.hid (H2.out.next1 hb)) | (have HZ := Lib.hid (H2.out.lit hb (by simp)).2; replace H2 := Lib.hid (H2.out.lit hb (by simp)).1; (first | replace HZ := Lib.hid (HZ.out.mv (n := w.heap.size + 1 + 1) (by simp)) | skip)) | (have HZ := Lib.hid (H2.out.lit1 hb).2; replace H2 := Lib.hid (H2.out.lit1 hb).1; (first | replace HZ := Lib.hid (HZ.out.mv (n := w.heap.size + 1 + 1) (by simp)) | skip))); clear hb x0 x1 x2; have x0 := cell_of H2.out.arg 0; have x1 := cell_of H2.out.arg 1; have x2 := cell_of H2.out.arg 2; simp only [List.getElem?_toArray, List.getElem?_cons_zero, List.getElem?_cons_succ] at x0 x1 x2)
      | (go_at_call 110; refine (sh_node _ _ _ ⟨_, _, _, rfl⟩ ⟨_, _, _, rfl⟩).mono ?_; rintro e w' ⟨rfl, hb⟩; (first | (replace HZ := Lib.hid (HZ.out.lit1 hb); have HN := Lib.hid (H2.out.lit1 hb).2; replace H2 := Lib.hid (H2.out.lit1 hb).1) | (have HZ := Lib.hid (H2.out.lits1 hb).2.1; have HN := Lib.hid (H2.out.lits1 hb).2.2; replace H2 := Lib.hid (H2.out.lits1 hb).1; (first | (have h9 := HZ.out; have h8 : One w w' _ (.cells #[.string ⟨#[103, 111, 97, 108]⟩, .string ⟨#[107, 105, 110, 100]⟩, .string ⟨#[110, 97, 109, 101]⟩] 9) := h9; clear h8 h9) | (have hq := HZ; replace HZ := HN; replace HN := hq; clear hq))) | (have HN := Lib.hid (H2.out.lit hb (by simp)).2; replace HZ := Lib.hid (HZ.out.lit hb (by simp)); replace H2 := Lib.hid (H2.out.lit hb (by simp)).1) | (have HZ := Lib.hid (H2.out.lits hb (by simp)).2.1; have HN := Lib.hid (H2.out.lits hb (by simp)).2.2; replace H2 := Lib.hid (H2.out.lits hb (by simp)).1; (first | (have h9 := HZ.out; have h8 : One w w' _ (.cells #[.string ⟨#[103, 111, 97, 108]⟩, .string ⟨#[107, 105, 110, 100]⟩, .string ⟨#[110, 97, 109, 101]⟩] 9) := h9; clear h8 h9) | (have hq := HZ; replace HZ := HN; replace HN := hq; clear hq)))); clear hb x0 x1 x2; have x0 := cell_of H2.out.arg 0; have x1 := cell_of H2.out.arg 1; have x2 := cell_of H2.out.arg 2; simp only [List.getElem?_toArray, List.getElem?_cons_zero, List.getElem?_cons_succ] at x0 x1 x2; obtain ⟨r0, r1, r2, r3, r4, r5⟩ := five H2.out.res))
  all_goals
    have HF := lit_leaves H2.out HZ.out HN.out (metT ⟨s, k, g⟩) ⟨rfl, rfl, rfl⟩ rfl (metT_keys _) (show 0 < 3 by decide) (show 3 ≤ maxLen by decide) rfl HLf.out (show 0 < 3 by decide) (show 3 ≤ maxLen by decide) 3 3 rfl rfl rfl
    go_wp2
    exact bodyPost_ret (ret_node Tryz.results125 rfl HF.1) rfl ⟨_, _, _, rfl, HF.2.1, HF.2.2.1, HF.2.2.2⟩

set_option maxRecDepth 100000 in
set_option maxHeartbeats 8000000 in
theorem impl_paceTree (u d us ds : Int) (hu : Fit u) (hd : Fit d) (hus : Fit us) (hds : Fit ds) (w : World) (htab : Lib.TabIs Tryz.prog w "internal/strconv.uint64pow10" .u64 Lib.pow10Tab) :
    Calls Tryz.prog 78 #[.agg #[.int .i64 u, .int .i64 d, .int .i64 us, .int .i64 ds]] w fun e w' => ∃ kv dv F, e = .returned ((pacT ⟨u, d, us, ds⟩).val kv dv) ∧ Lies w' (pacT ⟨u, d, us, ds⟩) kv dv F ∧ Fresh w w' F ∧ Below w.heap.size w w' := by
  have HT := Lib.hid (Lib.tabBelow_of_tabIs htab)
  have HU : Hid (-9223372036854775808 ≤ us ∧ us ≤ 9223372036854775807) := hus
  have HD : Hid (-9223372036854775808 ≤ ds ∧ ds ≤ 9223372036854775807) := hds
  have HSU := Lib.hid (fun W (hW : Below w.heap.size w W) => impl_spanText us hus.1 hus.2 W (HT.out _ hW))
  have HSD := Lib.hid (fun W (hW : Below w.heap.size w W) => impl_spanText ds hds.1 hds.2 W (HT.out _ hW))
  have HLf := Lib.hid (pacT_leaves ⟨u, d, us, ds⟩ ⟨hu, hd, hus, hds⟩)
  clear htab hu hd hus hds
  go_enter Tryz.func78, Tryz.ntmps78
  go_wp2_with fail
  have H2 := Lib.hid (Two.start w (.cells #[.int .i64 u, .int .i64 d, .int .i64 us, .int .i64 ds] 35) (.cells #[.int .i64 0, .int .i64 0, .string ⟨#[]⟩, .slice none 0 0, .slice none 0 0] 32))
  have x0 := cell_of H2.out.arg 0
  have x1 := cell_of H2.out.arg 1
  have x2 := cell_of H2.out.arg 2
  have x3 := cell_of H2.out.arg 3
  simp only [List.getElem?_toArray, List.getElem?_cons_zero, List.getElem?_cons_succ] at x0 x1 x2 x3
  go_region_held3 (fun w' => w'.cell? ⟨w.heap.size, 0, none⟩ = some (.int .i64 u) ∧ w'.cell? ⟨w.heap.size, 1, none⟩ = some (.int .i64 d) ∧ w'.cell? ⟨w.heap.size, 2, none⟩ = some (.int .i64 us) ∧ w'.cell? ⟨w.heap.size, 3, none⟩ = some (.int .i64 ds)) (go_keep)
    (first
      | (go_at_call 85; refine (impl_intOf _ _).mono ?_; rintro e w' ⟨rfl, hb⟩; (first | (replace H2 := Lib.hid (H2.out.next hb); (try replace HZ := Lib.hid (HZ.out.next hb))) | (replace H2 := Lib.hid (H2.out.next1 hb)) | (have HZ := Lib.hid (H2.out.lit hb (by simp)).2; replace H2 := Lib.hid (H2.out.lit hb (by simp)).1; (first | replace HZ := Lib.hid (HZ.out.mv (n := w.heap.size + 1 + 1) (by simp)) | skip)) | (have HZ := Lib.hid (H2.out.lit1 hb).2; replace H2 := Lib.hid (H2.out.lit1 hb).1; (first | replace HZ := Lib.hid (HZ.out.mv (n := w.heap.size + 1 + 1) (by simp)) | skip))); clear hb x0 x1 x2 x3; have x0 := cell_of H2.out.arg 0; have x1 := cell_of H2.out.arg 1; have x2 := cell_of H2.out.arg 2; have x3 := cell_of H2.out.arg 3; simp only [List.getElem?_toArray, List.getElem?_cons_zero, List.getElem?_cons_succ] at x0 x1 x2 x3)
      | (go_at_call 115; (first | (with_reducible refine (HSU.out _ (by first | exact H2.out.below | exact H2.out.below.trans ((below_drew1 _).mono H2.out.below.size) | exact H2.out.below.trans (((Below.refl _ _).alloc (Nat.le_refl _) _).mono H2.out.below.size) | exact H2.out.below.trans ((below_lit _ _).mono H2.out.below.size))).mono ?_) | (with_reducible refine (HSD.out _ (by first | exact H2.out.below | exact H2.out.below.trans ((below_drew1 _).mono H2.out.below.size) | exact H2.out.below.trans (((Below.refl _ _).alloc (Nat.le_refl _) _).mono H2.out.below.size) | exact H2.out.below.trans ((below_lit _ _).mono H2.out.below.size))).mono ?_)); rintro e w' ⟨rfl, hb⟩; (first | (replace H2 := Lib.hid (H2.out.next hb); (try replace HZ := Lib.hid (HZ.out.next hb))) | (replace H2 := Lib.hid (H2.out.next1 hb)) | (have HZ := Lib.hid (H2.out.lit hb (by simp)).2; replace H2 := Lib.hid (H2.out.lit hb (by simp)).1; (first | replace HZ := Lib.hid (HZ.out.mv (n := w.heap.size + 1 + 1) (by simp)) | skip)) | (have HZ := Lib.hid (H2.out.lit1 hb).2; replace H2 := Lib.hid (H2.out.lit1 hb).1; (first | replace HZ := Lib.hid (HZ.out.mv (n := w.heap.size + 1 + 1) (by simp)) | skip))); clear hb x0 x1 x2 x3; have x0 := cell_of H2.out.arg 0; have x1 := cell_of H2.out.arg 1; have x2 := cell_of H2.out.arg 2; have x3 := cell_of H2.out.arg 3; simp only [List.getElem?_toArray, List.getElem?_cons_zero, List.getElem?_cons_succ] at x0 x1 x2 x3)
      | (go_at_call 74; refine (impl_textOf _ _).mono ?_; rintro e w' ⟨rfl, hb⟩; (first | (replace H2 := Lib.hid (H2.out.next hb); (try replace HZ := Lib.hid (HZ.out.next hb))) | (replace H2 := Lib.hid (H2.out.next1 hb)) | (have HZ := Lib.hid (H2.out.lit hb (by simp)).2; replace H2 := Lib.hid (H2.out.lit hb (by simp)).1; (first | replace HZ := Lib.hid (HZ.out.mv (n := w.heap.size + 1 + 1) (by simp)) | skip)) | (have HZ := Lib.hid (H2.out.lit1 hb).2; replace H2 := Lib.hid (H2.out.lit1 hb).1; (first | replace HZ := Lib.hid (HZ.out.mv (n := w.heap.size + 1 + 1) (by simp)) | skip))); clear hb x0 x1 x2 x3; have x0 := cell_of H2.out.arg 0; have x1 := cell_of H2.out.arg 1; have x2 := cell_of H2.out.arg 2; have x3 := cell_of H2.out.arg 3; simp only [List.getElem?_toArray, List.getElem?_cons_zero, List.getElem?_cons_succ] at x0 x1 x2 x3)
      | (go_at_call 110; refine (sh_node _ _ _ ⟨_, _, _, rfl⟩ ⟨_, _, _, rfl⟩).mono ?_; rintro e w' ⟨rfl, hb⟩; (first | (replace HZ := Lib.hid (HZ.out.lit1 hb); have HN := Lib.hid (H2.out.lit1 hb).2; replace H2 := Lib.hid (H2.out.lit1 hb).1) | (have HZ := Lib.hid (H2.out.lits1 hb).2.1; have HN := Lib.hid (H2.out.lits1 hb).2.2; replace H2 := Lib.hid (H2.out.lits1 hb).1; (first | (have h9 := HZ.out; have h8 : One w w' _ (.cells #[.string ⟨#[100, 111, 119, 110]⟩, .string ⟨#[100, 111, 119, 110, 115, 112, 97, 110]⟩, .string ⟨#[117, 112]⟩, .string ⟨#[117, 112, 115, 112, 97, 110]⟩] 9) := h9; clear h8 h9) | (have hq := HZ; replace HZ := HN; replace HN := hq; clear hq))) | (have HN := Lib.hid (H2.out.lit hb (by simp)).2; replace HZ := Lib.hid (HZ.out.lit hb (by simp)); replace H2 := Lib.hid (H2.out.lit hb (by simp)).1) | (have HZ := Lib.hid (H2.out.lits hb (by simp)).2.1; have HN := Lib.hid (H2.out.lits hb (by simp)).2.2; replace H2 := Lib.hid (H2.out.lits hb (by simp)).1; (first | (have h9 := HZ.out; have h8 : One w w' _ (.cells #[.string ⟨#[100, 111, 119, 110]⟩, .string ⟨#[100, 111, 119, 110, 115, 112, 97, 110]⟩, .string ⟨#[117, 112]⟩, .string ⟨#[117, 112, 115, 112, 97, 110]⟩] 9) := h9; clear h8 h9) | (have hq := HZ; replace HZ := HN; replace HN := hq; clear hq)))); clear hb x0 x1 x2 x3; have x0 := cell_of H2.out.arg 0; have x1 := cell_of H2.out.arg 1; have x2 := cell_of H2.out.arg 2; have x3 := cell_of H2.out.arg 3; simp only [List.getElem?_toArray, List.getElem?_cons_zero, List.getElem?_cons_succ] at x0 x1 x2 x3; obtain ⟨r0, r1, r2, r3, r4, r5⟩ := five H2.out.res))
  all_goals
    have HF := lit_leaves H2.out HZ.out HN.out (pacT ⟨u, d, us, ds⟩) ⟨rfl, rfl, rfl⟩ rfl (pacT_keys _) (show 0 < 4 by decide) (show 4 ≤ maxLen by decide) rfl HLf.out (show 0 < 4 by decide) (show 4 ≤ maxLen by decide) 4 4 rfl rfl rfl
    go_wp2
    exact bodyPost_ret (ret_node Tryz.results78 rfl HF.1) rfl ⟨_, _, _, rfl, HF.2.1, HF.2.2.1, HF.2.2.2⟩
end Go.Proofs.YtfmkhogpnnobeaaGreatDoor

/- the program's tree of a list of metrics: a list of their trees, in memory of its own; condition: the library's table of powers of ten starts as the program's text lays it. -/
namespace Go.Proofs.YtfmkhogpnnobeaaGreatDoor
open Go Go.RowKit

/-- Where metricsTree starts: the result's block. -/
def W1 (w : World) : World := w.alloc (.cells #[.int .i64 0, .int .i64 0, .string ⟨#[]⟩, .slice none 0 0, .slice none 0 0] 32)

structure LI (w wr : World) (kids : List RT) (j : Nat) (v : Value) (KV DV : Nat → Value) (FF : Nat → List Nat) : Prop where
  res : wr.heap[w.heap.size]? = some (.cells #[.int .i64 0, .int .i64 0, .string ⟨#[]⟩, .slice none 0 0, .slice none 0 0] 32 (0, 0))
  laid : LaidApp 32 w (W1 w) wr kids j v KV DV FF

section
variable {w wr w1 w2 w3 : World} {kids : List RT} {j : Nat} {v : Value} {KV DV : Nat → Value} {FF : Nat → List Nat}

theorem w1_size (w : World) : (W1 w).heap.size = w.heap.size + 1 := by simp [W1]

theorem LI.start (w : World) (kids : List RT) : LI w (W1 w) kids 0 (.slice none 0 0) (fun _ => .bool true) (fun _ => .bool true) (fun _ => []) := by
  have hb := (Below.refl _ w).alloc (Nat.le_refl _) (.cells #[.int .i64 0, .int .i64 0, .string ⟨#[]⟩, .slice none 0 0, .slice none 0 0] 32)
  exact ⟨heap_last w _, LaidApp.start _ kids hb (Nat.le_refl _) hb.size⟩

theorem LI.step (h : LI w wr kids j v KV DV FF) (hj : j < kids.length) (hb1 : Below wr.heap.size wr w1) {kvx dvx : Value} {F : List Nat} (hl : Lies w1 kids[j] kvx dvx F) (hf : Fresh wr w1 F) (hb2 : Below w1.heap.size w1 w2)
    {g cap : Nat} (hgrow : w2.grownBy w3 v.ownBlock) (hown : w3.ownsRow (W1 w).heap.size 32 5 (.slice (some ⟨g, 0, none⟩) (j + 1) cap) (j + 1) (rowsOf kids KV DV j ++ kids[j].row kvx dvx)) (hat : v.ownBlock = some g ∨ g = w2.heap.size) :
    LI w w3 kids (j + 1) (.slice (some ⟨g, 0, none⟩) (j + 1) cap) (fun i => if i = j then kvx else KV i) (fun i => if i = j then dvx else DV i) (fun i => if i = j then F else FF i) := by
  have hbw := hb1.trans (hb2.mono hb1.size)
  have hwc := h.laid.size
  have hsz := w1_size w
  refine ⟨?_, h.laid.step hj hb1 hl hf hb2 hgrow hown hat⟩
  rw [hgrow.block _ (by have := hbw.size; omega) (fun e => by have := (h.laid.ownlt _ e.symm).1; omega), hbw.block _ (by omega)]
  exact h.res

theorem LI.fin (h : LI w wr kids kids.length v KV DV FF) (hb : Below wr.heap.size wr w1) :
    ∃ F, (set5 w1 w.heap.size 0 (.int .i64 4) (.int .i64 0) (.string ⟨#[]⟩) (.slice none 0 0) v).heap[w.heap.size]? = some (.cells #[.int .i64 4, .int .i64 0, .string ⟨#[]⟩, .slice none 0 0, v] 32 (0, 0)) ∧
    Lies (set5 w1 w.heap.size 0 (.int .i64 4) (.int .i64 0) (.string ⟨#[]⟩) (.slice none 0 0) v) (.node 4 0 ⟨#[]⟩ [] kids) (.slice none 0 0) v F ∧ Fresh w (set5 w1 w.heap.size 0 (.int .i64 4) (.int .i64 0) (.string ⟨#[]⟩) (.slice none 0 0) v) F ∧
    Below w.heap.size w (set5 w1 w.heap.size 0 (.int .i64 4) (.int .i64 0) (.string ⟨#[]⟩) (.slice none 0 0) v) := by
  obtain ⟨F, hD, hf, -⟩ := h.laid.done
  have hsz := w1_size w
  have hD1 : KidsLie w1 v kids F := hD.stay hb (Nat.le_refl _)
  have hf1 : Fresh (W1 w) w1 F := hf.carry fun x hx => hb.block x (hD.lt x hx)
  have keep : ∀ x ∈ F, (set5 w1 w.heap.size 0 (.int .i64 4) (.int .i64 0) (.string ⟨#[]⟩) (.slice none 0 0) v).heap[x]? = w1.heap[x]? := fun x hx => set5_other _ _ _ _ _ _ _ _ _ (by have := hf.old x hx; omega)
  have hL := Lies.into (k := 4) (n := 0) (s := ⟨#[]⟩) (FK := []) ⟨by decide, by decide⟩ ⟨by decide, by decide⟩ (by decide) (strs_nil w1 none) hD1
  have hlt := (Array.getElem?_eq_some_iff.1 h.res).1
  exact ⟨[] ++ F, set5_end ((hb.block _ hlt).trans h.res) _ _ _ _ _, hL.carry (by simpa using keep), (hf1.carry (by simpa using keep)).earlier (by omega), set5_below (h.laid.below.trans (hb.mono h.laid.below.size)) (Nat.le_refl _) _ _ _ _ _ _⟩
end

set_option maxRecDepth 100000 in
set_option maxHeartbeats 3200000 in
theorem impl_metricsTree {v : Value} {xs : List Met} {F : List Nat} (w : World) (hs : MetsAt w v xs F) (h1 : xs.length ≤ 1000000) (htab : Lib.TabIs Tryz.prog w "internal/strconv.uint64pow10" .u64 Lib.pow10Tab) :
    Calls Tryz.prog 88 #[v] w fun e w' => ∃ dv G, e = .returned (.agg #[.int .i64 4, .int .i64 0, .string ⟨#[]⟩, .slice none 0 0, dv]) ∧ Lies w' (metsT xs) (.slice none 0 0) dv G ∧ Fresh w w' G ∧ Below w.heap.size w w' := by
  have HOK := Lib.hid (RowAt.every hs)
  obtain ⟨o, cap, b, off, rfl, hlc, hcm, ho, -, hcell, -⟩ := hs
  have HC := Lib.hid hcell
  have HO := Lib.hid ho
  have HT := Lib.hid (Lib.tabBelow_of_tabIs htab)
  have HM := Lib.hid (LI.start w (xs.map metT))
  have HLn : Hid ((xs.map metT).length = xs.length) := List.length_map _
  clear hcell ho htab
  obtain ⟨i0, hi0, hz0, hz1, hz2⟩ := info_parts info_node
  go_enter Tryz.func88, Tryz.ntmps88
  go_wp2
  go_loopw [3, 8] (fun v i wr => ∃ (k : Nat) (KV' DV' : Nat → Value) (FF' : Nat → List Nat), k ≤ xs.length ∧ i = .int .i64 k ∧ Hid (LI w wr (xs.map metT) k v KV' DV' FF')) (fun _ i _ => xs.length - (intOf i).toNat)
  case atStart => exact ⟨0, _, _, _, Nat.zero_le _, rfl, HM.out⟩
  case round =>
    obtain ⟨k, KV', DV', FF', hk, rfl, hr⟩ := hrel
    by_cases hlt : k < xs.length
    · have hjk : k < (xs.map metT).length := by have := HLn.out; omega
      have hbel := hr.out.laid.below
      have c0 : wr.cell? ⟨b, off + k * 3, none⟩ = some (.string xs[k].name) := by
        have := (HC.out k hlt).2 0 (by decide)
        rw [hbel.cell (by exact World.block_lt_of_cell? _ _ this)]; exact this
      have c1 : wr.cell? ⟨b, off + k * 3 + 1, none⟩ = some (.int .i64 xs[k].kind) := by
        have := (HC.out k hlt).2 1 (by decide)
        rw [hbel.cell (by exact World.block_lt_of_cell? _ _ this)]; exact this
      have c2 : wr.cell? ⟨b, off + k * 3 + 2, none⟩ = some (.int .i64 xs[k].goal) := by
        have := (HC.out k hlt).2 2 (by decide)
        rw [hbel.cell (by exact World.block_lt_of_cell? _ _ this)]; exact this
      have ho := HO.out (by omega)
      subst ho
      have hok := HOK.out _ (List.getElem_mem hlt)
      have HI : Hid (∀ w1 : World, Below w.heap.size w w1 → Calls Tryz.prog 125 #[.agg #[.string xs[k].name, .int .i64 xs[k].kind, .int .i64 xs[k].goal]] w1 fun e w' => ∃ kv' dv' F', e = .returned (.agg #[.int .i64 (metT xs[k]).k, .int .i64 (metT xs[k]).n, .string (metT xs[k]).s, kv', dv']) ∧ Lies w' (metT xs[k]) kv' dv' F' ∧ Fresh w1 w' F' ∧ Below w1.heap.size w1 w') := fun w1 hb1 =>
        impl_metricTree xs[k].name xs[k].kind xs[k].goal hok.1 hok.2.1 hok.2.2 w1 (HT.out _ hb1)
      have HS := Lib.hid fun (w1 w2 w3 : World) (kvx dvx : Value) (F : List Nat) (g cap : Nat) => hr.out.step (w1 := w1) (w2 := w2) (w3 := w3) (kvx := kvx) (dvx := dvx) (F := F) (g := g) (cap := cap) hjk
      have e1 : (xs.map metT)[k] = metT xs[k] := List.getElem_map _
      rw [e1] at HS
      have hB1 : Hid (∀ ob, Below wr.heap.size wr (wr.alloc ob)) := fun ob => (Below.refl _ wr).alloc (Nat.le_refl _) ob
      have HBw := Lib.hid hbel
      generalize hxe : metT xs[k] = T at *
      generalize xs[k] = x at *
      clear hxe hok e1 hbel
      go_wp2_with fail
      refine (HI.out _ (HBw.out.trans ((hB1.out _).mono HBw.out.size))).mono ?_
      rintro e w1 ⟨kv1, dv1, F1, rfl, hl1, hf1, hb1⟩
      obtain ⟨⟨o3, q3, rfl⟩, ⟨o4, q4, rfl⟩⟩ := hl1.slices
      have hbw : Below wr.heap.size wr w1 := (hB1.out _).trans (hb1.mono (hB1.out _).size)
      have hf1' : Fresh wr w1 F1 := hf1.earlier (hB1.out _).size
      have HS1 := Lib.hid fun (w2 w3 : World) (g cap : Nat) => HS.out w1 w2 w3 _ _ _ g cap hbw hl1 hf1'
      have HOwn := Lib.hid (owns_below (owns_below hr.out.laid.own hbw) ((Below.refl _ w1).alloc (Nat.le_refl _) (.cells #[.int .i64 T.k, .int .i64 T.n, .string T.s, .slice o3 T.keys.length q3, .slice o4 T.kids.length q4] 32)))
      have hbase : (W1 w).heap.size ≤ w1.heap.size + 1 := by have := hr.out.laid.size; have := hbw.size; omega
      have HBase := Lib.hid hbase
      clear hl1 hf1 hb1 hbw hf1' hbase c0 c1 c2
      rename_i u3
      go_wp2_with (first
        | (at_builtin; refine wpList_append_lies _ rfl (.tmp 12) (.tmp 15) 129 rfl (W1 w).heap.size 32 i0 _ 5 80 Tryz.underlying129 hi0 hz0 hz1 hz2 rfl (by decide) u3 k _ rfl HOwn.out ⟨w1.heap.size, 0, none⟩ 1 1 [.int .i64 T.k, .int .i64 T.n, .string T.s, .slice o3 T.keys.length q3, .slice o4 T.kids.length q4] rfl rfl (World.news_of_block (cs := #[.int .i64 T.k, .int .i64 T.n, .string T.s, .slice o3 T.keys.length q3, .slice o4 T.kids.length q4]) (t := 32) (fr := (0, 0)) (heap_last w1 _)) (by simp [Value.oneCell']) (by omega) (by unfold maxLen; omega) (by omega) (by simp; exact HBase.out) (w1.heap.size + 1) (by simp) ?_; intro g cap' w3 hown3 hgrow hat hltg; have H3 := Lib.hid (And.intro hown3 (And.intro hgrow hat)); clear hown3 hgrow hat hltg)
        | fail)
      exact ⟨⟨k + 1, _, _, _, by omega, by go_num, HS1.out _ w3 g cap' ((Below.refl _ w1).alloc (Nat.le_refl _) _) H3.out.2.1 H3.out.1 (by simpa using H3.out.2.2)⟩, by simp [intOf]; omega⟩
    · have e : k = xs.length := by omega
      subst e
      have hr' := hr.out
      rw [← HLn.out] at hr'
      have HD := Lib.hid fun (w5 : World) (hb : Below wr.heap.size wr w5) => hr'.fin hb
      have HRs := Lib.hid hr'.res
      obtain ⟨ov, cv, hvs⟩ := hr.out.laid.slice
      clear hr'
      subst hvs
      go_wp2_with (first
        | (go_at_call 126; refine (node_list _ _ _ _).mono ?_; rintro e w5 ⟨rfl, hb5⟩; have H5 := Lib.hid (HD.out w5 hb5); obtain ⟨z0, z1, z2, z3, z4, z5⟩ := five (blk_next HRs.out hb5); clear hb5)
        | fail)
      obtain ⟨F', hfin⟩ := H5.out
      exact bodyPost_ret (ret_node Tryz.results88 rfl hfin.1) rfl ⟨_, _, rfl, hfin.2⟩
end Go.Proofs.YtfmkhogpnnobeaaGreatDoor

/- cmp.Compare of two texts; the closures by which metrics and notes are ordered, and told alike, answer by their names. -/
namespace Go.Proofs.YtfmkhogpnnobeaaGreatDoor
open Go Go.RowKit Go.Sort

theorem str_gtrO (t : TypeId) (a b : ByteArray) : binOp .gtr t (.string a) (.string b) = pure (.bool !(Op.bytesLess a.toList b.toList || a.toList == b.toList)) := by simp [binOp, Op.stringOp]

/-- Below, alike, above. -/
def cmpS (a b : ByteArray) : Int := if Op.bytesLess a.toList b.toList = true then -1 else if (a.toList == b.toList) = true then 0 else 1

theorem nan_str (a : ByteArray) (w : World) : Calls Tryz.prog 174 #[.string a] w fun e w' => e = .returned (.bool false) ∧ w' = w := by
  go_enter Tryz.func174, Tryz.ntmps174
  go_wp2
  go_ret
  exact ⟨rfl, rfl⟩

set_option maxHeartbeats 1000000 in
theorem cmp_str (a b : ByteArray) (w : World) : Calls Tryz.prog 154 #[.string a, .string b] w fun e w' => e = .returned (.int .i64 (cmpS a b)) ∧ w' = w := by
  have hg := str_gtrO
  unfold cmpS
  by_cases h1 : Op.bytesLess a.toList b.toList = true
  · rw [if_pos h1]
    go_enter Tryz.func154, Tryz.ntmps154
    go_wp2_with (first | (go_at_call 174; refine (nan_str _ _).mono ?_; rintro e w1 ⟨rfl, e1⟩; subst e1) | fail)
    go_ret
    exact ⟨rfl, rfl⟩
  · have h1' : Op.bytesLess a.toList b.toList = false := by simpa using h1
    rw [if_neg h1]
    by_cases h2 : (a.toList == b.toList) = true
    · rw [if_pos h2]
      clear h1
      go_enter Tryz.func154, Tryz.ntmps154
      go_wp2_with (first | (go_at_call 174; refine (nan_str _ _).mono ?_; rintro e w1 ⟨rfl, e1⟩; subst e1) | fail)
      go_ret
      exact ⟨rfl, rfl⟩
    · have h2' : (a.toList == b.toList) = false := by simpa using h2
      rw [if_neg h2]
      clear h1 h2
      go_enter Tryz.func154, Tryz.ntmps154
      go_wp2_with (first | (go_at_call 174; refine (nan_str _ _).mono ?_; rintro e w1 ⟨rfl, e1⟩; subst e1) | fail)
      go_ret
      exact ⟨rfl, rfl⟩

/-- Draws and new blocks alone. -/
def Gr (W w' : World) : Prop := ∃ q os, w' = grow (W.drewN q) os
theorem Gr.refl (W : World) : Gr W W := ⟨0, #[], by simp [grow, World.drewN]⟩
theorem Gr.alloc {W w' : World} (h : Gr W w') (o : Obj) : Gr W (w'.alloc o) := by
  obtain ⟨q, os, rfl⟩ := h
  exact ⟨q, os ++ #[o], by rw [alloc_eq_grow, grow_grow]⟩
theorem Gr.drew {W w' : World} (h : Gr W w') (n : Nat) : Gr W (w'.drewN n) := by
  obtain ⟨q, os, rfl⟩ := h
  exact ⟨q + n, os, by simp [grow, World.drewN, Nat.add_assoc]⟩
theorem Gr.trans {W w' w'' : World} (h : Gr W w') (h' : Gr w' w'') : Gr W w'' := by
  obtain ⟨q, os, rfl⟩ := h
  obtain ⟨q', os', rfl⟩ := h'
  exact ⟨q + q', os ++ os', by rw [← grow_grow]; simp [grow, World.drewN, Nat.add_assoc]⟩
theorem Gr.below {W w' : World} (h : Gr W w') : Below W.heap.size W w' := by
  obtain ⟨q, os, rfl⟩ := h
  exact ⟨rfl, rfl, rfl, by simp [grow, World.drewN], fun k hk => by simp only [grow, World.drewN]; exact Array.getElem?_append_left hk⟩

/-- A world that was gone on from by draws and new blocks; a block that bears these cells. -/
structure Bg (w0 wr : World) (B : Nat) (cs : Array Value) (t : TypeId) : Prop where
  gr : Gr w0 wr
  blk : wr.heap[B]? = some (.cells cs t (0, 0))
theorem Bg.next {w0 wr w1 : World} {B : Nat} {cs : Array Value} {t : TypeId} (h : Bg w0 wr B cs t) (hb : Gr wr w1) : Bg w0 w1 B cs t :=
  ⟨h.gr.trans hb, (hb.below.block _ (Array.getElem?_eq_some_iff.1 h.blk).1).trans h.blk⟩
theorem Bg.cell {w0 wr : World} {B : Nat} {cs : Array Value} {t : TypeId} (h : Bg w0 wr B cs t) (o : Nat) : wr.cell? ⟨B, o, none⟩ = cs[o]? := by
  simp [World.cell?, h.blk]
theorem Bg.start (w : World) (cs cs' : Array Value) (t t' : TypeId) : Bg w ((w.alloc (.cells cs t)).alloc (.cells cs' t')) w.heap.size cs t ∧ Bg w ((w.alloc (.cells cs t)).alloc (.cells cs' t')) (w.heap.size + 1) cs' t' :=
  ⟨⟨((Gr.refl w).alloc _).alloc _, by rw [Below.heap_alloc _ _ _ (by simp)]; show (w.heap.push _)[w.heap.size]? = _; simp⟩,
   ⟨((Gr.refl w).alloc _).alloc _, by have := heap_last (w.alloc (.cells cs t)) (.cells cs' t'); rwa [World.size_alloc] at this⟩⟩


set_option maxHeartbeats 1000000 in
theorem name_met (x : Met) (w : World) : Calls Tryz.prog 100 #[.agg #[.string x.name, .int .i64 x.kind, .int .i64 x.goal]] w fun e w' => e = .returned (.string x.name) ∧ Gr w w' := by
  have HG : Hid (∀ o, Gr w (w.alloc o)) := fun o => (Gr.refl w).alloc o
  go_enter Tryz.func100, Tryz.ntmps100
  go_wp2
  go_ret
  exact ⟨rfl, HG.out _⟩


set_option maxRecDepth 100000 in
set_option maxHeartbeats 2000000 in
theorem clo1_met (x y : Met) (B : Nat) (w : World) (hB : w.cell? ⟨B, 0, none⟩ = some (.func (.func 100) #[] #[])) :
    Calls Tryz.prog 153 #[.agg #[.string x.name, .int .i64 x.kind, .int .i64 x.goal], .agg #[.string y.name, .int .i64 y.kind, .int .i64 y.goal], .pointer (some ⟨B, 0, none⟩)] w fun e w' => e = .returned (.int .i64 (cmpS x.name y.name)) ∧ Gr w w' := by
  have hlt : B < w.heap.size := World.block_lt_of_cell? _ _ hB
  have HX := Lib.hid (Bg.start w #[.string x.name, .int .i64 x.kind, .int .i64 x.goal] #[.string y.name, .int .i64 y.kind, .int .i64 y.goal] 93 93)
  go_enter Tryz.func153, Tryz.ntmps153
  go_wp2
  have x0 := HX.out.1.cell 0; have x1 := HX.out.1.cell 1; have x2 := HX.out.1.cell 2; have y0 := HX.out.2.cell 0; have y1 := HX.out.2.cell 1; have y2 := HX.out.2.cell 2; have z0 := (HX.out.1.gr.below.cell (p := ⟨B, 0, none⟩) (by exact hlt)).trans hB
  replace HX := Lib.hid (And.intro (HX.out.1.next ((Gr.refl _).drew 1)) (HX.out.2.next ((Gr.refl _).drew 1)))
  go_region_held3 (fun w' => w'.cell? ⟨B, 0, none⟩ = some (.func (.func 100) #[] #[]) ∧ w'.cell? ⟨w.heap.size, 0, none⟩ = some (.string x.name) ∧ w'.cell? ⟨w.heap.size, 1, none⟩ = some (.int .i64 x.kind) ∧ w'.cell? ⟨w.heap.size, 2, none⟩ = some (.int .i64 x.goal) ∧ w'.cell? ⟨w.heap.size + 1, 0, none⟩ = some (.string y.name) ∧ w'.cell? ⟨w.heap.size + 1, 1, none⟩ = some (.int .i64 y.kind) ∧ w'.cell? ⟨w.heap.size + 1, 2, none⟩ = some (.int .i64 y.goal)) (go_keep)
    (first
      | (go_at_call 100; refine (name_met _ _).mono ?_; rintro e w1 ⟨rfl, hg⟩; replace HX := Lib.hid (And.intro (HX.out.1.next hg) (HX.out.2.next hg)); clear hg; clear x0 x1 x2 y0 y1 y2 z0; have x0 := HX.out.1.cell 0; have x1 := HX.out.1.cell 1; have x2 := HX.out.1.cell 2; have y0 := HX.out.2.cell 0; have y1 := HX.out.2.cell 1; have y2 := HX.out.2.cell 2; have z0 := (HX.out.1.gr.below.cell (p := ⟨B, 0, none⟩) (by exact hlt)).trans hB)
      | (go_at_call 154; refine (cmp_str _ _ _).mono ?_; rintro e w1 ⟨rfl, e1⟩; subst e1))
  go_wp2
  go_ret
  exact ⟨rfl, HX.out.1.gr⟩


set_option maxRecDepth 100000 in
set_option maxHeartbeats 2000000 in
theorem clo2_met (x y : Met) (B : Nat) (w : World) (hB : w.cell? ⟨B, 0, none⟩ = some (.func (.func 100) #[] #[])) :
    Calls Tryz.prog 156 #[.agg #[.string x.name, .int .i64 x.kind, .int .i64 x.goal], .agg #[.string y.name, .int .i64 y.kind, .int .i64 y.goal], .pointer (some ⟨B, 0, none⟩)] w fun e w' => e = .returned (.bool (x.name.toList == y.name.toList)) ∧ Gr w w' := by
  have hlt : B < w.heap.size := World.block_lt_of_cell? _ _ hB
  have HX := Lib.hid (Bg.start w #[.string x.name, .int .i64 x.kind, .int .i64 x.goal] #[.string y.name, .int .i64 y.kind, .int .i64 y.goal] 93 93)
  go_enter Tryz.func156, Tryz.ntmps156
  go_wp2
  have x0 := HX.out.1.cell 0; have x1 := HX.out.1.cell 1; have x2 := HX.out.1.cell 2; have y0 := HX.out.2.cell 0; have y1 := HX.out.2.cell 1; have y2 := HX.out.2.cell 2; have z0 := (HX.out.1.gr.below.cell (p := ⟨B, 0, none⟩) (by exact hlt)).trans hB
  replace HX := Lib.hid (And.intro (HX.out.1.next ((Gr.refl _).drew 1)) (HX.out.2.next ((Gr.refl _).drew 1)))
  go_region_held3 (fun w' => w'.cell? ⟨B, 0, none⟩ = some (.func (.func 100) #[] #[]) ∧ w'.cell? ⟨w.heap.size, 0, none⟩ = some (.string x.name) ∧ w'.cell? ⟨w.heap.size, 1, none⟩ = some (.int .i64 x.kind) ∧ w'.cell? ⟨w.heap.size, 2, none⟩ = some (.int .i64 x.goal) ∧ w'.cell? ⟨w.heap.size + 1, 0, none⟩ = some (.string y.name) ∧ w'.cell? ⟨w.heap.size + 1, 1, none⟩ = some (.int .i64 y.kind) ∧ w'.cell? ⟨w.heap.size + 1, 2, none⟩ = some (.int .i64 y.goal)) (go_keep)
    (first
      | (go_at_call 100; refine (name_met _ _).mono ?_; rintro e w1 ⟨rfl, hg⟩; replace HX := Lib.hid (And.intro (HX.out.1.next hg) (HX.out.2.next hg)); clear hg; clear x0 x1 x2 y0 y1 y2 z0; have x0 := HX.out.1.cell 0; have x1 := HX.out.1.cell 1; have x2 := HX.out.1.cell 2; have y0 := HX.out.2.cell 0; have y1 := HX.out.2.cell 1; have y2 := HX.out.2.cell 2; have z0 := (HX.out.1.gr.below.cell (p := ⟨B, 0, none⟩) (by exact hlt)).trans hB))
  go_wp2
  go_ret
  exact ⟨rfl, HX.out.1.gr⟩


set_option maxHeartbeats 1000000 in
theorem name_not (x : Not) (w : World) : Calls Tryz.prog 103 #[.agg #[.string x.key, .string x.text]] w fun e w' => e = .returned (.string x.key) ∧ Gr w w' := by
  have HG : Hid (∀ o, Gr w (w.alloc o)) := fun o => (Gr.refl w).alloc o
  go_enter Tryz.func103, Tryz.ntmps103
  go_wp2
  go_ret
  exact ⟨rfl, HG.out _⟩


set_option maxRecDepth 100000 in
set_option maxHeartbeats 2000000 in
theorem clo1_not (x y : Not) (B : Nat) (w : World) (hB : w.cell? ⟨B, 0, none⟩ = some (.func (.func 103) #[] #[])) :
    Calls Tryz.prog 161 #[.agg #[.string x.key, .string x.text], .agg #[.string y.key, .string y.text], .pointer (some ⟨B, 0, none⟩)] w fun e w' => e = .returned (.int .i64 (cmpS x.key y.key)) ∧ Gr w w' := by
  have hlt : B < w.heap.size := World.block_lt_of_cell? _ _ hB
  have HX := Lib.hid (Bg.start w #[.string x.key, .string x.text] #[.string y.key, .string y.text] 98 98)
  go_enter Tryz.func161, Tryz.ntmps161
  go_wp2
  have x0 := HX.out.1.cell 0; have x1 := HX.out.1.cell 1; have y0 := HX.out.2.cell 0; have y1 := HX.out.2.cell 1; have z0 := (HX.out.1.gr.below.cell (p := ⟨B, 0, none⟩) (by exact hlt)).trans hB
  replace HX := Lib.hid (And.intro (HX.out.1.next ((Gr.refl _).drew 1)) (HX.out.2.next ((Gr.refl _).drew 1)))
  go_region_held3 (fun w' => w'.cell? ⟨B, 0, none⟩ = some (.func (.func 103) #[] #[]) ∧ w'.cell? ⟨w.heap.size, 0, none⟩ = some (.string x.key) ∧ w'.cell? ⟨w.heap.size, 1, none⟩ = some (.string x.text) ∧ w'.cell? ⟨w.heap.size + 1, 0, none⟩ = some (.string y.key) ∧ w'.cell? ⟨w.heap.size + 1, 1, none⟩ = some (.string y.text)) (go_keep)
    (first
      | (go_at_call 103; refine (name_not _ _).mono ?_; rintro e w1 ⟨rfl, hg⟩; replace HX := Lib.hid (And.intro (HX.out.1.next hg) (HX.out.2.next hg)); clear hg; clear x0 x1 y0 y1 z0; have x0 := HX.out.1.cell 0; have x1 := HX.out.1.cell 1; have y0 := HX.out.2.cell 0; have y1 := HX.out.2.cell 1; have z0 := (HX.out.1.gr.below.cell (p := ⟨B, 0, none⟩) (by exact hlt)).trans hB)
      | (go_at_call 154; refine (cmp_str _ _ _).mono ?_; rintro e w1 ⟨rfl, e1⟩; subst e1))
  go_wp2
  go_ret
  exact ⟨rfl, HX.out.1.gr⟩


set_option maxRecDepth 100000 in
set_option maxHeartbeats 2000000 in
theorem clo2_not (x y : Not) (B : Nat) (w : World) (hB : w.cell? ⟨B, 0, none⟩ = some (.func (.func 103) #[] #[])) :
    Calls Tryz.prog 163 #[.agg #[.string x.key, .string x.text], .agg #[.string y.key, .string y.text], .pointer (some ⟨B, 0, none⟩)] w fun e w' => e = .returned (.bool (x.key.toList == y.key.toList)) ∧ Gr w w' := by
  have hlt : B < w.heap.size := World.block_lt_of_cell? _ _ hB
  have HX := Lib.hid (Bg.start w #[.string x.key, .string x.text] #[.string y.key, .string y.text] 98 98)
  go_enter Tryz.func163, Tryz.ntmps163
  go_wp2
  have x0 := HX.out.1.cell 0; have x1 := HX.out.1.cell 1; have y0 := HX.out.2.cell 0; have y1 := HX.out.2.cell 1; have z0 := (HX.out.1.gr.below.cell (p := ⟨B, 0, none⟩) (by exact hlt)).trans hB
  replace HX := Lib.hid (And.intro (HX.out.1.next ((Gr.refl _).drew 1)) (HX.out.2.next ((Gr.refl _).drew 1)))
  go_region_held3 (fun w' => w'.cell? ⟨B, 0, none⟩ = some (.func (.func 103) #[] #[]) ∧ w'.cell? ⟨w.heap.size, 0, none⟩ = some (.string x.key) ∧ w'.cell? ⟨w.heap.size, 1, none⟩ = some (.string x.text) ∧ w'.cell? ⟨w.heap.size + 1, 0, none⟩ = some (.string y.key) ∧ w'.cell? ⟨w.heap.size + 1, 1, none⟩ = some (.string y.text)) (go_keep)
    (first
      | (go_at_call 103; refine (name_not _ _).mono ?_; rintro e w1 ⟨rfl, hg⟩; replace HX := Lib.hid (And.intro (HX.out.1.next hg) (HX.out.2.next hg)); clear hg; clear x0 x1 y0 y1 z0; have x0 := HX.out.1.cell 0; have x1 := HX.out.1.cell 1; have y0 := HX.out.2.cell 0; have y1 := HX.out.2.cell 1; have z0 := (HX.out.1.gr.below.cell (p := ⟨B, 0, none⟩) (by exact hlt)).trans hB))
  go_wp2
  go_ret
  exact ⟨rfl, HX.out.1.gr⟩

end Go.Proofs.YtfmkhogpnnobeaaGreatDoor

/- plain facts on lists that are ordered by names: the order is one; what is in order stays as it is when it is sorted by insertion; what is sorted, and has no two of one name side by side, ascends. -/
namespace Go.Proofs.YtfmkhogpnnobeaaGreatDoor
open Go Go.RowKit Go.Sort

section
variable {α : Type} (nm : α → ByteArray)

def cmpN (x y : α) : Int := cmpS (nm x) (nm y)

theorem ltN (x y : α) : ltOf (cmpN nm) x y = Op.bytesLess (nm x).toList (nm y).toList := by
  unfold ltOf cmpN cmpS
  by_cases h : Op.bytesLess (nm x).toList (nm y).toList = true
  · simp [h]
  · have h' : Op.bytesLess (nm x).toList (nm y).toList = false := by simpa using h
    rw [if_neg h, h']
    split <;> simp

theorem less_irrefl (l : List UInt8) : Op.bytesLess l l = false := by
  rw [bytesLess_eq]; simp
theorem less_trans {a b c : List UInt8} (h1 : Op.bytesLess a b = true) (h2 : Op.bytesLess b c = true) : Op.bytesLess a c = true := by
  rw [bytesLess_eq] at *
  simp only [decide_eq_true_eq] at *
  exact List.lt_trans h1 h2
theorem less_ntrans {a b c : List UInt8} (h1 : Op.bytesLess a b = false) (h2 : Op.bytesLess b c = false) : Op.bytesLess a c = false := by
  rw [bytesLess_eq] at *
  simp only [decide_eq_false_iff_not, List.not_lt] at *
  exact List.le_trans h2 h1
theorem less_alike {a b : List UInt8} (h1 : Op.bytesLess a b = false) (h2 : Op.bytesLess b a = false) : a = b := by
  rw [bytesLess_eq] at *
  simp only [decide_eq_false_iff_not, List.not_lt] at *
  exact List.le_antisymm h2 h1

theorem swoN : SWO (ltOf (cmpN nm)) where
  irrefl x := by rw [ltN]; exact less_irrefl _
  trans x y z h1 h2 := by rw [ltN] at *; exact less_trans h1 h2
  ntrans x y z h1 h2 := by rw [ltN] at *; exact less_ntrans h1 h2

end

section
variable {α : Type} [Inhabited α] (nm : α → ByteArray)

theorem ins_stays (lt : α → α → Bool) (d : Array α) (b : Nat) (h : ∀ i, 0 < i → i < b → lt d[i]! d[i - 1]! = false) : ∀ (n i : Nat), b - i = n → 0 < i → insOuter lt 0 b i d = d := by
  intro n
  induction n with
  | zero => intro i hn hi; exact insOuter_stop lt 0 b i d (by omega)
  | succ n ih =>
    intro i hn hi
    rw [insOuter_go lt 0 b i d (by omega), insInner_stop lt 0 i d (.inr (h i hi (by omega)))]
    exact ih (i + 1) (by omega) (by omega)

/-- Names ascending. -/
def Asc (xs : List α) : Prop := ∀ i (h : i < xs.length), 0 < i → Op.bytesLess (nm (xs[i - 1]'(by omega))).toList (nm xs[i]).toList = true

theorem get!_toArray (xs : List α) {i : Nat} (h : i < xs.length) : xs.toArray[i]! = xs[i] := by
  simp [h]

theorem ins_asc {xs : List α} (h : Asc nm xs) : insertionSort (ltOf (cmpN nm)) xs.toArray 0 xs.length = xs.toArray := by
  refine ins_stays _ _ _ (fun i h0 hi => ?_) _ _ rfl (by decide)
  rw [ltN, get!_toArray _ hi, get!_toArray _ (by omega : i - 1 < xs.length)]
  have h1 := h i hi h0
  rcases Bool.eq_false_or_eq_true (Op.bytesLess (nm xs[i]).toList (nm (xs[i - 1]'(by omega))).toList) with h2 | h2
  · have := less_trans h1 h2
    rw [less_irrefl] at this
    cases this
  · exact h2

theorem ins_size (d : Array α) : (insertionSort (ltOf (cmpN nm)) d 0 d.size).size = d.size := (insertionSort_holds (swoN nm) d 0 d.size (Nat.zero_le _) (Nat.le_refl _)).1.1

/-- What is sorted, and has no two of one name side by side, ascends. -/
theorem asc_of_sorted {d : Array α} (hd : SortedIn (ltOf (cmpN nm)) 0 d.size d) (hn : ∀ i (h : i < d.size), 0 < i → ¬ (nm d[i]).toList = (nm (d[i - 1]'(by omega))).toList) : Asc nm d.toList := fun i h h0 => by
  have h' : i < d.size := by simpa using h
  have hs := hd (i - 1) i (Nat.zero_le _) (by omega) h'
  rw [ltN, getElem!_pos d i h', getElem!_pos d (i - 1) (by omega)] at hs
  rcases Bool.eq_false_or_eq_true (Op.bytesLess (nm (d[i - 1]'(by omega))).toList (nm d[i]).toList) with h2 | h2
  · simpa using h2
  · exact absurd (less_alike hs h2) (hn i h' h0)
end

theorem els_iff {α : Type} (nm : α → ByteArray) (ok : α → Bool) (xs : List α) : Els nm ok xs ↔ (xs.length ≤ 4 ∧ (∀ x ∈ xs, ok x = true) ∧ Asc nm xs) := by
  constructor
  · intro h
    refine ⟨h.2, fun x hx => ?_, fun i hi h0 => (h.1 i hi).2 h0⟩
    obtain ⟨i, hi, rfl⟩ := List.getElem_of_mem hx
    exact (h.1 i hi).1
  · rintro ⟨h1, h2, h3⟩
    exact ⟨fun i hi => ⟨h2 _ (List.getElem_mem hi), fun h0 => h3 i hi h0⟩, h1⟩
end Go.Proofs.YtfmkhogpnnobeaaGreatDoor

/- slices.SortStableFunc of at most four metrics, or notes, sorts them by insertion. -/
namespace Go.Proofs.YtfmkhogpnnobeaaGreatDoor
open Go Go.RowKit Go.Sort

instance metInh : Inhabited Met := ⟨⟨⟨#[]⟩, 0, 0⟩⟩
instance notInh : Inhabited Not := ⟨⟨⟨#[]⟩, ⟨#[]⟩⟩⟩


theorem lays_met {B blk : Nat} {w : World} (size : Nat) (hB : w.cell? ⟨B, 0, none⟩ = some (.func (.func 100) #[] #[])) (hne : B ≠ blk) :
    CmpLays Tryz.prog 153 #[.pointer (some ⟨B, 0, none⟩)] Met.row 3 (cmpN Met.name) blk 0 size w := fun m os dk _ x y => by
  have hlt : B < w.heap.size := World.block_lt_of_cell? _ _ hB
  have hc : (sortWorldK Met.row 3 w blk 0 m dk os).cell? ⟨B, 0, none⟩ = some (.func (.func 100) #[] #[]) := by
    unfold sortWorldK
    rw [cell?_grow _ _ _ (by rw [size_putRowK]; exact hlt), cell?_putRowK_other _ _ _ _ _ _ _ (by exact hne)]
    exact hB
  exact clo1_met x y B _ hc

set_option maxRecDepth 100000 in
set_option maxHeartbeats 2000000 in
theorem ins_met {B blk cap : Nat} (d : Array Met) (w : World) (hB : w.cell? ⟨B, 0, none⟩ = some (.func (.func 100) #[] #[])) (hne : B ≠ blk) (hH : HoldsK Met.row 3 w blk 0 d) (hblk : blk < w.heap.size) (h4 : d.size ≤ 4) :
    Calls Tryz.prog 183 #[.slice (some ⟨blk, 0, none⟩) d.size cap, .int .i64 0, .int .i64 d.size, .func (.func 153) #[] #[.pointer (some ⟨B, 0, none⟩)]] w fun e w' =>
      e = .returned (.tuple #[]) ∧ ∃ n os, w' = sortWorldK Met.row 3 w blk 0 n (Sort.insertionSort (ltOf (cmpN Met.name)) d 0 d.size) os := by
  have eg : ∀ args w, (callFunc 153 args).run Tryz.prog w = .ok (.enter 153 args) w := enters_of Tryz.func153 (by kernel_rfl) rfl
  have h := AnyQ.insertionSortCmpFunc Tryz.insMet 3 Tryz.isAgg93 Tryz.sizeOf93 Met.row (fun _ => rfl) (fun x v hv => by simp [Met.row] at hv; rcases hv with rfl | rfl | rfl <;> rfl) (cmpN Met.name) 153 #[.pointer (some ⟨B, 0, none⟩)] blk 0 cap 0 d.size d w eg (lays_met d.size hB hne) hH hblk (Nat.zero_le _) (Nat.le_refl _) (by omega)
  exact h

set_option maxRecDepth 100000 in
set_option maxHeartbeats 2000000 in
theorem stable_met {B blk cap : Nat} (d : Array Met) (w : World) (hB : w.cell? ⟨B, 0, none⟩ = some (.func (.func 100) #[] #[])) (hne : B ≠ blk) (hH : HoldsK Met.row 3 w blk 0 d) (hblk : blk < w.heap.size) (h4 : d.size ≤ 4) :
    Calls Tryz.prog 173 #[.slice (some ⟨blk, 0, none⟩) d.size cap, .int .i64 d.size, .func (.func 153) #[] #[.pointer (some ⟨B, 0, none⟩)]] w fun e w' =>
      e = .returned (.tuple #[]) ∧ ∃ n os, w' = sortWorldK Met.row 3 w blk 0 n (Sort.insertionSort (ltOf (cmpN Met.name)) d 0 d.size) os := by
  have hi := Lib.hid (ins_met (cap := cap) d w hB hne hH hblk h4)
  clear hH hB
  generalize Sort.insertionSort (ltOf (cmpN Met.name)) d 0 d.size = r at *
  have h5 : ¬ (20 : Int) ≤ d.size := by omega
  have h6 : ¬ (20 : Int) < d.size := by omega
  go_enter Tryz.func173, Tryz.ntmps173
  go_wp2
  refine wp_loop_rounds 1 ?_
  rw [rounds_succ]
  go_wp2_with (first | (go_at_call 183; refine hi.out.mono ?_; rintro e w1 ⟨rfl, n, os, rfl⟩) | fail)
  refine wp_loop_rounds 1 ?_
  rw [rounds_succ]
  go_wp2
  go_end0
  exact ⟨rfl, n, os, rfl⟩

set_option maxRecDepth 100000 in
set_option maxHeartbeats 2000000 in
theorem sort_met {B blk cap : Nat} (d : Array Met) (w : World) (hB : w.cell? ⟨B, 0, none⟩ = some (.func (.func 100) #[] #[])) (hne : B ≠ blk) (hH : HoldsK Met.row 3 w blk 0 d) (hblk : blk < w.heap.size) (h4 : d.size ≤ 4) :
    Calls Tryz.prog 152 #[.slice (some ⟨blk, 0, none⟩) d.size cap, .func (.func 153) #[] #[.pointer (some ⟨B, 0, none⟩)]] w fun e w' =>
      e = .returned (.tuple #[]) ∧ ∃ n os, w' = sortWorldK Met.row 3 w blk 0 n (Sort.insertionSort (ltOf (cmpN Met.name)) d 0 d.size) os := by
  have hi := Lib.hid (stable_met (cap := cap) d w hB hne hH hblk h4)
  clear hH hB
  generalize Sort.insertionSort (ltOf (cmpN Met.name)) d 0 d.size = r at *
  go_enter Tryz.func152, Tryz.ntmps152
  go_wp2_with (first | (go_at_call 173; refine hi.out.mono ?_; rintro e w1 ⟨rfl, n, os, rfl⟩) | fail)
  go_end0
  exact ⟨rfl, n, os, rfl⟩


theorem lays_not {B blk : Nat} {w : World} (size : Nat) (hB : w.cell? ⟨B, 0, none⟩ = some (.func (.func 103) #[] #[])) (hne : B ≠ blk) :
    CmpLays Tryz.prog 161 #[.pointer (some ⟨B, 0, none⟩)] Not.row 2 (cmpN Not.key) blk 0 size w := fun m os dk _ x y => by
  have hlt : B < w.heap.size := World.block_lt_of_cell? _ _ hB
  have hc : (sortWorldK Not.row 2 w blk 0 m dk os).cell? ⟨B, 0, none⟩ = some (.func (.func 103) #[] #[]) := by
    unfold sortWorldK
    rw [cell?_grow _ _ _ (by rw [size_putRowK]; exact hlt), cell?_putRowK_other _ _ _ _ _ _ _ (by exact hne)]
    exact hB
  exact clo1_not x y B _ hc

set_option maxRecDepth 100000 in
set_option maxHeartbeats 2000000 in
theorem ins_not {B blk cap : Nat} (d : Array Not) (w : World) (hB : w.cell? ⟨B, 0, none⟩ = some (.func (.func 103) #[] #[])) (hne : B ≠ blk) (hH : HoldsK Not.row 2 w blk 0 d) (hblk : blk < w.heap.size) (h4 : d.size ≤ 4) :
    Calls Tryz.prog 186 #[.slice (some ⟨blk, 0, none⟩) d.size cap, .int .i64 0, .int .i64 d.size, .func (.func 161) #[] #[.pointer (some ⟨B, 0, none⟩)]] w fun e w' =>
      e = .returned (.tuple #[]) ∧ ∃ n os, w' = sortWorldK Not.row 2 w blk 0 n (Sort.insertionSort (ltOf (cmpN Not.key)) d 0 d.size) os := by
  have eg : ∀ args w, (callFunc 161 args).run Tryz.prog w = .ok (.enter 161 args) w := enters_of Tryz.func161 (by kernel_rfl) rfl
  have h := AnyQ.insertionSortCmpFunc Tryz.insNot 2 Tryz.isAgg98 Tryz.sizeOf98 Not.row (fun _ => rfl) (fun x v hv => by simp [Not.row] at hv; rcases hv with rfl | rfl <;> rfl) (cmpN Not.key) 161 #[.pointer (some ⟨B, 0, none⟩)] blk 0 cap 0 d.size d w eg (lays_not d.size hB hne) hH hblk (Nat.zero_le _) (Nat.le_refl _) (by omega)
  exact h

set_option maxRecDepth 100000 in
set_option maxHeartbeats 2000000 in
theorem stable_not {B blk cap : Nat} (d : Array Not) (w : World) (hB : w.cell? ⟨B, 0, none⟩ = some (.func (.func 103) #[] #[])) (hne : B ≠ blk) (hH : HoldsK Not.row 2 w blk 0 d) (hblk : blk < w.heap.size) (h4 : d.size ≤ 4) :
    Calls Tryz.prog 176 #[.slice (some ⟨blk, 0, none⟩) d.size cap, .int .i64 d.size, .func (.func 161) #[] #[.pointer (some ⟨B, 0, none⟩)]] w fun e w' =>
      e = .returned (.tuple #[]) ∧ ∃ n os, w' = sortWorldK Not.row 2 w blk 0 n (Sort.insertionSort (ltOf (cmpN Not.key)) d 0 d.size) os := by
  have hi := Lib.hid (ins_not (cap := cap) d w hB hne hH hblk h4)
  clear hH hB
  generalize Sort.insertionSort (ltOf (cmpN Not.key)) d 0 d.size = r at *
  have h5 : ¬ (20 : Int) ≤ d.size := by omega
  have h6 : ¬ (20 : Int) < d.size := by omega
  go_enter Tryz.func176, Tryz.ntmps176
  go_wp2
  refine wp_loop_rounds 1 ?_
  rw [rounds_succ]
  go_wp2_with (first | (go_at_call 186; refine hi.out.mono ?_; rintro e w1 ⟨rfl, n, os, rfl⟩) | fail)
  refine wp_loop_rounds 1 ?_
  rw [rounds_succ]
  go_wp2
  go_end0
  exact ⟨rfl, n, os, rfl⟩

set_option maxRecDepth 100000 in
set_option maxHeartbeats 2000000 in
theorem sort_not {B blk cap : Nat} (d : Array Not) (w : World) (hB : w.cell? ⟨B, 0, none⟩ = some (.func (.func 103) #[] #[])) (hne : B ≠ blk) (hH : HoldsK Not.row 2 w blk 0 d) (hblk : blk < w.heap.size) (h4 : d.size ≤ 4) :
    Calls Tryz.prog 160 #[.slice (some ⟨blk, 0, none⟩) d.size cap, .func (.func 161) #[] #[.pointer (some ⟨B, 0, none⟩)]] w fun e w' =>
      e = .returned (.tuple #[]) ∧ ∃ n os, w' = sortWorldK Not.row 2 w blk 0 n (Sort.insertionSort (ltOf (cmpN Not.key)) d 0 d.size) os := by
  have hi := Lib.hid (stable_not (cap := cap) d w hB hne hH hblk h4)
  clear hH hB
  generalize Sort.insertionSort (ltOf (cmpN Not.key)) d 0 d.size = r at *
  go_enter Tryz.func160, Tryz.ntmps160
  go_wp2_with (first | (go_at_call 176; refine hi.out.mono ?_; rintro e w1 ⟨rfl, n, os, rfl⟩) | fail)
  go_end0
  exact ⟨rfl, n, os, rfl⟩

end Go.Proofs.YtfmkhogpnnobeaaGreatDoor
