/-
  What is proved: the model's trees of a metric and of a pace: maps whose Keys ascend, in memory of their own; no condition.; the model's tree of a list of metrics: a list of their trees, in memory of its own; no condition but how long names are.; plain facts on Keys that ascend: one that stands behind others is above them all, so it is not among them, and it comes to stand at their end.; plain facts on Keys that ascend: set one behind the other they stand as they were.; the model's tree of a list of notes whose Keys ascend: a map of their Texts, in memory of its own; no condition but how long they are.
-/
import Derived.Test.YtfmkhogpnnobeaaGreatDoorPartAF
import Derived.Test.YtfmkhogpnnobeaaGreatDoorPartAH
import Derived.Test.YtfmkhogpnnobeaaGreatDoorPartAC
import Derived.Test.YtfmkhogpnnobeaaGreatDoorCopyS
import Derived.Sort.Walk0
import Derived.Test.YtfmkhogpnnobeaaGreatDoorPartAD
/- the model's trees of a metric and of a pace: maps whose Keys ascend, in memory of their own; no condition. -/
namespace Go.Proofs.YtfmkhogpnnobeaaGreatDoor
open Go Go.RowKit

theorem metT_map (s : ByteArray) (k g : Int) : mapN [⟨#[110, 97, 109, 101]⟩, ⟨#[107, 105, 110, 100]⟩, ⟨#[103, 111, 97, 108]⟩] [.node 3 0 s [] [], .node 3 0 (kindB k) [] [], .node 3 0 ⟨(amtText g).toArray⟩ [] []] 3 = metT ⟨s, k, g⟩ := by
  show (setT (setT (setT (.node 5 0 ⟨#[]⟩ [] []) ⟨#[110, 97, 109, 101]⟩ (.node 3 0 s [] [])) ⟨#[107, 105, 110, 100]⟩ (.node 3 0 (kindB k) [] [])) ⟨#[103, 111, 97, 108]⟩ (.node 3 0 ⟨(amtText g).toArray⟩ [] [])) = _
  rw [setT_new (by rfl) (show firstN [] ⟨#[110, 97, 109, 101]⟩ = 0 by decide +kernel) (show placeN [] ⟨#[110, 97, 109, 101]⟩ = 0 by decide +kernel)]
  show (setT (setT (.node 5 0 ⟨#[]⟩ [⟨#[110, 97, 109, 101]⟩] [.node 3 0 s [] []]) ⟨#[107, 105, 110, 100]⟩ (.node 3 0 (kindB k) [] [])) ⟨#[103, 111, 97, 108]⟩ (.node 3 0 ⟨(amtText g).toArray⟩ [] [])) = _
  rw [setT_new (by rfl) (show firstN [⟨#[110, 97, 109, 101]⟩] ⟨#[107, 105, 110, 100]⟩ = 1 by decide +kernel) (show placeN [⟨#[110, 97, 109, 101]⟩] ⟨#[107, 105, 110, 100]⟩ = 0 by decide +kernel)]
  show (setT (.node 5 0 ⟨#[]⟩ [⟨#[107, 105, 110, 100]⟩, ⟨#[110, 97, 109, 101]⟩] [.node 3 0 (kindB k) [] [], .node 3 0 s [] []]) ⟨#[103, 111, 97, 108]⟩ (.node 3 0 ⟨(amtText g).toArray⟩ [] [])) = _
  rw [setT_new (by rfl) (show firstN [⟨#[107, 105, 110, 100]⟩, ⟨#[110, 97, 109, 101]⟩] ⟨#[103, 111, 97, 108]⟩ = 2 by decide +kernel) (show placeN [⟨#[107, 105, 110, 100]⟩, ⟨#[110, 97, 109, 101]⟩] ⟨#[103, 111, 97, 108]⟩ = 0 by decide +kernel)]
  rfl

set_option maxRecDepth 100000 in
set_option maxHeartbeats 8000000 in
theorem spec_metricTree (s : ByteArray) (k g : Int) (hs : s.size ≤ maxLen) (hk : Fit k) (hg : Fit g) (hs1 : s.size ≤ 1048576) (w : World) :
    Calls Tryz.prog 60 #[.agg #[.string s, .int .i64 k, .int .i64 g]] w fun e w' => ∃ kv dv F, e = .returned ((metT ⟨s, k, g⟩).val kv dv) ∧ Lies w' (metT ⟨s, k, g⟩) kv dv F ∧ Fresh w w' F ∧ Below w.heap.size w w' := by
  have HG := Lib.hid hg
  have HM : Hid (∀ X bz bn, X.heap[bz]? = some (.cells #[.string ⟨#[110, 97, 109, 101]⟩, .string ⟨#[107, 105, 110, 100]⟩, .string ⟨#[103, 111, 97, 108]⟩] 9 (0, 0)) → X.heap[bn]? = some (.cells #[.int .i64 3, .int .i64 0, .string s, .slice none 0 0, .slice none 0 0, .int .i64 3, .int .i64 0, .string (kindB k), .slice none 0 0, .slice none 0 0, .int .i64 3, .int .i64 0, .string ⟨(amtText g).toArray⟩, .slice none 0 0, .slice none 0 0] 32 (0, 0)) → Calls Tryz.prog 59 #[.slice (some ⟨bz, 0, none⟩) 3 3, .slice (some ⟨bn, 0, none⟩) 3 3] X fun e w' => ∃ kr dr G, e = .returned (.agg #[.int .i64 (metT ⟨s, k, g⟩).k, .int .i64 (metT ⟨s, k, g⟩).n, .string (metT ⟨s, k, g⟩).s, kr, dr]) ∧ Lies w' (metT ⟨s, k, g⟩) kr dr G ∧ Fresh X w' G ∧ Below X.heap.size X w') := by
    intro X bz bn hz hn
    have hlf : ∀ t ∈ ([.node 3 0 s [] [], .node 3 0 (kindB k) [] [], .node 3 0 ⟨(amtText g).toArray⟩ [] []] : List RT), LeafK t := fun t ht => (metT_leaves ⟨s, k, g⟩ ⟨hs, hk, hg⟩) t (by simp only [List.mem_cons, List.not_mem_nil, or_false] at ht; rcases ht with rfl | rfl | rfl <;> simp [metT, RT.kids])
    have h := spec_l7Map [⟨#[110, 97, 109, 101]⟩, ⟨#[107, 105, 110, 100]⟩, ⟨#[103, 111, 97, 108]⟩] [.node 3 0 s [] [], .node 3 0 (kindB k) [] [], .node 3 0 ⟨(amtText g).toArray⟩ [] []] rfl X _ _ _ _ (strs_lit [⟨#[110, 97, 109, 101]⟩, ⟨#[107, 105, 110, 100]⟩, ⟨#[103, 111, 97, 108]⟩] hz rfl (fun t ht => metT_keys ⟨s, k, g⟩ t (by simp only [List.mem_cons, List.not_mem_nil, or_false] at ht; rcases ht with rfl | rfl | rfl <;> simp [metT, RT.keys])) (show 3 ≤ maxLen by decide) (show 0 < 3 by decide))
      (kids_lit [.node 3 0 s [] [], .node 3 0 (kindB k) [] [], .node 3 0 ⟨(amtText g).toArray⟩ [] []] (fun _ => .slice none 0 0) (fun _ => .slice none 0 0) (fun _ => []) hn rfl (fun i hi j hj => by rw [← Array.getElem?_toList]; exact (rowsOf_get [.node 3 0 s [] [], .node 3 0 (kindB k) [] [], .node 3 0 ⟨(amtText g).toArray⟩ [] []] (fun _ => .slice none 0 0) (fun _ => .slice none 0 0) 3 i j hi hj).trans (by rw [List.getD_eq_getElem?_getD, List.getElem?_eq_getElem hi]; rfl)) (fun i hi => leaf_kid X _ (hlf _ (List.getElem_mem hi))) (show 3 ≤ maxLen by decide) (show 0 < 3 by decide)) (fun j hj => Nat.le_trans (mapN_le _ _ rfl hj) (by have a := amt_size g hg.1 hg.2; have c := kind_size k; have k0 : (⟨#[110, 97, 109, 101]⟩ : ByteArray).size = 4 := rfl; have k1 : (⟨#[107, 105, 110, 100]⟩ : ByteArray).size = 4 := rfl; have k2 : (⟨#[103, 111, 97, 108]⟩ : ByteArray).size = 4 := rfl; have kn : (⟨#[]⟩ : ByteArray).size = 0 := rfl; simp only [szAll, strSz, RT.sz, List.length_cons, List.length_nil, List.map_cons, List.map_nil, List.sum_cons, List.sum_nil]; omega)) (fun p hp => Nat.le_trans (sz_take _ hp) (by have a := amt_size g hg.1 hg.2; have c := kind_size k; have kn : (⟨#[]⟩ : ByteArray).size = 0 := rfl; simp only [szAll, strSz, RT.sz, List.length_nil, List.map_nil, List.sum_nil]; omega)) (show 3 ≤ 1000000 by decide) _ (metT_map s k g)
    exact h
  generalize metT ⟨s, k, g⟩ = T at *
  clear hs hk hg hs1
  go_enter Tryz.func60, Tryz.ntmps60
  go_wp2_with fail
  have H2 := Lib.hid (Two.start w (.cells #[.string s, .int .i64 k, .int .i64 g] 93) (.cells #[.int .i64 0, .int .i64 0, .string ⟨#[]⟩, .slice none 0 0, .slice none 0 0] 32))
  have x0 := cell_of H2.out.arg 0
  have x1 := cell_of H2.out.arg 1
  have x2 := cell_of H2.out.arg 2
  simp only [List.getElem?_toArray, List.getElem?_cons_zero, List.getElem?_cons_succ] at x0 x1 x2
  go_region_held3 (fun w' => w'.cell? ⟨w.heap.size, 0, none⟩ = some (.string s) ∧ w'.cell? ⟨w.heap.size, 1, none⟩ = some (.int .i64 k) ∧ w'.cell? ⟨w.heap.size, 2, none⟩ = some (.int .i64 g)) (go_keep)
    (first
      | (go_at_call 94; refine (spec_amountText g HG.out.1 HG.out.2 _).mono ?_; rintro e w' ⟨rfl, hb⟩; (first | (replace H2 := Lib.hid (H2.out.next hb); (try replace HZ := Lib.hid (HZ.out.next hb))) | (replace H2 := Lib.hid (H2.out.next1 hb)) | (have HZ := Lib.hid (H2.out.lit hb (by simp)).2; replace H2 := Lib.hid (H2.out.lit hb (by simp)).1; (first | replace HZ := Lib.hid (HZ.out.mv (n := w.heap.size + 1 + 1) (by simp)) | skip)) | (have HZ := Lib.hid (H2.out.lit1 hb).2; replace H2 := Lib.hid (H2.out.lit1 hb).1; (first | replace HZ := Lib.hid (HZ.out.mv (n := w.heap.size + 1 + 1) (by simp)) | skip))); clear hb x0 x1 x2; have x0 := cell_of H2.out.arg 0; have x1 := cell_of H2.out.arg 1; have x2 := cell_of H2.out.arg 2; simp only [List.getElem?_toArray, List.getElem?_cons_zero, List.getElem?_cons_succ] at x0 x1 x2)
      | (go_at_call 45; refine (spec_textOf _ _).mono ?_; rintro e w' ⟨rfl, hb⟩; (first | (replace H2 := Lib.hid (H2.out.next hb); (try replace HZ := Lib.hid (HZ.out.next hb))) | (replace H2 := Lib.hid (H2.out.next1 hb)) | (have HZ := Lib.hid (H2.out.lit hb (by simp)).2; replace H2 := Lib.hid (H2.out.lit hb (by simp)).1; (first | replace HZ := Lib.hid (HZ.out.mv (n := w.heap.size + 1 + 1) (by simp)) | skip)) | (have HZ := Lib.hid (H2.out.lit1 hb).2; replace H2 := Lib.hid (H2.out.lit1 hb).1; (first | replace HZ := Lib.hid (HZ.out.mv (n := w.heap.size + 1 + 1) (by simp)) | skip))); clear hb x0 x1 x2; have x0 := cell_of H2.out.arg 0; have x1 := cell_of H2.out.arg 1; have x2 := cell_of H2.out.arg 2; simp only [List.getElem?_toArray, List.getElem?_cons_zero, List.getElem?_cons_succ] at x0 x1 x2)
      | (go_at_call 93; refine (spec_l7Kind _ _).mono ?_; rintro e w' ⟨rfl, hb⟩; (first | (replace H2 := Lib.hid (H2.out.next hb); (try replace HZ := Lib.hid (HZ.out.next hb))) | (replace H2 := Lib.hid (H2.out.next1 hb)) | (have HZ := Lib.hid (H2.out.lit hb (by simp)).2; replace H2 := Lib.hid (H2.out.lit hb (by simp)).1; (first | replace HZ := Lib.hid (HZ.out.mv (n := w.heap.size + 1 + 1) (by simp)) | skip)) | (have HZ := Lib.hid (H2.out.lit1 hb).2; replace H2 := Lib.hid (H2.out.lit1 hb).1; (first | replace HZ := Lib.hid (HZ.out.mv (n := w.heap.size + 1 + 1) (by simp)) | skip))); clear hb x0 x1 x2; have x0 := cell_of H2.out.arg 0; have x1 := cell_of H2.out.arg 1; have x2 := cell_of H2.out.arg 2; simp only [List.getElem?_toArray, List.getElem?_cons_zero, List.getElem?_cons_succ] at x0 x1 x2)
      | (go_at_call 59; refine (HM.out _ _ _ (by first | exact (HZ.out.lit1 (Below.refl _ _)).at_ | exact (H2.out.lits1 (Below.refl _ _)).2.1.at_ | exact (H2.out.lits1 (Below.refl _ _)).2.2.at_ | exact (HZ.out.lit (Below.refl _ _) (by simp [World.drew])).at_ | exact (H2.out.lits (Below.refl _ _) (by simp [World.drew])).2.1.at_ | exact (H2.out.lits (Below.refl _ _) (by simp [World.drew])).2.2.at_) (by first | exact (H2.out.lit1 (Below.refl _ _)).2.at_ | exact (H2.out.lits1 (Below.refl _ _)).2.2.at_ | exact (H2.out.lits1 (Below.refl _ _)).2.1.at_ | exact (H2.out.lit (Below.refl _ _) (by simp [World.drew])).2.at_ | exact (H2.out.lits (Below.refl _ _) (by simp [World.drew])).2.2.at_ | exact (H2.out.lits (Below.refl _ _) (by simp [World.drew])).2.1.at_)).mono ?_; rintro e w' ⟨kr, dr, G, rfl, hl, hf, hb⟩; obtain ⟨⟨o3, q3, rfl⟩, ⟨o4, q4, rfl⟩⟩ := hl.slices; have HL := Lib.hid (res_keep H2.out hl hf (by first | (simp; done) | (simp; omega))); clear hl hf; (first | (replace HZ := Lib.hid (HZ.out.lit1 hb); have HN := Lib.hid (H2.out.lit1 hb).2; replace H2 := Lib.hid (H2.out.lit1 hb).1) | (have HZ := Lib.hid (H2.out.lits1 hb).2.1; have HN := Lib.hid (H2.out.lits1 hb).2.2; replace H2 := Lib.hid (H2.out.lits1 hb).1; (first | (have h9 := HZ.out; have h8 : One w w' _ (.cells #[.string ⟨#[110, 97, 109, 101]⟩, .string ⟨#[107, 105, 110, 100]⟩, .string ⟨#[103, 111, 97, 108]⟩] 9) := h9; clear h8 h9) | (have hq := HZ; replace HZ := HN; replace HN := hq; clear hq))) | (have HN := Lib.hid (H2.out.lit hb (by simp)).2; replace HZ := Lib.hid (HZ.out.lit hb (by simp)); replace H2 := Lib.hid (H2.out.lit hb (by simp)).1) | (have HZ := Lib.hid (H2.out.lits hb (by simp)).2.1; have HN := Lib.hid (H2.out.lits hb (by simp)).2.2; replace H2 := Lib.hid (H2.out.lits hb (by simp)).1; (first | (have h9 := HZ.out; have h8 : One w w' _ (.cells #[.string ⟨#[110, 97, 109, 101]⟩, .string ⟨#[107, 105, 110, 100]⟩, .string ⟨#[103, 111, 97, 108]⟩] 9) := h9; clear h8 h9) | (have hq := HZ; replace HZ := HN; replace HN := hq; clear hq)))); clear hb x0 x1 x2; have x0 := cell_of H2.out.arg 0; have x1 := cell_of H2.out.arg 1; have x2 := cell_of H2.out.arg 2; simp only [List.getElem?_toArray, List.getElem?_cons_zero, List.getElem?_cons_succ] at x0 x1 x2; obtain ⟨r0, r1, r2, r3, r4, r5⟩ := five H2.out.res))
  all_goals
    have HF := res_fin H2.out HL.out
    go_wp2
    exact bodyPost_ret (ret_node Tryz.results60 rfl HF.1) rfl ⟨_, _, _, rfl, HF.2.1, HF.2.2.1, HF.2.2.2⟩

theorem pacT_map (u d us ds : Int) : mapN [⟨#[100, 111, 119, 110]⟩, ⟨#[117, 112]⟩, ⟨#[100, 111, 119, 110, 115, 112, 97, 110]⟩, ⟨#[117, 112, 115, 112, 97, 110]⟩] [.node 2 d ⟨#[]⟩ [] [], .node 2 u ⟨#[]⟩ [] [], .node 3 0 ⟨(spanText ds).toArray⟩ [] [], .node 3 0 ⟨(spanText us).toArray⟩ [] []] 4 = pacT ⟨u, d, us, ds⟩ := by
  show (setT (setT (setT (setT (.node 5 0 ⟨#[]⟩ [] []) ⟨#[100, 111, 119, 110]⟩ (.node 2 d ⟨#[]⟩ [] [])) ⟨#[117, 112]⟩ (.node 2 u ⟨#[]⟩ [] [])) ⟨#[100, 111, 119, 110, 115, 112, 97, 110]⟩ (.node 3 0 ⟨(spanText ds).toArray⟩ [] [])) ⟨#[117, 112, 115, 112, 97, 110]⟩ (.node 3 0 ⟨(spanText us).toArray⟩ [] [])) = _
  rw [setT_new (by rfl) (show firstN [] ⟨#[100, 111, 119, 110]⟩ = 0 by decide +kernel) (show placeN [] ⟨#[100, 111, 119, 110]⟩ = 0 by decide +kernel)]
  show (setT (setT (setT (.node 5 0 ⟨#[]⟩ [⟨#[100, 111, 119, 110]⟩] [.node 2 d ⟨#[]⟩ [] []]) ⟨#[117, 112]⟩ (.node 2 u ⟨#[]⟩ [] [])) ⟨#[100, 111, 119, 110, 115, 112, 97, 110]⟩ (.node 3 0 ⟨(spanText ds).toArray⟩ [] [])) ⟨#[117, 112, 115, 112, 97, 110]⟩ (.node 3 0 ⟨(spanText us).toArray⟩ [] [])) = _
  rw [setT_new (by rfl) (show firstN [⟨#[100, 111, 119, 110]⟩] ⟨#[117, 112]⟩ = 1 by decide +kernel) (show placeN [⟨#[100, 111, 119, 110]⟩] ⟨#[117, 112]⟩ = 1 by decide +kernel)]
  show (setT (setT (.node 5 0 ⟨#[]⟩ [⟨#[100, 111, 119, 110]⟩, ⟨#[117, 112]⟩] [.node 2 d ⟨#[]⟩ [] [], .node 2 u ⟨#[]⟩ [] []]) ⟨#[100, 111, 119, 110, 115, 112, 97, 110]⟩ (.node 3 0 ⟨(spanText ds).toArray⟩ [] [])) ⟨#[117, 112, 115, 112, 97, 110]⟩ (.node 3 0 ⟨(spanText us).toArray⟩ [] [])) = _
  rw [setT_new (by rfl) (show firstN [⟨#[100, 111, 119, 110]⟩, ⟨#[117, 112]⟩] ⟨#[100, 111, 119, 110, 115, 112, 97, 110]⟩ = 2 by decide +kernel) (show placeN [⟨#[100, 111, 119, 110]⟩, ⟨#[117, 112]⟩] ⟨#[100, 111, 119, 110, 115, 112, 97, 110]⟩ = 1 by decide +kernel)]
  show (setT (.node 5 0 ⟨#[]⟩ [⟨#[100, 111, 119, 110]⟩, ⟨#[100, 111, 119, 110, 115, 112, 97, 110]⟩, ⟨#[117, 112]⟩] [.node 2 d ⟨#[]⟩ [] [], .node 3 0 ⟨(spanText ds).toArray⟩ [] [], .node 2 u ⟨#[]⟩ [] []]) ⟨#[117, 112, 115, 112, 97, 110]⟩ (.node 3 0 ⟨(spanText us).toArray⟩ [] [])) = _
  rw [setT_new (by rfl) (show firstN [⟨#[100, 111, 119, 110]⟩, ⟨#[100, 111, 119, 110, 115, 112, 97, 110]⟩, ⟨#[117, 112]⟩] ⟨#[117, 112, 115, 112, 97, 110]⟩ = 3 by decide +kernel) (show placeN [⟨#[100, 111, 119, 110]⟩, ⟨#[100, 111, 119, 110, 115, 112, 97, 110]⟩, ⟨#[117, 112]⟩] ⟨#[117, 112, 115, 112, 97, 110]⟩ = 3 by decide +kernel)]
  rfl

set_option maxRecDepth 100000 in
set_option maxHeartbeats 8000000 in
theorem spec_paceTree (u d us ds : Int) (hu : Fit u) (hd : Fit d) (hus : Fit us) (hds : Fit ds) (w : World) :
    Calls Tryz.prog 63 #[.agg #[.int .i64 u, .int .i64 d, .int .i64 us, .int .i64 ds]] w fun e w' => ∃ kv dv F, e = .returned ((pacT ⟨u, d, us, ds⟩).val kv dv) ∧ Lies w' (pacT ⟨u, d, us, ds⟩) kv dv F ∧ Fresh w w' F ∧ Below w.heap.size w w' := by
  have HU : Hid (-9223372036854775808 ≤ us ∧ us ≤ 9223372036854775807) := hus
  have HD : Hid (-9223372036854775808 ≤ ds ∧ ds ≤ 9223372036854775807) := hds
  have HM : Hid (∀ X bz bn, X.heap[bz]? = some (.cells #[.string ⟨#[100, 111, 119, 110]⟩, .string ⟨#[117, 112]⟩, .string ⟨#[100, 111, 119, 110, 115, 112, 97, 110]⟩, .string ⟨#[117, 112, 115, 112, 97, 110]⟩] 9 (0, 0)) → X.heap[bn]? = some (.cells #[.int .i64 2, .int .i64 d, .string ⟨#[]⟩, .slice none 0 0, .slice none 0 0, .int .i64 2, .int .i64 u, .string ⟨#[]⟩, .slice none 0 0, .slice none 0 0, .int .i64 3, .int .i64 0, .string ⟨(spanText ds).toArray⟩, .slice none 0 0, .slice none 0 0, .int .i64 3, .int .i64 0, .string ⟨(spanText us).toArray⟩, .slice none 0 0, .slice none 0 0] 32 (0, 0)) → Calls Tryz.prog 59 #[.slice (some ⟨bz, 0, none⟩) 4 4, .slice (some ⟨bn, 0, none⟩) 4 4] X fun e w' => ∃ kr dr G, e = .returned (.agg #[.int .i64 (pacT ⟨u, d, us, ds⟩).k, .int .i64 (pacT ⟨u, d, us, ds⟩).n, .string (pacT ⟨u, d, us, ds⟩).s, kr, dr]) ∧ Lies w' (pacT ⟨u, d, us, ds⟩) kr dr G ∧ Fresh X w' G ∧ Below X.heap.size X w') := by
    intro X bz bn hz hn
    have hlf : ∀ t ∈ ([.node 2 d ⟨#[]⟩ [] [], .node 2 u ⟨#[]⟩ [] [], .node 3 0 ⟨(spanText ds).toArray⟩ [] [], .node 3 0 ⟨(spanText us).toArray⟩ [] []] : List RT), LeafK t := fun t ht => (pacT_leaves ⟨u, d, us, ds⟩ ⟨hu, hd, hus, hds⟩) t (by simp only [List.mem_cons, List.not_mem_nil, or_false] at ht; rcases ht with rfl | rfl | rfl | rfl <;> simp [pacT, RT.kids])
    have h := spec_l7Map [⟨#[100, 111, 119, 110]⟩, ⟨#[117, 112]⟩, ⟨#[100, 111, 119, 110, 115, 112, 97, 110]⟩, ⟨#[117, 112, 115, 112, 97, 110]⟩] [.node 2 d ⟨#[]⟩ [] [], .node 2 u ⟨#[]⟩ [] [], .node 3 0 ⟨(spanText ds).toArray⟩ [] [], .node 3 0 ⟨(spanText us).toArray⟩ [] []] rfl X _ _ _ _ (strs_lit [⟨#[100, 111, 119, 110]⟩, ⟨#[117, 112]⟩, ⟨#[100, 111, 119, 110, 115, 112, 97, 110]⟩, ⟨#[117, 112, 115, 112, 97, 110]⟩] hz rfl (fun t ht => pacT_keys ⟨u, d, us, ds⟩ t (by simp only [List.mem_cons, List.not_mem_nil, or_false] at ht; rcases ht with rfl | rfl | rfl | rfl <;> simp [pacT, RT.keys])) (show 4 ≤ maxLen by decide) (show 0 < 4 by decide))
      (kids_lit [.node 2 d ⟨#[]⟩ [] [], .node 2 u ⟨#[]⟩ [] [], .node 3 0 ⟨(spanText ds).toArray⟩ [] [], .node 3 0 ⟨(spanText us).toArray⟩ [] []] (fun _ => .slice none 0 0) (fun _ => .slice none 0 0) (fun _ => []) hn rfl (fun i hi j hj => by rw [← Array.getElem?_toList]; exact (rowsOf_get [.node 2 d ⟨#[]⟩ [] [], .node 2 u ⟨#[]⟩ [] [], .node 3 0 ⟨(spanText ds).toArray⟩ [] [], .node 3 0 ⟨(spanText us).toArray⟩ [] []] (fun _ => .slice none 0 0) (fun _ => .slice none 0 0) 4 i j hi hj).trans (by rw [List.getD_eq_getElem?_getD, List.getElem?_eq_getElem hi]; rfl)) (fun i hi => leaf_kid X _ (hlf _ (List.getElem_mem hi))) (show 4 ≤ maxLen by decide) (show 0 < 4 by decide)) (fun j hj => Nat.le_trans (mapN_le _ _ rfl hj) (by have a := span_size us hus.1 hus.2; have c := span_size ds hds.1 hds.2; have k0 : (⟨#[100, 111, 119, 110]⟩ : ByteArray).size = 4 := rfl; have k1 : (⟨#[117, 112]⟩ : ByteArray).size = 2 := rfl; have k2 : (⟨#[100, 111, 119, 110, 115, 112, 97, 110]⟩ : ByteArray).size = 8 := rfl; have k3 : (⟨#[117, 112, 115, 112, 97, 110]⟩ : ByteArray).size = 6 := rfl; have kn : (⟨#[]⟩ : ByteArray).size = 0 := rfl; simp only [szAll, strSz, RT.sz, List.length_cons, List.length_nil, List.map_cons, List.map_nil, List.sum_cons, List.sum_nil]; omega)) (fun p hp => Nat.le_trans (sz_take _ hp) (by have a := span_size us hus.1 hus.2; have c := span_size ds hds.1 hds.2; have kn : (⟨#[]⟩ : ByteArray).size = 0 := rfl; simp only [szAll, strSz, RT.sz, List.length_nil, List.map_nil, List.sum_nil]; omega)) (show 4 ≤ 1000000 by decide) _ (pacT_map u d us ds)
    exact h
  generalize pacT ⟨u, d, us, ds⟩ = T at *
  clear hu hd hus hds
  go_enter Tryz.func63, Tryz.ntmps63
  go_wp2_with fail
  have H2 := Lib.hid (Two.start w (.cells #[.int .i64 u, .int .i64 d, .int .i64 us, .int .i64 ds] 35) (.cells #[.int .i64 0, .int .i64 0, .string ⟨#[]⟩, .slice none 0 0, .slice none 0 0] 32))
  have x0 := cell_of H2.out.arg 0
  have x1 := cell_of H2.out.arg 1
  have x2 := cell_of H2.out.arg 2
  have x3 := cell_of H2.out.arg 3
  simp only [List.getElem?_toArray, List.getElem?_cons_zero, List.getElem?_cons_succ] at x0 x1 x2 x3
  go_region_held3 (fun w' => w'.cell? ⟨w.heap.size, 0, none⟩ = some (.int .i64 u) ∧ w'.cell? ⟨w.heap.size, 1, none⟩ = some (.int .i64 d) ∧ w'.cell? ⟨w.heap.size, 2, none⟩ = some (.int .i64 us) ∧ w'.cell? ⟨w.heap.size, 3, none⟩ = some (.int .i64 ds)) (go_keep)
    (first
      | (go_at_call 43; refine (spec_intOf _ _).mono ?_; rintro e w' ⟨rfl, hb⟩; (first | (replace H2 := Lib.hid (H2.out.next hb); (try replace HZ := Lib.hid (HZ.out.next hb))) | (replace H2 := Lib.hid (H2.out.next1 hb)) | (have HZ := Lib.hid (H2.out.lit hb (by simp)).2; replace H2 := Lib.hid (H2.out.lit hb (by simp)).1; (first | replace HZ := Lib.hid (HZ.out.mv (n := w.heap.size + 1 + 1) (by simp)) | skip)) | (have HZ := Lib.hid (H2.out.lit1 hb).2; replace H2 := Lib.hid (H2.out.lit1 hb).1; (first | replace HZ := Lib.hid (HZ.out.mv (n := w.heap.size + 1 + 1) (by simp)) | skip))); clear hb x0 x1 x2 x3; have x0 := cell_of H2.out.arg 0; have x1 := cell_of H2.out.arg 1; have x2 := cell_of H2.out.arg 2; have x3 := cell_of H2.out.arg 3; simp only [List.getElem?_toArray, List.getElem?_cons_zero, List.getElem?_cons_succ] at x0 x1 x2 x3)
      | (go_at_call 95; (first | (with_reducible refine (spec_spanText us HU.out.1 HU.out.2 _).mono ?_) | (with_reducible refine (spec_spanText ds HD.out.1 HD.out.2 _).mono ?_)); rintro e w' ⟨rfl, hb⟩; (first | (replace H2 := Lib.hid (H2.out.next hb); (try replace HZ := Lib.hid (HZ.out.next hb))) | (replace H2 := Lib.hid (H2.out.next1 hb)) | (have HZ := Lib.hid (H2.out.lit hb (by simp)).2; replace H2 := Lib.hid (H2.out.lit hb (by simp)).1; (first | replace HZ := Lib.hid (HZ.out.mv (n := w.heap.size + 1 + 1) (by simp)) | skip)) | (have HZ := Lib.hid (H2.out.lit1 hb).2; replace H2 := Lib.hid (H2.out.lit1 hb).1; (first | replace HZ := Lib.hid (HZ.out.mv (n := w.heap.size + 1 + 1) (by simp)) | skip))); clear hb x0 x1 x2 x3; have x0 := cell_of H2.out.arg 0; have x1 := cell_of H2.out.arg 1; have x2 := cell_of H2.out.arg 2; have x3 := cell_of H2.out.arg 3; simp only [List.getElem?_toArray, List.getElem?_cons_zero, List.getElem?_cons_succ] at x0 x1 x2 x3)
      | (go_at_call 45; refine (spec_textOf _ _).mono ?_; rintro e w' ⟨rfl, hb⟩; (first | (replace H2 := Lib.hid (H2.out.next hb); (try replace HZ := Lib.hid (HZ.out.next hb))) | (replace H2 := Lib.hid (H2.out.next1 hb)) | (have HZ := Lib.hid (H2.out.lit hb (by simp)).2; replace H2 := Lib.hid (H2.out.lit hb (by simp)).1; (first | replace HZ := Lib.hid (HZ.out.mv (n := w.heap.size + 1 + 1) (by simp)) | skip)) | (have HZ := Lib.hid (H2.out.lit1 hb).2; replace H2 := Lib.hid (H2.out.lit1 hb).1; (first | replace HZ := Lib.hid (HZ.out.mv (n := w.heap.size + 1 + 1) (by simp)) | skip))); clear hb x0 x1 x2 x3; have x0 := cell_of H2.out.arg 0; have x1 := cell_of H2.out.arg 1; have x2 := cell_of H2.out.arg 2; have x3 := cell_of H2.out.arg 3; simp only [List.getElem?_toArray, List.getElem?_cons_zero, List.getElem?_cons_succ] at x0 x1 x2 x3)
      | (go_at_call 59; refine (HM.out _ _ _ (by first | exact (HZ.out.lit1 (Below.refl _ _)).at_ | exact (H2.out.lits1 (Below.refl _ _)).2.1.at_ | exact (H2.out.lits1 (Below.refl _ _)).2.2.at_ | exact (HZ.out.lit (Below.refl _ _) (by simp [World.drew])).at_ | exact (H2.out.lits (Below.refl _ _) (by simp [World.drew])).2.1.at_ | exact (H2.out.lits (Below.refl _ _) (by simp [World.drew])).2.2.at_) (by first | exact (H2.out.lit1 (Below.refl _ _)).2.at_ | exact (H2.out.lits1 (Below.refl _ _)).2.2.at_ | exact (H2.out.lits1 (Below.refl _ _)).2.1.at_ | exact (H2.out.lit (Below.refl _ _) (by simp [World.drew])).2.at_ | exact (H2.out.lits (Below.refl _ _) (by simp [World.drew])).2.2.at_ | exact (H2.out.lits (Below.refl _ _) (by simp [World.drew])).2.1.at_)).mono ?_; rintro e w' ⟨kr, dr, G, rfl, hl, hf, hb⟩; obtain ⟨⟨o3, q3, rfl⟩, ⟨o4, q4, rfl⟩⟩ := hl.slices; have HL := Lib.hid (res_keep H2.out hl hf (by first | (simp; done) | (simp; omega))); clear hl hf; (first | (replace HZ := Lib.hid (HZ.out.lit1 hb); have HN := Lib.hid (H2.out.lit1 hb).2; replace H2 := Lib.hid (H2.out.lit1 hb).1) | (have HZ := Lib.hid (H2.out.lits1 hb).2.1; have HN := Lib.hid (H2.out.lits1 hb).2.2; replace H2 := Lib.hid (H2.out.lits1 hb).1; (first | (have h9 := HZ.out; have h8 : One w w' _ (.cells #[.string ⟨#[100, 111, 119, 110]⟩, .string ⟨#[117, 112]⟩, .string ⟨#[100, 111, 119, 110, 115, 112, 97, 110]⟩, .string ⟨#[117, 112, 115, 112, 97, 110]⟩] 9) := h9; clear h8 h9) | (have hq := HZ; replace HZ := HN; replace HN := hq; clear hq))) | (have HN := Lib.hid (H2.out.lit hb (by simp)).2; replace HZ := Lib.hid (HZ.out.lit hb (by simp)); replace H2 := Lib.hid (H2.out.lit hb (by simp)).1) | (have HZ := Lib.hid (H2.out.lits hb (by simp)).2.1; have HN := Lib.hid (H2.out.lits hb (by simp)).2.2; replace H2 := Lib.hid (H2.out.lits hb (by simp)).1; (first | (have h9 := HZ.out; have h8 : One w w' _ (.cells #[.string ⟨#[100, 111, 119, 110]⟩, .string ⟨#[117, 112]⟩, .string ⟨#[100, 111, 119, 110, 115, 112, 97, 110]⟩, .string ⟨#[117, 112, 115, 112, 97, 110]⟩] 9) := h9; clear h8 h9) | (have hq := HZ; replace HZ := HN; replace HN := hq; clear hq)))); clear hb x0 x1 x2 x3; have x0 := cell_of H2.out.arg 0; have x1 := cell_of H2.out.arg 1; have x2 := cell_of H2.out.arg 2; have x3 := cell_of H2.out.arg 3; simp only [List.getElem?_toArray, List.getElem?_cons_zero, List.getElem?_cons_succ] at x0 x1 x2 x3; obtain ⟨r0, r1, r2, r3, r4, r5⟩ := five H2.out.res))
  all_goals
    have HF := res_fin H2.out HL.out
    go_wp2
    exact bodyPost_ret (ret_node Tryz.results63 rfl HF.1) rfl ⟨_, _, _, rfl, HF.2.1, HF.2.2.1, HF.2.2.2⟩
end Go.Proofs.YtfmkhogpnnobeaaGreatDoor

/- the model's tree of a list of metrics: a list of their trees, in memory of its own; no condition but how long names are. -/
namespace Go.Proofs.YtfmkhogpnnobeaaGreatDoor
open Go Go.RowKit

/-- Where l7Metrics starts: the result's block and the list's. -/
def W2 (w : World) (k : Int) : World := (w.alloc (.cells #[.int .i64 0, .int .i64 0, .string ⟨#[]⟩, .slice none 0 0, .slice none 0 0] 32)).alloc (.cells #[.int .i64 k, .int .i64 0, .string ⟨#[]⟩, .slice none 0 0, .slice none 0 0] 32)

structure LN (w wr : World) (kids : List RT) (j : Nat) (v : Value) (KV DV : Nat → Value) (FF : Nat → List Nat) : Prop where
  res : wr.heap[w.heap.size]? = some (.cells #[.int .i64 0, .int .i64 0, .string ⟨#[]⟩, .slice none 0 0, .slice none 0 0] 32 (0, 0))
  out : wr.heap[w.heap.size + 1]? = some (.cells #[.int .i64 4, .int .i64 0, .string ⟨#[]⟩, .slice none 0 0, v] 32 (0, 0))
  laid : LaidApp 32 w (W2 w 4) wr kids j v KV DV FF

section
variable {w wr w1 w2 w3 : World} {kids : List RT} {j : Nat} {v : Value} {KV DV : Nat → Value} {FF : Nat → List Nat}

theorem w2_size (w : World) (k : Int) : (W2 w k).heap.size = w.heap.size + 2 := by simp [W2]

theorem LN.start (w : World) (kids : List RT) : LN w (W2 w 4) kids 0 (.slice none 0 0) (fun _ => .bool true) (fun _ => .bool true) (fun _ => []) := by
  obtain ⟨h1, h2, h3, h4⟩ := two_blk w (.cells #[.int .i64 0, .int .i64 0, .string ⟨#[]⟩, .slice none 0 0, .slice none 0 0] 32) (.cells #[.int .i64 4, .int .i64 0, .string ⟨#[]⟩, .slice none 0 0, .slice none 0 0] 32)
  exact ⟨h1, h2, LaidApp.start _ kids h4 (Nat.le_refl _) h4.size⟩

theorem LN.step (h : LN w wr kids j v KV DV FF) (hj : j < kids.length) (hb1 : Below wr.heap.size wr w1) {kvx dvx : Value} {F : List Nat} (hl : Lies w1 kids[j] kvx dvx F) (hf : Fresh wr w1 F) (hb2 : Below w1.heap.size w1 w2)
    {g cap : Nat} (hgrow : w2.grownBy w3 v.ownBlock) (hown : w3.ownsRow (W2 w 4).heap.size 32 5 (.slice (some ⟨g, 0, none⟩) (j + 1) cap) (j + 1) (rowsOf kids KV DV j ++ kids[j].row kvx dvx)) (hat : v.ownBlock = some g ∨ g = w2.heap.size) :
    LN w (w3.setCell ⟨w.heap.size + 1, 4, none⟩ (.slice (some ⟨g, 0, none⟩) (j + 1) cap)) kids (j + 1) (.slice (some ⟨g, 0, none⟩) (j + 1) cap) (fun i => if i = j then kvx else KV i) (fun i => if i = j then dvx else DV i) (fun i => if i = j then F else FF i) := by
  have hbw := hb1.trans (hb2.mono hb1.size)
  have hwc := h.laid.size
  have hsz := w2_size w 4
  have keep : ∀ x, x < w.heap.size + 2 → w3.heap[x]? = wr.heap[x]? := fun x hx => by
    rw [hgrow.block x (by have := hbw.size; omega) (fun e => by have := (h.laid.ownlt x e.symm).1; omega), hbw.block x (by omega)]
  have hl3 := h.laid.step hj hb1 hl hf hb2 hgrow hown hat
  refine ⟨?_, heap_set ((keep _ (by omega)).trans h.out) 4 _, hl3.set (by rw [hsz]; show w.heap.size + 1 < _; omega) (by show _ ≤ w.heap.size + 1; omega) _⟩
  rw [Below.heap_setCell _ _ _ _ (by show _ ≠ w.heap.size + 1; omega), keep _ (by omega)]; exact h.res

theorem LN.done (h : LN w wr kids kids.length v KV DV FF) :
    ∃ F, (set5 wr w.heap.size 0 (.int .i64 4) (.int .i64 0) (.string ⟨#[]⟩) (.slice none 0 0) v).heap[w.heap.size]? = some (.cells #[.int .i64 4, .int .i64 0, .string ⟨#[]⟩, .slice none 0 0, v] 32 (0, 0)) ∧
    Lies (set5 wr w.heap.size 0 (.int .i64 4) (.int .i64 0) (.string ⟨#[]⟩) (.slice none 0 0) v) (.node 4 0 ⟨#[]⟩ [] kids) (.slice none 0 0) v F ∧ Fresh w (set5 wr w.heap.size 0 (.int .i64 4) (.int .i64 0) (.string ⟨#[]⟩) (.slice none 0 0) v) F ∧
    Below w.heap.size w (set5 wr w.heap.size 0 (.int .i64 4) (.int .i64 0) (.string ⟨#[]⟩) (.slice none 0 0) v) := by
  obtain ⟨F, hD, hf, -⟩ := h.laid.done
  have hsz := w2_size w 4
  have keep : ∀ x ∈ F, (set5 wr w.heap.size 0 (.int .i64 4) (.int .i64 0) (.string ⟨#[]⟩) (.slice none 0 0) v).heap[x]? = wr.heap[x]? := fun x hx => set5_other _ _ _ _ _ _ _ _ _ (by have := hf.old x hx; omega)
  have hL := Lies.into (k := 4) (n := 0) (s := ⟨#[]⟩) (FK := []) ⟨by decide, by decide⟩ ⟨by decide, by decide⟩ (by decide) (strs_nil wr none) hD
  exact ⟨[] ++ F, set5_end h.res _ _ _ _ _, hL.carry (by simpa using keep), (hf.carry (by simpa using keep)).earlier (by omega), set5_below h.laid.below (Nat.le_refl _) _ _ _ _ _ _⟩
end

set_option maxRecDepth 100000 in
set_option maxHeartbeats 3200000 in
theorem spec_l7Metrics {mv : Value} {xs : List Met} {F : List Nat} (w : World) (hs : MetsAt w mv xs F) (h1 : xs.length ≤ 1000000) (hn : ∀ m ∈ xs, m.name.size ≤ 1048576) :
    Calls Tryz.prog 24 #[mv] w fun e w' => ∃ dv G, e = .returned (.agg #[.int .i64 4, .int .i64 0, .string ⟨#[]⟩, .slice none 0 0, dv]) ∧ Lies w' (metsT xs) (.slice none 0 0) dv G ∧ Fresh w w' G ∧ Below w.heap.size w w' := by
  have HOK := Lib.hid (RowAt.every hs)
  have HNm := Lib.hid hn
  obtain ⟨o, cap, b, off, rfl, hlc, hcm, ho, -, hcell, -⟩ := hs
  have HC := Lib.hid hcell
  have HO := Lib.hid ho
  have HM := Lib.hid (LN.start w (xs.map metT))
  have HLn : Hid ((xs.map metT).length = xs.length) := List.length_map _
  clear hcell ho hn
  obtain ⟨j0, hj0, hy0, hy1, hy2⟩ := info_parts info_node
  go_enter Tryz.func24, Tryz.ntmps24
  go_wp2
  go_loopw [4] (fun i wr => ∃ (j : Nat) (v : Value) (KV' DV' : Nat → Value) (FF' : Nat → List Nat), j ≤ xs.length ∧ i = .int .i64 j ∧ Hid (LN w wr (xs.map metT) j v KV' DV' FF')) (fun i _ => xs.length - (intOf i).toNat)
  case atStart => exact ⟨0, _, _, _, _, Nat.zero_le _, rfl, HM.out⟩
  case round =>
    obtain ⟨j, v, KV', DV', FF', hj, rfl, hr⟩ := hrel
    obtain ⟨ov, cv, hvs⟩ := hr.out.laid.slice
    by_cases hlt : j < xs.length
    · have ho := HO.out (by omega)
      subst ho
      have hjk : j < (xs.map metT).length := by have := HLn.out; omega
      obtain ⟨y0, y1, y2, y3, y4, y5⟩ := five hr.out.out
      have hbel := hr.out.laid.below
      have c0 : wr.cell? ⟨b, off + j * 3, none⟩ = some (.string xs[j].name) := by
        have := (HC.out j hlt).2 0 (by decide)
        rw [hbel.cell (by exact World.block_lt_of_cell? _ _ this)]; exact this
      have c1 : wr.cell? ⟨b, off + j * 3 + 1, none⟩ = some (.int .i64 xs[j].kind) := by
        have := (HC.out j hlt).2 1 (by decide)
        rw [hbel.cell (by exact World.block_lt_of_cell? _ _ this)]; exact this
      have c2 : wr.cell? ⟨b, off + j * 3 + 2, none⟩ = some (.int .i64 xs[j].goal) := by
        have := (HC.out j hlt).2 2 (by decide)
        rw [hbel.cell (by exact World.block_lt_of_cell? _ _ this)]; exact this
      have hok := HOK.out _ (List.getElem_mem hlt)
      have HI : Hid (∀ w1 : World, Calls Tryz.prog 60 #[.agg #[.string xs[j].name, .int .i64 xs[j].kind, .int .i64 xs[j].goal]] w1 fun e w' => ∃ u, e = .returned u ∧ ∃ kv' dv' F', u = .agg #[.int .i64 (metT xs[j]).k, .int .i64 (metT xs[j]).n, .string (metT xs[j]).s, kv', dv'] ∧ Lies w' (metT xs[j]) kv' dv' F' ∧ Fresh w1 w' F' ∧ Below w1.heap.size w1 w') := fun w1 => by
        refine (spec_metricTree xs[j].name xs[j].kind xs[j].goal hok.1 hok.2.1 hok.2.2 (HNm.out _ (List.getElem_mem hlt)) w1).mono ?_
        rintro e w' ⟨kv', dv', F', rfl, g1, g2, g3⟩
        exact ⟨_, rfl, kv', dv', F', rfl, g1, g2, g3⟩
      have HS := Lib.hid fun (w1 w2 w3 : World) (kvx dvx : Value) (F : List Nat) (g cap : Nat) => hr.out.step (w1 := w1) (w2 := w2) (w3 := w3) (kvx := kvx) (dvx := dvx) (F := F) (g := g) (cap := cap) hjk
      have HBl : Hid (b < wr.heap.size ∧ w.heap.size + 1 < wr.heap.size ∧ w.heap.size + 2 ≤ wr.heap.size) := ⟨World.block_lt_of_cell? _ _ c0, World.block_lt_of_cell? _ _ y4, by have := hr.out.laid.size; have := w2_size w 4; omega⟩
      have HW2 := Lib.hid (w2_size w 4)
      have hi0 : (0 : Int) ≤ (j : Int) := by omega
      have hi1 : (j : Int) < (xs.length : Int) := by omega
      have e1 : (xs.map metT)[j] = metT xs[j] := List.getElem_map _
      rw [e1] at HS
      generalize hxe : metT xs[j] = T at *
      have HXe := Lib.hid hxe
      generalize xs[j] = x at *
      clear hxe hok e1 hbel
      subst hvs
      clear y0 y1 y2 y3
      go_wp2
      go_region_law (first
        | (refine step_calls (by rfl) 60 _ _ (by rfl) #[.agg #[.string x.name, .int .i64 x.kind, .int .i64 x.goal]] (by simp [Act.eval]) (by intros; simp [go_sem]) (fun _ _ => rfl) (HI.out _) ?_
           rintro u w1 ⟨kv1, dv1, F1, rfl, hl1, hf1, hb1⟩
           obtain ⟨⟨o3, q3, rfl⟩, ⟨o4, q4, rfl⟩⟩ := hl1.slices
           have hb01 := (below_drewN (Below.refl wr.heap.size wr) 1).trans (hb1.mono (Nat.le_refl _))
           have m1 : w1.cell? ⟨w.heap.size + 1, 4, none⟩ = _ := (hb01.cell (by exact HBl.out.2.1)).trans y4
           have m2 : ∀ ob, (w1.alloc ob).cell? ⟨w.heap.size + 1, 4, none⟩ = _ := fun ob => (World.cell?_alloc_lt w1 ob ⟨w.heap.size + 1, 4, none⟩ (Nat.lt_of_lt_of_le HBl.out.2.1 hb01.size)).trans m1
           have H1 := Lib.hid (And.intro hb01 (And.intro hl1 (hf1.earlier (w := wr) (Nat.le_refl _))))
           clear hl1 hf1 hb1 hb01)
        | (refine step_append_lies _ (by rfl) _ _ _ (by rfl) (W2 w 4).heap.size 32 j0 _ 5 80 Tryz.underlying30 hj0 hy0 hy1 hy2 rfl (by decide) (.slice ov j cv) j (rowsOf (xs.map metT) KV' DV' j) (by rfl) (owns_below (owns_below hr.out.laid.own H1.out.1) ((Below.refl _ w1).alloc (Nat.le_refl _) _)) ⟨w1.heap.size, 0, none⟩ 1 1 [.int .i64 T.k, .int .i64 T.n, .string T.s, .slice o3 T.keys.length q3, .slice o4 T.kids.length q4] (by rfl) (by rfl) (World.news_of_block (cs := #[.int .i64 T.k, .int .i64 T.n, .string T.s, .slice o3 T.keys.length q3, .slice o4 T.kids.length q4]) (t := 32) (fr := (0, 0)) (heap_last w1 _)) (by simp [Value.oneCell']) (by omega) (by unfold maxLen; omega) (by omega) (by have := hr.out.laid.size; have := H1.out.1.size; simp; omega) _ rfl ?_
           intro g cap' w3 hown3 hgrow3 hat3 hlt3
           have hx3 := HS.out w1 _ w3 _ _ _ g cap' H1.out.1 H1.out.2.1 H1.out.2.2 ((Below.refl _ w1).alloc (Nat.le_refl _) _) hgrow3 hown3 hat3
           have hBf := hgrow3.block (w.heap.size + 1) (by have := H1.out.1.size; have := HBl.out.2.1; simp; omega) (fun e => by have := (hr.out.laid.ownlt (w.heap.size + 1) e.symm).1; have := HW2.out; omega)
           have k1 : w3.cell? ⟨w.heap.size + 1, 4, none⟩ = _ := (World.cell?_of_block (a := ⟨w.heap.size + 1, 4, none⟩) hBf).trans (m2 _)
           have k2 : w3.frozen? ⟨w.heap.size + 1, 4, none⟩ = false := (World.frozen?_of_block (a := ⟨w.heap.size + 1, 4, none⟩) hBf).trans (by rw [((Below.refl _ w1).alloc (Nat.le_refl _) _).frozen (by have := H1.out.1.size; have := HBl.out.2.1; show w.heap.size + 1 < _; omega), H1.out.1.frozen (by exact HBl.out.2.1)]; exact y5 4)
           have H3 := Lib.hid hx3
           clear hown3 hgrow3 hat3 hlt3 hx3 hBf)
        | fail)
      all_goals go_wp2
      all_goals exact ⟨⟨j + 1, _, _, _, _, by omega, by go_num, H3.out⟩, by simp [intOf]; omega⟩
    · have e : j = xs.length := by omega
      subst e
      have hr' := hr.out
      rw [← HLn.out] at hr'
      have HD := Lib.hid hr'.done
      clear hr'
      subst hvs
      obtain ⟨y0, y1, y2, y3, y4, -⟩ := five hr.out.out
      obtain ⟨z0, z1, z2, z3, z4, z5⟩ := five hr.out.res
      go_wp2
      obtain ⟨F', hfin⟩ := HD.out
      exact bodyPost_ret (ret_node Tryz.results24 rfl hfin.1) rfl ⟨_, _, rfl, hfin.2⟩
end Go.Proofs.YtfmkhogpnnobeaaGreatDoor

/- plain facts on Keys that ascend: one that stands behind others is above them all, so it is not among them, and it comes to stand at their end. -/
namespace Go.Proofs.YtfmkhogpnnobeaaGreatDoor
open Go Go.RowKit

theorem lessR_trans {a b c : List UInt8} (h1 : Op.bytesLess a b = true) (h2 : Op.bytesLess b c = true) : Op.bytesLess a c = true := by
  rw [Go.Proofs.bytesLess_eq] at *
  simp only [decide_eq_true_eq] at *
  exact List.lt_trans h1 h2
theorem lessR_irrefl (l : List UInt8) : Op.bytesLess l l = false := by
  rw [Go.Proofs.bytesLess_eq]; simp

theorem keysOk_out {ks : List ByteArray} (h : keysOk ks = true) : ∀ i (hi : i < ks.length), KeyAt ks i hi := @of_decide_eq_true _ (Classical.propDecidable _) h

theorem keys_less {ks : List ByteArray} (h : keysOk ks = true) : ∀ (j i : Nat) (hi : i < ks.length) (hj : j < ks.length), i < j → Op.bytesLess ks[i].toList ks[j].toList = true := by
  intro j
  induction j with
  | zero => intro i hi hj hlt; omega
  | succ j ih =>
    intro i hi hj hlt
    have h1 := (keysOk_out h (j + 1) hj).2 (by omega)
    have e : j + 1 - 1 = j := by omega
    simp only [e] at h1
    rcases Nat.lt_or_ge i j with h2 | h2
    · exact lessR_trans (ih i hi (by omega) h2) h1
    · obtain rfl : i = j := by omega
      exact h1

/-- A Key that stands behind others. -/
theorem keys_behind {dk rk : List ByteArray} {key : ByteArray} (h : keysOk (dk ++ key :: rk) = true) : Absent dk key ∧ placeN dk key = dk.length ∧ textOk key = true ∧ key ∉ dk := by
  have hk : (dk ++ key :: rk)[dk.length]'(by simp) = key := by simp
  have hless : ∀ j (hj : j < dk.length), Op.bytesLess dk[j].toList key.toList = true := fun j hj => by
    have := keys_less h dk.length j (by simp; omega) (by simp) hj
    rw [hk] at this
    rwa [List.getElem_append_left hj] at this
  have hab : Absent dk key := fun j hj e => by
    have := hless j hj
    rw [e, lessR_irrefl] at this
    cases this
  refine ⟨hab, place_unique (Nat.le_refl _) (fun j hj _ => hless j hj) (fun hl => absurd hl (by omega)), ?_, fun hm => ?_⟩
  · have := (keysOk_out h dk.length (by simp)).1
    rwa [hk] at this
  · obtain ⟨j, hj, e⟩ := List.getElem_of_mem hm
    exact hab j hj e
end Go.Proofs.YtfmkhogpnnobeaaGreatDoor

/- plain facts on Keys that ascend: set one behind the other they stand as they were. -/
namespace Go.Proofs.YtfmkhogpnnobeaaGreatDoor
open Go Go.RowKit

def AscK (ks : List ByteArray) : Prop := ∀ i (h : i < ks.length), 0 < i → Op.bytesLess ks[i - 1].toList ks[i].toList = true

theorem asck_less {ks : List ByteArray} (h : AscK ks) : ∀ (j i : Nat) (hi : i < ks.length) (hj : j < ks.length), i < j → Op.bytesLess ks[i].toList ks[j].toList = true := by
  intro j
  induction j with
  | zero => intro i hi hj hlt; omega
  | succ j ih =>
    intro i hi hj hlt
    have h1 := h (j + 1) hj (by omega)
    have e : j + 1 - 1 = j := by omega
    simp only [e] at h1
    rcases Nat.lt_or_ge i j with h2 | h2
    · exact lessR_trans (ih i hi (by omega) h2) h1
    · obtain rfl : i = j := by omega
      exact h1

theorem asck_behind {ks : List ByteArray} (h : AscK ks) (j : Nat) (hj : j < ks.length) : firstN (ks.take j) ks[j] = (ks.take j).length ∧ placeN (ks.take j) ks[j] = (ks.take j).length := by
  have hless : ∀ i (hi : i < (ks.take j).length), Op.bytesLess (ks.take j)[i].toList ks[j].toList = true := fun i hi => by
    have hij : i < j := by rw [List.length_take] at hi; omega
    rw [List.getElem_take]
    exact asck_less h j i (by omega) hj hij
  have hab : Absent (ks.take j) ks[j] := fun i hi e => by
    have := hless i hi
    rw [e, lessR_irrefl] at this
    cases this
  exact ⟨first_none hab, place_unique (Nat.le_refl _) (fun i hi _ => hless i hi) (fun hl => absurd hl (by omega))⟩

theorem insAt_end {α : Type} (l : List α) (x : α) {p : Nat} (hp : p = l.length) : insAt l p x = l ++ [x] := by
  subst hp
  simp [insAt]

theorem mapN_asc (ks : List ByteArray) (ds : List RT) (hlen : ks.length = ds.length) (h : AscK ks) : ∀ j, j ≤ ks.length → mapN ks ds j = .node 5 0 ⟨#[]⟩ (ks.take j) (ds.take j)
  | 0, _ => rfl
  | j + 1, hj => by
    have ih := mapN_asc ks ds hlen h j (by omega)
    obtain ⟨h1, h2⟩ := asck_behind h j (by omega)
    have hl : (ks.take j).length = (ds.take j).length := by rw [List.length_take, List.length_take]; omega
    rw [mapN_succ ks ds (by omega) (by omega), ih, setT_new hl h1 h2, insAt_end _ _ rfl, insAt_end _ _ hl, List.take_succ_eq_append_getElem (by omega : j < ks.length), List.take_succ_eq_append_getElem (by omega : j < ds.length)]
end Go.Proofs.YtfmkhogpnnobeaaGreatDoor

/- the model's tree of a list of notes whose Keys ascend: a map of their Texts, in memory of its own; no condition but how long they are. -/
namespace Go.Proofs.YtfmkhogpnnobeaaGreatDoor
open Go Go.RowKit

set_option maxRecDepth 100000 in
set_option maxHeartbeats 8000000 in
theorem spec_l7Notes {nv : Value} {xs : List Not} {F : List Nat} (w : World) (hs : NotsAt w nv xs F) (h1 : xs.length ≤ 1000000) (ha : AscK (xs.map (·.key))) (hz : szAll (xs.map noteK) + strSz (xs.map (·.key)) + 2 * xs.length ≤ 1000000) :
    Calls Tryz.prog 61 #[nv] w fun e w' => ∃ kv dv G, e = .returned (.agg #[.int .i64 (notesT xs).k, .int .i64 (notesT xs).n, .string (notesT xs).s, kv, dv]) ∧ Lies w' (notesT xs) kv dv G ∧ Fresh w w' G ∧ Below w.heap.size w w' := by
  have HOK := Lib.hid (RowAt.every hs)
  obtain ⟨o, cap, b, off, rfl, hlc, hcm, ho, -, hcell, -⟩ := hs
  have HC := Lib.hid hcell
  have HO := Lib.hid ho
  have HM := Lib.hid (LM.start w 5 ⟨by decide, by decide⟩)
  have HLn : Hid ((xs.map (·.key)).length = xs.length ∧ (xs.map noteK).length = xs.length) := ⟨List.length_map _, List.length_map _⟩
  have HZ : Hid (∀ j ≤ xs.length, (mapN (xs.map (·.key)) (xs.map noteK) j).sz ≤ 4000000) := fun j hj => by
    have := mapN_le (xs.map (·.key)) (xs.map noteK) (by rw [HLn.out.1, HLn.out.2]) (j := j) (by rw [HLn.out.1]; exact hj)
    rw [HLn.out.1] at this
    omega
  have HE : Hid (mapN (xs.map (·.key)) (xs.map noteK) xs.length = notesT xs) := by
    have := mapN_asc (xs.map (·.key)) (xs.map noteK) (by rw [HLn.out.1, HLn.out.2]) ha xs.length (by rw [HLn.out.1]; exact Nat.le_refl _)
    rw [List.take_of_length_le (by rw [HLn.out.1]; exact Nat.le_refl _), List.take_of_length_le (by rw [HLn.out.2]; exact Nat.le_refl _)] at this
    exact this
  have HX : Hid (∀ n ∈ xs, (noteK n).sz ≤ 4000000) := fun n hn => by
    have := sz_take (xs.map noteK) (List.mem_map_of_mem (f := noteK) hn)
    omega
  clear hcell ho ha hz
  go_enter Tryz.func61, Tryz.ntmps61
  go_wp2
  go_loopw [4] (fun i wr => ∃ (j : Nat) (kv dv : Value) (F : List Nat), j ≤ xs.length ∧ i = .int .i64 j ∧ Hid (LM w wr (mapN (xs.map (·.key)) (xs.map noteK) j) kv dv F)) (fun i _ => xs.length - (intOf i).toNat)
  case atStart => exact ⟨0, _, _, _, Nat.zero_le _, rfl, HM.out⟩
  case round =>
    obtain ⟨j, kv, dv, F, hj, rfl, hr⟩ := hrel
    obtain ⟨⟨o3, q3, rfl⟩, ⟨o4, q4, rfl⟩⟩ := hr.out.lie.slices
    by_cases hlt : j < xs.length
    · have ho := HO.out (by omega)
      subst ho
      obtain ⟨y0, y1, y2, y3, y4, -⟩ := five hr.out.out
      have hbel := hr.out.below
      have c0 : wr.cell? ⟨b, off + j * 2, none⟩ = some (.string xs[j].key) := by
        have := (HC.out j hlt).2 0 (by decide)
        rw [hbel.cell (by exact World.block_lt_of_cell? _ _ this)]; exact this
      have c1 : wr.cell? ⟨b, off + j * 2 + 1, none⟩ = some (.string xs[j].text) := by
        have := (HC.out j hlt).2 1 (by decide)
        rw [hbel.cell (by exact World.block_lt_of_cell? _ _ this)]; exact this
      have hset : setT (mapN (xs.map (·.key)) (xs.map noteK) j) xs[j].key (noteK xs[j]) = mapN (xs.map (·.key)) (xs.map noteK) (j + 1) := by
        rw [mapN_succ _ _ (by rw [HLn.out.1]; exact hlt) (by rw [HLn.out.2]; exact hlt), List.getElem_map, List.getElem_map]
      have hzj := HZ.out j (by omega)
      have hxj := HX.out _ (List.getElem_mem hlt)
      have hokj := HOK.out _ (List.getElem_mem hlt)
      have hi0 : (0 : Int) ≤ (j : Int) := by omega
      have hi1 : (j : Int) < (xs.length : Int) := by omega
      have hla : Hid (w.heap.size + 1 < wr.heap.size) := hr.out.lt
      clear hbel
      generalize xs[j] = x at *
      obtain ⟨T, hT⟩ : ∃ T, mapN (xs.map (·.key)) (xs.map noteK) j = T := ⟨_, rfl⟩
      obtain ⟨R1, hR1⟩ : ∃ R, mapN (xs.map (·.key)) (xs.map noteK) (j + 1) = R := ⟨_, rfl⟩
      rw [hT] at hr y0 y1 y2 y3 y4 hset hzj
      rw [hR1] at hset
      have HRe := Lib.hid hR1
      clear hT hR1
      have hnk : noteK x = .node 3 0 x.text [] [] := rfl
      rw [hnk] at hset hxj
      have HSt : Hid (∀ W, Below wr.heap.size wr W → Calls Tryz.prog 22 #[.agg #[.int .i64 T.k, .int .i64 T.n, .string T.s, .slice o3 T.keys.length q3, .slice o4 T.kids.length q4], .string x.key, .agg #[.int .i64 3, .int .i64 0, .string x.text, .slice none 0 0, .slice none 0 0]] W fun e w' => ∃ v, e = .returned v ∧ ∃ kr dr G, v = .agg #[.int .i64 R1.k, .int .i64 R1.n, .string R1.s, kr, dr] ∧ Lies w' R1 kr dr G ∧ Fresh W w' G ∧ Below W.heap.size W w') := fun W hW => by
        have hq := spec_set T (.node 3 0 x.text [] []) x.key W _ _ _ _ _ _ (hr.out.lie.stay hW (Nat.le_refl _)) (leaf_lies W ⟨by decide, by decide⟩ ⟨by decide, by decide⟩ hokj.2) hzj hxj hokj.1
        rw [hset] at hq
        refine hq.mono ?_
        rintro e w' ⟨kr, dr, G, rfl, g1, g2, g3⟩
        exact ⟨_, rfl, kr, dr, G, rfl, g1, g2, g3⟩
      clear hset hzj hxj hokj hnk
      have HTx : Hid (∀ W, Calls Tryz.prog 45 #[.string x.text] W fun e w' => ∃ u, e = .returned u ∧ (u = .agg #[.int .i64 3, .int .i64 0, .string x.text, .slice none 0 0, .slice none 0 0] ∧ Below W.heap.size W w')) := fun W => by
        refine (spec_textOf x.text W).mono ?_
        rintro e w' ⟨rfl, h⟩
        exact ⟨_, rfl, rfl, h⟩
      go_wp2
      have HB := Lib.hid (below_drewN (Below.refl wr.heap.size wr) 1)
      go_region_law (first
        | (refine step_calls (by rfl) 45 _ _ (by rfl) #[.string x.text] (by simp [Act.eval]) (by intros; simp [go_sem]) (fun _ _ => rfl) (HTx.out _) ?_
           rintro u w5 ⟨rfl, hb5⟩
           replace HB := Lib.hid (HB.out.trans (hb5.mono (Nat.le_refl _)))
           clear y0 y1 y2 y3 y4
           obtain ⟨y0, y1, y2, y3, y4, -⟩ := five (hr.out.next HB.out).out
           have c0 := (HB.out.cell (by exact World.block_lt_of_cell? _ _ c0)).trans c0
           have c1 := (HB.out.cell (by exact World.block_lt_of_cell? _ _ c1)).trans c1
           clear hb5)
        | (refine step_calls (by rfl) 22 _ _ (by rfl) #[.agg #[.int .i64 T.k, .int .i64 T.n, .string T.s, .slice o3 T.keys.length q3, .slice o4 T.kids.length q4], .string x.key, .agg #[.int .i64 3, .int .i64 0, .string x.text, .slice none 0 0, .slice none 0 0]] (by simp [Act.eval]) (by intros; simp [go_sem]) (fun _ _ => rfl) (HSt.out _ HB.out) ?_
           rintro u w6 ⟨kr, dr, G, rfl, hl6, hf6, hb6⟩
           obtain ⟨⟨o5, q5, rfl⟩, ⟨o6, q6, rfl⟩⟩ := hl6.slices
           have hb06 := HB.out.trans (hb6.mono HB.out.size)
           obtain ⟨m0, m1, m2, m3, m4, m5⟩ := five (hr.out.next hb06).out
           have H7 := Lib.hid (hr.out.put hb06 hl6 (hf6.earlier (w := wr) HB.out.size))
           clear hl6 hf6 hb6 hb06)
        | fail)
      all_goals
        go_wp2
        go_roundw
        case rel => exact ⟨j + 1, _, _, G, by omega, by go_num, by rw [HRe.out]; exact H7.out⟩
        case measure => simp [intOf]; omega
    · have e : j = xs.length := by omega
      subst e
      have hr := hr.out
      rw [HE.out] at hr
      have hr := Lib.hid hr
      have HD := Lib.hid hr.out.fin
      obtain ⟨y0, y1, y2, y3, y4, -⟩ := five hr.out.out
      obtain ⟨z0, z1, z2, z3, z4, z5⟩ := five hr.out.res
      go_wp2
      exact bodyPost_ret (ret_node Tryz.results61 rfl HD.out.1) rfl ⟨_, _, _, rfl, HD.out.2.1, HD.out.2.2.1, HD.out.2.2.2⟩
end Go.Proofs.YtfmkhogpnnobeaaGreatDoor
