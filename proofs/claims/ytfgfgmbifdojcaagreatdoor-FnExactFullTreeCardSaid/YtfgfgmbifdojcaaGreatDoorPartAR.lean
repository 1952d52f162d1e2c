/-
  What is proved: the model's l7Head of an order: what all shapes have, in memory of its own; no condition but how long names are.; plain facts on orders that are right: how great their trees are; the full shape is what the model sets, one Key behind the other.
-/
import Derived.Test.YtfgfgmbifdojcaaGreatDoorPartAF
import Derived.Test.YtfgfgmbifdojcaaGreatDoorPartAP
import Derived.Test.YtfgfgmbifdojcaaGreatDoorPartAD
import Derived.Test.YtfgfgmbifdojcaaGreatDoorPartAQ
import Derived.Test.YtfgfgmbifdojcaaGreatDoorPartAK
/- the model's l7Head of an order: what all shapes have, in memory of its own; no condition but how long names are. -/
namespace Go.Proofs.YtfgfgmbifdojcaaGreatDoor
open Go Go.RowKit

/-- What all shapes have. -/
def headT (kd : ByteArray) (O : Ord) : RT := .node 5 0 ⟨#[]⟩ [⟨#[104, 105, 103, 104]⟩, ⟨#[107, 105, 110, 100]⟩, ⟨#[108, 111, 119]⟩, ⟨#[110, 97, 109, 101]⟩, ⟨#[116, 97, 114, 103, 101, 116]⟩] [.node 2 O.high ⟨#[]⟩ [] [], .node 3 0 kd [] [], .node 2 O.low ⟨#[]⟩ [] [], .node 3 0 O.name [] [], .node 3 0 O.target [] []]
theorem headT_leaves (kd : ByteArray) (O : Ord) (h1 : O.name.size ≤ 20) (h2 : O.target.size ≤ 20) (h3 : kd.size ≤ 20) (h4 : Fit O.low) (h5 : Fit O.high) : ∀ t ∈ (headT kd O).kids, LeafK t := by
  intro t ht
  have hm : 20 ≤ maxLen := by decide
  simp only [headT, RT.kids, List.mem_cons, List.not_mem_nil, or_false] at ht
  rcases ht with rfl | rfl | rfl | rfl | rfl
  · exact leafK _ _ _ ⟨by decide, by decide⟩ h5 (by decide)
  · exact leafK _ _ _ ⟨by decide, by decide⟩ ⟨by decide, by decide⟩ (by omega)
  · exact leafK _ _ _ ⟨by decide, by decide⟩ h4 (by decide)
  · exact leafK _ _ _ ⟨by decide, by decide⟩ ⟨by decide, by decide⟩ (by omega)
  · exact leafK _ _ _ ⟨by decide, by decide⟩ ⟨by decide, by decide⟩ (by omega)
theorem headT_keys (kd : ByteArray) (O : Ord) : ∀ k ∈ (headT kd O).keys, k.size ≤ maxLen := by
  intro t ht
  simp only [headT, RT.keys, List.mem_cons, List.not_mem_nil, or_false] at ht
  rcases ht with rfl | rfl | rfl | rfl | rfl <;> decide

theorem headT_map (kd : ByteArray) (O : Ord) : mapN [⟨#[107, 105, 110, 100]⟩, ⟨#[110, 97, 109, 101]⟩, ⟨#[116, 97, 114, 103, 101, 116]⟩, ⟨#[108, 111, 119]⟩, ⟨#[104, 105, 103, 104]⟩] [.node 3 0 kd [] [], .node 3 0 O.name [] [], .node 3 0 O.target [] [], .node 2 O.low ⟨#[]⟩ [] [], .node 2 O.high ⟨#[]⟩ [] []] 5 = headT kd O := by
  show (setT (setT (setT (setT (setT (.node 5 0 ⟨#[]⟩ [] []) ⟨#[107, 105, 110, 100]⟩ (.node 3 0 kd [] [])) ⟨#[110, 97, 109, 101]⟩ (.node 3 0 O.name [] [])) ⟨#[116, 97, 114, 103, 101, 116]⟩ (.node 3 0 O.target [] [])) ⟨#[108, 111, 119]⟩ (.node 2 O.low ⟨#[]⟩ [] [])) ⟨#[104, 105, 103, 104]⟩ (.node 2 O.high ⟨#[]⟩ [] [])) = _
  rw [setT_new (by rfl) (show firstN [] ⟨#[107, 105, 110, 100]⟩ = 0 by decide +kernel) (show placeN [] ⟨#[107, 105, 110, 100]⟩ = 0 by decide +kernel)]
  show (setT (setT (setT (setT (.node 5 0 ⟨#[]⟩ [⟨#[107, 105, 110, 100]⟩] [.node 3 0 kd [] []]) ⟨#[110, 97, 109, 101]⟩ (.node 3 0 O.name [] [])) ⟨#[116, 97, 114, 103, 101, 116]⟩ (.node 3 0 O.target [] [])) ⟨#[108, 111, 119]⟩ (.node 2 O.low ⟨#[]⟩ [] [])) ⟨#[104, 105, 103, 104]⟩ (.node 2 O.high ⟨#[]⟩ [] [])) = _
  rw [setT_new (by rfl) (show firstN [⟨#[107, 105, 110, 100]⟩] ⟨#[110, 97, 109, 101]⟩ = 1 by decide +kernel) (show placeN [⟨#[107, 105, 110, 100]⟩] ⟨#[110, 97, 109, 101]⟩ = 1 by decide +kernel)]
  show (setT (setT (setT (.node 5 0 ⟨#[]⟩ [⟨#[107, 105, 110, 100]⟩, ⟨#[110, 97, 109, 101]⟩] [.node 3 0 kd [] [], .node 3 0 O.name [] []]) ⟨#[116, 97, 114, 103, 101, 116]⟩ (.node 3 0 O.target [] [])) ⟨#[108, 111, 119]⟩ (.node 2 O.low ⟨#[]⟩ [] [])) ⟨#[104, 105, 103, 104]⟩ (.node 2 O.high ⟨#[]⟩ [] [])) = _
  rw [setT_new (by rfl) (show firstN [⟨#[107, 105, 110, 100]⟩, ⟨#[110, 97, 109, 101]⟩] ⟨#[116, 97, 114, 103, 101, 116]⟩ = 2 by decide +kernel) (show placeN [⟨#[107, 105, 110, 100]⟩, ⟨#[110, 97, 109, 101]⟩] ⟨#[116, 97, 114, 103, 101, 116]⟩ = 2 by decide +kernel)]
  show (setT (setT (.node 5 0 ⟨#[]⟩ [⟨#[107, 105, 110, 100]⟩, ⟨#[110, 97, 109, 101]⟩, ⟨#[116, 97, 114, 103, 101, 116]⟩] [.node 3 0 kd [] [], .node 3 0 O.name [] [], .node 3 0 O.target [] []]) ⟨#[108, 111, 119]⟩ (.node 2 O.low ⟨#[]⟩ [] [])) ⟨#[104, 105, 103, 104]⟩ (.node 2 O.high ⟨#[]⟩ [] [])) = _
  rw [setT_new (by rfl) (show firstN [⟨#[107, 105, 110, 100]⟩, ⟨#[110, 97, 109, 101]⟩, ⟨#[116, 97, 114, 103, 101, 116]⟩] ⟨#[108, 111, 119]⟩ = 3 by decide +kernel) (show placeN [⟨#[107, 105, 110, 100]⟩, ⟨#[110, 97, 109, 101]⟩, ⟨#[116, 97, 114, 103, 101, 116]⟩] ⟨#[108, 111, 119]⟩ = 1 by decide +kernel)]
  show (setT (.node 5 0 ⟨#[]⟩ [⟨#[107, 105, 110, 100]⟩, ⟨#[108, 111, 119]⟩, ⟨#[110, 97, 109, 101]⟩, ⟨#[116, 97, 114, 103, 101, 116]⟩] [.node 3 0 kd [] [], .node 2 O.low ⟨#[]⟩ [] [], .node 3 0 O.name [] [], .node 3 0 O.target [] []]) ⟨#[104, 105, 103, 104]⟩ (.node 2 O.high ⟨#[]⟩ [] [])) = _
  rw [setT_new (by rfl) (show firstN [⟨#[107, 105, 110, 100]⟩, ⟨#[108, 111, 119]⟩, ⟨#[110, 97, 109, 101]⟩, ⟨#[116, 97, 114, 103, 101, 116]⟩] ⟨#[104, 105, 103, 104]⟩ = 4 by decide +kernel) (show placeN [⟨#[107, 105, 110, 100]⟩, ⟨#[108, 111, 119]⟩, ⟨#[110, 97, 109, 101]⟩, ⟨#[116, 97, 114, 103, 101, 116]⟩] ⟨#[104, 105, 103, 104]⟩ = 0 by decide +kernel)]
  rfl

set_option maxRecDepth 100000 in
set_option maxHeartbeats 8000000 in
theorem spec_l7Head (kd : ByteArray) (O : Ord) (om on_ : Option Addr) (lm cm ln cn : Nat) (h1 : O.name.size ≤ 20) (h2 : O.target.size ≤ 20) (h3 : kd.size ≤ 20) (h4 : Fit O.low) (h5 : Fit O.high) (w : World) :
    Calls Tryz.prog 26 #[.agg #[.string O.name, .string O.target, .int .i64 O.low, .int .i64 O.high, .slice om lm cm, .int .i64 O.pace.up, .int .i64 O.pace.down, .int .i64 O.pace.ups, .int .i64 O.pace.downs, .slice on_ ln cn], .string kd] w fun e w' => ∃ kv dv F, e = .returned ((headT kd O).val kv dv) ∧ Lies w' (headT kd O) kv dv F ∧ Fresh w w' F ∧ Below w.heap.size w w' := by
  have HG := Lib.hid h1
  have HM : Hid (∀ X bz bn, X.heap[bz]? = some (.cells #[.string ⟨#[107, 105, 110, 100]⟩, .string ⟨#[110, 97, 109, 101]⟩, .string ⟨#[116, 97, 114, 103, 101, 116]⟩, .string ⟨#[108, 111, 119]⟩, .string ⟨#[104, 105, 103, 104]⟩] 9 (0, 0)) → X.heap[bn]? = some (.cells #[.int .i64 3, .int .i64 0, .string kd, .slice none 0 0, .slice none 0 0, .int .i64 3, .int .i64 0, .string O.name, .slice none 0 0, .slice none 0 0, .int .i64 3, .int .i64 0, .string O.target, .slice none 0 0, .slice none 0 0, .int .i64 2, .int .i64 O.low, .string ⟨#[]⟩, .slice none 0 0, .slice none 0 0, .int .i64 2, .int .i64 O.high, .string ⟨#[]⟩, .slice none 0 0, .slice none 0 0] 32 (0, 0)) → Calls Tryz.prog 63 #[.slice (some ⟨bz, 0, none⟩) 5 5, .slice (some ⟨bn, 0, none⟩) 5 5] X fun e w' => ∃ kr dr G, e = .returned (.agg #[.int .i64 (headT kd O).k, .int .i64 (headT kd O).n, .string (headT kd O).s, kr, dr]) ∧ Lies w' (headT kd O) kr dr G ∧ Fresh X w' G ∧ Below X.heap.size X w') := by
    intro X bz bn hz hn
    have hlf : ∀ t ∈ ([.node 3 0 kd [] [], .node 3 0 O.name [] [], .node 3 0 O.target [] [], .node 2 O.low ⟨#[]⟩ [] [], .node 2 O.high ⟨#[]⟩ [] []] : List RT), LeafK t := fun t ht => (headT_leaves kd O h1 h2 h3 h4 h5) t (by simp only [List.mem_cons, List.not_mem_nil, or_false] at ht; rcases ht with rfl | rfl | rfl | rfl | rfl <;> simp [headT, RT.kids])
    have h := spec_l7Map [⟨#[107, 105, 110, 100]⟩, ⟨#[110, 97, 109, 101]⟩, ⟨#[116, 97, 114, 103, 101, 116]⟩, ⟨#[108, 111, 119]⟩, ⟨#[104, 105, 103, 104]⟩] [.node 3 0 kd [] [], .node 3 0 O.name [] [], .node 3 0 O.target [] [], .node 2 O.low ⟨#[]⟩ [] [], .node 2 O.high ⟨#[]⟩ [] []] rfl X _ _ _ _ (strs_lit [⟨#[107, 105, 110, 100]⟩, ⟨#[110, 97, 109, 101]⟩, ⟨#[116, 97, 114, 103, 101, 116]⟩, ⟨#[108, 111, 119]⟩, ⟨#[104, 105, 103, 104]⟩] hz rfl (fun t ht => headT_keys kd O t (by simp only [List.mem_cons, List.not_mem_nil, or_false] at ht; rcases ht with rfl | rfl | rfl | rfl | rfl <;> simp [headT, RT.keys])) (show 5 ≤ maxLen by decide) (show 0 < 5 by decide))
      (kids_lit [.node 3 0 kd [] [], .node 3 0 O.name [] [], .node 3 0 O.target [] [], .node 2 O.low ⟨#[]⟩ [] [], .node 2 O.high ⟨#[]⟩ [] []] (fun _ => .slice none 0 0) (fun _ => .slice none 0 0) (fun _ => []) hn rfl (fun i hi j hj => by rw [← Array.getElem?_toList]; exact (rowsOf_get [.node 3 0 kd [] [], .node 3 0 O.name [] [], .node 3 0 O.target [] [], .node 2 O.low ⟨#[]⟩ [] [], .node 2 O.high ⟨#[]⟩ [] []] (fun _ => .slice none 0 0) (fun _ => .slice none 0 0) 5 i j hi hj).trans (by rw [List.getD_eq_getElem?_getD, List.getElem?_eq_getElem hi]; rfl)) (fun i hi => leaf_kid X _ (hlf _ (List.getElem_mem hi))) (show 5 ≤ maxLen by decide) (show 0 < 5 by decide)) (fun j hj => Nat.le_trans (mapN_le _ _ rfl hj) (by have a := h1; have k0 : (⟨#[107, 105, 110, 100]⟩ : ByteArray).size = 4 := rfl; have k1 : (⟨#[110, 97, 109, 101]⟩ : ByteArray).size = 4 := rfl; have k2 : (⟨#[116, 97, 114, 103, 101, 116]⟩ : ByteArray).size = 6 := rfl; have k3 : (⟨#[108, 111, 119]⟩ : ByteArray).size = 3 := rfl; have k4 : (⟨#[104, 105, 103, 104]⟩ : ByteArray).size = 4 := rfl; have kn : (⟨#[]⟩ : ByteArray).size = 0 := rfl; simp only [szAll, strSz, RT.sz, List.length_cons, List.length_nil, List.map_cons, List.map_nil, List.sum_cons, List.sum_nil]; omega)) (fun p hp => Nat.le_trans (sz_take _ hp) (by have a := h1; have kn : (⟨#[]⟩ : ByteArray).size = 0 := rfl; simp only [szAll, strSz, RT.sz, List.length_nil, List.map_nil, List.sum_nil]; omega)) (show 5 ≤ 1000000 by decide) _ (headT_map kd O)
    exact h
  generalize headT kd O = T at *
  clear h1 h2 h3 h4 h5
  go_enter Tryz.func26, Tryz.ntmps26
  go_wp2_with fail
  have H2 := Lib.hid (Two.start w (.cells #[.string O.name, .string O.target, .int .i64 O.low, .int .i64 O.high, .slice om lm cm, .int .i64 O.pace.up, .int .i64 O.pace.down, .int .i64 O.pace.ups, .int .i64 O.pace.downs, .slice on_ ln cn] 38) (.cells #[.int .i64 0, .int .i64 0, .string ⟨#[]⟩, .slice none 0 0, .slice none 0 0] 32))
  have x0 := cell_of H2.out.arg 0
  have x1 := cell_of H2.out.arg 1
  have x2 := cell_of H2.out.arg 2
  have x3 := cell_of H2.out.arg 3
  have x4 := cell_of H2.out.arg 4
  have x5 := cell_of H2.out.arg 5
  have x6 := cell_of H2.out.arg 6
  have x7 := cell_of H2.out.arg 7
  have x8 := cell_of H2.out.arg 8
  have x9 := cell_of H2.out.arg 9
  simp only [List.getElem?_toArray, List.getElem?_cons_zero, List.getElem?_cons_succ] at x0 x1 x2 x3 x4 x5 x6 x7 x8 x9
  go_region_held3 (fun w' => w'.cell? ⟨w.heap.size, 0, none⟩ = some (.string O.name) ∧ w'.cell? ⟨w.heap.size, 1, none⟩ = some (.string O.target) ∧ w'.cell? ⟨w.heap.size, 2, none⟩ = some (.int .i64 O.low) ∧ w'.cell? ⟨w.heap.size, 3, none⟩ = some (.int .i64 O.high) ∧ w'.cell? ⟨w.heap.size, 4, none⟩ = some (.slice om lm cm) ∧ w'.cell? ⟨w.heap.size, 5, none⟩ = some (.int .i64 O.pace.up) ∧ w'.cell? ⟨w.heap.size, 6, none⟩ = some (.int .i64 O.pace.down) ∧ w'.cell? ⟨w.heap.size, 7, none⟩ = some (.int .i64 O.pace.ups) ∧ w'.cell? ⟨w.heap.size, 8, none⟩ = some (.int .i64 O.pace.downs) ∧ w'.cell? ⟨w.heap.size, 9, none⟩ = some (.slice on_ ln cn)) (go_keep)
    (first
      | (go_at_call 51; refine (spec_textOf _ _).mono ?_; rintro e w' ⟨rfl, hb⟩; (first | (replace H2 := Lib.hid (H2.out.next hb); (try replace HZ := Lib.hid (HZ.out.next hb))) | (replace H2 := Lib.hid (H2.out.next1 hb)) | (have HZ := Lib.hid (H2.out.lit hb (by simp)).2; replace H2 := Lib.hid (H2.out.lit hb (by simp)).1; (first | replace HZ := Lib.hid (HZ.out.mv (n := w.heap.size + 1 + 1) (by simp)) | skip)) | (have HZ := Lib.hid (H2.out.lit1 hb).2; replace H2 := Lib.hid (H2.out.lit1 hb).1; (first | replace HZ := Lib.hid (HZ.out.mv (n := w.heap.size + 1 + 1) (by simp)) | skip))); clear hb x0 x1 x2 x3 x4 x5 x6 x7 x8 x9; have x0 := cell_of H2.out.arg 0; have x1 := cell_of H2.out.arg 1; have x2 := cell_of H2.out.arg 2; have x3 := cell_of H2.out.arg 3; have x4 := cell_of H2.out.arg 4; have x5 := cell_of H2.out.arg 5; have x6 := cell_of H2.out.arg 6; have x7 := cell_of H2.out.arg 7; have x8 := cell_of H2.out.arg 8; have x9 := cell_of H2.out.arg 9; simp only [List.getElem?_toArray, List.getElem?_cons_zero, List.getElem?_cons_succ] at x0 x1 x2 x3 x4 x5 x6 x7 x8 x9)
      | (go_at_call 49; refine (spec_intOf _ _).mono ?_; rintro e w' ⟨rfl, hb⟩; (first | (replace H2 := Lib.hid (H2.out.next hb); (try replace HZ := Lib.hid (HZ.out.next hb))) | (replace H2 := Lib.hid (H2.out.next1 hb)) | (have HZ := Lib.hid (H2.out.lit hb (by simp)).2; replace H2 := Lib.hid (H2.out.lit hb (by simp)).1; (first | replace HZ := Lib.hid (HZ.out.mv (n := w.heap.size + 1 + 1) (by simp)) | skip)) | (have HZ := Lib.hid (H2.out.lit1 hb).2; replace H2 := Lib.hid (H2.out.lit1 hb).1; (first | replace HZ := Lib.hid (HZ.out.mv (n := w.heap.size + 1 + 1) (by simp)) | skip))); clear hb x0 x1 x2 x3 x4 x5 x6 x7 x8 x9; have x0 := cell_of H2.out.arg 0; have x1 := cell_of H2.out.arg 1; have x2 := cell_of H2.out.arg 2; have x3 := cell_of H2.out.arg 3; have x4 := cell_of H2.out.arg 4; have x5 := cell_of H2.out.arg 5; have x6 := cell_of H2.out.arg 6; have x7 := cell_of H2.out.arg 7; have x8 := cell_of H2.out.arg 8; have x9 := cell_of H2.out.arg 9; simp only [List.getElem?_toArray, List.getElem?_cons_zero, List.getElem?_cons_succ] at x0 x1 x2 x3 x4 x5 x6 x7 x8 x9)
      | (go_at_call 63; refine (HM.out _ _ _ (by first | exact (HZ.out.lit1 (Below.refl _ _)).at_ | exact (H2.out.lits1 (Below.refl _ _)).2.1.at_ | exact (H2.out.lits1 (Below.refl _ _)).2.2.at_ | exact (HZ.out.lit (Below.refl _ _) (by simp [World.drew])).at_ | exact (H2.out.lits (Below.refl _ _) (by simp [World.drew])).2.1.at_ | exact (H2.out.lits (Below.refl _ _) (by simp [World.drew])).2.2.at_) (by first | exact (H2.out.lit1 (Below.refl _ _)).2.at_ | exact (H2.out.lits1 (Below.refl _ _)).2.2.at_ | exact (H2.out.lits1 (Below.refl _ _)).2.1.at_ | exact (H2.out.lit (Below.refl _ _) (by simp [World.drew])).2.at_ | exact (H2.out.lits (Below.refl _ _) (by simp [World.drew])).2.2.at_ | exact (H2.out.lits (Below.refl _ _) (by simp [World.drew])).2.1.at_)).mono ?_; rintro e w' ⟨kr, dr, G, rfl, hl, hf, hb⟩; obtain ⟨⟨o3, q3, rfl⟩, ⟨o4, q4, rfl⟩⟩ := hl.slices; have HL := Lib.hid (res_keep H2.out hl hf (by first | (simp; done) | (simp; omega))); clear hl hf; (first | (replace HZ := Lib.hid (HZ.out.lit1 hb); have HN := Lib.hid (H2.out.lit1 hb).2; replace H2 := Lib.hid (H2.out.lit1 hb).1) | (have HZ := Lib.hid (H2.out.lits1 hb).2.1; have HN := Lib.hid (H2.out.lits1 hb).2.2; replace H2 := Lib.hid (H2.out.lits1 hb).1; (first | (have h9 := HZ.out; have h8 : One w w' _ (.cells #[.string ⟨#[107, 105, 110, 100]⟩, .string ⟨#[110, 97, 109, 101]⟩, .string ⟨#[116, 97, 114, 103, 101, 116]⟩, .string ⟨#[108, 111, 119]⟩, .string ⟨#[104, 105, 103, 104]⟩] 9) := h9; clear h8 h9) | (have hq := HZ; replace HZ := HN; replace HN := hq; clear hq))) | (have HN := Lib.hid (H2.out.lit hb (by simp)).2; replace HZ := Lib.hid (HZ.out.lit hb (by simp)); replace H2 := Lib.hid (H2.out.lit hb (by simp)).1) | (have HZ := Lib.hid (H2.out.lits hb (by simp)).2.1; have HN := Lib.hid (H2.out.lits hb (by simp)).2.2; replace H2 := Lib.hid (H2.out.lits hb (by simp)).1; (first | (have h9 := HZ.out; have h8 : One w w' _ (.cells #[.string ⟨#[107, 105, 110, 100]⟩, .string ⟨#[110, 97, 109, 101]⟩, .string ⟨#[116, 97, 114, 103, 101, 116]⟩, .string ⟨#[108, 111, 119]⟩, .string ⟨#[104, 105, 103, 104]⟩] 9) := h9; clear h8 h9) | (have hq := HZ; replace HZ := HN; replace HN := hq; clear hq)))); clear hb x0 x1 x2 x3 x4 x5 x6 x7 x8 x9; have x0 := cell_of H2.out.arg 0; have x1 := cell_of H2.out.arg 1; have x2 := cell_of H2.out.arg 2; have x3 := cell_of H2.out.arg 3; have x4 := cell_of H2.out.arg 4; have x5 := cell_of H2.out.arg 5; have x6 := cell_of H2.out.arg 6; have x7 := cell_of H2.out.arg 7; have x8 := cell_of H2.out.arg 8; have x9 := cell_of H2.out.arg 9; simp only [List.getElem?_toArray, List.getElem?_cons_zero, List.getElem?_cons_succ] at x0 x1 x2 x3 x4 x5 x6 x7 x8 x9; obtain ⟨r0, r1, r2, r3, r4, r5⟩ := five H2.out.res))
  all_goals
    have HF := res_fin H2.out HL.out
    go_wp2
    exact bodyPost_ret (ret_node Tryz.results26 rfl HF.1) rfl ⟨_, _, _, rfl, HF.2.1, HF.2.2.1, HF.2.2.2⟩
end Go.Proofs.YtfgfgmbifdojcaaGreatDoor

/- plain facts on orders that are right: how great their trees are; the full shape is what the model sets, one Key behind the other. -/
namespace Go.Proofs.YtfgfgmbifdojcaaGreatDoor
open Go Go.RowKit

theorem okB_out {O : Ord} (h : O.okB = true) : O.name.size ≤ 20 ∧ O.target.size ≤ 20 ∧ (O.mets.length ≤ 4 ∧ ∀ m ∈ O.mets, m.name.size ≤ 20) ∧ O.notes.length ≤ 4 ∧ (∀ n ∈ O.notes, n.key.size ≤ 60 ∧ n.text.size ≤ 40) ∧ AscK (O.notes.map (·.key)) := by
  unfold Ord.okB at h
  simp only [Bool.and_eq_true] at h
  obtain ⟨⟨⟨⟨⟨⟨h1, h2⟩, -⟩, -⟩, h3⟩, -⟩, h4⟩ := h
  have nm : ∀ s, nameB s = true → s.size ≤ 20 := fun s hs => by
    unfold nameB at hs
    simp only [Bool.and_eq_true, decide_eq_true_eq] at hs
    exact hs.1.2
  have h3' : Els Met.name Met.okB O.mets := @of_decide_eq_true _ (Classical.propDecidable _) h3
  have h4' : Els Not.key Not.okB O.notes := @of_decide_eq_true _ (Classical.propDecidable _) h4
  refine ⟨nm _ h1, nm _ h2, ⟨h3'.2, fun m hm => ?_⟩, h4'.2, fun n hn => ?_, fun i hi h0 => ?_⟩
  · obtain ⟨i, hi, rfl⟩ := List.getElem_of_mem hm
    have := (h3'.1 i hi).1
    unfold Met.okB metB at this
    simp only [Bool.and_eq_true] at this
    exact nm _ this.1.1
  · obtain ⟨i, hi, rfl⟩ := List.getElem_of_mem hn
    have := (h4'.1 i hi).1
    unfold Not.okB plainB at this
    simp only [Bool.and_eq_true, decide_eq_true_eq] at this
    exact ⟨this.1.1.1.1.1.2, this.2⟩
  · have hi' : i < O.notes.length := by simpa using hi
    have := (h4'.1 i hi').2 h0
    simpa using this

theorem szAll_le (B : Nat) : (l : List RT) → (∀ t ∈ l, t.sz ≤ B) → szAll l ≤ l.length * B
  | [], _ => by simp [szAll]
  | t :: l, h => by
    have h1 := h t (by simp)
    have h2 := szAll_le B l fun x hx => h x (by simp [hx])
    simp only [szAll, List.length_cons, Nat.add_mul]
    omega
theorem strSz_le (B : Nat) : (l : List ByteArray) → (∀ t ∈ l, t.size ≤ B) → strSz l ≤ l.length * B
  | [], _ => by simp [strSz]
  | t :: l, h => by
    have h1 := h t (by simp)
    have h2 := strSz_le B l fun x hx => h x (by simp [hx])
    simp only [strSz, List.map_cons, List.sum_cons, List.length_cons, Nat.add_mul] at h2 ⊢
    omega

theorem mets_sz {O : Ord} (h : O.okB = true) (hg : ∀ m ∈ O.mets, m.ok) : (metsT O.mets).sz ≤ 2000 := by
  obtain ⟨-, -, ⟨h1, h2⟩, -⟩ := okB_out h
  have a := szAll_le 220 (O.mets.map metT) (fun t ht => by
    obtain ⟨m, hm, rfl⟩ := List.mem_map.1 ht
    have := metT_sz m (hg m hm).2.2.1 (hg m hm).2.2.2
    have := h2 m hm
    omega)
  have k : (⟨#[]⟩ : ByteArray).size = 0 := rfl
  simp only [metsT, RT.sz, k, strSz, List.length_nil, List.map_nil, List.sum_nil, List.length_map] at a ⊢
  omega

theorem notes_sz {O : Ord} (h : O.okB = true) : szAll (O.notes.map noteK) + strSz (O.notes.map (·.key)) + 2 * O.notes.length ≤ 1000 ∧ (notesT O.notes).sz ≤ 1000 := by
  obtain ⟨-, -, -, h1, h2, -⟩ := okB_out h
  have a := szAll_le 40 (O.notes.map noteK) (fun t ht => by
    obtain ⟨m, hm, rfl⟩ := List.mem_map.1 ht
    have := (h2 m hm).2
    simp only [noteK, RT.sz, strSz, szAll, List.length_nil, List.map_nil, List.sum_nil]
    omega)
  have c := strSz_le 60 (O.notes.map (·.key)) (fun t ht => by
    obtain ⟨m, hm, rfl⟩ := List.mem_map.1 ht
    exact (h2 m hm).1)
  rw [List.length_map] at a c
  have k : (⟨#[]⟩ : ByteArray).size = 0 := rfl
  refine ⟨by omega, ?_⟩
  simp only [notesT, RT.sz, k, List.length_map]
  omega

theorem head_sz {O : Ord} (h : O.okB = true) (kd : ByteArray) (hk : kd.size ≤ 20) : (headT kd O).sz ≤ 200 := by
  obtain ⟨h1, h2, -⟩ := okB_out h
  have k0 : (⟨#[]⟩ : ByteArray).size = 0 := rfl
  have k1 : (⟨#[104, 105, 103, 104]⟩ : ByteArray).size = 4 := rfl
  have k2 : (⟨#[107, 105, 110, 100]⟩ : ByteArray).size = 4 := rfl
  have k3 : (⟨#[108, 111, 119]⟩ : ByteArray).size = 3 := rfl
  have k4 : (⟨#[110, 97, 109, 101]⟩ : ByteArray).size = 4 := rfl
  have k5 : (⟨#[116, 97, 114, 103, 101, 116]⟩ : ByteArray).size = 6 := rfl
  simp only [headT, RT.sz, szAll, strSz, List.length_cons, List.length_nil, List.map_cons, List.map_nil, List.sum_cons, List.sum_nil, k0, k1, k2, k3, k4, k5]
  omega

/-- The full shape, one Key behind the other. -/
theorem full_sets (O : Ord) : setT (setT (setT (headT ⟨#[102, 117, 108, 108]⟩ O) ⟨#[109, 101, 116, 114, 105, 99, 115]⟩ (metsT O.mets)) ⟨#[112, 97, 99, 101]⟩ (pacT O.pace)) ⟨#[110, 111, 116, 101, 115]⟩ (notesT O.notes) = fullT O := by
  show (setT (setT (setT (.node 5 0 ⟨#[]⟩ [⟨#[104, 105, 103, 104]⟩, ⟨#[107, 105, 110, 100]⟩, ⟨#[108, 111, 119]⟩, ⟨#[110, 97, 109, 101]⟩, ⟨#[116, 97, 114, 103, 101, 116]⟩] [.node 2 O.high ⟨#[]⟩ [] [], .node 3 0 ⟨#[102, 117, 108, 108]⟩ [] [], .node 2 O.low ⟨#[]⟩ [] [], .node 3 0 O.name [] [], .node 3 0 O.target [] []]) ⟨#[109, 101, 116, 114, 105, 99, 115]⟩ (metsT O.mets)) ⟨#[112, 97, 99, 101]⟩ (pacT O.pace)) ⟨#[110, 111, 116, 101, 115]⟩ (notesT O.notes)) = _
  rw [setT_new (by rfl) (show firstN [⟨#[104, 105, 103, 104]⟩, ⟨#[107, 105, 110, 100]⟩, ⟨#[108, 111, 119]⟩, ⟨#[110, 97, 109, 101]⟩, ⟨#[116, 97, 114, 103, 101, 116]⟩] ⟨#[109, 101, 116, 114, 105, 99, 115]⟩ = 5 by decide +kernel) (show placeN [⟨#[104, 105, 103, 104]⟩, ⟨#[107, 105, 110, 100]⟩, ⟨#[108, 111, 119]⟩, ⟨#[110, 97, 109, 101]⟩, ⟨#[116, 97, 114, 103, 101, 116]⟩] ⟨#[109, 101, 116, 114, 105, 99, 115]⟩ = 3 by decide +kernel)]
  show (setT (setT (.node 5 0 ⟨#[]⟩ [⟨#[104, 105, 103, 104]⟩, ⟨#[107, 105, 110, 100]⟩, ⟨#[108, 111, 119]⟩, ⟨#[109, 101, 116, 114, 105, 99, 115]⟩, ⟨#[110, 97, 109, 101]⟩, ⟨#[116, 97, 114, 103, 101, 116]⟩] [.node 2 O.high ⟨#[]⟩ [] [], .node 3 0 ⟨#[102, 117, 108, 108]⟩ [] [], .node 2 O.low ⟨#[]⟩ [] [], (metsT O.mets), .node 3 0 O.name [] [], .node 3 0 O.target [] []]) ⟨#[112, 97, 99, 101]⟩ (pacT O.pace)) ⟨#[110, 111, 116, 101, 115]⟩ (notesT O.notes)) = _
  rw [setT_new (by rfl) (show firstN [⟨#[104, 105, 103, 104]⟩, ⟨#[107, 105, 110, 100]⟩, ⟨#[108, 111, 119]⟩, ⟨#[109, 101, 116, 114, 105, 99, 115]⟩, ⟨#[110, 97, 109, 101]⟩, ⟨#[116, 97, 114, 103, 101, 116]⟩] ⟨#[112, 97, 99, 101]⟩ = 6 by decide +kernel) (show placeN [⟨#[104, 105, 103, 104]⟩, ⟨#[107, 105, 110, 100]⟩, ⟨#[108, 111, 119]⟩, ⟨#[109, 101, 116, 114, 105, 99, 115]⟩, ⟨#[110, 97, 109, 101]⟩, ⟨#[116, 97, 114, 103, 101, 116]⟩] ⟨#[112, 97, 99, 101]⟩ = 5 by decide +kernel)]
  show (setT (.node 5 0 ⟨#[]⟩ [⟨#[104, 105, 103, 104]⟩, ⟨#[107, 105, 110, 100]⟩, ⟨#[108, 111, 119]⟩, ⟨#[109, 101, 116, 114, 105, 99, 115]⟩, ⟨#[110, 97, 109, 101]⟩, ⟨#[112, 97, 99, 101]⟩, ⟨#[116, 97, 114, 103, 101, 116]⟩] [.node 2 O.high ⟨#[]⟩ [] [], .node 3 0 ⟨#[102, 117, 108, 108]⟩ [] [], .node 2 O.low ⟨#[]⟩ [] [], (metsT O.mets), .node 3 0 O.name [] [], (pacT O.pace), .node 3 0 O.target [] []]) ⟨#[110, 111, 116, 101, 115]⟩ (notesT O.notes)) = _
  rw [setT_new (by rfl) (show firstN [⟨#[104, 105, 103, 104]⟩, ⟨#[107, 105, 110, 100]⟩, ⟨#[108, 111, 119]⟩, ⟨#[109, 101, 116, 114, 105, 99, 115]⟩, ⟨#[110, 97, 109, 101]⟩, ⟨#[112, 97, 99, 101]⟩, ⟨#[116, 97, 114, 103, 101, 116]⟩] ⟨#[110, 111, 116, 101, 115]⟩ = 7 by decide +kernel) (show placeN [⟨#[104, 105, 103, 104]⟩, ⟨#[107, 105, 110, 100]⟩, ⟨#[108, 111, 119]⟩, ⟨#[109, 101, 116, 114, 105, 99, 115]⟩, ⟨#[110, 97, 109, 101]⟩, ⟨#[112, 97, 99, 101]⟩, ⟨#[116, 97, 114, 103, 101, 116]⟩] ⟨#[110, 111, 116, 101, 115]⟩ = 5 by decide +kernel)]
  rfl
end Go.Proofs.YtfgfgmbifdojcaaGreatDoor
