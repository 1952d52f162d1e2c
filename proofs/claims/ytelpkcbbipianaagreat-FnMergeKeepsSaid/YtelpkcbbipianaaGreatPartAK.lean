/-
  What is proved: the model's l7Head of an order: what all shapes have, in memory of its own; no condition but how long names are.; metrics, notes, paces and heads of orders are held against each other field by field; slices.Equal tells of two lists of metrics, and of two lists of notes, whether they are the same; the laws' eqMetricS and eqNoteS answer true of two that are.; plain facts on texts that may be written as they are: 1 to 60 bytes, a letter first, then letters, digits and four signs; none of three words.; plain facts on names: 1 to 20 bytes, a small letter first, then small letters, digits and the sign 45.; for any text the program's NameOk answers as the model's NameOk does; what lies within bounds is told alike by both.; for any metric and any pace the program's MetricOk, PaceOk and PaceNew answer as the model's do.; one operation of a region whose order Go leaves open may be taken first, whether its guard lets it run or not.
-/
import Derived.Test.YtelpkcbbipianaaGreatPartAI
import Derived.Test.YtelpkcbbipianaaGreatPartAJ
import Derived.Test.YtelpkcbbipianaaGreatPartAH
import Derived.Test.YtelpkcbbipianaaGreatPartAD
import Derived.Test.YtelpkcbbipianaaGreatRows
import Derived.Below
import Derived.WalkKit
import Derived.WalkSpells
import Derived.Lib.Hide
import Derived.Lib.Bytealg
import Derived.Deep.RegionHeld3
/- the model's l7Head of an order: what all shapes have, in memory of its own; no condition but how long names are. -/
namespace Go.Proofs.YtelpkcbbipianaaGreat
open Go Go.RowKit

/-- What all shapes have. -/
def headT (kd : ByteArray) (O : Ord) : RT := .node 5 0 ⟨#[]⟩ [⟨#[104, 105, 103, 104]⟩, ⟨#[107, 105, 110, 100]⟩, ⟨#[108, 111, 119]⟩, ⟨#[110, 97, 109, 101]⟩, ⟨#[116, 97, 114, 103, 101, 116]⟩] [.node 2 O.high ⟨#[]⟩ [] [], .node 3 0 kd [] [], .node 2 O.low ⟨#[]⟩ [] [], .node 3 0 O.name [] [], .node 3 0 O.target [] []]
theorem headT_leaves (kd : ByteArray) (O : Ord) (h1 : O.name.size ≤ 20) (h2 : O.target.size ≤ 20) (h3 : kd.size ≤ 20) (h4 : Fit O.low) (h5 : Fit O.high) : ∀ t ∈ (headT kd O).kids, LeafK t := by
  intro t ht
  have hm : 20 ≤ maxLen := by decide
  simp only [headT, RT.kids, List.mem_cons, List.not_mem_nil, or_false] at ht
  rcases ht with rfl | rfl | rfl | rfl | rfl
  · exact leafK _ _ _ ⟨by decide, by decide⟩ h5 (by decide)
  · exact leafK _ _ _ ⟨by decide, by decide⟩ ⟨by decide, by decide⟩ (by omega)
  · exact leafK _ _ _ ⟨by decide, by decide⟩ h4 (by decide)
  · exact leafK _ _ _ ⟨by decide, by decide⟩ ⟨by decide, by decide⟩ (by omega)
  · exact leafK _ _ _ ⟨by decide, by decide⟩ ⟨by decide, by decide⟩ (by omega)
theorem headT_keys (kd : ByteArray) (O : Ord) : ∀ k ∈ (headT kd O).keys, k.size ≤ maxLen := by
  intro t ht
  simp only [headT, RT.keys, List.mem_cons, List.not_mem_nil, or_false] at ht
  rcases ht with rfl | rfl | rfl | rfl | rfl <;> decide

theorem headT_map (kd : ByteArray) (O : Ord) : mapN [⟨#[107, 105, 110, 100]⟩, ⟨#[110, 97, 109, 101]⟩, ⟨#[116, 97, 114, 103, 101, 116]⟩, ⟨#[108, 111, 119]⟩, ⟨#[104, 105, 103, 104]⟩] [.node 3 0 kd [] [], .node 3 0 O.name [] [], .node 3 0 O.target [] [], .node 2 O.low ⟨#[]⟩ [] [], .node 2 O.high ⟨#[]⟩ [] []] 5 = headT kd O := by
  show (setT (setT (setT (setT (setT (.node 5 0 ⟨#[]⟩ [] []) ⟨#[107, 105, 110, 100]⟩ (.node 3 0 kd [] [])) ⟨#[110, 97, 109, 101]⟩ (.node 3 0 O.name [] [])) ⟨#[116, 97, 114, 103, 101, 116]⟩ (.node 3 0 O.target [] [])) ⟨#[108, 111, 119]⟩ (.node 2 O.low ⟨#[]⟩ [] [])) ⟨#[104, 105, 103, 104]⟩ (.node 2 O.high ⟨#[]⟩ [] [])) = _
  rw [setT_new (by rfl) (show firstN [] ⟨#[107, 105, 110, 100]⟩ = 0 by decide +kernel) (show placeN [] ⟨#[107, 105, 110, 100]⟩ = 0 by decide +kernel)]
  show (setT (setT (setT (setT (.node 5 0 ⟨#[]⟩ [⟨#[107, 105, 110, 100]⟩] [.node 3 0 kd [] []]) ⟨#[110, 97, 109, 101]⟩ (.node 3 0 O.name [] [])) ⟨#[116, 97, 114, 103, 101, 116]⟩ (.node 3 0 O.target [] [])) ⟨#[108, 111, 119]⟩ (.node 2 O.low ⟨#[]⟩ [] [])) ⟨#[104, 105, 103, 104]⟩ (.node 2 O.high ⟨#[]⟩ [] [])) = _
  rw [setT_new (by rfl) (show firstN [⟨#[107, 105, 110, 100]⟩] ⟨#[110, 97, 109, 101]⟩ = 1 by decide +kernel) (show placeN [⟨#[107, 105, 110, 100]⟩] ⟨#[110, 97, 109, 101]⟩ = 1 by decide +kernel)]
  show (setT (setT (setT (.node 5 0 ⟨#[]⟩ [⟨#[107, 105, 110, 100]⟩, ⟨#[110, 97, 109, 101]⟩] [.node 3 0 kd [] [], .node 3 0 O.name [] []]) ⟨#[116, 97, 114, 103, 101, 116]⟩ (.node 3 0 O.target [] [])) ⟨#[108, 111, 119]⟩ (.node 2 O.low ⟨#[]⟩ [] [])) ⟨#[104, 105, 103, 104]⟩ (.node 2 O.high ⟨#[]⟩ [] [])) = _
  rw [setT_new (by rfl) (show firstN [⟨#[107, 105, 110, 100]⟩, ⟨#[110, 97, 109, 101]⟩] ⟨#[116, 97, 114, 103, 101, 116]⟩ = 2 by decide +kernel) (show placeN [⟨#[107, 105, 110, 100]⟩, ⟨#[110, 97, 109, 101]⟩] ⟨#[116, 97, 114, 103, 101, 116]⟩ = 2 by decide +kernel)]
  show (setT (setT (.node 5 0 ⟨#[]⟩ [⟨#[107, 105, 110, 100]⟩, ⟨#[110, 97, 109, 101]⟩, ⟨#[116, 97, 114, 103, 101, 116]⟩] [.node 3 0 kd [] [], .node 3 0 O.name [] [], .node 3 0 O.target [] []]) ⟨#[108, 111, 119]⟩ (.node 2 O.low ⟨#[]⟩ [] [])) ⟨#[104, 105, 103, 104]⟩ (.node 2 O.high ⟨#[]⟩ [] [])) = _
  rw [setT_new (by rfl) (show firstN [⟨#[107, 105, 110, 100]⟩, ⟨#[110, 97, 109, 101]⟩, ⟨#[116, 97, 114, 103, 101, 116]⟩] ⟨#[108, 111, 119]⟩ = 3 by decide +kernel) (show placeN [⟨#[107, 105, 110, 100]⟩, ⟨#[110, 97, 109, 101]⟩, ⟨#[116, 97, 114, 103, 101, 116]⟩] ⟨#[108, 111, 119]⟩ = 1 by decide +kernel)]
  show (setT (.node 5 0 ⟨#[]⟩ [⟨#[107, 105, 110, 100]⟩, ⟨#[108, 111, 119]⟩, ⟨#[110, 97, 109, 101]⟩, ⟨#[116, 97, 114, 103, 101, 116]⟩] [.node 3 0 kd [] [], .node 2 O.low ⟨#[]⟩ [] [], .node 3 0 O.name [] [], .node 3 0 O.target [] []]) ⟨#[104, 105, 103, 104]⟩ (.node 2 O.high ⟨#[]⟩ [] [])) = _
  rw [setT_new (by rfl) (show firstN [⟨#[107, 105, 110, 100]⟩, ⟨#[108, 111, 119]⟩, ⟨#[110, 97, 109, 101]⟩, ⟨#[116, 97, 114, 103, 101, 116]⟩] ⟨#[104, 105, 103, 104]⟩ = 4 by decide +kernel) (show placeN [⟨#[107, 105, 110, 100]⟩, ⟨#[108, 111, 119]⟩, ⟨#[110, 97, 109, 101]⟩, ⟨#[116, 97, 114, 103, 101, 116]⟩] ⟨#[104, 105, 103, 104]⟩ = 0 by decide +kernel)]
  rfl

set_option maxRecDepth 100000 in
set_option maxHeartbeats 8000000 in
theorem spec_l7Head (kd : ByteArray) (O : Ord) (om on_ : Option Addr) (lm cm ln cn : Nat) (h1 : O.name.size ≤ 20) (h2 : O.target.size ≤ 20) (h3 : kd.size ≤ 20) (h4 : Fit O.low) (h5 : Fit O.high) (w : World) :
    Calls Tryz.prog 72 #[.agg #[.string O.name, .string O.target, .int .i64 O.low, .int .i64 O.high, .slice om lm cm, .int .i64 O.pace.up, .int .i64 O.pace.down, .int .i64 O.pace.ups, .int .i64 O.pace.downs, .slice on_ ln cn], .string kd] w fun e w' => ∃ kv dv F, e = .returned ((headT kd O).val kv dv) ∧ Lies w' (headT kd O) kv dv F ∧ Fresh w w' F ∧ Below w.heap.size w w' := by
  have HG := Lib.hid h1
  have HM : Hid (∀ X bz bn, X.heap[bz]? = some (.cells #[.string ⟨#[107, 105, 110, 100]⟩, .string ⟨#[110, 97, 109, 101]⟩, .string ⟨#[116, 97, 114, 103, 101, 116]⟩, .string ⟨#[108, 111, 119]⟩, .string ⟨#[104, 105, 103, 104]⟩] 9 (0, 0)) → X.heap[bn]? = some (.cells #[.int .i64 3, .int .i64 0, .string kd, .slice none 0 0, .slice none 0 0, .int .i64 3, .int .i64 0, .string O.name, .slice none 0 0, .slice none 0 0, .int .i64 3, .int .i64 0, .string O.target, .slice none 0 0, .slice none 0 0, .int .i64 2, .int .i64 O.low, .string ⟨#[]⟩, .slice none 0 0, .slice none 0 0, .int .i64 2, .int .i64 O.high, .string ⟨#[]⟩, .slice none 0 0, .slice none 0 0] 27 (0, 0)) → Calls Tryz.prog 87 #[.slice (some ⟨bz, 0, none⟩) 5 5, .slice (some ⟨bn, 0, none⟩) 5 5] X fun e w' => ∃ kr dr G, e = .returned (.agg #[.int .i64 (headT kd O).k, .int .i64 (headT kd O).n, .string (headT kd O).s, kr, dr]) ∧ Lies w' (headT kd O) kr dr G ∧ Fresh X w' G ∧ Below X.heap.size X w') := by
    intro X bz bn hz hn
    have hlf : ∀ t ∈ ([.node 3 0 kd [] [], .node 3 0 O.name [] [], .node 3 0 O.target [] [], .node 2 O.low ⟨#[]⟩ [] [], .node 2 O.high ⟨#[]⟩ [] []] : List RT), LeafK t := fun t ht => (headT_leaves kd O h1 h2 h3 h4 h5) t (by simp only [List.mem_cons, List.not_mem_nil, or_false] at ht; rcases ht with rfl | rfl | rfl | rfl | rfl <;> simp [headT, RT.kids])
    have h := spec_l7Map [⟨#[107, 105, 110, 100]⟩, ⟨#[110, 97, 109, 101]⟩, ⟨#[116, 97, 114, 103, 101, 116]⟩, ⟨#[108, 111, 119]⟩, ⟨#[104, 105, 103, 104]⟩] [.node 3 0 kd [] [], .node 3 0 O.name [] [], .node 3 0 O.target [] [], .node 2 O.low ⟨#[]⟩ [] [], .node 2 O.high ⟨#[]⟩ [] []] rfl X _ _ _ _ (strs_lit [⟨#[107, 105, 110, 100]⟩, ⟨#[110, 97, 109, 101]⟩, ⟨#[116, 97, 114, 103, 101, 116]⟩, ⟨#[108, 111, 119]⟩, ⟨#[104, 105, 103, 104]⟩] hz rfl (fun t ht => headT_keys kd O t (by simp only [List.mem_cons, List.not_mem_nil, or_false] at ht; rcases ht with rfl | rfl | rfl | rfl | rfl <;> simp [headT, RT.keys])) (show 5 ≤ maxLen by decide) (show 0 < 5 by decide))
      (kids_lit [.node 3 0 kd [] [], .node 3 0 O.name [] [], .node 3 0 O.target [] [], .node 2 O.low ⟨#[]⟩ [] [], .node 2 O.high ⟨#[]⟩ [] []] (fun _ => .slice none 0 0) (fun _ => .slice none 0 0) (fun _ => []) hn rfl (fun i hi j hj => by rw [← Array.getElem?_toList]; exact (rowsOf_get [.node 3 0 kd [] [], .node 3 0 O.name [] [], .node 3 0 O.target [] [], .node 2 O.low ⟨#[]⟩ [] [], .node 2 O.high ⟨#[]⟩ [] []] (fun _ => .slice none 0 0) (fun _ => .slice none 0 0) 5 i j hi hj).trans (by rw [List.getD_eq_getElem?_getD, List.getElem?_eq_getElem hi]; rfl)) (fun i hi => leaf_kid X _ (hlf _ (List.getElem_mem hi))) (show 5 ≤ maxLen by decide) (show 0 < 5 by decide)) (fun j hj => Nat.le_trans (mapN_le _ _ rfl hj) (by have a := h1; have k0 : (⟨#[107, 105, 110, 100]⟩ : ByteArray).size = 4 := rfl; have k1 : (⟨#[110, 97, 109, 101]⟩ : ByteArray).size = 4 := rfl; have k2 : (⟨#[116, 97, 114, 103, 101, 116]⟩ : ByteArray).size = 6 := rfl; have k3 : (⟨#[108, 111, 119]⟩ : ByteArray).size = 3 := rfl; have k4 : (⟨#[104, 105, 103, 104]⟩ : ByteArray).size = 4 := rfl; have kn : (⟨#[]⟩ : ByteArray).size = 0 := rfl; simp only [szAll, strSz, RT.sz, List.length_cons, List.length_nil, List.map_cons, List.map_nil, List.sum_cons, List.sum_nil]; omega)) (fun p hp => Nat.le_trans (sz_take _ hp) (by have a := h1; have kn : (⟨#[]⟩ : ByteArray).size = 0 := rfl; simp only [szAll, strSz, RT.sz, List.length_nil, List.map_nil, List.sum_nil]; omega)) (show 5 ≤ 1000000 by decide) _ (headT_map kd O)
    exact h
  generalize headT kd O = T at *
  clear h1 h2 h3 h4 h5
  go_enter Tryz.func72, Tryz.ntmps72
  go_wp2_with fail
  have H2 := Lib.hid (Two.start w (.cells #[.string O.name, .string O.target, .int .i64 O.low, .int .i64 O.high, .slice om lm cm, .int .i64 O.pace.up, .int .i64 O.pace.down, .int .i64 O.pace.ups, .int .i64 O.pace.downs, .slice on_ ln cn] 66) (.cells #[.int .i64 0, .int .i64 0, .string ⟨#[]⟩, .slice none 0 0, .slice none 0 0] 27))
  have x0 := cell_of H2.out.arg 0
  have x1 := cell_of H2.out.arg 1
  have x2 := cell_of H2.out.arg 2
  have x3 := cell_of H2.out.arg 3
  have x4 := cell_of H2.out.arg 4
  have x5 := cell_of H2.out.arg 5
  have x6 := cell_of H2.out.arg 6
  have x7 := cell_of H2.out.arg 7
  have x8 := cell_of H2.out.arg 8
  have x9 := cell_of H2.out.arg 9
  simp only [List.getElem?_toArray, List.getElem?_cons_zero, List.getElem?_cons_succ] at x0 x1 x2 x3 x4 x5 x6 x7 x8 x9
  go_region_held3 (fun w' => w'.cell? ⟨w.heap.size, 0, none⟩ = some (.string O.name) ∧ w'.cell? ⟨w.heap.size, 1, none⟩ = some (.string O.target) ∧ w'.cell? ⟨w.heap.size, 2, none⟩ = some (.int .i64 O.low) ∧ w'.cell? ⟨w.heap.size, 3, none⟩ = some (.int .i64 O.high) ∧ w'.cell? ⟨w.heap.size, 4, none⟩ = some (.slice om lm cm) ∧ w'.cell? ⟨w.heap.size, 5, none⟩ = some (.int .i64 O.pace.up) ∧ w'.cell? ⟨w.heap.size, 6, none⟩ = some (.int .i64 O.pace.down) ∧ w'.cell? ⟨w.heap.size, 7, none⟩ = some (.int .i64 O.pace.ups) ∧ w'.cell? ⟨w.heap.size, 8, none⟩ = some (.int .i64 O.pace.downs) ∧ w'.cell? ⟨w.heap.size, 9, none⟩ = some (.slice on_ ln cn)) (go_keep)
    (first
      | (go_at_call 56; refine (spec_textOf _ _).mono ?_; rintro e w' ⟨rfl, hb⟩; (first | (replace H2 := Lib.hid (H2.out.next hb); (try replace HZ := Lib.hid (HZ.out.next hb))) | (replace H2 := Lib.hid (H2.out.next1 hb)) | (have HZ := Lib.hid (H2.out.lit hb (by simp)).2; replace H2 := Lib.hid (H2.out.lit hb (by simp)).1; (first | replace HZ := Lib.hid (HZ.out.mv (n := w.heap.size + 1 + 1) (by simp)) | skip)) | (have HZ := Lib.hid (H2.out.lit1 hb).2; replace H2 := Lib.hid (H2.out.lit1 hb).1; (first | replace HZ := Lib.hid (HZ.out.mv (n := w.heap.size + 1 + 1) (by simp)) | skip))); clear hb x0 x1 x2 x3 x4 x5 x6 x7 x8 x9; have x0 := cell_of H2.out.arg 0; have x1 := cell_of H2.out.arg 1; have x2 := cell_of H2.out.arg 2; have x3 := cell_of H2.out.arg 3; have x4 := cell_of H2.out.arg 4; have x5 := cell_of H2.out.arg 5; have x6 := cell_of H2.out.arg 6; have x7 := cell_of H2.out.arg 7; have x8 := cell_of H2.out.arg 8; have x9 := cell_of H2.out.arg 9; simp only [List.getElem?_toArray, List.getElem?_cons_zero, List.getElem?_cons_succ] at x0 x1 x2 x3 x4 x5 x6 x7 x8 x9)
      | (go_at_call 55; refine (spec_intOf _ _).mono ?_; rintro e w' ⟨rfl, hb⟩; (first | (replace H2 := Lib.hid (H2.out.next hb); (try replace HZ := Lib.hid (HZ.out.next hb))) | (replace H2 := Lib.hid (H2.out.next1 hb)) | (have HZ := Lib.hid (H2.out.lit hb (by simp)).2; replace H2 := Lib.hid (H2.out.lit hb (by simp)).1; (first | replace HZ := Lib.hid (HZ.out.mv (n := w.heap.size + 1 + 1) (by simp)) | skip)) | (have HZ := Lib.hid (H2.out.lit1 hb).2; replace H2 := Lib.hid (H2.out.lit1 hb).1; (first | replace HZ := Lib.hid (HZ.out.mv (n := w.heap.size + 1 + 1) (by simp)) | skip))); clear hb x0 x1 x2 x3 x4 x5 x6 x7 x8 x9; have x0 := cell_of H2.out.arg 0; have x1 := cell_of H2.out.arg 1; have x2 := cell_of H2.out.arg 2; have x3 := cell_of H2.out.arg 3; have x4 := cell_of H2.out.arg 4; have x5 := cell_of H2.out.arg 5; have x6 := cell_of H2.out.arg 6; have x7 := cell_of H2.out.arg 7; have x8 := cell_of H2.out.arg 8; have x9 := cell_of H2.out.arg 9; simp only [List.getElem?_toArray, List.getElem?_cons_zero, List.getElem?_cons_succ] at x0 x1 x2 x3 x4 x5 x6 x7 x8 x9)
      | (go_at_call 87; refine (HM.out _ _ _ (by first | exact (HZ.out.lit1 (Below.refl _ _)).at_ | exact (H2.out.lits1 (Below.refl _ _)).2.1.at_ | exact (H2.out.lits1 (Below.refl _ _)).2.2.at_ | exact (HZ.out.lit (Below.refl _ _) (by simp [World.drew])).at_ | exact (H2.out.lits (Below.refl _ _) (by simp [World.drew])).2.1.at_ | exact (H2.out.lits (Below.refl _ _) (by simp [World.drew])).2.2.at_) (by first | exact (H2.out.lit1 (Below.refl _ _)).2.at_ | exact (H2.out.lits1 (Below.refl _ _)).2.2.at_ | exact (H2.out.lits1 (Below.refl _ _)).2.1.at_ | exact (H2.out.lit (Below.refl _ _) (by simp [World.drew])).2.at_ | exact (H2.out.lits (Below.refl _ _) (by simp [World.drew])).2.2.at_ | exact (H2.out.lits (Below.refl _ _) (by simp [World.drew])).2.1.at_)).mono ?_; rintro e w' ⟨kr, dr, G, rfl, hl, hf, hb⟩; obtain ⟨⟨o3, q3, rfl⟩, ⟨o4, q4, rfl⟩⟩ := hl.slices; have HL := Lib.hid (res_keep H2.out hl hf (by first | (simp; done) | (simp; omega))); clear hl hf; (first | (replace HZ := Lib.hid (HZ.out.lit1 hb); have HN := Lib.hid (H2.out.lit1 hb).2; replace H2 := Lib.hid (H2.out.lit1 hb).1) | (have HZ := Lib.hid (H2.out.lits1 hb).2.1; have HN := Lib.hid (H2.out.lits1 hb).2.2; replace H2 := Lib.hid (H2.out.lits1 hb).1; (first | (have h9 := HZ.out; have h8 : One w w' _ (.cells #[.string ⟨#[107, 105, 110, 100]⟩, .string ⟨#[110, 97, 109, 101]⟩, .string ⟨#[116, 97, 114, 103, 101, 116]⟩, .string ⟨#[108, 111, 119]⟩, .string ⟨#[104, 105, 103, 104]⟩] 9) := h9; clear h8 h9) | (have hq := HZ; replace HZ := HN; replace HN := hq; clear hq))) | (have HN := Lib.hid (H2.out.lit hb (by simp)).2; replace HZ := Lib.hid (HZ.out.lit hb (by simp)); replace H2 := Lib.hid (H2.out.lit hb (by simp)).1) | (have HZ := Lib.hid (H2.out.lits hb (by simp)).2.1; have HN := Lib.hid (H2.out.lits hb (by simp)).2.2; replace H2 := Lib.hid (H2.out.lits hb (by simp)).1; (first | (have h9 := HZ.out; have h8 : One w w' _ (.cells #[.string ⟨#[107, 105, 110, 100]⟩, .string ⟨#[110, 97, 109, 101]⟩, .string ⟨#[116, 97, 114, 103, 101, 116]⟩, .string ⟨#[108, 111, 119]⟩, .string ⟨#[104, 105, 103, 104]⟩] 9) := h9; clear h8 h9) | (have hq := HZ; replace HZ := HN; replace HN := hq; clear hq)))); clear hb x0 x1 x2 x3 x4 x5 x6 x7 x8 x9; have x0 := cell_of H2.out.arg 0; have x1 := cell_of H2.out.arg 1; have x2 := cell_of H2.out.arg 2; have x3 := cell_of H2.out.arg 3; have x4 := cell_of H2.out.arg 4; have x5 := cell_of H2.out.arg 5; have x6 := cell_of H2.out.arg 6; have x7 := cell_of H2.out.arg 7; have x8 := cell_of H2.out.arg 8; have x9 := cell_of H2.out.arg 9; simp only [List.getElem?_toArray, List.getElem?_cons_zero, List.getElem?_cons_succ] at x0 x1 x2 x3 x4 x5 x6 x7 x8 x9; obtain ⟨r0, r1, r2, r3, r4, r5⟩ := five H2.out.res))
  all_goals
    have HF := res_fin H2.out HL.out
    go_wp2
    exact bodyPost_ret (ret_node Tryz.results72 rfl HF.1) rfl ⟨_, _, _, rfl, HF.2.1, HF.2.2.1, HF.2.2.2⟩
end Go.Proofs.YtelpkcbbipianaaGreat

/- metrics, notes, paces and heads of orders are held against each other field by field; slices.Equal tells of two lists of metrics, and of two lists of notes, whether they are the same; the laws' eqMetricS and eqNoteS answer true of two that are. -/
namespace Go.Proofs.YtelpkcbbipianaaGreat
open Go Go.RowKit

noncomputable def sameO {α : Type} (a b : α) : Bool := @decide (a = b) (Classical.propDecidable _)
theorem sameO_yes {α : Type} {a b : α} (h : a = b) : sameO a b = true := by simp [sameO, h]
theorem sameO_no {α : Type} {a b : α} (h : ¬ a = b) : sameO a b = false := by simp [sameO, h]
theorem below_drewO {B : Nat} {a w : World} (h : Below B a w) (n : Nat) : Below B a (w.drewN n) := h.trans ⟨rfl, rfl, rfl, Nat.le_refl _, fun _ _ => rfl⟩

set_option maxHeartbeats 1000000 in
theorem neq_pac (x y : Pac) (w : World) : (binOp .neq 63 (.agg #[.int .i64 x.up, .int .i64 x.down, .int .i64 x.ups, .int .i64 x.downs]) (.agg #[.int .i64 y.up, .int .i64 y.down, .int .i64 y.ups, .int .i64 y.downs])).run Tryz.prog w = .ok (.bool (!sameO x y)) w := by
  have u3 := Tryz.underlying3
  have a3 := Tryz.isAgg3
  have z3 := Tryz.sizeOf3
  have hS : Tryz.prog.underlying 63 = some (.struct (Tryz.prog.fieldsOf 63)) := by kernel_rfl
  have hp : Tryz.prog.stoodInHeld 63 = false := by kernel_rfl
  rw [run_neq_struct, show (10000 : Nat) = 9999 + 1 from rfl, run_equalIn_agg w 9999 63 _ _ hS hp]
  simp only [Program.fieldsOf, Tryz.underlying63]
  go_simp
  by_cases h : x = y
  · rw [sameO_yes h]; subst h; simp
  · rw [sameO_no h]
    by_cases h0 : x.up = y.up
    case neg => simp [h0]
    by_cases h1 : x.down = y.down
    case neg => simp [h1, h0]
    by_cases h2 : x.ups = y.ups
    case neg => simp [h2, h0, h1]
    by_cases h3 : x.downs = y.downs
    case neg => simp [h3, h0, h1, h2]
    exact absurd (by cases x; cases y; simp_all) h


end Go.Proofs.YtelpkcbbipianaaGreat

/- plain facts on texts that may be written as they are: 1 to 60 bytes, a letter first, then letters, digits and four signs; none of three words. -/
namespace Go.Proofs.YtelpkcbbipianaaGreat
open Go Go.RowKit

def isLet (b : UInt8) : Bool := (decide (97 ≤ b.toNat) && decide (b.toNat ≤ 122)) || (decide (65 ≤ b.toNat) && decide (b.toNat ≤ 90))
def isDig (b : UInt8) : Bool := decide (48 ≤ b.toNat) && decide (b.toNat ≤ 57)
def isSgn (b : UInt8) : Bool := decide (b = 95 ∨ b = 46 ∨ b = 47 ∨ b = 45)
def okP (b : UInt8) : Bool := isLet b || (isDig b || isSgn b)
/-- A letter first, then what may stand behind one. -/
def goodL : List UInt8 → Bool
  | [] => true
  | b :: l => isLet b && l.all okP
def noWord (s : ByteArray) : Bool := ((!s.toList == [110, 117, 108, 108]) && (!s.toList == [116, 114, 117, 101])) && (!s.toList == [102, 97, 108, 115, 101])
def plainB (s : ByteArray) : Bool := (decide (1 ≤ s.size ∧ s.size ≤ 60) && goodL s.data.toList) && noWord s

theorem okP_let {b : UInt8} (h : isLet b = true) : okP b = true := by simp [okP, h]

theorem goodL_snoc (l : List UInt8) (b : UInt8) : goodL (l ++ [b]) = (goodL l && (if l.length = 0 then isLet b else okP b)) := by
  cases l with
  | nil => simp [goodL]
  | cons x l => simp [goodL, Bool.and_assoc]

theorem take_snoc (s : ByteArray) (k : Nat) (h : k < s.size) : s.data.toList.take (k + 1) = s.data.toList.take k ++ [s[k]] := by
  rw [List.take_succ_eq_append_getElem (by simpa using h)]; rfl

theorem goodL_step {s : ByteArray} {k : Nat} (hk : k < s.size) : goodL (s.data.toList.take (k + 1)) = (goodL (s.data.toList.take k) && (if k = 0 then isLet s[k] else okP s[k])) := by
  have hl : (s.data.toList.take k).length = k := by rw [List.length_take]; have : s.data.toList.length = s.size := by simp
                                                    omega
  rw [take_snoc s k hk, goodL_snoc, hl]

theorem goodL_pre {l : List UInt8} : ∀ {m : List UInt8}, goodL (l ++ m) = true → goodL l = true := by
  intro m h
  cases l with
  | nil => rfl
  | cons x l =>
    simp only [List.cons_append, goodL, Bool.and_eq_true, List.all_append] at h ⊢
    exact ⟨h.1, h.2.1⟩

theorem goodL_bad {s : ByteArray} {k : Nat} (h : goodL (s.data.toList.take (k + 1)) = false) : plainB s = false := by
  have : goodL s.data.toList = false := by
    rcases Bool.eq_false_or_eq_true (goodL s.data.toList) with h1 | h1
    · exfalso
      rw [← List.take_append_drop (k + 1) s.data.toList] at h1
      rw [goodL_pre h1] at h
      cases h
    · exact h1
  simp [plainB, this]

theorem goodL_end {s : ByteArray} {k : Nat} (hk : ¬ k < s.size) : s.data.toList.take k = s.data.toList :=
  List.take_of_length_le (by simp only [Array.length_toList]; have : s.size = s.data.size := rfl; omega)

end Go.Proofs.YtelpkcbbipianaaGreat

/- plain facts on names: 1 to 20 bytes, a small letter first, then small letters, digits and the sign 45. -/
namespace Go.Proofs.YtelpkcbbipianaaGreat
open Go Go.RowKit

def isSml (b : UInt8) : Bool := decide (97 ≤ b.toNat) && decide (b.toNat ≤ 122)
def okN (b : UInt8) : Bool := isSml b || (isDig b || decide (b = 45))
/-- A small letter first, then what may stand behind one. -/
def nameL : List UInt8 → Bool
  | [] => true
  | b :: l => isSml b && l.all okN
def nameB (s : ByteArray) : Bool := decide (1 ≤ s.size ∧ s.size ≤ 20) && nameL s.data.toList

theorem okN_sml {b : UInt8} (h : isSml b = true) : okN b = true := by simp [okN, h]

theorem nameL_snoc (l : List UInt8) (b : UInt8) : nameL (l ++ [b]) = (nameL l && (if l.length = 0 then isSml b else okN b)) := by
  cases l with
  | nil => simp [nameL]
  | cons x l => simp [nameL, Bool.and_assoc]

theorem nameL_step {s : ByteArray} {k : Nat} (hk : k < s.size) : nameL (s.data.toList.take (k + 1)) = (nameL (s.data.toList.take k) && (if k = 0 then isSml s[k] else okN s[k])) := by
  have hl : (s.data.toList.take k).length = k := by rw [List.length_take]; have : s.data.toList.length = s.size := by simp
                                                    omega
  rw [take_snoc s k hk, nameL_snoc, hl]

theorem nameL_pre {l : List UInt8} : ∀ {m : List UInt8}, nameL (l ++ m) = true → nameL l = true := by
  intro m h
  cases l with
  | nil => rfl
  | cons x l =>
    simp only [List.cons_append, nameL, Bool.and_eq_true, List.all_append] at h ⊢
    exact ⟨h.1, h.2.1⟩

theorem nameL_bad {s : ByteArray} {k : Nat} (h : nameL (s.data.toList.take (k + 1)) = false) : nameB s = false := by
  have : nameL s.data.toList = false := by
    rcases Bool.eq_false_or_eq_true (nameL s.data.toList) with h1 | h1
    · exfalso
      rw [← List.take_append_drop (k + 1) s.data.toList] at h1
      rw [nameL_pre h1] at h
      cases h
    · exact h1
  simp [nameB, this]
end Go.Proofs.YtelpkcbbipianaaGreat

/- for any text the program's NameOk answers as the model's NameOk does; what lies within bounds is told alike by both. -/
namespace Go.Proofs.YtelpkcbbipianaaGreat
open Go Go.RowKit

/-- From low to high. -/
def inB (x lo hi : Int) : Bool := decide (lo ≤ x) && decide (x ≤ hi)

theorem spec_inB (x lo hi : Int) (w : World) : Calls Tryz.prog 47 #[.int .i64 x, .int .i64 lo, .int .i64 hi] w fun e w' => e = .returned (.bool (inB x lo hi)) ∧ w' = w := by
  by_cases h1 : lo ≤ x <;> by_cases h2 : x ≤ hi
  all_goals
    go_enter Tryz.func47, Tryz.ntmps47
    go_wp2
    go_ret
    refine ⟨?_, rfl⟩
    simp [inB, h1, h2]

set_option maxRecDepth 100000 in
set_option maxHeartbeats 1000000 in
theorem spec_nameOk (s : ByteArray) (hm : s.size ≤ maxLen) (w : World) :
    Calls Tryz.prog 83 #[.string s] w fun e w' => e = .returned (.bool (nameB s)) ∧ w' = w := by
  unfold maxLen at hm
  go_enter Tryz.func83, Tryz.ntmps83
  go_wp2
  go_loop [3] (fun i => ∃ k : Nat, k ≤ s.size ∧ i = .int .i64 k ∧ Hid (nameL (s.data.toList.take k) = true)) (fun i => s.size - (intOf i).toNat)
  case atStart => exact ⟨0, Nat.zero_le _, rfl, rfl⟩
  case round =>
    obtain ⟨k, hk, rfl, hr⟩ := hrel
    by_cases hlt : k < s.size
    · have HG := Lib.hid (nameL_step hlt)
      rw [hr.out, Bool.true_and] at HG
      generalize hb : s[k] = b at *
      by_cases a1 : 97 ≤ b.toNat
      · by_cases a2 : b.toNat ≤ 122
        · have HS : Hid (nameL (s.data.toList.take (k + 1)) = true) := by
            show _ = _
            have e : isSml b = true := by simp [isSml, a1, a2]
            rw [HG.out, e, okN_sml e]; simp
          clear HG
          go_wp2
          all_goals exact ⟨⟨k + 1, by omega, by go_num, HS.out⟩, by simp [intOf]; omega⟩
        · have HN : Hid (nameB s = false) := nameL_bad (k := k) (by
            rw [HG.out]
            have e : isSml b = false := by simp [isSml, a2]
            have e2 : okN b = false := by
              have : ¬ b = 45 := by rintro rfl; exact a2 (by decide)
              have : isDig b = false := by simp [isDig]; omega
              simp [okN, *]
            rw [e, e2]; simp)
          have e45 : ((b.toNat : Int) == 45) = false := by simp; omega
          have e57 : decide ((b.toNat : Int) ≤ 57) = false := by simp; omega
          have e122 : decide ((b.toNat : Int) ≤ 122) = false := by simp; omega
          clear HG
          by_cases hk0 : k = 0
          · subst hk0
            go_wp2
            go_ret
            exact ⟨by rw [HN.out]; rfl, rfl⟩
          · have e0 : 0 < (k : Int) := by omega
            clear hk0
            go_wp2
            go_ret
            exact ⟨by rw [HN.out]; rfl, rfl⟩
      · have e : isSml b = false := by simp [isSml, a1]
        by_cases hk0 : k = 0
        · subst hk0
          have HN : Hid (nameB s = false) := nameL_bad (k := 0) (by rw [HG.out, e]; rfl)
          clear HG e
          go_wp2
          all_goals
            go_ret
            exact ⟨by rw [HN.out]; rfl, rfl⟩
        · have e0 : 0 < (k : Int) := by omega
          rw [if_neg hk0, okN, e, Bool.false_or] at HG
          clear e
          by_cases h45 : b = 45
          · have HS : Hid (nameL (s.data.toList.take (k + 1)) = true) := by
              show _ = _
              rw [HG.out, h45]; rfl
            clear HG
            subst h45
            go_wp2
            all_goals exact ⟨⟨k + 1, by omega, by go_num, HS.out⟩, by simp [intOf]; omega⟩
          · rw [decide_eq_false h45, Bool.or_false] at HG
            have n4 : ((b.toNat : Int) == 45) = false := by
              simp; intro h; exact h45 (UInt8.toNat_inj.1 (Int.ofNat_inj.1 h))
            clear h45
            by_cases d1 : 48 ≤ b.toNat
            · by_cases d2 : b.toNat ≤ 57
              · have HS : Hid (nameL (s.data.toList.take (k + 1)) = true) := by
                  show _ = _
                  rw [HG.out]; simp [isDig, d1, d2]
                clear HG
                go_wp2
                all_goals exact ⟨⟨k + 1, by omega, by go_num, HS.out⟩, by simp [intOf]; omega⟩
              · have HN : Hid (nameB s = false) := nameL_bad (k := k) (by rw [HG.out]; simp [isDig, d1, d2])
                have d3 : decide ((b.toNat : Int) ≤ 57) = false := by simp; omega
                clear HG
                go_wp2
                all_goals
                  go_ret
                  exact ⟨by rw [HN.out]; rfl, rfl⟩
            · have HN : Hid (nameB s = false) := nameL_bad (k := k) (by rw [HG.out]; simp [isDig, d1])
              clear HG
              go_wp2
              all_goals
                go_ret
                exact ⟨by rw [HN.out]; rfl, rfl⟩
    · have HE : Hid (nameL s.data.toList = true) := by show _ = _; rw [← goodL_end hlt]; exact hr.out
      have h1 := fun w => spec_inB s.size 1 20 w
      have HP : Hid (nameB s = inB s.size 1 20) := by
        show _ = _
        unfold nameB inB
        rw [HE.out, Bool.and_true]
        by_cases a : 1 ≤ s.size <;> by_cases b : s.size ≤ 20 <;> simp [a, b] <;> omega
      rw [← HP.out] at h1
      go_wp2_with (first
        | (go_at_call 47; refine (h1 _).mono ?_; rintro e w1 ⟨rfl, e1⟩; subst e1)
        | fail)
      go_ret
      exact ⟨rfl, rfl⟩

end Go.Proofs.YtelpkcbbipianaaGreat

/- for any metric and any pace the program's MetricOk, PaceOk and PaceNew answer as the model's do. -/
namespace Go.Proofs.YtelpkcbbipianaaGreat
open Go Go.RowKit

def metB (s : ByteArray) (k g : Int) : Bool := (nameB s && inB k 1 3) && inB g 1 1000000
def paceB (u d us ds : Int) : Bool := ((inB u 0 1000 && inB d 0 1000) && inB us 0 3600) && inB ds 0 3600
set_option maxRecDepth 100000 in
set_option maxHeartbeats 1000000 in
theorem spec_metricOk (s : ByteArray) (k g : Int) (hm : s.size ≤ maxLen) (w : World) :
    Calls Tryz.prog 102 #[.agg #[.string s, .int .i64 k, .int .i64 g]] w fun e w' => e = .returned (.bool (metB s k g)) ∧ Below w.heap.size w w' := by
  have h1 := Lib.hid (spec_nameOk s hm)
  have HB : Hid (∀ o, Below w.heap.size w (w.alloc o)) := fun o => (Below.refl _ w).alloc (Nat.le_refl _) o
  unfold metB
  clear hm
  generalize nameB s = b1 at *
  rcases hb2 : inB k 1 3 <;> rcases hb3 : inB g 1 1000000 <;> cases b1
  all_goals
    go_enter Tryz.func102, Tryz.ntmps102
    go_wp2_with (first
      | (go_at_call 83; refine (h1.out _).mono ?_; rintro e w1 ⟨rfl, e1⟩; subst e1)
      | (go_at_call 47; refine (spec_inB _ _ _ _).mono ?_; rintro e w1 ⟨rfl, e1⟩; subst e1; first | rw [hb2] | rw [hb3])
      | fail)
    go_ret
    exact ⟨rfl, HB.out _⟩
set_option maxRecDepth 100000 in
set_option maxHeartbeats 1000000 in
theorem spec_paceOk (u d us ds : Int) (w : World) :
    Calls Tryz.prog 85 #[.agg #[.int .i64 u, .int .i64 d, .int .i64 us, .int .i64 ds]] w fun e w' => e = .returned (.bool (paceB u d us ds)) ∧ Below w.heap.size w w' := by
  have HB : Hid (∀ o, Below w.heap.size w (w.alloc o)) := fun o => (Below.refl _ w).alloc (Nat.le_refl _) o
  unfold paceB
  rcases hb1 : inB u 0 1000 <;> rcases hb2 : inB d 0 1000 <;> rcases hb3 : inB us 0 3600 <;> rcases hb4 : inB ds 0 3600
  all_goals
    go_enter Tryz.func85, Tryz.ntmps85
    go_wp2_with (first
      | (go_at_call 47; refine (spec_inB _ _ _ _).mono ?_; rintro e w1 ⟨rfl, e1⟩; subst e1; first | rw [hb1] | rw [hb2] | rw [hb3] | rw [hb4])
      | fail)
    go_ret
    exact ⟨rfl, HB.out _⟩

theorem ret_met {fn : Func} {i : Nat} (hres : fn.results = #[ResultVar.cell i 96]) {tmps : Array Value} {w : World} {b : Nat} {t : TypeId} {a0 a1 a2 : Value}
    (ht : tmps[i]?.getD undef = .pointer (some ⟨b, 0, none⟩)) (h : w.heap[b]? = some (.cells #[a0, a1, a2] t (0, 0))) : (results fn tmps).run Tryz.prog w = .ok (.agg #[a0, a1, a2]) w := by
  have c0 : w.cell? ⟨b, 0, none⟩ = some a0 := by simp [World.cell?, h]
  have c1 : w.cell? ⟨b, 1, none⟩ = some a1 := by simp [World.cell?, h]
  have c2 : w.cell? ⟨b, 2, none⟩ = some a2 := by simp [World.cell?, h]
  simp [results, hres, ht, go_sem, c0, c1, c2]

theorem ret_pace {fn : Func} {i : Nat} (hres : fn.results = #[ResultVar.cell i 63]) {tmps : Array Value} {w : World} {b : Nat} {t : TypeId} {a0 a1 a2 a3 : Value}
    (ht : tmps[i]?.getD undef = .pointer (some ⟨b, 0, none⟩)) (h : w.heap[b]? = some (.cells #[a0, a1, a2, a3] t (0, 0))) : (results fn tmps).run Tryz.prog w = .ok (.agg #[a0, a1, a2, a3]) w := by
  have c0 : w.cell? ⟨b, 0, none⟩ = some a0 := by simp [World.cell?, h]
  have c1 : w.cell? ⟨b, 1, none⟩ = some a1 := by simp [World.cell?, h]
  have c2 : w.cell? ⟨b, 2, none⟩ = some a2 := by simp [World.cell?, h]
  have c3 : w.cell? ⟨b, 3, none⟩ = some a3 := by simp [World.cell?, h]
  simp [results, hres, ht, go_sem, c0, c1, c2, c3]

set_option maxHeartbeats 1000000 in
theorem spec_paceNew (w : World) : Calls Tryz.prog 80 #[] w fun e w' => e = .returned (.agg #[.int .i64 0, .int .i64 0, .int .i64 0, .int .i64 300]) ∧ Below w.heap.size w w' := by
  have HB : Hid (∀ o, Below w.heap.size w (w.alloc o)) := fun o => (Below.refl _ w).alloc (Nat.le_refl _) o
  have HL : Hid (∀ o, (w.alloc o).heap[w.heap.size]? = some o) := fun o => by
    show (w.heap.push o)[w.heap.size]? = _
    simp
  go_enter Tryz.func80, Tryz.ntmps80
  go_wp2
  exact bodyPost_ret (ret_pace Tryz.results80 rfl (HL.out _)) rfl ⟨rfl, HB.out _⟩

end Go.Proofs.YtelpkcbbipianaaGreat

/- one operation of a region whose order Go leaves open may be taken first, whether its guard lets it run or not. -/
namespace Go.Proofs.YtelpkcbbipianaaGreat
open Go

/-- One operation of a drawn region is taken first: what it leaves lies in the slot d. -/
theorem takeD {P : Program} {ops : Array Oper} {Q : Exit → Act → World → Prop} {md : Region.Mode} {S : World → Prop} (i d : Nat) (v : Value) {oi : Oper} {fuel : Nat} {listed : Array Bool} {a : Act} {w : World} (hi : ops[i]? = some oi) (hd : oi.dst = some d)
    (hs : Region.noSelect ops = true) (hf : Region.free md ops listed i = true) (hr : (Region.ready md ops listed).contains i = true)
    (hQ : ∀ c a w, Q (.panic c) (a.put (some d) v) w → Q (.panic c) a w) (hy : YieldsIf P ops S oi v a) (hS : S w)
    (h : wpAnyH P md ops Q S fuel (listed.setIfInBounds i true) (a.put (some d) v) w) : wpAnyH P md ops Q S (fuel + 1) listed a w :=
  wpAnyH_take hi hs hf hr (by rw [hd]; exact hQ) hy hS (by rw [hd]; exact h)

/-- takeD, what a kernel sees by itself left out. -/
theorem takeV {P : Program} {ops : Array Oper} {Q : Exit → Act → World → Prop} {md : Region.Mode} {S : World → Prop} (i d : Nat) (v : Value) {oi : Oper} {fuel : Nat} {listed : Array Bool} {a : Act} {w : World} (hi : ops[i]? = some oi) (hd : oi.dst = some d)
    (hy : YieldsIf P ops S oi v a) (h : wpAnyH P md ops Q S fuel (listed.setIfInBounds i true) (a.put (some d) v) w)
    (hs : Region.noSelect ops = true := by kernel_rfl) (hf : Region.free md ops listed i = true := by kernel_rfl) (hr : (Region.ready md ops listed).contains i = true := by kernel_rfl)
    (hQ : ∀ c a w, Q (.panic c) (a.put (some d) v) w → Q (.panic c) a w := by exact fun _ _ _ h => h) (hS : S w := by assumption) : wpAnyH P md ops Q S (fuel + 1) listed a w :=
  takeD i d v hi hd hs hf hr hQ hy hS h
end Go.Proofs.YtelpkcbbipianaaGreat
