/-
  What is proved: the model's l7Head of an order: what all shapes have, in memory of its own; no condition but how long names are.; metrics, notes, paces and heads of orders are held against each other field by field; slices.Equal tells of two lists of metrics, and of two lists of notes, whether they are the same; the laws' eqMetricS and eqNoteS answer true of two that are.; plain facts on texts that may be written as they are: 1 to 60 bytes, a letter first, then letters, digits and four signs; none of three words.; plain facts on names: 1 to 20 bytes, a small letter first, then small letters, digits and the sign 45.; for any text the program's NameOk answers as the model's NameOk does; what lies within bounds is told alike by both.
-/
import Derived.Test.YtfmkhogpnnobeaaGreatDoorPartAF
import Derived.Test.YtfmkhogpnnobeaaGreatDoorPartAH
import Derived.Test.YtfmkhogpnnobeaaGreatDoorPartAD
import Derived.Test.YtfmkhogpnnobeaaGreatDoorRows
import Derived.Below
import Derived.WalkKit
import Derived.WalkSpells
import Derived.Lib.Hide
import Derived.Lib.Bytealg
/- the model's l7Head of an order: what all shapes have, in memory of its own; no condition but how long names are. -/
namespace Go.Proofs.YtfmkhogpnnobeaaGreatDoor
open Go Go.RowKit

/-- What all shapes have. -/
def headT (kd : ByteArray) (O : Ord) : RT := .node 5 0 ⟨#[]⟩ [⟨#[104, 105, 103, 104]⟩, ⟨#[107, 105, 110, 100]⟩, ⟨#[108, 111, 119]⟩, ⟨#[110, 97, 109, 101]⟩, ⟨#[116, 97, 114, 103, 101, 116]⟩] [.node 2 O.high ⟨#[]⟩ [] [], .node 3 0 kd [] [], .node 2 O.low ⟨#[]⟩ [] [], .node 3 0 O.name [] [], .node 3 0 O.target [] []]
theorem headT_leaves (kd : ByteArray) (O : Ord) (h1 : O.name.size ≤ 20) (h2 : O.target.size ≤ 20) (h3 : kd.size ≤ 20) (h4 : Fit O.low) (h5 : Fit O.high) : ∀ t ∈ (headT kd O).kids, LeafK t := by
  intro t ht
  have hm : 20 ≤ maxLen := by decide
  simp only [headT, RT.kids, List.mem_cons, List.not_mem_nil, or_false] at ht
  rcases ht with rfl | rfl | rfl | rfl | rfl
  · exact leafK _ _ _ ⟨by decide, by decide⟩ h5 (by decide)
  · exact leafK _ _ _ ⟨by decide, by decide⟩ ⟨by decide, by decide⟩ (by omega)
  · exact leafK _ _ _ ⟨by decide, by decide⟩ h4 (by decide)
  · exact leafK _ _ _ ⟨by decide, by decide⟩ ⟨by decide, by decide⟩ (by omega)
  · exact leafK _ _ _ ⟨by decide, by decide⟩ ⟨by decide, by decide⟩ (by omega)
theorem headT_keys (kd : ByteArray) (O : Ord) : ∀ k ∈ (headT kd O).keys, k.size ≤ maxLen := by
  intro t ht
  simp only [headT, RT.keys, List.mem_cons, List.not_mem_nil, or_false] at ht
  rcases ht with rfl | rfl | rfl | rfl | rfl <;> decide

theorem headT_map (kd : ByteArray) (O : Ord) : mapN [⟨#[107, 105, 110, 100]⟩, ⟨#[110, 97, 109, 101]⟩, ⟨#[116, 97, 114, 103, 101, 116]⟩, ⟨#[108, 111, 119]⟩, ⟨#[104, 105, 103, 104]⟩] [.node 3 0 kd [] [], .node 3 0 O.name [] [], .node 3 0 O.target [] [], .node 2 O.low ⟨#[]⟩ [] [], .node 2 O.high ⟨#[]⟩ [] []] 5 = headT kd O := by
  show (setT (setT (setT (setT (setT (.node 5 0 ⟨#[]⟩ [] []) ⟨#[107, 105, 110, 100]⟩ (.node 3 0 kd [] [])) ⟨#[110, 97, 109, 101]⟩ (.node 3 0 O.name [] [])) ⟨#[116, 97, 114, 103, 101, 116]⟩ (.node 3 0 O.target [] [])) ⟨#[108, 111, 119]⟩ (.node 2 O.low ⟨#[]⟩ [] [])) ⟨#[104, 105, 103, 104]⟩ (.node 2 O.high ⟨#[]⟩ [] [])) = _
  rw [setT_new (by rfl) (show firstN [] ⟨#[107, 105, 110, 100]⟩ = 0 by decide +kernel) (show placeN [] ⟨#[107, 105, 110, 100]⟩ = 0 by decide +kernel)]
  show (setT (setT (setT (setT (.node 5 0 ⟨#[]⟩ [⟨#[107, 105, 110, 100]⟩] [.node 3 0 kd [] []]) ⟨#[110, 97, 109, 101]⟩ (.node 3 0 O.name [] [])) ⟨#[116, 97, 114, 103, 101, 116]⟩ (.node 3 0 O.target [] [])) ⟨#[108, 111, 119]⟩ (.node 2 O.low ⟨#[]⟩ [] [])) ⟨#[104, 105, 103, 104]⟩ (.node 2 O.high ⟨#[]⟩ [] [])) = _
  rw [setT_new (by rfl) (show firstN [⟨#[107, 105, 110, 100]⟩] ⟨#[110, 97, 109, 101]⟩ = 1 by decide +kernel) (show placeN [⟨#[107, 105, 110, 100]⟩] ⟨#[110, 97, 109, 101]⟩ = 1 by decide +kernel)]
  show (setT (setT (setT (.node 5 0 ⟨#[]⟩ [⟨#[107, 105, 110, 100]⟩, ⟨#[110, 97, 109, 101]⟩] [.node 3 0 kd [] [], .node 3 0 O.name [] []]) ⟨#[116, 97, 114, 103, 101, 116]⟩ (.node 3 0 O.target [] [])) ⟨#[108, 111, 119]⟩ (.node 2 O.low ⟨#[]⟩ [] [])) ⟨#[104, 105, 103, 104]⟩ (.node 2 O.high ⟨#[]⟩ [] [])) = _
  rw [setT_new (by rfl) (show firstN [⟨#[107, 105, 110, 100]⟩, ⟨#[110, 97, 109, 101]⟩] ⟨#[116, 97, 114, 103, 101, 116]⟩ = 2 by decide +kernel) (show placeN [⟨#[107, 105, 110, 100]⟩, ⟨#[110, 97, 109, 101]⟩] ⟨#[116, 97, 114, 103, 101, 116]⟩ = 2 by decide +kernel)]
  show (setT (setT (.node 5 0 ⟨#[]⟩ [⟨#[107, 105, 110, 100]⟩, ⟨#[110, 97, 109, 101]⟩, ⟨#[116, 97, 114, 103, 101, 116]⟩] [.node 3 0 kd [] [], .node 3 0 O.name [] [], .node 3 0 O.target [] []]) ⟨#[108, 111, 119]⟩ (.node 2 O.low ⟨#[]⟩ [] [])) ⟨#[104, 105, 103, 104]⟩ (.node 2 O.high ⟨#[]⟩ [] [])) = _
  rw [setT_new (by rfl) (show firstN [⟨#[107, 105, 110, 100]⟩, ⟨#[110, 97, 109, 101]⟩, ⟨#[116, 97, 114, 103, 101, 116]⟩] ⟨#[108, 111, 119]⟩ = 3 by decide +kernel) (show placeN [⟨#[107, 105, 110, 100]⟩, ⟨#[110, 97, 109, 101]⟩, ⟨#[116, 97, 114, 103, 101, 116]⟩] ⟨#[108, 111, 119]⟩ = 1 by decide +kernel)]
  show (setT (.node 5 0 ⟨#[]⟩ [⟨#[107, 105, 110, 100]⟩, ⟨#[108, 111, 119]⟩, ⟨#[110, 97, 109, 101]⟩, ⟨#[116, 97, 114, 103, 101, 116]⟩] [.node 3 0 kd [] [], .node 2 O.low ⟨#[]⟩ [] [], .node 3 0 O.name [] [], .node 3 0 O.target [] []]) ⟨#[104, 105, 103, 104]⟩ (.node 2 O.high ⟨#[]⟩ [] [])) = _
  rw [setT_new (by rfl) (show firstN [⟨#[107, 105, 110, 100]⟩, ⟨#[108, 111, 119]⟩, ⟨#[110, 97, 109, 101]⟩, ⟨#[116, 97, 114, 103, 101, 116]⟩] ⟨#[104, 105, 103, 104]⟩ = 4 by decide +kernel) (show placeN [⟨#[107, 105, 110, 100]⟩, ⟨#[108, 111, 119]⟩, ⟨#[110, 97, 109, 101]⟩, ⟨#[116, 97, 114, 103, 101, 116]⟩] ⟨#[104, 105, 103, 104]⟩ = 0 by decide +kernel)]
  rfl

set_option maxRecDepth 100000 in
set_option maxHeartbeats 8000000 in
theorem spec_l7Head (kd : ByteArray) (O : Ord) (om on_ : Option Addr) (lm cm ln cn : Nat) (h1 : O.name.size ≤ 20) (h2 : O.target.size ≤ 20) (h3 : kd.size ≤ 20) (h4 : Fit O.low) (h5 : Fit O.high) (w : World) :
    Calls Tryz.prog 23 #[.agg #[.string O.name, .string O.target, .int .i64 O.low, .int .i64 O.high, .slice om lm cm, .int .i64 O.pace.up, .int .i64 O.pace.down, .int .i64 O.pace.ups, .int .i64 O.pace.downs, .slice on_ ln cn], .string kd] w fun e w' => ∃ kv dv F, e = .returned ((headT kd O).val kv dv) ∧ Lies w' (headT kd O) kv dv F ∧ Fresh w w' F ∧ Below w.heap.size w w' := by
  have HG := Lib.hid h1
  have HM : Hid (∀ X bz bn, X.heap[bz]? = some (.cells #[.string ⟨#[107, 105, 110, 100]⟩, .string ⟨#[110, 97, 109, 101]⟩, .string ⟨#[116, 97, 114, 103, 101, 116]⟩, .string ⟨#[108, 111, 119]⟩, .string ⟨#[104, 105, 103, 104]⟩] 9 (0, 0)) → X.heap[bn]? = some (.cells #[.int .i64 3, .int .i64 0, .string kd, .slice none 0 0, .slice none 0 0, .int .i64 3, .int .i64 0, .string O.name, .slice none 0 0, .slice none 0 0, .int .i64 3, .int .i64 0, .string O.target, .slice none 0 0, .slice none 0 0, .int .i64 2, .int .i64 O.low, .string ⟨#[]⟩, .slice none 0 0, .slice none 0 0, .int .i64 2, .int .i64 O.high, .string ⟨#[]⟩, .slice none 0 0, .slice none 0 0] 32 (0, 0)) → Calls Tryz.prog 59 #[.slice (some ⟨bz, 0, none⟩) 5 5, .slice (some ⟨bn, 0, none⟩) 5 5] X fun e w' => ∃ kr dr G, e = .returned (.agg #[.int .i64 (headT kd O).k, .int .i64 (headT kd O).n, .string (headT kd O).s, kr, dr]) ∧ Lies w' (headT kd O) kr dr G ∧ Fresh X w' G ∧ Below X.heap.size X w') := by
    intro X bz bn hz hn
    have hlf : ∀ t ∈ ([.node 3 0 kd [] [], .node 3 0 O.name [] [], .node 3 0 O.target [] [], .node 2 O.low ⟨#[]⟩ [] [], .node 2 O.high ⟨#[]⟩ [] []] : List RT), LeafK t := fun t ht => (headT_leaves kd O h1 h2 h3 h4 h5) t (by simp only [List.mem_cons, List.not_mem_nil, or_false] at ht; rcases ht with rfl | rfl | rfl | rfl | rfl <;> simp [headT, RT.kids])
    have h := spec_l7Map [⟨#[107, 105, 110, 100]⟩, ⟨#[110, 97, 109, 101]⟩, ⟨#[116, 97, 114, 103, 101, 116]⟩, ⟨#[108, 111, 119]⟩, ⟨#[104, 105, 103, 104]⟩] [.node 3 0 kd [] [], .node 3 0 O.name [] [], .node 3 0 O.target [] [], .node 2 O.low ⟨#[]⟩ [] [], .node 2 O.high ⟨#[]⟩ [] []] rfl X _ _ _ _ (strs_lit [⟨#[107, 105, 110, 100]⟩, ⟨#[110, 97, 109, 101]⟩, ⟨#[116, 97, 114, 103, 101, 116]⟩, ⟨#[108, 111, 119]⟩, ⟨#[104, 105, 103, 104]⟩] hz rfl (fun t ht => headT_keys kd O t (by simp only [List.mem_cons, List.not_mem_nil, or_false] at ht; rcases ht with rfl | rfl | rfl | rfl | rfl <;> simp [headT, RT.keys])) (show 5 ≤ maxLen by decide) (show 0 < 5 by decide))
      (kids_lit [.node 3 0 kd [] [], .node 3 0 O.name [] [], .node 3 0 O.target [] [], .node 2 O.low ⟨#[]⟩ [] [], .node 2 O.high ⟨#[]⟩ [] []] (fun _ => .slice none 0 0) (fun _ => .slice none 0 0) (fun _ => []) hn rfl (fun i hi j hj => by rw [← Array.getElem?_toList]; exact (rowsOf_get [.node 3 0 kd [] [], .node 3 0 O.name [] [], .node 3 0 O.target [] [], .node 2 O.low ⟨#[]⟩ [] [], .node 2 O.high ⟨#[]⟩ [] []] (fun _ => .slice none 0 0) (fun _ => .slice none 0 0) 5 i j hi hj).trans (by rw [List.getD_eq_getElem?_getD, List.getElem?_eq_getElem hi]; rfl)) (fun i hi => leaf_kid X _ (hlf _ (List.getElem_mem hi))) (show 5 ≤ maxLen by decide) (show 0 < 5 by decide)) (fun j hj => Nat.le_trans (mapN_le _ _ rfl hj) (by have a := h1; have k0 : (⟨#[107, 105, 110, 100]⟩ : ByteArray).size = 4 := rfl; have k1 : (⟨#[110, 97, 109, 101]⟩ : ByteArray).size = 4 := rfl; have k2 : (⟨#[116, 97, 114, 103, 101, 116]⟩ : ByteArray).size = 6 := rfl; have k3 : (⟨#[108, 111, 119]⟩ : ByteArray).size = 3 := rfl; have k4 : (⟨#[104, 105, 103, 104]⟩ : ByteArray).size = 4 := rfl; have kn : (⟨#[]⟩ : ByteArray).size = 0 := rfl; simp only [szAll, strSz, RT.sz, List.length_cons, List.length_nil, List.map_cons, List.map_nil, List.sum_cons, List.sum_nil]; omega)) (fun p hp => Nat.le_trans (sz_take _ hp) (by have a := h1; have kn : (⟨#[]⟩ : ByteArray).size = 0 := rfl; simp only [szAll, strSz, RT.sz, List.length_nil, List.map_nil, List.sum_nil]; omega)) (show 5 ≤ 1000000 by decide) _ (headT_map kd O)
    exact h
  generalize headT kd O = T at *
  clear h1 h2 h3 h4 h5
  go_enter Tryz.func23, Tryz.ntmps23
  go_wp2_with fail
  have H2 := Lib.hid (Two.start w (.cells #[.string O.name, .string O.target, .int .i64 O.low, .int .i64 O.high, .slice om lm cm, .int .i64 O.pace.up, .int .i64 O.pace.down, .int .i64 O.pace.ups, .int .i64 O.pace.downs, .slice on_ ln cn] 38) (.cells #[.int .i64 0, .int .i64 0, .string ⟨#[]⟩, .slice none 0 0, .slice none 0 0] 32))
  have x0 := cell_of H2.out.arg 0
  have x1 := cell_of H2.out.arg 1
  have x2 := cell_of H2.out.arg 2
  have x3 := cell_of H2.out.arg 3
  have x4 := cell_of H2.out.arg 4
  have x5 := cell_of H2.out.arg 5
  have x6 := cell_of H2.out.arg 6
  have x7 := cell_of H2.out.arg 7
  have x8 := cell_of H2.out.arg 8
  have x9 := cell_of H2.out.arg 9
  simp only [List.getElem?_toArray, List.getElem?_cons_zero, List.getElem?_cons_succ] at x0 x1 x2 x3 x4 x5 x6 x7 x8 x9
  go_region_held3 (fun w' => w'.cell? ⟨w.heap.size, 0, none⟩ = some (.string O.name) ∧ w'.cell? ⟨w.heap.size, 1, none⟩ = some (.string O.target) ∧ w'.cell? ⟨w.heap.size, 2, none⟩ = some (.int .i64 O.low) ∧ w'.cell? ⟨w.heap.size, 3, none⟩ = some (.int .i64 O.high) ∧ w'.cell? ⟨w.heap.size, 4, none⟩ = some (.slice om lm cm) ∧ w'.cell? ⟨w.heap.size, 5, none⟩ = some (.int .i64 O.pace.up) ∧ w'.cell? ⟨w.heap.size, 6, none⟩ = some (.int .i64 O.pace.down) ∧ w'.cell? ⟨w.heap.size, 7, none⟩ = some (.int .i64 O.pace.ups) ∧ w'.cell? ⟨w.heap.size, 8, none⟩ = some (.int .i64 O.pace.downs) ∧ w'.cell? ⟨w.heap.size, 9, none⟩ = some (.slice on_ ln cn)) (go_keep)
    (first
      | (go_at_call 45; refine (spec_textOf _ _).mono ?_; rintro e w' ⟨rfl, hb⟩; (first | (replace H2 := Lib.hid (H2.out.next hb); (try replace HZ := Lib.hid (HZ.out.next hb))) | (replace H2 := Lib.hid (H2.out.next1 hb)) | (have HZ := Lib.hid (H2.out.lit hb (by simp)).2; replace H2 := Lib.hid (H2.out.lit hb (by simp)).1; (first | replace HZ := Lib.hid (HZ.out.mv (n := w.heap.size + 1 + 1) (by simp)) | skip)) | (have HZ := Lib.hid (H2.out.lit1 hb).2; replace H2 := Lib.hid (H2.out.lit1 hb).1; (first | replace HZ := Lib.hid (HZ.out.mv (n := w.heap.size + 1 + 1) (by simp)) | skip))); clear hb x0 x1 x2 x3 x4 x5 x6 x7 x8 x9; have x0 := cell_of H2.out.arg 0; have x1 := cell_of H2.out.arg 1; have x2 := cell_of H2.out.arg 2; have x3 := cell_of H2.out.arg 3; have x4 := cell_of H2.out.arg 4; have x5 := cell_of H2.out.arg 5; have x6 := cell_of H2.out.arg 6; have x7 := cell_of H2.out.arg 7; have x8 := cell_of H2.out.arg 8; have x9 := cell_of H2.out.arg 9; simp only [List.getElem?_toArray, List.getElem?_cons_zero, List.getElem?_cons_succ] at x0 x1 x2 x3 x4 x5 x6 x7 x8 x9)
      | (go_at_call 43; refine (spec_intOf _ _).mono ?_; rintro e w' ⟨rfl, hb⟩; (first | (replace H2 := Lib.hid (H2.out.next hb); (try replace HZ := Lib.hid (HZ.out.next hb))) | (replace H2 := Lib.hid (H2.out.next1 hb)) | (have HZ := Lib.hid (H2.out.lit hb (by simp)).2; replace H2 := Lib.hid (H2.out.lit hb (by simp)).1; (first | replace HZ := Lib.hid (HZ.out.mv (n := w.heap.size + 1 + 1) (by simp)) | skip)) | (have HZ := Lib.hid (H2.out.lit1 hb).2; replace H2 := Lib.hid (H2.out.lit1 hb).1; (first | replace HZ := Lib.hid (HZ.out.mv (n := w.heap.size + 1 + 1) (by simp)) | skip))); clear hb x0 x1 x2 x3 x4 x5 x6 x7 x8 x9; have x0 := cell_of H2.out.arg 0; have x1 := cell_of H2.out.arg 1; have x2 := cell_of H2.out.arg 2; have x3 := cell_of H2.out.arg 3; have x4 := cell_of H2.out.arg 4; have x5 := cell_of H2.out.arg 5; have x6 := cell_of H2.out.arg 6; have x7 := cell_of H2.out.arg 7; have x8 := cell_of H2.out.arg 8; have x9 := cell_of H2.out.arg 9; simp only [List.getElem?_toArray, List.getElem?_cons_zero, List.getElem?_cons_succ] at x0 x1 x2 x3 x4 x5 x6 x7 x8 x9)
      | (go_at_call 59; refine (HM.out _ _ _ (by first | exact (HZ.out.lit1 (Below.refl _ _)).at_ | exact (H2.out.lits1 (Below.refl _ _)).2.1.at_ | exact (H2.out.lits1 (Below.refl _ _)).2.2.at_ | exact (HZ.out.lit (Below.refl _ _) (by simp [World.drew])).at_ | exact (H2.out.lits (Below.refl _ _) (by simp [World.drew])).2.1.at_ | exact (H2.out.lits (Below.refl _ _) (by simp [World.drew])).2.2.at_) (by first | exact (H2.out.lit1 (Below.refl _ _)).2.at_ | exact (H2.out.lits1 (Below.refl _ _)).2.2.at_ | exact (H2.out.lits1 (Below.refl _ _)).2.1.at_ | exact (H2.out.lit (Below.refl _ _) (by simp [World.drew])).2.at_ | exact (H2.out.lits (Below.refl _ _) (by simp [World.drew])).2.2.at_ | exact (H2.out.lits (Below.refl _ _) (by simp [World.drew])).2.1.at_)).mono ?_; rintro e w' ⟨kr, dr, G, rfl, hl, hf, hb⟩; obtain ⟨⟨o3, q3, rfl⟩, ⟨o4, q4, rfl⟩⟩ := hl.slices; have HL := Lib.hid (res_keep H2.out hl hf (by first | (simp; done) | (simp; omega))); clear hl hf; (first | (replace HZ := Lib.hid (HZ.out.lit1 hb); have HN := Lib.hid (H2.out.lit1 hb).2; replace H2 := Lib.hid (H2.out.lit1 hb).1) | (have HZ := Lib.hid (H2.out.lits1 hb).2.1; have HN := Lib.hid (H2.out.lits1 hb).2.2; replace H2 := Lib.hid (H2.out.lits1 hb).1; (first | (have h9 := HZ.out; have h8 : One w w' _ (.cells #[.string ⟨#[107, 105, 110, 100]⟩, .string ⟨#[110, 97, 109, 101]⟩, .string ⟨#[116, 97, 114, 103, 101, 116]⟩, .string ⟨#[108, 111, 119]⟩, .string ⟨#[104, 105, 103, 104]⟩] 9) := h9; clear h8 h9) | (have hq := HZ; replace HZ := HN; replace HN := hq; clear hq))) | (have HN := Lib.hid (H2.out.lit hb (by simp)).2; replace HZ := Lib.hid (HZ.out.lit hb (by simp)); replace H2 := Lib.hid (H2.out.lit hb (by simp)).1) | (have HZ := Lib.hid (H2.out.lits hb (by simp)).2.1; have HN := Lib.hid (H2.out.lits hb (by simp)).2.2; replace H2 := Lib.hid (H2.out.lits hb (by simp)).1; (first | (have h9 := HZ.out; have h8 : One w w' _ (.cells #[.string ⟨#[107, 105, 110, 100]⟩, .string ⟨#[110, 97, 109, 101]⟩, .string ⟨#[116, 97, 114, 103, 101, 116]⟩, .string ⟨#[108, 111, 119]⟩, .string ⟨#[104, 105, 103, 104]⟩] 9) := h9; clear h8 h9) | (have hq := HZ; replace HZ := HN; replace HN := hq; clear hq)))); clear hb x0 x1 x2 x3 x4 x5 x6 x7 x8 x9; have x0 := cell_of H2.out.arg 0; have x1 := cell_of H2.out.arg 1; have x2 := cell_of H2.out.arg 2; have x3 := cell_of H2.out.arg 3; have x4 := cell_of H2.out.arg 4; have x5 := cell_of H2.out.arg 5; have x6 := cell_of H2.out.arg 6; have x7 := cell_of H2.out.arg 7; have x8 := cell_of H2.out.arg 8; have x9 := cell_of H2.out.arg 9; simp only [List.getElem?_toArray, List.getElem?_cons_zero, List.getElem?_cons_succ] at x0 x1 x2 x3 x4 x5 x6 x7 x8 x9; obtain ⟨r0, r1, r2, r3, r4, r5⟩ := five H2.out.res))
  all_goals
    have HF := res_fin H2.out HL.out
    go_wp2
    exact bodyPost_ret (ret_node Tryz.results23 rfl HF.1) rfl ⟨_, _, _, rfl, HF.2.1, HF.2.2.1, HF.2.2.2⟩
end Go.Proofs.YtfmkhogpnnobeaaGreatDoor

/- metrics, notes, paces and heads of orders are held against each other field by field; slices.Equal tells of two lists of metrics, and of two lists of notes, whether they are the same; the laws' eqMetricS and eqNoteS answer true of two that are. -/
namespace Go.Proofs.YtfmkhogpnnobeaaGreatDoor
open Go Go.RowKit

noncomputable def sameO {α : Type} (a b : α) : Bool := @decide (a = b) (Classical.propDecidable _)
theorem sameO_yes {α : Type} {a b : α} (h : a = b) : sameO a b = true := by simp [sameO, h]
theorem sameO_no {α : Type} {a b : α} (h : ¬ a = b) : sameO a b = false := by simp [sameO, h]
theorem below_drewO {B : Nat} {a w : World} (h : Below B a w) (n : Nat) : Below B a (w.drewN n) := h.trans ⟨rfl, rfl, rfl, Nat.le_refl _, fun _ _ => rfl⟩

theorem drewO_drew (w : World) (a b : Nat) : (w.drewN a).drewN b = w.drewN (a + b) := by simp [World.drewN, Nat.add_assoc]

theorem takeO_step {α : Type} {xs ys : List α} {k : Nat} (h : xs.take k = ys.take k) (h1 : k < xs.length) (h2 : k < ys.length) (he : xs[k] = ys[k]) : xs.take (k + 1) = ys.take (k + 1) := by
  rw [List.take_succ_eq_append_getElem h1, List.take_succ_eq_append_getElem h2, h, he]
theorem takeO_end {α : Type} {xs ys : List α} {k : Nat} (h : xs.take k = ys.take k) (h1 : ¬ k < xs.length) (hl : xs.length = ys.length) : xs = ys := by
  rwa [List.take_of_length_le (by omega), List.take_of_length_le (by omega)] at h
theorem neO_at {α : Type} {xs ys : List α} {k : Nat} (h1 : k < xs.length) (h2 : k < ys.length) (he : ¬ xs[k] = ys[k]) : ¬ xs = ys := fun e => by
  subst e; exact he rfl

theorem toList_iff {x y : ByteArray} : x.toList = y.toList ↔ x = y := by
  constructor
  · intro h
    rw [ByteArray.toList_eq, ByteArray.toList_eq] at h
    exact ByteArray.ext (Array.toList_inj.1 h)
  · rintro rfl; rfl

/-- An order's head: all of it but its two lists. -/
structure Head where
  name : ByteArray
  target : ByteArray
  low : Int
  high : Int
  pace : Pac


set_option maxHeartbeats 1000000 in
theorem neq_met (x y : Met) (w : World) : (binOp .neq 93 (.agg #[.string x.name, .int .i64 x.kind, .int .i64 x.goal]) (.agg #[.string y.name, .int .i64 y.kind, .int .i64 y.goal])).run Tryz.prog w = .ok (.bool (!sameO x y)) w := by
  have u3 := Tryz.underlying3
  have a3 := Tryz.isAgg3
  have z3 := Tryz.sizeOf3
  have u9 := Tryz.underlying9
  have a9 := Tryz.isAgg9
  have z9 := Tryz.sizeOf9
  have hS : Tryz.prog.underlying 93 = some (.struct (Tryz.prog.fieldsOf 93)) := by kernel_rfl
  have hp : Tryz.prog.stoodInHeld 93 = false := by kernel_rfl
  rw [run_neq_struct, show (10000 : Nat) = 9999 + 1 from rfl, run_equalIn_agg w 9999 93 _ _ hS hp]
  simp only [Program.fieldsOf, Tryz.underlying93]
  go_simp
  by_cases h : x = y
  · rw [sameO_yes h]; subst h; simp
  · rw [sameO_no h]
    by_cases h0 : x.name = y.name
    case neg => simp [toList_iff, h0]
    by_cases h1 : x.kind = y.kind
    case neg => simp [h1, h0]
    by_cases h2 : x.goal = y.goal
    case neg => simp [h2, h0, h1]
    exact absurd (by cases x; cases y; simp_all) h


set_option maxHeartbeats 1000000 in
theorem neq_not (x y : Not) (w : World) : (binOp .neq 98 (.agg #[.string x.key, .string x.text]) (.agg #[.string y.key, .string y.text])).run Tryz.prog w = .ok (.bool (!sameO x y)) w := by
  have u9 := Tryz.underlying9
  have a9 := Tryz.isAgg9
  have z9 := Tryz.sizeOf9
  have hS : Tryz.prog.underlying 98 = some (.struct (Tryz.prog.fieldsOf 98)) := by kernel_rfl
  have hp : Tryz.prog.stoodInHeld 98 = false := by kernel_rfl
  rw [run_neq_struct, show (10000 : Nat) = 9999 + 1 from rfl, run_equalIn_agg w 9999 98 _ _ hS hp]
  simp only [Program.fieldsOf, Tryz.underlying98]
  go_simp
  by_cases h : x = y
  · rw [sameO_yes h]; subst h; simp
  · rw [sameO_no h]
    by_cases h0 : x.key = y.key
    case neg => simp [toList_iff, h0]
    by_cases h1 : x.text = y.text
    case neg => simp [toList_iff, h1, h0]
    exact absurd (by cases x; cases y; simp_all) h


set_option maxHeartbeats 1000000 in
theorem neq_pac (x y : Pac) (w : World) : (binOp .neq 35 (.agg #[.int .i64 x.up, .int .i64 x.down, .int .i64 x.ups, .int .i64 x.downs]) (.agg #[.int .i64 y.up, .int .i64 y.down, .int .i64 y.ups, .int .i64 y.downs])).run Tryz.prog w = .ok (.bool (!sameO x y)) w := by
  have u3 := Tryz.underlying3
  have a3 := Tryz.isAgg3
  have z3 := Tryz.sizeOf3
  have hS : Tryz.prog.underlying 35 = some (.struct (Tryz.prog.fieldsOf 35)) := by kernel_rfl
  have hp : Tryz.prog.stoodInHeld 35 = false := by kernel_rfl
  rw [run_neq_struct, show (10000 : Nat) = 9999 + 1 from rfl, run_equalIn_agg w 9999 35 _ _ hS hp]
  simp only [Program.fieldsOf, Tryz.underlying35]
  go_simp
  by_cases h : x = y
  · rw [sameO_yes h]; subst h; simp
  · rw [sameO_no h]
    by_cases h0 : x.up = y.up
    case neg => simp [h0]
    by_cases h1 : x.down = y.down
    case neg => simp [h1, h0]
    by_cases h2 : x.ups = y.ups
    case neg => simp [h2, h0, h1]
    by_cases h3 : x.downs = y.downs
    case neg => simp [h3, h0, h1, h2]
    exact absurd (by cases x; cases y; simp_all) h


set_option maxHeartbeats 1000000 in
theorem equal_met {v v' : Value} {xs ys : List Met} {F F' : List Nat} (w : World) (hs : MetsAt w v xs F) (hs' : MetsAt w v' ys F') :
    Calls Tryz.prog 128 #[v, v'] w fun e w' => e = .returned (.bool (sameO xs ys)) ∧ ∃ q, w' = w.drewN q := by
  obtain ⟨o, cap, b, off, rfl, hlc, hcm, ho, -, hcell, -⟩ := hs
  obtain ⟨o', cap', b', off', rfl, hlc', hcm', ho', -, hcell', -⟩ := hs'
  have HC := Lib.hid hcell
  have HO := Lib.hid ho
  have HC' := Lib.hid hcell'
  have HO' := Lib.hid ho'
  clear hcell ho hcell' ho'
  unfold maxLen at hcm hcm'
  by_cases hl : xs.length = ys.length
  · have HE := Lib.hid hl
    rw [← hl]
    clear hl
    rw [← HE.out] at hlc'
    go_enter Tryz.func128, Tryz.ntmps128
    go_wp2
    go_loopw [13] (fun i wr => ∃ k : Nat, k ≤ xs.length ∧ i = .int .i64 k ∧ Hid (xs.take k = ys.take k) ∧ ∃ q, wr = w.drewN q) (fun i _ => xs.length - (intOf i).toNat)
    case atStart => exact ⟨0, Nat.zero_le _, rfl, rfl, 0, rfl⟩
    case round =>
      obtain ⟨k, hk, rfl, hr, hq⟩ := hrel
      have HQ := Lib.hid hq
      have hb : Below w.heap.size w wr := by obtain ⟨q, rfl⟩ := hq; exact below_drewO (Below.refl _ _) q
      clear hq
      by_cases hlt : k < xs.length
      · have l2 : k < ys.length := by rw [← HE.out]; exact hlt
        have c0 : wr.cell? ⟨b, off + k * 3, none⟩ = some (.string xs[k].name) := by
          have := (HC.out k hlt).2 0 (by decide)
          rw [hb.cell (by exact World.block_lt_of_cell? _ _ this)]; exact this
        have c1 : wr.cell? ⟨b, off + k * 3 + 1, none⟩ = some (.int .i64 xs[k].kind) := by
          have := (HC.out k hlt).2 1 (by decide)
          rw [hb.cell (by exact World.block_lt_of_cell? _ _ this)]; exact this
        have c2 : wr.cell? ⟨b, off + k * 3 + 2, none⟩ = some (.int .i64 xs[k].goal) := by
          have := (HC.out k hlt).2 2 (by decide)
          rw [hb.cell (by exact World.block_lt_of_cell? _ _ this)]; exact this
        have d0 : wr.cell? ⟨b', off' + k * 3, none⟩ = some (.string ys[k].name) := by
          have := (HC'.out k l2).2 0 (by decide)
          rw [hb.cell (by exact World.block_lt_of_cell? _ _ this)]; exact this
        have d1 : wr.cell? ⟨b', off' + k * 3 + 1, none⟩ = some (.int .i64 ys[k].kind) := by
          have := (HC'.out k l2).2 1 (by decide)
          rw [hb.cell (by exact World.block_lt_of_cell? _ _ this)]; exact this
        have d2 : wr.cell? ⟨b', off' + k * 3 + 2, none⟩ = some (.int .i64 ys[k].goal) := by
          have := (HC'.out k l2).2 2 (by decide)
          rw [hb.cell (by exact World.block_lt_of_cell? _ _ this)]; exact this
        have ho := HO.out (by omega)
        have ho' := HO'.out (by omega)
        subst ho ho'
        clear hb
        have hne := neq_met xs[k] ys[k]
        have hgd := fun op a b' (x y : Array Value) w => run_eqGuard_agg (P := Tryz.prog) w op 93 a b' x y (by kernel_rfl)
        by_cases he : xs[k] = ys[k]
        · have HR := Lib.hid (takeO_step hr.out hlt l2 he)
          rw [sameO_yes he] at hne
          clear he
          generalize hx : xs[k] = x at *
          generalize hy : ys[k] = y at *
          clear hx hy
          go_wp2
          go_quiet (fail)
          go_wp2
          exact ⟨⟨k + 1, by omega, by go_num, HR.out, by obtain ⟨q, rfl⟩ := HQ.out; exact ⟨_, drewO_drew _ _ _⟩⟩, by simp [intOf]; omega⟩
        · have HR := Lib.hid (neO_at hlt l2 he)
          rw [sameO_no he] at hne
          clear he
          generalize hx : xs[k] = x at *
          generalize hy : ys[k] = y at *
          clear hx hy
          go_wp2
          go_quiet (fail)
          go_wp2
          go_ret
          refine ⟨?_, by obtain ⟨q, rfl⟩ := HQ.out; exact ⟨_, drewO_drew _ _ _⟩⟩
          rw [sameO_no HR.out]
          rfl
      · have HR := Lib.hid (takeO_end hr.out hlt HE.out)
        go_wp2
        go_ret
        refine ⟨?_, HQ.out⟩
        rw [sameO_yes HR.out]
        rfl
  · have hl' : ¬ ((xs.length : Int) = ys.length) := by omega
    go_enter Tryz.func128, Tryz.ntmps128
    go_wp2
    go_ret
    refine ⟨?_, 0, rfl⟩
    rw [sameO_no (fun h => hl (by rw [h]))]
    rfl


set_option maxHeartbeats 1000000 in
theorem equal_not {v v' : Value} {xs ys : List Not} {F F' : List Nat} (w : World) (hs : NotsAt w v xs F) (hs' : NotsAt w v' ys F') :
    Calls Tryz.prog 133 #[v, v'] w fun e w' => e = .returned (.bool (sameO xs ys)) ∧ ∃ q, w' = w.drewN q := by
  obtain ⟨o, cap, b, off, rfl, hlc, hcm, ho, -, hcell, -⟩ := hs
  obtain ⟨o', cap', b', off', rfl, hlc', hcm', ho', -, hcell', -⟩ := hs'
  have HC := Lib.hid hcell
  have HO := Lib.hid ho
  have HC' := Lib.hid hcell'
  have HO' := Lib.hid ho'
  clear hcell ho hcell' ho'
  unfold maxLen at hcm hcm'
  by_cases hl : xs.length = ys.length
  · have HE := Lib.hid hl
    rw [← hl]
    clear hl
    rw [← HE.out] at hlc'
    go_enter Tryz.func133, Tryz.ntmps133
    go_wp2
    go_loopw [13] (fun i wr => ∃ k : Nat, k ≤ xs.length ∧ i = .int .i64 k ∧ Hid (xs.take k = ys.take k) ∧ ∃ q, wr = w.drewN q) (fun i _ => xs.length - (intOf i).toNat)
    case atStart => exact ⟨0, Nat.zero_le _, rfl, rfl, 0, rfl⟩
    case round =>
      obtain ⟨k, hk, rfl, hr, hq⟩ := hrel
      have HQ := Lib.hid hq
      have hb : Below w.heap.size w wr := by obtain ⟨q, rfl⟩ := hq; exact below_drewO (Below.refl _ _) q
      clear hq
      by_cases hlt : k < xs.length
      · have l2 : k < ys.length := by rw [← HE.out]; exact hlt
        have c0 : wr.cell? ⟨b, off + k * 2, none⟩ = some (.string xs[k].key) := by
          have := (HC.out k hlt).2 0 (by decide)
          rw [hb.cell (by exact World.block_lt_of_cell? _ _ this)]; exact this
        have c1 : wr.cell? ⟨b, off + k * 2 + 1, none⟩ = some (.string xs[k].text) := by
          have := (HC.out k hlt).2 1 (by decide)
          rw [hb.cell (by exact World.block_lt_of_cell? _ _ this)]; exact this
        have d0 : wr.cell? ⟨b', off' + k * 2, none⟩ = some (.string ys[k].key) := by
          have := (HC'.out k l2).2 0 (by decide)
          rw [hb.cell (by exact World.block_lt_of_cell? _ _ this)]; exact this
        have d1 : wr.cell? ⟨b', off' + k * 2 + 1, none⟩ = some (.string ys[k].text) := by
          have := (HC'.out k l2).2 1 (by decide)
          rw [hb.cell (by exact World.block_lt_of_cell? _ _ this)]; exact this
        have ho := HO.out (by omega)
        have ho' := HO'.out (by omega)
        subst ho ho'
        clear hb
        have hne := neq_not xs[k] ys[k]
        have hgd := fun op a b' (x y : Array Value) w => run_eqGuard_agg (P := Tryz.prog) w op 98 a b' x y (by kernel_rfl)
        by_cases he : xs[k] = ys[k]
        · have HR := Lib.hid (takeO_step hr.out hlt l2 he)
          rw [sameO_yes he] at hne
          clear he
          generalize hx : xs[k] = x at *
          generalize hy : ys[k] = y at *
          clear hx hy
          go_wp2
          go_quiet (fail)
          go_wp2
          exact ⟨⟨k + 1, by omega, by go_num, HR.out, by obtain ⟨q, rfl⟩ := HQ.out; exact ⟨_, drewO_drew _ _ _⟩⟩, by simp [intOf]; omega⟩
        · have HR := Lib.hid (neO_at hlt l2 he)
          rw [sameO_no he] at hne
          clear he
          generalize hx : xs[k] = x at *
          generalize hy : ys[k] = y at *
          clear hx hy
          go_wp2
          go_quiet (fail)
          go_wp2
          go_ret
          refine ⟨?_, by obtain ⟨q, rfl⟩ := HQ.out; exact ⟨_, drewO_drew _ _ _⟩⟩
          rw [sameO_no HR.out]
          rfl
      · have HR := Lib.hid (takeO_end hr.out hlt HE.out)
        go_wp2
        go_ret
        refine ⟨?_, HQ.out⟩
        rw [sameO_yes HR.out]
        rfl
  · have hl' : ¬ ((xs.length : Int) = ys.length) := by omega
    go_enter Tryz.func133, Tryz.ntmps133
    go_wp2
    go_ret
    refine ⟨?_, 0, rfl⟩
    rw [sameO_no (fun h => hl (by rw [h]))]
    rfl

end Go.Proofs.YtfmkhogpnnobeaaGreatDoor

/- plain facts on texts that may be written as they are: 1 to 60 bytes, a letter first, then letters, digits and four signs; none of three words. -/
namespace Go.Proofs.YtfmkhogpnnobeaaGreatDoor
open Go Go.RowKit

def isLet (b : UInt8) : Bool := (decide (97 ≤ b.toNat) && decide (b.toNat ≤ 122)) || (decide (65 ≤ b.toNat) && decide (b.toNat ≤ 90))
def isDig (b : UInt8) : Bool := decide (48 ≤ b.toNat) && decide (b.toNat ≤ 57)
def isSgn (b : UInt8) : Bool := decide (b = 95 ∨ b = 46 ∨ b = 47 ∨ b = 45)
def okP (b : UInt8) : Bool := isLet b || (isDig b || isSgn b)
/-- A letter first, then what may stand behind one. -/
def goodL : List UInt8 → Bool
  | [] => true
  | b :: l => isLet b && l.all okP
def noWord (s : ByteArray) : Bool := ((!s.toList == [110, 117, 108, 108]) && (!s.toList == [116, 114, 117, 101])) && (!s.toList == [102, 97, 108, 115, 101])
def plainB (s : ByteArray) : Bool := (decide (1 ≤ s.size ∧ s.size ≤ 60) && goodL s.data.toList) && noWord s

theorem okP_let {b : UInt8} (h : isLet b = true) : okP b = true := by simp [okP, h]

theorem goodL_snoc (l : List UInt8) (b : UInt8) : goodL (l ++ [b]) = (goodL l && (if l.length = 0 then isLet b else okP b)) := by
  cases l with
  | nil => simp [goodL]
  | cons x l => simp [goodL, Bool.and_assoc]

theorem take_snoc (s : ByteArray) (k : Nat) (h : k < s.size) : s.data.toList.take (k + 1) = s.data.toList.take k ++ [s[k]] := by
  rw [List.take_succ_eq_append_getElem (by simpa using h)]; rfl

theorem goodL_step {s : ByteArray} {k : Nat} (hk : k < s.size) : goodL (s.data.toList.take (k + 1)) = (goodL (s.data.toList.take k) && (if k = 0 then isLet s[k] else okP s[k])) := by
  have hl : (s.data.toList.take k).length = k := by rw [List.length_take]; have : s.data.toList.length = s.size := by simp
                                                    omega
  rw [take_snoc s k hk, goodL_snoc, hl]

theorem goodL_pre {l : List UInt8} : ∀ {m : List UInt8}, goodL (l ++ m) = true → goodL l = true := by
  intro m h
  cases l with
  | nil => rfl
  | cons x l =>
    simp only [List.cons_append, goodL, Bool.and_eq_true, List.all_append] at h ⊢
    exact ⟨h.1, h.2.1⟩

theorem goodL_bad {s : ByteArray} {k : Nat} (h : goodL (s.data.toList.take (k + 1)) = false) : plainB s = false := by
  have : goodL s.data.toList = false := by
    rcases Bool.eq_false_or_eq_true (goodL s.data.toList) with h1 | h1
    · exfalso
      rw [← List.take_append_drop (k + 1) s.data.toList] at h1
      rw [goodL_pre h1] at h
      cases h
    · exact h1
  simp [plainB, this]

theorem goodL_end {s : ByteArray} {k : Nat} (hk : ¬ k < s.size) : s.data.toList.take k = s.data.toList :=
  List.take_of_length_le (by simp only [Array.length_toList]; have : s.size = s.data.size := rfl; omega)

theorem sgn_index (b : UInt8) : (Lib.indexByte [95, 46, 47, 45] ((b.toNat : Int).toNat.toUInt8) < 0) = (isSgn b = false) := by
  have e : (b.toNat : Int).toNat.toUInt8 = b := by simp
  rw [e]
  by_cases h1 : b = 95
  · subst h1; decide
  by_cases h2 : b = 46
  · subst h2; decide
  by_cases h3 : b = 47
  · subst h3; decide
  by_cases h4 : b = 45
  · subst h4; decide
  have e1 : ((95 : UInt8) == b) = false := by simpa using fun h => h1 h.symm
  have e2 : ((46 : UInt8) == b) = false := by simpa using fun h => h2 h.symm
  have e3 : ((47 : UInt8) == b) = false := by simpa using fun h => h3 h.symm
  have e4 : ((45 : UInt8) == b) = false := by simpa using fun h => h4 h.symm
  simp [Lib.indexByte, e1, e2, e3, e4, isSgn, h1, h2, h3, h4]
end Go.Proofs.YtfmkhogpnnobeaaGreatDoor

/- plain facts on names: 1 to 20 bytes, a small letter first, then small letters, digits and the sign 45. -/
namespace Go.Proofs.YtfmkhogpnnobeaaGreatDoor
open Go Go.RowKit

def isSml (b : UInt8) : Bool := decide (97 ≤ b.toNat) && decide (b.toNat ≤ 122)
def okN (b : UInt8) : Bool := isSml b || (isDig b || decide (b = 45))
/-- A small letter first, then what may stand behind one. -/
def nameL : List UInt8 → Bool
  | [] => true
  | b :: l => isSml b && l.all okN
def nameB (s : ByteArray) : Bool := decide (1 ≤ s.size ∧ s.size ≤ 20) && nameL s.data.toList

theorem okN_sml {b : UInt8} (h : isSml b = true) : okN b = true := by simp [okN, h]

theorem nameL_snoc (l : List UInt8) (b : UInt8) : nameL (l ++ [b]) = (nameL l && (if l.length = 0 then isSml b else okN b)) := by
  cases l with
  | nil => simp [nameL]
  | cons x l => simp [nameL, Bool.and_assoc]

theorem nameL_step {s : ByteArray} {k : Nat} (hk : k < s.size) : nameL (s.data.toList.take (k + 1)) = (nameL (s.data.toList.take k) && (if k = 0 then isSml s[k] else okN s[k])) := by
  have hl : (s.data.toList.take k).length = k := by rw [List.length_take]; have : s.data.toList.length = s.size := by simp
                                                    omega
  rw [take_snoc s k hk, nameL_snoc, hl]

theorem nameL_pre {l : List UInt8} : ∀ {m : List UInt8}, nameL (l ++ m) = true → nameL l = true := by
  intro m h
  cases l with
  | nil => rfl
  | cons x l =>
    simp only [List.cons_append, nameL, Bool.and_eq_true, List.all_append] at h ⊢
    exact ⟨h.1, h.2.1⟩

theorem nameL_bad {s : ByteArray} {k : Nat} (h : nameL (s.data.toList.take (k + 1)) = false) : nameB s = false := by
  have : nameL s.data.toList = false := by
    rcases Bool.eq_false_or_eq_true (nameL s.data.toList) with h1 | h1
    · exfalso
      rw [← List.take_append_drop (k + 1) s.data.toList] at h1
      rw [nameL_pre h1] at h
      cases h
    · exact h1
  simp [nameB, this]
end Go.Proofs.YtfmkhogpnnobeaaGreatDoor

/- for any text the program's NameOk answers as the model's NameOk does; what lies within bounds is told alike by both. -/
namespace Go.Proofs.YtfmkhogpnnobeaaGreatDoor
open Go Go.RowKit

/-- From low to high. -/
def inB (x lo hi : Int) : Bool := decide (lo ≤ x) && decide (x ≤ hi)

theorem spec_inB (x lo hi : Int) (w : World) : Calls Tryz.prog 53 #[.int .i64 x, .int .i64 lo, .int .i64 hi] w fun e w' => e = .returned (.bool (inB x lo hi)) ∧ w' = w := by
  by_cases h1 : lo ≤ x <;> by_cases h2 : x ≤ hi
  all_goals
    go_enter Tryz.func53, Tryz.ntmps53
    go_wp2
    go_ret
    refine ⟨?_, rfl⟩
    simp [inB, h1, h2]

theorem impl_inB (x lo hi : Int) (w : World) : Calls Tryz.prog 67 #[.int .i64 x, .int .i64 lo, .int .i64 hi] w fun e w' => e = .returned (.bool (inB x lo hi)) ∧ w' = w := by
  by_cases h1 : lo ≤ x <;> by_cases h2 : x ≤ hi
  all_goals
    go_enter Tryz.func67, Tryz.ntmps67
    go_wp2
    go_ret
    refine ⟨?_, rfl⟩
    simp [inB, h1, h2]

set_option maxHeartbeats 400000 in
theorem impl_small (b : UInt8) (w : World) : Calls Tryz.prog 96 #[.int .u8 (b.toNat : Int)] w fun e w' => e = .returned (.bool (isSml b)) ∧ w' = w := by
  by_cases h1 : 97 ≤ b.toNat <;> by_cases h2 : b.toNat ≤ 122
  all_goals
    first
    | omega
    | (go_enter Tryz.func96, Tryz.ntmps96
       go_wp2
       go_ret
       refine ⟨?_, rfl⟩
       simp [isSml, h1, h2] <;> omega)

set_option maxHeartbeats 400000 in
theorem impl_digit6 (b : UInt8) (w : World) : Calls Tryz.prog 97 #[.int .u8 (b.toNat : Int)] w fun e w' => e = .returned (.bool (isDig b)) ∧ w' = w := by
  by_cases h1 : 48 ≤ b.toNat <;> by_cases h2 : b.toNat ≤ 57
  all_goals
    first
    | omega
    | (go_enter Tryz.func97, Tryz.ntmps97
       go_wp2
       go_ret
       refine ⟨?_, rfl⟩
       simp [isDig, h1, h2] <;> omega)

set_option maxRecDepth 100000 in
set_option maxHeartbeats 1000000 in
theorem spec_nameOk (s : ByteArray) (hm : s.size ≤ maxLen) (w : World) :
    Calls Tryz.prog 52 #[.string s] w fun e w' => e = .returned (.bool (nameB s)) ∧ w' = w := by
  unfold maxLen at hm
  go_enter Tryz.func52, Tryz.ntmps52
  go_wp2
  go_loop [3] (fun i => ∃ k : Nat, k ≤ s.size ∧ i = .int .i64 k ∧ Hid (nameL (s.data.toList.take k) = true)) (fun i => s.size - (intOf i).toNat)
  case atStart => exact ⟨0, Nat.zero_le _, rfl, rfl⟩
  case round =>
    obtain ⟨k, hk, rfl, hr⟩ := hrel
    by_cases hlt : k < s.size
    · have HG := Lib.hid (nameL_step hlt)
      rw [hr.out, Bool.true_and] at HG
      generalize hb : s[k] = b at *
      by_cases a1 : 97 ≤ b.toNat
      · by_cases a2 : b.toNat ≤ 122
        · have HS : Hid (nameL (s.data.toList.take (k + 1)) = true) := by
            show _ = _
            have e : isSml b = true := by simp [isSml, a1, a2]
            rw [HG.out, e, okN_sml e]; simp
          clear HG
          go_wp2
          all_goals exact ⟨⟨k + 1, by omega, by go_num, HS.out⟩, by simp [intOf]; omega⟩
        · have HN : Hid (nameB s = false) := nameL_bad (k := k) (by
            rw [HG.out]
            have e : isSml b = false := by simp [isSml, a2]
            have e2 : okN b = false := by
              have : ¬ b = 45 := by rintro rfl; exact a2 (by decide)
              have : isDig b = false := by simp [isDig]; omega
              simp [okN, *]
            rw [e, e2]; simp)
          have e45 : ((b.toNat : Int) == 45) = false := by simp; omega
          have e57 : decide ((b.toNat : Int) ≤ 57) = false := by simp; omega
          have e122 : decide ((b.toNat : Int) ≤ 122) = false := by simp; omega
          clear HG
          by_cases hk0 : k = 0
          · subst hk0
            go_wp2
            go_ret
            exact ⟨by rw [HN.out]; rfl, rfl⟩
          · have e0 : 0 < (k : Int) := by omega
            clear hk0
            go_wp2
            go_ret
            exact ⟨by rw [HN.out]; rfl, rfl⟩
      · have e : isSml b = false := by simp [isSml, a1]
        by_cases hk0 : k = 0
        · subst hk0
          have HN : Hid (nameB s = false) := nameL_bad (k := 0) (by rw [HG.out, e]; rfl)
          clear HG e
          go_wp2
          all_goals
            go_ret
            exact ⟨by rw [HN.out]; rfl, rfl⟩
        · have e0 : 0 < (k : Int) := by omega
          rw [if_neg hk0, okN, e, Bool.false_or] at HG
          clear e
          by_cases h45 : b = 45
          · have HS : Hid (nameL (s.data.toList.take (k + 1)) = true) := by
              show _ = _
              rw [HG.out, h45]; rfl
            clear HG
            subst h45
            go_wp2
            all_goals exact ⟨⟨k + 1, by omega, by go_num, HS.out⟩, by simp [intOf]; omega⟩
          · rw [decide_eq_false h45, Bool.or_false] at HG
            have n4 : ((b.toNat : Int) == 45) = false := by
              simp; intro h; exact h45 (UInt8.toNat_inj.1 (Int.ofNat_inj.1 h))
            clear h45
            by_cases d1 : 48 ≤ b.toNat
            · by_cases d2 : b.toNat ≤ 57
              · have HS : Hid (nameL (s.data.toList.take (k + 1)) = true) := by
                  show _ = _
                  rw [HG.out]; simp [isDig, d1, d2]
                clear HG
                go_wp2
                all_goals exact ⟨⟨k + 1, by omega, by go_num, HS.out⟩, by simp [intOf]; omega⟩
              · have HN : Hid (nameB s = false) := nameL_bad (k := k) (by rw [HG.out]; simp [isDig, d1, d2])
                have d3 : decide ((b.toNat : Int) ≤ 57) = false := by simp; omega
                clear HG
                go_wp2
                all_goals
                  go_ret
                  exact ⟨by rw [HN.out]; rfl, rfl⟩
            · have HN : Hid (nameB s = false) := nameL_bad (k := k) (by rw [HG.out]; simp [isDig, d1])
              clear HG
              go_wp2
              all_goals
                go_ret
                exact ⟨by rw [HN.out]; rfl, rfl⟩
    · have HE : Hid (nameL s.data.toList = true) := by show _ = _; rw [← goodL_end hlt]; exact hr.out
      have h1 := fun w => spec_inB s.size 1 20 w
      have HP : Hid (nameB s = inB s.size 1 20) := by
        show _ = _
        unfold nameB inB
        rw [HE.out, Bool.and_true]
        by_cases a : 1 ≤ s.size <;> by_cases b : s.size ≤ 20 <;> simp [a, b] <;> omega
      rw [← HP.out] at h1
      go_wp2_with (first
        | (go_at_call 53; refine (h1 _).mono ?_; rintro e w1 ⟨rfl, e1⟩; subst e1)
        | fail)
      go_ret
      exact ⟨rfl, rfl⟩

set_option maxRecDepth 100000 in
set_option maxHeartbeats 1000000 in
theorem impl_nameOk (s : ByteArray) (hm : s.size ≤ maxLen) (w : World) :
    Calls Tryz.prog 66 #[.string s] w fun e w' => e = .returned (.bool (nameB s)) ∧ w' = w := by
  unfold maxLen at hm
  by_cases hz : s.size = 0
  · have HN : Hid (nameB s = false) := by show _ = _; simp [nameB, hz]
    have e0 : (s.toList == []) = true := by
      have : s = ⟨#[]⟩ := ByteArray.ext (Array.eq_empty_of_size_eq_zero hz)
      rw [this, Lib.toList_data]; rfl
    clear hz
    go_enter Tryz.func66, Tryz.ntmps66
    go_wp2
    go_ret
    exact ⟨by rw [HN.out]; rfl, rfl⟩
  have e0 : (s.toList == []) = false := by
    rw [Lib.toList_data]
    simp
    intro h
    exact hz (by have : s.size = s.data.size := rfl; rw [this, h]; rfl)
  by_cases h20 : s.size ≤ 20
  case neg =>
    have HN : Hid (nameB s = false) := by show _ = _; simp [nameB, h20]
    go_enter Tryz.func66, Tryz.ntmps66
    go_wp2
    go_ret
    exact ⟨by rw [HN.out]; rfl, rfl⟩
  have h0 : 0 < s.size := by omega
  have h20' : (s.size : Int) ≤ 20 := by omega
  have hL0 := impl_small s[0]
  by_cases hl0 : isSml s[0] = true
  case neg =>
    have hl' : isSml s[0] = false := by simpa using hl0
    have HN : Hid (nameB s = false) := nameL_bad (k := 0) (by rw [nameL_step h0, hl']; rfl)
    rw [hl'] at hL0
    clear hl0 hl'
    go_enter Tryz.func66, Tryz.ntmps66
    go_wp2_with (first
      | (go_at_call 96; refine (hL0 _).mono ?_; rintro e w1 ⟨rfl, e1⟩; subst e1)
      | fail)
    go_ret
    exact ⟨by rw [HN.out]; rfl, rfl⟩
  have HL0 := Lib.hid hl0
  rw [hl0] at hL0
  clear hl0
  go_enter Tryz.func66, Tryz.ntmps66
  go_wp2_with (first
    | (go_at_call 96; refine (hL0 _).mono ?_; rintro e w1 ⟨rfl, e1⟩; subst e1)
    | fail)
  clear hL0
  go_loop [19] (fun i => ∃ k : Nat, k ≤ s.size ∧ i = .int .i64 k ∧ Hid (nameL (s.data.toList.take k) = true)) (fun i => s.size - (intOf i).toNat)
  case atStart => exact ⟨0, Nat.zero_le _, rfl, rfl⟩
  case round =>
    obtain ⟨k, hk, rfl, hr⟩ := hrel
    by_cases hlt : k < s.size
    · have HG := Lib.hid (nameL_step hlt)
      rw [hr.out] at HG
      have hL := impl_small s[k]
      have HGo : Hid (nameL (s.data.toList.take (k + 1)) = okN s[k]) := by
        show _ = _
        rw [HG.out, Bool.true_and]
        by_cases e : k = 0
        · subst e
          rw [if_pos rfl, HL0.out, okN_sml HL0.out]
        · rw [if_neg e]
      clear HG
      by_cases hl : isSml s[k] = true
      · rw [hl] at hL
        have HS : Hid (nameL (s.data.toList.take (k + 1)) = true) := HGo.out.trans (okN_sml hl)
        clear HGo hl
        go_wp2_with (first
          | (go_at_call 96; refine (hL _).mono ?_; rintro e w1 ⟨rfl, e1⟩; subst e1)
          | fail)
        all_goals exact ⟨⟨k + 1, by omega, by go_num, HS.out⟩, by simp [intOf]; omega⟩
      · have hl' : isSml s[k] = false := by simpa using hl
        rw [hl'] at hL
        have hD := impl_digit6 s[k]
        by_cases hd : isDig s[k] = true
        · rw [hd] at hD
          have HS : Hid (nameL (s.data.toList.take (k + 1)) = true) := by show _ = _; rw [HGo.out, okN, hd]; simp
          clear HGo hl hd hl'
          go_wp2_with (first
            | (go_at_call 96; refine (hL _).mono ?_; rintro e w1 ⟨rfl, e1⟩; subst e1)
            | (go_at_call 97; refine (hD _).mono ?_; rintro e w1 ⟨rfl, e1⟩; subst e1)
            | fail)
          all_goals exact ⟨⟨k + 1, by omega, by go_num, HS.out⟩, by simp [intOf]; omega⟩
        · have hd' : isDig s[k] = false := by simpa using hd
          rw [hd'] at hD
          have HGo2 : Hid (nameL (s.data.toList.take (k + 1)) = decide (s[k] = 45)) := by show _ = _; rw [HGo.out, okN, hl', hd']; rfl
          clear hl hd hl' hd' HGo
          generalize hb : s[k] = b at *
          by_cases hg : b = 45
          · have HS : Hid (nameL (s.data.toList.take (k + 1)) = true) := by show _ = _; rw [HGo2.out, hg]; rfl
            clear HGo2
            subst hg
            go_wp2_with (first
              | (go_at_call 96; refine (hL _).mono ?_; rintro e w1 ⟨rfl, e1⟩; subst e1)
              | (go_at_call 97; refine (hD _).mono ?_; rintro e w1 ⟨rfl, e1⟩; subst e1)
              | fail)
            all_goals exact ⟨⟨k + 1, by omega, by go_num, HS.out⟩, by simp [intOf]; omega⟩
          · have n4 : ((b.toNat : Int) == 45) = false := by
              simp; intro h; exact hg (UInt8.toNat_inj.1 (Int.ofNat_inj.1 h))
            have HN : Hid (nameB s = false) := nameL_bad (k := k) (by rw [HGo2.out, decide_eq_false hg])
            clear HGo2 hg
            go_wp2_with (first
              | (go_at_call 96; refine (hL _).mono ?_; rintro e w1 ⟨rfl, e1⟩; subst e1)
              | (go_at_call 97; refine (hD _).mono ?_; rintro e w1 ⟨rfl, e1⟩; subst e1)
              | fail)
            go_ret
            exact ⟨by rw [HN.out]; rfl, rfl⟩
    · have HE : Hid (nameL s.data.toList = true) := by show _ = _; rw [← goodL_end hlt]; exact hr.out
      have HP : Hid (nameB s = true) := by
        show _ = _
        unfold nameB
        rw [HE.out, Bool.and_true, decide_eq_true (by omega)]
      go_wp2
      go_ret
      exact ⟨by rw [HP.out]; rfl, rfl⟩
end Go.Proofs.YtfmkhogpnnobeaaGreatDoor
