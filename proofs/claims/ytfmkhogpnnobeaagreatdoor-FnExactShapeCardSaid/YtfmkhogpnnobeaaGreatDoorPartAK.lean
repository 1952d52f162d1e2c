/-
  What is proved: OrderOk of the model, and of the program, tells of an order whether it is right.; plain facts on orders that are right: how great their trees are; the full shape is what the model sets, one Key behind the other.; for both flags the program's FlagOf answers as the model's FlagOf does, in memory of its own; no condition.; the program's nodeOk tells of a node alone whether it is as its kind has it.; the program's formOf, formOk and nodeOk, kind by kind.
-/
import Derived.Test.YtfmkhogpnnobeaaGreatDoorOrdOkN
import Derived.Test.YtfmkhogpnnobeaaGreatDoorPartAH
import Derived.Test.YtfmkhogpnnobeaaGreatDoorPartAI
import Derived.Test.YtfmkhogpnnobeaaGreatDoorPartAC
import Derived.Test.YtfmkhogpnnobeaaGreatDoorPartAE
/- OrderOk of the model, and of the program, tells of an order whether it is right. -/
namespace Go.Proofs.YtfmkhogpnnobeaaGreatDoor
open Go Go.RowKit

noncomputable def Ord.okB (O : Ord) : Bool := (((((nameB O.name && nameB O.target) && inB O.low 1 O.high) && decide (O.high ≤ 1000)) && dec (Els Met.name Met.okB O.mets)) && paceB O.pace.up O.pace.down O.pace.ups O.pace.downs) && dec (Els Not.key Not.okB O.notes)


set_option maxRecDepth 100000 in
set_option maxHeartbeats 4000000 in
theorem spec_orderOk {O : Ord} {mv nv : Value} {FM FN : List Nat} (w : World) (ho : OrdAt w O mv nv FM FN) :
    Calls Tryz.prog 21 #[.agg #[.string O.name, .string O.target, .int .i64 O.low, .int .i64 O.high, mv, .int .i64 O.pace.up, .int .i64 O.pace.down, .int .i64 O.pace.ups, .int .i64 O.pace.downs, nv]] w fun e w' => e = .returned (.bool O.okB) ∧ Below w.heap.size w w' := by
  have HX := Lib.hid (Bx.start w #[.string O.name, .string O.target, .int .i64 O.low, .int .i64 O.high, mv, .int .i64 O.pace.up, .int .i64 O.pace.down, .int .i64 O.pace.ups, .int .i64 O.pace.downs, nv] 38)
  have h1 := ho.name
  have h2 := ho.target
  have HM := Lib.hid fun wr (hb : Below w.heap.size w wr) => spec_mets wr (RowAt.stay ho.mets (by decide) hb (Nat.le_refl _))
  have HN := Lib.hid fun wr (hb : Below w.heap.size w wr) => spec_nots wr (RowAt.stay ho.notes (by decide) hb (Nat.le_refl _))
  obtain ⟨⟨o1, c1, rfl⟩, o2, c2, rfl⟩ := ho.slices
  clear ho
  unfold Ord.okB
  rcases b1 : nameB O.name
  · go_enter Tryz.func21, Tryz.ntmps21
    go_wp2_with (first
      | (go_at_call 52; refine (spec_nameOk _ (by assumption) _).mono ?_; rintro e w1 ⟨rfl, e1⟩; subst e1; first | rw [b1] | rw [b2])
      | fail)
    go_ret
    exact ⟨rfl, HX.out.below⟩
  rcases b2 : nameB O.target
  · go_enter Tryz.func21, Tryz.ntmps21
    go_wp2_with (first
      | (go_at_call 52; refine (spec_nameOk _ (by assumption) _).mono ?_; rintro e w1 ⟨rfl, e1⟩; subst e1; first | rw [b1] | rw [b2])
      | fail)
    go_ret
    exact ⟨rfl, HX.out.below⟩
  rcases b3 : inB O.low 1 O.high
  · go_enter Tryz.func21, Tryz.ntmps21
    go_wp2_with (first
      | (go_at_call 52; refine (spec_nameOk _ (by assumption) _).mono ?_; rintro e w1 ⟨rfl, e1⟩; subst e1; first | rw [b1] | rw [b2])
      | (go_at_call 53; refine (spec_inB _ _ _ _).mono ?_; rintro e w1 ⟨rfl, e1⟩; subst e1; rw [b3])
      | fail)
    go_ret
    exact ⟨rfl, HX.out.below⟩
  rcases b4 : decide (O.high ≤ 1000)
  · go_enter Tryz.func21, Tryz.ntmps21
    go_wp2_with (first
      | (go_at_call 52; refine (spec_nameOk _ (by assumption) _).mono ?_; rintro e w1 ⟨rfl, e1⟩; subst e1; first | rw [b1] | rw [b2])
      | (go_at_call 53; refine (spec_inB _ _ _ _).mono ?_; rintro e w1 ⟨rfl, e1⟩; subst e1; rw [b3])
      | fail)
    go_ret
    exact ⟨rfl, HX.out.below⟩
  rcases b5 : dec (Els Met.name Met.okB O.mets)
  · go_enter Tryz.func21, Tryz.ntmps21
    go_wp2_with (first
      | (go_at_call 52; refine (spec_nameOk _ (by assumption) _).mono ?_; rintro e w1 ⟨rfl, e1⟩; subst e1; first | rw [b1] | rw [b2])
      | (go_at_call 53; refine (spec_inB _ _ _ _).mono ?_; rintro e w1 ⟨rfl, e1⟩; subst e1; rw [b3])
      | (go_at_call 54; refine (HM.out _ HX.out.below).mono ?_; rintro e w1 ⟨rfl, hb⟩; rw [b5]; replace HX := Lib.hid (HX.out.next hb); clear hb; have c5 := HX.out.cell 5; have c6 := HX.out.cell 6; have c7 := HX.out.cell 7; have c8 := HX.out.cell 8)
      | fail)
    go_ret
    exact ⟨rfl, HX.out.below⟩
  rcases b6 : paceB O.pace.up O.pace.down O.pace.ups O.pace.downs
  · go_enter Tryz.func21, Tryz.ntmps21
    go_wp2_with (first
      | (go_at_call 52; refine (spec_nameOk _ (by assumption) _).mono ?_; rintro e w1 ⟨rfl, e1⟩; subst e1; first | rw [b1] | rw [b2])
      | (go_at_call 53; refine (spec_inB _ _ _ _).mono ?_; rintro e w1 ⟨rfl, e1⟩; subst e1; rw [b3])
      | (go_at_call 54; refine (HM.out _ HX.out.below).mono ?_; rintro e w1 ⟨rfl, hb⟩; rw [b5]; replace HX := Lib.hid (HX.out.next hb); clear hb; have c5 := HX.out.cell 5; have c6 := HX.out.cell 6; have c7 := HX.out.cell 7; have c8 := HX.out.cell 8)
      | (go_at_call 55; refine (spec_paceOk _ _ _ _ _).mono ?_; rintro e w2 ⟨rfl, hb⟩; rw [b6]; replace HX := Lib.hid (HX.out.next hb); clear hb; have c9 := HX.out.cell 9)
      | fail)
    go_ret
    exact ⟨rfl, HX.out.below⟩
  rcases b7 : dec (Els Not.key Not.okB O.notes)
  · go_enter Tryz.func21, Tryz.ntmps21
    go_wp2_with (first
      | (go_at_call 52; refine (spec_nameOk _ (by assumption) _).mono ?_; rintro e w1 ⟨rfl, e1⟩; subst e1; first | rw [b1] | rw [b2])
      | (go_at_call 53; refine (spec_inB _ _ _ _).mono ?_; rintro e w1 ⟨rfl, e1⟩; subst e1; rw [b3])
      | (go_at_call 54; refine (HM.out _ HX.out.below).mono ?_; rintro e w1 ⟨rfl, hb⟩; rw [b5]; replace HX := Lib.hid (HX.out.next hb); clear hb; have c5 := HX.out.cell 5; have c6 := HX.out.cell 6; have c7 := HX.out.cell 7; have c8 := HX.out.cell 8)
      | (go_at_call 55; refine (spec_paceOk _ _ _ _ _).mono ?_; rintro e w2 ⟨rfl, hb⟩; rw [b6]; replace HX := Lib.hid (HX.out.next hb); clear hb; have c9 := HX.out.cell 9)
      | (go_at_call 56; refine (HN.out _ HX.out.below).mono ?_; rintro e w3 ⟨rfl, hb⟩; rw [b7]; replace HX := Lib.hid (HX.out.next hb); clear hb)
      | fail)
    go_ret
    exact ⟨rfl, HX.out.below⟩
  go_enter Tryz.func21, Tryz.ntmps21
  go_wp2_with (first
    | (go_at_call 52; refine (spec_nameOk _ (by assumption) _).mono ?_; rintro e w1 ⟨rfl, e1⟩; subst e1; first | rw [b1] | rw [b2])
    | (go_at_call 53; refine (spec_inB _ _ _ _).mono ?_; rintro e w1 ⟨rfl, e1⟩; subst e1; rw [b3])
    | (go_at_call 54; refine (HM.out _ HX.out.below).mono ?_; rintro e w1 ⟨rfl, hb⟩; rw [b5]; replace HX := Lib.hid (HX.out.next hb); clear hb; have c5 := HX.out.cell 5; have c6 := HX.out.cell 6; have c7 := HX.out.cell 7; have c8 := HX.out.cell 8)
    | (go_at_call 55; refine (spec_paceOk _ _ _ _ _).mono ?_; rintro e w2 ⟨rfl, hb⟩; rw [b6]; replace HX := Lib.hid (HX.out.next hb); clear hb; have c9 := HX.out.cell 9)
    | (go_at_call 56; refine (HN.out _ HX.out.below).mono ?_; rintro e w3 ⟨rfl, hb⟩; rw [b7]; replace HX := Lib.hid (HX.out.next hb); clear hb)
    | fail)
  go_ret
  exact ⟨rfl, HX.out.below⟩

end Go.Proofs.YtfmkhogpnnobeaaGreatDoor

/- plain facts on orders that are right: how great their trees are; the full shape is what the model sets, one Key behind the other. -/
namespace Go.Proofs.YtfmkhogpnnobeaaGreatDoor
open Go Go.RowKit

theorem okB_out {O : Ord} (h : O.okB = true) : O.name.size ≤ 20 ∧ O.target.size ≤ 20 ∧ (O.mets.length ≤ 4 ∧ ∀ m ∈ O.mets, m.name.size ≤ 20) ∧ O.notes.length ≤ 4 ∧ (∀ n ∈ O.notes, n.key.size ≤ 60 ∧ n.text.size ≤ 40) ∧ AscK (O.notes.map (·.key)) := by
  unfold Ord.okB at h
  simp only [Bool.and_eq_true] at h
  obtain ⟨⟨⟨⟨⟨⟨h1, h2⟩, -⟩, -⟩, h3⟩, -⟩, h4⟩ := h
  have nm : ∀ s, nameB s = true → s.size ≤ 20 := fun s hs => by
    unfold nameB at hs
    simp only [Bool.and_eq_true, decide_eq_true_eq] at hs
    exact hs.1.2
  have h3' : Els Met.name Met.okB O.mets := @of_decide_eq_true _ (Classical.propDecidable _) h3
  have h4' : Els Not.key Not.okB O.notes := @of_decide_eq_true _ (Classical.propDecidable _) h4
  refine ⟨nm _ h1, nm _ h2, ⟨h3'.2, fun m hm => ?_⟩, h4'.2, fun n hn => ?_, fun i hi h0 => ?_⟩
  · obtain ⟨i, hi, rfl⟩ := List.getElem_of_mem hm
    have := (h3'.1 i hi).1
    unfold Met.okB metB at this
    simp only [Bool.and_eq_true] at this
    exact nm _ this.1.1
  · obtain ⟨i, hi, rfl⟩ := List.getElem_of_mem hn
    have := (h4'.1 i hi).1
    unfold Not.okB plainB at this
    simp only [Bool.and_eq_true, decide_eq_true_eq] at this
    exact ⟨this.1.1.1.1.1.2, this.2⟩
  · have hi' : i < O.notes.length := by simpa using hi
    have := (h4'.1 i hi').2 h0
    simpa using this

theorem szAll_le (B : Nat) : (l : List RT) → (∀ t ∈ l, t.sz ≤ B) → szAll l ≤ l.length * B
  | [], _ => by simp [szAll]
  | t :: l, h => by
    have h1 := h t (by simp)
    have h2 := szAll_le B l fun x hx => h x (by simp [hx])
    simp only [szAll, List.length_cons, Nat.add_mul]
    omega
theorem strSz_le (B : Nat) : (l : List ByteArray) → (∀ t ∈ l, t.size ≤ B) → strSz l ≤ l.length * B
  | [], _ => by simp [strSz]
  | t :: l, h => by
    have h1 := h t (by simp)
    have h2 := strSz_le B l fun x hx => h x (by simp [hx])
    simp only [strSz, List.map_cons, List.sum_cons, List.length_cons, Nat.add_mul] at h2 ⊢
    omega

theorem mets_sz {O : Ord} (h : O.okB = true) (hg : ∀ m ∈ O.mets, m.ok) : (metsT O.mets).sz ≤ 2000 := by
  obtain ⟨-, -, ⟨h1, h2⟩, -⟩ := okB_out h
  have a := szAll_le 220 (O.mets.map metT) (fun t ht => by
    obtain ⟨m, hm, rfl⟩ := List.mem_map.1 ht
    have := metT_sz m (hg m hm).2.2.1 (hg m hm).2.2.2
    have := h2 m hm
    omega)
  have k : (⟨#[]⟩ : ByteArray).size = 0 := rfl
  simp only [metsT, RT.sz, k, strSz, List.length_nil, List.map_nil, List.sum_nil, List.length_map] at a ⊢
  omega

theorem notes_sz {O : Ord} (h : O.okB = true) : szAll (O.notes.map noteK) + strSz (O.notes.map (·.key)) + 2 * O.notes.length ≤ 1000 ∧ (notesT O.notes).sz ≤ 1000 := by
  obtain ⟨-, -, -, h1, h2, -⟩ := okB_out h
  have a := szAll_le 40 (O.notes.map noteK) (fun t ht => by
    obtain ⟨m, hm, rfl⟩ := List.mem_map.1 ht
    have := (h2 m hm).2
    simp only [noteK, RT.sz, strSz, szAll, List.length_nil, List.map_nil, List.sum_nil]
    omega)
  have c := strSz_le 60 (O.notes.map (·.key)) (fun t ht => by
    obtain ⟨m, hm, rfl⟩ := List.mem_map.1 ht
    exact (h2 m hm).1)
  rw [List.length_map] at a c
  have k : (⟨#[]⟩ : ByteArray).size = 0 := rfl
  refine ⟨by omega, ?_⟩
  simp only [notesT, RT.sz, k, List.length_map]
  omega

theorem head_sz {O : Ord} (h : O.okB = true) (kd : ByteArray) (hk : kd.size ≤ 20) : (headT kd O).sz ≤ 200 := by
  obtain ⟨h1, h2, -⟩ := okB_out h
  have k0 : (⟨#[]⟩ : ByteArray).size = 0 := rfl
  have k1 : (⟨#[104, 105, 103, 104]⟩ : ByteArray).size = 4 := rfl
  have k2 : (⟨#[107, 105, 110, 100]⟩ : ByteArray).size = 4 := rfl
  have k3 : (⟨#[108, 111, 119]⟩ : ByteArray).size = 3 := rfl
  have k4 : (⟨#[110, 97, 109, 101]⟩ : ByteArray).size = 4 := rfl
  have k5 : (⟨#[116, 97, 114, 103, 101, 116]⟩ : ByteArray).size = 6 := rfl
  simp only [headT, RT.sz, szAll, strSz, List.length_cons, List.length_nil, List.map_cons, List.map_nil, List.sum_cons, List.sum_nil, k0, k1, k2, k3, k4, k5]
  omega

/-- The full shape, one Key behind the other. -/
theorem full_sets (O : Ord) : setT (setT (setT (headT ⟨#[102, 117, 108, 108]⟩ O) ⟨#[109, 101, 116, 114, 105, 99, 115]⟩ (metsT O.mets)) ⟨#[112, 97, 99, 101]⟩ (pacT O.pace)) ⟨#[110, 111, 116, 101, 115]⟩ (notesT O.notes) = fullT O := by
  show (setT (setT (setT (.node 5 0 ⟨#[]⟩ [⟨#[104, 105, 103, 104]⟩, ⟨#[107, 105, 110, 100]⟩, ⟨#[108, 111, 119]⟩, ⟨#[110, 97, 109, 101]⟩, ⟨#[116, 97, 114, 103, 101, 116]⟩] [.node 2 O.high ⟨#[]⟩ [] [], .node 3 0 ⟨#[102, 117, 108, 108]⟩ [] [], .node 2 O.low ⟨#[]⟩ [] [], .node 3 0 O.name [] [], .node 3 0 O.target [] []]) ⟨#[109, 101, 116, 114, 105, 99, 115]⟩ (metsT O.mets)) ⟨#[112, 97, 99, 101]⟩ (pacT O.pace)) ⟨#[110, 111, 116, 101, 115]⟩ (notesT O.notes)) = _
  rw [setT_new (by rfl) (show firstN [⟨#[104, 105, 103, 104]⟩, ⟨#[107, 105, 110, 100]⟩, ⟨#[108, 111, 119]⟩, ⟨#[110, 97, 109, 101]⟩, ⟨#[116, 97, 114, 103, 101, 116]⟩] ⟨#[109, 101, 116, 114, 105, 99, 115]⟩ = 5 by decide +kernel) (show placeN [⟨#[104, 105, 103, 104]⟩, ⟨#[107, 105, 110, 100]⟩, ⟨#[108, 111, 119]⟩, ⟨#[110, 97, 109, 101]⟩, ⟨#[116, 97, 114, 103, 101, 116]⟩] ⟨#[109, 101, 116, 114, 105, 99, 115]⟩ = 3 by decide +kernel)]
  show (setT (setT (.node 5 0 ⟨#[]⟩ [⟨#[104, 105, 103, 104]⟩, ⟨#[107, 105, 110, 100]⟩, ⟨#[108, 111, 119]⟩, ⟨#[109, 101, 116, 114, 105, 99, 115]⟩, ⟨#[110, 97, 109, 101]⟩, ⟨#[116, 97, 114, 103, 101, 116]⟩] [.node 2 O.high ⟨#[]⟩ [] [], .node 3 0 ⟨#[102, 117, 108, 108]⟩ [] [], .node 2 O.low ⟨#[]⟩ [] [], (metsT O.mets), .node 3 0 O.name [] [], .node 3 0 O.target [] []]) ⟨#[112, 97, 99, 101]⟩ (pacT O.pace)) ⟨#[110, 111, 116, 101, 115]⟩ (notesT O.notes)) = _
  rw [setT_new (by rfl) (show firstN [⟨#[104, 105, 103, 104]⟩, ⟨#[107, 105, 110, 100]⟩, ⟨#[108, 111, 119]⟩, ⟨#[109, 101, 116, 114, 105, 99, 115]⟩, ⟨#[110, 97, 109, 101]⟩, ⟨#[116, 97, 114, 103, 101, 116]⟩] ⟨#[112, 97, 99, 101]⟩ = 6 by decide +kernel) (show placeN [⟨#[104, 105, 103, 104]⟩, ⟨#[107, 105, 110, 100]⟩, ⟨#[108, 111, 119]⟩, ⟨#[109, 101, 116, 114, 105, 99, 115]⟩, ⟨#[110, 97, 109, 101]⟩, ⟨#[116, 97, 114, 103, 101, 116]⟩] ⟨#[112, 97, 99, 101]⟩ = 5 by decide +kernel)]
  show (setT (.node 5 0 ⟨#[]⟩ [⟨#[104, 105, 103, 104]⟩, ⟨#[107, 105, 110, 100]⟩, ⟨#[108, 111, 119]⟩, ⟨#[109, 101, 116, 114, 105, 99, 115]⟩, ⟨#[110, 97, 109, 101]⟩, ⟨#[112, 97, 99, 101]⟩, ⟨#[116, 97, 114, 103, 101, 116]⟩] [.node 2 O.high ⟨#[]⟩ [] [], .node 3 0 ⟨#[102, 117, 108, 108]⟩ [] [], .node 2 O.low ⟨#[]⟩ [] [], (metsT O.mets), .node 3 0 O.name [] [], (pacT O.pace), .node 3 0 O.target [] []]) ⟨#[110, 111, 116, 101, 115]⟩ (notesT O.notes)) = _
  rw [setT_new (by rfl) (show firstN [⟨#[104, 105, 103, 104]⟩, ⟨#[107, 105, 110, 100]⟩, ⟨#[108, 111, 119]⟩, ⟨#[109, 101, 116, 114, 105, 99, 115]⟩, ⟨#[110, 97, 109, 101]⟩, ⟨#[112, 97, 99, 101]⟩, ⟨#[116, 97, 114, 103, 101, 116]⟩] ⟨#[110, 111, 116, 101, 115]⟩ = 7 by decide +kernel) (show placeN [⟨#[104, 105, 103, 104]⟩, ⟨#[107, 105, 110, 100]⟩, ⟨#[108, 111, 119]⟩, ⟨#[109, 101, 116, 114, 105, 99, 115]⟩, ⟨#[110, 97, 109, 101]⟩, ⟨#[112, 97, 99, 101]⟩, ⟨#[116, 97, 114, 103, 101, 116]⟩] ⟨#[110, 111, 116, 101, 115]⟩ = 5 by decide +kernel)]
  rfl
end Go.Proofs.YtfmkhogpnnobeaaGreatDoor

/- for both flags the program's FlagOf answers as the model's FlagOf does, in memory of its own; no condition. -/
namespace Go.Proofs.YtfmkhogpnnobeaaGreatDoor
open Go Go.RowKit

set_option maxHeartbeats 400000 in
theorem node_flag (x : Int) (w : World) : Calls Tryz.prog 224 #[.int .i64 x] w fun e w' => e = .returned (.agg #[.int .i64 1, .int .i64 x, .string ⟨#[]⟩, .slice none 0 0, .slice none 0 0]) ∧ Below w.heap.size w w' := by
  go_enter Tryz.func224, Tryz.ntmps224
  go_wp2
  exact bodyPost_ret (ret_node Tryz.results224 rfl (heap_last w _)) rfl ⟨rfl, (Below.refl _ w).alloc (Nat.le_refl _) _⟩

end Go.Proofs.YtfmkhogpnnobeaaGreatDoor

/- the program's nodeOk tells of a node alone whether it is as its kind has it. -/
namespace Go.Proofs.YtfmkhogpnnobeaaGreatDoor
open Go Go.RowKit

/-- A node alone is as its kind has it. -/
def HeadOk (T : RT) : Prop :=
  (T.k = 0 ∧ T.n = 0 ∧ T.s = ⟨#[]⟩ ∧ T.keys.length = 0 ∧ T.kids.length = 0) ∨
  (T.k = 1 ∧ (T.n = 0 ∨ T.n = 1) ∧ T.s = ⟨#[]⟩ ∧ T.keys.length = 0 ∧ T.kids.length = 0) ∨
  (T.k = 2 ∧ (-1000000000000 ≤ T.n ∧ T.n ≤ 1000000000000) ∧ T.s = ⟨#[]⟩ ∧ T.keys.length = 0 ∧ T.kids.length = 0) ∨
  (T.k = 3 ∧ T.n = 0 ∧ textOk T.s = true ∧ T.keys.length = 0 ∧ T.kids.length = 0) ∨
  (T.k = 4 ∧ T.n = 0 ∧ T.s = ⟨#[]⟩ ∧ T.keys.length = 0) ∨
  (T.k = 5 ∧ T.n = 0 ∧ T.s = ⟨#[]⟩ ∧ T.keys.length = T.kids.length ∧ keysOk T.keys = true)

noncomputable def headOk (T : RT) : Bool := @decide (HeadOk T) (Classical.propDecidable _)
theorem headOk_yes {T : RT} (h : HeadOk T) : headOk T = true := @decide_eq_true _ (Classical.propDecidable _) h
theorem headOk_no {T : RT} (h : ¬ HeadOk T) : headOk T = false := @decide_eq_false _ (Classical.propDecidable _) h

/-! ### What the program's type switch finds -/

theorem zero_null : (Tryz.prog.info? 158).map (·.zero) = some (some (.agg #[])) := by kernel_rfl
theorem as_null_yes (v : Value) (xT : TypeId) (w : World) : (Instr.typeAssert (.iface 158 v) xT 158 true).run Tryz.prog w = .ok (.tuple #[v, .bool true]) w := by
  simp [Instr.typeAssert, run_underlying Tryz.underlying158, go_sem, Result.andThen]
theorem as_null_no (t : TypeId) (h : t ≠ 158) (v : Value) (xT : TypeId) (w : World) : (Instr.typeAssert (.iface t v) xT 158 true).run Tryz.prog w = .ok (.tuple #[.agg #[], .bool false]) w := by
  obtain ⟨i, hi, hz⟩ := Option.map_eq_some_iff.1 zero_null
  simp [Instr.typeAssert, run_underlying Tryz.underlying158, go_sem, Result.andThen, zeroValue, typeInfo, hi, hz, h]

theorem zero_flag : (Tryz.prog.info? 142).map (·.zero) = some (some (.int .i64 0)) := by kernel_rfl
theorem as_flag_yes (v : Value) (xT : TypeId) (w : World) : (Instr.typeAssert (.iface 142 v) xT 142 true).run Tryz.prog w = .ok (.tuple #[v, .bool true]) w := by
  simp [Instr.typeAssert, run_underlying Tryz.underlying142, go_sem, Result.andThen]
theorem as_flag_no (t : TypeId) (h : t ≠ 142) (v : Value) (xT : TypeId) (w : World) : (Instr.typeAssert (.iface t v) xT 142 true).run Tryz.prog w = .ok (.tuple #[.int .i64 0, .bool false]) w := by
  obtain ⟨i, hi, hz⟩ := Option.map_eq_some_iff.1 zero_flag
  simp [Instr.typeAssert, run_underlying Tryz.underlying142, go_sem, Result.andThen, zeroValue, typeInfo, hi, hz, h]

theorem zero_int : (Tryz.prog.info? 127).map (·.zero) = some (some (.int .i64 0)) := by kernel_rfl
theorem as_int_yes (v : Value) (xT : TypeId) (w : World) : (Instr.typeAssert (.iface 127 v) xT 127 true).run Tryz.prog w = .ok (.tuple #[v, .bool true]) w := by
  simp [Instr.typeAssert, run_underlying Tryz.underlying127, go_sem, Result.andThen]
theorem as_int_no (t : TypeId) (h : t ≠ 127) (v : Value) (xT : TypeId) (w : World) : (Instr.typeAssert (.iface t v) xT 127 true).run Tryz.prog w = .ok (.tuple #[.int .i64 0, .bool false]) w := by
  obtain ⟨i, hi, hz⟩ := Option.map_eq_some_iff.1 zero_int
  simp [Instr.typeAssert, run_underlying Tryz.underlying127, go_sem, Result.andThen, zeroValue, typeInfo, hi, hz, h]

theorem zero_text : (Tryz.prog.info? 120).map (·.zero) = some (some (.string ⟨#[]⟩)) := by kernel_rfl
theorem as_text_yes (v : Value) (xT : TypeId) (w : World) : (Instr.typeAssert (.iface 120 v) xT 120 true).run Tryz.prog w = .ok (.tuple #[v, .bool true]) w := by
  simp [Instr.typeAssert, run_underlying Tryz.underlying120, go_sem, Result.andThen]
theorem as_text_no (t : TypeId) (h : t ≠ 120) (v : Value) (xT : TypeId) (w : World) : (Instr.typeAssert (.iface t v) xT 120 true).run Tryz.prog w = .ok (.tuple #[.string ⟨#[]⟩, .bool false]) w := by
  obtain ⟨i, hi, hz⟩ := Option.map_eq_some_iff.1 zero_text
  simp [Instr.typeAssert, run_underlying Tryz.underlying120, go_sem, Result.andThen, zeroValue, typeInfo, hi, hz, h]

theorem zero_list : (Tryz.prog.info? 129).map (·.zero) = some (some (.slice none 0 0)) := by kernel_rfl
theorem as_list_yes (v : Value) (xT : TypeId) (w : World) : (Instr.typeAssert (.iface 129 v) xT 129 true).run Tryz.prog w = .ok (.tuple #[v, .bool true]) w := by
  simp [Instr.typeAssert, run_underlying Tryz.underlying129, go_sem, Result.andThen]
theorem as_list_no (t : TypeId) (h : t ≠ 129) (v : Value) (xT : TypeId) (w : World) : (Instr.typeAssert (.iface t v) xT 129 true).run Tryz.prog w = .ok (.tuple #[.slice none 0 0, .bool false]) w := by
  obtain ⟨i, hi, hz⟩ := Option.map_eq_some_iff.1 zero_list
  simp [Instr.typeAssert, run_underlying Tryz.underlying129, go_sem, Result.andThen, zeroValue, typeInfo, hi, hz, h]

theorem zero_map : (Tryz.prog.info? 119).map (·.zero) = some (some (.agg #[.slice none 0 0, .slice none 0 0])) := by kernel_rfl
theorem as_map_yes (v : Value) (xT : TypeId) (w : World) : (Instr.typeAssert (.iface 119 v) xT 119 true).run Tryz.prog w = .ok (.tuple #[v, .bool true]) w := by
  simp [Instr.typeAssert, run_underlying Tryz.underlying119, go_sem, Result.andThen]
theorem as_map_no (t : TypeId) (h : t ≠ 119) (v : Value) (xT : TypeId) (w : World) : (Instr.typeAssert (.iface t v) xT 119 true).run Tryz.prog w = .ok (.tuple #[.agg #[.slice none 0 0, .slice none 0 0], .bool false]) w := by
  obtain ⟨i, hi, hz⟩ := Option.map_eq_some_iff.1 zero_map
  simp [Instr.typeAssert, run_underlying Tryz.underlying119, go_sem, Result.andThen, zeroValue, typeInfo, hi, hz, h]

set_option maxHeartbeats 400000 in
theorem node_null (w : World) : Calls Tryz.prog 225 #[.agg #[]] w fun e w' => e = .returned (.agg #[.int .i64 0, .int .i64 0, .string ⟨#[]⟩, .slice none 0 0, .slice none 0 0]) ∧ Below w.heap.size w w' := by
  go_enter Tryz.func225, Tryz.ntmps225
  go_wp2
  have h1 := heap_last (w.alloc (Obj.cells #[] 158)) (Obj.cells #[.int .i64 0, .int .i64 0, .string ⟨#[]⟩, .slice none 0 0, .slice none 0 0] 32)
  have e1 : (w.alloc (Obj.cells #[] 158)).heap.size = w.heap.size + 1 := by simp
  rw [e1] at h1
  exact bodyPost_ret (ret_node Tryz.results225 rfl h1) rfl ⟨rfl, ((Below.refl _ w).alloc (Nat.le_refl _) _).alloc (by simp) _⟩

set_option maxHeartbeats 400000 in
theorem node_list (o : Option Addr) (l c : Nat) (w : World) : Calls Tryz.prog 126 #[.slice o l c] w fun e w' => e = .returned (.agg #[.int .i64 4, .int .i64 0, .string ⟨#[]⟩, .slice none 0 0, .slice o l c]) ∧ Below w.heap.size w w' := by
  go_enter Tryz.func126, Tryz.ntmps126
  go_wp2
  exact bodyPost_ret (ret_node Tryz.results126 rfl (heap_last w _)) rfl ⟨rfl, (Below.refl _ w).alloc (Nat.le_refl _) _⟩

set_option maxHeartbeats 400000 in
theorem node_map (ko o : Option Addr) (kl kc l c : Nat) (w : World) : Calls Tryz.prog 110 #[.agg #[.slice ko kl kc, .slice o l c]] w fun e w' => e = .returned (.agg #[.int .i64 5, .int .i64 0, .string ⟨#[]⟩, .slice ko kl kc, .slice o l c]) ∧ Below w.heap.size w w' := by
  go_enter Tryz.func110, Tryz.ntmps110
  go_wp2
  have h1 := heap_last (w.alloc (Obj.cells #[.slice ko kl kc, .slice o l c] 119)) (Obj.cells #[.int .i64 5, .int .i64 0, .string ⟨#[]⟩, .slice ko kl kc, .slice o l c] 32)
  have e1 : (w.alloc (Obj.cells #[.slice ko kl kc, .slice o l c] 119)).heap.size = w.heap.size + 1 := by simp
  rw [e1] at h1
  exact bodyPost_ret (ret_node Tryz.results110 rfl h1) rfl ⟨rfl, ((Below.refl _ w).alloc (Nat.le_refl _) _).alloc (by simp) _⟩

theorem meth_null (v : Value) (w : World) : (method 312 158 v "loop.example/g00465/impl.node").run Tryz.prog w = .ok (225, v) w := by kernel_rfl
theorem meth_flag (v : Value) (w : World) : (method 312 142 v "loop.example/g00465/impl.node").run Tryz.prog w = .ok (224, v) w := by kernel_rfl
theorem meth_int (v : Value) (w : World) : (method 312 127 v "loop.example/g00465/impl.node").run Tryz.prog w = .ok (122, v) w := by kernel_rfl
theorem meth_text (v : Value) (w : World) : (method 312 120 v "loop.example/g00465/impl.node").run Tryz.prog w = .ok (111, v) w := by kernel_rfl
theorem meth_list (v : Value) (w : World) : (method 312 129 v "loop.example/g00465/impl.node").run Tryz.prog w = .ok (126, v) w := by kernel_rfl
theorem meth_map (v : Value) (w : World) : (method 312 119 v "loop.example/g00465/impl.node").run Tryz.prog w = .ok (110, v) w := by kernel_rfl
end Go.Proofs.YtfmkhogpnnobeaaGreatDoor

/- the program's formOf, formOk and nodeOk, kind by kind. -/
namespace Go.Proofs.YtfmkhogpnnobeaaGreatDoor
open Go Go.RowKit

theorem empty_ne {s : ByteArray} (h : ¬ s = ⟨#[]⟩) : (s.toList == []) = false := by
  have := bytes_ne h
  simpa [ByteArray.toList_eq] using this

set_option maxRecDepth 100000 in
set_option maxHeartbeats 400000 in
theorem formOf_null (n : Int) (s : ByteArray) (ko o : Option Addr) (kl kc dl dc : Nat) (w : World) : Calls Tryz.prog 142 #[.agg #[.int .i64 0, .int .i64 n, .string s, .slice ko kl kc, .slice o dl dc]] w fun e w' => e = .returned (.tuple #[.iface 158 (.agg #[]), .bool true]) ∧ Below w.heap.size w w' := by
  go_enter Tryz.func142, Tryz.ntmps142
  go_wp2
  go_ret2
  exact ⟨rfl, (Below.refl _ w).alloc (Nat.le_refl _) _⟩

set_option maxRecDepth 100000 in
set_option maxHeartbeats 400000 in
theorem formOf_flag (n : Int) (s : ByteArray) (ko o : Option Addr) (kl kc dl dc : Nat) (w : World) : Calls Tryz.prog 142 #[.agg #[.int .i64 1, .int .i64 n, .string s, .slice ko kl kc, .slice o dl dc]] w fun e w' => e = .returned (.tuple #[.iface 142 (.int .i64 n), .bool true]) ∧ Below w.heap.size w w' := by
  go_enter Tryz.func142, Tryz.ntmps142
  go_wp2
  go_ret2
  exact ⟨rfl, (Below.refl _ w).alloc (Nat.le_refl _) _⟩

set_option maxRecDepth 100000 in
set_option maxHeartbeats 400000 in
theorem formOf_int (n : Int) (s : ByteArray) (ko o : Option Addr) (kl kc dl dc : Nat) (w : World) : Calls Tryz.prog 142 #[.agg #[.int .i64 2, .int .i64 n, .string s, .slice ko kl kc, .slice o dl dc]] w fun e w' => e = .returned (.tuple #[.iface 127 (.int .i64 n), .bool true]) ∧ Below w.heap.size w w' := by
  go_enter Tryz.func142, Tryz.ntmps142
  go_wp2
  go_ret2
  exact ⟨rfl, (Below.refl _ w).alloc (Nat.le_refl _) _⟩

set_option maxRecDepth 100000 in
set_option maxHeartbeats 400000 in
theorem formOf_text (n : Int) (s : ByteArray) (ko o : Option Addr) (kl kc dl dc : Nat) (w : World) : Calls Tryz.prog 142 #[.agg #[.int .i64 3, .int .i64 n, .string s, .slice ko kl kc, .slice o dl dc]] w fun e w' => e = .returned (.tuple #[.iface 120 (.string s), .bool true]) ∧ Below w.heap.size w w' := by
  go_enter Tryz.func142, Tryz.ntmps142
  go_wp2
  go_ret2
  exact ⟨rfl, (Below.refl _ w).alloc (Nat.le_refl _) _⟩

set_option maxRecDepth 100000 in
set_option maxHeartbeats 400000 in
theorem formOf_list (n : Int) (s : ByteArray) (ko o : Option Addr) (kl kc dl dc : Nat) (w : World) : Calls Tryz.prog 142 #[.agg #[.int .i64 4, .int .i64 n, .string s, .slice ko kl kc, .slice o dl dc]] w fun e w' => e = .returned (.tuple #[.iface 129 (.slice o dl dc), .bool true]) ∧ Below w.heap.size w w' := by
  go_enter Tryz.func142, Tryz.ntmps142
  go_wp2
  go_ret2
  exact ⟨rfl, (Below.refl _ w).alloc (Nat.le_refl _) _⟩

set_option maxRecDepth 100000 in
set_option maxHeartbeats 400000 in
theorem formOf_map (n : Int) (s : ByteArray) (ko o : Option Addr) (kl kc dl dc : Nat) (w : World) : Calls Tryz.prog 142 #[.agg #[.int .i64 5, .int .i64 n, .string s, .slice ko kl kc, .slice o dl dc]] w fun e w' => e = .returned (.tuple #[.iface 119 (.agg #[.slice ko kl kc, .slice o dl dc]), .bool true]) ∧ Below w.heap.size w w' := by
  go_enter Tryz.func142, Tryz.ntmps142
  go_wp2
  go_ret2
  exact ⟨rfl, (Below.refl _ w).alloc (Nat.le_refl _) _⟩

set_option maxRecDepth 100000 in
set_option maxHeartbeats 400000 in
theorem formOf_none (k : Int) (h0 : ¬ k = 0) (h1 : ¬ k = 1) (h2 : ¬ k = 2) (h3 : ¬ k = 3) (h4 : ¬ k = 4) (h5 : ¬ k = 5) (n : Int) (s : ByteArray) (ko o : Option Addr) (kl kc dl dc : Nat) (w : World) : Calls Tryz.prog 142 #[.agg #[.int .i64 k, .int .i64 n, .string s, .slice ko kl kc, .slice o dl dc]] w fun e w' => e = .returned (.tuple #[.nilIface, .bool false]) ∧ Below w.heap.size w w' := by
  go_enter Tryz.func142, Tryz.ntmps142
  go_wp2
  go_ret2
  exact ⟨rfl, (Below.refl _ w).alloc (Nat.le_refl _) _⟩

set_option maxRecDepth 100000 in
set_option maxHeartbeats 400000 in
theorem formOk_null  (w : World) : Calls Tryz.prog 179 #[.iface 158 (.agg #[])] w fun e w' => e = .returned (.bool true) ∧ Below w.heap.size w w' := by
  have a_null := as_null_yes
  have a_list := as_list_no 158 (by decide)
  go_enter Tryz.func179, Tryz.ntmps179
  go_wp2
  go_ret
  exact ⟨rfl, Below.refl _ _⟩

set_option maxRecDepth 100000 in
set_option maxHeartbeats 400000 in
theorem formOk_list (o : Option Addr) (dl dc : Nat) (w : World) : Calls Tryz.prog 179 #[.iface 129 (.slice o dl dc)] w fun e w' => e = .returned (.bool true) ∧ Below w.heap.size w w' := by
  have a_null := as_null_no 129 (by decide)
  have a_list := as_list_yes
  go_enter Tryz.func179, Tryz.ntmps179
  go_wp2
  go_ret
  exact ⟨rfl, Below.refl _ _⟩

set_option maxRecDepth 100000 in
set_option maxHeartbeats 400000 in
theorem formOk_flag0  (w : World) : Calls Tryz.prog 179 #[.iface 142 (.int .i64 0)] w fun e w' => e = .returned (.bool true) ∧ Below w.heap.size w w' := by
  have a_null := as_null_no 142 (by decide)
  have a_list := as_list_no 142 (by decide)
  have a_flag := as_flag_yes
  go_enter Tryz.func179, Tryz.ntmps179
  go_wp2
  go_ret
  exact ⟨rfl, Below.refl _ _⟩

set_option maxRecDepth 100000 in
set_option maxHeartbeats 400000 in
theorem formOk_flag1  (w : World) : Calls Tryz.prog 179 #[.iface 142 (.int .i64 1)] w fun e w' => e = .returned (.bool true) ∧ Below w.heap.size w w' := by
  have a_null := as_null_no 142 (by decide)
  have a_list := as_list_no 142 (by decide)
  have a_flag := as_flag_yes
  go_enter Tryz.func179, Tryz.ntmps179
  go_wp2
  go_ret
  exact ⟨rfl, Below.refl _ _⟩

set_option maxRecDepth 100000 in
set_option maxHeartbeats 400000 in
theorem formOk_flag_no (n : Int) (h0 : ¬ n = 0) (h1 : ¬ n = 1) (w : World) : Calls Tryz.prog 179 #[.iface 142 (.int .i64 n)] w fun e w' => e = .returned (.bool false) ∧ Below w.heap.size w w' := by
  have a_null := as_null_no 142 (by decide)
  have a_list := as_list_no 142 (by decide)
  have a_flag := as_flag_yes
  go_enter Tryz.func179, Tryz.ntmps179
  go_wp2
  go_ret
  exact ⟨ret_bool (by simp [h0, h1]), Below.refl _ _⟩

set_option maxRecDepth 100000 in
set_option maxHeartbeats 400000 in
theorem formOk_int_yes (n : Int) (h0 : -1000000000000 ≤ n) (h1 : n ≤ 1000000000000) (w : World) : Calls Tryz.prog 179 #[.iface 127 (.int .i64 n)] w fun e w' => e = .returned (.bool true) ∧ Below w.heap.size w w' := by
  have a_null := as_null_no 127 (by decide)
  have a_list := as_list_no 127 (by decide)
  have a_flag := as_flag_no 127 (by decide)
  have a_int := as_int_yes
  go_enter Tryz.func179, Tryz.ntmps179
  go_wp2
  go_ret
  exact ⟨rfl, Below.refl _ _⟩

set_option maxRecDepth 100000 in
set_option maxHeartbeats 400000 in
theorem formOk_int_low (n : Int) (h0 : ¬ -1000000000000 ≤ n) (w : World) : Calls Tryz.prog 179 #[.iface 127 (.int .i64 n)] w fun e w' => e = .returned (.bool false) ∧ Below w.heap.size w w' := by
  have a_null := as_null_no 127 (by decide)
  have a_list := as_list_no 127 (by decide)
  have a_flag := as_flag_no 127 (by decide)
  have a_int := as_int_yes
  go_enter Tryz.func179, Tryz.ntmps179
  go_wp2
  go_ret
  exact ⟨rfl, Below.refl _ _⟩

set_option maxRecDepth 100000 in
set_option maxHeartbeats 400000 in
theorem formOk_int_high (n : Int) (h0 : -1000000000000 ≤ n) (h1 : ¬ n ≤ 1000000000000) (w : World) : Calls Tryz.prog 179 #[.iface 127 (.int .i64 n)] w fun e w' => e = .returned (.bool false) ∧ Below w.heap.size w w' := by
  have a_null := as_null_no 127 (by decide)
  have a_list := as_list_no 127 (by decide)
  have a_flag := as_flag_no 127 (by decide)
  have a_int := as_int_yes
  go_enter Tryz.func179, Tryz.ntmps179
  go_wp2
  go_ret
  exact ⟨rfl, Below.refl _ _⟩

set_option maxRecDepth 100000 in
set_option maxHeartbeats 400000 in
theorem formOk_text (s : ByteArray) (hs : s.size ≤ maxLen) (w : World) : Calls Tryz.prog 179 #[.iface 120 (.string s)] w fun e w' => e = .returned (.bool (textOk s)) ∧ Below w.heap.size w w' := by
  have a_null := as_null_no 120 (by decide)
  have a_list := as_list_no 120 (by decide)
  have a_flag := as_flag_no 120 (by decide)
  have a_int := as_int_no 120 (by decide)
  have a_text := as_text_yes
  have HT := Lib.hid (impl_textOk s hs)
  clear hs
  go_enter Tryz.func179, Tryz.ntmps179
  go_wp2_with (first | (go_at_call 132; refine (HT.out _).mono ?_; rintro e w1 ⟨rfl, e1⟩; subst e1) | go_in)
  go_ret
  exact ⟨rfl, Below.refl _ _⟩

set_option maxRecDepth 100000 in
set_option maxHeartbeats 400000 in
theorem formOk_map_no (ko o : Option Addr) (kl kc dl dc : Nat) (h : ¬ (kl : Int) = dl) (w : World) : Calls Tryz.prog 179 #[.iface 119 (.agg #[.slice ko kl kc, .slice o dl dc])] w fun e w' => e = .returned (.bool false) ∧ Below w.heap.size w w' := by
  have a_null := as_null_no 119 (by decide)
  have a_list := as_list_no 119 (by decide)
  have a_flag := as_flag_no 119 (by decide)
  have a_int := as_int_no 119 (by decide)
  have a_text := as_text_no 119 (by decide)
  have a_map := as_map_yes
  go_enter Tryz.func179, Tryz.ntmps179
  go_wp2
  go_ret
  exact ⟨rfl, (Below.refl _ w).alloc (Nat.le_refl _) _⟩

set_option maxRecDepth 100000 in
set_option maxHeartbeats 400000 in
theorem formOk_map_yes (kv : Value) (keys : List ByteArray) (FK : List Nat) (o : Option Addr) (dc : Nat) (w : World) (hK : StrsAt w kv keys FK) : Calls Tryz.prog 179 #[.iface 119 (.agg #[kv, .slice o keys.length dc])] w fun e w' => e = .returned (.bool (keysOk keys)) ∧ Below w.heap.size w w' := by
  have HT := Lib.hid fun ob => impl_keysOk (w.alloc ob) (hK.stay ((Below.refl _ w).alloc (Nat.le_refl _) ob) (Nat.le_refl _))
  obtain ⟨ko, kc, rfl⟩ := hK.slice
  clear hK
  have a_null := as_null_no 119 (by decide)
  have a_list := as_list_no 119 (by decide)
  have a_flag := as_flag_no 119 (by decide)
  have a_int := as_int_no 119 (by decide)
  have a_text := as_text_no 119 (by decide)
  have a_map := as_map_yes
  go_enter Tryz.func179, Tryz.ntmps179
  go_wp2_with (first | (go_at_call 190; refine (HT.out _).mono ?_; rintro e w1 ⟨rfl, e1⟩; subst e1) | go_in)
  go_ret
  exact ⟨rfl, (Below.refl _ w).alloc (Nat.le_refl _) _⟩
end Go.Proofs.YtfmkhogpnnobeaaGreatDoor
