/-
  What is proved: OrderOk of the model, and of the program, tells of an order whether it is right.; plain facts on orders that are right: how great their trees are; the full shape is what the model sets, one Key behind the other.; plain facts on a literal of eight Kids three of which have memory of their own: where all of it lies apart, it is the tree of an order in the full shape.
-/
import Derived.Test.YtfmkhogpnnobeaaGreatDoorOrdOkN
import Derived.Test.YtfmkhogpnnobeaaGreatDoorPartAI
import Derived.Test.YtfmkhogpnnobeaaGreatDoorPartAJ
import Derived.Test.YtfmkhogpnnobeaaGreatDoorPartAF
import Derived.Test.YtfmkhogpnnobeaaGreatDoorPartAD
/- OrderOk of the model, and of the program, tells of an order whether it is right. -/
namespace Go.Proofs.YtfmkhogpnnobeaaGreatDoor
open Go Go.RowKit

noncomputable def Ord.okB (O : Ord) : Bool := (((((nameB O.name && nameB O.target) && inB O.low 1 O.high) && decide (O.high ≤ 1000)) && dec (Els Met.name Met.okB O.mets)) && paceB O.pace.up O.pace.down O.pace.ups O.pace.downs) && dec (Els Not.key Not.okB O.notes)


set_option maxRecDepth 100000 in
set_option maxHeartbeats 4000000 in
theorem spec_orderOk {O : Ord} {mv nv : Value} {FM FN : List Nat} (w : World) (ho : OrdAt w O mv nv FM FN) :
    Calls Tryz.prog 21 #[.agg #[.string O.name, .string O.target, .int .i64 O.low, .int .i64 O.high, mv, .int .i64 O.pace.up, .int .i64 O.pace.down, .int .i64 O.pace.ups, .int .i64 O.pace.downs, nv]] w fun e w' => e = .returned (.bool O.okB) ∧ Below w.heap.size w w' := by
  have HX := Lib.hid (Bx.start w #[.string O.name, .string O.target, .int .i64 O.low, .int .i64 O.high, mv, .int .i64 O.pace.up, .int .i64 O.pace.down, .int .i64 O.pace.ups, .int .i64 O.pace.downs, nv] 38)
  have h1 := ho.name
  have h2 := ho.target
  have HM := Lib.hid fun wr (hb : Below w.heap.size w wr) => spec_mets wr (RowAt.stay ho.mets (by decide) hb (Nat.le_refl _))
  have HN := Lib.hid fun wr (hb : Below w.heap.size w wr) => spec_nots wr (RowAt.stay ho.notes (by decide) hb (Nat.le_refl _))
  obtain ⟨⟨o1, c1, rfl⟩, o2, c2, rfl⟩ := ho.slices
  clear ho
  unfold Ord.okB
  rcases b1 : nameB O.name
  · go_enter Tryz.func21, Tryz.ntmps21
    go_wp2_with (first
      | (go_at_call 52; refine (spec_nameOk _ (by assumption) _).mono ?_; rintro e w1 ⟨rfl, e1⟩; subst e1; first | rw [b1] | rw [b2])
      | fail)
    go_ret
    exact ⟨rfl, HX.out.below⟩
  rcases b2 : nameB O.target
  · go_enter Tryz.func21, Tryz.ntmps21
    go_wp2_with (first
      | (go_at_call 52; refine (spec_nameOk _ (by assumption) _).mono ?_; rintro e w1 ⟨rfl, e1⟩; subst e1; first | rw [b1] | rw [b2])
      | fail)
    go_ret
    exact ⟨rfl, HX.out.below⟩
  rcases b3 : inB O.low 1 O.high
  · go_enter Tryz.func21, Tryz.ntmps21
    go_wp2_with (first
      | (go_at_call 52; refine (spec_nameOk _ (by assumption) _).mono ?_; rintro e w1 ⟨rfl, e1⟩; subst e1; first | rw [b1] | rw [b2])
      | (go_at_call 53; refine (spec_inB _ _ _ _).mono ?_; rintro e w1 ⟨rfl, e1⟩; subst e1; rw [b3])
      | fail)
    go_ret
    exact ⟨rfl, HX.out.below⟩
  rcases b4 : decide (O.high ≤ 1000)
  · go_enter Tryz.func21, Tryz.ntmps21
    go_wp2_with (first
      | (go_at_call 52; refine (spec_nameOk _ (by assumption) _).mono ?_; rintro e w1 ⟨rfl, e1⟩; subst e1; first | rw [b1] | rw [b2])
      | (go_at_call 53; refine (spec_inB _ _ _ _).mono ?_; rintro e w1 ⟨rfl, e1⟩; subst e1; rw [b3])
      | fail)
    go_ret
    exact ⟨rfl, HX.out.below⟩
  rcases b5 : dec (Els Met.name Met.okB O.mets)
  · go_enter Tryz.func21, Tryz.ntmps21
    go_wp2_with (first
      | (go_at_call 52; refine (spec_nameOk _ (by assumption) _).mono ?_; rintro e w1 ⟨rfl, e1⟩; subst e1; first | rw [b1] | rw [b2])
      | (go_at_call 53; refine (spec_inB _ _ _ _).mono ?_; rintro e w1 ⟨rfl, e1⟩; subst e1; rw [b3])
      | (go_at_call 54; refine (HM.out _ HX.out.below).mono ?_; rintro e w1 ⟨rfl, hb⟩; rw [b5]; replace HX := Lib.hid (HX.out.next hb); clear hb; have c5 := HX.out.cell 5; have c6 := HX.out.cell 6; have c7 := HX.out.cell 7; have c8 := HX.out.cell 8)
      | fail)
    go_ret
    exact ⟨rfl, HX.out.below⟩
  rcases b6 : paceB O.pace.up O.pace.down O.pace.ups O.pace.downs
  · go_enter Tryz.func21, Tryz.ntmps21
    go_wp2_with (first
      | (go_at_call 52; refine (spec_nameOk _ (by assumption) _).mono ?_; rintro e w1 ⟨rfl, e1⟩; subst e1; first | rw [b1] | rw [b2])
      | (go_at_call 53; refine (spec_inB _ _ _ _).mono ?_; rintro e w1 ⟨rfl, e1⟩; subst e1; rw [b3])
      | (go_at_call 54; refine (HM.out _ HX.out.below).mono ?_; rintro e w1 ⟨rfl, hb⟩; rw [b5]; replace HX := Lib.hid (HX.out.next hb); clear hb; have c5 := HX.out.cell 5; have c6 := HX.out.cell 6; have c7 := HX.out.cell 7; have c8 := HX.out.cell 8)
      | (go_at_call 55; refine (spec_paceOk _ _ _ _ _).mono ?_; rintro e w2 ⟨rfl, hb⟩; rw [b6]; replace HX := Lib.hid (HX.out.next hb); clear hb; have c9 := HX.out.cell 9)
      | fail)
    go_ret
    exact ⟨rfl, HX.out.below⟩
  rcases b7 : dec (Els Not.key Not.okB O.notes)
  · go_enter Tryz.func21, Tryz.ntmps21
    go_wp2_with (first
      | (go_at_call 52; refine (spec_nameOk _ (by assumption) _).mono ?_; rintro e w1 ⟨rfl, e1⟩; subst e1; first | rw [b1] | rw [b2])
      | (go_at_call 53; refine (spec_inB _ _ _ _).mono ?_; rintro e w1 ⟨rfl, e1⟩; subst e1; rw [b3])
      | (go_at_call 54; refine (HM.out _ HX.out.below).mono ?_; rintro e w1 ⟨rfl, hb⟩; rw [b5]; replace HX := Lib.hid (HX.out.next hb); clear hb; have c5 := HX.out.cell 5; have c6 := HX.out.cell 6; have c7 := HX.out.cell 7; have c8 := HX.out.cell 8)
      | (go_at_call 55; refine (spec_paceOk _ _ _ _ _).mono ?_; rintro e w2 ⟨rfl, hb⟩; rw [b6]; replace HX := Lib.hid (HX.out.next hb); clear hb; have c9 := HX.out.cell 9)
      | (go_at_call 56; refine (HN.out _ HX.out.below).mono ?_; rintro e w3 ⟨rfl, hb⟩; rw [b7]; replace HX := Lib.hid (HX.out.next hb); clear hb)
      | fail)
    go_ret
    exact ⟨rfl, HX.out.below⟩
  go_enter Tryz.func21, Tryz.ntmps21
  go_wp2_with (first
    | (go_at_call 52; refine (spec_nameOk _ (by assumption) _).mono ?_; rintro e w1 ⟨rfl, e1⟩; subst e1; first | rw [b1] | rw [b2])
    | (go_at_call 53; refine (spec_inB _ _ _ _).mono ?_; rintro e w1 ⟨rfl, e1⟩; subst e1; rw [b3])
    | (go_at_call 54; refine (HM.out _ HX.out.below).mono ?_; rintro e w1 ⟨rfl, hb⟩; rw [b5]; replace HX := Lib.hid (HX.out.next hb); clear hb; have c5 := HX.out.cell 5; have c6 := HX.out.cell 6; have c7 := HX.out.cell 7; have c8 := HX.out.cell 8)
    | (go_at_call 55; refine (spec_paceOk _ _ _ _ _).mono ?_; rintro e w2 ⟨rfl, hb⟩; rw [b6]; replace HX := Lib.hid (HX.out.next hb); clear hb; have c9 := HX.out.cell 9)
    | (go_at_call 56; refine (HN.out _ HX.out.below).mono ?_; rintro e w3 ⟨rfl, hb⟩; rw [b7]; replace HX := Lib.hid (HX.out.next hb); clear hb)
    | fail)
  go_ret
  exact ⟨rfl, HX.out.below⟩

end Go.Proofs.YtfmkhogpnnobeaaGreatDoor

/- plain facts on orders that are right: how great their trees are; the full shape is what the model sets, one Key behind the other. -/
namespace Go.Proofs.YtfmkhogpnnobeaaGreatDoor
open Go Go.RowKit

theorem okB_out {O : Ord} (h : O.okB = true) : O.name.size ≤ 20 ∧ O.target.size ≤ 20 ∧ (O.mets.length ≤ 4 ∧ ∀ m ∈ O.mets, m.name.size ≤ 20) ∧ O.notes.length ≤ 4 ∧ (∀ n ∈ O.notes, n.key.size ≤ 60 ∧ n.text.size ≤ 40) ∧ AscK (O.notes.map (·.key)) := by
  unfold Ord.okB at h
  simp only [Bool.and_eq_true] at h
  obtain ⟨⟨⟨⟨⟨⟨h1, h2⟩, -⟩, -⟩, h3⟩, -⟩, h4⟩ := h
  have nm : ∀ s, nameB s = true → s.size ≤ 20 := fun s hs => by
    unfold nameB at hs
    simp only [Bool.and_eq_true, decide_eq_true_eq] at hs
    exact hs.1.2
  have h3' : Els Met.name Met.okB O.mets := @of_decide_eq_true _ (Classical.propDecidable _) h3
  have h4' : Els Not.key Not.okB O.notes := @of_decide_eq_true _ (Classical.propDecidable _) h4
  refine ⟨nm _ h1, nm _ h2, ⟨h3'.2, fun m hm => ?_⟩, h4'.2, fun n hn => ?_, fun i hi h0 => ?_⟩
  · obtain ⟨i, hi, rfl⟩ := List.getElem_of_mem hm
    have := (h3'.1 i hi).1
    unfold Met.okB metB at this
    simp only [Bool.and_eq_true] at this
    exact nm _ this.1.1
  · obtain ⟨i, hi, rfl⟩ := List.getElem_of_mem hn
    have := (h4'.1 i hi).1
    unfold Not.okB plainB at this
    simp only [Bool.and_eq_true, decide_eq_true_eq] at this
    exact ⟨this.1.1.1.1.1.2, this.2⟩
  · have hi' : i < O.notes.length := by simpa using hi
    have := (h4'.1 i hi').2 h0
    simpa using this

theorem szAll_le (B : Nat) : (l : List RT) → (∀ t ∈ l, t.sz ≤ B) → szAll l ≤ l.length * B
  | [], _ => by simp [szAll]
  | t :: l, h => by
    have h1 := h t (by simp)
    have h2 := szAll_le B l fun x hx => h x (by simp [hx])
    simp only [szAll, List.length_cons, Nat.add_mul]
    omega
theorem strSz_le (B : Nat) : (l : List ByteArray) → (∀ t ∈ l, t.size ≤ B) → strSz l ≤ l.length * B
  | [], _ => by simp [strSz]
  | t :: l, h => by
    have h1 := h t (by simp)
    have h2 := strSz_le B l fun x hx => h x (by simp [hx])
    simp only [strSz, List.map_cons, List.sum_cons, List.length_cons, Nat.add_mul] at h2 ⊢
    omega

theorem mets_sz {O : Ord} (h : O.okB = true) (hg : ∀ m ∈ O.mets, m.ok) : (metsT O.mets).sz ≤ 2000 := by
  obtain ⟨-, -, ⟨h1, h2⟩, -⟩ := okB_out h
  have a := szAll_le 220 (O.mets.map metT) (fun t ht => by
    obtain ⟨m, hm, rfl⟩ := List.mem_map.1 ht
    have := metT_sz m (hg m hm).2.2.1 (hg m hm).2.2.2
    have := h2 m hm
    omega)
  have k : (⟨#[]⟩ : ByteArray).size = 0 := rfl
  simp only [metsT, RT.sz, k, strSz, List.length_nil, List.map_nil, List.sum_nil, List.length_map] at a ⊢
  omega

theorem notes_sz {O : Ord} (h : O.okB = true) : szAll (O.notes.map noteK) + strSz (O.notes.map (·.key)) + 2 * O.notes.length ≤ 1000 ∧ (notesT O.notes).sz ≤ 1000 := by
  obtain ⟨-, -, -, h1, h2, -⟩ := okB_out h
  have a := szAll_le 40 (O.notes.map noteK) (fun t ht => by
    obtain ⟨m, hm, rfl⟩ := List.mem_map.1 ht
    have := (h2 m hm).2
    simp only [noteK, RT.sz, strSz, szAll, List.length_nil, List.map_nil, List.sum_nil]
    omega)
  have c := strSz_le 60 (O.notes.map (·.key)) (fun t ht => by
    obtain ⟨m, hm, rfl⟩ := List.mem_map.1 ht
    exact (h2 m hm).1)
  rw [List.length_map] at a c
  have k : (⟨#[]⟩ : ByteArray).size = 0 := rfl
  refine ⟨by omega, ?_⟩
  simp only [notesT, RT.sz, k, List.length_map]
  omega

theorem head_sz {O : Ord} (h : O.okB = true) (kd : ByteArray) (hk : kd.size ≤ 20) : (headT kd O).sz ≤ 200 := by
  obtain ⟨h1, h2, -⟩ := okB_out h
  have k0 : (⟨#[]⟩ : ByteArray).size = 0 := rfl
  have k1 : (⟨#[104, 105, 103, 104]⟩ : ByteArray).size = 4 := rfl
  have k2 : (⟨#[107, 105, 110, 100]⟩ : ByteArray).size = 4 := rfl
  have k3 : (⟨#[108, 111, 119]⟩ : ByteArray).size = 3 := rfl
  have k4 : (⟨#[110, 97, 109, 101]⟩ : ByteArray).size = 4 := rfl
  have k5 : (⟨#[116, 97, 114, 103, 101, 116]⟩ : ByteArray).size = 6 := rfl
  simp only [headT, RT.sz, szAll, strSz, List.length_cons, List.length_nil, List.map_cons, List.map_nil, List.sum_cons, List.sum_nil, k0, k1, k2, k3, k4, k5]
  omega

/-- The full shape, one Key behind the other. -/
theorem full_sets (O : Ord) : setT (setT (setT (headT ⟨#[102, 117, 108, 108]⟩ O) ⟨#[109, 101, 116, 114, 105, 99, 115]⟩ (metsT O.mets)) ⟨#[112, 97, 99, 101]⟩ (pacT O.pace)) ⟨#[110, 111, 116, 101, 115]⟩ (notesT O.notes) = fullT O := by
  show (setT (setT (setT (.node 5 0 ⟨#[]⟩ [⟨#[104, 105, 103, 104]⟩, ⟨#[107, 105, 110, 100]⟩, ⟨#[108, 111, 119]⟩, ⟨#[110, 97, 109, 101]⟩, ⟨#[116, 97, 114, 103, 101, 116]⟩] [.node 2 O.high ⟨#[]⟩ [] [], .node 3 0 ⟨#[102, 117, 108, 108]⟩ [] [], .node 2 O.low ⟨#[]⟩ [] [], .node 3 0 O.name [] [], .node 3 0 O.target [] []]) ⟨#[109, 101, 116, 114, 105, 99, 115]⟩ (metsT O.mets)) ⟨#[112, 97, 99, 101]⟩ (pacT O.pace)) ⟨#[110, 111, 116, 101, 115]⟩ (notesT O.notes)) = _
  rw [setT_new (by rfl) (show firstN [⟨#[104, 105, 103, 104]⟩, ⟨#[107, 105, 110, 100]⟩, ⟨#[108, 111, 119]⟩, ⟨#[110, 97, 109, 101]⟩, ⟨#[116, 97, 114, 103, 101, 116]⟩] ⟨#[109, 101, 116, 114, 105, 99, 115]⟩ = 5 by decide +kernel) (show placeN [⟨#[104, 105, 103, 104]⟩, ⟨#[107, 105, 110, 100]⟩, ⟨#[108, 111, 119]⟩, ⟨#[110, 97, 109, 101]⟩, ⟨#[116, 97, 114, 103, 101, 116]⟩] ⟨#[109, 101, 116, 114, 105, 99, 115]⟩ = 3 by decide +kernel)]
  show (setT (setT (.node 5 0 ⟨#[]⟩ [⟨#[104, 105, 103, 104]⟩, ⟨#[107, 105, 110, 100]⟩, ⟨#[108, 111, 119]⟩, ⟨#[109, 101, 116, 114, 105, 99, 115]⟩, ⟨#[110, 97, 109, 101]⟩, ⟨#[116, 97, 114, 103, 101, 116]⟩] [.node 2 O.high ⟨#[]⟩ [] [], .node 3 0 ⟨#[102, 117, 108, 108]⟩ [] [], .node 2 O.low ⟨#[]⟩ [] [], (metsT O.mets), .node 3 0 O.name [] [], .node 3 0 O.target [] []]) ⟨#[112, 97, 99, 101]⟩ (pacT O.pace)) ⟨#[110, 111, 116, 101, 115]⟩ (notesT O.notes)) = _
  rw [setT_new (by rfl) (show firstN [⟨#[104, 105, 103, 104]⟩, ⟨#[107, 105, 110, 100]⟩, ⟨#[108, 111, 119]⟩, ⟨#[109, 101, 116, 114, 105, 99, 115]⟩, ⟨#[110, 97, 109, 101]⟩, ⟨#[116, 97, 114, 103, 101, 116]⟩] ⟨#[112, 97, 99, 101]⟩ = 6 by decide +kernel) (show placeN [⟨#[104, 105, 103, 104]⟩, ⟨#[107, 105, 110, 100]⟩, ⟨#[108, 111, 119]⟩, ⟨#[109, 101, 116, 114, 105, 99, 115]⟩, ⟨#[110, 97, 109, 101]⟩, ⟨#[116, 97, 114, 103, 101, 116]⟩] ⟨#[112, 97, 99, 101]⟩ = 5 by decide +kernel)]
  show (setT (.node 5 0 ⟨#[]⟩ [⟨#[104, 105, 103, 104]⟩, ⟨#[107, 105, 110, 100]⟩, ⟨#[108, 111, 119]⟩, ⟨#[109, 101, 116, 114, 105, 99, 115]⟩, ⟨#[110, 97, 109, 101]⟩, ⟨#[112, 97, 99, 101]⟩, ⟨#[116, 97, 114, 103, 101, 116]⟩] [.node 2 O.high ⟨#[]⟩ [] [], .node 3 0 ⟨#[102, 117, 108, 108]⟩ [] [], .node 2 O.low ⟨#[]⟩ [] [], (metsT O.mets), .node 3 0 O.name [] [], (pacT O.pace), .node 3 0 O.target [] []]) ⟨#[110, 111, 116, 101, 115]⟩ (notesT O.notes)) = _
  rw [setT_new (by rfl) (show firstN [⟨#[104, 105, 103, 104]⟩, ⟨#[107, 105, 110, 100]⟩, ⟨#[108, 111, 119]⟩, ⟨#[109, 101, 116, 114, 105, 99, 115]⟩, ⟨#[110, 97, 109, 101]⟩, ⟨#[112, 97, 99, 101]⟩, ⟨#[116, 97, 114, 103, 101, 116]⟩] ⟨#[110, 111, 116, 101, 115]⟩ = 7 by decide +kernel) (show placeN [⟨#[104, 105, 103, 104]⟩, ⟨#[107, 105, 110, 100]⟩, ⟨#[108, 111, 119]⟩, ⟨#[109, 101, 116, 114, 105, 99, 115]⟩, ⟨#[110, 97, 109, 101]⟩, ⟨#[112, 97, 99, 101]⟩, ⟨#[116, 97, 114, 103, 101, 116]⟩] ⟨#[110, 111, 116, 101, 115]⟩ = 5 by decide +kernel)]
  rfl
end Go.Proofs.YtfmkhogpnnobeaaGreatDoor

/- plain facts on a literal of eight Kids three of which have memory of their own: where all of it lies apart, it is the tree of an order in the full shape. -/
namespace Go.Proofs.YtfmkhogpnnobeaaGreatDoor
open Go Go.RowKit

/-- A tree that was laid between two sizes of the heap. -/
structure KidAt (W : World) (T : RT) (kv dv : Value) (G : List Nat) (lo hi : Nat) : Prop where
  lie : Lies W T kv dv G
  nodup : G.Nodup
  free : ∀ b ∈ G, ∀ o, W.frozen? ⟨b, o, none⟩ = false
  span : ∀ x ∈ G, lo ≤ x ∧ x < hi

theorem KidAt.next {W W' : World} {T : RT} {kv dv : Value} {G : List Nat} {lo hi : Nat} (h : KidAt W T kv dv G lo hi) (hb : Below W.heap.size W W') : KidAt W' T kv dv G lo hi :=
  ⟨h.lie.stay hb (Nat.le_refl _), h.nodup, fun b hbG o => (hb.frozen (by exact h.lie.lt b hbG)).trans (h.free b hbG o), h.span⟩

theorem kid_at0 {w W X W' : World} {a r : Obj} {T : RT} {kv dv : Value} {G : List Nat} (_ : Two w W a r) (hl : Lies W' T kv dv G) (hf : Fresh X W' G) (hX : X.heap.size = W.heap.size) : KidAt W' T kv dv G W.heap.size W'.heap.size :=
  ⟨hl, hf.nodup, hf.free, fun x hx => ⟨by rw [← hX]; exact hf.old x hx, hl.lt x hx⟩⟩
theorem kid_at1 {w W X W' : World} {a r : Obj} {T : RT} {kv dv : Value} {G : List Nat} (_ : Two w W a r) (hl : Lies W' T kv dv G) (hf : Fresh X W' G) (hX : X.heap.size = W.heap.size + 1) : KidAt W' T kv dv G (W.heap.size + 1) W'.heap.size :=
  ⟨hl, hf.nodup, hf.free, fun x hx => ⟨by rw [← hX]; exact hf.old x hx, hl.lt x hx⟩⟩

theorem stepA {w W W' : World} {a r : Obj} (h : Two w W a r) (hb : Below W.heap.size W W') : Two w W' a r ∧ Below W.heap.size W W' := ⟨h.next hb, hb⟩
theorem stepB {w W W' : World} {a r : Obj} (h : Two w W a r) (hb : Below W.drew.heap.size W.drew W') : Two w W' a r ∧ Below W.heap.size W W' := ⟨h.next1 hb, (below_drew1 W).trans hb⟩
theorem stepC {w W W' : World} {a r o : Obj} {B : Nat} (h : Two w W a r) (hb : Below B (W.alloc o).drew W') (hB : B = W.heap.size + 1) : Two w W' a r ∧ Below W.heap.size W W' ∧ One w W' W.heap.size o ∧ W.heap.size + 1 ≤ W'.heap.size := by
  have h1 := h.lit hb hB
  have hb' : Below (W.alloc o).drew.heap.size (W.alloc o).drew W' := below_cast hb (by subst hB; simp [World.drew])
  exact ⟨h1.1, (below_lit W o).trans (hb'.mono (below_lit W o).size), h1.2, (Array.getElem?_eq_some_iff.1 h1.2.at_).1⟩
theorem stepD {w W W' : World} {a r o : Obj} (h : Two w W a r) (hb : Below (W.alloc o).heap.size (W.alloc o) W') : Two w W' a r ∧ Below W.heap.size W W' ∧ One w W' W.heap.size o ∧ W.heap.size + 1 ≤ W'.heap.size := by
  have h1 := h.lit1 hb
  have hba := (Below.refl _ W).alloc (Nat.le_refl _) o
  exact ⟨h1.1, hba.trans (hb.mono hba.size), h1.2, (Array.getElem?_eq_some_iff.1 h1.2.at_).1⟩
theorem stepE {w W W' : World} {a r o o' : Obj} {B : Nat} (h : Two w W a r) (hb : Below B ((W.alloc o).alloc o').drew W') (hB : B = W.heap.size + 2) : Two w W' a r ∧ Below W.heap.size W W' ∧ One w W' W.heap.size o ∧ One w W' (W.heap.size + 1) o' := by
  have h1 := h.lits hb hB
  obtain ⟨-, -, -, h4⟩ := two_blk W o o'
  have h5 : Below W.heap.size W ((W.alloc o).alloc o').drew := h4.trans (B := W.heap.size) ⟨rfl, rfl, rfl, Nat.le_refl _, fun _ _ => rfl⟩
  have hb' : Below ((W.alloc o).alloc o').drew.heap.size ((W.alloc o).alloc o').drew W' := below_cast hb (by subst hB; simp [World.drew])
  exact ⟨h1.1, h5.trans (hb'.mono h5.size), h1.2.1, h1.2.2⟩
theorem stepF {w W W' : World} {a r o o' : Obj} (h : Two w W a r) (hb : Below ((W.alloc o).alloc o').heap.size ((W.alloc o).alloc o') W') : Two w W' a r ∧ Below W.heap.size W W' ∧ One w W' W.heap.size o ∧ One w W' (W.heap.size + 1) o' := by
  have h1 := h.lits1 hb
  obtain ⟨-, -, -, h4⟩ := two_blk W o o'
  exact ⟨h1.1, h4.trans (hb.mono h4.size), h1.2.1, h1.2.2⟩

/-! ### The full shape -/

def kvF (kn kp : Value) : Nat → Value := fun i => if i = 5 then kn else if i = 6 then kp else .slice none 0 0
def dvF (dm dn dp : Value) : Nat → Value := fun i => if i = 3 then dm else if i = 5 then dn else if i = 6 then dp else .slice none 0 0
def ffF (GM GN GP : List Nat) : Nat → List Nat := fun i => if i = 3 then GM else if i = 5 then GN else if i = 6 then GP else []

theorem ffF_flat (GM GN GP : List Nat) : (List.range 8).flatMap (ffF GM GN GP) = GM ++ (GN ++ GP) := by
  simp [List.range_succ, ffF]

theorem full_keys (O : Ord) : ∀ k ∈ (fullT O).keys, k.size ≤ maxLen := by
  intro t ht
  simp only [fullT, RT.keys, List.mem_cons, List.not_mem_nil, or_false] at ht
  rcases ht with rfl | rfl | rfl | rfl | rfl | rfl | rfl | rfl <;> decide

/-- Eight Kids, three of which have memory of their own. -/
theorem full_fin {w W : World} {a : Obj} {z0 z1 z2 z3 z4 : Value} {bz bn : Nat} {cz cn : Array Value} {dm kn dn kp dp : Value} {GM GN GP : List Nat} {l1 h1 l2 h2 l3 h3 : Nat} (O : Ord)
    (H2 : Two w W a (.cells #[z0, z1, z2, z3, z4] 32)) (HZ : One w W bz (.cells cz 9)) (HN : One w W bn (.cells cn 32))
    (HM : KidAt W (metsT O.mets) (.slice none 0 0) dm GM l1 h1) (HNt : KidAt W (notesT O.notes) kn dn GN l2 h2) (HP : KidAt W (pacT O.pace) kp dp GP l3 h3)
    (d1 : h1 ≤ l2 ∨ h2 ≤ l1) (d2 : h1 ≤ l3 ∨ h3 ≤ l1) (d3 : h2 ≤ l3 ∨ h3 ≤ l2) (z1' : bz < l1 ∨ h1 ≤ bz) (z2' : bz < l2 ∨ h2 ≤ bz) (z3' : bz < l3 ∨ h3 ≤ bz) (n1 : bn < l1 ∨ h1 ≤ bn) (n2 : bn < l2 ∨ h2 ≤ bn) (n3 : bn < l3 ∨ h3 ≤ bn)
    (b1 : w.heap.size + 2 ≤ l1) (b2 : w.heap.size + 2 ≤ l2) (b3 : w.heap.size + 2 ≤ l3)
    (hcz : cz.toList = (fullT O).keys.map .string) (hcn : cn.toList = rowsOf (fullT O).kids (kvF kn kp) (dvF dm dn dp) 8) (f1 : Fit O.high) (f2 : Fit O.low) (f3 : O.name.size ≤ maxLen) (f4 : O.target.size ≤ maxLen) {W' : World}
    (hW : W' = set5 W (w.heap.size + 1) 0 (.int .i64 5) (.int .i64 0) (.string ⟨#[]⟩) (.slice (some ⟨bz, 0, none⟩) 8 8) (.slice (some ⟨bn, 0, none⟩) 8 8)) :
    ∃ F, W'.heap[w.heap.size + 1]? = some (.cells #[.int .i64 5, .int .i64 0, .string ⟨#[]⟩, .slice (some ⟨bz, 0, none⟩) 8 8, .slice (some ⟨bn, 0, none⟩) 8 8] 32 (0, 0)) ∧
    Lies W' (fullT O) (.slice (some ⟨bz, 0, none⟩) 8 8) (.slice (some ⟨bn, 0, none⟩) 8 8) F ∧ Fresh w W' F ∧ Below w.heap.size w W' := by
  have hcl : cn.size = 8 * 5 := by have := congrArg List.length hcn; rw [rowsOf_length] at this; simpa using this
  have hF : Fresh w W (GM ++ (GN ++ GP)) := by
    refine ⟨List.nodup_append.2 ⟨HM.nodup, List.nodup_append.2 ⟨HNt.nodup, HP.nodup, fun x hx y hy e => ?_⟩, fun x hx y hy e => ?_⟩, fun x hx => ?_, fun x hx => ?_⟩
    · have := HNt.span x hx; have := HP.span y hy; omega
    · have := HM.span x hx
      rcases List.mem_append.1 hy with hy | hy
      · have := HNt.span y hy; omega
      · have := HP.span y hy; omega
    · rcases List.mem_append.1 hx with hx | hx
      · have := HM.span x hx; omega
      rcases List.mem_append.1 hx with hx | hx
      · have := HNt.span x hx; omega
      · have := HP.span x hx; omega
    · rcases List.mem_append.1 hx with hx | hx
      · exact HM.free x hx
      rcases List.mem_append.1 hx with hx | hx
      · exact HNt.free x hx
      · exact HP.free x hx
  have leaf : ∀ (k n : Int) (s : ByteArray), Fit k → Fit n → s.size ≤ maxLen → Lies W (.node k n s [] []) (.slice none 0 0) (.slice none 0 0) [] := fun k n s hk hn hs => leaf_lies W hk hn hs
  have fz : Fit 0 := ⟨by decide, by decide⟩
  have fl2 : Fit 2 := ⟨by decide, by decide⟩
  have fl3 : Fit 3 := ⟨by decide, by decide⟩
  have hlies : ∀ i (hi : i < (fullT O).kids.length), Lies W (fullT O).kids[i] (kvF kn kp i) (dvF dm dn dp i) (ffF GM GN GP i) := by
    intro i hi
    have hi8 : i < 8 := hi
    match i, hi8 with
    | 0, _ => exact leaf 2 O.high _ fl2 f1 (by decide)
    | 1, _ => exact leaf 3 0 _ fl3 fz (by decide)
    | 2, _ => exact leaf 2 O.low _ fl2 f2 (by decide)
    | 3, _ => exact HM.lie
    | 4, _ => exact leaf 3 0 _ fl3 fz f3
    | 5, _ => exact HNt.lie
    | 6, _ => exact HP.lie
    | 7, _ => exact leaf 3 0 _ fl3 fz f4
  have h := lit_fin (ks := (fullT O).keys) (kids := (fullT O).kids) (KV := kvF kn kp) (DV := dvF dm dn dp) (FF := ffF GM GN GP) H2.below (by omega) H2.res HZ.at_ (by have := HZ.old; omega) HN.at_ (by have := HN.old; omega) (by have := HN.old; omega) hcz (full_keys O) (show 0 < 8 by decide) (show 8 ≤ maxLen by decide) hcl
    (fun i hi j hj => by rw [← Array.getElem?_toList, hcn, rowsOf_get _ _ _ _ _ _ (show i < 8 from hi) hj, List.getD_eq_getElem?_getD, List.getElem?_eq_getElem hi]; rfl)
    hlies (show 0 < 8 by decide) (show 8 ≤ maxLen by decide) (by show Fresh w W ((List.range 8).flatMap _); rw [ffF_flat]; exact hF) (fun x hx => by
      have hx : x ∈ (List.range 8).flatMap (ffF GM GN GP) := hx
      rw [ffF_flat] at hx
      rcases List.mem_append.1 hx with hx | hx
      · have := HM.span x hx; omega
      rcases List.mem_append.1 hx with hx | hx
      · have := HNt.span x hx; omega
      · have := HP.span x hx; omega) hW
  obtain ⟨g1, g2, g3, g4⟩ := h
  exact ⟨_, g1, g2, g3, g4⟩
end Go.Proofs.YtfmkhogpnnobeaaGreatDoor
