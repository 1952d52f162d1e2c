/-
  What is proved: OrderOk of the model, and of the program, tells of an order whether it is right.; plain facts on orders that are right: how great their trees are; the full shape is what the model sets, one Key behind the other.; plain facts on bytes that are laid one behind the other by append, and on the text that they become.; the model's Quote, at every text: empty when it is not right; else its bytes between two marks, with a stroke ahead of a mark or a stroke.; plain facts on the text that a tree is written as in braces: its parts, one behind the other, and how long it is at most.
-/
import Derived.Test.YtelpkcbbipianaaGreatOrdOkN
import Derived.Test.YtelpkcbbipianaaGreatPartAJ
import Derived.Test.YtelpkcbbipianaaGreatPartAK
import Derived.Test.YtelpkcbbipianaaGreatRows
import Derived.Below
import Derived.WalkKit
import Derived.Lib.Hide
import Derived.Laws.AppendOwn
import Derived.Laws.OwnMore
import Derived.Laws.IdiomStrings
import Derived.Maps.AppendAt
import Derived.Maps.Range
import Derived.Deep.OwnRows
import Derived.Deep.Slices
import Derived.Deep.AppendLies
import Derived.Test.YtelpkcbbipianaaGreatPartAA
import Derived.Lib.AppendZeros
import Derived.Test.YtelpkcbbipianaaGreatPartAG
import Derived.Test.YtelpkcbbipianaaGreatPartAH
import Derived.Lib.Join
/- OrderOk of the model, and of the program, tells of an order whether it is right. -/
namespace Go.Proofs.YtelpkcbbipianaaGreat
open Go Go.RowKit

noncomputable def Ord.okB (O : Ord) : Bool := (((((nameB O.name && nameB O.target) && inB O.low 1 O.high) && decide (O.high ≤ 1000)) && dec (Els Met.name Met.okB O.mets)) && paceB O.pace.up O.pace.down O.pace.ups O.pace.downs) && dec (Els Not.key Not.okB O.notes)


set_option maxRecDepth 100000 in
set_option maxHeartbeats 4000000 in
theorem spec_orderOk {O : Ord} {mv nv : Value} {FM FN : List Nat} (w : World) (ho : OrdAt w O mv nv FM FN) :
    Calls Tryz.prog 71 #[.agg #[.string O.name, .string O.target, .int .i64 O.low, .int .i64 O.high, mv, .int .i64 O.pace.up, .int .i64 O.pace.down, .int .i64 O.pace.ups, .int .i64 O.pace.downs, nv]] w fun e w' => e = .returned (.bool O.okB) ∧ Below w.heap.size w w' := by
  have HX := Lib.hid (Bx.start w #[.string O.name, .string O.target, .int .i64 O.low, .int .i64 O.high, mv, .int .i64 O.pace.up, .int .i64 O.pace.down, .int .i64 O.pace.ups, .int .i64 O.pace.downs, nv] 66)
  have h1 := ho.name
  have h2 := ho.target
  have HM := Lib.hid fun wr (hb : Below w.heap.size w wr) => spec_mets wr (RowAt.stay ho.mets (by decide) hb (Nat.le_refl _))
  have HN := Lib.hid fun wr (hb : Below w.heap.size w wr) => spec_nots wr (RowAt.stay ho.notes (by decide) hb (Nat.le_refl _))
  obtain ⟨⟨o1, c1, rfl⟩, o2, c2, rfl⟩ := ho.slices
  clear ho
  unfold Ord.okB
  rcases b1 : nameB O.name
  · go_enter Tryz.func71, Tryz.ntmps71
    go_wp2_with (first
      | (go_at_call 83; refine (spec_nameOk _ (by assumption) _).mono ?_; rintro e w1 ⟨rfl, e1⟩; subst e1; first | rw [b1] | rw [b2])
      | fail)
    go_ret
    exact ⟨rfl, HX.out.below⟩
  rcases b2 : nameB O.target
  · go_enter Tryz.func71, Tryz.ntmps71
    go_wp2_with (first
      | (go_at_call 83; refine (spec_nameOk _ (by assumption) _).mono ?_; rintro e w1 ⟨rfl, e1⟩; subst e1; first | rw [b1] | rw [b2])
      | fail)
    go_ret
    exact ⟨rfl, HX.out.below⟩
  rcases b3 : inB O.low 1 O.high
  · go_enter Tryz.func71, Tryz.ntmps71
    go_wp2_with (first
      | (go_at_call 83; refine (spec_nameOk _ (by assumption) _).mono ?_; rintro e w1 ⟨rfl, e1⟩; subst e1; first | rw [b1] | rw [b2])
      | (go_at_call 47; refine (spec_inB _ _ _ _).mono ?_; rintro e w1 ⟨rfl, e1⟩; subst e1; rw [b3])
      | fail)
    go_ret
    exact ⟨rfl, HX.out.below⟩
  rcases b4 : decide (O.high ≤ 1000)
  · go_enter Tryz.func71, Tryz.ntmps71
    go_wp2_with (first
      | (go_at_call 83; refine (spec_nameOk _ (by assumption) _).mono ?_; rintro e w1 ⟨rfl, e1⟩; subst e1; first | rw [b1] | rw [b2])
      | (go_at_call 47; refine (spec_inB _ _ _ _).mono ?_; rintro e w1 ⟨rfl, e1⟩; subst e1; rw [b3])
      | fail)
    go_ret
    exact ⟨rfl, HX.out.below⟩
  rcases b5 : dec (Els Met.name Met.okB O.mets)
  · go_enter Tryz.func71, Tryz.ntmps71
    go_wp2_with (first
      | (go_at_call 83; refine (spec_nameOk _ (by assumption) _).mono ?_; rintro e w1 ⟨rfl, e1⟩; subst e1; first | rw [b1] | rw [b2])
      | (go_at_call 47; refine (spec_inB _ _ _ _).mono ?_; rintro e w1 ⟨rfl, e1⟩; subst e1; rw [b3])
      | (go_at_call 84; refine (HM.out _ HX.out.below).mono ?_; rintro e w1 ⟨rfl, hb⟩; rw [b5]; replace HX := Lib.hid (HX.out.next hb); clear hb; have c5 := HX.out.cell 5; have c6 := HX.out.cell 6; have c7 := HX.out.cell 7; have c8 := HX.out.cell 8)
      | fail)
    go_ret
    exact ⟨rfl, HX.out.below⟩
  rcases b6 : paceB O.pace.up O.pace.down O.pace.ups O.pace.downs
  · go_enter Tryz.func71, Tryz.ntmps71
    go_wp2_with (first
      | (go_at_call 83; refine (spec_nameOk _ (by assumption) _).mono ?_; rintro e w1 ⟨rfl, e1⟩; subst e1; first | rw [b1] | rw [b2])
      | (go_at_call 47; refine (spec_inB _ _ _ _).mono ?_; rintro e w1 ⟨rfl, e1⟩; subst e1; rw [b3])
      | (go_at_call 84; refine (HM.out _ HX.out.below).mono ?_; rintro e w1 ⟨rfl, hb⟩; rw [b5]; replace HX := Lib.hid (HX.out.next hb); clear hb; have c5 := HX.out.cell 5; have c6 := HX.out.cell 6; have c7 := HX.out.cell 7; have c8 := HX.out.cell 8)
      | (go_at_call 85; refine (spec_paceOk _ _ _ _ _).mono ?_; rintro e w2 ⟨rfl, hb⟩; rw [b6]; replace HX := Lib.hid (HX.out.next hb); clear hb; have c9 := HX.out.cell 9)
      | fail)
    go_ret
    exact ⟨rfl, HX.out.below⟩
  rcases b7 : dec (Els Not.key Not.okB O.notes)
  · go_enter Tryz.func71, Tryz.ntmps71
    go_wp2_with (first
      | (go_at_call 83; refine (spec_nameOk _ (by assumption) _).mono ?_; rintro e w1 ⟨rfl, e1⟩; subst e1; first | rw [b1] | rw [b2])
      | (go_at_call 47; refine (spec_inB _ _ _ _).mono ?_; rintro e w1 ⟨rfl, e1⟩; subst e1; rw [b3])
      | (go_at_call 84; refine (HM.out _ HX.out.below).mono ?_; rintro e w1 ⟨rfl, hb⟩; rw [b5]; replace HX := Lib.hid (HX.out.next hb); clear hb; have c5 := HX.out.cell 5; have c6 := HX.out.cell 6; have c7 := HX.out.cell 7; have c8 := HX.out.cell 8)
      | (go_at_call 85; refine (spec_paceOk _ _ _ _ _).mono ?_; rintro e w2 ⟨rfl, hb⟩; rw [b6]; replace HX := Lib.hid (HX.out.next hb); clear hb; have c9 := HX.out.cell 9)
      | (go_at_call 86; refine (HN.out _ HX.out.below).mono ?_; rintro e w3 ⟨rfl, hb⟩; rw [b7]; replace HX := Lib.hid (HX.out.next hb); clear hb)
      | fail)
    go_ret
    exact ⟨rfl, HX.out.below⟩
  go_enter Tryz.func71, Tryz.ntmps71
  go_wp2_with (first
    | (go_at_call 83; refine (spec_nameOk _ (by assumption) _).mono ?_; rintro e w1 ⟨rfl, e1⟩; subst e1; first | rw [b1] | rw [b2])
    | (go_at_call 47; refine (spec_inB _ _ _ _).mono ?_; rintro e w1 ⟨rfl, e1⟩; subst e1; rw [b3])
    | (go_at_call 84; refine (HM.out _ HX.out.below).mono ?_; rintro e w1 ⟨rfl, hb⟩; rw [b5]; replace HX := Lib.hid (HX.out.next hb); clear hb; have c5 := HX.out.cell 5; have c6 := HX.out.cell 6; have c7 := HX.out.cell 7; have c8 := HX.out.cell 8)
    | (go_at_call 85; refine (spec_paceOk _ _ _ _ _).mono ?_; rintro e w2 ⟨rfl, hb⟩; rw [b6]; replace HX := Lib.hid (HX.out.next hb); clear hb; have c9 := HX.out.cell 9)
    | (go_at_call 86; refine (HN.out _ HX.out.below).mono ?_; rintro e w3 ⟨rfl, hb⟩; rw [b7]; replace HX := Lib.hid (HX.out.next hb); clear hb)
    | fail)
  go_ret
  exact ⟨rfl, HX.out.below⟩

end Go.Proofs.YtelpkcbbipianaaGreat

/- plain facts on orders that are right: how great their trees are; the full shape is what the model sets, one Key behind the other. -/
namespace Go.Proofs.YtelpkcbbipianaaGreat
open Go Go.RowKit

theorem okB_out {O : Ord} (h : O.okB = true) : O.name.size ≤ 20 ∧ O.target.size ≤ 20 ∧ (O.mets.length ≤ 4 ∧ ∀ m ∈ O.mets, m.name.size ≤ 20) ∧ O.notes.length ≤ 4 ∧ (∀ n ∈ O.notes, n.key.size ≤ 60 ∧ n.text.size ≤ 40) ∧ AscK (O.notes.map (·.key)) := by
  unfold Ord.okB at h
  simp only [Bool.and_eq_true] at h
  obtain ⟨⟨⟨⟨⟨⟨h1, h2⟩, -⟩, -⟩, h3⟩, -⟩, h4⟩ := h
  have nm : ∀ s, nameB s = true → s.size ≤ 20 := fun s hs => by
    unfold nameB at hs
    simp only [Bool.and_eq_true, decide_eq_true_eq] at hs
    exact hs.1.2
  have h3' : Els Met.name Met.okB O.mets := @of_decide_eq_true _ (Classical.propDecidable _) h3
  have h4' : Els Not.key Not.okB O.notes := @of_decide_eq_true _ (Classical.propDecidable _) h4
  refine ⟨nm _ h1, nm _ h2, ⟨h3'.2, fun m hm => ?_⟩, h4'.2, fun n hn => ?_, fun i hi h0 => ?_⟩
  · obtain ⟨i, hi, rfl⟩ := List.getElem_of_mem hm
    have := (h3'.1 i hi).1
    unfold Met.okB metB at this
    simp only [Bool.and_eq_true] at this
    exact nm _ this.1.1
  · obtain ⟨i, hi, rfl⟩ := List.getElem_of_mem hn
    have := (h4'.1 i hi).1
    unfold Not.okB plainB at this
    simp only [Bool.and_eq_true, decide_eq_true_eq] at this
    exact ⟨this.1.1.1.1.1.2, this.2⟩
  · have hi' : i < O.notes.length := by simpa using hi
    have := (h4'.1 i hi').2 h0
    simpa using this

theorem szAll_le (B : Nat) : (l : List RT) → (∀ t ∈ l, t.sz ≤ B) → szAll l ≤ l.length * B
  | [], _ => by simp [szAll]
  | t :: l, h => by
    have h1 := h t (by simp)
    have h2 := szAll_le B l fun x hx => h x (by simp [hx])
    simp only [szAll, List.length_cons, Nat.add_mul]
    omega
theorem strSz_le (B : Nat) : (l : List ByteArray) → (∀ t ∈ l, t.size ≤ B) → strSz l ≤ l.length * B
  | [], _ => by simp [strSz]
  | t :: l, h => by
    have h1 := h t (by simp)
    have h2 := strSz_le B l fun x hx => h x (by simp [hx])
    simp only [strSz, List.map_cons, List.sum_cons, List.length_cons, Nat.add_mul] at h2 ⊢
    omega

theorem mets_sz {O : Ord} (h : O.okB = true) (hg : ∀ m ∈ O.mets, m.ok) : (metsT O.mets).sz ≤ 2000 := by
  obtain ⟨-, -, ⟨h1, h2⟩, -⟩ := okB_out h
  have a := szAll_le 220 (O.mets.map metT) (fun t ht => by
    obtain ⟨m, hm, rfl⟩ := List.mem_map.1 ht
    have := metT_sz m (hg m hm).2.2.1 (hg m hm).2.2.2
    have := h2 m hm
    omega)
  have k : (⟨#[]⟩ : ByteArray).size = 0 := rfl
  simp only [metsT, RT.sz, k, strSz, List.length_nil, List.map_nil, List.sum_nil, List.length_map] at a ⊢
  omega

theorem notes_sz {O : Ord} (h : O.okB = true) : szAll (O.notes.map noteK) + strSz (O.notes.map (·.key)) + 2 * O.notes.length ≤ 1000 ∧ (notesT O.notes).sz ≤ 1000 := by
  obtain ⟨-, -, -, h1, h2, -⟩ := okB_out h
  have a := szAll_le 40 (O.notes.map noteK) (fun t ht => by
    obtain ⟨m, hm, rfl⟩ := List.mem_map.1 ht
    have := (h2 m hm).2
    simp only [noteK, RT.sz, strSz, szAll, List.length_nil, List.map_nil, List.sum_nil]
    omega)
  have c := strSz_le 60 (O.notes.map (·.key)) (fun t ht => by
    obtain ⟨m, hm, rfl⟩ := List.mem_map.1 ht
    exact (h2 m hm).1)
  rw [List.length_map] at a c
  have k : (⟨#[]⟩ : ByteArray).size = 0 := rfl
  refine ⟨by omega, ?_⟩
  simp only [notesT, RT.sz, k, List.length_map]
  omega

theorem head_sz {O : Ord} (h : O.okB = true) (kd : ByteArray) (hk : kd.size ≤ 20) : (headT kd O).sz ≤ 200 := by
  obtain ⟨h1, h2, -⟩ := okB_out h
  have k0 : (⟨#[]⟩ : ByteArray).size = 0 := rfl
  have k1 : (⟨#[104, 105, 103, 104]⟩ : ByteArray).size = 4 := rfl
  have k2 : (⟨#[107, 105, 110, 100]⟩ : ByteArray).size = 4 := rfl
  have k3 : (⟨#[108, 111, 119]⟩ : ByteArray).size = 3 := rfl
  have k4 : (⟨#[110, 97, 109, 101]⟩ : ByteArray).size = 4 := rfl
  have k5 : (⟨#[116, 97, 114, 103, 101, 116]⟩ : ByteArray).size = 6 := rfl
  simp only [headT, RT.sz, szAll, strSz, List.length_cons, List.length_nil, List.map_cons, List.map_nil, List.sum_cons, List.sum_nil, k0, k1, k2, k3, k4, k5]
  omega

/-- The full shape, one Key behind the other. -/
theorem full_sets (O : Ord) : setT (setT (setT (headT ⟨#[102, 117, 108, 108]⟩ O) ⟨#[109, 101, 116, 114, 105, 99, 115]⟩ (metsT O.mets)) ⟨#[112, 97, 99, 101]⟩ (pacT O.pace)) ⟨#[110, 111, 116, 101, 115]⟩ (notesT O.notes) = fullT O := by
  show (setT (setT (setT (.node 5 0 ⟨#[]⟩ [⟨#[104, 105, 103, 104]⟩, ⟨#[107, 105, 110, 100]⟩, ⟨#[108, 111, 119]⟩, ⟨#[110, 97, 109, 101]⟩, ⟨#[116, 97, 114, 103, 101, 116]⟩] [.node 2 O.high ⟨#[]⟩ [] [], .node 3 0 ⟨#[102, 117, 108, 108]⟩ [] [], .node 2 O.low ⟨#[]⟩ [] [], .node 3 0 O.name [] [], .node 3 0 O.target [] []]) ⟨#[109, 101, 116, 114, 105, 99, 115]⟩ (metsT O.mets)) ⟨#[112, 97, 99, 101]⟩ (pacT O.pace)) ⟨#[110, 111, 116, 101, 115]⟩ (notesT O.notes)) = _
  rw [setT_new (by rfl) (show firstN [⟨#[104, 105, 103, 104]⟩, ⟨#[107, 105, 110, 100]⟩, ⟨#[108, 111, 119]⟩, ⟨#[110, 97, 109, 101]⟩, ⟨#[116, 97, 114, 103, 101, 116]⟩] ⟨#[109, 101, 116, 114, 105, 99, 115]⟩ = 5 by decide +kernel) (show placeN [⟨#[104, 105, 103, 104]⟩, ⟨#[107, 105, 110, 100]⟩, ⟨#[108, 111, 119]⟩, ⟨#[110, 97, 109, 101]⟩, ⟨#[116, 97, 114, 103, 101, 116]⟩] ⟨#[109, 101, 116, 114, 105, 99, 115]⟩ = 3 by decide +kernel)]
  show (setT (setT (.node 5 0 ⟨#[]⟩ [⟨#[104, 105, 103, 104]⟩, ⟨#[107, 105, 110, 100]⟩, ⟨#[108, 111, 119]⟩, ⟨#[109, 101, 116, 114, 105, 99, 115]⟩, ⟨#[110, 97, 109, 101]⟩, ⟨#[116, 97, 114, 103, 101, 116]⟩] [.node 2 O.high ⟨#[]⟩ [] [], .node 3 0 ⟨#[102, 117, 108, 108]⟩ [] [], .node 2 O.low ⟨#[]⟩ [] [], (metsT O.mets), .node 3 0 O.name [] [], .node 3 0 O.target [] []]) ⟨#[112, 97, 99, 101]⟩ (pacT O.pace)) ⟨#[110, 111, 116, 101, 115]⟩ (notesT O.notes)) = _
  rw [setT_new (by rfl) (show firstN [⟨#[104, 105, 103, 104]⟩, ⟨#[107, 105, 110, 100]⟩, ⟨#[108, 111, 119]⟩, ⟨#[109, 101, 116, 114, 105, 99, 115]⟩, ⟨#[110, 97, 109, 101]⟩, ⟨#[116, 97, 114, 103, 101, 116]⟩] ⟨#[112, 97, 99, 101]⟩ = 6 by decide +kernel) (show placeN [⟨#[104, 105, 103, 104]⟩, ⟨#[107, 105, 110, 100]⟩, ⟨#[108, 111, 119]⟩, ⟨#[109, 101, 116, 114, 105, 99, 115]⟩, ⟨#[110, 97, 109, 101]⟩, ⟨#[116, 97, 114, 103, 101, 116]⟩] ⟨#[112, 97, 99, 101]⟩ = 5 by decide +kernel)]
  show (setT (.node 5 0 ⟨#[]⟩ [⟨#[104, 105, 103, 104]⟩, ⟨#[107, 105, 110, 100]⟩, ⟨#[108, 111, 119]⟩, ⟨#[109, 101, 116, 114, 105, 99, 115]⟩, ⟨#[110, 97, 109, 101]⟩, ⟨#[112, 97, 99, 101]⟩, ⟨#[116, 97, 114, 103, 101, 116]⟩] [.node 2 O.high ⟨#[]⟩ [] [], .node 3 0 ⟨#[102, 117, 108, 108]⟩ [] [], .node 2 O.low ⟨#[]⟩ [] [], (metsT O.mets), .node 3 0 O.name [] [], (pacT O.pace), .node 3 0 O.target [] []]) ⟨#[110, 111, 116, 101, 115]⟩ (notesT O.notes)) = _
  rw [setT_new (by rfl) (show firstN [⟨#[104, 105, 103, 104]⟩, ⟨#[107, 105, 110, 100]⟩, ⟨#[108, 111, 119]⟩, ⟨#[109, 101, 116, 114, 105, 99, 115]⟩, ⟨#[110, 97, 109, 101]⟩, ⟨#[112, 97, 99, 101]⟩, ⟨#[116, 97, 114, 103, 101, 116]⟩] ⟨#[110, 111, 116, 101, 115]⟩ = 7 by decide +kernel) (show placeN [⟨#[104, 105, 103, 104]⟩, ⟨#[107, 105, 110, 100]⟩, ⟨#[108, 111, 119]⟩, ⟨#[109, 101, 116, 114, 105, 99, 115]⟩, ⟨#[110, 97, 109, 101]⟩, ⟨#[112, 97, 99, 101]⟩, ⟨#[116, 97, 114, 103, 101, 116]⟩] ⟨#[110, 111, 116, 101, 115]⟩ = 5 by decide +kernel)]
  rfl
end Go.Proofs.YtelpkcbbipianaaGreat

/- plain facts on bytes that are laid one behind the other by append, and on the text that they become. -/
namespace Go.Proofs.YtelpkcbbipianaaGreat
open Go Go.RowKit

theorem info_u8 : (Tryz.prog.info? 5).map (fun i => (i.zero, i.size, i.bytes)) = some (some (.int .u8 0), 1, 1) := by kernel_rfl

def byteV (b : UInt8) : Value := .int .u8 b.toNat
def byteVs (l : List UInt8) : List Value := l.map byteV

/-- The bytes l, in a row that was made since w. -/
def Byts (w wr : World) (v : Value) (l : List UInt8) : Prop := wr.ownsRow w.heap.size 5 1 v l.length (byteVs l)

section
variable {w wr w1 : World} {v : Value} {l : List UInt8}

theorem Byts.slice (h : Byts w wr v l) : ∃ o c, v = .slice o l.length c := by
  rcases h.2 with ⟨rfl, h0⟩ | ⟨g, cap, cur, rfl, _⟩
  · exact ⟨none, 0, by rw [h0]⟩
  · exact ⟨_, _, rfl⟩

theorem Byts.one (hs : w.heap.size ≤ wr.heap.size) (b : UInt8) : Byts w (wr.alloc (.cells #[.int .u8 b.toNat] 5)) (.slice (some ⟨wr.heap.size, 0, none⟩) 1 1) [b] :=
  ⟨rfl, .inr ⟨wr.heap.size, 1, #[.int .u8 b.toNat], rfl, hs, by show (wr.heap.push _)[wr.heap.size]? = _; simp, Nat.le_refl _, by unfold maxLen; omega, rfl, rfl⟩⟩

/-- One byte more. -/
theorem Byts.more (h : Byts w wr v l) (hs : w.heap.size ≤ wr.heap.size) (b : UInt8) (hl : l.length < 1099511627776) (ty : TypeId) :
    ∃ v' w', (Builtin.append_ #[22, 22] ty #[v, .slice (some ⟨wr.heap.size, 0, none⟩) 1 1]).run Tryz.prog (wr.alloc (.cells #[.int .u8 b.toNat] 5)) = .ok v' w' ∧
      ∃ o' c', v' = .slice o' (l.length + 1) c' ∧ Byts w w' (.slice o' (l.length + 1) c') (l ++ [b]) ∧ Below w.heap.size wr w' := by
  obtain ⟨i0, hi0, hz0, hz1, hz2⟩ := info_parts info_u8
  have hba := (Below.refl wr.heap.size wr).alloc (Nat.le_refl _) (.cells #[.int .u8 b.toNat] 5)
  have hlast : (wr.alloc (.cells #[.int .u8 b.toNat] 5)).heap[wr.heap.size]? = some (.cells #[.int .u8 b.toNat] 5 (0, 0)) := by show (wr.heap.push _)[wr.heap.size]? = _; simp
  have hown := World.ownsRow.alloc h (.cells #[.int .u8 b.toNat] 5)
  obtain ⟨v', w', hr, h2, h3, -, -⟩ := run_append_own_at (P := Tryz.prog) (wr.alloc (.cells #[.int .u8 b.toNat] 5)) w.heap.size 22 ty 5 i0 _ 1 1 Tryz.underlying22 hi0 hz0 hz1 hz2 rfl (by decide) v l.length (byteVs l) hown
    ⟨wr.heap.size, 0, none⟩ 1 1 [.int .u8 b.toNat] rfl (World.news_of_block hlast) (by simp [Value.oneCell']) (by unfold maxLen; omega) (by omega) (by have := hba.size; omega)
  have hb : Byts w w' v' (l ++ [b]) := by
    unfold Byts byteVs
    rw [List.length_append, List.map_append]
    exact h2
  obtain ⟨o', c', rfl⟩ := hb.slice
  rw [List.length_append, List.length_singleton] at hb hr
  refine ⟨_, w', hr, o', c', rfl, hb, h3.os.trans hba.os, h3.tape.trans hba.tape, h3.output.trans hba.output, Nat.le_trans hba.size h3.size, fun k hk => (h3.block k (by have := hba.size; omega) (fun e => ?_)).trans (hba.block k (by omega))⟩
  have := (World.ownsRow.lt hown k e.symm).1
  omega

theorem push_all : (l : List UInt8) → (r : ByteArray) → (l.map (fun b : UInt8 => ((b.toNat : Nat) : Int))).foldl (fun (r : ByteArray) (n : Int) => r.push (UInt8.ofNat n.toNat)) r = ⟨r.data ++ l.toArray⟩
  | [], r => by simp
  | b :: l, r => by
    rw [List.map_cons, List.foldl_cons, push_all l]
    have : UInt8.ofNat ((b.toNat : Int)).toNat = b := by simp
    rw [this]
    simp [ByteArray.push]

/-- The text that they become. -/
theorem Byts.text (h : Byts w wr v l) : (convert 22 9 v).run Tryz.prog wr = .ok (.string ⟨l.toArray⟩) wr := by
  obtain ⟨o, c, rfl⟩ := h.slice
  rw [run_convert_bytes_string _ 22 9 5 _ _ _ Tryz.underlying22 Tryz.underlying5 Tryz.underlying9]
  cases o with
  | none =>
    rcases h.2 with ⟨e, h0⟩ | ⟨g, cap, cur, e, _⟩
    · have : l = [] := List.length_eq_zero_iff.1 h0
      subst this
      rfl
    · cases e
  | some ad =>
    have hg : (Value.slice (some ad) l.length c).ownBlock = some ad.block := rfl
    have had : ad = ⟨ad.block, 0, none⟩ := by
      rcases h.2 with ⟨e, _⟩ | ⟨g, cap, cur, e, _⟩
      · cases e
      · injection e with e1
        have := Option.some.inj e1
        rw [this]
    have hc := World.ownsRow.cells h hg
    have hl := run_loadCells_list (P := Tryz.prog) wr ad (byteVs l) (fun j u hu => by rw [had]; exact hc j u hu)
    rw [show (byteVs l).length = l.length by simp [byteVs]] at hl
    have hm : byteVs l = (l.map (fun b : UInt8 => ((b.toNat : Nat) : Int))).map (Value.int .u8) := by simp [byteVs, byteV]
    rw [hm] at hl
    rw [run_bytesToString _ _ _ _ _ hl, push_all]
    simp
end
end Go.Proofs.YtelpkcbbipianaaGreat

/- the model's Quote, at every text: empty when it is not right; else its bytes between two marks, with a stroke ahead of a mark or a stroke. -/
namespace Go.Proofs.YtelpkcbbipianaaGreat
open Go Go.RowKit

def esc (b : UInt8) : List UInt8 := if b = 34 ∨ b = 92 then [92, b] else [b]
/-- What stands between the marks. -/
def escAll (l : List UInt8) : List UInt8 := l.flatMap esc
def quoteL (l : List UInt8) : List UInt8 := [34] ++ escAll l ++ [34]
/-- What Quote answers. -/
def quoteT (s : ByteArray) : ByteArray := if textOk s = true then ⟨(quoteL s.data.toList).toArray⟩ else ⟨#[]⟩

theorem esc_length (b : UInt8) : (esc b).length ≤ 2 := by unfold esc; split <;> simp
theorem escAll_length (l : List UInt8) : (escAll l).length ≤ 2 * l.length := by
  induction l with
  | nil => simp [escAll]
  | cons b l ih =>
    have := esc_length b
    simp only [escAll, List.flatMap_cons, List.length_append, List.length_cons] at ih ⊢
    omega

theorem escAll_take {s : ByteArray} {k : Nat} (h : k < s.size) : escAll (s.data.toList.take (k + 1)) = escAll (s.data.toList.take k) ++ esc s[k] := by
  rw [List.take_succ_eq_append_getElem (by simpa using h)]
  simp only [escAll, List.flatMap_append, List.flatMap_cons, List.flatMap_nil, List.append_nil]
  rfl

theorem u8_ne {x y : UInt8} (h : ¬ x = y) : ¬ ((x.toNat : Int) = (y.toNat : Int)) := fun e => h (UInt8.toNat_inj.1 (by omega))

/-- An append, as the list that it is. -/
theorem list_append {P : Program} {w : World} {ops : Array Oper} {rest : List Oper} {o : Oper} {a : Act} {Q : Exit → Act → World → Prop} (hgd : o.guard = none) (s x : Operand) (t : TypeId) (ho : o.op = .call { callee := .builtin .append, args := #[s, x], argTypes := #[t, t] }) (v u : Value) (hs : a.eval s = v) (hx : a.eval x = u)
    {R : Value → World → Prop} (hr : ∃ v' w', (Builtin.append_ #[t, t] o.type #[v, u]).run P w = .ok v' w' ∧ R v' w') (h : ∀ v' w', R v' w' → wpList P ops Q rest (a.put o.dst v') w') : wpList P ops Q (o :: rest) a w := by
  obtain ⟨v', w', h1, h2⟩ := hr
  exact Lib.wpList_append_run w hgd s x t t ho v u hs hx v' w' h1 (h v' w' h2)

set_option maxRecDepth 100000 in
set_option maxHeartbeats 1000000 in
theorem spec_quote (s : ByteArray) (hm : s.size ≤ maxLen) (w : World) :
    Calls Tryz.prog 108 #[.string s] w fun e w' => e = .returned (.string (quoteT s)) ∧ Below w.heap.size w w' := by
  by_cases hok : textOk s = true
  · have hlen : s.size ≤ 400 := by
      unfold textOk at hok
      simp only [Bool.and_eq_true, decide_eq_true_eq] at hok
      exact hok.1
    have hq : Hid (quoteT s = ⟨(quoteL s.data.toList).toArray⟩) := if_pos hok
    have HT : Hid (∀ (wr : World) (v : Value) (l : List UInt8), Byts w wr v l → (convert 22 9 v).run Tryz.prog wr = .ok (.string ⟨l.toArray⟩) wr) := fun wr v l h => h.text
    have t1 : True := trivial
    go_enter Tryz.func108, Tryz.ntmps108
    go_wp2_with (first
      | (go_at_call 48; refine (spec_textOk s hm _).mono ?_; rintro e w1 ⟨rfl, hb1⟩; subst w1; rw [hok]; clear t1)
      | fail)
    unfold maxLen at hm
    go_loopw [3, 4] (fun v q wr => ∃ (k n : Nat) (o : Option Addr) (c : Nat), k ≤ s.size ∧ n ≤ 1 + 2 * k ∧ v = .slice o n c ∧ q = .int .i64 k ∧ Hid (∃ l : List UInt8, l = [34] ++ escAll (s.data.toList.take k) ∧ l.length = n ∧ Byts w wr (.slice o n c) l ∧ Below w.heap.size w wr)) (fun _ q _ => s.size - (intOf q).toNat)
    case atStart => exact ⟨0, 1, _, 1, Nat.zero_le _, by omega, rfl, rfl, [34], rfl, rfl, Byts.one (Nat.le_refl _) 34, (Below.refl _ w).alloc (Nat.le_refl _) _⟩
    case round =>
      obtain ⟨k, n, o, c, hk, hn, rfl, rfl, hr⟩ := hrel
      obtain ⟨l, hl, hln, hby, hbl⟩ := hr.out
      subst hln
      have HB := Lib.hid (And.intro hby hbl)
      have HLL := Lib.hid hl
      clear hby hbl hr hl
      by_cases hlt : k < s.size
      · have HL : Hid (l ++ esc s[k] = [34] ++ escAll (s.data.toList.take (k + 1))) := by
          show _ = _
          rw [escAll_take hlt, HLL.out, List.append_assoc]
        have hlt' : (k : Int) < (s.size : Int) := by omega
        have t2 : True := trivial
        have HM : Hid (∀ (wr1 : World) (o1 : Option Addr) (n1 c1 : Nat) (l1 : List UInt8) (z : Int) (b : UInt8), z = b.toNat → l1.length = n1 → Byts w wr1 (.slice o1 n1 c1) l1 → Below w.heap.size w wr1 → n1 ≤ 1000 → ∀ ty, ∃ v' w', (Builtin.append_ #[22, 22] ty #[.slice o1 n1 c1, .slice (some ⟨wr1.heap.size, 0, none⟩) 1 1]).run Tryz.prog (wr1.alloc (.cells #[.int .u8 z] 5)) = .ok v' w' ∧ ∃ o' c', v' = .slice o' (n1 + 1) c' ∧ Byts w w' (.slice o' (n1 + 1) c') (l1 ++ [b]) ∧ Below w.heap.size w w') := fun wr1 o1 n1 c1 l1 z b hz hn1 h1 h2 h3 ty => by
          subst hn1 hz
          obtain ⟨v', w', g1, o', c', g2, g3, g4⟩ := h1.more h2.size b (by omega) ty
          exact ⟨v', w', g1, o', c', g2, g3, h2.trans g4⟩
        obtain ⟨b, hb⟩ : ∃ b : UInt8, s[k] = b := ⟨_, rfl⟩
        rw [hb] at HL
        by_cases hq : b = 34 ∨ b = 92
        · have HE : Hid (esc b = [92, b]) := if_pos hq
          have HL2 : Hid ((l ++ [92]) ++ [b] = [34] ++ escAll (s.data.toList.take (k + 1))) := by
            have h1 := HL.out
            rw [HE.out] at h1
            show _ = _
            rw [← h1]
            simp
          clear HL HE
          rcases hq with hq | hq
          · subst hq
            have e1 : ((s[k].toNat : Int) == 34) = true := by rw [hb]; rfl
            go_wp2_with (first
              | (at_builtin; clear t2; refine list_append rfl _ _ 22 rfl _ _ rfl rfl (HM.out _ o l.length c l 92 92 rfl rfl HB.out.1 HB.out.2 (by omega) _) ?_; rintro v2 w2 ⟨o2, c2, rfl, h1, h2⟩; have H2 := Lib.hid (And.intro h1 h2); clear h1 h2)
              | (at_builtin; refine list_append rfl _ _ 22 rfl _ _ rfl rfl (HM.out _ o2 (l.length + 1) c2 (l ++ [92]) 34 34 rfl (by simp) H2.out.1 H2.out.2 (by omega) _) ?_; rintro v3 w3 ⟨o3, c3, rfl, h1, h2⟩; have H3 := Lib.hid (And.intro h1 h2); clear h1 h2)
              | fail)
            exact ⟨⟨k + 1, l.length + 1 + 1, o3, c3, hlt, by omega, rfl, by go_num, _, HL2.out, by simp, H3.out.1, H3.out.2⟩, by simp [intOf]; omega⟩
          · subst hq
            have e1 : ((s[k].toNat : Int) == 34) = false := by rw [hb]; rfl
            have e2 : ((s[k].toNat : Int) == 92) = true := by rw [hb]; rfl
            go_wp2_with (first
              | (at_builtin; clear t2; refine list_append rfl _ _ 22 rfl _ _ rfl rfl (HM.out _ o l.length c l 92 92 rfl rfl HB.out.1 HB.out.2 (by omega) _) ?_; rintro v2 w2 ⟨o2, c2, rfl, h1, h2⟩; have H2 := Lib.hid (And.intro h1 h2); clear h1 h2)
              | (at_builtin; refine list_append rfl _ _ 22 rfl _ _ rfl rfl (HM.out _ o2 (l.length + 1) c2 (l ++ [92]) 92 92 rfl (by simp) H2.out.1 H2.out.2 (by omega) _) ?_; rintro v3 w3 ⟨o3, c3, rfl, h1, h2⟩; have H3 := Lib.hid (And.intro h1 h2); clear h1 h2)
              | fail)
            exact ⟨⟨k + 1, l.length + 1 + 1, o3, c3, hlt, by omega, rfl, by go_num, _, HL2.out, by simp, H3.out.1, H3.out.2⟩, by simp [intOf]; omega⟩
        · have HE : Hid (esc b = [b]) := if_neg hq
          have e1 : ((b.toNat : Int) == 34) = false := by simpa using u8_ne (fun h => hq (.inl h))
          have e2 : ((b.toNat : Int) == 92) = false := by simpa using u8_ne (fun h => hq (.inr h))
          go_wp2_with (first
            | (at_builtin; refine list_append rfl _ _ 22 rfl _ _ rfl rfl (HM.out _ o l.length c l _ b rfl rfl HB.out.1 HB.out.2 (by omega) _) ?_; rintro v2 w2 ⟨o2, c2, rfl, h1, h2⟩; have H2 := Lib.hid (And.intro h1 h2); clear h1 h2)
            | fail)
          have HF : Hid (l ++ [b] = [34] ++ escAll (s.data.toList.take (k + 1))) := by
            have h1 := HL.out
            rw [HE.out] at h1
            exact h1
          exact ⟨⟨k + 1, l.length + 1, o2, c2, hlt, by omega, rfl, by go_num, l ++ [b], HF.out, by simp, H2.out.1, H2.out.2⟩, by simp [intOf]; omega⟩
      · have e : k = s.size := by omega
        subst e
        have HM : Hid (∀ ty, ∃ v' w', (Builtin.append_ #[22, 22] ty #[.slice o l.length c, .slice (some ⟨wr.heap.size, 0, none⟩) 1 1]).run Tryz.prog (wr.alloc (.cells #[.int .u8 34] 5)) = .ok v' w' ∧ ∃ o' c', v' = .slice o' (l.length + 1) c' ∧ Byts w w' (.slice o' (l.length + 1) c') (l ++ [34]) ∧ Below w.heap.size w w') := fun ty => by
          obtain ⟨v', w', g1, o', c', g2, g3, g4⟩ := HB.out.1.more HB.out.2.size 34 (by omega) ty
          exact ⟨v', w', g1, o', c', g2, g3, HB.out.2.trans g4⟩
        have HQ : Hid (quoteT s = ⟨(l ++ [34]).toArray⟩) := by
          have h1 := hq.out
          have h2 := HLL.out
          rw [List.take_of_length_le (by simp)] at h2
          show _ = _
          rw [h1, h2]
          rfl
        go_wp2_with (first
          | (at_builtin; refine list_append rfl _ _ 22 rfl _ _ rfl rfl (HM.out _) ?_; rintro v2 w2 ⟨o2, c2, rfl, h1, h2⟩; have H2 := Lib.hid (And.intro h1 h2); have ht := HT.out _ _ _ h1; clear h1 h2)
          | fail)
        go_ret
        exact ⟨by rw [HQ.out]; rfl, H2.out.2⟩
  · have hq : Hid (quoteT s = ⟨#[]⟩) := if_neg hok
    have hok' : textOk s = false := by simpa using hok
    go_enter Tryz.func108, Tryz.ntmps108
    go_wp2_with (first
      | (go_at_call 48; refine (spec_textOk s hm _).mono ?_; rintro e w1 ⟨rfl, hb1⟩; subst w1; rw [hok'])
      | fail)
    go_ret
    exact ⟨by rw [hq.out]; rfl, Below.refl _ _⟩
end Go.Proofs.YtelpkcbbipianaaGreat

/- plain facts on the text that a tree is written as in braces: its parts, one behind the other, and how long it is at most. -/
namespace Go.Proofs.YtelpkcbbipianaaGreat
open Go Go.RowKit

/-- A key, and what stands behind it. -/
def keyed (key : ByteArray) (p : List UInt8) : List UInt8 := (quoteT key).data.toList ++ ([58] ++ p)

mutual
/-- What a right tree is written as. -/
def RT.brac : RT → List UInt8
  | .node k n s keys kids =>
    if k = 0 then [110, 117, 108, 108]
    else if k = 1 then (if n = 1 then [116, 114, 117, 101] else [102, 97, 108, 115, 101])
    else if k = 2 then Lib.itoa n
    else if k = 3 then (quoteT s).data.toList
    else if k = 4 then [91] ++ (Lib.join (bracAll kids) [44] ++ [93])
    else [123] ++ (Lib.join (List.zipWith keyed keys (bracAll kids)) [44] ++ [125])
def bracAll : List RT → List (List UInt8)
  | [] => []
  | t :: ts => t.brac :: bracAll ts
end

theorem bracAll_length (l : List RT) : (bracAll l).length = l.length := by
  induction l with
  | nil => rfl
  | cons t l ih => simp [bracAll, ih]

theorem bracAll_get (l : List RT) (i : Nat) (h : i < l.length) : (bracAll l)[i]? = some l[i].brac := by
  induction l generalizing i with
  | nil => simp at h
  | cons t l ih =>
    cases i with
    | zero => simp [bracAll]
    | succ i => simpa [bracAll] using ih i (by simpa using h)

/-- The parts of a list, or of a map. -/
def partsOf (k : Int) (keys : List ByteArray) (kids : List RT) : List (List UInt8) := if k = 4 then bracAll kids else List.zipWith keyed keys (bracAll kids)

theorem partsOf_length {k : Int} {keys : List ByteArray} {kids : List RT} (h : k = 4 ∨ keys.length = kids.length) : (partsOf k keys kids).length = kids.length := by
  unfold partsOf
  split
  · exact bracAll_length _
  · rename_i h4
    rw [List.length_zipWith, bracAll_length]
    omega

theorem partsOf_list {keys : List ByteArray} {kids : List RT} (i : Nat) (h : i < kids.length) : (partsOf 4 keys kids)[i]? = some kids[i].brac := by
  unfold partsOf
  rw [if_pos rfl, bracAll_get kids i h]

theorem partsOf_map {keys : List ByteArray} {kids : List RT} (i : Nat) (h : i < kids.length) (hk : i < keys.length) : (partsOf 5 keys kids)[i]? = some (keyed keys[i] kids[i].brac) := by
  unfold partsOf
  rw [if_neg (by decide), List.getElem?_zipWith, bracAll_get kids i h, List.getElem?_eq_getElem hk]

theorem brac0 {n : Int} {s : ByteArray} {keys : List ByteArray} {kids : List RT} : (RT.node 0 n s keys kids).brac = [110, 117, 108, 108] := by simp [RT.brac]
theorem brac1 {n : Int} {s : ByteArray} {keys : List ByteArray} {kids : List RT} : (RT.node 1 n s keys kids).brac = if n = 1 then [116, 114, 117, 101] else [102, 97, 108, 115, 101] := by simp [RT.brac]
theorem brac2 {n : Int} {s : ByteArray} {keys : List ByteArray} {kids : List RT} : (RT.node 2 n s keys kids).brac = Lib.itoa n := by simp [RT.brac]
theorem brac3 {n : Int} {s : ByteArray} {keys : List ByteArray} {kids : List RT} : (RT.node 3 n s keys kids).brac = (quoteT s).data.toList := by simp [RT.brac]
theorem brac4 {n : Int} {s : ByteArray} {keys : List ByteArray} {kids : List RT} : (RT.node 4 n s keys kids).brac = [91] ++ (Lib.join (partsOf 4 keys kids) [44] ++ [93]) := by simp [RT.brac, partsOf]
theorem brac5 {n : Int} {s : ByteArray} {keys : List ByteArray} {kids : List RT} : (RT.node 5 n s keys kids).brac = [123] ++ (Lib.join (partsOf 5 keys kids) [44] ++ [125]) := by simp [RT.brac, partsOf]

/-- One part more. -/
theorem join_take_succ (xs : List (List UInt8)) (sep : List UInt8) (i : Nat) (y : List UInt8) (h : xs[i]? = some y) : Lib.join (xs.take (i + 1)) sep = Lib.join (xs.take i) sep ++ ((if i = 0 then [] else sep) ++ y) := by
  cases xs with
  | nil => simp at h
  | cons x r =>
    cases i with
    | zero =>
      simp at h
      subst h
      simp [Lib.join_one, Lib.join_nil]
    | succ i =>
      rw [List.take_succ_cons, List.take_succ_cons, Lib.join_cons, Lib.join_cons, Lib.joinTail_take_succ sep r i y (by simpa using h), if_neg (by omega)]
      simp

theorem join_take_end (xs : List (List UInt8)) (sep : List UInt8) (i : Nat) (h : xs.length ≤ i) : Lib.join (xs.take i) sep = Lib.join xs sep := by
  rw [List.take_of_length_le h]

/-! ### How long -/

theorem quoteT_length (s : ByteArray) : (quoteT s).data.toList.length ≤ 802 := by
  unfold quoteT
  split
  · rename_i h
    have h1 : s.size ≤ 400 := by
      unfold textOk at h
      simp only [Bool.and_eq_true, decide_eq_true_eq] at h
      exact h.1
    have h2 := escAll_length s.data.toList
    have h3 : s.data.toList.length = s.size := by simp
    simp only [quoteL, List.length_append, List.length_cons, List.length_nil]
    omega
  · simp

theorem keyed_length (key : ByteArray) (p : List UInt8) : (keyed key p).length ≤ 803 + p.length := by
  have := quoteT_length key
  simp only [keyed, List.length_append, List.length_cons, List.length_nil]
  omega

/-- Parts, none of them longer than their trees have it. -/
theorem join_parts_le (f : Nat) : (xs : List (List UInt8)) → (kids : List RT) → xs.length = kids.length → (∀ i (h : i < kids.length) y, xs[i]? = some y → y.length + 1 ≤ f * kids[i].size) → (Lib.joinTail [44] xs).length ≤ f * sizeAll kids
  | [], kids, _, _ => by simp [Lib.joinTail]
  | x :: xs, [], h, _ => by simp at h
  | x :: xs, t :: kids, h, hy => by
    have h1 := hy 0 (by simp) x rfl
    have h2 := join_parts_le f xs kids (by simpa using h) (fun i hi y hx => hy (i + 1) (by simpa using hi) y (by simpa using hx))
    simp only [List.getElem_cons_zero] at h1
    rw [Lib.joinTail_length] at h2 ⊢
    simp only [Lib.lens, List.map_cons, List.sum_cons, List.length_cons, List.length_nil, sizeAll, Nat.mul_add] at h2 ⊢
    omega

theorem join_le_tail (xs : List (List UInt8)) : (Lib.join xs [44]).length ≤ (Lib.joinTail [44] xs).length := by
  cases xs with
  | nil => simp [Lib.join_nil]
  | cons x r =>
    rw [Lib.join_length, Lib.joinTail_length]
    simp

theorem join_take_le (xs : List (List UInt8)) (i : Nat) : (Lib.join (xs.take i) [44]).length ≤ (Lib.joinTail [44] xs).length :=
  Nat.le_trans (join_le_tail _) (Lib.joinTail_take_le [44] xs i)

theorem right_out {T : RT} (h : T.right = true) : HeadOk T ∧ ∀ i (h : i < T.kids.length), T.kids[i].right = true := by
  obtain ⟨k, n, s, keys, kids⟩ := T
  rw [RT.right, Bool.and_eq_true] at h
  refine ⟨?_, (rightAll_iff kids).1 h.2⟩
  exact @of_decide_eq_true _ (Classical.propDecidable _) h.1

theorem parts_le {k : Int} {keys : List ByteArray} {kids : List RT} (hk : k = 4 ∨ (k = 5 ∧ keys.length = kids.length)) (ih : ∀ i (h : i < kids.length), kids[i].brac.length + 804 ≤ 1700 * kids[i].size) :
    (Lib.joinTail [44] (partsOf k keys kids)).length ≤ 1700 * sizeAll kids := by
  refine join_parts_le 1700 _ _ (partsOf_length (by rcases hk with h | h; exact .inl h; exact .inr h.2)) fun i hi y hy => ?_
  have h1 := ih i hi
  rcases hk with rfl | ⟨rfl, hl⟩
  · rw [partsOf_list i hi] at hy
    obtain rfl := Option.some.inj hy
    omega
  · rw [partsOf_map i hi (by omega)] at hy
    obtain rfl := Option.some.inj hy
    have := keyed_length (keys[i]'(by omega)) kids[i].brac
    omega

theorem brac_le (T : RT) : T.right = true → T.brac.length + 804 ≤ 1700 * T.size := by
  induction T using RT.ind with
  | h k n s keys kids ih =>
    intro hr
    obtain ⟨hh, hk⟩ := right_out hr
    have hs : (RT.node k n s keys kids).size = sizeAll kids + 1 := rfl
    have hi : ∀ i (h : i < kids.length), kids[i].brac.length + 804 ≤ 1700 * kids[i].size := fun i h => ih _ (List.getElem_mem h) (hk i h)
    rw [hs]
    simp only [HeadOk, RT.k, RT.n, RT.s, RT.keys, RT.kids] at hh
    rcases hh with ⟨rfl, h⟩ | ⟨rfl, h⟩ | ⟨rfl, h, -⟩ | ⟨rfl, h⟩ | ⟨rfl, h⟩ | ⟨rfl, h, h2, h3, h4⟩
    · rw [brac0]; simp; omega
    · rw [brac1]; split <;> simp <;> omega
    · rw [brac2]
      have := Num.itoa_length n (by omega) (by omega)
      omega
    · rw [brac3]
      have := quoteT_length s
      omega
    · rw [brac4]
      have h1 := parts_le (k := 4) (keys := keys) (.inl rfl) hi
      have h2 := join_le_tail (partsOf 4 keys kids)
      simp only [List.length_append, List.length_cons, List.length_nil]
      omega
    · rw [brac5]
      have h1 := parts_le (k := 5) (keys := keys) (.inr ⟨rfl, h3⟩) hi
      have h2 := join_le_tail (partsOf 5 keys kids)
      simp only [List.length_append, List.length_cons, List.length_nil]
      omega

/-- What has been written of a list or a map, up to a part. -/
theorem parts_take_le {k n : Int} {s : ByteArray} {keys : List ByteArray} {kids : List RT} (hr : (RT.node k n s keys kids).right = true) (hk : k = 4 ∨ k = 5) (i : Nat) : (Lib.join ((partsOf k keys kids).take i) [44]).length ≤ 1700 * sizeAll kids := by
  obtain ⟨hh, hkk⟩ := right_out hr
  refine Nat.le_trans (join_take_le _ i) (parts_le ?_ fun i h => brac_le _ (hkk i h))
  rcases hk with rfl | rfl
  · exact .inl rfl
  · simp only [HeadOk, RT.k, RT.n, RT.s, RT.keys, RT.kids] at hh
    exact .inr ⟨rfl, by omega⟩
end Go.Proofs.YtelpkcbbipianaaGreat
