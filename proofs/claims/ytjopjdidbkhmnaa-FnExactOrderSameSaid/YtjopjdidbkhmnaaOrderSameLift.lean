/-
  What is proved: the law FnExactOrderSame returns true at every argument, and each argument reads behind the call as it did; no condition.
-/
import Derived.Test.YtjopjdidbkhmnaaOrderSame
import Derived.Test.YtjopjdidbkhmnaaOrdOpen
import Derived.ChangeMaps5
import Derived.WalkKit
namespace Go.Proofs.Ytjopjdidbkhmnaa
open Go Go.RowKit Go.ChangeShapes Go.WideShapes Go.ChangeAt
open Go.ChangeMaps (open_string)

theorem orderSame_own : ownKnob Try.prog.godebug = none := by kernel_rfl
theorem orderSame_laidOut : laidOutB Try.prog = true := by kernel_rfl

set_option maxRecDepth 100000 in
theorem orderSame_lifted (os : Os) (started : os.Started) (H : Type) (enc : TypeId × Value → H) :
    ReturnsInHanded {} Try.checked os 8 .any (Rows.fnExactOrderSameSpec.pre6 enc Try.prog Try.f8 Rows.fnExactOrderSameRow.domain false) (Rows.fnExactOrderSameSpec.post enc Try.prog Try.f8 false true false false) := by
  refine returnsInHanded_of_change (C := Try.checked) orderSame_own started (by kernel_rfl) Try.func8
    (ChangeSpec.witness6 (enc := enc) (C := Try.checked) false ⟨#[], #[.agg #[.string ⟨#[]⟩, .string ⟨#[]⟩, .int .i64 0, .int .i64 0, .slice none 0 0, .int .i64 0, .int .i64 0, .int .i64 0, .int .i64 0, .slice none 0 0], .agg #[.string ⟨#[]⟩, .string ⟨#[]⟩, .int .i64 0, .int .i64 0, .slice none 0 0, .int .i64 0, .int .i64 0, .int .i64 0, .int .i64 0, .slice none 0 0]], []⟩ 8 (by kernel_rfl) (by kernel_rfl) (by kernel_rfl) (by kernel_rfl)) ?_
  intro W base args ds gs before hval0 hW hcnd _
  have hval : ∀ (j : Nat) t v, Try.f8.params[j]? = some t → args[j]? = some v → Value.okWide Try.prog W .any base t v := hval0
  have hW' := hW
  obtain ⟨p, q, hA0, hV, rfl, hfz, hnd⟩ := hW
  have hA : DataW.TrodAll enc Try.prog W 0 (fun _ => true) true Try.f8.params.toList args.toList ds p := hA0
  rw [Try.params8] at hA hval
  obtain ⟨v0, vs0, d0, ds0, p0, q0, hargs, rfl, rfl, h0, r0⟩ := trodAll_cons hA
  obtain ⟨v1, vs1, d1, ds1, p1, q1, rfl, rfl, rfl, h1, r1⟩ := trodAll_cons r0
  obtain ⟨rfl, rfl, rfl⟩ := trodAll_nil r1
  obtain rfl : args = #[v0, v1] := by cases args; simp_all
  obtain ⟨rfl, rfl⟩ := trodVars_none hV
  have k0 := h0
  have lt0 : ∀ x ∈ p0, x.block < W.heap.size := by obtain ⟨m, hm⟩ := k0; exact DataW.trod_lt m _ _ _ hm
  have k1 := h1
  have lt1 : ∀ x ∈ p1, x.block < W.heap.size := by obtain ⟨m, hm⟩ := k1; exact DataW.trod_lt m _ _ _ hm
  obtain ⟨cs0, rfl, -⟩ := okWide_struct Try.underlying42 (hval 0 42 v0 rfl rfl)
  obtain ⟨O0, mv0, nv0, FM0, FN0, hr0, hl0⟩ : ∃ (o : Ord) (mv nv : Value) (FM FN : List Nat), cs0.toList = o.row mv nv ∧ OrdAt W o mv nv FM FN := by
    obtain ⟨fuel, hf⟩ := h0
    exact open_order hf
  obtain rfl : cs0 = #[.string O0.name, .string O0.target, .int .i64 O0.low, .int .i64 O0.high, mv0, .int .i64 O0.pace.up, .int .i64 O0.pace.down, .int .i64 O0.pace.ups, .int .i64 O0.pace.downs, nv0] := by cases cs0; simpa [Met.row, Ord.row] using hr0
  obtain ⟨cs1, rfl, -⟩ := okWide_struct Try.underlying42 (hval 1 42 v1 rfl rfl)
  obtain ⟨O1, mv1, nv1, FM1, FN1, hr1, hl1⟩ : ∃ (o : Ord) (mv nv : Value) (FM FN : List Nat), cs1.toList = o.row mv nv ∧ OrdAt W o mv nv FM FN := by
    obtain ⟨fuel, hf⟩ := h1
    exact open_order hf
  obtain rfl : cs1 = #[.string O1.name, .string O1.target, .int .i64 O1.low, .int .i64 O1.high, mv1, .int .i64 O1.pace.up, .int .i64 O1.pace.down, .int .i64 O1.pace.ups, .int .i64 O1.pace.downs, nv1] := by cases cs1; simpa [Met.row, Ord.row] using hr1
  refine (orderSame_walk O0 mv0 nv0 FM0 FN0 O1 mv1 nv1 FM1 FN1 W hl0 hl1).mono fun e W' ⟨he, hb⟩ => ?_
  subst he
  exact ⟨_, rfl, _, _, _, [], _, [], hW', trodAll_mk1 (shut_bool Try.underlying4 _), (trodAll_cons_mk (Below.trod orderSame_laidOut (by kernel_rfl) (of_decide_eq_true (by kernel_rfl)) k0 hb lt0) (trodAll_cons_mk (Below.trod orderSame_laidOut (by kernel_rfl) (of_decide_eq_true (by kernel_rfl)) k1 hb lt1) trodAll_mk0)), rfl, hb.frame _, fun h => by cases h⟩

/-- The given statement. -/
theorem orderSame_holds : Rows.FnExactOrderSameSaid :=
  OpenClaim.holds_of_wide 8 Try.f8 rfl rfl rfl rfl rfl rfl rfl ⟨rfl, rfl, rfl, rfl, rfl⟩ rfl rfl rfl rfl rfl (by kernel_rfl) Try.func8 (by kernel_rfl)
    (of_decide_eq_true (by kernel_rfl)) (by unfold Func.isWrapper; first | (rw [if_pos (by decide +kernel)]; kernel_rfl) | (rw [if_neg (by decide +kernel)]; exact ⟨rfl, rfl⟩))
    (fun os started H enc _ => orderSame_lifted os started H enc)
end Go.Proofs.Ytjopjdidbkhmnaa
