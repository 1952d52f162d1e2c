/-
  What is proved: the model's l6Metrics tells of a list of metrics whether it is as an order's must be.; for any text the program's PlainOk answers as the model's PlainOk does.
-/
import Derived.Test.YtelpkcbbipianaaGreatPartAK
import Derived.Test.YtelpkcbbipianaaGreatRows
import Derived.WalkKit
/- the model's l6Metrics tells of a list of metrics whether it is as an order's must be. -/
namespace Go.Proofs.YtelpkcbbipianaaGreat
open Go Go.RowKit

noncomputable def dec (p : Prop) : Bool := @decide p (Classical.propDecidable _)
theorem dec_yes {p : Prop} (h : p) : dec p = true := @decide_eq_true _ (Classical.propDecidable _) h
theorem dec_no {p : Prop} (h : ¬ p) : dec p = false := @decide_eq_false _ (Classical.propDecidable _) h
theorem str_geqO (t : TypeId) (a b : ByteArray) : binOp .geq t (.string a) (.string b) = pure (.bool !(Op.bytesLess a.toList b.toList)) := by simp [binOp, Op.stringOp]

/-- What is asked of the i-th of a list: it is right, and its name stands behind the one ahead of it. -/
def ElAt {α : Type} (nm : α → ByteArray) (ok : α → Bool) (xs : List α) (i : Nat) (h : i < xs.length) : Prop := ok xs[i] = true ∧ (∀ _h : 0 < i, Op.bytesLess (nm (xs[i - 1]'(by omega))).toList (nm xs[i]).toList = true)
/-- At most four, each right, their names ascending. -/
def Els {α : Type} (nm : α → ByteArray) (ok : α → Bool) (xs : List α) : Prop := (∀ i (h : i < xs.length), ElAt nm ok xs i h) ∧ xs.length ≤ 4

theorem el_step {α : Type} {nm : α → ByteArray} {ok : α → Bool} {xs : List α} {k : Nat} (hlt : k < xs.length) (hr : ∀ i (h : i < xs.length), i < k → ElAt nm ok xs i h) (hk : ElAt nm ok xs k hlt) : ∀ i (h : i < xs.length), i < k + 1 → ElAt nm ok xs i h := fun i h hi => by
  by_cases e : i = k
  · subst e; exact hk
  · exact hr i h (by omega)

theorem els_no {α : Type} {nm : α → ByteArray} {ok : α → Bool} {xs : List α} {k : Nat} (hlt : k < xs.length) (hk : ¬ ElAt nm ok xs k hlt) : dec (Els nm ok xs) = false := dec_no fun h => hk (h.1 k hlt)

def Met.okB (m : Met) : Bool := metB m.name m.kind m.goal


set_option maxRecDepth 100000 in
set_option maxHeartbeats 4000000 in
theorem spec_mets {v : Value} {xs : List Met} {F : List Nat} (w : World) (hs : MetsAt w v xs F) :
    Calls Tryz.prog 84 #[v] w fun e w' => e = .returned (.bool (dec (Els Met.name Met.okB xs))) ∧ Below w.heap.size w w' := by
  obtain ⟨o, cap, b, off, rfl, hlc, hcm, ho, -, hcell, -⟩ := hs
  have HC := Lib.hid hcell
  have HO := Lib.hid ho
  clear hcell ho
  unfold maxLen at hcm
  have hge := str_geqO
  go_enter Tryz.func84, Tryz.ntmps84
  go_wp2
  go_loopw [3] (fun i wr => ∃ k : Nat, k ≤ xs.length ∧ i = .int .i64 k ∧ Hid (∀ i (h : i < xs.length), i < k → ElAt Met.name Met.okB xs i h) ∧ Hid (Below w.heap.size w wr)) (fun i _ => xs.length - (intOf i).toNat)
  case atStart => exact ⟨0, Nat.zero_le _, rfl, fun i _ h => absurd h (by omega), Below.refl _ _⟩
  case round =>
    obtain ⟨k, hk, rfl, hr, HB⟩ := hrel
    by_cases hlt : k < xs.length
    · have ho := HO.out (by omega)
      subst ho
      have HCx : Hid (∀ w1, Below w.heap.size w w1 → w1.cell? ⟨b, off + k * 3, none⟩ = some (.string xs[k].name) ∧ w1.cell? ⟨b, off + k * 3 + 1, none⟩ = some (.int .i64 xs[k].kind) ∧ w1.cell? ⟨b, off + k * 3 + 2, none⟩ = some (.int .i64 xs[k].goal)) := fun w1 hb => by
        have a0 := (HC.out k hlt).2 0 (by decide)
        have a1 := (HC.out k hlt).2 1 (by decide)
        have a2 := (HC.out k hlt).2 2 (by decide)
        have hl := World.block_lt_of_cell? _ _ a0
        exact ⟨(hb.cell (by exact hl)).trans a0, (hb.cell (by exact hl)).trans a1, (hb.cell (by exact hl)).trans a2⟩
      have hM := Lib.hid (spec_metricOk xs[k].name xs[k].kind xs[k].goal (HC.out k hlt).1.1)
      rw [show metB xs[k].name xs[k].kind xs[k].goal = xs[k].okB from rfl] at hM
      by_cases hb : xs[k].okB = true
      case neg =>
        have hb' : xs[k].okB = false := by simpa using hb
        rw [hb'] at hM
        have HN := Lib.hid (els_no (nm := Met.name) (ok := Met.okB) hlt fun h => hb h.1)
        clear hb hb'
        rcases Nat.eq_zero_or_pos k with rfl | hp
        · rw [show off + 0 * 3 = off by omega] at HCx
          generalize xs[0] = x at *
          go_wp2
          obtain ⟨c0, c1, c2⟩ := HCx.out wr HB.out
          refine wp_region_held_drew (S := (fun w' => w'.cell? ⟨b, off, none⟩ = some (.string x.name) ∧ w'.cell? ⟨b, off + 1, none⟩ = some (.int .i64 x.kind) ∧ w'.cell? ⟨b, off + 2, none⟩ = some (.int .i64 x.goal))) (by kernel_rfl) ?_ (fun hHeld => ?_)
          · go_keep
          refine takeV 0 10 (.slice (some ⟨b, off, none⟩) xs.length cap) rfl rfl (Or.inl ⟨by rfl, ?_⟩) ?_
          · intro w hSw
            go_simp
          simp only [Act.put, List.setIfInBounds_toArray, List.set_cons_zero, List.set_cons_succ]
          refine takeV 1 11 (.int .i64 (0)) rfl rfl (Or.inl ⟨by rfl, ?_⟩) ?_
          · intro w hSw
            go_simp
          simp only [Act.put, List.setIfInBounds_toArray, List.set_cons_zero, List.set_cons_succ]
          refine takeV 2 12 (.pointer (some ⟨b, off, none⟩)) rfl rfl (Or.inl ⟨by rfl, ?_⟩) ?_
          · intro w hSw
            go_simp
          simp only [Act.put, List.setIfInBounds_toArray, List.set_cons_zero, List.set_cons_succ]
          refine takeV 3 13 (.agg #[.string x.name, .int .i64 x.kind, .int .i64 x.goal]) rfl rfl (Or.inl ⟨by rfl, ?_⟩) ?_
          · intro w hSw
            go_simp
          simp only [Act.put, List.setIfInBounds_toArray, List.set_cons_zero, List.set_cons_succ]
          refine wpAnyH_ready (rs := [4]) (by kernel_rfl) (by simp) ?_
          refine AllReadyH.cons (o := { dst := some 14, op := Op.call { callee := Callee.value (Operand.func 102), args := #[Operand.tmp 13], argTypes := #[96] }, type := 4, pos := "l06_order.go:41", after := #[{ on := 3, ground := Ground.data }], guard := none }) rfl (fun K hK => ?_) AllReadyH.nil
          go_simp
          refine (hM.out _).mono ?_
          rintro e w1 ⟨rfl, hb1⟩
          have HB1 := Lib.hid ((below_drewO HB.out 1).trans (hb1.mono (below_drewO HB.out 1).size))
          clear hb1
          have e0 := HCx.out w1 HB1.out
          obtain ⟨e0, e1, e2⟩ := e0
          go_wp2_with fail
          refine hK.out _ _ ?_ (fun hHeld => ?_)
          · go_keep
          clear hK K
          refine takeV 5 15 (.bool true) rfl rfl (Or.inl ⟨by rfl, ?_⟩) ?_
          · intro w hSw
            go_simp
          simp only [Act.put, List.setIfInBounds_toArray, List.set_cons_zero, List.set_cons_succ]
          refine takeV 6 16 (.bool true) rfl rfl (Or.inl ⟨by rfl, ?_⟩) ?_
          · intro w hSw
            go_simp
          simp only [Act.put, List.setIfInBounds_toArray, List.set_cons_zero, List.set_cons_succ]
          refine takeV 7 17 undef rfl rfl (Or.inr ⟨by rfl, rfl⟩) ?_
          simp only [Act.put, List.setIfInBounds_toArray, List.set_cons_zero, List.set_cons_succ]
          refine takeV 8 18 undef rfl rfl (Or.inr ⟨by rfl, rfl⟩) ?_
          simp only [Act.put, List.setIfInBounds_toArray, List.set_cons_zero, List.set_cons_succ]
          refine takeV 9 19 undef rfl rfl (Or.inr ⟨by rfl, rfl⟩) ?_
          simp only [Act.put, List.setIfInBounds_toArray, List.set_cons_zero, List.set_cons_succ]
          refine takeV 10 20 undef rfl rfl (Or.inr ⟨by rfl, rfl⟩) ?_
          simp only [Act.put, List.setIfInBounds_toArray, List.set_cons_zero, List.set_cons_succ]
          refine takeV 11 21 undef rfl rfl (Or.inr ⟨by rfl, rfl⟩) ?_
          simp only [Act.put, List.setIfInBounds_toArray, List.set_cons_zero, List.set_cons_succ]
          refine takeV 12 22 undef rfl rfl (Or.inr ⟨by rfl, rfl⟩) ?_
          simp only [Act.put, List.setIfInBounds_toArray, List.set_cons_zero, List.set_cons_succ]
          refine takeV 13 23 undef rfl rfl (Or.inr ⟨by rfl, rfl⟩) ?_
          simp only [Act.put, List.setIfInBounds_toArray, List.set_cons_zero, List.set_cons_succ]
          refine takeV 14 24 undef rfl rfl (Or.inr ⟨by rfl, rfl⟩) ?_
          simp only [Act.put, List.setIfInBounds_toArray, List.set_cons_zero, List.set_cons_succ]
          refine takeV 15 25 undef rfl rfl (Or.inr ⟨by rfl, rfl⟩) ?_
          simp only [Act.put, List.setIfInBounds_toArray, List.set_cons_zero, List.set_cons_succ]
          refine takeV 16 26 undef rfl rfl (Or.inr ⟨by rfl, rfl⟩) ?_
          simp only [Act.put, List.setIfInBounds_toArray, List.set_cons_zero, List.set_cons_succ]
          refine takeV 17 27 undef rfl rfl (Or.inr ⟨by rfl, rfl⟩) ?_
          simp only [Act.put, List.setIfInBounds_toArray, List.set_cons_zero, List.set_cons_succ]
          refine takeV 18 28 undef rfl rfl (Or.inr ⟨by rfl, rfl⟩) ?_
          simp only [Act.put, List.setIfInBounds_toArray, List.set_cons_zero, List.set_cons_succ]
          refine takeV 19 29 undef rfl rfl (Or.inr ⟨by rfl, rfl⟩) ?_
          simp only [Act.put, List.setIfInBounds_toArray, List.set_cons_zero, List.set_cons_succ]
          refine takeV 20 30 undef rfl rfl (Or.inr ⟨by rfl, rfl⟩) ?_
          simp only [Act.put, List.setIfInBounds_toArray, List.set_cons_zero, List.set_cons_succ]
          refine takeV 21 31 undef rfl rfl (Or.inr ⟨by rfl, rfl⟩) ?_
          simp only [Act.put, List.setIfInBounds_toArray, List.set_cons_zero, List.set_cons_succ]
          refine takeV 22 32 undef rfl rfl (Or.inr ⟨by rfl, rfl⟩) ?_
          simp only [Act.put, List.setIfInBounds_toArray, List.set_cons_zero, List.set_cons_succ]
          refine takeV 23 33 (.bool true) rfl rfl (Or.inl ⟨by rfl, ?_⟩) ?_
          · intro w hSw
            go_simp
          simp only [Act.put, List.setIfInBounds_toArray, List.set_cons_zero, List.set_cons_succ]
          refine wpAnyH_done (by kernel_rfl) ?_ _
          go_wp2
          go_ret
          exact ⟨by rw [HN.out]; rfl, HB1.out⟩
        · obtain ⟨j, rfl⟩ : ∃ j, k = j + 1 := ⟨k - 1, by omega⟩
          have g1 : ¬ ((j : Int) + 1 < 0) := by omega
          have g2 : ¬ xs.length ≤ j := by omega
          have g3 : IntKind.i64.wrap (j : Int) = j := by rw [IntKind.wrap_i64]; omega
          have HCy : Hid (∀ w1, Below w.heap.size w w1 → w1.cell? ⟨b, off + j * 3, none⟩ = some (.string xs[j].name)) := fun w1 hb => by
            have a0 := (HC.out j (by omega)).2 0 (by decide)
            exact (hb.cell (by exact World.block_lt_of_cell? _ _ a0)).trans a0
          generalize xs[j + 1] = x at *
          generalize xs[j] = y at *
          go_wp2
          obtain ⟨c0, c1, c2⟩ := HCx.out wr HB.out
          have d0 := HCy.out wr HB.out
          refine wp_region_held_drew (S := (fun w' => w'.cell? ⟨b, off + (j + 1) * 3, none⟩ = some (.string x.name) ∧ w'.cell? ⟨b, off + (j + 1) * 3 + 1, none⟩ = some (.int .i64 x.kind) ∧ w'.cell? ⟨b, off + (j + 1) * 3 + 2, none⟩ = some (.int .i64 x.goal) ∧ w'.cell? ⟨b, off + j * 3, none⟩ = some (.string y.name))) (by kernel_rfl) ?_ (fun hHeld => ?_)
          · go_keep
          refine takeV 0 10 (.slice (some ⟨b, off, none⟩) xs.length cap) rfl rfl (Or.inl ⟨by rfl, ?_⟩) ?_
          · intro w hSw
            go_simp
          simp only [Act.put, List.setIfInBounds_toArray, List.set_cons_zero, List.set_cons_succ]
          refine takeV 1 11 (.int .i64 ((j : Int) + 1)) rfl rfl (Or.inl ⟨by rfl, ?_⟩) ?_
          · intro w hSw
            go_simp
          simp only [Act.put, List.setIfInBounds_toArray, List.set_cons_zero, List.set_cons_succ]
          refine takeV 2 12 (.pointer (some ⟨b, off + (j + 1) * 3, none⟩)) rfl rfl (Or.inl ⟨by rfl, ?_⟩) ?_
          · intro w hSw
            go_simp
          simp only [Act.put, List.setIfInBounds_toArray, List.set_cons_zero, List.set_cons_succ]
          refine takeV 3 13 (.agg #[.string x.name, .int .i64 x.kind, .int .i64 x.goal]) rfl rfl (Or.inl ⟨by rfl, ?_⟩) ?_
          · intro w hSw
            go_simp
          simp only [Act.put, List.setIfInBounds_toArray, List.set_cons_zero, List.set_cons_succ]
          refine wpAnyH_ready (rs := [4]) (by kernel_rfl) (by simp) ?_
          refine AllReadyH.cons (o := { dst := some 14, op := Op.call { callee := Callee.value (Operand.func 102), args := #[Operand.tmp 13], argTypes := #[96] }, type := 4, pos := "l06_order.go:41", after := #[{ on := 3, ground := Ground.data }], guard := none }) rfl (fun K hK => ?_) AllReadyH.nil
          go_simp
          refine (hM.out _).mono ?_
          rintro e w1 ⟨rfl, hb1⟩
          have HB1 := Lib.hid ((below_drewO HB.out 1).trans (hb1.mono (below_drewO HB.out 1).size))
          clear hb1
          have e0 := HCx.out w1 HB1.out
          have f0 := HCy.out w1 HB1.out
          obtain ⟨e0, e1, e2⟩ := e0
          go_wp2_with fail
          refine hK.out _ _ ?_ (fun hHeld => ?_)
          · go_keep
          clear hK K
          refine takeV 5 15 (.bool true) rfl rfl (Or.inl ⟨by rfl, ?_⟩) ?_
          · intro w hSw
            go_simp
          simp only [Act.put, List.setIfInBounds_toArray, List.set_cons_zero, List.set_cons_succ]
          refine takeV 6 16 (.bool true) rfl rfl (Or.inl ⟨by rfl, ?_⟩) ?_
          · intro w hSw
            go_simp
          simp only [Act.put, List.setIfInBounds_toArray, List.set_cons_zero, List.set_cons_succ]
          refine takeV 7 17 undef rfl rfl (Or.inr ⟨by rfl, rfl⟩) ?_
          simp only [Act.put, List.setIfInBounds_toArray, List.set_cons_zero, List.set_cons_succ]
          refine takeV 8 18 undef rfl rfl (Or.inr ⟨by rfl, rfl⟩) ?_
          simp only [Act.put, List.setIfInBounds_toArray, List.set_cons_zero, List.set_cons_succ]
          refine takeV 9 19 undef rfl rfl (Or.inr ⟨by rfl, rfl⟩) ?_
          simp only [Act.put, List.setIfInBounds_toArray, List.set_cons_zero, List.set_cons_succ]
          refine takeV 10 20 undef rfl rfl (Or.inr ⟨by rfl, rfl⟩) ?_
          simp only [Act.put, List.setIfInBounds_toArray, List.set_cons_zero, List.set_cons_succ]
          refine takeV 11 21 undef rfl rfl (Or.inr ⟨by rfl, rfl⟩) ?_
          simp only [Act.put, List.setIfInBounds_toArray, List.set_cons_zero, List.set_cons_succ]
          refine takeV 12 22 undef rfl rfl (Or.inr ⟨by rfl, rfl⟩) ?_
          simp only [Act.put, List.setIfInBounds_toArray, List.set_cons_zero, List.set_cons_succ]
          refine takeV 13 23 undef rfl rfl (Or.inr ⟨by rfl, rfl⟩) ?_
          simp only [Act.put, List.setIfInBounds_toArray, List.set_cons_zero, List.set_cons_succ]
          refine takeV 14 24 undef rfl rfl (Or.inr ⟨by rfl, rfl⟩) ?_
          simp only [Act.put, List.setIfInBounds_toArray, List.set_cons_zero, List.set_cons_succ]
          refine takeV 15 25 undef rfl rfl (Or.inr ⟨by rfl, rfl⟩) ?_
          simp only [Act.put, List.setIfInBounds_toArray, List.set_cons_zero, List.set_cons_succ]
          refine takeV 16 26 undef rfl rfl (Or.inr ⟨by rfl, rfl⟩) ?_
          simp only [Act.put, List.setIfInBounds_toArray, List.set_cons_zero, List.set_cons_succ]
          refine takeV 17 27 undef rfl rfl (Or.inr ⟨by rfl, rfl⟩) ?_
          simp only [Act.put, List.setIfInBounds_toArray, List.set_cons_zero, List.set_cons_succ]
          refine takeV 18 28 undef rfl rfl (Or.inr ⟨by rfl, rfl⟩) ?_
          simp only [Act.put, List.setIfInBounds_toArray, List.set_cons_zero, List.set_cons_succ]
          refine takeV 19 29 undef rfl rfl (Or.inr ⟨by rfl, rfl⟩) ?_
          simp only [Act.put, List.setIfInBounds_toArray, List.set_cons_zero, List.set_cons_succ]
          refine takeV 20 30 undef rfl rfl (Or.inr ⟨by rfl, rfl⟩) ?_
          simp only [Act.put, List.setIfInBounds_toArray, List.set_cons_zero, List.set_cons_succ]
          refine takeV 21 31 undef rfl rfl (Or.inr ⟨by rfl, rfl⟩) ?_
          simp only [Act.put, List.setIfInBounds_toArray, List.set_cons_zero, List.set_cons_succ]
          refine takeV 22 32 undef rfl rfl (Or.inr ⟨by rfl, rfl⟩) ?_
          simp only [Act.put, List.setIfInBounds_toArray, List.set_cons_zero, List.set_cons_succ]
          refine takeV 23 33 (.bool true) rfl rfl (Or.inl ⟨by rfl, ?_⟩) ?_
          · intro w hSw
            go_simp
          simp only [Act.put, List.setIfInBounds_toArray, List.set_cons_zero, List.set_cons_succ]
          refine wpAnyH_done (by kernel_rfl) ?_ _
          go_wp2
          go_ret
          exact ⟨by rw [HN.out]; rfl, HB1.out⟩
      rw [hb] at hM
      rcases Nat.eq_zero_or_pos k with rfl | hp
      · have HS := Lib.hid (el_step hlt hr.out ⟨hb, fun h => absurd h (by omega)⟩)
        clear hb
        rw [show off + 0 * 3 = off by omega] at HCx
        generalize xs[0] = x at *
        go_wp2
        obtain ⟨c0, c1, c2⟩ := HCx.out wr HB.out
        refine wp_region_held_drew (S := (fun w' => w'.cell? ⟨b, off, none⟩ = some (.string x.name) ∧ w'.cell? ⟨b, off + 1, none⟩ = some (.int .i64 x.kind) ∧ w'.cell? ⟨b, off + 2, none⟩ = some (.int .i64 x.goal))) (by kernel_rfl) ?_ (fun hHeld => ?_)
        · go_keep
        refine takeV 0 10 (.slice (some ⟨b, off, none⟩) xs.length cap) rfl rfl (Or.inl ⟨by rfl, ?_⟩) ?_
        · intro w hSw
          go_simp
        simp only [Act.put, List.setIfInBounds_toArray, List.set_cons_zero, List.set_cons_succ]
        refine takeV 1 11 (.int .i64 (0)) rfl rfl (Or.inl ⟨by rfl, ?_⟩) ?_
        · intro w hSw
          go_simp
        simp only [Act.put, List.setIfInBounds_toArray, List.set_cons_zero, List.set_cons_succ]
        refine takeV 2 12 (.pointer (some ⟨b, off, none⟩)) rfl rfl (Or.inl ⟨by rfl, ?_⟩) ?_
        · intro w hSw
          go_simp
        simp only [Act.put, List.setIfInBounds_toArray, List.set_cons_zero, List.set_cons_succ]
        refine takeV 3 13 (.agg #[.string x.name, .int .i64 x.kind, .int .i64 x.goal]) rfl rfl (Or.inl ⟨by rfl, ?_⟩) ?_
        · intro w hSw
          go_simp
        simp only [Act.put, List.setIfInBounds_toArray, List.set_cons_zero, List.set_cons_succ]
        refine wpAnyH_ready (rs := [4]) (by kernel_rfl) (by simp) ?_
        refine AllReadyH.cons (o := { dst := some 14, op := Op.call { callee := Callee.value (Operand.func 102), args := #[Operand.tmp 13], argTypes := #[96] }, type := 4, pos := "l06_order.go:41", after := #[{ on := 3, ground := Ground.data }], guard := none }) rfl (fun K hK => ?_) AllReadyH.nil
        go_simp
        refine (hM.out _).mono ?_
        rintro e w1 ⟨rfl, hb1⟩
        have HB1 := Lib.hid ((below_drewO HB.out 1).trans (hb1.mono (below_drewO HB.out 1).size))
        clear hb1
        have e0 := HCx.out w1 HB1.out
        obtain ⟨e0, e1, e2⟩ := e0
        go_wp2_with fail
        refine hK.out _ _ ?_ (fun hHeld => ?_)
        · go_keep
        clear hK K
        refine takeV 5 15 (.bool false) rfl rfl (Or.inl ⟨by rfl, ?_⟩) ?_
        · intro w hSw
          go_simp
        simp only [Act.put, List.setIfInBounds_toArray, List.set_cons_zero, List.set_cons_succ]
        refine takeV 6 16 (.bool false) rfl rfl (Or.inl ⟨by rfl, ?_⟩) ?_
        · intro w hSw
          go_simp
        simp only [Act.put, List.setIfInBounds_toArray, List.set_cons_zero, List.set_cons_succ]
        refine takeV 7 17 (.int .i64 0) rfl rfl (Or.inl ⟨by rfl, ?_⟩) ?_
        · intro w hSw
          go_simp
        simp only [Act.put, List.setIfInBounds_toArray, List.set_cons_zero, List.set_cons_succ]
        refine takeV 8 18 (.bool false) rfl rfl (Or.inl ⟨by rfl, ?_⟩) ?_
        · intro w hSw
          go_simp
        simp only [Act.put, List.setIfInBounds_toArray, List.set_cons_zero, List.set_cons_succ]
        refine takeV 9 19 (.bool false) rfl rfl (Or.inl ⟨by rfl, ?_⟩) ?_
        · intro w hSw
          go_simp
        simp only [Act.put, List.setIfInBounds_toArray, List.set_cons_zero, List.set_cons_succ]
        refine takeV 10 20 undef rfl rfl (Or.inr ⟨by rfl, rfl⟩) ?_
        simp only [Act.put, List.setIfInBounds_toArray, List.set_cons_zero, List.set_cons_succ]
        refine takeV 11 21 undef rfl rfl (Or.inr ⟨by rfl, rfl⟩) ?_
        simp only [Act.put, List.setIfInBounds_toArray, List.set_cons_zero, List.set_cons_succ]
        refine takeV 12 22 undef rfl rfl (Or.inr ⟨by rfl, rfl⟩) ?_
        simp only [Act.put, List.setIfInBounds_toArray, List.set_cons_zero, List.set_cons_succ]
        refine takeV 13 23 undef rfl rfl (Or.inr ⟨by rfl, rfl⟩) ?_
        simp only [Act.put, List.setIfInBounds_toArray, List.set_cons_zero, List.set_cons_succ]
        refine takeV 14 24 undef rfl rfl (Or.inr ⟨by rfl, rfl⟩) ?_
        simp only [Act.put, List.setIfInBounds_toArray, List.set_cons_zero, List.set_cons_succ]
        refine takeV 15 25 undef rfl rfl (Or.inr ⟨by rfl, rfl⟩) ?_
        simp only [Act.put, List.setIfInBounds_toArray, List.set_cons_zero, List.set_cons_succ]
        refine takeV 16 26 undef rfl rfl (Or.inr ⟨by rfl, rfl⟩) ?_
        simp only [Act.put, List.setIfInBounds_toArray, List.set_cons_zero, List.set_cons_succ]
        refine takeV 17 27 undef rfl rfl (Or.inr ⟨by rfl, rfl⟩) ?_
        simp only [Act.put, List.setIfInBounds_toArray, List.set_cons_zero, List.set_cons_succ]
        refine takeV 18 28 undef rfl rfl (Or.inr ⟨by rfl, rfl⟩) ?_
        simp only [Act.put, List.setIfInBounds_toArray, List.set_cons_zero, List.set_cons_succ]
        refine takeV 19 29 undef rfl rfl (Or.inr ⟨by rfl, rfl⟩) ?_
        simp only [Act.put, List.setIfInBounds_toArray, List.set_cons_zero, List.set_cons_succ]
        refine takeV 20 30 undef rfl rfl (Or.inr ⟨by rfl, rfl⟩) ?_
        simp only [Act.put, List.setIfInBounds_toArray, List.set_cons_zero, List.set_cons_succ]
        refine takeV 21 31 undef rfl rfl (Or.inr ⟨by rfl, rfl⟩) ?_
        simp only [Act.put, List.setIfInBounds_toArray, List.set_cons_zero, List.set_cons_succ]
        refine takeV 22 32 (.bool false) rfl rfl (Or.inl ⟨by rfl, ?_⟩) ?_
        · intro w hSw
          go_simp
        simp only [Act.put, List.setIfInBounds_toArray, List.set_cons_zero, List.set_cons_succ]
        refine takeV 23 33 (.bool false) rfl rfl (Or.inl ⟨by rfl, ?_⟩) ?_
        · intro w hSw
          go_simp
        simp only [Act.put, List.setIfInBounds_toArray, List.set_cons_zero, List.set_cons_succ]
        refine wpAnyH_done (by kernel_rfl) ?_ _
        go_wp2
        exact ⟨⟨1, by omega, rfl, HS.out, HB1.out⟩, by simp [intOf]; omega⟩
      · obtain ⟨j, rfl⟩ : ∃ j, k = j + 1 := ⟨k - 1, by omega⟩
        have g1 : ¬ ((j : Int) + 1 < 0) := by omega
        have g2 : ¬ xs.length ≤ j := by omega
        have g3 : IntKind.i64.wrap (j : Int) = j := by rw [IntKind.wrap_i64]; omega
        have HCy : Hid (∀ w1, Below w.heap.size w w1 → w1.cell? ⟨b, off + j * 3, none⟩ = some (.string xs[j].name)) := fun w1 hb => by
          have a0 := (HC.out j (by omega)).2 0 (by decide)
          exact (hb.cell (by exact World.block_lt_of_cell? _ _ a0)).trans a0
        by_cases hle : Op.bytesLess xs[j].name.toList xs[j + 1].name.toList = true
        · have HS := Lib.hid (el_step hlt hr.out ⟨hb, fun _ => hle⟩)
          clear hb
          generalize xs[j + 1] = x at *
          generalize xs[j] = y at *
          go_wp2
          obtain ⟨c0, c1, c2⟩ := HCx.out wr HB.out
          have d0 := HCy.out wr HB.out
          refine wp_region_held_drew (S := (fun w' => w'.cell? ⟨b, off + (j + 1) * 3, none⟩ = some (.string x.name) ∧ w'.cell? ⟨b, off + (j + 1) * 3 + 1, none⟩ = some (.int .i64 x.kind) ∧ w'.cell? ⟨b, off + (j + 1) * 3 + 2, none⟩ = some (.int .i64 x.goal) ∧ w'.cell? ⟨b, off + j * 3, none⟩ = some (.string y.name))) (by kernel_rfl) ?_ (fun hHeld => ?_)
          · go_keep
          refine takeV 0 10 (.slice (some ⟨b, off, none⟩) xs.length cap) rfl rfl (Or.inl ⟨by rfl, ?_⟩) ?_
          · intro w hSw
            go_simp
          simp only [Act.put, List.setIfInBounds_toArray, List.set_cons_zero, List.set_cons_succ]
          refine takeV 1 11 (.int .i64 ((j : Int) + 1)) rfl rfl (Or.inl ⟨by rfl, ?_⟩) ?_
          · intro w hSw
            go_simp
          simp only [Act.put, List.setIfInBounds_toArray, List.set_cons_zero, List.set_cons_succ]
          refine takeV 2 12 (.pointer (some ⟨b, off + (j + 1) * 3, none⟩)) rfl rfl (Or.inl ⟨by rfl, ?_⟩) ?_
          · intro w hSw
            go_simp
          simp only [Act.put, List.setIfInBounds_toArray, List.set_cons_zero, List.set_cons_succ]
          refine takeV 3 13 (.agg #[.string x.name, .int .i64 x.kind, .int .i64 x.goal]) rfl rfl (Or.inl ⟨by rfl, ?_⟩) ?_
          · intro w hSw
            go_simp
          simp only [Act.put, List.setIfInBounds_toArray, List.set_cons_zero, List.set_cons_succ]
          refine wpAnyH_ready (rs := [4]) (by kernel_rfl) (by simp) ?_
          refine AllReadyH.cons (o := { dst := some 14, op := Op.call { callee := Callee.value (Operand.func 102), args := #[Operand.tmp 13], argTypes := #[96] }, type := 4, pos := "l06_order.go:41", after := #[{ on := 3, ground := Ground.data }], guard := none }) rfl (fun K hK => ?_) AllReadyH.nil
          go_simp
          refine (hM.out _).mono ?_
          rintro e w1 ⟨rfl, hb1⟩
          have HB1 := Lib.hid ((below_drewO HB.out 1).trans (hb1.mono (below_drewO HB.out 1).size))
          clear hb1
          have e0 := HCx.out w1 HB1.out
          have f0 := HCy.out w1 HB1.out
          obtain ⟨e0, e1, e2⟩ := e0
          go_wp2_with fail
          refine hK.out _ _ ?_ (fun hHeld => ?_)
          · go_keep
          clear hK K
          refine takeV 5 15 (.bool false) rfl rfl (Or.inl ⟨by rfl, ?_⟩) ?_
          · intro w hSw
            go_simp
          simp only [Act.put, List.setIfInBounds_toArray, List.set_cons_zero, List.set_cons_succ]
          refine takeV 6 16 (.bool false) rfl rfl (Or.inl ⟨by rfl, ?_⟩) ?_
          · intro w hSw
            go_simp
          simp only [Act.put, List.setIfInBounds_toArray, List.set_cons_zero, List.set_cons_succ]
          refine takeV 7 17 (.int .i64 ((j : Int) + 1)) rfl rfl (Or.inl ⟨by rfl, ?_⟩) ?_
          · intro w hSw
            go_simp
          simp only [Act.put, List.setIfInBounds_toArray, List.set_cons_zero, List.set_cons_succ]
          refine takeV 8 18 (.bool true) rfl rfl (Or.inl ⟨by rfl, ?_⟩) ?_
          · intro w hSw
            go_simp
          simp only [Act.put, List.setIfInBounds_toArray, List.set_cons_zero, List.set_cons_succ]
          refine takeV 9 19 (.bool true) rfl rfl (Or.inl ⟨by rfl, ?_⟩) ?_
          · intro w hSw
            go_simp
          simp only [Act.put, List.setIfInBounds_toArray, List.set_cons_zero, List.set_cons_succ]
          refine takeV 10 20 (.slice (some ⟨b, off, none⟩) xs.length cap) rfl rfl (Or.inl ⟨by rfl, ?_⟩) ?_
          · intro w hSw
            go_simp
          simp only [Act.put, List.setIfInBounds_toArray, List.set_cons_zero, List.set_cons_succ]
          refine takeV 11 21 (.int .i64 ((j : Int) + 1)) rfl rfl (Or.inl ⟨by rfl, ?_⟩) ?_
          · intro w hSw
            go_simp
          simp only [Act.put, List.setIfInBounds_toArray, List.set_cons_zero, List.set_cons_succ]
          refine takeV 12 22 (.int .i64 j) rfl rfl (Or.inl ⟨by rfl, ?_⟩) ?_
          · intro w hSw
            go_simp
          simp only [Act.put, List.setIfInBounds_toArray, List.set_cons_zero, List.set_cons_succ]
          refine takeV 13 23 (.pointer (some ⟨b, off + j * 3, none⟩)) rfl rfl (Or.inl ⟨by rfl, ?_⟩) ?_
          · intro w hSw
            go_simp
          simp only [Act.put, List.setIfInBounds_toArray, List.set_cons_zero, List.set_cons_succ]
          refine takeV 14 24 (.pointer (some ⟨b, off + j * 3, none⟩)) rfl rfl (Or.inl ⟨by rfl, ?_⟩) ?_
          · intro w hSw
            go_simp
          simp only [Act.put, List.setIfInBounds_toArray, List.set_cons_zero, List.set_cons_succ]
          refine takeV 15 25 (.string y.name) rfl rfl (Or.inl ⟨by rfl, ?_⟩) ?_
          · intro w hSw
            go_simp
          simp only [Act.put, List.setIfInBounds_toArray, List.set_cons_zero, List.set_cons_succ]
          refine takeV 16 26 (.slice (some ⟨b, off, none⟩) xs.length cap) rfl rfl (Or.inl ⟨by rfl, ?_⟩) ?_
          · intro w hSw
            go_simp
          simp only [Act.put, List.setIfInBounds_toArray, List.set_cons_zero, List.set_cons_succ]
          refine takeV 17 27 (.int .i64 ((j : Int) + 1)) rfl rfl (Or.inl ⟨by rfl, ?_⟩) ?_
          · intro w hSw
            go_simp
          simp only [Act.put, List.setIfInBounds_toArray, List.set_cons_zero, List.set_cons_succ]
          refine takeV 18 28 (.pointer (some ⟨b, off + (j + 1) * 3, none⟩)) rfl rfl (Or.inl ⟨by rfl, ?_⟩) ?_
          · intro w hSw
            go_simp
          simp only [Act.put, List.setIfInBounds_toArray, List.set_cons_zero, List.set_cons_succ]
          refine takeV 19 29 (.pointer (some ⟨b, off + (j + 1) * 3, none⟩)) rfl rfl (Or.inl ⟨by rfl, ?_⟩) ?_
          · intro w hSw
            go_simp
          simp only [Act.put, List.setIfInBounds_toArray, List.set_cons_zero, List.set_cons_succ]
          refine takeV 20 30 (.string x.name) rfl rfl (Or.inl ⟨by rfl, ?_⟩) ?_
          · intro w hSw
            go_simp
          simp only [Act.put, List.setIfInBounds_toArray, List.set_cons_zero, List.set_cons_succ]
          refine takeV 21 31 (.bool false) rfl rfl (Or.inl ⟨by rfl, ?_⟩) ?_
          · intro w hSw
            go_simp
          simp only [Act.put, List.setIfInBounds_toArray, List.set_cons_zero, List.set_cons_succ]
          refine takeV 22 32 (.bool false) rfl rfl (Or.inl ⟨by rfl, ?_⟩) ?_
          · intro w hSw
            go_simp
          simp only [Act.put, List.setIfInBounds_toArray, List.set_cons_zero, List.set_cons_succ]
          refine takeV 23 33 (.bool false) rfl rfl (Or.inl ⟨by rfl, ?_⟩) ?_
          · intro w hSw
            go_simp
          simp only [Act.put, List.setIfInBounds_toArray, List.set_cons_zero, List.set_cons_succ]
          refine wpAnyH_done (by kernel_rfl) ?_ _
          go_wp2
          exact ⟨⟨j + 1 + 1, by omega, by go_num, HS.out, HB1.out⟩, by simp [intOf]; omega⟩
        · have hle' : Op.bytesLess xs[j].name.toList xs[j + 1].name.toList = false := by simpa using hle
          have HN := Lib.hid (els_no (nm := Met.name) (ok := Met.okB) hlt fun h => hle (h.2 (by omega)))
          clear hb hle
          generalize xs[j + 1] = x at *
          generalize xs[j] = y at *
          go_wp2
          obtain ⟨c0, c1, c2⟩ := HCx.out wr HB.out
          have d0 := HCy.out wr HB.out
          refine wp_region_held_drew (S := (fun w' => w'.cell? ⟨b, off + (j + 1) * 3, none⟩ = some (.string x.name) ∧ w'.cell? ⟨b, off + (j + 1) * 3 + 1, none⟩ = some (.int .i64 x.kind) ∧ w'.cell? ⟨b, off + (j + 1) * 3 + 2, none⟩ = some (.int .i64 x.goal) ∧ w'.cell? ⟨b, off + j * 3, none⟩ = some (.string y.name))) (by kernel_rfl) ?_ (fun hHeld => ?_)
          · go_keep
          refine takeV 0 10 (.slice (some ⟨b, off, none⟩) xs.length cap) rfl rfl (Or.inl ⟨by rfl, ?_⟩) ?_
          · intro w hSw
            go_simp
          simp only [Act.put, List.setIfInBounds_toArray, List.set_cons_zero, List.set_cons_succ]
          refine takeV 1 11 (.int .i64 ((j : Int) + 1)) rfl rfl (Or.inl ⟨by rfl, ?_⟩) ?_
          · intro w hSw
            go_simp
          simp only [Act.put, List.setIfInBounds_toArray, List.set_cons_zero, List.set_cons_succ]
          refine takeV 2 12 (.pointer (some ⟨b, off + (j + 1) * 3, none⟩)) rfl rfl (Or.inl ⟨by rfl, ?_⟩) ?_
          · intro w hSw
            go_simp
          simp only [Act.put, List.setIfInBounds_toArray, List.set_cons_zero, List.set_cons_succ]
          refine takeV 3 13 (.agg #[.string x.name, .int .i64 x.kind, .int .i64 x.goal]) rfl rfl (Or.inl ⟨by rfl, ?_⟩) ?_
          · intro w hSw
            go_simp
          simp only [Act.put, List.setIfInBounds_toArray, List.set_cons_zero, List.set_cons_succ]
          refine wpAnyH_ready (rs := [4]) (by kernel_rfl) (by simp) ?_
          refine AllReadyH.cons (o := { dst := some 14, op := Op.call { callee := Callee.value (Operand.func 102), args := #[Operand.tmp 13], argTypes := #[96] }, type := 4, pos := "l06_order.go:41", after := #[{ on := 3, ground := Ground.data }], guard := none }) rfl (fun K hK => ?_) AllReadyH.nil
          go_simp
          refine (hM.out _).mono ?_
          rintro e w1 ⟨rfl, hb1⟩
          have HB1 := Lib.hid ((below_drewO HB.out 1).trans (hb1.mono (below_drewO HB.out 1).size))
          clear hb1
          have e0 := HCx.out w1 HB1.out
          have f0 := HCy.out w1 HB1.out
          obtain ⟨e0, e1, e2⟩ := e0
          go_wp2_with fail
          refine hK.out _ _ ?_ (fun hHeld => ?_)
          · go_keep
          clear hK K
          refine takeV 5 15 (.bool false) rfl rfl (Or.inl ⟨by rfl, ?_⟩) ?_
          · intro w hSw
            go_simp
          simp only [Act.put, List.setIfInBounds_toArray, List.set_cons_zero, List.set_cons_succ]
          refine takeV 6 16 (.bool false) rfl rfl (Or.inl ⟨by rfl, ?_⟩) ?_
          · intro w hSw
            go_simp
          simp only [Act.put, List.setIfInBounds_toArray, List.set_cons_zero, List.set_cons_succ]
          refine takeV 7 17 (.int .i64 ((j : Int) + 1)) rfl rfl (Or.inl ⟨by rfl, ?_⟩) ?_
          · intro w hSw
            go_simp
          simp only [Act.put, List.setIfInBounds_toArray, List.set_cons_zero, List.set_cons_succ]
          refine takeV 8 18 (.bool true) rfl rfl (Or.inl ⟨by rfl, ?_⟩) ?_
          · intro w hSw
            go_simp
          simp only [Act.put, List.setIfInBounds_toArray, List.set_cons_zero, List.set_cons_succ]
          refine takeV 9 19 (.bool true) rfl rfl (Or.inl ⟨by rfl, ?_⟩) ?_
          · intro w hSw
            go_simp
          simp only [Act.put, List.setIfInBounds_toArray, List.set_cons_zero, List.set_cons_succ]
          refine takeV 10 20 (.slice (some ⟨b, off, none⟩) xs.length cap) rfl rfl (Or.inl ⟨by rfl, ?_⟩) ?_
          · intro w hSw
            go_simp
          simp only [Act.put, List.setIfInBounds_toArray, List.set_cons_zero, List.set_cons_succ]
          refine takeV 11 21 (.int .i64 ((j : Int) + 1)) rfl rfl (Or.inl ⟨by rfl, ?_⟩) ?_
          · intro w hSw
            go_simp
          simp only [Act.put, List.setIfInBounds_toArray, List.set_cons_zero, List.set_cons_succ]
          refine takeV 12 22 (.int .i64 j) rfl rfl (Or.inl ⟨by rfl, ?_⟩) ?_
          · intro w hSw
            go_simp
          simp only [Act.put, List.setIfInBounds_toArray, List.set_cons_zero, List.set_cons_succ]
          refine takeV 13 23 (.pointer (some ⟨b, off + j * 3, none⟩)) rfl rfl (Or.inl ⟨by rfl, ?_⟩) ?_
          · intro w hSw
            go_simp
          simp only [Act.put, List.setIfInBounds_toArray, List.set_cons_zero, List.set_cons_succ]
          refine takeV 14 24 (.pointer (some ⟨b, off + j * 3, none⟩)) rfl rfl (Or.inl ⟨by rfl, ?_⟩) ?_
          · intro w hSw
            go_simp
          simp only [Act.put, List.setIfInBounds_toArray, List.set_cons_zero, List.set_cons_succ]
          refine takeV 15 25 (.string y.name) rfl rfl (Or.inl ⟨by rfl, ?_⟩) ?_
          · intro w hSw
            go_simp
          simp only [Act.put, List.setIfInBounds_toArray, List.set_cons_zero, List.set_cons_succ]
          refine takeV 16 26 (.slice (some ⟨b, off, none⟩) xs.length cap) rfl rfl (Or.inl ⟨by rfl, ?_⟩) ?_
          · intro w hSw
            go_simp
          simp only [Act.put, List.setIfInBounds_toArray, List.set_cons_zero, List.set_cons_succ]
          refine takeV 17 27 (.int .i64 ((j : Int) + 1)) rfl rfl (Or.inl ⟨by rfl, ?_⟩) ?_
          · intro w hSw
            go_simp
          simp only [Act.put, List.setIfInBounds_toArray, List.set_cons_zero, List.set_cons_succ]
          refine takeV 18 28 (.pointer (some ⟨b, off + (j + 1) * 3, none⟩)) rfl rfl (Or.inl ⟨by rfl, ?_⟩) ?_
          · intro w hSw
            go_simp
          simp only [Act.put, List.setIfInBounds_toArray, List.set_cons_zero, List.set_cons_succ]
          refine takeV 19 29 (.pointer (some ⟨b, off + (j + 1) * 3, none⟩)) rfl rfl (Or.inl ⟨by rfl, ?_⟩) ?_
          · intro w hSw
            go_simp
          simp only [Act.put, List.setIfInBounds_toArray, List.set_cons_zero, List.set_cons_succ]
          refine takeV 20 30 (.string x.name) rfl rfl (Or.inl ⟨by rfl, ?_⟩) ?_
          · intro w hSw
            go_simp
          simp only [Act.put, List.setIfInBounds_toArray, List.set_cons_zero, List.set_cons_succ]
          refine takeV 21 31 (.bool true) rfl rfl (Or.inl ⟨by rfl, ?_⟩) ?_
          · intro w hSw
            go_simp
          simp only [Act.put, List.setIfInBounds_toArray, List.set_cons_zero, List.set_cons_succ]
          refine takeV 22 32 (.bool true) rfl rfl (Or.inl ⟨by rfl, ?_⟩) ?_
          · intro w hSw
            go_simp
          simp only [Act.put, List.setIfInBounds_toArray, List.set_cons_zero, List.set_cons_succ]
          refine takeV 23 33 (.bool true) rfl rfl (Or.inl ⟨by rfl, ?_⟩) ?_
          · intro w hSw
            go_simp
          simp only [Act.put, List.setIfInBounds_toArray, List.set_cons_zero, List.set_cons_succ]
          refine wpAnyH_done (by kernel_rfl) ?_ _
          go_wp2
          go_ret
          exact ⟨by rw [HN.out]; rfl, HB1.out⟩
    · have HE : Hid (dec (Els Met.name Met.okB xs) = decide ((xs.length : Int) ≤ 4)) := by
        show _ = _
        by_cases h : xs.length ≤ 4
        · rw [dec_yes ⟨fun i hi => hr.out i hi (by omega), h⟩]; simp; omega
        · rw [dec_no fun h' => h h'.2]; simp; omega
      go_wp2
      go_ret
      exact ⟨by rw [HE.out]; rfl, HB.out⟩

end Go.Proofs.YtelpkcbbipianaaGreat

/- for any text the program's PlainOk answers as the model's PlainOk does. -/
namespace Go.Proofs.YtelpkcbbipianaaGreat
open Go Go.RowKit

set_option maxHeartbeats 400000 in
theorem spec_letter (b : UInt8) (w : World) : Calls Tryz.prog 115 #[.int .u8 (b.toNat : Int)] w fun e w' => e = .returned (.bool (isLet b)) ∧ w' = w := by
  by_cases h1 : 97 ≤ b.toNat <;> by_cases h2 : b.toNat ≤ 122 <;> by_cases h3 : 65 ≤ b.toNat <;> by_cases h4 : b.toNat ≤ 90
  all_goals
    first
    | omega
    | (go_enter Tryz.func115, Tryz.ntmps115
       go_wp2
       go_ret
       refine ⟨?_, rfl⟩
       simp [isLet, h1, h2, h3, h4] <;> omega)

theorem spec_in (x : Int) (w : World) : Calls Tryz.prog 47 #[.int .i64 x, .int .i64 1, .int .i64 60] w fun e w' => e = .returned (.bool (decide (1 ≤ x) && decide (x ≤ 60))) ∧ w' = w := by
  by_cases h1 : 1 ≤ x <;> by_cases h2 : x ≤ 60
  all_goals
    first
    | omega
    | (go_enter Tryz.func47, Tryz.ntmps47
       go_wp2
       go_ret
       refine ⟨?_, rfl⟩
       simp [h1, h2] <;> omega)

set_option maxRecDepth 100000 in
set_option maxHeartbeats 1000000 in
theorem spec_plainOk (s : ByteArray) (hm : s.size ≤ maxLen) (w : World) :
    Calls Tryz.prog 103 #[.string s] w fun e w' => e = .returned (.bool (plainB s)) ∧ w' = w := by
  unfold maxLen at hm
  go_enter Tryz.func103, Tryz.ntmps103
  go_wp2
  go_loop [3] (fun i => ∃ k : Nat, k ≤ s.size ∧ i = .int .i64 k ∧ Hid (goodL (s.data.toList.take k) = true)) (fun i => s.size - (intOf i).toNat)
  case atStart => exact ⟨0, Nat.zero_le _, rfl, rfl⟩
  case round =>
    obtain ⟨k, hk, rfl, hr⟩ := hrel
    by_cases hlt : k < s.size
    · have HG := Lib.hid (goodL_step hlt)
      rw [hr.out] at HG
      have hL := spec_letter s[k]
      by_cases hl : isLet s[k] = true
      · rw [hl] at hL
        have HS : Hid (goodL (s.data.toList.take (k + 1)) = true) := by
          show _ = _
          rw [HG.out, hl, okP_let hl]; simp
        clear HG hl
        go_wp2_with (first
          | (go_at_call 115; refine (hL _).mono ?_; rintro e w1 ⟨rfl, e1⟩; subst e1)
          | fail)
        go_round
        case rel => exact ⟨k + 1, by omega, by go_num, HS.out⟩
        case measure => simp [intOf]; omega
      · have hl' : isLet s[k] = false := by simpa using hl
        rw [hl'] at hL HG
        clear hl
        by_cases hk0 : k = 0
        · subst hk0
          have HN : Hid (plainB s = false) := goodL_bad (k := 0) (by rw [HG.out]; rfl)
          clear HG
          go_wp2_with (first
            | (go_at_call 115; refine (hL _).mono ?_; rintro e w1 ⟨rfl, e1⟩; subst e1)
            | fail)
          go_ret
          exact ⟨by rw [HN.out]; rfl, rfl⟩
        · rw [if_neg hk0] at HG
          have e0 : ((k : Int) == 0) = false := by simp; omega
          have HO : Hid (okP s[k] = (isDig s[k] || isSgn s[k])) := by show _ = _; rw [okP, hl']; rfl
          rw [HO.out] at HG
          clear HO hk0 hl'
          generalize hb : s[k] = b at *
          by_cases hs : b = 95 ∨ b = 46 ∨ b = 47 ∨ b = 45
          · have HS : Hid (goodL (s.data.toList.take (k + 1)) = true) := by
              show _ = _
              rw [HG.out, show isSgn b = true from decide_eq_true hs]; simp
            clear HG
            rcases hs with rfl | rfl | rfl | rfl
            all_goals
              go_wp2_with (first
                | (go_at_call 115; refine (hL _).mono ?_; rintro e w1 ⟨rfl, e1⟩; subst e1)
                | fail)
              go_round
              case rel => exact ⟨k + 1, by omega, by go_num, HS.out⟩
              case measure => simp [intOf]; omega
          · have HSg : Hid (isSgn b = false) := decide_eq_false hs
            have n1 : ((b.toNat : Int) == 95) = false := by
              simp; intro h; exact hs (.inl (UInt8.toNat_inj.1 (Int.ofNat_inj.1 h)))
            have n2 : ((b.toNat : Int) == 46) = false := by
              simp; intro h; exact hs (.inr (.inl (UInt8.toNat_inj.1 (Int.ofNat_inj.1 h))))
            have n3 : ((b.toNat : Int) == 47) = false := by
              simp; intro h; exact hs (.inr (.inr (.inl (UInt8.toNat_inj.1 (Int.ofNat_inj.1 h)))))
            have n4 : ((b.toNat : Int) == 45) = false := by
              simp; intro h; exact hs (.inr (.inr (.inr (UInt8.toNat_inj.1 (Int.ofNat_inj.1 h)))))
            rw [HSg.out] at HG
            clear hs HSg
            by_cases d1 : 48 ≤ b.toNat
            · by_cases d2 : b.toNat ≤ 57
              · have HS : Hid (goodL (s.data.toList.take (k + 1)) = true) := by
                  show _ = _
                  rw [HG.out]; simp [isDig, d1, d2]
                clear HG
                go_wp2_with (first
                  | (go_at_call 115; refine (hL _).mono ?_; rintro e w1 ⟨rfl, e1⟩; subst e1)
                  | fail)
                all_goals exact ⟨⟨k + 1, by omega, by go_num, HS.out⟩, by simp [intOf]; omega⟩
              · have HN : Hid (plainB s = false) := goodL_bad (k := k) (by rw [HG.out]; simp [isDig, d1, d2])
                have d3 : decide ((b.toNat : Int) ≤ 57) = false := by simp; omega
                clear HG
                go_wp2_with (first
                  | (go_at_call 115; refine (hL _).mono ?_; rintro e w1 ⟨rfl, e1⟩; subst e1)
                  | fail)
                go_ret
                exact ⟨by rw [HN.out]; rfl, rfl⟩
            · have HN : Hid (plainB s = false) := goodL_bad (k := k) (by rw [HG.out]; simp [isDig, d1])
              clear HG
              go_wp2_with (first
                | (go_at_call 115; refine (hL _).mono ?_; rintro e w1 ⟨rfl, e1⟩; subst e1)
                | fail)
              go_ret
              exact ⟨by rw [HN.out]; rfl, rfl⟩
    · have HE : Hid (goodL s.data.toList = true) := by show _ = _; rw [← goodL_end hlt]; exact hr.out
      have h1 := fun w => spec_in s.size w
      have HP : Hid (plainB s = ((decide (1 ≤ (s.size : Int)) && decide ((s.size : Int) ≤ 60)) && noWord s)) := by
        show _ = _
        unfold plainB
        rw [HE.out, Bool.and_true]
        refine congrArg (· && _) ?_
        by_cases a : 1 ≤ s.size <;> by_cases b : s.size ≤ 60 <;> simp [a, b] <;> omega
      obtain ⟨b0, hb0⟩ : ∃ b0, (decide (1 ≤ (s.size : Int)) && decide ((s.size : Int) ≤ 60)) = b0 := ⟨_, rfl⟩
      rw [hb0] at HP h1
      clear hb0
      unfold noWord at HP
      cases hA : (s.toList == [110, 117, 108, 108]) <;> cases hB : (s.toList == [116, 114, 117, 101]) <;> cases hC : (s.toList == [102, 97, 108, 115, 101]) <;> cases b0
      all_goals
        rw [hA, hB, hC] at HP
        go_wp2_with (first
          | (go_at_call 47; refine (h1 _).mono ?_; rintro e w1 ⟨rfl, e1⟩; subst e1)
          | fail)
        go_ret
        exact ⟨by rw [HP.out]; rfl, rfl⟩

end Go.Proofs.YtelpkcbbipianaaGreat
