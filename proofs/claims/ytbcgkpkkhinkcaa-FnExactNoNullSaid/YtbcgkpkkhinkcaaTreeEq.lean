/-
  What is proved: the laws' eqStringS, eqNodeS and eqNode tell whether two lists of texts, two lists of trees, two trees are the same.
-/
import Derived.Test.YtbcgkpkkhinkcaaTree
import Derived.Test.YtbcgkpkkhinkcaaRows
import Derived.WalkKit
import Derived.WalkSpells
import Derived.Deep.QuietTactic
import Derived.Deep.RegionWith
import Derived.BigQuiet
namespace Go.Proofs.Ytbcgkpkkhinkcaa
open Go Go.RowKit

noncomputable def same {α : Type} (a b : α) : Bool := @decide (a = b) (Classical.propDecidable _)
theorem same_yes {α : Type} {a b : α} (h : a = b) : same a b = true := @decide_eq_true _ (Classical.propDecidable _) h
theorem same_no {α : Type} {a b : α} (h : ¬ a = b) : same a b = false := @decide_eq_false _ (Classical.propDecidable _) h
theorem same_iff {α : Type} {a b : α} : same a b = true ↔ a = b := by
  constructor
  · intro h
    exact @of_decide_eq_true _ (Classical.propDecidable _) h
  · exact same_yes
theorem same_iff_no {α : Type} {a b : α} : same a b = false ↔ ¬ a = b := by
  constructor
  · intro h e
    rw [same_yes e] at h
    cases h
  · exact same_no

theorem below_drewN {B : Nat} {a w : World} (h : Below B a w) (n : Nat) : Below B a (w.drewN n) := h.trans ⟨rfl, rfl, rfl, Nat.le_refl _, fun _ _ => rfl⟩

theorem take_step {α : Type} {l l' : List α} {k : Nat} (h : l.take k = l'.take k) (h1 : k < l.length) (h2 : k < l'.length) (e : l[k] = l'[k]) : l.take (k + 1) = l'.take (k + 1) := by
  rw [List.take_succ_eq_append_getElem h1, List.take_succ_eq_append_getElem h2, h, e]

theorem take_end {α : Type} {l l' : List α} {k : Nat} (h : l.take k = l'.take k) (h1 : ¬ k < l.length) (h2 : l.length = l'.length) : l = l' := by
  rw [List.take_of_length_le (by omega), List.take_of_length_le (by omega)] at h
  exact h

theorem ne_at {α : Type} {l l' : List α} {k : Nat} (h1 : k < l.length) (h2 : k < l'.length) (e : ¬ l[k] = l'[k]) : ¬ l = l' := by
  intro h
  subst h
  exact e rfl

set_option maxHeartbeats 400000 in
theorem eq_strs {v v' : Value} {ks ks' : List ByteArray} {F F' : List Nat} (w : World) (hs : StrsAt w v ks F) (hs' : StrsAt w v' ks' F') :
    Calls Try.prog 23 #[v, v'] w fun e w' => e = .returned (.bool (same ks ks')) ∧ Below w.heap.size w w' := by
  obtain ⟨o, cap, b, off, rfl, hlc, hcm, ho, -, hcell, -⟩ := hs
  obtain ⟨o', cap', b', off', rfl, hlc', hcm', ho', -, hcell', -⟩ := hs'
  have HC := Lib.hid hcell
  have HO := Lib.hid ho
  have HC' := Lib.hid hcell'
  have HO' := Lib.hid ho'
  clear hcell ho hcell' ho'
  unfold maxLen at hcm hcm'
  by_cases hl : ks.length = ks'.length
  · have HE := Lib.hid hl
    rw [← hl]
    clear hl
    rw [← HE.out] at hlc'
    go_enter Try.func23, Try.ntmps23
    go_wp2
    go_loopw [5] (fun i wr => ∃ k : Nat, k ≤ ks.length ∧ i = .int .i64 k ∧ Hid (ks.take k = ks'.take k) ∧ Below w.heap.size w wr) (fun i _ => ks.length - (intOf i).toNat)
    case atStart => exact ⟨0, Nat.zero_le _, rfl, rfl, Below.refl _ _⟩
    case round =>
      obtain ⟨k, hk, rfl, hr, hb⟩ := hrel
      have HB := Lib.hid hb
      by_cases hlt : k < ks.length
      · have l2 : k < ks'.length := by rw [← HE.out]; exact hlt
        have c0 : wr.cell? ⟨b, off + k, none⟩ = some (.string ks[k]) := by
          have := (HC.out k hlt).1
          rw [hb.cell (by exact World.block_lt_of_cell? _ _ this)]; exact this
        have c1 : wr.cell? ⟨b', off' + k, none⟩ = some (.string ks'[k]) := by
          have := (HC'.out k l2).1
          rw [hb.cell (by exact World.block_lt_of_cell? _ _ this)]; exact this
        have ho := HO.out (by omega)
        have ho' := HO'.out (by omega)
        subst ho ho'
        clear hb
        by_cases he : ks[k] = ks'[k]
        · have HR := Lib.hid (take_step hr.out hlt l2 he)
          rw [he] at c0
          clear he
          generalize hx : ks'[k] = x at *
          clear hx
          go_wp2
          go_quiet (fail)
          go_wp2
          exact ⟨⟨k + 1, by omega, by go_num, HR.out, below_drewN HB.out _⟩, by simp [intOf]; omega⟩
        · have HR := Lib.hid (ne_at hlt l2 he)
          have he' := bytes_ne he
          generalize hx : ks[k] = x at *
          generalize hy : ks'[k] = y at *
          clear hx hy
          go_wp2
          go_quiet (fail)
          go_wp2
          go_ret
          refine ⟨?_, below_drewN HB.out _⟩
          rw [same_no HR.out]
          rfl
      · have HR := Lib.hid (take_end hr.out hlt HE.out)
        go_wp2
        go_ret
        refine ⟨?_, HB.out⟩
        rw [same_yes HR.out]
        rfl
  · have hl' : ¬ ((ks.length : Int) = ks'.length) := by omega
    go_enter Try.func23, Try.ntmps23
    go_wp2
    go_ret
    refine ⟨?_, Below.refl _ _⟩
    rw [same_no (fun h => hl (by rw [h]))]
    rfl

/-- What the laws' eqNode answers of one tree, and of any other one. -/
def EqAt (T : RT) : Prop := ∀ (w : World) (kv dv : Value) (F : List Nat), Lies w T kv dv F → ∀ (T' : RT) (kv' dv' : Value) (F' : List Nat), Lies w T' kv' dv' F' →
  Calls Try.prog 9 #[T.val kv dv, T'.val kv' dv'] w fun e w' => e = .returned (.bool (same T T')) ∧ Below w.heap.size w w'

set_option maxHeartbeats 400000 in
theorem eq_kids {dv dv' : Value} {kids kids' : List RT} {F F' : List Nat} (ih : ∀ t ∈ kids, EqAt t) (w : World) (hs : KidsLie w dv kids F) (hs' : KidsLie w dv' kids' F') :
    Calls Try.prog 24 #[dv, dv'] w fun e w' => e = .returned (.bool (same kids kids')) ∧ Below w.heap.size w w' := by
  obtain ⟨o, cap, b, off, FF, KV, DV, rfl, hlc, hcm, ho, -, hcell, hlies, -⟩ := hs
  obtain ⟨o', cap', b', off', FF', KV', DV', rfl, hlc', hcm', ho', -, hcell', hlies', -⟩ := hs'
  have HC := Lib.hid hcell
  have HO := Lib.hid ho
  have HL := Lib.hid hlies
  have HC' := Lib.hid hcell'
  have HO' := Lib.hid ho'
  have HL' := Lib.hid hlies'
  clear hcell ho hcell' ho' hlies hlies'
  unfold maxLen at hcm hcm'
  by_cases hl : kids.length = kids'.length
  · have HE := Lib.hid hl
    rw [← hl]
    clear hl
    rw [← HE.out] at hlc'
    go_enter Try.func24, Try.ntmps24
    go_wp2
    go_loopw [5] (fun i wr => ∃ k : Nat, k ≤ kids.length ∧ i = .int .i64 k ∧ Hid (kids.take k = kids'.take k) ∧ Below w.heap.size w wr) (fun i _ => kids.length - (intOf i).toNat)
    case atStart => exact ⟨0, Nat.zero_le _, rfl, rfl, Below.refl _ _⟩
    case round =>
      obtain ⟨k, hk, rfl, hr, hb⟩ := hrel
      have HB := Lib.hid hb
      by_cases hlt : k < kids.length
      · have l2 : k < kids'.length := by rw [← HE.out]; exact hlt
        obtain ⟨c0, c1, c2, c3, c4⟩ := kid_cells (HC.out k hlt) hb
        obtain ⟨g0, g1, g2, g3, g4⟩ := kid_cells (HC'.out k l2) hb
        have ho := HO.out (by omega)
        have ho' := HO'.out (by omega)
        subst ho ho'
        have hih := Lib.hid (fun n => ih _ (List.getElem_mem hlt) (wr.drewN n) _ _ _ ((HL.out k hlt).stay (below_drewN hb n) (Nat.le_refl _)) _ _ _ _ ((HL'.out k l2).stay (below_drewN hb n) (Nat.le_refl _)))
        clear hb
        by_cases he : kids[k] = kids'[k]
        · have HR := Lib.hid (take_step hr.out hlt l2 he)
          rw [he] at c0 c1 c2
          rw [same_yes he, he] at hih
          clear he
          generalize hx : kids'[k] = x at *
          clear hx
          go_wp2
          go_region_with (first | (go_at_call 9; refine (hih.out 1).mono ?_; rintro e w1 ⟨rfl, hb1⟩))
          all_goals go_wp2
          all_goals exact ⟨⟨k + 1, by omega, by go_num, HR.out, (below_drewN HB.out 1).trans (hb1.mono (below_drewN HB.out 1).size)⟩, by simp [intOf]; omega⟩
        · have HR := Lib.hid (ne_at hlt l2 he)
          rw [same_no he] at hih
          clear he
          generalize hx : kids[k] = x at *
          clear hx
          generalize hx : kids'[k] = y at *
          clear hx
          go_wp2
          go_region_with (first | (go_at_call 9; refine (hih.out 1).mono ?_; rintro e w1 ⟨rfl, hb1⟩))
          all_goals go_wp2
          all_goals go_ret
          all_goals refine ⟨?_, (below_drewN HB.out 1).trans (hb1.mono (below_drewN HB.out 1).size)⟩
          all_goals rw [same_no HR.out]
          all_goals rfl
      · have HR := Lib.hid (take_end hr.out hlt HE.out)
        go_wp2
        go_ret
        refine ⟨?_, HB.out⟩
        rw [same_yes HR.out]
        rfl
  · have hl' : ¬ ((kids.length : Int) = kids'.length) := by omega
    go_enter Try.func24, Try.ntmps24
    go_wp2
    go_ret
    refine ⟨?_, Below.refl _ _⟩
    rw [same_no (fun h => hl (by rw [h]))]
    rfl

end Go.Proofs.Ytbcgkpkkhinkcaa
