/-
  What is proved: the laws' eqMetricS, eqNoteS and eqOrder answer true of two that are the same.
-/
import Derived.Test.YtjopjdidbkhmnaaOrdP
import Derived.Test.YtjopjdidbkhmnaaTreeEq
import Derived.Test.YtjopjdidbkhmnaaMet
import Derived.Test.YtjopjdidbkhmnaaBx
namespace Go.Proofs.Ytjopjdidbkhmnaa
open Go Go.RowKit


set_option maxHeartbeats 1000000 in
theorem eq_met (x : Met) (w : World) : Calls Try.prog 55 #[.agg #[.string x.name, .int .i64 x.kind, .int .i64 x.goal], .agg #[.string x.name, .int .i64 x.kind, .int .i64 x.goal]] w fun e w' => e = .returned (.bool true) ∧ Below w.heap.size w w' := by
  have HB : Hid (∀ o o', Below w.heap.size w ((w.alloc o).alloc o')) := fun o o' => ((Below.refl _ w).alloc (Nat.le_refl _) o).alloc (by simp) o'
  go_enter Try.func55, Try.ntmps55
  go_wp2
  go_ret
  exact ⟨rfl, HB.out _ _⟩

set_option maxHeartbeats 1000000 in
theorem eq_mets {v v' : Value} {xs : List Met} {F F' : List Nat} (w : World) (hs : MetsAt w v xs F) (hs' : MetsAt w v' xs F') :
    Calls Try.prog 40 #[v, v'] w fun e w' => e = .returned (.bool true) ∧ Below w.heap.size w w' := by
  obtain ⟨o, cap, b, off, rfl, hlc, hcm, ho, -, hcell, -⟩ := hs
  obtain ⟨o', cap', b', off', rfl, hlc', hcm', ho', -, hcell', -⟩ := hs'
  have HC := Lib.hid hcell
  have HO := Lib.hid ho
  have HC' := Lib.hid hcell'
  have HO' := Lib.hid ho'
  clear hcell ho hcell' ho'
  unfold maxLen at hcm hcm'
  go_enter Try.func40, Try.ntmps40
  go_wp2
  go_loopw [5] (fun i wr => ∃ k : Nat, k ≤ xs.length ∧ i = .int .i64 k ∧ Below w.heap.size w wr) (fun i _ => xs.length - (intOf i).toNat)
  case atStart => exact ⟨0, Nat.zero_le _, rfl, Below.refl _ _⟩
  case round =>
    obtain ⟨k, hk, rfl, hb⟩ := hrel
    have HB := Lib.hid hb
    by_cases hlt : k < xs.length
    · have ho := HO.out (by omega)
      have ho' := HO'.out (by omega)
      subst ho ho'
      have c0 : wr.cell? ⟨b, off + k * 3, none⟩ = some (.string xs[k].name) := by
        have := (HC.out k hlt).2 0 (by decide)
        rw [hb.cell (by exact World.block_lt_of_cell? _ _ this)]; exact this
      have c1 : wr.cell? ⟨b, off + k * 3 + 1, none⟩ = some (.int .i64 xs[k].kind) := by
        have := (HC.out k hlt).2 1 (by decide)
        rw [hb.cell (by exact World.block_lt_of_cell? _ _ this)]; exact this
      have c2 : wr.cell? ⟨b, off + k * 3 + 2, none⟩ = some (.int .i64 xs[k].goal) := by
        have := (HC.out k hlt).2 2 (by decide)
        rw [hb.cell (by exact World.block_lt_of_cell? _ _ this)]; exact this
      have d0 : wr.cell? ⟨b', off' + k * 3, none⟩ = some (.string xs[k].name) := by
        have := (HC'.out k hlt).2 0 (by decide)
        rw [hb.cell (by exact World.block_lt_of_cell? _ _ this)]; exact this
      have d1 : wr.cell? ⟨b', off' + k * 3 + 1, none⟩ = some (.int .i64 xs[k].kind) := by
        have := (HC'.out k hlt).2 1 (by decide)
        rw [hb.cell (by exact World.block_lt_of_cell? _ _ this)]; exact this
      have d2 : wr.cell? ⟨b', off' + k * 3 + 2, none⟩ = some (.int .i64 xs[k].goal) := by
        have := (HC'.out k hlt).2 2 (by decide)
        rw [hb.cell (by exact World.block_lt_of_cell? _ _ this)]; exact this
      clear hb
      generalize xs[k] = x at *
      go_wp2
      go_region_with (first | (go_at_call 55; refine (eq_met _ _).mono ?_; rintro e w1 ⟨rfl, hb1⟩))
      all_goals go_wp2
      all_goals exact ⟨⟨k + 1, by omega, by go_num, (below_drewN HB.out 1).trans (hb1.mono (below_drewN HB.out 1).size)⟩, by simp [intOf]; omega⟩
    · go_wp2
      go_ret
      exact ⟨rfl, HB.out⟩


set_option maxHeartbeats 1000000 in
theorem eq_not (x : Not) (w : World) : Calls Try.prog 56 #[.agg #[.string x.key, .string x.text], .agg #[.string x.key, .string x.text]] w fun e w' => e = .returned (.bool true) ∧ Below w.heap.size w w' := by
  have HB : Hid (∀ o o', Below w.heap.size w ((w.alloc o).alloc o')) := fun o o' => ((Below.refl _ w).alloc (Nat.le_refl _) o).alloc (by simp) o'
  go_enter Try.func56, Try.ntmps56
  go_wp2
  go_ret
  exact ⟨rfl, HB.out _ _⟩

set_option maxHeartbeats 1000000 in
theorem eq_nots {v v' : Value} {xs : List Not} {F F' : List Nat} (w : World) (hs : NotsAt w v xs F) (hs' : NotsAt w v' xs F') :
    Calls Try.prog 41 #[v, v'] w fun e w' => e = .returned (.bool true) ∧ Below w.heap.size w w' := by
  obtain ⟨o, cap, b, off, rfl, hlc, hcm, ho, -, hcell, -⟩ := hs
  obtain ⟨o', cap', b', off', rfl, hlc', hcm', ho', -, hcell', -⟩ := hs'
  have HC := Lib.hid hcell
  have HO := Lib.hid ho
  have HC' := Lib.hid hcell'
  have HO' := Lib.hid ho'
  clear hcell ho hcell' ho'
  unfold maxLen at hcm hcm'
  go_enter Try.func41, Try.ntmps41
  go_wp2
  go_loopw [5] (fun i wr => ∃ k : Nat, k ≤ xs.length ∧ i = .int .i64 k ∧ Below w.heap.size w wr) (fun i _ => xs.length - (intOf i).toNat)
  case atStart => exact ⟨0, Nat.zero_le _, rfl, Below.refl _ _⟩
  case round =>
    obtain ⟨k, hk, rfl, hb⟩ := hrel
    have HB := Lib.hid hb
    by_cases hlt : k < xs.length
    · have ho := HO.out (by omega)
      have ho' := HO'.out (by omega)
      subst ho ho'
      have c0 : wr.cell? ⟨b, off + k * 2, none⟩ = some (.string xs[k].key) := by
        have := (HC.out k hlt).2 0 (by decide)
        rw [hb.cell (by exact World.block_lt_of_cell? _ _ this)]; exact this
      have c1 : wr.cell? ⟨b, off + k * 2 + 1, none⟩ = some (.string xs[k].text) := by
        have := (HC.out k hlt).2 1 (by decide)
        rw [hb.cell (by exact World.block_lt_of_cell? _ _ this)]; exact this
      have d0 : wr.cell? ⟨b', off' + k * 2, none⟩ = some (.string xs[k].key) := by
        have := (HC'.out k hlt).2 0 (by decide)
        rw [hb.cell (by exact World.block_lt_of_cell? _ _ this)]; exact this
      have d1 : wr.cell? ⟨b', off' + k * 2 + 1, none⟩ = some (.string xs[k].text) := by
        have := (HC'.out k hlt).2 1 (by decide)
        rw [hb.cell (by exact World.block_lt_of_cell? _ _ this)]; exact this
      clear hb
      generalize xs[k] = x at *
      go_wp2
      go_region_with (first | (go_at_call 56; refine (eq_not _ _).mono ?_; rintro e w1 ⟨rfl, hb1⟩))
      all_goals go_wp2
      all_goals exact ⟨⟨k + 1, by omega, by go_num, (below_drewN HB.out 1).trans (hb1.mono (below_drewN HB.out 1).size)⟩, by simp [intOf]; omega⟩
    · go_wp2
      go_ret
      exact ⟨rfl, HB.out⟩


set_option maxHeartbeats 1000000 in
theorem eq_order {O : Ord} {mv nv mv' nv' : Value} {FM FN FM' FN' : List Nat} (w : World) (ho : OrdAt w O mv nv FM FN) (ho' : OrdAt w O mv' nv' FM' FN') :
    Calls Try.prog 25 #[.agg #[.string O.name, .string O.target, .int .i64 O.low, .int .i64 O.high, mv, .int .i64 O.pace.up, .int .i64 O.pace.down, .int .i64 O.pace.ups, .int .i64 O.pace.downs, nv], .agg #[.string O.name, .string O.target, .int .i64 O.low, .int .i64 O.high, mv', .int .i64 O.pace.up, .int .i64 O.pace.down, .int .i64 O.pace.ups, .int .i64 O.pace.downs, nv']] w fun e w' => e = .returned (.bool true) ∧ Below w.heap.size w w' := by
  have HX := Lib.hid ((Bx.start w #[.string O.name, .string O.target, .int .i64 O.low, .int .i64 O.high, mv, .int .i64 O.pace.up, .int .i64 O.pace.down, .int .i64 O.pace.ups, .int .i64 O.pace.downs, nv] 48).alloc (.cells #[.string O.name, .string O.target, .int .i64 O.low, .int .i64 O.high, mv', .int .i64 O.pace.up, .int .i64 O.pace.down, .int .i64 O.pace.ups, .int .i64 O.pace.downs, nv'] 48))
  have HY := Lib.hid ((Bx.start w #[.string O.name, .string O.target, .int .i64 O.low, .int .i64 O.high, mv, .int .i64 O.pace.up, .int .i64 O.pace.down, .int .i64 O.pace.ups, .int .i64 O.pace.downs, nv] 48).add #[.string O.name, .string O.target, .int .i64 O.low, .int .i64 O.high, mv', .int .i64 O.pace.up, .int .i64 O.pace.down, .int .i64 O.pace.ups, .int .i64 O.pace.downs, nv'] 48)
  have HM := Lib.hid fun wr (hb : Below w.heap.size w wr) => eq_mets wr (RowAt.stay ho.mets (by decide) hb (Nat.le_refl _)) (RowAt.stay ho'.mets (by decide) hb (Nat.le_refl _))
  have HN := Lib.hid fun wr (hb : Below w.heap.size w wr) => eq_nots wr (RowAt.stay ho.notes (by decide) hb (Nat.le_refl _)) (RowAt.stay ho'.notes (by decide) hb (Nat.le_refl _))
  obtain ⟨⟨o1, c1, rfl⟩, o2, c2, rfl⟩ := ho.slices
  obtain ⟨⟨o3, c3, rfl⟩, o4, c4, rfl⟩ := ho'.slices
  simp only [World.size_alloc] at HY
  clear ho ho'
  go_enter Try.func25, Try.ntmps25
  go_wp2_with (first
    | (go_at_call 40; refine (HM.out _ HX.out.below).mono ?_; rintro e w1 ⟨rfl, hb⟩
       replace HX := Lib.hid (HX.out.next hb); replace HY := Lib.hid (HY.out.next hb)
       have x5 := HX.out.cell 5; have x6 := HX.out.cell 6; have x7 := HX.out.cell 7; have x8 := HX.out.cell 8
       have y5 := HY.out.cell 5; have y6 := HY.out.cell 6; have y7 := HY.out.cell 7; have y8 := HY.out.cell 8
       clear hb)
    | (go_at_call 20; refine (eq_pace _ _ _ _ _).mono ?_; rintro e w2 ⟨rfl, hb⟩
       replace HX := Lib.hid (HX.out.next hb); replace HY := Lib.hid (HY.out.next hb)
       have x9 := HX.out.cell 9
       have y9 := HY.out.cell 9
       clear hb)
    | (go_at_call 41; refine (HN.out _ HX.out.below).mono ?_; rintro e w3 ⟨rfl, hb⟩
       replace HX := Lib.hid (HX.out.next hb)
       clear hb)
    | fail)
  go_ret
  exact ⟨rfl, HX.out.below⟩
end Go.Proofs.Ytjopjdidbkhmnaa
