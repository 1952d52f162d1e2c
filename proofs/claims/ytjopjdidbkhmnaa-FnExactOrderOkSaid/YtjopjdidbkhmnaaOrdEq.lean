/-
  What is proved: metrics, notes, paces and heads of orders are held against each other field by field; slices.Equal tells of two lists of metrics, and of two lists of notes, whether they are the same; the laws' eqMetricS and eqNoteS answer true of two that are.
-/
import Derived.Test.YtjopjdidbkhmnaaOrdP
import Derived.Test.YtjopjdidbkhmnaaBx
namespace Go.Proofs.Ytjopjdidbkhmnaa
open Go Go.RowKit

noncomputable def sameO {α : Type} (a b : α) : Bool := @decide (a = b) (Classical.propDecidable _)
theorem sameO_yes {α : Type} {a b : α} (h : a = b) : sameO a b = true := by simp [sameO, h]
theorem sameO_no {α : Type} {a b : α} (h : ¬ a = b) : sameO a b = false := by simp [sameO, h]
theorem below_drewO {B : Nat} {a w : World} (h : Below B a w) (n : Nat) : Below B a (w.drewN n) := h.trans ⟨rfl, rfl, rfl, Nat.le_refl _, fun _ _ => rfl⟩

theorem drewO_drew (w : World) (a b : Nat) : (w.drewN a).drewN b = w.drewN (a + b) := by simp [World.drewN, Nat.add_assoc]

theorem takeO_step {α : Type} {xs ys : List α} {k : Nat} (h : xs.take k = ys.take k) (h1 : k < xs.length) (h2 : k < ys.length) (he : xs[k] = ys[k]) : xs.take (k + 1) = ys.take (k + 1) := by
  rw [List.take_succ_eq_append_getElem h1, List.take_succ_eq_append_getElem h2, h, he]
theorem takeO_end {α : Type} {xs ys : List α} {k : Nat} (h : xs.take k = ys.take k) (h1 : ¬ k < xs.length) (hl : xs.length = ys.length) : xs = ys := by
  rwa [List.take_of_length_le (by omega), List.take_of_length_le (by omega)] at h
theorem neO_at {α : Type} {xs ys : List α} {k : Nat} (h1 : k < xs.length) (h2 : k < ys.length) (he : ¬ xs[k] = ys[k]) : ¬ xs = ys := fun e => by
  subst e; exact he rfl

theorem toList_iff {x y : ByteArray} : x.toList = y.toList ↔ x = y := by
  constructor
  · intro h
    rw [ByteArray.toList_eq, ByteArray.toList_eq] at h
    exact ByteArray.ext (Array.toList_inj.1 h)
  · rintro rfl; rfl

/-- An order's head: all of it but its two lists. -/
structure Head where
  name : ByteArray
  target : ByteArray
  low : Int
  high : Int
  pace : Pac


set_option maxHeartbeats 1000000 in
theorem neq_met (x y : Met) (w : World) : (binOp .neq 27 (.agg #[.string x.name, .int .i64 x.kind, .int .i64 x.goal]) (.agg #[.string y.name, .int .i64 y.kind, .int .i64 y.goal])).run Try.prog w = .ok (.bool (!sameO x y)) w := by
  have u3 := Try.underlying3
  have a3 := Try.isAgg3
  have z3 := Try.sizeOf3
  have u9 := Try.underlying9
  have a9 := Try.isAgg9
  have z9 := Try.sizeOf9
  have hS : Try.prog.underlying 27 = some (.struct (Try.prog.fieldsOf 27)) := by kernel_rfl
  have hp : Try.prog.stoodInHeld 27 = false := by kernel_rfl
  rw [run_neq_struct, show (10000 : Nat) = 9999 + 1 from rfl, run_equalIn_agg w 9999 27 _ _ hS hp]
  simp only [Program.fieldsOf, Try.underlying27]
  go_simp
  by_cases h : x = y
  · rw [sameO_yes h]; subst h; simp
  · rw [sameO_no h]
    by_cases h0 : x.name = y.name
    case neg => simp [toList_iff, h0]
    by_cases h1 : x.kind = y.kind
    case neg => simp [h1, h0]
    by_cases h2 : x.goal = y.goal
    case neg => simp [h2, h0, h1]
    exact absurd (by cases x; cases y; simp_all) h


set_option maxHeartbeats 1000000 in
theorem neq_not (x y : Not) (w : World) : (binOp .neq 64 (.agg #[.string x.key, .string x.text]) (.agg #[.string y.key, .string y.text])).run Try.prog w = .ok (.bool (!sameO x y)) w := by
  have u9 := Try.underlying9
  have a9 := Try.isAgg9
  have z9 := Try.sizeOf9
  have hS : Try.prog.underlying 64 = some (.struct (Try.prog.fieldsOf 64)) := by kernel_rfl
  have hp : Try.prog.stoodInHeld 64 = false := by kernel_rfl
  rw [run_neq_struct, show (10000 : Nat) = 9999 + 1 from rfl, run_equalIn_agg w 9999 64 _ _ hS hp]
  simp only [Program.fieldsOf, Try.underlying64]
  go_simp
  by_cases h : x = y
  · rw [sameO_yes h]; subst h; simp
  · rw [sameO_no h]
    by_cases h0 : x.key = y.key
    case neg => simp [toList_iff, h0]
    by_cases h1 : x.text = y.text
    case neg => simp [toList_iff, h1, h0]
    exact absurd (by cases x; cases y; simp_all) h


set_option maxHeartbeats 1000000 in
theorem neq_pac (x y : Pac) (w : World) : (binOp .neq 33 (.agg #[.int .i64 x.up, .int .i64 x.down, .int .i64 x.ups, .int .i64 x.downs]) (.agg #[.int .i64 y.up, .int .i64 y.down, .int .i64 y.ups, .int .i64 y.downs])).run Try.prog w = .ok (.bool (!sameO x y)) w := by
  have u3 := Try.underlying3
  have a3 := Try.isAgg3
  have z3 := Try.sizeOf3
  have hS : Try.prog.underlying 33 = some (.struct (Try.prog.fieldsOf 33)) := by kernel_rfl
  have hp : Try.prog.stoodInHeld 33 = false := by kernel_rfl
  rw [run_neq_struct, show (10000 : Nat) = 9999 + 1 from rfl, run_equalIn_agg w 9999 33 _ _ hS hp]
  simp only [Program.fieldsOf, Try.underlying33]
  go_simp
  by_cases h : x = y
  · rw [sameO_yes h]; subst h; simp
  · rw [sameO_no h]
    by_cases h0 : x.up = y.up
    case neg => simp [h0]
    by_cases h1 : x.down = y.down
    case neg => simp [h1, h0]
    by_cases h2 : x.ups = y.ups
    case neg => simp [h2, h0, h1]
    by_cases h3 : x.downs = y.downs
    case neg => simp [h3, h0, h1, h2]
    exact absurd (by cases x; cases y; simp_all) h


set_option maxHeartbeats 1000000 in
theorem eql_head (x y : Head) (w : World) : (binOp .eql 66 (.agg #[.string x.name, .string x.target, .int .i64 x.low, .int .i64 x.high, .int .i64 x.pace.up, .int .i64 x.pace.down, .int .i64 x.pace.ups, .int .i64 x.pace.downs]) (.agg #[.string y.name, .string y.target, .int .i64 y.low, .int .i64 y.high, .int .i64 y.pace.up, .int .i64 y.pace.down, .int .i64 y.pace.ups, .int .i64 y.pace.downs])).run Try.prog w = .ok (.bool (sameO x y)) w := by
  have u3 := Try.underlying3
  have a3 := Try.isAgg3
  have z3 := Try.sizeOf3
  have u9 := Try.underlying9
  have a9 := Try.isAgg9
  have z9 := Try.sizeOf9
  have u33 := Try.underlying33
  have a33 := Try.isAgg33
  have z33 := Try.sizeOf33
  have hS' : Try.prog.underlying 33 = some (.struct (Try.prog.fieldsOf 33)) := by kernel_rfl
  have hp' : Try.prog.stoodInHeld 33 = false := by kernel_rfl
  have hS : Try.prog.underlying 66 = some (.struct (Try.prog.fieldsOf 66)) := by kernel_rfl
  have hp : Try.prog.stoodInHeld 66 = false := by kernel_rfl
  rw [run_eql_struct, show (10000 : Nat) = 9999 + 1 from rfl, run_equalIn_agg w 9999 66 _ _ hS hp]
  simp only [Program.fieldsOf, Try.underlying66]
  go_simp
  by_cases h : x = y
  · rw [sameO_yes h]; subst h; simp
  · rw [sameO_no h]
    by_cases h0 : x.name = y.name
    case neg => simp [toList_iff, h0]
    by_cases h1 : x.target = y.target
    case neg => simp [toList_iff, h1, h0]
    by_cases h2 : x.low = y.low
    case neg => simp [h2, h0, h1]
    by_cases h3 : x.high = y.high
    case neg => simp [h3, h0, h1, h2]
    by_cases h4 : x.pace.up = y.pace.up
    case neg => simp [h4, h0, h1, h2, h3]
    by_cases h5 : x.pace.down = y.pace.down
    case neg => simp [h5, h0, h1, h2, h3, h4]
    by_cases h6 : x.pace.ups = y.pace.ups
    case neg => simp [h6, h0, h1, h2, h3, h4, h5]
    by_cases h7 : x.pace.downs = y.pace.downs
    case neg => simp [h7, h0, h1, h2, h3, h4, h5, h6]
    exact absurd (by obtain ⟨_, _, _, _, ⟨_, _, _, _⟩⟩ := x; obtain ⟨_, _, _, _, ⟨_, _, _, _⟩⟩ := y; simp_all) h


set_option maxHeartbeats 1000000 in
theorem equal_met {v v' : Value} {xs ys : List Met} {F F' : List Nat} (w : World) (hs : MetsAt w v xs F) (hs' : MetsAt w v' ys F') :
    Calls Try.prog 43 #[v, v'] w fun e w' => e = .returned (.bool (sameO xs ys)) ∧ ∃ q, w' = w.drewN q := by
  obtain ⟨o, cap, b, off, rfl, hlc, hcm, ho, -, hcell, -⟩ := hs
  obtain ⟨o', cap', b', off', rfl, hlc', hcm', ho', -, hcell', -⟩ := hs'
  have HC := Lib.hid hcell
  have HO := Lib.hid ho
  have HC' := Lib.hid hcell'
  have HO' := Lib.hid ho'
  clear hcell ho hcell' ho'
  unfold maxLen at hcm hcm'
  by_cases hl : xs.length = ys.length
  · have HE := Lib.hid hl
    rw [← hl]
    clear hl
    rw [← HE.out] at hlc'
    go_enter Try.func43, Try.ntmps43
    go_wp2
    go_loopw [13] (fun i wr => ∃ k : Nat, k ≤ xs.length ∧ i = .int .i64 k ∧ Hid (xs.take k = ys.take k) ∧ ∃ q, wr = w.drewN q) (fun i _ => xs.length - (intOf i).toNat)
    case atStart => exact ⟨0, Nat.zero_le _, rfl, rfl, 0, rfl⟩
    case round =>
      obtain ⟨k, hk, rfl, hr, hq⟩ := hrel
      have HQ := Lib.hid hq
      have hb : Below w.heap.size w wr := by obtain ⟨q, rfl⟩ := hq; exact below_drewO (Below.refl _ _) q
      clear hq
      by_cases hlt : k < xs.length
      · have l2 : k < ys.length := by rw [← HE.out]; exact hlt
        have c0 : wr.cell? ⟨b, off + k * 3, none⟩ = some (.string xs[k].name) := by
          have := (HC.out k hlt).2 0 (by decide)
          rw [hb.cell (by exact World.block_lt_of_cell? _ _ this)]; exact this
        have c1 : wr.cell? ⟨b, off + k * 3 + 1, none⟩ = some (.int .i64 xs[k].kind) := by
          have := (HC.out k hlt).2 1 (by decide)
          rw [hb.cell (by exact World.block_lt_of_cell? _ _ this)]; exact this
        have c2 : wr.cell? ⟨b, off + k * 3 + 2, none⟩ = some (.int .i64 xs[k].goal) := by
          have := (HC.out k hlt).2 2 (by decide)
          rw [hb.cell (by exact World.block_lt_of_cell? _ _ this)]; exact this
        have d0 : wr.cell? ⟨b', off' + k * 3, none⟩ = some (.string ys[k].name) := by
          have := (HC'.out k l2).2 0 (by decide)
          rw [hb.cell (by exact World.block_lt_of_cell? _ _ this)]; exact this
        have d1 : wr.cell? ⟨b', off' + k * 3 + 1, none⟩ = some (.int .i64 ys[k].kind) := by
          have := (HC'.out k l2).2 1 (by decide)
          rw [hb.cell (by exact World.block_lt_of_cell? _ _ this)]; exact this
        have d2 : wr.cell? ⟨b', off' + k * 3 + 2, none⟩ = some (.int .i64 ys[k].goal) := by
          have := (HC'.out k l2).2 2 (by decide)
          rw [hb.cell (by exact World.block_lt_of_cell? _ _ this)]; exact this
        have ho := HO.out (by omega)
        have ho' := HO'.out (by omega)
        subst ho ho'
        clear hb
        have hne := neq_met xs[k] ys[k]
        have hgd := fun op a b' (x y : Array Value) w => run_eqGuard_agg (P := Try.prog) w op 27 a b' x y (by kernel_rfl)
        by_cases he : xs[k] = ys[k]
        · have HR := Lib.hid (takeO_step hr.out hlt l2 he)
          rw [sameO_yes he] at hne
          clear he
          generalize hx : xs[k] = x at *
          generalize hy : ys[k] = y at *
          clear hx hy
          go_wp2
          go_quiet (fail)
          go_wp2
          exact ⟨⟨k + 1, by omega, by go_num, HR.out, by obtain ⟨q, rfl⟩ := HQ.out; exact ⟨_, drewO_drew _ _ _⟩⟩, by simp [intOf]; omega⟩
        · have HR := Lib.hid (neO_at hlt l2 he)
          rw [sameO_no he] at hne
          clear he
          generalize hx : xs[k] = x at *
          generalize hy : ys[k] = y at *
          clear hx hy
          go_wp2
          go_quiet (fail)
          go_wp2
          go_ret
          refine ⟨?_, by obtain ⟨q, rfl⟩ := HQ.out; exact ⟨_, drewO_drew _ _ _⟩⟩
          rw [sameO_no HR.out]
          rfl
      · have HR := Lib.hid (takeO_end hr.out hlt HE.out)
        go_wp2
        go_ret
        refine ⟨?_, HQ.out⟩
        rw [sameO_yes HR.out]
        rfl
  · have hl' : ¬ ((xs.length : Int) = ys.length) := by omega
    go_enter Try.func43, Try.ntmps43
    go_wp2
    go_ret
    refine ⟨?_, 0, rfl⟩
    rw [sameO_no (fun h => hl (by rw [h]))]
    rfl


set_option maxHeartbeats 1000000 in
theorem equal_not {v v' : Value} {xs ys : List Not} {F F' : List Nat} (w : World) (hs : NotsAt w v xs F) (hs' : NotsAt w v' ys F') :
    Calls Try.prog 44 #[v, v'] w fun e w' => e = .returned (.bool (sameO xs ys)) ∧ ∃ q, w' = w.drewN q := by
  obtain ⟨o, cap, b, off, rfl, hlc, hcm, ho, -, hcell, -⟩ := hs
  obtain ⟨o', cap', b', off', rfl, hlc', hcm', ho', -, hcell', -⟩ := hs'
  have HC := Lib.hid hcell
  have HO := Lib.hid ho
  have HC' := Lib.hid hcell'
  have HO' := Lib.hid ho'
  clear hcell ho hcell' ho'
  unfold maxLen at hcm hcm'
  by_cases hl : xs.length = ys.length
  · have HE := Lib.hid hl
    rw [← hl]
    clear hl
    rw [← HE.out] at hlc'
    go_enter Try.func44, Try.ntmps44
    go_wp2
    go_loopw [13] (fun i wr => ∃ k : Nat, k ≤ xs.length ∧ i = .int .i64 k ∧ Hid (xs.take k = ys.take k) ∧ ∃ q, wr = w.drewN q) (fun i _ => xs.length - (intOf i).toNat)
    case atStart => exact ⟨0, Nat.zero_le _, rfl, rfl, 0, rfl⟩
    case round =>
      obtain ⟨k, hk, rfl, hr, hq⟩ := hrel
      have HQ := Lib.hid hq
      have hb : Below w.heap.size w wr := by obtain ⟨q, rfl⟩ := hq; exact below_drewO (Below.refl _ _) q
      clear hq
      by_cases hlt : k < xs.length
      · have l2 : k < ys.length := by rw [← HE.out]; exact hlt
        have c0 : wr.cell? ⟨b, off + k * 2, none⟩ = some (.string xs[k].key) := by
          have := (HC.out k hlt).2 0 (by decide)
          rw [hb.cell (by exact World.block_lt_of_cell? _ _ this)]; exact this
        have c1 : wr.cell? ⟨b, off + k * 2 + 1, none⟩ = some (.string xs[k].text) := by
          have := (HC.out k hlt).2 1 (by decide)
          rw [hb.cell (by exact World.block_lt_of_cell? _ _ this)]; exact this
        have d0 : wr.cell? ⟨b', off' + k * 2, none⟩ = some (.string ys[k].key) := by
          have := (HC'.out k l2).2 0 (by decide)
          rw [hb.cell (by exact World.block_lt_of_cell? _ _ this)]; exact this
        have d1 : wr.cell? ⟨b', off' + k * 2 + 1, none⟩ = some (.string ys[k].text) := by
          have := (HC'.out k l2).2 1 (by decide)
          rw [hb.cell (by exact World.block_lt_of_cell? _ _ this)]; exact this
        have ho := HO.out (by omega)
        have ho' := HO'.out (by omega)
        subst ho ho'
        clear hb
        have hne := neq_not xs[k] ys[k]
        have hgd := fun op a b' (x y : Array Value) w => run_eqGuard_agg (P := Try.prog) w op 64 a b' x y (by kernel_rfl)
        by_cases he : xs[k] = ys[k]
        · have HR := Lib.hid (takeO_step hr.out hlt l2 he)
          rw [sameO_yes he] at hne
          clear he
          generalize hx : xs[k] = x at *
          generalize hy : ys[k] = y at *
          clear hx hy
          go_wp2
          go_quiet (fail)
          go_wp2
          exact ⟨⟨k + 1, by omega, by go_num, HR.out, by obtain ⟨q, rfl⟩ := HQ.out; exact ⟨_, drewO_drew _ _ _⟩⟩, by simp [intOf]; omega⟩
        · have HR := Lib.hid (neO_at hlt l2 he)
          rw [sameO_no he] at hne
          clear he
          generalize hx : xs[k] = x at *
          generalize hy : ys[k] = y at *
          clear hx hy
          go_wp2
          go_quiet (fail)
          go_wp2
          go_ret
          refine ⟨?_, by obtain ⟨q, rfl⟩ := HQ.out; exact ⟨_, drewO_drew _ _ _⟩⟩
          rw [sameO_no HR.out]
          rfl
      · have HR := Lib.hid (takeO_end hr.out hlt HE.out)
        go_wp2
        go_ret
        refine ⟨?_, HQ.out⟩
        rw [sameO_yes HR.out]
        rfl
  · have hl' : ¬ ((xs.length : Int) = ys.length) := by omega
    go_enter Try.func44, Try.ntmps44
    go_wp2
    go_ret
    refine ⟨?_, 0, rfl⟩
    rw [sameO_no (fun h => hl (by rw [h]))]
    rfl

end Go.Proofs.Ytjopjdidbkhmnaa
