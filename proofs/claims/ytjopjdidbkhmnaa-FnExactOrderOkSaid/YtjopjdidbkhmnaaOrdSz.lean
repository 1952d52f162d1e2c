/-
  What is proved: how much of a room the laws take metrics, notes and orders for: less what they hold, or -1 where that is more.
-/
import Derived.Test.YtjopjdidbkhmnaaOrdP
import Derived.Test.YtjopjdidbkhmnaaTreeSz
import Derived.Test.YtjopjdidbkhmnaaBx
namespace Go.Proofs.Ytjopjdidbkhmnaa
open Go Go.RowKit

def Met.sz (m : Met) : Nat := m.name.size
def Not.sz (m : Not) : Nat := m.key.size + m.text.size
def Ord.sz (o : Ord) : Nat := o.name.size + o.target.size + (o.mets.length + (o.mets.map Met.sz).sum) + (o.notes.length + (o.notes.map Not.sz).sum)

set_option maxHeartbeats 1000000 in
theorem sz_met (m : Met) (hm : m.ok) (r : Int) (h0 : 0 ≤ r) (h1 : r ≤ 1048576) (w : World) :
    Calls Try.prog 11 #[.agg #[.string m.name, .int .i64 m.kind, .int .i64 m.goal], .int .i64 r] w fun e w' => e = .returned (.int .i64 (left r m.sz)) ∧ Below w.heap.size w w' := by
  have HB : Hid (∀ o, Below w.heap.size w (w.alloc o)) := fun o => (Below.refl _ w).alloc (Nat.le_refl _) o
  have hn := hm.1
  unfold maxLen at hn
  clear hm
  unfold Met.sz
  generalize m.name = s at *
  by_cases h : (s.size : Int) ≤ r
  · rw [left_ok h]
    go_enter Try.func11, Try.ntmps11
    go_wp2
    go_ret
    exact ⟨rfl, HB.out _⟩
  · rw [left_no h]
    go_enter Try.func11, Try.ntmps11
    go_wp2
    go_ret
    exact ⟨rfl, HB.out _⟩

set_option maxHeartbeats 1000000 in
theorem sz_not (m : Not) (hm : m.ok) (r : Int) (h0 : 0 ≤ r) (h1 : r ≤ 1048576) (w : World) :
    Calls Try.prog 45 #[.agg #[.string m.key, .string m.text], .int .i64 r] w fun e w' => e = .returned (.int .i64 (left r m.sz)) ∧ Below w.heap.size w w' := by
  have HB : Hid (∀ o, Below w.heap.size w (w.alloc o)) := fun o => (Below.refl _ w).alloc (Nat.le_refl _) o
  have hn := hm.1
  have hn' := hm.2
  unfold maxLen at hn hn'
  clear hm
  unfold Not.sz
  generalize m.key = s at *
  generalize m.text = t at *
  by_cases h : (s.size : Int) ≤ r
  · by_cases h' : (t.size : Int) ≤ r - s.size
    · have e : left r (s.size + t.size) = r - s.size - t.size := by rw [left_ok (by omega)]; omega
      rw [e]
      clear e
      go_enter Try.func45, Try.ntmps45
      go_wp2
      go_ret
      exact ⟨rfl, HB.out _⟩
    · rw [left_no (by omega)]
      go_enter Try.func45, Try.ntmps45
      go_wp2
      go_ret
      exact ⟨rfl, HB.out _⟩
  · rw [left_no (by omega)]
    go_enter Try.func45, Try.ntmps45
    go_wp2
    go_ret
    exact ⟨rfl, HB.out _⟩


set_option maxHeartbeats 1000000 in
theorem sz_mets {v : Value} {xs : List Met} {F : List Nat} (w : World) (hs : MetsAt w v xs F) (r : Int) (h0 : 0 ≤ r) (h1 : r ≤ 1048576) :
    Calls Try.prog 32 #[v, .int .i64 r] w fun e w' => e = .returned (.int .i64 (left r (xs.length + (xs.map Met.sz).sum))) ∧ Below w.heap.size w w' := by
  obtain ⟨o, cap, b, off, rfl, hlc, hcm, ho, -, hcell, -⟩ := hs
  have HC := Lib.hid hcell
  have HO := Lib.hid ho
  clear hcell ho
  unfold maxLen at hcm
  by_cases hl : (xs.length : Int) ≤ r
  · go_enter Try.func32, Try.ntmps32
    go_wp2
    go_loopw [1, 5] (fun l i wr => ∃ k : Nat, k ≤ xs.length ∧ i = .int .i64 k ∧ l = .int .i64 (r - xs.length - ((xs.take k).map Met.sz).sum) ∧ (((xs.take k).map Met.sz).sum : Int) ≤ r - xs.length ∧ Below w.heap.size w wr) (fun _ i _ => xs.length - (intOf i).toNat)
    case atStart => exact ⟨0, Nat.zero_le _, rfl, by simp, by simp; omega, Below.refl _ _⟩
    case round =>
      obtain ⟨k, hk, rfl, rfl, hr, hb⟩ := hrel
      have HB := Lib.hid hb
      by_cases hlt : k < xs.length
      · have ho := HO.out (by omega)
        subst ho
        have c0 : wr.cell? ⟨b, off + k * 3, none⟩ = some (.string xs[k].name) := by
          have := (HC.out k hlt).2 0 (by decide)
          rw [hb.cell (by exact World.block_lt_of_cell? _ _ this)]; exact this
        have c1 : wr.cell? ⟨b, off + k * 3 + 1, none⟩ = some (.int .i64 xs[k].kind) := by
          have := (HC.out k hlt).2 1 (by decide)
          rw [hb.cell (by exact World.block_lt_of_cell? _ _ this)]; exact this
        have c2 : wr.cell? ⟨b, off + k * 3 + 2, none⟩ = some (.int .i64 xs[k].goal) := by
          have := (HC.out k hlt).2 2 (by decide)
          rw [hb.cell (by exact World.block_lt_of_cell? _ _ this)]; exact this
        clear hb
        have HS := Lib.hid (sum_take xs Met.sz k hlt)
        have HM := Lib.hid (sum_take_le xs Met.sz (k + 1))
        have hih := Lib.hid (sz_met xs[k] (HC.out k hlt).1)
        generalize hq : ((xs.take k).map Met.sz).sum = q at *
        generalize hx : xs[k] = x at *
        clear hx hq
        by_cases hn : (x.sz : Int) ≤ r - xs.length - q
        · have HQ := Lib.hid (left_ok hn)
          go_wp2_with (first | (go_at_call 11; refine (hih.out _ (by omega) (by omega) _).mono ?_; rintro e w1 ⟨rfl, hb1⟩; rw [HQ.out]) | fail)
          have g1 := HS.out
          exact ⟨⟨k + 1, by omega, by go_num, by rw [g1]; congr 1; omega, by rw [g1]; omega, HB.out.trans (hb1.mono HB.out.size)⟩, by simp [intOf]; omega⟩
        · have HQ := Lib.hid (left_no hn)
          go_wp2_with (first | (go_at_call 11; refine (hih.out _ (by omega) (by omega) _).mono ?_; rintro e w1 ⟨rfl, hb1⟩; rw [HQ.out]) | fail)
          have g1 := HS.out
          have g2 := HM.out
          go_ret
          refine ⟨?_, HB.out.trans (hb1.mono HB.out.size)⟩
          rw [left_no (by omega)]
          rfl
      · have e : xs.take k = xs := List.take_of_length_le (by omega)
        rw [e] at hr ⊢
        go_wp2
        go_ret
        refine ⟨?_, HB.out⟩
        rw [left_ok (by omega)]
        exact ret_int (by omega)
  · go_enter Try.func32, Try.ntmps32
    go_wp2
    go_ret
    refine ⟨?_, Below.refl _ _⟩
    rw [left_no (by omega)]
    rfl


set_option maxHeartbeats 1000000 in
theorem sz_nots {v : Value} {xs : List Not} {F : List Nat} (w : World) (hs : NotsAt w v xs F) (r : Int) (h0 : 0 ≤ r) (h1 : r ≤ 1048576) :
    Calls Try.prog 33 #[v, .int .i64 r] w fun e w' => e = .returned (.int .i64 (left r (xs.length + (xs.map Not.sz).sum))) ∧ Below w.heap.size w w' := by
  obtain ⟨o, cap, b, off, rfl, hlc, hcm, ho, -, hcell, -⟩ := hs
  have HC := Lib.hid hcell
  have HO := Lib.hid ho
  clear hcell ho
  unfold maxLen at hcm
  by_cases hl : (xs.length : Int) ≤ r
  · go_enter Try.func33, Try.ntmps33
    go_wp2
    go_loopw [1, 5] (fun l i wr => ∃ k : Nat, k ≤ xs.length ∧ i = .int .i64 k ∧ l = .int .i64 (r - xs.length - ((xs.take k).map Not.sz).sum) ∧ (((xs.take k).map Not.sz).sum : Int) ≤ r - xs.length ∧ Below w.heap.size w wr) (fun _ i _ => xs.length - (intOf i).toNat)
    case atStart => exact ⟨0, Nat.zero_le _, rfl, by simp, by simp; omega, Below.refl _ _⟩
    case round =>
      obtain ⟨k, hk, rfl, rfl, hr, hb⟩ := hrel
      have HB := Lib.hid hb
      by_cases hlt : k < xs.length
      · have ho := HO.out (by omega)
        subst ho
        have c0 : wr.cell? ⟨b, off + k * 2, none⟩ = some (.string xs[k].key) := by
          have := (HC.out k hlt).2 0 (by decide)
          rw [hb.cell (by exact World.block_lt_of_cell? _ _ this)]; exact this
        have c1 : wr.cell? ⟨b, off + k * 2 + 1, none⟩ = some (.string xs[k].text) := by
          have := (HC.out k hlt).2 1 (by decide)
          rw [hb.cell (by exact World.block_lt_of_cell? _ _ this)]; exact this
        clear hb
        have HS := Lib.hid (sum_take xs Not.sz k hlt)
        have HM := Lib.hid (sum_take_le xs Not.sz (k + 1))
        have hih := Lib.hid (sz_not xs[k] (HC.out k hlt).1)
        generalize hq : ((xs.take k).map Not.sz).sum = q at *
        generalize hx : xs[k] = x at *
        clear hx hq
        by_cases hn : (x.sz : Int) ≤ r - xs.length - q
        · have HQ := Lib.hid (left_ok hn)
          go_wp2_with (first | (go_at_call 45; refine (hih.out _ (by omega) (by omega) _).mono ?_; rintro e w1 ⟨rfl, hb1⟩; rw [HQ.out]) | fail)
          have g1 := HS.out
          exact ⟨⟨k + 1, by omega, by go_num, by rw [g1]; congr 1; omega, by rw [g1]; omega, HB.out.trans (hb1.mono HB.out.size)⟩, by simp [intOf]; omega⟩
        · have HQ := Lib.hid (left_no hn)
          go_wp2_with (first | (go_at_call 45; refine (hih.out _ (by omega) (by omega) _).mono ?_; rintro e w1 ⟨rfl, hb1⟩; rw [HQ.out]) | fail)
          have g1 := HS.out
          have g2 := HM.out
          go_ret
          refine ⟨?_, HB.out.trans (hb1.mono HB.out.size)⟩
          rw [left_no (by omega)]
          rfl
      · have e : xs.take k = xs := List.take_of_length_le (by omega)
        rw [e] at hr ⊢
        go_wp2
        go_ret
        refine ⟨?_, HB.out⟩
        rw [left_ok (by omega)]
        exact ret_int (by omega)
  · go_enter Try.func33, Try.ntmps33
    go_wp2
    go_ret
    refine ⟨?_, Below.refl _ _⟩
    rw [left_no (by omega)]
    rfl


set_option maxHeartbeats 1000000 in
theorem sz_order {O : Ord} {mv nv : Value} {FM FN : List Nat} (w : World) (ho : OrdAt w O mv nv FM FN) (r : Int) (h0 : 0 ≤ r) (h1 : r ≤ 1048576) :
    Calls Try.prog 21 #[.agg #[.string O.name, .string O.target, .int .i64 O.low, .int .i64 O.high, mv, .int .i64 O.pace.up, .int .i64 O.pace.down, .int .i64 O.pace.ups, .int .i64 O.pace.downs, nv], .int .i64 r] w fun e w' => e = .returned (.int .i64 (left r O.sz)) ∧ Below w.heap.size w w' := by
  have HX := Lib.hid (Bx.start w #[.string O.name, .string O.target, .int .i64 O.low, .int .i64 O.high, mv, .int .i64 O.pace.up, .int .i64 O.pace.down, .int .i64 O.pace.ups, .int .i64 O.pace.downs, nv] 42)
  have hn := ho.name
  have ht := ho.target
  unfold maxLen at hn ht
  have HM := Lib.hid fun wr (hb : Below w.heap.size w wr) => sz_mets wr (RowAt.stay ho.mets (by decide) hb (Nat.le_refl _))
  have HN := Lib.hid fun wr (hb : Below w.heap.size w wr) => sz_nots wr (RowAt.stay ho.notes (by decide) hb (Nat.le_refl _))
  obtain ⟨⟨o1, c1, rfl⟩, o2, c2, rfl⟩ := ho.slices
  clear ho
  unfold Ord.sz
  generalize O.mets.length + (O.mets.map Met.sz).sum = m at *
  generalize O.notes.length + (O.notes.map Not.sz).sum = n at *
  generalize O.name = s at *
  generalize O.target = t at *
  generalize O.low = x2 at *
  generalize O.high = x3 at *
  generalize O.pace.up = x5 at *
  generalize O.pace.down = x6 at *
  generalize O.pace.ups = x7 at *
  generalize O.pace.downs = x8 at *
  generalize O.mets.length = l4 at *
  generalize O.notes.length = l9 at *
  by_cases h2 : (s.size : Int) ≤ r
  case neg =>
    rw [left_no (by omega)]
    go_enter Try.func21, Try.ntmps21
    go_wp2
    go_ret
    exact ⟨rfl, HX.out.below⟩
  by_cases h3 : (t.size : Int) ≤ r - s.size
  case neg =>
    rw [left_no (by omega)]
    go_enter Try.func21, Try.ntmps21
    go_wp2
    go_ret
    exact ⟨rfl, HX.out.below⟩
  by_cases h4 : (m : Int) ≤ r - s.size - t.size
  case neg =>
    have H4 := Lib.hid (left_no h4)
    rw [left_no (by omega)]
    go_enter Try.func21, Try.ntmps21
    go_wp2_with (first
      | (go_at_call 32; refine (HM.out _ HX.out.below _ (by omega) (by omega)).mono ?_; rintro e w1 ⟨rfl, hb1⟩; rw [H4.out]; replace HX := Lib.hid (HX.out.next hb1); clear hb1)
      | fail)
    go_ret
    exact ⟨rfl, HX.out.below⟩
  have H4 := Lib.hid (left_ok h4)
  by_cases h5 : (n : Int) ≤ r - s.size - t.size - m
  · have H5 := Lib.hid (left_ok h5)
    have e : left r (s.size + t.size + m + n) = r - s.size - t.size - m - n := by rw [left_ok (by omega)]; omega
    rw [e]
    clear e
    go_enter Try.func21, Try.ntmps21
    go_wp2_with (first
      | (go_at_call 32; refine (HM.out _ HX.out.below _ (by omega) (by omega)).mono ?_; rintro e w1 ⟨rfl, hb1⟩; rw [H4.out]; replace HX := Lib.hid (HX.out.next hb1); clear hb1; have c9 := HX.out.cell 9)
      | (go_at_call 33; refine (HN.out _ HX.out.below _ (by omega) (by omega)).mono ?_; rintro e w1 ⟨rfl, hb1⟩; rw [H5.out]; replace HX := Lib.hid (HX.out.next hb1); clear hb1)
      | fail)
    go_ret
    exact ⟨rfl, HX.out.below⟩
  · have H5 := Lib.hid (left_no h5)
    rw [left_no (by omega)]
    go_enter Try.func21, Try.ntmps21
    go_wp2_with (first
      | (go_at_call 32; refine (HM.out _ HX.out.below _ (by omega) (by omega)).mono ?_; rintro e w1 ⟨rfl, hb1⟩; rw [H4.out]; replace HX := Lib.hid (HX.out.next hb1); clear hb1; have c9 := HX.out.cell 9)
      | (go_at_call 33; refine (HN.out _ HX.out.below _ (by omega) (by omega)).mono ?_; rintro e w1 ⟨rfl, hb1⟩; rw [H5.out]; replace HX := Lib.hid (HX.out.next hb1); clear hb1)
      | fail)
    go_ret
    exact ⟨rfl, HX.out.below⟩
end Go.Proofs.Ytjopjdidbkhmnaa
