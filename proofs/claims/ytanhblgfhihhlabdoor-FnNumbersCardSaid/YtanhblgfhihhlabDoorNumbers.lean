/-
  What is proved: whatever code comes in, the law on drawn numbers returns true and the code reads as before (a code longer than 1048576 bytes the law itself passes by); conditions: the library's tables and three error variables start as the program's text lays them (the card ties them).
-/
import Derived.Test.YtanhblgfhihhlabDoorDrawNum
import Derived.Test.YtanhblgfhihhlabDoorDigitsW
import Derived.Test.YtanhblgfhihhlabDoorNumberW
import Derived.Test.YtanhblgfhihhlabDoorNumberI
import Derived.Test.YtanhblgfhihhlabDoorTie
import Derived.Test.YtanhblgfhihhlabDoorCards
import Derived.SevenTiedAt
import Derived.ChangeVars
import Derived.RowKitTokens
namespace Go.Proofs.YtanhblgfhihhlabDoor
open Go Go.ChangeShapes Go.WideShapes Go.ChangeAt Go.RowKit

/-- A share, not less than it is. -/
def ceil (a b : Int) : Int := if a < 0 ∨ 1000000000000 < a ∨ b < 1 ∨ 1000000000000 < b then 0 else (a + b - 1) / b
/-- A number held between two. -/
def held (n low high : Int) : Int := if n < low then low else if high < n then high else n

theorem impl_ceil (a b : Int) (w : World) : Calls Tryd.prog 10 #[.int .i64 a, .int .i64 b] w fun e w' => e = .returned (.int .i64 (ceil a b)) ∧ w' = w := by
  by_cases h : a < 0 ∨ 1000000000000 < a ∨ b < 1 ∨ 1000000000000 < b
  · have e : Hid (ceil a b = 0) := if_pos h
    by_cases h1 : a < 0
    · go_enter Tryd.func10, Tryd.ntmps10
      go_wp2
      go_ret
      exact ⟨by rw [e.out]; rfl, rfl⟩
    · by_cases h2 : 1000000000000 < a
      · go_enter Tryd.func10, Tryd.ntmps10
        go_wp2
        go_ret
        exact ⟨by rw [e.out]; rfl, rfl⟩
      · by_cases h3 : b < 1
        · go_enter Tryd.func10, Tryd.ntmps10
          go_wp2
          go_ret
          exact ⟨by rw [e.out]; rfl, rfl⟩
        · have h4 : 1000000000000 < b := by omega
          go_enter Tryd.func10, Tryd.ntmps10
          go_wp2
          go_ret
          exact ⟨by rw [e.out]; rfl, rfl⟩
  · have e : Hid (ceil a b = (a + b - 1) / b) := if_neg h
    have h1 : 0 ≤ a := by omega
    have h2 : a ≤ 1000000000000 := by omega
    have h3 : 1 ≤ b := by omega
    have h4 : b ≤ 1000000000000 := by omega
    clear h
    go_enter Tryd.func10, Tryd.ntmps10
    go_wp2
    go_ret
    exact ⟨by rw [e.out]; rfl, rfl⟩

theorem spec_ceil (a b : Int) (w : World) : Calls Tryd.prog 15 #[.int .i64 a, .int .i64 b] w fun e w' => e = .returned (.int .i64 (ceil a b)) ∧ w' = w := by
  by_cases h : a < 0 ∨ 1000000000000 < a ∨ b < 1 ∨ 1000000000000 < b
  · have e : Hid (ceil a b = 0) := if_pos h
    by_cases h1 : a < 0
    · have h1' : ¬ 0 ≤ a := by omega
      go_enter Tryd.func15, Tryd.ntmps15
      go_wp2
      go_ret
      exact ⟨by rw [e.out]; rfl, rfl⟩
    · have h1' : 0 ≤ a := by omega
      by_cases h2 : 1000000000000 < a
      · have h2' : ¬ a ≤ 1000000000000 := by omega
        go_enter Tryd.func15, Tryd.ntmps15
        go_wp2
        go_ret
        exact ⟨by rw [e.out]; rfl, rfl⟩
      · have h2' : a ≤ 1000000000000 := by omega
        by_cases h3 : b < 1
        · have h3' : ¬ 1 ≤ b := by omega
          go_enter Tryd.func15, Tryd.ntmps15
          go_wp2
          go_ret
          exact ⟨by rw [e.out]; rfl, rfl⟩
        · have h3' : 1 ≤ b := by omega
          have h4 : ¬ b ≤ 1000000000000 := by omega
          go_enter Tryd.func15, Tryd.ntmps15
          go_wp2
          go_ret
          exact ⟨by rw [e.out]; rfl, rfl⟩
  · have e : Hid (ceil a b = (a + b - 1) / b) := if_neg h
    have h1 : 0 ≤ a := by omega
    have h2 : a ≤ 1000000000000 := by omega
    have h3 : 1 ≤ b := by omega
    have h4 : b ≤ 1000000000000 := by omega
    clear h
    go_enter Tryd.func15, Tryd.ntmps15
    go_wp2
    go_ret
    exact ⟨by rw [e.out]; rfl, rfl⟩

theorem impl_held (n low high : Int) (w : World) : Calls Tryd.prog 12 #[.int .i64 n, .int .i64 low, .int .i64 high] w fun e w' => e = .returned (.int .i64 (held n low high)) ∧ w' = w := by
  by_cases h1 : n < low
  · have e : Hid (held n low high = low) := if_pos h1
    go_enter Tryd.func12, Tryd.ntmps12
    go_wp2
    go_ret
    exact ⟨by rw [e.out]; rfl, rfl⟩
  · by_cases h2 : high < n
    · have e : Hid (held n low high = high) := (if_neg h1).trans (if_pos h2)
      go_enter Tryd.func12, Tryd.ntmps12
      go_wp2
      go_ret
      exact ⟨by rw [e.out]; rfl, rfl⟩
    · have e : Hid (held n low high = n) := (if_neg h1).trans (if_neg h2)
      go_enter Tryd.func12, Tryd.ntmps12
      go_wp2
      go_ret
      exact ⟨by rw [e.out]; rfl, rfl⟩

theorem spec_held (n low high : Int) (w : World) : Calls Tryd.prog 16 #[.int .i64 n, .int .i64 low, .int .i64 high] w fun e w' => e = .returned (.int .i64 (held n low high)) ∧ w' = w := by
  by_cases h1 : n < low
  · have e : Hid (held n low high = low) := if_pos h1
    go_enter Tryd.func16, Tryd.ntmps16
    go_wp2
    go_ret
    exact ⟨by rw [e.out]; rfl, rfl⟩
  · by_cases h2 : n < high
    · have e : Hid (held n low high = n) := (if_neg h1).trans (if_neg (by omega))
      go_enter Tryd.func16, Tryd.ntmps16
      go_wp2
      go_ret
      exact ⟨by rw [e.out]; rfl, rfl⟩
    · have e : Hid (held n low high = high) := by
        show held n low high = high
        unfold held
        rw [if_neg h1]
        split <;> omega
      go_enter Tryd.func16, Tryd.ntmps16
      go_wp2
      go_ret
      exact ⟨by rw [e.out]; rfl, rfl⟩

theorem held_bounds {n low high : Int} (h : low ≤ high) : ¬ held n low high < low ∧ ¬ high < held n low high := by
  unfold held; split <;> (try split) <;> omega

set_option maxRecDepth 100000 in
theorem numbers_long (a : Option Addr) (len cap : Nat) (_hm : len ≤ 9223372036854775807) (hs : (1048576 : Int) < len) (w : World) :
    Calls Tryd.prog 3 #[.slice a len cap] w fun e w' => e = .returned (.bool true) ∧ Below w.heap.size w w' := by
  go_enter Tryd.func3, Tryd.ntmps3
  go_wp2
  go_ret
  exact ⟨rfl, Below.refl _ _⟩

theorem ceil_out {x y : Int} (h : ¬ (0 ≤ x ∧ x ≤ 1000000000000 ∧ 1 ≤ y ∧ y ≤ 1000000000000)) : ceil x y = 0 := if_pos (by omega)

theorem ceil_in {x y : Int} (h1 : 0 ≤ x) (h2 : x ≤ 1000000000000) (h3 : 1 ≤ y) (h4 : y ≤ 1000000000000) :
    x / y ≤ ceil x y ∧ ceil x y ≤ x / y + 1 ∧ (ceil x y - x / y = 0 ↔ x % y = 0) := by
  have e : ceil x y = (x + y - 1) / y := if_neg (by omega)
  rw [e]
  have hd := Int.mul_ediv_add_emod x y
  have hm0 := Int.emod_nonneg x (show y ≠ 0 by omega)
  have hm1 := Int.emod_lt_of_pos x (show 0 < y by omega)
  by_cases h0 : x % y = 0
  · have hq := ((Int.ediv_emod_unique (a := x + y - 1) (b := y) (r := y - 1) (q := x / y) (by omega)).2 ⟨by omega, by omega, by omega⟩).1
    rw [hq]; omega
  · have hm : y * (x / y + 1) = y * (x / y) + y := by rw [Int.mul_add, Int.mul_one]
    have hq := ((Int.ediv_emod_unique (a := x + y - 1) (b := y) (r := x % y - 1) (q := x / y + 1) (by omega)).2 ⟨by rw [hm]; omega, by omega, by omega⟩).1
    rw [hq]; omega

theorem wrap_in {z : Int} (h0 : -9223372036854775808 ≤ z) (h1 : z ≤ 9223372036854775807) : IntKind.i64.wrap z = z := by
  rw [IntKind.wrap_i64]; omega

/-- The quotient and what is left, as the walk spells them. -/
theorem quo_facts {x y : Int} (h1 : 0 ≤ x) (h2 : x ≤ 1000000000000) (h3 : 1 ≤ y) (h4 : y ≤ 1000000000000) :
    IntKind.i64.wrap (x.tdiv y) = x / y ∧ IntKind.i64.wrap (x / y + 1) = x / y + 1 ∧ IntKind.i64.wrap (ceil x y - x / y) = ceil x y - x / y ∧ IntKind.i64.wrap (x.tmod y) = x % y ∧ x.tmod y = x % y := by
  obtain ⟨q1, q2, _⟩ := ceil_in h1 h2 h3 h4
  have e1 : x.tdiv y = x / y := Int.tdiv_eq_ediv_of_nonneg h1
  have e2 : x.tmod y = x % y := Int.tmod_eq_emod_of_nonneg h1
  have b0 : 0 ≤ x / y := Int.ediv_nonneg h1 (by omega)
  have b1 : x / y ≤ x := Int.ediv_le_self y h1
  have m0 := Int.emod_nonneg x (show y ≠ 0 by omega)
  have m1 := Int.emod_lt_of_pos x (show 0 < y by omega)
  rw [e1, e2]
  exact ⟨wrap_in (by omega) (by omega), wrap_in (by omega) (by omega), wrap_in (by omega) (by omega), wrap_in (by omega) (by omega), rfl⟩

theorem beq_of_iff {p q : Int} (h : p = 0 ↔ q = 0) : ((p == 0) == (q == 0)) = true := by
  by_cases hp : p = 0
  · rw [hp, h.1 hp]; rfl
  · have hq : ¬ q = 0 := fun e => hp (h.2 e)
    rw [beq_false_of_ne hp, beq_false_of_ne hq]; rfl

theorem below_draws {B : Nat} {w w' : World} (h : Below B w w') (n : Nat) : Below B w (w'.drewN n) := h.trans ⟨rfl, rfl, rfl, Nat.le_refl _, fun _ _ => rfl⟩

set_option maxRecDepth 100000 in
set_option maxHeartbeats 1000000 in
theorem numbers_walk (a : Option Addr) (len cap : Nat) (w : World) (hcode : CodeAt w a len) (V : Vars w) :
    Calls Tryd.prog 3 #[.slice a len cap] w fun e w' => e = .returned (.bool true) ∧ Below w.heap.size w w' := by
  have hs : ¬ (1048576 : Int) < len := by have := hcode.1; omega
  have hT := Lib.tabBelow_of_tabIs V.tab
  go_enter Tryd.func3, Tryd.ntmps3
  go_wp2_with (first
    | (go_at_call 4; go_in)
    | (go_at_call 5; refine (drawDigits_any a len cap _ hcode).mono ?_; rintro e w1 ⟨⟨d, hd, rfl⟩, hb1⟩)
    | (go_at_call 6; refine (drawNumber_any a len cap _ (hcode.on hb1)).mono ?_; rintro e w2 ⟨⟨s, hss, rfl⟩, hb2⟩; refine Hid.out ?_))
  refine Lib.hid ?_
  have B2 := hb1.trans (hb2.mono hb1.size)
  obtain ⟨r, hr⟩ : ∃ r, Hid (r = Num.numOf s.data.toList) := ⟨_, rfl⟩
  have hs2 : s.size ≤ 1048576 := by omega
  go_wp2_with (first
    | (go_at_call 7; refine (impl_number s hs2 _ (V.on B2) r hr).mono ?_; rintro e w3 ⟨rfl, hb3⟩; have B3 := B2.trans (hb3.mono B2.size))
    | (go_at_call 8; refine (spec_number s hs2 _ r hr).mono ?_; rintro e w4 ⟨rfl, hb4⟩; have B4 := B3.trans (hb4.mono B3.size))
    | (go_at_call 9; refine (drawCeilDiv_any a len cap _ (hcode.on B4)).mono ?_; rintro e w5 ⟨⟨x, y, hx, hy, rfl⟩, hb5⟩; have B5 := B4.trans (hb5.mono B4.size))
    | (go_at_call 10; refine (impl_ceil x y _).mono ?_; rintro e w5' ⟨rfl, rfl⟩)
    | (go_at_call 11; refine (drawClamp_any a len cap _ (hcode.on B5)).mono ?_; rintro e w6 ⟨⟨n, lo, hi, hn, rfl⟩, hb6⟩; have B6 := B5.trans (hb6.mono B5.size))
    | (go_at_call 12; refine (impl_held n lo hi _).mono ?_; rintro e w6' ⟨rfl, rfl⟩; refine Hid.out ?_))
  refine Lib.hid ?_
  clear hb1 hb2 hb3 hb4 hb5 hb6 hx hy hs2 hss
  go_wp2_with (go_at_call 13; refine (impl_digits d hd.1 hd.2 _ (hT _ B6)).mono ?_; rintro e w7 ⟨rfl, hb7⟩; refine Hid.out ?_)
  refine Lib.hid ?_
  have B7 := B6.trans (hb7.mono B6.size)
  cases r with
  | none =>
    go_wp2_with (first
      | (go_at_call 14; refine (spec_digits d hd.1 hd.2 _).mono ?_; rintro e w8 ⟨rfl, hb8⟩; have B8 := B7.trans (hb8.mono B7.size))
      | (go_at_call 15; refine (spec_ceil x y _).mono ?_; rintro e w8' ⟨rfl, rfl⟩)
      | (go_at_call 16; refine (spec_held n lo hi _).mono ?_; rintro e w8'' ⟨rfl, rfl⟩; refine Hid.out ?_))
    refine Lib.hid ?_
    by_cases hlh : (lo : Int) ≤ hi
    · obtain ⟨hl1, hl2⟩ := held_bounds (n := n) hlh
      by_cases hin : 0 ≤ x ∧ x ≤ 1000000000000 ∧ 1 ≤ y ∧ y ≤ 1000000000000
      · obtain ⟨i1, i2, i3, i4⟩ := hin
        obtain ⟨q1, q2, q3⟩ := ceil_in i1 i2 i3 i4
        have HQ := Lib.hid (beq_of_iff q3)
        clear q3
        have hy0 : ¬ y = 0 := by omega
        have hyb : (y == 0) = false := by rw [beq_eq_false_iff_ne]; exact hy0
        obtain ⟨t1, t2, t3, t4, t5⟩ := quo_facts i1 i2 i3 i4
        go_wp2
        go_quiet (fail)
        go_wp2
        go_ret
        exact ⟨by rw [HQ.out]; rfl, below_draws B8 _⟩
      · have hq : Hid (ceil x y = 0) := ceil_out hin
        go_wp2
        all_goals go_ret
        all_goals exact ⟨by rw [hq.out]; rfl, B8⟩
    · by_cases hin : 0 ≤ x ∧ x ≤ 1000000000000 ∧ 1 ≤ y ∧ y ≤ 1000000000000
      · obtain ⟨i1, i2, i3, i4⟩ := hin
        obtain ⟨q1, q2, q3⟩ := ceil_in i1 i2 i3 i4
        have HQ := Lib.hid (beq_of_iff q3)
        clear q3
        have hy0 : ¬ y = 0 := by omega
        have hyb : (y == 0) = false := by rw [beq_eq_false_iff_ne]; exact hy0
        obtain ⟨t1, t2, t3, t4, t5⟩ := quo_facts i1 i2 i3 i4
        go_wp2
        go_quiet (fail)
        go_wp2
        go_ret
        exact ⟨by rw [HQ.out]; rfl, below_draws B8 _⟩
      · have hq : Hid (ceil x y = 0) := ceil_out hin
        go_wp2
        all_goals go_ret
        all_goals exact ⟨by rw [hq.out]; rfl, B8⟩
  | some v =>
    obtain ⟨v0, v1, v2⟩ := Num.numOf_some hr.out.symm
    have v3 : Lib.itoa v = s.toList := by rw [ByteArray.toList_eq]; exact v2
    clear v2
    go_wp2_with (first
      | (go_at_call 14; refine (spec_digits d hd.1 hd.2 _).mono ?_; rintro e w8 ⟨rfl, hb8⟩; have B8 := B7.trans (hb8.mono B7.size))
      | (go_at_call 15; refine (spec_ceil x y _).mono ?_; rintro e w8' ⟨rfl, rfl⟩)
      | (go_at_call 16; refine (spec_held n lo hi _).mono ?_; rintro e w8'' ⟨rfl, rfl⟩)
      | (go_at_call 13; refine (impl_digits v (by omega) (by omega) _ (hT _ B8)).mono ?_; rintro e w9 ⟨rfl, hb9⟩; have B9 := B8.trans (hb9.mono B8.size); refine Hid.out ?_))
    refine Lib.hid ?_
    by_cases hlh : (lo : Int) ≤ hi
    · obtain ⟨hl1, hl2⟩ := held_bounds (n := n) hlh
      by_cases hin : 0 ≤ x ∧ x ≤ 1000000000000 ∧ 1 ≤ y ∧ y ≤ 1000000000000
      · obtain ⟨i1, i2, i3, i4⟩ := hin
        obtain ⟨q1, q2, q3⟩ := ceil_in i1 i2 i3 i4
        have HQ := Lib.hid (beq_of_iff q3)
        clear q3
        have hy0 : ¬ y = 0 := by omega
        have hyb : (y == 0) = false := by rw [beq_eq_false_iff_ne]; exact hy0
        obtain ⟨t1, t2, t3, t4, t5⟩ := quo_facts i1 i2 i3 i4
        go_wp2
        go_quiet (fail)
        go_wp2
        go_ret
        exact ⟨by rw [HQ.out]; rfl, below_draws B9 _⟩
      · have hq : Hid (ceil x y = 0) := ceil_out hin
        go_wp2
        all_goals go_ret
        all_goals exact ⟨by rw [hq.out]; rfl, B9⟩
    · by_cases hin : 0 ≤ x ∧ x ≤ 1000000000000 ∧ 1 ≤ y ∧ y ≤ 1000000000000
      · obtain ⟨i1, i2, i3, i4⟩ := hin
        obtain ⟨q1, q2, q3⟩ := ceil_in i1 i2 i3 i4
        have HQ := Lib.hid (beq_of_iff q3)
        clear q3
        have hy0 : ¬ y = 0 := by omega
        have hyb : (y == 0) = false := by rw [beq_eq_false_iff_ne]; exact hy0
        obtain ⟨t1, t2, t3, t4, t5⟩ := quo_facts i1 i2 i3 i4
        go_wp2
        go_quiet (fail)
        go_wp2
        go_ret
        exact ⟨by rw [HQ.out]; rfl, below_draws B9 _⟩
      · have hq : Hid (ceil x y = 0) := ceil_out hin
        go_wp2
        all_goals go_ret
        all_goals exact ⟨by rw [hq.out]; rfl, B9⟩
end Go.Proofs.YtanhblgfhihhlabDoor
