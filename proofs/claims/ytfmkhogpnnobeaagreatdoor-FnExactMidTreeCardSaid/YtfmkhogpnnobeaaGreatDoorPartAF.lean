/-
  What is proved: AmountText and SpanText, the program's and the model's, at every int; condition of the program's: the library's table of powers of ten starts as the program's text lays it.; what a metric's and a pace's tree are; the program's kindText and the node of a map.; plain facts on a block that a function laid, in every later world that has all earlier blocks as they were.; plain facts on where a law stands that holds what a function answered against what is wanted, marks it, and looks whether the marks are held.; how great a map is once a key has been set in it.; plain facts on the trees that orders are told as: metrics a list, notes a map, the full shape.
-/
import Derived.Test.YtfmkhogpnnobeaaGreatDoorPartAE
import Derived.Lib.Hide
import Derived.Test.YtfmkhogpnnobeaaGreatDoorPartAD
import Derived.Test.YtfmkhogpnnobeaaGreatDoorPartAA
import Derived.Test.YtfmkhogpnnobeaaGreatDoorRows
import Derived.Below
import Derived.WalkKit
import Derived.WalkSpells
import Derived.Deep.RegionHeld3
import Derived.Deep.Draws
import Derived.Deep.QuietTactic
import Derived.Deep.RegionWith
import Derived.BigQuiet
import Derived.Test.YtfmkhogpnnobeaaGreatDoorPartAC
/- AmountText and SpanText, the program's and the model's, at every int; condition of the program's: the library's table of powers of ten starts as the program's text lays it. -/
namespace Go.Proofs.YtfmkhogpnnobeaaGreatDoor
open Go Go.RowKit

theorem ret_add {a b c : List UInt8} (h : c = a ++ b) : Ending.returned (.string ({ data := a.toArray } ++ { data := b.toArray })) = .returned (.string ⟨c.toArray⟩) := by
  rw [h, ByteArray.mk_append_mk]

set_option maxHeartbeats 400000 in
theorem spec_amountText_out (n : Int) (h0 : -9223372036854775808 ≤ n) (h1 : n ≤ 9223372036854775807) (hx : n < 0 ∨ 1000000000000 < n) (w : World) :
    Calls Tryz.prog 94 #[.int .i64 n] w fun e w' => e = .returned (.string ⟨(amtText n).toArray⟩) ∧ Below w.heap.size w w' := by
  have e : Hid (amtText n = []) := if_pos hx
  by_cases hA : n < 0
  · have hA' : ¬ 0 ≤ n := by omega
    go_enter Tryz.func94, Tryz.ntmps94
    go_wp2
    go_ret
    exact ⟨by rw [e.out]; rfl, Below.refl _ _⟩
  · have hA' : 0 ≤ n := by omega
    have hB : 1000000000000 < n := by omega
    have hB' : ¬ n ≤ 1000000000000 := by omega
    go_enter Tryz.func94, Tryz.ntmps94
    go_wp2
    go_ret
    exact ⟨by rw [e.out]; rfl, Below.refl _ _⟩

set_option maxHeartbeats 400000 in
theorem spec_amountText_zero (w : World) :
    Calls Tryz.prog 94 #[.int .i64 0] w fun e w' => e = .returned (.string ⟨(amtText 0).toArray⟩) ∧ Below w.heap.size w w' := by
  have e : Hid (amtText 0 = Lib.itoa 0) := rfl
  have hl := Num.itoa_length (0) (by omega) (by omega)
  go_enter Tryz.func94, Tryz.ntmps94
  go_wp2_with (first | (go_at_call 119; refine (spec_digits (0) (by omega) (by omega) _).mono ?_; rintro e w1 ⟨rfl, hb1⟩) | go_in)
  go_ret
  exact ⟨ret_str e.out.symm, hb1⟩

set_option maxHeartbeats 400000 in
theorem spec_amountText_1000000 (n : Int) (h0 : 0 < n) (h1 : n ≤ 1000000000000) (q1000000 : n % 1000000 = 0) (w : World) :
    Calls Tryz.prog 94 #[.int .i64 n] w fun e w' => e = .returned (.string ⟨(amtText n).toArray⟩) ∧ Below w.heap.size w w' := by
  have e : Hid (amtText n = Lib.itoa (n / 1000000) ++ [107]) := (if_neg (by omega)).trans (if_pos (by omega))
  have z1 : (n != 0) = true := by simp; omega
  have z2 : ¬ n < 0 := by omega
  have z3 : 0 ≤ n := by omega
  have z4 : ¬ 1000000000000 < n := by omega
  have z5 : ¬ n = 0 := by omega
  have hl := Num.itoa_length (n / 1000000) (by omega) (by omega)
  go_enter Tryz.func94, Tryz.ntmps94
  go_wp2_with (first | (go_at_call 119; refine (spec_digits (n / 1000000) (by omega) (by omega) _).mono ?_; rintro e w1 ⟨rfl, hb1⟩) | go_in)
  go_ret
  exact ⟨ret_add e.out, hb1⟩

set_option maxHeartbeats 400000 in
theorem spec_amountText_1000 (n : Int) (h0 : 0 < n) (h1 : n ≤ 1000000000000) (_q1000000 : ¬ n % 1000000 = 0) (q1000 : n % 1000 = 0) (w : World) :
    Calls Tryz.prog 94 #[.int .i64 n] w fun e w' => e = .returned (.string ⟨(amtText n).toArray⟩) ∧ Below w.heap.size w w' := by
  have e : Hid (amtText n = Lib.itoa (n / 1000)) := (if_neg (by omega)).trans ((if_neg (by omega)).trans (if_pos (by omega)))
  have z1 : (n != 0) = true := by simp; omega
  have z2 : ¬ n < 0 := by omega
  have z3 : 0 ≤ n := by omega
  have z4 : ¬ 1000000000000 < n := by omega
  have z5 : ¬ n = 0 := by omega
  have hl := Num.itoa_length (n / 1000) (by omega) (by omega)
  go_enter Tryz.func94, Tryz.ntmps94
  go_wp2_with (first | (go_at_call 119; refine (spec_digits (n / 1000) (by omega) (by omega) _).mono ?_; rintro e w1 ⟨rfl, hb1⟩) | go_in)
  go_ret
  exact ⟨ret_str e.out.symm, hb1⟩

set_option maxHeartbeats 400000 in
theorem spec_amountText_1 (n : Int) (h0 : 0 < n) (h1 : n ≤ 1000000000000) (_q1000000 : ¬ n % 1000000 = 0) (_q1000 : ¬ n % 1000 = 0) (w : World) :
    Calls Tryz.prog 94 #[.int .i64 n] w fun e w' => e = .returned (.string ⟨(amtText n).toArray⟩) ∧ Below w.heap.size w w' := by
  have e : Hid (amtText n = Lib.itoa (n) ++ [109]) := (if_neg (by omega)).trans ((if_neg (by omega)).trans (if_neg (by omega)))
  have z1 : (n != 0) = true := by simp; omega
  have z2 : ¬ n < 0 := by omega
  have z3 : 0 ≤ n := by omega
  have z4 : ¬ 1000000000000 < n := by omega
  have z5 : ¬ n = 0 := by omega
  have hl := Num.itoa_length (n) (by omega) (by omega)
  go_enter Tryz.func94, Tryz.ntmps94
  go_wp2_with (first | (go_at_call 119; refine (spec_digits (n) (by omega) (by omega) _).mono ?_; rintro e w1 ⟨rfl, hb1⟩) | go_in)
  go_ret
  exact ⟨ret_add e.out, hb1⟩

theorem spec_amountText (n : Int) (h0 : -9223372036854775808 ≤ n) (h1 : n ≤ 9223372036854775807) (w : World) :
    Calls Tryz.prog 94 #[.int .i64 n] w fun e w' => e = .returned (.string ⟨(amtText n).toArray⟩) ∧ Below w.heap.size w w' := by
  by_cases hx : n < 0 ∨ 1000000000000 < n
  · exact spec_amountText_out n h0 h1 hx w
  · by_cases hz : n = 0
    · subst hz; exact spec_amountText_zero w
    · by_cases q1000000 : n % 1000000 = 0
      · exact spec_amountText_1000000 n (by omega) (by omega) q1000000 w
      · by_cases q1000 : n % 1000 = 0
        · exact spec_amountText_1000 n (by omega) (by omega) q1000000 q1000 w
        · exact spec_amountText_1 n (by omega) (by omega) q1000000 q1000 w

set_option maxHeartbeats 400000 in
theorem spec_spanText_out (n : Int) (h0 : -9223372036854775808 ≤ n) (h1 : n ≤ 9223372036854775807) (hx : n < 0 ∨ 1000000 < n) (w : World) :
    Calls Tryz.prog 95 #[.int .i64 n] w fun e w' => e = .returned (.string ⟨(spanText n).toArray⟩) ∧ Below w.heap.size w w' := by
  have e : Hid (spanText n = []) := if_pos hx
  by_cases hA : n < 0
  · have hA' : ¬ 0 ≤ n := by omega
    go_enter Tryz.func95, Tryz.ntmps95
    go_wp2
    go_ret
    exact ⟨by rw [e.out]; rfl, Below.refl _ _⟩
  · have hA' : 0 ≤ n := by omega
    have hB : 1000000 < n := by omega
    have hB' : ¬ n ≤ 1000000 := by omega
    go_enter Tryz.func95, Tryz.ntmps95
    go_wp2
    go_ret
    exact ⟨by rw [e.out]; rfl, Below.refl _ _⟩

set_option maxHeartbeats 400000 in
theorem spec_spanText_zero (w : World) :
    Calls Tryz.prog 95 #[.int .i64 0] w fun e w' => e = .returned (.string ⟨(spanText 0).toArray⟩) ∧ Below w.heap.size w w' := by
  have e : Hid (spanText 0 = Lib.itoa 0 ++ [115]) := rfl
  have hl := Num.itoa_length (0) (by omega) (by omega)
  go_enter Tryz.func95, Tryz.ntmps95
  go_wp2_with (first | (go_at_call 119; refine (spec_digits (0) (by omega) (by omega) _).mono ?_; rintro e w1 ⟨rfl, hb1⟩) | go_in)
  go_ret
  exact ⟨ret_add e.out, hb1⟩

set_option maxHeartbeats 400000 in
theorem spec_spanText_3600 (n : Int) (h0 : 0 < n) (h1 : n ≤ 1000000) (q3600 : n % 3600 = 0) (w : World) :
    Calls Tryz.prog 95 #[.int .i64 n] w fun e w' => e = .returned (.string ⟨(spanText n).toArray⟩) ∧ Below w.heap.size w w' := by
  have e : Hid (spanText n = Lib.itoa (n / 3600) ++ [104]) := (if_neg (by omega)).trans (if_pos (by omega))
  have z1 : (n != 0) = true := by simp; omega
  have z2 : ¬ n < 0 := by omega
  have z3 : 0 ≤ n := by omega
  have z4 : ¬ 1000000 < n := by omega
  have z5 : ¬ n = 0 := by omega
  have hl := Num.itoa_length (n / 3600) (by omega) (by omega)
  go_enter Tryz.func95, Tryz.ntmps95
  go_wp2_with (first | (go_at_call 119; refine (spec_digits (n / 3600) (by omega) (by omega) _).mono ?_; rintro e w1 ⟨rfl, hb1⟩) | go_in)
  go_ret
  exact ⟨ret_add e.out, hb1⟩

set_option maxHeartbeats 400000 in
theorem spec_spanText_60 (n : Int) (h0 : 0 < n) (h1 : n ≤ 1000000) (_q3600 : ¬ n % 3600 = 0) (q60 : n % 60 = 0) (w : World) :
    Calls Tryz.prog 95 #[.int .i64 n] w fun e w' => e = .returned (.string ⟨(spanText n).toArray⟩) ∧ Below w.heap.size w w' := by
  have e : Hid (spanText n = Lib.itoa (n / 60) ++ [109]) := (if_neg (by omega)).trans ((if_neg (by omega)).trans (if_pos (by omega)))
  have z1 : (n != 0) = true := by simp; omega
  have z2 : ¬ n < 0 := by omega
  have z3 : 0 ≤ n := by omega
  have z4 : ¬ 1000000 < n := by omega
  have z5 : ¬ n = 0 := by omega
  have hl := Num.itoa_length (n / 60) (by omega) (by omega)
  go_enter Tryz.func95, Tryz.ntmps95
  go_wp2_with (first | (go_at_call 119; refine (spec_digits (n / 60) (by omega) (by omega) _).mono ?_; rintro e w1 ⟨rfl, hb1⟩) | go_in)
  go_ret
  exact ⟨ret_add e.out, hb1⟩

set_option maxHeartbeats 400000 in
theorem spec_spanText_1 (n : Int) (h0 : 0 < n) (h1 : n ≤ 1000000) (_q3600 : ¬ n % 3600 = 0) (_q60 : ¬ n % 60 = 0) (w : World) :
    Calls Tryz.prog 95 #[.int .i64 n] w fun e w' => e = .returned (.string ⟨(spanText n).toArray⟩) ∧ Below w.heap.size w w' := by
  have e : Hid (spanText n = Lib.itoa (n) ++ [115]) := (if_neg (by omega)).trans ((if_neg (by omega)).trans (if_neg (by omega)))
  have z1 : (n != 0) = true := by simp; omega
  have z2 : ¬ n < 0 := by omega
  have z3 : 0 ≤ n := by omega
  have z4 : ¬ 1000000 < n := by omega
  have z5 : ¬ n = 0 := by omega
  have hl := Num.itoa_length (n) (by omega) (by omega)
  go_enter Tryz.func95, Tryz.ntmps95
  go_wp2_with (first | (go_at_call 119; refine (spec_digits (n) (by omega) (by omega) _).mono ?_; rintro e w1 ⟨rfl, hb1⟩) | go_in)
  go_ret
  exact ⟨ret_add e.out, hb1⟩

theorem spec_spanText (n : Int) (h0 : -9223372036854775808 ≤ n) (h1 : n ≤ 9223372036854775807) (w : World) :
    Calls Tryz.prog 95 #[.int .i64 n] w fun e w' => e = .returned (.string ⟨(spanText n).toArray⟩) ∧ Below w.heap.size w w' := by
  by_cases hx : n < 0 ∨ 1000000 < n
  · exact spec_spanText_out n h0 h1 hx w
  · by_cases hz : n = 0
    · subst hz; exact spec_spanText_zero w
    · by_cases q3600 : n % 3600 = 0
      · exact spec_spanText_3600 n (by omega) (by omega) q3600 w
      · by_cases q60 : n % 60 = 0
        · exact spec_spanText_60 n (by omega) (by omega) q3600 q60 w
        · exact spec_spanText_1 n (by omega) (by omega) q3600 q60 w

set_option maxHeartbeats 400000 in
theorem impl_amountText_out (n : Int) (h0 : -9223372036854775808 ≤ n) (h1 : n ≤ 9223372036854775807) (hx : n < 0 ∨ 1000000000000 < n) (w : World) :
    Calls Tryz.prog 150 #[.int .i64 n] w fun e w' => e = .returned (.string ⟨(amtText n).toArray⟩) ∧ Below w.heap.size w w' := by
  have e : Hid (amtText n = []) := if_pos hx
  by_cases hA : n < 0
  · have hA' : ¬ 0 ≤ n := by omega
    go_enter Tryz.func150, Tryz.ntmps150
    go_wp2
    go_ret
    exact ⟨by rw [e.out]; rfl, Below.refl _ _⟩
  · have hA' : 0 ≤ n := by omega
    have hB : 1000000000000 < n := by omega
    have hB' : ¬ n ≤ 1000000000000 := by omega
    go_enter Tryz.func150, Tryz.ntmps150
    go_wp2
    go_ret
    exact ⟨by rw [e.out]; rfl, Below.refl _ _⟩

set_option maxHeartbeats 400000 in
theorem impl_amountText_zero (w : World) (htab : Lib.TabIs Tryz.prog w "internal/strconv.uint64pow10" .u64 Lib.pow10Tab) :
    Calls Tryz.prog 150 #[.int .i64 0] w fun e w' => e = .returned (.string ⟨(amtText 0).toArray⟩) ∧ Below w.heap.size w w' := by
  have e : Hid (amtText 0 = Lib.itoa 0) := rfl
  have hl := Num.itoa_length (0) (by omega) (by omega)
  go_enter Tryz.func150, Tryz.ntmps150
  go_wp2_with (first | (go_at_call 143; refine (impl_digits (0) (by omega) (by omega) _ htab).mono ?_; rintro e w1 ⟨rfl, hb1⟩) | go_in)
  go_ret
  exact ⟨ret_str e.out.symm, hb1⟩

set_option maxHeartbeats 400000 in
theorem impl_amountText_1000000 (n : Int) (h0 : 0 < n) (h1 : n ≤ 1000000000000) (q1000000 : n % 1000000 = 0) (w : World) (htab : Lib.TabIs Tryz.prog w "internal/strconv.uint64pow10" .u64 Lib.pow10Tab) :
    Calls Tryz.prog 150 #[.int .i64 n] w fun e w' => e = .returned (.string ⟨(amtText n).toArray⟩) ∧ Below w.heap.size w w' := by
  have e : Hid (amtText n = Lib.itoa (n / 1000000) ++ [107]) := (if_neg (by omega)).trans (if_pos (by omega))
  have z1 : (n != 0) = true := by simp; omega
  have z2 : ¬ n < 0 := by omega
  have z3 : 0 ≤ n := by omega
  have z4 : ¬ 1000000000000 < n := by omega
  have z5 : ¬ n = 0 := by omega
  have hl := Num.itoa_length (n / 1000000) (by omega) (by omega)
  go_enter Tryz.func150, Tryz.ntmps150
  go_wp2_with (first | (go_at_call 143; refine (impl_digits (n / 1000000) (by omega) (by omega) _ htab).mono ?_; rintro e w1 ⟨rfl, hb1⟩) | go_in)
  go_ret
  exact ⟨ret_add e.out, hb1⟩

set_option maxHeartbeats 400000 in
theorem impl_amountText_1000 (n : Int) (h0 : 0 < n) (h1 : n ≤ 1000000000000) (_q1000000 : ¬ n % 1000000 = 0) (q1000 : n % 1000 = 0) (w : World) (htab : Lib.TabIs Tryz.prog w "internal/strconv.uint64pow10" .u64 Lib.pow10Tab) :
    Calls Tryz.prog 150 #[.int .i64 n] w fun e w' => e = .returned (.string ⟨(amtText n).toArray⟩) ∧ Below w.heap.size w w' := by
  have e : Hid (amtText n = Lib.itoa (n / 1000)) := (if_neg (by omega)).trans ((if_neg (by omega)).trans (if_pos (by omega)))
  have z1 : (n != 0) = true := by simp; omega
  have z2 : ¬ n < 0 := by omega
  have z3 : 0 ≤ n := by omega
  have z4 : ¬ 1000000000000 < n := by omega
  have z5 : ¬ n = 0 := by omega
  have hl := Num.itoa_length (n / 1000) (by omega) (by omega)
  go_enter Tryz.func150, Tryz.ntmps150
  go_wp2_with (first | (go_at_call 143; refine (impl_digits (n / 1000) (by omega) (by omega) _ htab).mono ?_; rintro e w1 ⟨rfl, hb1⟩) | go_in)
  go_ret
  exact ⟨ret_str e.out.symm, hb1⟩

set_option maxHeartbeats 400000 in
theorem impl_amountText_1 (n : Int) (h0 : 0 < n) (h1 : n ≤ 1000000000000) (_q1000000 : ¬ n % 1000000 = 0) (_q1000 : ¬ n % 1000 = 0) (w : World) (htab : Lib.TabIs Tryz.prog w "internal/strconv.uint64pow10" .u64 Lib.pow10Tab) :
    Calls Tryz.prog 150 #[.int .i64 n] w fun e w' => e = .returned (.string ⟨(amtText n).toArray⟩) ∧ Below w.heap.size w w' := by
  have e : Hid (amtText n = Lib.itoa (n) ++ [109]) := (if_neg (by omega)).trans ((if_neg (by omega)).trans (if_neg (by omega)))
  have z1 : (n != 0) = true := by simp; omega
  have z2 : ¬ n < 0 := by omega
  have z3 : 0 ≤ n := by omega
  have z4 : ¬ 1000000000000 < n := by omega
  have z5 : ¬ n = 0 := by omega
  have hl := Num.itoa_length (n) (by omega) (by omega)
  go_enter Tryz.func150, Tryz.ntmps150
  go_wp2_with (first | (go_at_call 143; refine (impl_digits (n) (by omega) (by omega) _ htab).mono ?_; rintro e w1 ⟨rfl, hb1⟩) | go_in)
  go_ret
  exact ⟨ret_add e.out, hb1⟩

theorem impl_amountText (n : Int) (h0 : -9223372036854775808 ≤ n) (h1 : n ≤ 9223372036854775807) (w : World) (htab : Lib.TabIs Tryz.prog w "internal/strconv.uint64pow10" .u64 Lib.pow10Tab) :
    Calls Tryz.prog 150 #[.int .i64 n] w fun e w' => e = .returned (.string ⟨(amtText n).toArray⟩) ∧ Below w.heap.size w w' := by
  by_cases hx : n < 0 ∨ 1000000000000 < n
  · exact impl_amountText_out n h0 h1 hx w
  · by_cases hz : n = 0
    · subst hz; exact impl_amountText_zero w htab
    · by_cases q1000000 : n % 1000000 = 0
      · exact impl_amountText_1000000 n (by omega) (by omega) q1000000 w htab
      · by_cases q1000 : n % 1000 = 0
        · exact impl_amountText_1000 n (by omega) (by omega) q1000000 q1000 w htab
        · exact impl_amountText_1 n (by omega) (by omega) q1000000 q1000 w htab

set_option maxHeartbeats 400000 in
theorem impl_spanText_out (n : Int) (h0 : -9223372036854775808 ≤ n) (h1 : n ≤ 9223372036854775807) (hx : n < 0 ∨ 1000000 < n) (w : World) :
    Calls Tryz.prog 115 #[.int .i64 n] w fun e w' => e = .returned (.string ⟨(spanText n).toArray⟩) ∧ Below w.heap.size w w' := by
  have e : Hid (spanText n = []) := if_pos hx
  by_cases hA : n < 0
  · have hA' : ¬ 0 ≤ n := by omega
    go_enter Tryz.func115, Tryz.ntmps115
    go_wp2
    go_ret
    exact ⟨by rw [e.out]; rfl, Below.refl _ _⟩
  · have hA' : 0 ≤ n := by omega
    have hB : 1000000 < n := by omega
    have hB' : ¬ n ≤ 1000000 := by omega
    go_enter Tryz.func115, Tryz.ntmps115
    go_wp2
    go_ret
    exact ⟨by rw [e.out]; rfl, Below.refl _ _⟩

set_option maxHeartbeats 400000 in
theorem impl_spanText_zero (w : World) (htab : Lib.TabIs Tryz.prog w "internal/strconv.uint64pow10" .u64 Lib.pow10Tab) :
    Calls Tryz.prog 115 #[.int .i64 0] w fun e w' => e = .returned (.string ⟨(spanText 0).toArray⟩) ∧ Below w.heap.size w w' := by
  have e : Hid (spanText 0 = Lib.itoa 0 ++ [115]) := rfl
  have hl := Num.itoa_length (0) (by omega) (by omega)
  go_enter Tryz.func115, Tryz.ntmps115
  go_wp2_with (first | (go_at_call 143; refine (impl_digits (0) (by omega) (by omega) _ htab).mono ?_; rintro e w1 ⟨rfl, hb1⟩) | go_in)
  go_ret
  exact ⟨ret_add e.out, hb1⟩

set_option maxHeartbeats 400000 in
theorem impl_spanText_3600 (n : Int) (h0 : 0 < n) (h1 : n ≤ 1000000) (q3600 : n % 3600 = 0) (w : World) (htab : Lib.TabIs Tryz.prog w "internal/strconv.uint64pow10" .u64 Lib.pow10Tab) :
    Calls Tryz.prog 115 #[.int .i64 n] w fun e w' => e = .returned (.string ⟨(spanText n).toArray⟩) ∧ Below w.heap.size w w' := by
  have e : Hid (spanText n = Lib.itoa (n / 3600) ++ [104]) := (if_neg (by omega)).trans (if_pos (by omega))
  have z1 : (n != 0) = true := by simp; omega
  have z2 : ¬ n < 0 := by omega
  have z3 : 0 ≤ n := by omega
  have z4 : ¬ 1000000 < n := by omega
  have z5 : ¬ n = 0 := by omega
  have hl := Num.itoa_length (n / 3600) (by omega) (by omega)
  go_enter Tryz.func115, Tryz.ntmps115
  go_wp2_with (first | (go_at_call 143; refine (impl_digits (n / 3600) (by omega) (by omega) _ htab).mono ?_; rintro e w1 ⟨rfl, hb1⟩) | go_in)
  go_ret
  exact ⟨ret_add e.out, hb1⟩

set_option maxHeartbeats 400000 in
theorem impl_spanText_60 (n : Int) (h0 : 0 < n) (h1 : n ≤ 1000000) (_q3600 : ¬ n % 3600 = 0) (q60 : n % 60 = 0) (w : World) (htab : Lib.TabIs Tryz.prog w "internal/strconv.uint64pow10" .u64 Lib.pow10Tab) :
    Calls Tryz.prog 115 #[.int .i64 n] w fun e w' => e = .returned (.string ⟨(spanText n).toArray⟩) ∧ Below w.heap.size w w' := by
  have e : Hid (spanText n = Lib.itoa (n / 60) ++ [109]) := (if_neg (by omega)).trans ((if_neg (by omega)).trans (if_pos (by omega)))
  have z1 : (n != 0) = true := by simp; omega
  have z2 : ¬ n < 0 := by omega
  have z3 : 0 ≤ n := by omega
  have z4 : ¬ 1000000 < n := by omega
  have z5 : ¬ n = 0 := by omega
  have hl := Num.itoa_length (n / 60) (by omega) (by omega)
  go_enter Tryz.func115, Tryz.ntmps115
  go_wp2_with (first | (go_at_call 143; refine (impl_digits (n / 60) (by omega) (by omega) _ htab).mono ?_; rintro e w1 ⟨rfl, hb1⟩) | go_in)
  go_ret
  exact ⟨ret_add e.out, hb1⟩

set_option maxHeartbeats 400000 in
theorem impl_spanText_1 (n : Int) (h0 : 0 < n) (h1 : n ≤ 1000000) (_q3600 : ¬ n % 3600 = 0) (_q60 : ¬ n % 60 = 0) (w : World) (htab : Lib.TabIs Tryz.prog w "internal/strconv.uint64pow10" .u64 Lib.pow10Tab) :
    Calls Tryz.prog 115 #[.int .i64 n] w fun e w' => e = .returned (.string ⟨(spanText n).toArray⟩) ∧ Below w.heap.size w w' := by
  have e : Hid (spanText n = Lib.itoa (n) ++ [115]) := (if_neg (by omega)).trans ((if_neg (by omega)).trans (if_neg (by omega)))
  have z1 : (n != 0) = true := by simp; omega
  have z2 : ¬ n < 0 := by omega
  have z3 : 0 ≤ n := by omega
  have z4 : ¬ 1000000 < n := by omega
  have z5 : ¬ n = 0 := by omega
  have hl := Num.itoa_length (n) (by omega) (by omega)
  go_enter Tryz.func115, Tryz.ntmps115
  go_wp2_with (first | (go_at_call 143; refine (impl_digits (n) (by omega) (by omega) _ htab).mono ?_; rintro e w1 ⟨rfl, hb1⟩) | go_in)
  go_ret
  exact ⟨ret_add e.out, hb1⟩

theorem impl_spanText (n : Int) (h0 : -9223372036854775808 ≤ n) (h1 : n ≤ 9223372036854775807) (w : World) (htab : Lib.TabIs Tryz.prog w "internal/strconv.uint64pow10" .u64 Lib.pow10Tab) :
    Calls Tryz.prog 115 #[.int .i64 n] w fun e w' => e = .returned (.string ⟨(spanText n).toArray⟩) ∧ Below w.heap.size w w' := by
  by_cases hx : n < 0 ∨ 1000000 < n
  · exact impl_spanText_out n h0 h1 hx w
  · by_cases hz : n = 0
    · subst hz; exact impl_spanText_zero w htab
    · by_cases q3600 : n % 3600 = 0
      · exact impl_spanText_3600 n (by omega) (by omega) q3600 w htab
      · by_cases q60 : n % 60 = 0
        · exact impl_spanText_60 n (by omega) (by omega) q3600 q60 w htab
        · exact impl_spanText_1 n (by omega) (by omega) q3600 q60 w htab

end Go.Proofs.YtfmkhogpnnobeaaGreatDoor

/- what a metric's and a pace's tree are; the program's kindText and the node of a map. -/
namespace Go.Proofs.YtfmkhogpnnobeaaGreatDoor
open Go Go.RowKit

set_option maxHeartbeats 400000 in
theorem sh_node (kv dv : Value) (w : World) (hk : ∃ o l c, kv = .slice o l c) (hd : ∃ o l c, dv = .slice o l c) : Calls Tryz.prog 110 #[.agg #[kv, dv]] w fun e w' => e = .returned (.agg #[.int .i64 5, .int .i64 0, .string ⟨#[]⟩, kv, dv]) ∧ Below w.heap.size w w' := by
  obtain ⟨o1, l1, c1, rfl⟩ := hk
  obtain ⟨o2, l2, c2, rfl⟩ := hd
  go_enter Tryz.func110, Tryz.ntmps110
  go_wp2
  exact bodyPost_ret (ret_node Tryz.results110 rfl (by simpa using heap_last (w.alloc (.cells #[.slice o1 l1 c1, .slice o2 l2 c2] 119)) _)) rfl ⟨rfl, ((Below.refl _ w).alloc (Nat.le_refl _) _).alloc (by simp) _⟩

def kindB (k : Int) : ByteArray := if k = 1 then ⟨#[115, 104, 97, 114, 101]⟩ else if k = 2 then ⟨#[109, 101, 97, 110]⟩ else if k = 3 then ⟨#[119, 104, 111, 108, 101]⟩ else ⟨#[110, 111, 110, 101]⟩

theorem impl_kindText (k : Int) (w : World) : Calls Tryz.prog 151 #[.int .i64 k] w fun e w' => e = .returned (.string (kindB k)) ∧ Below w.heap.size w w' := by
  go_enter Tryz.func151, Tryz.ntmps151
  by_cases h1 : k = 1
  · subst h1
    go_wp2
    go_ret
    exact ⟨rfl, Below.refl _ _⟩
  by_cases h2 : k = 2
  · subst h2
    go_wp2
    go_ret
    exact ⟨rfl, Below.refl _ _⟩
  by_cases h3 : k = 3
  · subst h3
    go_wp2
    go_ret
    exact ⟨rfl, Below.refl _ _⟩
  go_wp2
  go_ret
  exact ⟨by simp [kindB, h1, h2, h3], Below.refl _ _⟩

/-- A metric as a tree. -/
def metT (m : Met) : RT := .node 5 0 ⟨#[]⟩ [⟨#[103, 111, 97, 108]⟩, ⟨#[107, 105, 110, 100]⟩, ⟨#[110, 97, 109, 101]⟩] [.node 3 0 ⟨(amtText m.goal).toArray⟩ [] [], .node 3 0 (kindB m.kind) [] [], .node 3 0 m.name [] []]

theorem amt_len (n : Int) (h0 : -9223372036854775808 ≤ n) (h1 : n ≤ 9223372036854775807) : (amtText n).length ≤ 30 := by
  have a := Num.itoa_length (n / 1000000) (by omega) (by omega)
  have b := Num.itoa_length (n / 1000) (by omega) (by omega)
  have c := Num.itoa_length n h0 h1
  unfold amtText
  repeat' split
  all_goals simp; try omega

theorem span_len (n : Int) (h0 : -9223372036854775808 ≤ n) (h1 : n ≤ 9223372036854775807) : (spanText n).length ≤ 30 := by
  have a := Num.itoa_length (n / 3600) (by omega) (by omega)
  have b := Num.itoa_length (n / 60) (by omega) (by omega)
  have c := Num.itoa_length n h0 h1
  unfold spanText
  repeat' split
  all_goals simp; try omega

theorem amt_fit (n : Int) (h0 : -9223372036854775808 ≤ n) (h1 : n ≤ 9223372036854775807) : (⟨(amtText n).toArray⟩ : ByteArray).size ≤ maxLen := by
  have := amt_len n h0 h1
  show (amtText n).toArray.size ≤ _
  simp [maxLen]; omega
theorem span_fit (n : Int) (h0 : -9223372036854775808 ≤ n) (h1 : n ≤ 9223372036854775807) : (⟨(spanText n).toArray⟩ : ByteArray).size ≤ maxLen := by
  have := span_len n h0 h1
  show (spanText n).toArray.size ≤ _
  simp [maxLen]; omega
theorem kind_fit (k : Int) : (kindB k).size ≤ maxLen := by
  unfold kindB
  repeat' split
  all_goals decide

theorem amt_size (n : Int) (h0 : -9223372036854775808 ≤ n) (h1 : n ≤ 9223372036854775807) : (⟨(amtText n).toArray⟩ : ByteArray).size ≤ 30 := by
  have a := amt_len n h0 h1
  show (amtText n).toArray.size ≤ 30
  simpa using a
theorem span_size (n : Int) (h0 : -9223372036854775808 ≤ n) (h1 : n ≤ 9223372036854775807) : (⟨(spanText n).toArray⟩ : ByteArray).size ≤ 30 := by
  have a := span_len n h0 h1
  show (spanText n).toArray.size ≤ 30
  simpa using a
theorem kind_size (k : Int) : (kindB k).size ≤ 5 := by
  unfold kindB
  repeat' split
  all_goals decide

def LeafK (T : RT) : Prop := T.keys = [] ∧ T.kids = [] ∧ Fit T.k ∧ Fit T.n ∧ T.s.size ≤ maxLen
theorem leafK (k n : Int) (s : ByteArray) (hk : Fit k) (hn : Fit n) (hs : s.size ≤ maxLen) : LeafK (.node k n s [] []) := ⟨rfl, rfl, hk, hn, hs⟩

theorem metT_leaves (m : Met) (hm : m.ok) : ∀ t ∈ (metT m).kids, LeafK t := by
  intro t ht
  have hmem : t = .node 3 0 ⟨(amtText m.goal).toArray⟩ [] [] ∨ t = .node 3 0 (kindB m.kind) [] [] ∨ t = .node 3 0 m.name [] [] := by simpa [metT, RT.kids] using ht
  rcases hmem with rfl | rfl | rfl
  · exact leafK _ _ _ ⟨by decide, by decide⟩ ⟨by decide, by decide⟩ (amt_fit _ hm.2.2.1 hm.2.2.2)
  · exact leafK _ _ _ ⟨by decide, by decide⟩ ⟨by decide, by decide⟩ (kind_fit _)
  · exact leafK _ _ _ ⟨by decide, by decide⟩ ⟨by decide, by decide⟩ hm.1
theorem metT_keys (m : Met) : ∀ k ∈ (metT m).keys, k.size ≤ maxLen := by
  intro t ht
  have hmem : t = ⟨#[103, 111, 97, 108]⟩ ∨ t = ⟨#[107, 105, 110, 100]⟩ ∨ t = ⟨#[110, 97, 109, 101]⟩ := by simpa [metT, RT.keys] using ht
  rcases hmem with rfl | rfl | rfl <;> decide

/-- A pace as a tree. -/
def pacT (p : Pac) : RT := .node 5 0 ⟨#[]⟩ [⟨#[100, 111, 119, 110]⟩, ⟨#[100, 111, 119, 110, 115, 112, 97, 110]⟩, ⟨#[117, 112]⟩, ⟨#[117, 112, 115, 112, 97, 110]⟩] [.node 2 p.down ⟨#[]⟩ [] [], .node 3 0 ⟨(spanText p.downs).toArray⟩ [] [], .node 2 p.up ⟨#[]⟩ [] [], .node 3 0 ⟨(spanText p.ups).toArray⟩ [] []]

theorem pacT_leaves (p : Pac) (hp : p.ok) : ∀ t ∈ (pacT p).kids, LeafK t := by
  intro t ht
  have hmem : t = .node 2 p.down ⟨#[]⟩ [] [] ∨ t = .node 3 0 ⟨(spanText p.downs).toArray⟩ [] [] ∨ t = .node 2 p.up ⟨#[]⟩ [] [] ∨ t = .node 3 0 ⟨(spanText p.ups).toArray⟩ [] [] := by simpa [pacT, RT.kids] using ht
  rcases hmem with rfl | rfl | rfl | rfl
  · exact leafK _ _ _ ⟨by decide, by decide⟩ hp.2.1 (by decide)
  · exact leafK _ _ _ ⟨by decide, by decide⟩ ⟨by decide, by decide⟩ (span_fit _ hp.2.2.2.1 hp.2.2.2.2)
  · exact leafK _ _ _ ⟨by decide, by decide⟩ hp.1 (by decide)
  · exact leafK _ _ _ ⟨by decide, by decide⟩ ⟨by decide, by decide⟩ (span_fit _ hp.2.2.1.1 hp.2.2.1.2)
theorem pacT_keys (p : Pac) : ∀ k ∈ (pacT p).keys, k.size ≤ maxLen := by
  intro t ht
  have hmem : t = ⟨#[100, 111, 119, 110]⟩ ∨ t = ⟨#[100, 111, 119, 110, 115, 112, 97, 110]⟩ ∨ t = ⟨#[117, 112]⟩ ∨ t = ⟨#[117, 112, 115, 112, 97, 110]⟩ := by simpa [pacT, RT.keys] using ht
  rcases hmem with rfl | rfl | rfl | rfl <;> decide

theorem metT_sz (m : Met) (h0 : -9223372036854775808 ≤ m.goal) (h1 : m.goal ≤ 9223372036854775807) : (metT m).sz ≤ m.name.size + 200 := by
  have a := amt_len m.goal h0 h1
  have c : (kindB m.kind).size ≤ 5 := by
    unfold kindB
    repeat' split
    all_goals decide
  have e : (⟨(amtText m.goal).toArray⟩ : ByteArray).size = (amtText m.goal).length := by show (amtText m.goal).toArray.size = _; simp
  have k1 : (⟨#[103, 111, 97, 108]⟩ : ByteArray).size = 4 := rfl
  have k2 : (⟨#[107, 105, 110, 100]⟩ : ByteArray).size = 4 := rfl
  have k3 : (⟨#[110, 97, 109, 101]⟩ : ByteArray).size = 4 := rfl
  have k4 : (⟨#[]⟩ : ByteArray).size = 0 := rfl
  simp only [metT, RT.sz, szAll, strSz, List.length_cons, List.length_nil, List.map_cons, List.map_nil, List.sum_cons, List.sum_nil, e, k1, k2, k3, k4]
  omega
theorem pacT_sz (p : Pac) (h : p.ok) : (pacT p).sz ≤ 400 := by
  have a := span_len p.ups h.2.2.1.1 h.2.2.1.2
  have c := span_len p.downs h.2.2.2.1 h.2.2.2.2
  have e : (⟨(spanText p.ups).toArray⟩ : ByteArray).size = (spanText p.ups).length := by show (spanText p.ups).toArray.size = _; simp
  have e' : (⟨(spanText p.downs).toArray⟩ : ByteArray).size = (spanText p.downs).length := by show (spanText p.downs).toArray.size = _; simp
  have k1 : (⟨#[100, 111, 119, 110]⟩ : ByteArray).size = 4 := rfl
  have k2 : (⟨#[100, 111, 119, 110, 115, 112, 97, 110]⟩ : ByteArray).size = 8 := rfl
  have k3 : (⟨#[117, 112]⟩ : ByteArray).size = 2 := rfl
  have k4 : (⟨#[117, 112, 115, 112, 97, 110]⟩ : ByteArray).size = 6 := rfl
  have k5 : (⟨#[]⟩ : ByteArray).size = 0 := rfl
  simp only [pacT, RT.sz, szAll, strSz, List.length_cons, List.length_nil, List.map_cons, List.map_nil, List.sum_cons, List.sum_nil, e, e', k1, k2, k3, k4, k5]
  omega

/-- What was laid by a call becomes the result. -/
theorem res_keep {w W X : World} {a : Obj} {zs : Array Value} {W' : World} {T : RT} {kr dr : Value} {G : List Nat} (_ : Two w W a (.cells zs 32)) (hl : Lies W' T kr dr G) (hf : Fresh X W' G) (hX : W.heap.size ≤ X.heap.size) :
    Lies W' T kr dr G ∧ Fresh w W' G ∧ ∀ x ∈ G, w.heap.size + 2 ≤ x := by
  rename_i h
  exact ⟨hl, hf.earlier (by have := h.size; omega), fun x hx => by have := hf.old x hx; have := h.size; omega⟩
theorem res_fin {w W : World} {a : Obj} {z0 z1 z2 z3 z4 : Value} {T : RT} {kr dr : Value} {G : List Nat} (h : Two w W a (.cells #[z0, z1, z2, z3, z4] 32)) (hl : Lies W T kr dr G ∧ Fresh w W G ∧ ∀ x ∈ G, w.heap.size + 2 ≤ x) :
    (set5 W (w.heap.size + 1) 0 (.int .i64 T.k) (.int .i64 T.n) (.string T.s) kr dr).heap[w.heap.size + 1]? = some (.cells #[.int .i64 T.k, .int .i64 T.n, .string T.s, kr, dr] 32 (0, 0)) ∧ Lies (set5 W (w.heap.size + 1) 0 (.int .i64 T.k) (.int .i64 T.n) (.string T.s) kr dr) T kr dr G ∧
    Fresh w (set5 W (w.heap.size + 1) 0 (.int .i64 T.k) (.int .i64 T.n) (.string T.s) kr dr) G ∧ Below w.heap.size w (set5 W (w.heap.size + 1) 0 (.int .i64 T.k) (.int .i64 T.n) (.string T.s) kr dr) := by
  obtain ⟨h1, h2, h3⟩ := hl
  have keep : ∀ x ∈ G, (set5 W (w.heap.size + 1) 0 (.int .i64 T.k) (.int .i64 T.n) (.string T.s) kr dr).heap[x]? = W.heap[x]? := fun x hx => set5_other _ _ _ _ _ _ _ _ _ (by have := h3 x hx; omega)
  exact ⟨set5_end h.res _ _ _ _ _, h1.carry keep, h2.carry keep, set5_below h.below (by omega) _ _ _ _ _ _⟩

theorem sh_in (x : Int) (w : World) : Calls Tryz.prog 53 #[.int .i64 x, .int .i64 1, .int .i64 3] w fun e w' => e = .returned (.bool (decide (1 ≤ x) && decide (x ≤ 3))) ∧ w' = w := by
  by_cases h1 : 1 ≤ x
  · by_cases h2 : x ≤ 3
    · go_enter Tryz.func53, Tryz.ntmps53
      go_wp2
      go_ret
      exact ⟨by simp [h1, h2], rfl⟩
    · go_enter Tryz.func53, Tryz.ntmps53
      go_wp2
      go_ret
      exact ⟨by simp [h2], rfl⟩
  · go_enter Tryz.func53, Tryz.ntmps53
    go_wp2
    go_ret
    exact ⟨by simp; omega, rfl⟩

/-- The model's word of a kind. -/
theorem spec_l7Kind (k : Int) (w : World) : Calls Tryz.prog 93 #[.int .i64 k] w fun e w' => e = .returned (.string (kindB k)) ∧ Below w.heap.size w w' := by
  have H1 := Lib.hid (sh_in k w)
  by_cases h1 : k = 1
  · subst h1
    go_enter Tryz.func93, Tryz.ntmps93
    go_wp2_with (first | (go_at_call 53; refine H1.out.mono ?_; rintro e w1 ⟨rfl, e1⟩; subst e1) | fail)
    go_ret
    exact ⟨rfl, (Below.refl _ _).alloc (Nat.le_refl _) _⟩
  by_cases h2 : k = 2
  · subst h2
    go_enter Tryz.func93, Tryz.ntmps93
    go_wp2_with (first | (go_at_call 53; refine H1.out.mono ?_; rintro e w1 ⟨rfl, e1⟩; subst e1) | fail)
    go_ret
    exact ⟨rfl, (Below.refl _ _).alloc (Nat.le_refl _) _⟩
  by_cases h3 : k = 3
  · subst h3
    go_enter Tryz.func93, Tryz.ntmps93
    go_wp2_with (first | (go_at_call 53; refine H1.out.mono ?_; rintro e w1 ⟨rfl, e1⟩; subst e1) | fail)
    go_ret
    exact ⟨rfl, (Below.refl _ _).alloc (Nat.le_refl _) _⟩
  have hb : (decide (1 ≤ k) && decide (k ≤ 3)) = false := by
    by_cases a : 1 ≤ k
    · have : ¬ k ≤ 3 := by omega
      simp [this]
    · simp [a]
  rw [hb] at H1
  go_enter Tryz.func93, Tryz.ntmps93
  go_wp2_with (first | (go_at_call 53; refine H1.out.mono ?_; rintro e w1 ⟨rfl, e1⟩; subst e1) | fail)
  go_ret
  exact ⟨by simp [kindB, h1, h2, h3], Below.refl _ _⟩
end Go.Proofs.YtfmkhogpnnobeaaGreatDoor

/- plain facts on a block that a function laid, in every later world that has all earlier blocks as they were. -/
namespace Go.Proofs.YtfmkhogpnnobeaaGreatDoor
open Go Go.RowKit

/-- All that lay in w0 lies in wr; the block B bears these cells. -/
structure Bx (w0 wr : World) (B : Nat) (cs : Array Value) (t : TypeId) : Prop where
  below : Below w0.heap.size w0 wr
  blk : wr.heap[B]? = some (.cells cs t (0, 0))

theorem Bx.start (w : World) (cs : Array Value) (t : TypeId) : Bx w (w.alloc (.cells cs t)) w.heap.size cs t :=
  ⟨(Below.refl _ w).alloc (Nat.le_refl _) _, by show (w.heap.push _)[w.heap.size]? = _; simp⟩

theorem Bx.next {w0 wr w1 : World} {B : Nat} {cs : Array Value} {t : TypeId} (h : Bx w0 wr B cs t) (hb : Below wr.heap.size wr w1) : Bx w0 w1 B cs t :=
  ⟨h.below.trans (hb.mono h.below.size), (hb.block _ (Array.getElem?_eq_some_iff.1 h.blk).1).trans h.blk⟩

theorem Bx.cell {w0 wr : World} {B : Nat} {cs : Array Value} {t : TypeId} (h : Bx w0 wr B cs t) (o : Nat) : wr.cell? ⟨B, o, none⟩ = cs[o]? := by
  simp [World.cell?, h.blk]

/-- A further block. -/
theorem Bx.add {w0 wr : World} {B : Nat} {cs : Array Value} {t : TypeId} (h : Bx w0 wr B cs t) (cs' : Array Value) (t' : TypeId) : Bx w0 (wr.alloc (.cells cs' t')) wr.heap.size cs' t' :=
  ⟨h.below.trans (((Below.refl _ wr).alloc (Nat.le_refl _) _).mono h.below.size), by show (wr.heap.push _)[wr.heap.size]? = _; simp⟩

theorem Bx.alloc {w0 wr : World} {B : Nat} {cs : Array Value} {t : TypeId} (h : Bx w0 wr B cs t) (o : Obj) : Bx w0 (wr.alloc o) B cs t :=
  h.next ((Below.refl _ wr).alloc (Nat.le_refl _) _)

theorem Bx.drew {w0 wr : World} {B : Nat} {cs : Array Value} {t : TypeId} (h : Bx w0 wr B cs t) (n : Nat) : Bx w0 (wr.drewN n) B cs t :=
  h.next ((Below.refl _ wr).trans ⟨rfl, rfl, rfl, Nat.le_refl _, fun _ _ => rfl⟩)
end Go.Proofs.YtfmkhogpnnobeaaGreatDoor

/- plain facts on where a law stands that holds what a function answered against what is wanted, marks it, and looks whether the marks are held. -/
namespace Go.Proofs.YtfmkhogpnnobeaaGreatDoor
open Go Go.RowKit

mutual
theorem cnt_sz : (T : RT) → T.cnt ≤ 3 * T.sz
  | .node _ _ _ keys kids => by
    have := cntAll_sz kids
    rw [RT.cnt, RT.sz]
    omega
theorem cntAll_sz : (l : List RT) → cntAll l ≤ 3 * (l.length + szAll l)
  | [] => by simp [cntAll]
  | t :: l => by
    have h1 := cnt_sz t
    have h2 := cntAll_sz l
    simp only [cntAll, szAll, List.length_cons]
    omega
end

theorem below_but {w wr w1 : World} {G : List Nat} (h : Below w.heap.size w wr) (hb : But G wr w1) (hG : ∀ x ∈ G, w.heap.size ≤ x) : Below w.heap.size w w1 :=
  ⟨hb.os.trans h.os, hb.tape.trans h.tape, hb.output.trans h.output, Nat.le_trans h.size hb.size, fun k hk => (hb.block k (Nat.lt_of_lt_of_le hk h.size) (fun hx => by have := hG k hx; omega)).trans (h.block k hk)⟩

theorem bx_but {w0 wr w1 : World} {B : Nat} {cs : Array Value} {t : TypeId} {G : List Nat} (h : Bx w0 wr B cs t) (hb : But G wr w1) (hB : B ∉ G) (hG : ∀ x ∈ G, w0.heap.size ≤ x) : Bx w0 w1 B cs t :=
  ⟨below_but h.below hb hG, (hb.block B (Array.getElem?_eq_some_iff.1 h.blk).1 hB).trans h.blk⟩

/-- What is wanted lies behind block Bw, what was answered behind block Bg, each in its own memory. -/
structure GState (w wr : World) (T TG : RT) (kW vW kG vG : Value) (Bw Bg : Nat) (FW FG : List Nat) : Prop where
  below : Below w.heap.size w wr
  boxW : wr.heap[Bw]? = some (.cells #[.int .i64 T.k, .int .i64 T.n, .string T.s, kW, vW] 32 (0, 0))
  boxG : wr.heap[Bg]? = some (.cells #[.int .i64 T.k, .int .i64 T.n, .string T.s, kG, vG] 32 (0, 0))
  lieW : Lies wr T kW vW FW
  lieG : Lies wr TG kG vG FG
  nodup : FG.Nodup
  free : ∀ b ∈ FG, ∀ o, wr.frozen? ⟨b, o, none⟩ = false
  apart : Bw ∉ FG ∧ Bg ∉ FG ∧ ∀ x ∈ FW, x ∉ FG
  old : ∀ x ∈ FG, w.heap.size ≤ x

section
variable {w wr w1 : World} {T TG : RT} {kW vW kG vG : Value} {Bw Bg : Nat} {FW FG G : List Nat}

theorem GState.ltW (h : GState w wr T TG kW vW kG vG Bw Bg FW FG) : Bw < wr.heap.size := (Array.getElem?_eq_some_iff.1 h.boxW).1
theorem GState.ltG (h : GState w wr T TG kW vW kG vG Bw Bg FW FG) : Bg < wr.heap.size := (Array.getElem?_eq_some_iff.1 h.boxG).1

theorem GState.next (h : GState w wr T TG kW vW kG vG Bw Bg FW FG) (hb : Below wr.heap.size wr w1) : GState w w1 T TG kW vW kG vG Bw Bg FW FG :=
  ⟨h.below.trans (hb.mono h.below.size), (hb.block _ h.ltW).trans h.boxW, (hb.block _ h.ltG).trans h.boxG, h.lieW.stay hb (Nat.le_refl _), h.lieG.stay hb (Nat.le_refl _), h.nodup,
    fun b hbF o => (hb.frozen (by exact h.lieG.lt b hbF)).trans (h.free b hbF o), h.apart, h.old⟩

/-- Something else has been written: neither of the two. -/
theorem GState.but (h : GState w wr T TG kW vW kG vG Bw Bg FW FG) (hb : But G wr w1) (hW : Bw ∉ G) (hG : Bg ∉ G) (hFW : ∀ x ∈ FW, x ∉ G) (hFG : ∀ x ∈ FG, x ∉ G) (hold : ∀ x ∈ G, w.heap.size ≤ x) : GState w w1 T TG kW vW kG vG Bw Bg FW FG :=
  ⟨below_but h.below hb hold, (hb.block _ h.ltW hW).trans h.boxW, (hb.block _ h.ltG hG).trans h.boxG, h.lieW.but hb hFW, h.lieG.but hb hFG, h.nodup, fun b hbF o => (hb.free b (h.lieG.lt b hbF) o).trans (h.free b hbF o), h.apart, h.old⟩

/-- What was answered has been marked. -/
theorem GState.mark (h : GState w wr T TG kW vW kG vG Bw Bg FW FG) (hb : But FG wr w1) {TM : RT} (hl : Lies w1 TM kG vG FG) : GState w w1 T TM kW vW kG vG Bw Bg FW FG :=
  ⟨below_but h.below hb h.old, (hb.block _ h.ltW h.apart.1).trans h.boxW, (hb.block _ h.ltG h.apart.2.1).trans h.boxG, h.lieW.but hb h.apart.2.2, hl, h.nodup, fun b hbF o => (hb.free b (h.lieG.lt b hbF) o).trans (h.free b hbF o), h.apart, h.old⟩
end
end Go.Proofs.YtfmkhogpnnobeaaGreatDoor

/- how great a map is once a key has been set in it. -/
namespace Go.Proofs.YtfmkhogpnnobeaaGreatDoor
open Go Go.RowKit

theorem cntAll_append (a b : List RT) : cntAll (a ++ b) = cntAll a + cntAll b := by
  induction a with
  | nil => simp [cntAll]
  | cons t l ih => simp only [List.cons_append, cntAll, ih]; omega

theorem szAll_append (a b : List RT) : szAll (a ++ b) = szAll a + szAll b := by
  induction a with
  | nil => simp [szAll]
  | cons t l ih => simp only [List.cons_append, szAll, ih]; omega

theorem strSz_append (a b : List ByteArray) : strSz (a ++ b) = strSz a + strSz b := by
  induction a with
  | nil => simp [strSz]
  | cons t l ih => simp only [strSz, List.cons_append, List.map_cons, List.sum_cons] at ih ⊢; omega

theorem cntAll_set (X : RT) : (l : List RT) → (i : Nat) → cntAll (l.set i X) ≤ cntAll l + 3 + X.cnt
  | [], _ => by simp [cntAll]
  | t :: l, 0 => by simp only [List.set_cons_zero, cntAll]; omega
  | t :: l, i + 1 => by
    have := cntAll_set X l i
    simp only [List.set_cons_succ, cntAll]; omega

theorem szAll_set (X : RT) : (l : List RT) → (i : Nat) → szAll (l.set i X) ≤ szAll l + X.sz
  | [], _ => by simp [szAll]
  | t :: l, 0 => by simp only [List.set_cons_zero, szAll]; omega
  | t :: l, i + 1 => by
    have := szAll_set X l i
    simp only [List.set_cons_succ, szAll]; omega

theorem setT_cnt (T X : RT) (key : ByteArray) : (setT T key X).cnt ≤ T.cnt + X.cnt + 4 := by
  obtain ⟨k, n, s, keys, kids⟩ := T
  unfold setT
  split
  · rename_i hm
    split
    · have := cntAll_set X kids (firstN keys key)
      simp only [RT.cnt, RT.kids, RT.keys]
      omega
    · have e := cntAll_append (kids.take (placeN keys key)) (kids.drop (placeN keys key))
      rw [List.take_append_drop] at e
      have hl := insAt_length key (placeN_le keys key)
      simp only [RT.cnt, RT.kids, RT.keys, hl]
      simp only [insAt, cntAll_append, cntAll]
      omega
  · omega

theorem setT_sz (T X : RT) (key : ByteArray) : (setT T key X).sz ≤ T.sz + X.sz + key.size + 2 := by
  obtain ⟨k, n, s, keys, kids⟩ := T
  unfold setT
  split
  · rename_i hm
    have hlen : keys.length = kids.length := hm.2
    split
    · have := szAll_set X kids (firstN keys key)
      simp only [RT.sz, RT.kids, RT.keys, RT.s, List.length_set]
      omega
    · have e := szAll_append (kids.take (placeN keys key)) (kids.drop (placeN keys key))
      rw [List.take_append_drop] at e
      have e2 := strSz_append (keys.take (placeN keys key)) (keys.drop (placeN keys key))
      rw [List.take_append_drop] at e2
      have hl := insAt_length key (placeN_le keys key)
      have hl2 := insAt_length (l := kids) X (show placeN keys key ≤ kids.length by have := placeN_le keys key; omega)
      simp only [RT.sz, RT.kids, RT.keys, RT.s, hl, hl2]
      have e3 : strSz (key :: keys.drop (placeN keys key)) = key.size + strSz (keys.drop (placeN keys key)) := by simp [strSz]
      simp only [insAt, szAll_append, strSz_append, szAll, e3]
      omega
  · omega
end Go.Proofs.YtfmkhogpnnobeaaGreatDoor

/- plain facts on the trees that orders are told as: metrics a list, notes a map, the full shape. -/
namespace Go.Proofs.YtfmkhogpnnobeaaGreatDoor
open Go Go.RowKit

def metsT (ms : List Met) : RT := .node 4 0 ⟨#[]⟩ [] (ms.map metT)
def noteK (n : Not) : RT := .node 3 0 n.text [] []
def notesT (ns : List Not) : RT := .node 5 0 ⟨#[]⟩ (ns.map (·.key)) (ns.map noteK)
/-- An order in the full shape. -/
def fullT (o : Ord) : RT := .node 5 0 ⟨#[]⟩
  [⟨#[104, 105, 103, 104]⟩, ⟨#[107, 105, 110, 100]⟩, ⟨#[108, 111, 119]⟩, ⟨#[109, 101, 116, 114, 105, 99, 115]⟩, ⟨#[110, 97, 109, 101]⟩, ⟨#[110, 111, 116, 101, 115]⟩, ⟨#[112, 97, 99, 101]⟩, ⟨#[116, 97, 114, 103, 101, 116]⟩]
  [.node 2 o.high ⟨#[]⟩ [] [], .node 3 0 ⟨#[102, 117, 108, 108]⟩ [] [], .node 2 o.low ⟨#[]⟩ [] [], metsT o.mets, .node 3 0 o.name [] [], notesT o.notes, pacT o.pace, .node 3 0 o.target [] []]
end Go.Proofs.YtfmkhogpnnobeaaGreatDoor
