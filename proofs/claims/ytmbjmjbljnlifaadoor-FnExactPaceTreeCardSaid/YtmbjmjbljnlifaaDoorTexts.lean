/-
  What is proved: AmountText and SpanText, the program's and the model's, at every int; condition of the program's: the library's table of powers of ten starts as the program's text lays it.
-/
import Derived.Test.YtmbjmjbljnlifaaDoorMeas
import Derived.Test.YtmbjmjbljnlifaaDoorDigitsW
import Derived.Test.YtmbjmjbljnlifaaDoorFacts
import Derived.Lib.Hide
namespace Go.Proofs.YtmbjmjbljnlifaaDoor
open Go Go.RowKit

theorem ret_add {a b c : List UInt8} (h : c = a ++ b) : Ending.returned (.string ({ data := a.toArray } ++ { data := b.toArray })) = .returned (.string ⟨c.toArray⟩) := by
  rw [h, ByteArray.mk_append_mk]

set_option maxHeartbeats 400000 in
theorem spec_amountText_out (n : Int) (h0 : -9223372036854775808 ≤ n) (h1 : n ≤ 9223372036854775807) (hx : n < 0 ∨ 1000000000000 < n) (w : World) :
    Calls Tryd.prog 18 #[.int .i64 n] w fun e w' => e = .returned (.string ⟨(amtText n).toArray⟩) ∧ Below w.heap.size w w' := by
  have e : Hid (amtText n = []) := if_pos hx
  by_cases hA : n < 0
  · have hA' : ¬ 0 ≤ n := by omega
    go_enter Tryd.func18, Tryd.ntmps18
    go_wp2
    go_ret
    exact ⟨by rw [e.out]; rfl, Below.refl _ _⟩
  · have hA' : 0 ≤ n := by omega
    have hB : 1000000000000 < n := by omega
    have hB' : ¬ n ≤ 1000000000000 := by omega
    go_enter Tryd.func18, Tryd.ntmps18
    go_wp2
    go_ret
    exact ⟨by rw [e.out]; rfl, Below.refl _ _⟩

set_option maxHeartbeats 400000 in
theorem spec_amountText_zero (w : World) :
    Calls Tryd.prog 18 #[.int .i64 0] w fun e w' => e = .returned (.string ⟨(amtText 0).toArray⟩) ∧ Below w.heap.size w w' := by
  have e : Hid (amtText 0 = Lib.itoa 0) := rfl
  have hl := Num.itoa_length (0) (by omega) (by omega)
  go_enter Tryd.func18, Tryd.ntmps18
  go_wp2_with (first | (go_at_call 35; refine (spec_digits (0) (by omega) (by omega) _).mono ?_; rintro e w1 ⟨rfl, hb1⟩) | go_in)
  go_ret
  exact ⟨ret_str e.out.symm, hb1⟩

set_option maxHeartbeats 400000 in
theorem spec_amountText_1000000 (n : Int) (h0 : 0 < n) (h1 : n ≤ 1000000000000) (q1000000 : n % 1000000 = 0) (w : World) :
    Calls Tryd.prog 18 #[.int .i64 n] w fun e w' => e = .returned (.string ⟨(amtText n).toArray⟩) ∧ Below w.heap.size w w' := by
  have e : Hid (amtText n = Lib.itoa (n / 1000000) ++ [107]) := (if_neg (by omega)).trans (if_pos (by omega))
  have z1 : (n != 0) = true := by simp; omega
  have z2 : ¬ n < 0 := by omega
  have z3 : 0 ≤ n := by omega
  have z4 : ¬ 1000000000000 < n := by omega
  have z5 : ¬ n = 0 := by omega
  have hl := Num.itoa_length (n / 1000000) (by omega) (by omega)
  go_enter Tryd.func18, Tryd.ntmps18
  go_wp2_with (first | (go_at_call 35; refine (spec_digits (n / 1000000) (by omega) (by omega) _).mono ?_; rintro e w1 ⟨rfl, hb1⟩) | go_in)
  go_ret
  exact ⟨ret_add e.out, hb1⟩

set_option maxHeartbeats 400000 in
theorem spec_amountText_1000 (n : Int) (h0 : 0 < n) (h1 : n ≤ 1000000000000) (_q1000000 : ¬ n % 1000000 = 0) (q1000 : n % 1000 = 0) (w : World) :
    Calls Tryd.prog 18 #[.int .i64 n] w fun e w' => e = .returned (.string ⟨(amtText n).toArray⟩) ∧ Below w.heap.size w w' := by
  have e : Hid (amtText n = Lib.itoa (n / 1000)) := (if_neg (by omega)).trans ((if_neg (by omega)).trans (if_pos (by omega)))
  have z1 : (n != 0) = true := by simp; omega
  have z2 : ¬ n < 0 := by omega
  have z3 : 0 ≤ n := by omega
  have z4 : ¬ 1000000000000 < n := by omega
  have z5 : ¬ n = 0 := by omega
  have hl := Num.itoa_length (n / 1000) (by omega) (by omega)
  go_enter Tryd.func18, Tryd.ntmps18
  go_wp2_with (first | (go_at_call 35; refine (spec_digits (n / 1000) (by omega) (by omega) _).mono ?_; rintro e w1 ⟨rfl, hb1⟩) | go_in)
  go_ret
  exact ⟨ret_str e.out.symm, hb1⟩

set_option maxHeartbeats 400000 in
theorem spec_amountText_1 (n : Int) (h0 : 0 < n) (h1 : n ≤ 1000000000000) (_q1000000 : ¬ n % 1000000 = 0) (_q1000 : ¬ n % 1000 = 0) (w : World) :
    Calls Tryd.prog 18 #[.int .i64 n] w fun e w' => e = .returned (.string ⟨(amtText n).toArray⟩) ∧ Below w.heap.size w w' := by
  have e : Hid (amtText n = Lib.itoa (n) ++ [109]) := (if_neg (by omega)).trans ((if_neg (by omega)).trans (if_neg (by omega)))
  have z1 : (n != 0) = true := by simp; omega
  have z2 : ¬ n < 0 := by omega
  have z3 : 0 ≤ n := by omega
  have z4 : ¬ 1000000000000 < n := by omega
  have z5 : ¬ n = 0 := by omega
  have hl := Num.itoa_length (n) (by omega) (by omega)
  go_enter Tryd.func18, Tryd.ntmps18
  go_wp2_with (first | (go_at_call 35; refine (spec_digits (n) (by omega) (by omega) _).mono ?_; rintro e w1 ⟨rfl, hb1⟩) | go_in)
  go_ret
  exact ⟨ret_add e.out, hb1⟩

theorem spec_amountText (n : Int) (h0 : -9223372036854775808 ≤ n) (h1 : n ≤ 9223372036854775807) (w : World) :
    Calls Tryd.prog 18 #[.int .i64 n] w fun e w' => e = .returned (.string ⟨(amtText n).toArray⟩) ∧ Below w.heap.size w w' := by
  by_cases hx : n < 0 ∨ 1000000000000 < n
  · exact spec_amountText_out n h0 h1 hx w
  · by_cases hz : n = 0
    · subst hz; exact spec_amountText_zero w
    · by_cases q1000000 : n % 1000000 = 0
      · exact spec_amountText_1000000 n (by omega) (by omega) q1000000 w
      · by_cases q1000 : n % 1000 = 0
        · exact spec_amountText_1000 n (by omega) (by omega) q1000000 q1000 w
        · exact spec_amountText_1 n (by omega) (by omega) q1000000 q1000 w

set_option maxHeartbeats 400000 in
theorem spec_spanText_out (n : Int) (h0 : -9223372036854775808 ≤ n) (h1 : n ≤ 9223372036854775807) (hx : n < 0 ∨ 1000000 < n) (w : World) :
    Calls Tryd.prog 30 #[.int .i64 n] w fun e w' => e = .returned (.string ⟨(spanText n).toArray⟩) ∧ Below w.heap.size w w' := by
  have e : Hid (spanText n = []) := if_pos hx
  by_cases hA : n < 0
  · have hA' : ¬ 0 ≤ n := by omega
    go_enter Tryd.func30, Tryd.ntmps30
    go_wp2
    go_ret
    exact ⟨by rw [e.out]; rfl, Below.refl _ _⟩
  · have hA' : 0 ≤ n := by omega
    have hB : 1000000 < n := by omega
    have hB' : ¬ n ≤ 1000000 := by omega
    go_enter Tryd.func30, Tryd.ntmps30
    go_wp2
    go_ret
    exact ⟨by rw [e.out]; rfl, Below.refl _ _⟩

set_option maxHeartbeats 400000 in
theorem spec_spanText_zero (w : World) :
    Calls Tryd.prog 30 #[.int .i64 0] w fun e w' => e = .returned (.string ⟨(spanText 0).toArray⟩) ∧ Below w.heap.size w w' := by
  have e : Hid (spanText 0 = Lib.itoa 0 ++ [115]) := rfl
  have hl := Num.itoa_length (0) (by omega) (by omega)
  go_enter Tryd.func30, Tryd.ntmps30
  go_wp2_with (first | (go_at_call 35; refine (spec_digits (0) (by omega) (by omega) _).mono ?_; rintro e w1 ⟨rfl, hb1⟩) | go_in)
  go_ret
  exact ⟨ret_add e.out, hb1⟩

set_option maxHeartbeats 400000 in
theorem spec_spanText_3600 (n : Int) (h0 : 0 < n) (h1 : n ≤ 1000000) (q3600 : n % 3600 = 0) (w : World) :
    Calls Tryd.prog 30 #[.int .i64 n] w fun e w' => e = .returned (.string ⟨(spanText n).toArray⟩) ∧ Below w.heap.size w w' := by
  have e : Hid (spanText n = Lib.itoa (n / 3600) ++ [104]) := (if_neg (by omega)).trans (if_pos (by omega))
  have z1 : (n != 0) = true := by simp; omega
  have z2 : ¬ n < 0 := by omega
  have z3 : 0 ≤ n := by omega
  have z4 : ¬ 1000000 < n := by omega
  have z5 : ¬ n = 0 := by omega
  have hl := Num.itoa_length (n / 3600) (by omega) (by omega)
  go_enter Tryd.func30, Tryd.ntmps30
  go_wp2_with (first | (go_at_call 35; refine (spec_digits (n / 3600) (by omega) (by omega) _).mono ?_; rintro e w1 ⟨rfl, hb1⟩) | go_in)
  go_ret
  exact ⟨ret_add e.out, hb1⟩

set_option maxHeartbeats 400000 in
theorem spec_spanText_60 (n : Int) (h0 : 0 < n) (h1 : n ≤ 1000000) (_q3600 : ¬ n % 3600 = 0) (q60 : n % 60 = 0) (w : World) :
    Calls Tryd.prog 30 #[.int .i64 n] w fun e w' => e = .returned (.string ⟨(spanText n).toArray⟩) ∧ Below w.heap.size w w' := by
  have e : Hid (spanText n = Lib.itoa (n / 60) ++ [109]) := (if_neg (by omega)).trans ((if_neg (by omega)).trans (if_pos (by omega)))
  have z1 : (n != 0) = true := by simp; omega
  have z2 : ¬ n < 0 := by omega
  have z3 : 0 ≤ n := by omega
  have z4 : ¬ 1000000 < n := by omega
  have z5 : ¬ n = 0 := by omega
  have hl := Num.itoa_length (n / 60) (by omega) (by omega)
  go_enter Tryd.func30, Tryd.ntmps30
  go_wp2_with (first | (go_at_call 35; refine (spec_digits (n / 60) (by omega) (by omega) _).mono ?_; rintro e w1 ⟨rfl, hb1⟩) | go_in)
  go_ret
  exact ⟨ret_add e.out, hb1⟩

set_option maxHeartbeats 400000 in
theorem spec_spanText_1 (n : Int) (h0 : 0 < n) (h1 : n ≤ 1000000) (_q3600 : ¬ n % 3600 = 0) (_q60 : ¬ n % 60 = 0) (w : World) :
    Calls Tryd.prog 30 #[.int .i64 n] w fun e w' => e = .returned (.string ⟨(spanText n).toArray⟩) ∧ Below w.heap.size w w' := by
  have e : Hid (spanText n = Lib.itoa (n) ++ [115]) := (if_neg (by omega)).trans ((if_neg (by omega)).trans (if_neg (by omega)))
  have z1 : (n != 0) = true := by simp; omega
  have z2 : ¬ n < 0 := by omega
  have z3 : 0 ≤ n := by omega
  have z4 : ¬ 1000000 < n := by omega
  have z5 : ¬ n = 0 := by omega
  have hl := Num.itoa_length (n) (by omega) (by omega)
  go_enter Tryd.func30, Tryd.ntmps30
  go_wp2_with (first | (go_at_call 35; refine (spec_digits (n) (by omega) (by omega) _).mono ?_; rintro e w1 ⟨rfl, hb1⟩) | go_in)
  go_ret
  exact ⟨ret_add e.out, hb1⟩

theorem spec_spanText (n : Int) (h0 : -9223372036854775808 ≤ n) (h1 : n ≤ 9223372036854775807) (w : World) :
    Calls Tryd.prog 30 #[.int .i64 n] w fun e w' => e = .returned (.string ⟨(spanText n).toArray⟩) ∧ Below w.heap.size w w' := by
  by_cases hx : n < 0 ∨ 1000000 < n
  · exact spec_spanText_out n h0 h1 hx w
  · by_cases hz : n = 0
    · subst hz; exact spec_spanText_zero w
    · by_cases q3600 : n % 3600 = 0
      · exact spec_spanText_3600 n (by omega) (by omega) q3600 w
      · by_cases q60 : n % 60 = 0
        · exact spec_spanText_60 n (by omega) (by omega) q3600 q60 w
        · exact spec_spanText_1 n (by omega) (by omega) q3600 q60 w

set_option maxHeartbeats 400000 in
theorem impl_amountText_out (n : Int) (h0 : -9223372036854775808 ≤ n) (h1 : n ≤ 9223372036854775807) (hx : n < 0 ∨ 1000000000000 < n) (w : World) :
    Calls Tryd.prog 20 #[.int .i64 n] w fun e w' => e = .returned (.string ⟨(amtText n).toArray⟩) ∧ Below w.heap.size w w' := by
  have e : Hid (amtText n = []) := if_pos hx
  by_cases hA : n < 0
  · have hA' : ¬ 0 ≤ n := by omega
    go_enter Tryd.func20, Tryd.ntmps20
    go_wp2
    go_ret
    exact ⟨by rw [e.out]; rfl, Below.refl _ _⟩
  · have hA' : 0 ≤ n := by omega
    have hB : 1000000000000 < n := by omega
    have hB' : ¬ n ≤ 1000000000000 := by omega
    go_enter Tryd.func20, Tryd.ntmps20
    go_wp2
    go_ret
    exact ⟨by rw [e.out]; rfl, Below.refl _ _⟩

set_option maxHeartbeats 400000 in
theorem impl_amountText_zero (w : World) (htab : Lib.TabIs Tryd.prog w "internal/strconv.uint64pow10" .u64 Lib.pow10Tab) :
    Calls Tryd.prog 20 #[.int .i64 0] w fun e w' => e = .returned (.string ⟨(amtText 0).toArray⟩) ∧ Below w.heap.size w w' := by
  have e : Hid (amtText 0 = Lib.itoa 0) := rfl
  have hl := Num.itoa_length (0) (by omega) (by omega)
  go_enter Tryd.func20, Tryd.ntmps20
  go_wp2_with (first | (go_at_call 37; refine (impl_digits (0) (by omega) (by omega) _ htab).mono ?_; rintro e w1 ⟨rfl, hb1⟩) | go_in)
  go_ret
  exact ⟨ret_str e.out.symm, hb1⟩

set_option maxHeartbeats 400000 in
theorem impl_amountText_1000000 (n : Int) (h0 : 0 < n) (h1 : n ≤ 1000000000000) (q1000000 : n % 1000000 = 0) (w : World) (htab : Lib.TabIs Tryd.prog w "internal/strconv.uint64pow10" .u64 Lib.pow10Tab) :
    Calls Tryd.prog 20 #[.int .i64 n] w fun e w' => e = .returned (.string ⟨(amtText n).toArray⟩) ∧ Below w.heap.size w w' := by
  have e : Hid (amtText n = Lib.itoa (n / 1000000) ++ [107]) := (if_neg (by omega)).trans (if_pos (by omega))
  have z1 : (n != 0) = true := by simp; omega
  have z2 : ¬ n < 0 := by omega
  have z3 : 0 ≤ n := by omega
  have z4 : ¬ 1000000000000 < n := by omega
  have z5 : ¬ n = 0 := by omega
  have hl := Num.itoa_length (n / 1000000) (by omega) (by omega)
  go_enter Tryd.func20, Tryd.ntmps20
  go_wp2_with (first | (go_at_call 37; refine (impl_digits (n / 1000000) (by omega) (by omega) _ htab).mono ?_; rintro e w1 ⟨rfl, hb1⟩) | go_in)
  go_ret
  exact ⟨ret_add e.out, hb1⟩

set_option maxHeartbeats 400000 in
theorem impl_amountText_1000 (n : Int) (h0 : 0 < n) (h1 : n ≤ 1000000000000) (_q1000000 : ¬ n % 1000000 = 0) (q1000 : n % 1000 = 0) (w : World) (htab : Lib.TabIs Tryd.prog w "internal/strconv.uint64pow10" .u64 Lib.pow10Tab) :
    Calls Tryd.prog 20 #[.int .i64 n] w fun e w' => e = .returned (.string ⟨(amtText n).toArray⟩) ∧ Below w.heap.size w w' := by
  have e : Hid (amtText n = Lib.itoa (n / 1000)) := (if_neg (by omega)).trans ((if_neg (by omega)).trans (if_pos (by omega)))
  have z1 : (n != 0) = true := by simp; omega
  have z2 : ¬ n < 0 := by omega
  have z3 : 0 ≤ n := by omega
  have z4 : ¬ 1000000000000 < n := by omega
  have z5 : ¬ n = 0 := by omega
  have hl := Num.itoa_length (n / 1000) (by omega) (by omega)
  go_enter Tryd.func20, Tryd.ntmps20
  go_wp2_with (first | (go_at_call 37; refine (impl_digits (n / 1000) (by omega) (by omega) _ htab).mono ?_; rintro e w1 ⟨rfl, hb1⟩) | go_in)
  go_ret
  exact ⟨ret_str e.out.symm, hb1⟩

set_option maxHeartbeats 400000 in
theorem impl_amountText_1 (n : Int) (h0 : 0 < n) (h1 : n ≤ 1000000000000) (_q1000000 : ¬ n % 1000000 = 0) (_q1000 : ¬ n % 1000 = 0) (w : World) (htab : Lib.TabIs Tryd.prog w "internal/strconv.uint64pow10" .u64 Lib.pow10Tab) :
    Calls Tryd.prog 20 #[.int .i64 n] w fun e w' => e = .returned (.string ⟨(amtText n).toArray⟩) ∧ Below w.heap.size w w' := by
  have e : Hid (amtText n = Lib.itoa (n) ++ [109]) := (if_neg (by omega)).trans ((if_neg (by omega)).trans (if_neg (by omega)))
  have z1 : (n != 0) = true := by simp; omega
  have z2 : ¬ n < 0 := by omega
  have z3 : 0 ≤ n := by omega
  have z4 : ¬ 1000000000000 < n := by omega
  have z5 : ¬ n = 0 := by omega
  have hl := Num.itoa_length (n) (by omega) (by omega)
  go_enter Tryd.func20, Tryd.ntmps20
  go_wp2_with (first | (go_at_call 37; refine (impl_digits (n) (by omega) (by omega) _ htab).mono ?_; rintro e w1 ⟨rfl, hb1⟩) | go_in)
  go_ret
  exact ⟨ret_add e.out, hb1⟩

theorem impl_amountText (n : Int) (h0 : -9223372036854775808 ≤ n) (h1 : n ≤ 9223372036854775807) (w : World) (htab : Lib.TabIs Tryd.prog w "internal/strconv.uint64pow10" .u64 Lib.pow10Tab) :
    Calls Tryd.prog 20 #[.int .i64 n] w fun e w' => e = .returned (.string ⟨(amtText n).toArray⟩) ∧ Below w.heap.size w w' := by
  by_cases hx : n < 0 ∨ 1000000000000 < n
  · exact impl_amountText_out n h0 h1 hx w
  · by_cases hz : n = 0
    · subst hz; exact impl_amountText_zero w htab
    · by_cases q1000000 : n % 1000000 = 0
      · exact impl_amountText_1000000 n (by omega) (by omega) q1000000 w htab
      · by_cases q1000 : n % 1000 = 0
        · exact impl_amountText_1000 n (by omega) (by omega) q1000000 q1000 w htab
        · exact impl_amountText_1 n (by omega) (by omega) q1000000 q1000 w htab

set_option maxHeartbeats 400000 in
theorem impl_spanText_out (n : Int) (h0 : -9223372036854775808 ≤ n) (h1 : n ≤ 9223372036854775807) (hx : n < 0 ∨ 1000000 < n) (w : World) :
    Calls Tryd.prog 32 #[.int .i64 n] w fun e w' => e = .returned (.string ⟨(spanText n).toArray⟩) ∧ Below w.heap.size w w' := by
  have e : Hid (spanText n = []) := if_pos hx
  by_cases hA : n < 0
  · have hA' : ¬ 0 ≤ n := by omega
    go_enter Tryd.func32, Tryd.ntmps32
    go_wp2
    go_ret
    exact ⟨by rw [e.out]; rfl, Below.refl _ _⟩
  · have hA' : 0 ≤ n := by omega
    have hB : 1000000 < n := by omega
    have hB' : ¬ n ≤ 1000000 := by omega
    go_enter Tryd.func32, Tryd.ntmps32
    go_wp2
    go_ret
    exact ⟨by rw [e.out]; rfl, Below.refl _ _⟩

set_option maxHeartbeats 400000 in
theorem impl_spanText_zero (w : World) (htab : Lib.TabIs Tryd.prog w "internal/strconv.uint64pow10" .u64 Lib.pow10Tab) :
    Calls Tryd.prog 32 #[.int .i64 0] w fun e w' => e = .returned (.string ⟨(spanText 0).toArray⟩) ∧ Below w.heap.size w w' := by
  have e : Hid (spanText 0 = Lib.itoa 0 ++ [115]) := rfl
  have hl := Num.itoa_length (0) (by omega) (by omega)
  go_enter Tryd.func32, Tryd.ntmps32
  go_wp2_with (first | (go_at_call 37; refine (impl_digits (0) (by omega) (by omega) _ htab).mono ?_; rintro e w1 ⟨rfl, hb1⟩) | go_in)
  go_ret
  exact ⟨ret_add e.out, hb1⟩

set_option maxHeartbeats 400000 in
theorem impl_spanText_3600 (n : Int) (h0 : 0 < n) (h1 : n ≤ 1000000) (q3600 : n % 3600 = 0) (w : World) (htab : Lib.TabIs Tryd.prog w "internal/strconv.uint64pow10" .u64 Lib.pow10Tab) :
    Calls Tryd.prog 32 #[.int .i64 n] w fun e w' => e = .returned (.string ⟨(spanText n).toArray⟩) ∧ Below w.heap.size w w' := by
  have e : Hid (spanText n = Lib.itoa (n / 3600) ++ [104]) := (if_neg (by omega)).trans (if_pos (by omega))
  have z1 : (n != 0) = true := by simp; omega
  have z2 : ¬ n < 0 := by omega
  have z3 : 0 ≤ n := by omega
  have z4 : ¬ 1000000 < n := by omega
  have z5 : ¬ n = 0 := by omega
  have hl := Num.itoa_length (n / 3600) (by omega) (by omega)
  go_enter Tryd.func32, Tryd.ntmps32
  go_wp2_with (first | (go_at_call 37; refine (impl_digits (n / 3600) (by omega) (by omega) _ htab).mono ?_; rintro e w1 ⟨rfl, hb1⟩) | go_in)
  go_ret
  exact ⟨ret_add e.out, hb1⟩

set_option maxHeartbeats 400000 in
theorem impl_spanText_60 (n : Int) (h0 : 0 < n) (h1 : n ≤ 1000000) (_q3600 : ¬ n % 3600 = 0) (q60 : n % 60 = 0) (w : World) (htab : Lib.TabIs Tryd.prog w "internal/strconv.uint64pow10" .u64 Lib.pow10Tab) :
    Calls Tryd.prog 32 #[.int .i64 n] w fun e w' => e = .returned (.string ⟨(spanText n).toArray⟩) ∧ Below w.heap.size w w' := by
  have e : Hid (spanText n = Lib.itoa (n / 60) ++ [109]) := (if_neg (by omega)).trans ((if_neg (by omega)).trans (if_pos (by omega)))
  have z1 : (n != 0) = true := by simp; omega
  have z2 : ¬ n < 0 := by omega
  have z3 : 0 ≤ n := by omega
  have z4 : ¬ 1000000 < n := by omega
  have z5 : ¬ n = 0 := by omega
  have hl := Num.itoa_length (n / 60) (by omega) (by omega)
  go_enter Tryd.func32, Tryd.ntmps32
  go_wp2_with (first | (go_at_call 37; refine (impl_digits (n / 60) (by omega) (by omega) _ htab).mono ?_; rintro e w1 ⟨rfl, hb1⟩) | go_in)
  go_ret
  exact ⟨ret_add e.out, hb1⟩

set_option maxHeartbeats 400000 in
theorem impl_spanText_1 (n : Int) (h0 : 0 < n) (h1 : n ≤ 1000000) (_q3600 : ¬ n % 3600 = 0) (_q60 : ¬ n % 60 = 0) (w : World) (htab : Lib.TabIs Tryd.prog w "internal/strconv.uint64pow10" .u64 Lib.pow10Tab) :
    Calls Tryd.prog 32 #[.int .i64 n] w fun e w' => e = .returned (.string ⟨(spanText n).toArray⟩) ∧ Below w.heap.size w w' := by
  have e : Hid (spanText n = Lib.itoa (n) ++ [115]) := (if_neg (by omega)).trans ((if_neg (by omega)).trans (if_neg (by omega)))
  have z1 : (n != 0) = true := by simp; omega
  have z2 : ¬ n < 0 := by omega
  have z3 : 0 ≤ n := by omega
  have z4 : ¬ 1000000 < n := by omega
  have z5 : ¬ n = 0 := by omega
  have hl := Num.itoa_length (n) (by omega) (by omega)
  go_enter Tryd.func32, Tryd.ntmps32
  go_wp2_with (first | (go_at_call 37; refine (impl_digits (n) (by omega) (by omega) _ htab).mono ?_; rintro e w1 ⟨rfl, hb1⟩) | go_in)
  go_ret
  exact ⟨ret_add e.out, hb1⟩

theorem impl_spanText (n : Int) (h0 : -9223372036854775808 ≤ n) (h1 : n ≤ 9223372036854775807) (w : World) (htab : Lib.TabIs Tryd.prog w "internal/strconv.uint64pow10" .u64 Lib.pow10Tab) :
    Calls Tryd.prog 32 #[.int .i64 n] w fun e w' => e = .returned (.string ⟨(spanText n).toArray⟩) ∧ Below w.heap.size w w' := by
  by_cases hx : n < 0 ∨ 1000000 < n
  · exact impl_spanText_out n h0 h1 hx w
  · by_cases hz : n = 0
    · subst hz; exact impl_spanText_zero w htab
    · by_cases q3600 : n % 3600 = 0
      · exact impl_spanText_3600 n (by omega) (by omega) q3600 w htab
      · by_cases q60 : n % 60 = 0
        · exact impl_spanText_60 n (by omega) (by omega) q3600 q60 w htab
        · exact impl_spanText_1 n (by omega) (by omega) q3600 q60 w htab

end Go.Proofs.YtmbjmjbljnlifaaDoor
