/-
  What is proved: plain facts on decimal numerals and on lists of bytes; no program, no condition beyond each theorem's own.
-/
import Derived.Lib.ItoaNum
import Derived.Lib.ItoaLen
namespace Go.Proofs.YtmbjmjbljnlifaaDoor.Num
open Go

/-- What is still to be written ahead of 'out'. -/
def rest (u : Nat) (out : List UInt8) : List UInt8 := if u = 0 then out else Lib.decDigits u ++ out

theorem rest_zero (out : List UInt8) : rest 0 out = out := rfl
theorem rest_pos {u : Nat} (h : u ≠ 0) (out : List UInt8) : rest u out = Lib.decDigits u ++ out := if_neg h

theorem rest_step {u : Nat} (h : u ≠ 0) (out : List UInt8) : rest (u / 10) (UInt8.ofNat (48 + u % 10) :: out) = rest u out := by
  rw [rest_pos h]
  by_cases hs : u < 10
  · rw [Lib.decDigits, dif_pos hs, Nat.div_eq_of_lt hs, rest_zero, Nat.mod_eq_of_lt hs]; rfl
  · rw [rest_pos (by omega), Lib.decDigits.eq_def u, dif_neg hs]; simp

theorem rest_length (u : Nat) (out : List UInt8) : out.length ≤ (rest u out).length := by
  unfold rest; split <;> simp

theorem itoa_pos {n : Int} (h : 0 < n) : Lib.itoa n = rest n.natAbs [] := by
  rw [rest_pos (by omega)]; unfold Lib.itoa; rw [if_neg (by omega)]
  have : n.toNat = n.natAbs := by omega
  rw [this]; simp
theorem itoa_neg {n : Int} (h : n < 0) : Lib.itoa n = 45 :: rest n.natAbs [] := by
  rw [rest_pos (by omega)]; unfold Lib.itoa; rw [if_pos h]; simp
theorem itoa_zero : Lib.itoa 0 = [48] := by
  show Lib.decDigits 0 = [48]
  rw [Lib.decDigits, dif_pos (by decide)]; rfl
theorem itoa_length (n : Int) (h0 : -9223372036854775808 ≤ n) (h1 : n ≤ 9223372036854775807) : (Lib.itoa n).length ≤ 21 := Lib.itoa_length_le n h0 h1

end Go.Proofs.YtmbjmjbljnlifaaDoor.Num
