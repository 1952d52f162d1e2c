/-
  What is proved: the model's Digits hands back the decimal numeral of any int; it makes memory and turns none that was there.
-/
import Derived.Test.YtmbjmjbljnlifaaDoorNum
import Derived.Test.YtmbjmjbljnlifaaDoorRows
import Derived.WalkKit
import Derived.WalkLawsBesides
import Derived.ProofKit
import Derived.Laws.IdiomStrings
import Derived.Outline
namespace Go.Proofs.YtmbjmjbljnlifaaDoor
open Go Go.RowKit

/-- 'string([]byte{x})' in the world in which that row has just been laid. -/
theorem conv_one (w : World) (x : Int) : (convert 58 9 (.slice (some ⟨w.heap.size, 0, none⟩) 1 1)).run Tryd.prog (w.alloc (.cells #[.int .u8 x] 5)) = .ok (.string ⟨#[UInt8.ofNat x.toNat]⟩) (w.alloc (.cells #[.int .u8 x] 5)) := by
  rw [run_convert_bytes_string _ 58 9 5 _ 1 1 Tryd.underlying58 Tryd.underlying5 Tryd.underlying9]
  have hl := run_loadCells_list (P := Tryd.prog) (w.alloc (.cells #[.int .u8 x] 5)) ⟨w.heap.size, 0, none⟩ [Value.int .u8 x] (fun j v hj => by
    have h := World.cell?_alloc_mark w #[.int .u8 x] 5 (0, 0) j
    cases j with
    | zero => simp at hj; subst hj; simp [Addr.add]
    | succ j => simp at hj)
  rw [run_bytesToString _ _ 1 1 [x] hl]
  rfl

theorem ret_str {a b : List UInt8} (h : a = b) : Ending.returned (.string ⟨a.toArray⟩) = .returned (.string ⟨b.toArray⟩) := by rw [h]

theorem step_end {m : Nat} (hm : ¬ m = 0) {out fin : List UInt8} (hr : Num.rest m out = fin) (x : UInt8) (hx : x = UInt8.ofNat (48 + m % 10)) :
    Value.string ({ data := #[x] } ++ { data := out.toArray }) = Value.string { data := (x :: out).toArray } ∧ Num.rest (m / 10) (x :: out) = fin := by
  refine ⟨?_, ?_⟩
  · rw [ByteArray.mk_append_mk]; simp
  · rw [hx, Num.rest_step hm, hr]

theorem neg_end {n : Int} (h : n < 0) {out : List UInt8} (hr : out = Num.rest n.natAbs []) : Ending.returned (Value.string ({ data := #[45] } ++ { data := out.toArray })) = .returned (.string ⟨(Lib.itoa n).toArray⟩) := by
  rw [Num.itoa_neg h, hr, ByteArray.mk_append_mk]; simp

set_option maxHeartbeats 400000 in
theorem spec_digits_pos (n : Int) (h : 0 < n) (hn : n ≤ 9223372036854775807) (w : World) :
    Calls Tryd.prog 35 #[.int .i64 n] w fun e w' => e = .returned (.string ⟨(Lib.itoa n).toArray⟩) ∧ Below w.heap.size w w' := by
  have hz : (n == 0) = false := by simp; omega
  have hl : ¬ n < 0 := by omega
  go_enter Tryd.func35, Tryd.ntmps35
  go_wp2
  go_loopw [0, 4] (fun t o wr => ∃ (m : Nat) (out : List UInt8), t = .int .i64 m ∧ m ≤ n ∧ o = .string ⟨out.toArray⟩ ∧ Num.rest m out = Num.rest n.natAbs [] ∧ Below w.heap.size w wr) (fun t _ _ => (intOf t).toNat)
  case atStart => exact ⟨n.natAbs, [], by congr 1; omega, by omega, rfl, rfl, Below.refl _ _⟩
  case round =>
    obtain ⟨m, out, rfl, hm, rfl, hr, hb⟩ := hrel
    have hol : out.length ≤ 21 := by
      have h1 := Num.rest_length m out
      rw [hr, ← Num.itoa_pos h] at h1
      have h2 := Num.itoa_length n (by omega) hn
      omega
    have HR : Hid (Num.rest m out = Num.rest n.natAbs []) := hr
    clear hr
    by_cases hm0 : m = 0
    · subst hm0
      go_wp2
      go_ret
      have hr := HR.out
      rw [Num.rest_zero, ← Num.itoa_pos h] at hr
      exact ⟨ret_str hr, hb⟩
    · have hne : ((m : Int) == 0) = false := by simp; omega
      have kc := conv_one wr
      go_wp2
      go_roundw
      case rel =>
        have hs := step_end hm0 HR.out (48 + UInt8.ofNat (m % 10)) (by simp)
        exact ⟨m / 10, _, by go_num, by omega, hs.1, hs.2, hb.alloc hb.size _⟩
      case measure => simp [intOf]; omega

set_option maxHeartbeats 400000 in
theorem spec_digits_neg (n : Int) (h : n < 0) (hn : -9223372036854775808 ≤ n) (w : World) :
    Calls Tryd.prog 35 #[.int .i64 n] w fun e w' => e = .returned (.string ⟨(Lib.itoa n).toArray⟩) ∧ Below w.heap.size w w' := by
  have hz : (n == 0) = false := by simp; omega
  go_enter Tryd.func35, Tryd.ntmps35
  go_wp2
  go_loopw [0, 4] (fun t o wr => ∃ (m : Nat) (out : List UInt8), t = .int .i64 (-m) ∧ n ≤ -m ∧ o = .string ⟨out.toArray⟩ ∧ Num.rest m out = Num.rest n.natAbs [] ∧ Below w.heap.size w wr) (fun t _ _ => (intOf t).natAbs)
  case atStart => exact ⟨n.natAbs, [], by congr 1; omega, by omega, rfl, rfl, Below.refl _ _⟩
  case round =>
    obtain ⟨m, out, rfl, hm, rfl, hr, hb⟩ := hrel
    have hol : out.length ≤ 21 := by
      have h1 := Num.rest_length m out
      have h2 := Num.itoa_length n hn (by omega)
      rw [hr] at h1
      rw [Num.itoa_neg h] at h2
      simp at h2
      omega
    have HR : Hid (Num.rest m out = Num.rest n.natAbs []) := hr
    clear hr
    by_cases hm0 : m = 0
    · subst hm0
      go_wp2
      go_ret
      have hr := HR.out
      rw [Num.rest_zero] at hr
      exact ⟨neg_end h hr, hb⟩
    · have hne : ((-(m : Int)) == 0) = false := by simp; omega
      have kc := conv_one wr
      go_wp2
      · go_roundw
        case rel =>
          have hs := step_end hm0 HR.out (48 + UInt8.ofNat (m % 10)) (by simp)
          exact ⟨m / 10, _, by go_num, by omega, hs.1, hs.2, hb.alloc hb.size _⟩
        case measure => simp [intOf]; omega
      · go_roundw
        case rel =>
          have hs := step_end hm0 HR.out (UInt8.ofNat (48 + -((m : Int) % 10)).toNat) (by congr 1; omega)
          exact ⟨m / 10, _, by go_num, by omega, hs.1, hs.2, hb.alloc hb.size _⟩
        case measure => simp [intOf]; omega

theorem spec_digits_zero (w : World) :
    Calls Tryd.prog 35 #[.int .i64 0] w fun e w' => e = .returned (.string ⟨(Lib.itoa 0).toArray⟩) ∧ Below w.heap.size w w' := by
  go_enter Tryd.func35, Tryd.ntmps35
  go_wp2
  go_ret
  exact ⟨ret_str (a := [48]) Num.itoa_zero.symm, Below.refl _ _⟩

/-- The model's Digits, at every int. -/
theorem spec_digits (n : Int) (h0 : -9223372036854775808 ≤ n) (h1 : n ≤ 9223372036854775807) (w : World) :
    Calls Tryd.prog 35 #[.int .i64 n] w fun e w' => e = .returned (.string ⟨(Lib.itoa n).toArray⟩) ∧ Below w.heap.size w w' := by
  rcases Int.lt_trichotomy n 0 with h | h | h
  · exact spec_digits_neg n h h0 w
  · subst h; exact spec_digits_zero w
  · exact spec_digits_pos n h h1 w
end Go.Proofs.YtmbjmjbljnlifaaDoor
