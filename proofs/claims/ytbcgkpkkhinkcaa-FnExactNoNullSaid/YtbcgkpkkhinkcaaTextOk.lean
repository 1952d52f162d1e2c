/-
  What is proved: for any text the program's TextOk answers as the model's TextOk does: at most 400 bytes, each from 32 to 126.
-/
import Derived.Test.YtbcgkpkkhinkcaaRows
import Derived.Below
import Derived.WalkKit
import Derived.WalkSpells
import Derived.Lib.Hide
namespace Go.Proofs.Ytbcgkpkkhinkcaa
open Go Go.RowKit

def okByte (b : UInt8) : Bool := decide (32 ≤ b.toNat) && decide (b.toNat ≤ 126)
def textOk (s : ByteArray) : Bool := decide (s.size ≤ 400) && s.data.toList.all okByte

theorem all_step {s : ByteArray} {k : Nat} (h : (s.data.toList.take k).all okByte = true) (hk : k < s.size) (h1 : 32 ≤ s[k].toNat) (h2 : s[k].toNat ≤ 126) : (s.data.toList.take (k + 1)).all okByte = true := by
  rw [List.take_succ_eq_append_getElem (by simpa using hk), List.all_append, h]
  have e : s.data.toList[k]'(by simpa using hk) = s[k] := rfl
  rw [e]
  simp [okByte, h1, h2]

theorem all_end {s : ByteArray} {k : Nat} (h : (s.data.toList.take k).all okByte = true) (hk : ¬ k < s.size) : s.data.toList.all okByte = true := by
  rwa [List.take_of_length_le (by simp only [Array.length_toList]; have : s.size = s.data.size := rfl; omega)] at h

theorem all_bad {s : ByteArray} {k : Nat} (hk : k < s.size) (h : ¬ (32 ≤ s[k].toNat ∧ s[k].toNat ≤ 126)) : textOk s = false := by
  have hm : s[k] ∈ s.data.toList := by
    have : s[k] = s.data.toList[k]'(by simpa using hk) := rfl
    rw [this]; exact List.getElem_mem _
  have : s.data.toList.all okByte = false := by
    rw [List.all_eq_false]
    refine ⟨_, hm, ?_⟩
    simp only [okByte, Bool.and_eq_true, decide_eq_true_eq]
    exact h
  simp [textOk, this]

set_option maxHeartbeats 400000 in
theorem spec_textOk (s : ByteArray) (hm : s.size ≤ maxLen) (w : World) :
    Calls Try.prog 54 #[.string s] w fun e w' => e = .returned (.bool (textOk s)) ∧ w' = w := by
  unfold maxLen at hm
  go_enter Try.func54, Try.ntmps54
  go_wp2
  go_loop [3] (fun i => ∃ k : Nat, k ≤ s.size ∧ i = .int .i64 k ∧ Hid ((s.data.toList.take k).all okByte = true)) (fun i => s.size - (intOf i).toNat)
  case atStart => exact ⟨0, Nat.zero_le _, rfl, rfl⟩
  case round =>
    obtain ⟨k, hk, rfl, hr⟩ := hrel
    by_cases hlt : k < s.size
    · by_cases h1 : 32 ≤ s[k].toNat
      · by_cases h2 : s[k].toNat ≤ 126
        · have HS := Lib.hid (all_step hr.out hlt h1 h2)
          go_wp2
          go_round
          case rel => exact ⟨k + 1, by omega, by go_num, HS.out⟩
          case measure => simp [intOf]; omega
        · have HN := Lib.hid (all_bad hlt (fun h => h2 h.2))
          go_wp2
          go_ret
          exact ⟨by rw [HN.out]; rfl, rfl⟩
      · have HN := Lib.hid (all_bad hlt (fun h => h1 h.1))
        go_wp2
        go_ret
        exact ⟨by rw [HN.out]; rfl, rfl⟩
    · have HE := Lib.hid (all_end hr.out hlt)
      go_wp2
      go_ret
      refine ⟨?_, rfl⟩
      unfold textOk
      rw [HE.out, Bool.and_true]
      refine congrArg (fun b => Ending.returned (.bool b)) ?_
      simp
      omega

set_option maxHeartbeats 400000 in
theorem impl_textOk (s : ByteArray) (hm : s.size ≤ maxLen) (w : World) :
    Calls Try.prog 59 #[.string s] w fun e w' => e = .returned (.bool (textOk s)) ∧ w' = w := by
  unfold maxLen at hm
  by_cases hs : s.size ≤ 400
  · have hs' : (s.size : Int) ≤ 400 := by omega
    go_enter Try.func59, Try.ntmps59
    go_wp2
    go_loop [9] (fun i => ∃ k : Nat, k ≤ s.size ∧ i = .int .i64 k ∧ Hid ((s.data.toList.take k).all okByte = true)) (fun i => s.size - (intOf i).toNat)
    case atStart => exact ⟨0, Nat.zero_le _, rfl, rfl⟩
    case round =>
      obtain ⟨k, hk, rfl, hr⟩ := hrel
      by_cases hlt : k < s.size
      · by_cases h1 : 32 ≤ s[k].toNat
        · by_cases h2 : s[k].toNat ≤ 126
          · have HS := Lib.hid (all_step hr.out hlt h1 h2)
            go_wp2
            go_round
            case rel => exact ⟨k + 1, by omega, by go_num, HS.out⟩
            case measure => simp [intOf]; omega
          · have HN := Lib.hid (all_bad hlt (fun h => h2 h.2))
            go_wp2
            go_ret
            exact ⟨by rw [HN.out]; rfl, rfl⟩
        · have HN := Lib.hid (all_bad hlt (fun h => h1 h.1))
          go_wp2
          go_ret
          exact ⟨by rw [HN.out]; rfl, rfl⟩
      · have HE := Lib.hid (all_end hr.out hlt)
        go_wp2
        go_ret
        refine ⟨?_, rfl⟩
        unfold textOk
        rw [HE.out, Bool.and_true, decide_eq_true hs]
        rfl
  · go_enter Try.func59, Try.ntmps59
    go_wp2
    go_ret
    refine ⟨?_, rfl⟩
    unfold textOk
    rw [decide_eq_false (p := s.size ≤ 400) (by omega), Bool.false_and]
    rfl

end Go.Proofs.Ytbcgkpkkhinkcaa
