/-
  What is proved: for any text the program's TextOk answers as the model's TextOk does: at most 400 bytes, each from 32 to 126.
-/
import Derived.Test.YtmbjmjbljnlifaaDoorRows
import Derived.Below
import Derived.WalkKit
import Derived.WalkSpells
import Derived.Lib.Hide
namespace Go.Proofs.YtmbjmjbljnlifaaDoor
open Go Go.RowKit

def okByte (b : UInt8) : Bool := decide (32 ≤ b.toNat) && decide (b.toNat ≤ 126)
def textOk (s : ByteArray) : Bool := decide (s.size ≤ 400) && s.data.toList.all okByte

theorem all_step {s : ByteArray} {k : Nat} (h : (s.data.toList.take k).all okByte = true) (hk : k < s.size) (h1 : 32 ≤ s[k].toNat) (h2 : s[k].toNat ≤ 126) : (s.data.toList.take (k + 1)).all okByte = true := by
  rw [List.take_succ_eq_append_getElem (by simpa using hk), List.all_append, h]
  have e : s.data.toList[k]'(by simpa using hk) = s[k] := rfl
  rw [e]
  simp [okByte, h1, h2]

theorem all_end {s : ByteArray} {k : Nat} (h : (s.data.toList.take k).all okByte = true) (hk : ¬ k < s.size) : s.data.toList.all okByte = true := by
  rwa [List.take_of_length_le (by simp only [Array.length_toList]; have : s.size = s.data.size := rfl; omega)] at h

theorem all_bad {s : ByteArray} {k : Nat} (hk : k < s.size) (h : ¬ (32 ≤ s[k].toNat ∧ s[k].toNat ≤ 126)) : textOk s = false := by
  have hm : s[k] ∈ s.data.toList := by
    have : s[k] = s.data.toList[k]'(by simpa using hk) := rfl
    rw [this]; exact List.getElem_mem _
  have : s.data.toList.all okByte = false := by
    rw [List.all_eq_false]
    refine ⟨_, hm, ?_⟩
    simp only [okByte, Bool.and_eq_true, decide_eq_true_eq]
    exact h
  simp [textOk, this]

end Go.Proofs.YtmbjmjbljnlifaaDoor
