/-
  What is proved: plain facts on names: 1 to 20 bytes, a small letter first, then small letters, digits and the sign 45.
-/
import Derived.Test.YtmbjmjbljnlifaaDoorPlainP
namespace Go.Proofs.YtmbjmjbljnlifaaDoor
open Go Go.RowKit

def isSml (b : UInt8) : Bool := decide (97 ≤ b.toNat) && decide (b.toNat ≤ 122)
def okN (b : UInt8) : Bool := isSml b || (isDig b || decide (b = 45))
/-- A small letter first, then what may stand behind one. -/
def nameL : List UInt8 → Bool
  | [] => true
  | b :: l => isSml b && l.all okN
def nameB (s : ByteArray) : Bool := decide (1 ≤ s.size ∧ s.size ≤ 20) && nameL s.data.toList

theorem okN_sml {b : UInt8} (h : isSml b = true) : okN b = true := by simp [okN, h]

theorem nameL_snoc (l : List UInt8) (b : UInt8) : nameL (l ++ [b]) = (nameL l && (if l.length = 0 then isSml b else okN b)) := by
  cases l with
  | nil => simp [nameL]
  | cons x l => simp [nameL, Bool.and_assoc]

theorem nameL_step {s : ByteArray} {k : Nat} (hk : k < s.size) : nameL (s.data.toList.take (k + 1)) = (nameL (s.data.toList.take k) && (if k = 0 then isSml s[k] else okN s[k])) := by
  have hl : (s.data.toList.take k).length = k := by rw [List.length_take]; have : s.data.toList.length = s.size := by simp
                                                    omega
  rw [take_snoc s k hk, nameL_snoc, hl]

theorem nameL_pre {l : List UInt8} : ∀ {m : List UInt8}, nameL (l ++ m) = true → nameL l = true := by
  intro m h
  cases l with
  | nil => rfl
  | cons x l =>
    simp only [List.cons_append, nameL, Bool.and_eq_true, List.all_append] at h ⊢
    exact ⟨h.1, h.2.1⟩

theorem nameL_bad {s : ByteArray} {k : Nat} (h : nameL (s.data.toList.take (k + 1)) = false) : nameB s = false := by
  have : nameL s.data.toList = false := by
    rcases Bool.eq_false_or_eq_true (nameL s.data.toList) with h1 | h1
    · exfalso
      rw [← List.take_append_drop (k + 1) s.data.toList] at h1
      rw [nameL_pre h1] at h
      cases h
    · exact h1
  simp [nameB, this]
end Go.Proofs.YtmbjmjbljnlifaaDoor
