/-
  What is proved: plain facts on texts that may be written as they are: 1 to 60 bytes, a letter first, then letters, digits and four signs; none of three words.
-/
import Derived.Test.YtmbjmjbljnlifaaDoorRows
import Derived.Below
import Derived.WalkKit
import Derived.WalkSpells
import Derived.Lib.Hide
import Derived.Lib.Bytealg
namespace Go.Proofs.YtmbjmjbljnlifaaDoor
open Go Go.RowKit

def isLet (b : UInt8) : Bool := (decide (97 ≤ b.toNat) && decide (b.toNat ≤ 122)) || (decide (65 ≤ b.toNat) && decide (b.toNat ≤ 90))
def isDig (b : UInt8) : Bool := decide (48 ≤ b.toNat) && decide (b.toNat ≤ 57)
def isSgn (b : UInt8) : Bool := decide (b = 95 ∨ b = 46 ∨ b = 47 ∨ b = 45)
def okP (b : UInt8) : Bool := isLet b || (isDig b || isSgn b)
/-- A letter first, then what may stand behind one. -/
def goodL : List UInt8 → Bool
  | [] => true
  | b :: l => isLet b && l.all okP
def noWord (s : ByteArray) : Bool := ((!s.toList == [110, 117, 108, 108]) && (!s.toList == [116, 114, 117, 101])) && (!s.toList == [102, 97, 108, 115, 101])
def plainB (s : ByteArray) : Bool := (decide (1 ≤ s.size ∧ s.size ≤ 60) && goodL s.data.toList) && noWord s

theorem okP_let {b : UInt8} (h : isLet b = true) : okP b = true := by simp [okP, h]

theorem goodL_snoc (l : List UInt8) (b : UInt8) : goodL (l ++ [b]) = (goodL l && (if l.length = 0 then isLet b else okP b)) := by
  cases l with
  | nil => simp [goodL]
  | cons x l => simp [goodL, Bool.and_assoc]

theorem take_snoc (s : ByteArray) (k : Nat) (h : k < s.size) : s.data.toList.take (k + 1) = s.data.toList.take k ++ [s[k]] := by
  rw [List.take_succ_eq_append_getElem (by simpa using h)]; rfl

theorem goodL_step {s : ByteArray} {k : Nat} (hk : k < s.size) : goodL (s.data.toList.take (k + 1)) = (goodL (s.data.toList.take k) && (if k = 0 then isLet s[k] else okP s[k])) := by
  have hl : (s.data.toList.take k).length = k := by rw [List.length_take]; have : s.data.toList.length = s.size := by simp
                                                    omega
  rw [take_snoc s k hk, goodL_snoc, hl]

theorem goodL_pre {l : List UInt8} : ∀ {m : List UInt8}, goodL (l ++ m) = true → goodL l = true := by
  intro m h
  cases l with
  | nil => rfl
  | cons x l =>
    simp only [List.cons_append, goodL, Bool.and_eq_true, List.all_append] at h ⊢
    exact ⟨h.1, h.2.1⟩

theorem goodL_bad {s : ByteArray} {k : Nat} (h : goodL (s.data.toList.take (k + 1)) = false) : plainB s = false := by
  have : goodL s.data.toList = false := by
    rcases Bool.eq_false_or_eq_true (goodL s.data.toList) with h1 | h1
    · exfalso
      rw [← List.take_append_drop (k + 1) s.data.toList] at h1
      rw [goodL_pre h1] at h
      cases h
    · exact h1
  simp [plainB, this]

theorem goodL_end {s : ByteArray} {k : Nat} (hk : ¬ k < s.size) : s.data.toList.take k = s.data.toList :=
  List.take_of_length_le (by simp only [Array.length_toList]; have : s.size = s.data.size := rfl; omega)

theorem sgn_index (b : UInt8) : (Lib.indexByte [95, 46, 47, 45] ((b.toNat : Int).toNat.toUInt8) < 0) = (isSgn b = false) := by
  have e : (b.toNat : Int).toNat.toUInt8 = b := by simp
  rw [e]
  by_cases h1 : b = 95
  · subst h1; decide
  by_cases h2 : b = 46
  · subst h2; decide
  by_cases h3 : b = 47
  · subst h3; decide
  by_cases h4 : b = 45
  · subst h4; decide
  have e1 : ((95 : UInt8) == b) = false := by simpa using fun h => h1 h.symm
  have e2 : ((46 : UInt8) == b) = false := by simpa using fun h => h2 h.symm
  have e3 : ((47 : UInt8) == b) = false := by simpa using fun h => h3 h.symm
  have e4 : ((45 : UInt8) == b) = false := by simpa using fun h => h4 h.symm
  simp [Lib.indexByte, e1, e2, e3, e4, isSgn, h1, h2, h3, h4]
end Go.Proofs.YtmbjmjbljnlifaaDoor
