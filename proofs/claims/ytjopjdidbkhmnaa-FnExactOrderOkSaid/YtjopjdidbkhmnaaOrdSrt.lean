/-
  What is proved: plain facts on lists that are ordered by names: the order is one; what is in order stays as it is when it is sorted by insertion; what is sorted, and has no two of one name side by side, ascends.
-/
import Derived.Test.YtjopjdidbkhmnaaOrdClo
import Derived.Test.YtjopjdidbkhmnaaOrdOkS
import Derived.Test.YtjopjdidbkhmnaaSort
import Derived.Sort.Walk0
import Derived.Sort.LotA
import Derived.Sort.WalkA
namespace Go.Proofs.Ytjopjdidbkhmnaa
open Go Go.RowKit Go.Sort

section
variable {α : Type} (nm : α → ByteArray)

def cmpN (x y : α) : Int := cmpS (nm x) (nm y)

theorem ltN (x y : α) : ltOf (cmpN nm) x y = Op.bytesLess (nm x).toList (nm y).toList := by
  unfold ltOf cmpN cmpS
  by_cases h : Op.bytesLess (nm x).toList (nm y).toList = true
  · simp [h]
  · have h' : Op.bytesLess (nm x).toList (nm y).toList = false := by simpa using h
    rw [if_neg h, h']
    split <;> simp

theorem less_irrefl (l : List UInt8) : Op.bytesLess l l = false := by
  rw [bytesLess_eq]; simp
theorem less_trans {a b c : List UInt8} (h1 : Op.bytesLess a b = true) (h2 : Op.bytesLess b c = true) : Op.bytesLess a c = true := by
  rw [bytesLess_eq] at *
  simp only [decide_eq_true_eq] at *
  exact List.lt_trans h1 h2
theorem less_ntrans {a b c : List UInt8} (h1 : Op.bytesLess a b = false) (h2 : Op.bytesLess b c = false) : Op.bytesLess a c = false := by
  rw [bytesLess_eq] at *
  simp only [decide_eq_false_iff_not, List.not_lt] at *
  exact List.le_trans h2 h1
theorem less_alike {a b : List UInt8} (h1 : Op.bytesLess a b = false) (h2 : Op.bytesLess b a = false) : a = b := by
  rw [bytesLess_eq] at *
  simp only [decide_eq_false_iff_not, List.not_lt] at *
  exact List.le_antisymm h2 h1

theorem swoN : SWO (ltOf (cmpN nm)) where
  irrefl x := by rw [ltN]; exact less_irrefl _
  trans x y z h1 h2 := by rw [ltN] at *; exact less_trans h1 h2
  ntrans x y z h1 h2 := by rw [ltN] at *; exact less_ntrans h1 h2

end

section
variable {α : Type} [Inhabited α] (nm : α → ByteArray)

theorem ins_stays (lt : α → α → Bool) (d : Array α) (b : Nat) (h : ∀ i, 0 < i → i < b → lt d[i]! d[i - 1]! = false) : ∀ (n i : Nat), b - i = n → 0 < i → insOuter lt 0 b i d = d := by
  intro n
  induction n with
  | zero => intro i hn hi; exact insOuter_stop lt 0 b i d (by omega)
  | succ n ih =>
    intro i hn hi
    rw [insOuter_go lt 0 b i d (by omega), insInner_stop lt 0 i d (.inr (h i hi (by omega)))]
    exact ih (i + 1) (by omega) (by omega)

/-- Names ascending. -/
def Asc (xs : List α) : Prop := ∀ i (h : i < xs.length), 0 < i → Op.bytesLess (nm (xs[i - 1]'(by omega))).toList (nm xs[i]).toList = true

theorem get!_toArray (xs : List α) {i : Nat} (h : i < xs.length) : xs.toArray[i]! = xs[i] := by
  simp [h]

theorem ins_asc {xs : List α} (h : Asc nm xs) : insertionSort (ltOf (cmpN nm)) xs.toArray 0 xs.length = xs.toArray := by
  refine ins_stays _ _ _ (fun i h0 hi => ?_) _ _ rfl (by decide)
  rw [ltN, get!_toArray _ hi, get!_toArray _ (by omega : i - 1 < xs.length)]
  have h1 := h i hi h0
  rcases Bool.eq_false_or_eq_true (Op.bytesLess (nm xs[i]).toList (nm (xs[i - 1]'(by omega))).toList) with h2 | h2
  · have := less_trans h1 h2
    rw [less_irrefl] at this
    cases this
  · exact h2

theorem ins_size (d : Array α) : (insertionSort (ltOf (cmpN nm)) d 0 d.size).size = d.size := (insertionSort_holds (swoN nm) d 0 d.size (Nat.zero_le _) (Nat.le_refl _)).1.1

/-- What is sorted, and has no two of one name side by side, ascends. -/
theorem asc_of_sorted {d : Array α} (hd : SortedIn (ltOf (cmpN nm)) 0 d.size d) (hn : ∀ i (h : i < d.size), 0 < i → ¬ (nm d[i]).toList = (nm (d[i - 1]'(by omega))).toList) : Asc nm d.toList := fun i h h0 => by
  have h' : i < d.size := by simpa using h
  have hs := hd (i - 1) i (Nat.zero_le _) (by omega) h'
  rw [ltN, getElem!_pos d i h', getElem!_pos d (i - 1) (by omega)] at hs
  rcases Bool.eq_false_or_eq_true (Op.bytesLess (nm (d[i - 1]'(by omega))).toList (nm d[i]).toList) with h2 | h2
  · simpa using h2
  · exact absurd (less_alike hs h2) (hn i h' h0)
end

theorem els_iff {α : Type} (nm : α → ByteArray) (ok : α → Bool) (xs : List α) : Els nm ok xs ↔ (xs.length ≤ 4 ∧ (∀ x ∈ xs, ok x = true) ∧ Asc nm xs) := by
  constructor
  · intro h
    refine ⟨h.2, fun x hx => ?_, fun i hi h0 => (h.1 i hi).2 h0⟩
    obtain ⟨i, hi, rfl⟩ := List.getElem_of_mem hx
    exact (h.1 i hi).1
  · rintro ⟨h1, h2, h3⟩
    exact ⟨fun i hi => ⟨h2 _ (List.getElem_mem hi), fun h0 => h3 i hi h0⟩, h1⟩
end Go.Proofs.Ytjopjdidbkhmnaa
