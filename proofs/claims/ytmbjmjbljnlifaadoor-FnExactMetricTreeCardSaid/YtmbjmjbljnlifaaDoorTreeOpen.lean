/-
  What is proved: whatever reads as a tree of the laws' own type lies in memory as a tree does.
-/
import Derived.Test.YtmbjmjbljnlifaaDoorTree
import Derived.Test.YtmbjmjbljnlifaaDoorRows
import Derived.ProofKit
import Derived.OpenShut
import Derived.Carry
import Derived.Deep.Strs
namespace Go.Proofs.YtmbjmjbljnlifaaDoor
open Go Go.RowKit Go.ChangeShapes Go.WideShapes

section
variable {H : Type} {enc : TypeId × Value → H} {w : World} {base : Nat} {held : Bool}

theorem fit_of_wf {x : Int} (h : (Lit.int .i64 x).wf = true) : Fit x := bounds_i64 h

theorem cells_string : Tryd.prog.cellsOf 9 = 1 := by kernel_rfl
theorem cells_int : Tryd.prog.cellsOf 3 = 1 := by kernel_rfl
theorem cells_strs : Tryd.prog.cellsOf 25 = 1 := by kernel_rfl
/-- A list of texts that is read. -/
theorem open_strsAt {fuel : Nat} {cs : List Value} {x : DataW H × List MemPlace} (h : DataW.trod enc Tryd.prog w base (fun _ => true) held fuel 25 cs = some x) : ∃ v ks F, cs = [v] ∧ StrsAt w v ks F := by
  rcases Go.Deep.open_strs Tryd.underlying25 Tryd.underlying9 cells_string h with ⟨rfl, -⟩ | ⟨a, len, cap, m, Sx, rfl, hb, hl, hm, hmm, -, hx⟩
  · exact ⟨_, [], [], rfl, none, 0, 0, 0, rfl, Nat.le_refl _, Nat.zero_le _, fun h => absurd h (by simp), rfl, fun i hi => absurd hi (by simp), Room.nil _ _ _⟩
  · have hmc : m = cap := by simpa using hmm
    subst hmc
    obtain ⟨ab, aoff, aspot⟩ := a
    by_cases h0 : m = 0
    · subst h0
      obtain rfl : len = 0 := by omega
      exact ⟨_, [], _, rfl, _, 0, 0, 0, rfl, Nat.zero_le _, hm, fun h => absurd h (by simp), rfl, fun i hi => absurd hi (by simp), Room.nil _ _ _⟩
    · have hspot : aspot = none := by simpa [Addr.add] using World.cell?_spot (hx 0 (by omega)).1
      subst hspot
      refine ⟨_, (List.range len).map Sx, _, rfl, _, m, ab, aoff, by simp, by simpa using hl, hm, fun _ => rfl, rfl, fun i hi => ?_, fun i hi => ?_⟩
      · simp only [List.length_map, List.length_range] at hi
        have := hx i (by omega)
        rw [add_plain] at this
        simpa using this
      · have := (hx i hi).1
        rw [add_plain] at this
        rw [this]; rfl

end
end Go.Proofs.YtmbjmjbljnlifaaDoor
