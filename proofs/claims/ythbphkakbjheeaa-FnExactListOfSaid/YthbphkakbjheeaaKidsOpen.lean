/-
  What is proved: whatever reads as a list of trees of the laws' own type lies in memory as a list of trees does.
-/
import Derived.Test.YthbphkakbjheeaaTreeOpen
namespace Go.Proofs.Ythbphkakbjheeaa
open Go Go.RowKit Go.ChangeShapes Go.WideShapes

section
variable {H : Type} {enc : TypeId × Value → H} {w : World} {base : Nat} {spare : Nat → Bool} {held : Bool}

/-- A list of trees that is read. -/
theorem open_kids {fuel : Nat} {cs : List Value} {x : DataW H × List MemPlace} (h : DataW.trod enc Try.prog w base spare held fuel 36 cs = some x) : ∃ dv kids F, cs = [dv] ∧ KidsLie w dv kids F := by
  rcases DataW.trod_slice Try.underlying36 h with ⟨rfl, -⟩ | ⟨a, len, cap, elems, rest, n', rfl, rfl, -, hb, hlc, hm, hlen', hel, -⟩
  · exact ⟨_, [], _, rfl, none, 0, 0, 0, fun _ => [], fun _ => .bool true, fun _ => .bool true, rfl, Nat.le_refl _, Nat.zero_le _, fun h => absurd h (by simp), rfl, fun i hi => absurd hi (by simp), fun i hi => absurd hi (by simp)⟩
  · obtain ⟨ab, aoff, aspot⟩ := a
    have each : ∀ i, i < len → ∃ q : RT × Value × Value × List Nat, aspot = none ∧ (∀ j, j < 5 → w.cell? ⟨ab, aoff + i * 5 + j, none⟩ = (q.1.row q.2.1 q.2.2.1)[j]?) ∧ Lies w q.1 q.2.1 q.2.2.1 q.2.2.2 := fun i hi => by
      have he := hel i hi
      rw [List.getElem?_eq_getElem (by omega), Option.bind_eq_some_iff] at he
      obtain ⟨cs', hc, ht⟩ := he
      obtain ⟨T, kv', dv', F', rfl, hL⟩ := open_lies n' cs' _ ht
      obtain ⟨-, -, hcell⟩ := World.cells?_some hc
      rw [cells_node] at hcell
      have hspot : aspot = none := by
        have he0 := hel 0 (by omega)
        rw [List.getElem?_eq_getElem (by omega), Option.bind_eq_some_iff] at he0
        obtain ⟨cs0, hc0, ht0⟩ := he0
        obtain ⟨_, _, _, _, rfl, _⟩ := open_lies n' cs0 _ ht0
        obtain ⟨-, -, hcell0⟩ := World.cells?_some hc0
        have h0 := hcell0 0 (by rw [cells_node]; omega)
        simp [RT.row, Addr.add] at h0
        simpa using World.cell?_spot h0
      subst hspot
      refine ⟨(T, kv', dv', F'), rfl, fun j hj => ?_, hL⟩
      have := hcell j hj
      rw [add_plain, add_plain] at this
      exact this
    obtain ⟨Q, hQ⟩ := Go.Deep.choose_lt (α := RT × Value × Value × List Nat) each
    by_cases h0 : len = 0
    · subst h0
      exact ⟨_, [], _, rfl, _, cap, 0, 0, fun _ => [], fun _ => .bool true, fun _ => .bool true, rfl, Nat.zero_le _, hm, fun h => absurd h (by simp), rfl, fun i hi => absurd hi (by simp), fun i hi => absurd hi (by simp)⟩
    · have hspot : aspot = none := (hQ 0 (by omega)).1
      subst hspot
      refine ⟨_, (List.range len).map fun i => (Q i).1, _, rfl, _, cap, ab, aoff, fun i => (Q i).2.2.2, fun i => (Q i).2.1, fun i => (Q i).2.2.1, by simp, by simpa using hlc, hm, fun _ => rfl, rfl, fun i hi j hj => ?_, fun i hi => ?_⟩
      · simp only [List.length_map, List.length_range] at hi
        simpa using (hQ i hi).2.1 j hj
      · simp only [List.length_map, List.length_range] at hi
        simpa using (hQ i hi).2.2

end
end Go.Proofs.Ythbphkakbjheeaa
