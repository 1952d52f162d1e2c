/-
  What is proved: whatever reads as a tree of the laws' own type lies in memory as a tree does.
-/
import Derived.Test.YtbcgkpkkhinkcaaTree
import Derived.Test.YtbcgkpkkhinkcaaRows
import Derived.ProofKit
import Derived.OpenShut
import Derived.Carry
import Derived.Deep.Strs
namespace Go.Proofs.Ytbcgkpkkhinkcaa
open Go Go.RowKit Go.ChangeShapes Go.WideShapes

section
variable {H : Type} {enc : TypeId × Value → H} {w : World} {base : Nat} {held : Bool}

theorem fit_of_wf {x : Int} (h : (Lit.int .i64 x).wf = true) : Fit x := bounds_i64 h

theorem cells_string : Try.prog.cellsOf 9 = 1 := by kernel_rfl
theorem cells_int : Try.prog.cellsOf 3 = 1 := by kernel_rfl
theorem cells_strs : Try.prog.cellsOf 22 = 1 := by kernel_rfl
theorem cells_kids : Try.prog.cellsOf 23 = 1 := by kernel_rfl
theorem cells_node : Try.prog.cellsOf 25 = 5 := by kernel_rfl

/-- A list of texts that is read. -/
theorem open_strsAt {fuel : Nat} {cs : List Value} {x : DataW H × List MemPlace} (h : DataW.trod enc Try.prog w base (fun _ => true) held fuel 22 cs = some x) : ∃ v ks F, cs = [v] ∧ StrsAt w v ks F := by
  rcases Go.Deep.open_strs Try.underlying22 Try.underlying9 cells_string h with ⟨rfl, -⟩ | ⟨a, len, cap, m, Sx, rfl, hb, hl, hm, hmm, -, hx⟩
  · exact ⟨_, [], [], rfl, none, 0, 0, 0, rfl, Nat.le_refl _, Nat.zero_le _, fun h => absurd h (by simp), rfl, fun i hi => absurd hi (by simp), Room.nil _ _ _⟩
  · have hmc : m = cap := by simpa using hmm
    subst hmc
    obtain ⟨ab, aoff, aspot⟩ := a
    by_cases h0 : m = 0
    · subst h0
      obtain rfl : len = 0 := by omega
      exact ⟨_, [], _, rfl, _, 0, 0, 0, rfl, Nat.zero_le _, hm, fun h => absurd h (by simp), rfl, fun i hi => absurd hi (by simp), Room.nil _ _ _⟩
    · have hspot : aspot = none := by simpa [Addr.add] using World.cell?_spot (hx 0 (by omega)).1
      subst hspot
      refine ⟨_, (List.range len).map Sx, _, rfl, _, m, ab, aoff, by simp, by simpa using hl, hm, fun _ => rfl, rfl, fun i hi => ?_, fun i hi => ?_⟩
      · simp only [List.length_map, List.length_range] at hi
        have := hx i (by omega)
        rw [add_plain] at this
        simpa using this
      · have := (hx i hi).1
        rw [add_plain] at this
        rw [this]; rfl

set_option maxRecDepth 100000 in
/-- A tree that is read. -/
theorem open_lies : ∀ (fuel : Nat) (cs : List Value) (x : DataW H × List MemPlace), DataW.trod enc Try.prog w base (fun _ => true) held fuel 25 cs = some x → ∃ T kv dv F, cs = RT.row T kv dv ∧ Lies w T kv dv F := by
  intro fuel
  induction fuel using Nat.strongRecOn with
  | _ fuel ih =>
    intro cs x h
    obtain ⟨xs, n, rfl, rfl, hl, hlen, hf⟩ := DataW.trod_struct Try.underlying25 h
    rw [cells_node] at hl
    have hlen5 : xs.length = 5 := hlen
    clear hlen
    match xs, hlen5, cs, hl with
    | [y0, y1, y2, y3, y4], _, [v0, v1, v2, v3, v4], _ =>
      have g0 := hf 0 _ rfl
      have g1 := hf 1 _ rfl
      have g2 := hf 2 _ rfl
      have g3 := hf 3 _ rfl
      have g4 := hf 4 _ rfl
      simp [cells_int, cells_string, cells_strs, cells_kids] at g0 g1 g2 g3 g4
      obtain ⟨k, hv0, -, w0⟩ := DataW.trod_int Try.underlying3 g0
      obtain ⟨m, hv1, -, w1⟩ := DataW.trod_int Try.underlying3 g1
      obtain ⟨s, hv2, -, w2⟩ := DataW.trod_string Try.underlying9 g2
      obtain ⟨kv, ks, FK, hv3, hK⟩ := open_strsAt g3
      simp at hv0 hv1 hv2 hv3
      subst hv0 hv1 hv2 hv3
      rcases DataW.trod_slice Try.underlying23 g4 with ⟨hv4, -⟩ | ⟨a, len, cap, elems, rest, n', rfl, hv4, -, hb, hlc, hm, hlen', hel, hres, -⟩
      · simp at hv4
        subst hv4
        exact ⟨.node k m s ks [], _, _, _, rfl, Lies.into (fit_of_wf w0) (fit_of_wf w1) w2 hK ⟨none, 0, 0, 0, fun _ => [], fun _ => .bool true, fun _ => .bool true, rfl, Nat.le_refl _, Nat.zero_le _, fun h => absurd h (by simp), rfl, fun i hi => absurd hi (by simp), fun i hi => absurd hi (by simp), Room.nil _ _ _⟩⟩
      · simp at hv4
        subst hv4
        obtain ⟨ab, aoff, aspot⟩ := a
        obtain ⟨hrl, hres⟩ := hres rfl
        have every : ∀ i, i < cap → ∃ cs' y, w.cells? base ((⟨ab, aoff, aspot⟩ : Addr).add (i * Try.prog.cellsOf 25)) (Try.prog.cellsOf 25) = some cs' ∧ DataW.trod enc Try.prog w base (fun _ => true) held n' 25 cs' = some y := fun i hi => by
          by_cases hl : i < len
          · have he := hel i hl
            rw [List.getElem?_eq_getElem (by omega), Option.bind_eq_some_iff] at he
            obtain ⟨cs', hc, ht⟩ := he
            exact ⟨cs', _, hc, ht⟩
          · have he := hres (i - len) (by omega)
            rw [List.getElem?_eq_getElem (by omega), Option.bind_eq_some_iff] at he
            obtain ⟨cs', hc, ht⟩ := he
            rw [show len + (i - len) = i by omega] at hc
            exact ⟨cs', _, hc, ht⟩
        have each : ∀ i, i < cap → ∃ q : RT × Value × Value × List Nat, aspot = none ∧ (∀ j, j < 5 → w.cell? ⟨ab, aoff + i * 5 + j, none⟩ = (q.1.row q.2.1 q.2.2.1)[j]?) ∧ Lies w q.1 q.2.1 q.2.2.1 q.2.2.2 := fun i hi => by
          obtain ⟨cs', _, hc, ht⟩ := every i hi
          obtain ⟨T, kv', dv', F', rfl, hL⟩ := ih n' (by omega) cs' _ ht
          obtain ⟨-, -, hcell⟩ := World.cells?_some hc
          rw [cells_node] at hcell
          have hspot : aspot = none := by
            obtain ⟨cs0, _, hc0, ht0⟩ := every 0 (by omega)
            obtain ⟨_, _, _, _, rfl, _⟩ := ih n' (by omega) cs0 _ ht0
            obtain ⟨-, -, hcell0⟩ := World.cells?_some hc0
            have h0 := hcell0 0 (by rw [cells_node]; omega)
            simp [RT.row, Addr.add] at h0
            simpa using World.cell?_spot h0
          subst hspot
          refine ⟨(T, kv', dv', F'), rfl, fun j hj => ?_, hL⟩
          have := hcell j hj
          rw [add_plain, add_plain] at this
          exact this
        obtain ⟨Q, hQ⟩ := Go.Deep.choose_lt (α := RT × Value × Value × List Nat) each
        by_cases h0 : cap = 0
        · subst h0
          obtain rfl : len = 0 := by omega
          exact ⟨.node k m s ks [], _, _, _, rfl, Lies.into (fit_of_wf w0) (fit_of_wf w1) w2 hK ⟨_, 0, 0, 0, fun _ => [], fun _ => .bool true, fun _ => .bool true, rfl, Nat.zero_le _, hm, fun h => absurd h (by simp), rfl, fun i hi => absurd hi (by simp), fun i hi => absurd hi (by simp), Room.nil _ _ _⟩⟩
        · have hspot : aspot = none := (hQ 0 (by omega)).1
          subst hspot
          refine ⟨.node k m s ks ((List.range len).map fun i => (Q i).1), _, _, _, rfl, Lies.into (fit_of_wf w0) (fit_of_wf w1) w2 hK ⟨_, cap, ab, aoff, fun i => (Q i).2.2.2, fun i => (Q i).2.1, fun i => (Q i).2.2.1, by simp, by simpa using hlc, hm, fun _ => rfl, rfl, fun i hi j hj => ?_, fun i hi => ?_, fun i hi => ?_⟩⟩
          · simp only [List.length_map, List.length_range] at hi
            simpa using (hQ i (by omega)).2.1 j hj
          · simp only [List.length_map, List.length_range] at hi
            simpa using (hQ i (by omega)).2.2
          · have := (hQ (i / 5) (by omega)).2.1 (i % 5) (by omega)
            rw [Nat.add_assoc, show i / 5 * 5 + i % 5 = i by omega] at this
            rw [this]
            match i % 5, (show i % 5 < 5 by omega) with
            | 0, _ => rfl
            | 1, _ => rfl
            | 2, _ => rfl
            | 3, _ => rfl
            | 4, _ => rfl

end
end Go.Proofs.Ytbcgkpkkhinkcaa
