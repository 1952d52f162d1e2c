/-
  What is proved: whatever reads as a metric, a pace, a note or an order of the laws' own types lies in memory as such.
-/
import Derived.Test.YtmbjmjbljnlifaaDoorOrdP
import Derived.Test.YtmbjmjbljnlifaaDoorRows
import Derived.ProofKit
import Derived.OpenShut
import Derived.Carry
import Derived.Deep.Strs
namespace Go.Proofs.YtmbjmjbljnlifaaDoor
open Go Go.RowKit Go.ChangeShapes Go.WideShapes

section
variable {H : Type} {enc : TypeId × Value → H} {w : World} {base : Nat} {held : Bool}

theorem fit_of {x : Int} (h : (Lit.int .i64 x).wf = true) : Fit x := bounds_i64 h

theorem cellsO_string : Tryd.prog.cellsOf 9 = 1 := by kernel_rfl
theorem cellsO_int : Tryd.prog.cellsOf 3 = 1 := by kernel_rfl
theorem cellsO_met : Tryd.prog.cellsOf 23 = 3 := by kernel_rfl
theorem cellsO_pace : Tryd.prog.cellsOf 36 = 4 := by kernel_rfl
set_option maxRecDepth 100000 in
theorem open_met {fuel : Nat} {cs : List Value} {x : DataW H × List MemPlace} (h : DataW.trod enc Tryd.prog w base (fun _ => true) held fuel 23 cs = some x) : ∃ m : Met, cs = m.row ∧ m.ok := by
  obtain ⟨xs, n, rfl, rfl, hl, hlen, hf⟩ := DataW.trod_struct Tryd.underlying23 h
  rw [cellsO_met] at hl
  have hlen3 : xs.length = 3 := hlen
  clear hlen
  match xs, hlen3, cs, hl with
  | [y0, y1, y2], _, [v0, v1, v2], _ =>
    have g0 := hf 0 _ rfl
    have g1 := hf 1 _ rfl
    have g2 := hf 2 _ rfl
    simp [cellsO_int, cellsO_string] at g0 g1 g2
    obtain ⟨s, hv0, -, w0⟩ := DataW.trod_string Tryd.underlying9 g0
    obtain ⟨k, hv1, -, w1⟩ := DataW.trod_int Tryd.underlying3 g1
    obtain ⟨m, hv2, -, w2⟩ := DataW.trod_int Tryd.underlying3 g2
    simp at hv0 hv1 hv2
    subst hv0 hv1 hv2
    exact ⟨⟨s, k, m⟩, rfl, w0, fit_of w1, fit_of w2⟩

set_option maxRecDepth 100000 in
theorem open_pace {fuel : Nat} {cs : List Value} {x : DataW H × List MemPlace} (h : DataW.trod enc Tryd.prog w base (fun _ => true) held fuel 36 cs = some x) : ∃ p : Pac, cs = [.int .i64 p.up, .int .i64 p.down, .int .i64 p.ups, .int .i64 p.downs] ∧ p.ok := by
  obtain ⟨xs, n, rfl, rfl, hl, hlen, hf⟩ := DataW.trod_struct Tryd.underlying36 h
  rw [cellsO_pace] at hl
  have hlen3 : xs.length = 4 := hlen
  clear hlen
  match xs, hlen3, cs, hl with
  | [y0, y1, y2, y3], _, [v0, v1, v2, v3], _ =>
    have g0 := hf 0 _ rfl
    have g1 := hf 1 _ rfl
    have g2 := hf 2 _ rfl
    have g3 := hf 3 _ rfl
    simp [cellsO_int] at g0 g1 g2 g3
    obtain ⟨a, hv0, -, w0⟩ := DataW.trod_int Tryd.underlying3 g0
    obtain ⟨b, hv1, -, w1⟩ := DataW.trod_int Tryd.underlying3 g1
    obtain ⟨c, hv2, -, w2⟩ := DataW.trod_int Tryd.underlying3 g2
    obtain ⟨d, hv3, -, w3⟩ := DataW.trod_int Tryd.underlying3 g3
    simp at hv0 hv1 hv2 hv3
    subst hv0 hv1 hv2 hv3
    exact ⟨⟨a, b, c, d⟩, rfl, fit_of w0, fit_of w1, fit_of w2, fit_of w3⟩

/-- A list of small structs that is read. -/
theorem open_row {α : Type} (ec : α → List Value) (ok : α → Prop) (k : Nat) (hk : 0 < k) (hlen : ∀ a, (ec a).length = k) {ts te : TypeId} (und : Tryd.prog.underlying ts = some (.slice te)) (hc : Tryd.prog.cellsOf te = k) [Inhabited α]
    (op : ∀ (fuel : Nat) (cs : List Value) (x : DataW H × List MemPlace), DataW.trod enc Tryd.prog w base (fun _ => true) held fuel te cs = some x → ∃ a, cs = ec a ∧ ok a)
    {fuel : Nat} {cs : List Value} {x : DataW H × List MemPlace} (h : DataW.trod enc Tryd.prog w base (fun _ => true) held fuel ts cs = some x) : ∃ v xs F, cs = [v] ∧ RowAt ec ok k w v xs F := by
  rcases DataW.trod_slice und h with ⟨rfl, -⟩ | ⟨a, len, cap, elems, rest, n', rfl, rfl, -, hb, hlc, hm, hlen', hel, hres, -⟩
  · exact ⟨_, [], _, rfl, none, 0, 0, 0, rfl, Nat.le_refl _, Nat.zero_le _, fun h => absurd h (by simp), rfl, fun i hi => absurd hi (by simp), by rw [Nat.zero_mul]; exact Room.nil _ _ _⟩
  · obtain ⟨ab, aoff, aspot⟩ := a
    obtain ⟨hrl, hres⟩ := hres rfl
    rw [hc] at hel hres
    have every : ∀ i, i < cap → ∃ cs' y, w.cells? base ((⟨ab, aoff, aspot⟩ : Addr).add (i * k)) k = some cs' ∧ DataW.trod enc Tryd.prog w base (fun _ => true) held n' te cs' = some y := fun i hi => by
      by_cases hl : i < len
      · have he := hel i hl
        rw [List.getElem?_eq_getElem (by omega), Option.bind_eq_some_iff] at he
        obtain ⟨cs', hc, ht⟩ := he
        exact ⟨cs', _, hc, ht⟩
      · have he := hres (i - len) (by omega)
        rw [List.getElem?_eq_getElem (by omega), Option.bind_eq_some_iff] at he
        obtain ⟨cs', hc, ht⟩ := he
        rw [show len + (i - len) = i by omega] at hc
        exact ⟨cs', _, hc, ht⟩
    have each : ∀ i, i < cap → ∃ q : α, aspot = none ∧ (∀ j, j < k → w.cell? ⟨ab, aoff + i * k + j, none⟩ = (ec q)[j]?) ∧ ok q := fun i hi => by
      obtain ⟨cs', _, hc', ht⟩ := every i hi
      obtain ⟨q, rfl, hL⟩ := op n' cs' _ ht
      obtain ⟨-, -, hcell⟩ := World.cells?_some hc'
      have hspot : aspot = none := by
        obtain ⟨cs0, _, hc0, ht0⟩ := every 0 (by omega)
        obtain ⟨q0, rfl, _⟩ := op n' cs0 _ ht0
        obtain ⟨-, -, hcell0⟩ := World.cells?_some hc0
        have h0 := hcell0 0 hk
        rw [List.getElem?_eq_getElem (by rw [hlen]; exact hk)] at h0
        simp [Addr.add] at h0
        simpa using World.cell?_spot h0
      subst hspot
      refine ⟨q, rfl, fun j hj => ?_, hL⟩
      have := hcell j hj
      rw [add_plain, add_plain] at this
      exact this
    obtain ⟨Q, hQ⟩ := Go.Deep.choose_lt (α := α) each
    by_cases h0 : cap = 0
    · subst h0
      obtain rfl : len = 0 := by omega
      exact ⟨_, [], _, rfl, _, 0, 0, 0, rfl, Nat.zero_le _, hm, fun h => absurd h (by simp), rfl, fun i hi => absurd hi (by simp), by rw [Nat.zero_mul]; exact Room.nil _ _ _⟩
    · have hspot : aspot = none := (hQ 0 (by omega)).1
      subst hspot
      refine ⟨_, (List.range len).map Q, _, rfl, _, cap, ab, aoff, by simp, by simpa using hlc, hm, fun _ => rfl, rfl, fun i hi => ?_, fun i hi => ?_⟩
      · simp only [List.length_map, List.length_range] at hi
        have := (hQ i (by omega)).2
        simpa using ⟨this.2, this.1⟩
      · have hi' : i / k < cap := Nat.div_lt_of_lt_mul (by rw [Nat.mul_comm]; exact hi)
        have := (hQ (i / k) hi').2.1 (i % k) (Nat.mod_lt _ hk)
        rw [Nat.add_assoc, show i / k * k + i % k = i by rw [Nat.mul_comm]; exact Nat.div_add_mod i k] at this
        rw [this, List.getElem?_eq_getElem (by rw [hlen]; exact Nat.mod_lt _ hk)]
        rfl

instance : Inhabited Met := ⟨⟨⟨#[]⟩, 0, 0⟩⟩
instance : Inhabited Not := ⟨⟨⟨#[]⟩, ⟨#[]⟩⟩⟩

end
end Go.Proofs.YtmbjmjbljnlifaaDoor
