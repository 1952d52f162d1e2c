/-
  What is proved: plain facts on a row of small structs that a function may write; clear of a part of it.
-/
import Derived.Test.YtjopjdidbkhmnaaOrdStb
import Derived.Laws.IdiomCopy
import Derived.Deep.Upon
import Derived.Shelf.SlSortFuncK.RowK2
namespace Go.Proofs.Ytjopjdidbkhmnaa
open Go Go.RowKit Go.Sort

/-- The block blk bears these structs, of k cells each; nothing else that lay in w has turned. -/
structure Rw {α : Type} (enc : α → List Value) (k : Nat) (w wr : World) (blk : Nat) (es : List α) : Prop where
  cell : ∀ i (h : i < es.length) j, j < k → wr.cell? ⟨blk, i * k + j, none⟩ = (enc es[i])[j]?
  free : ∀ o, wr.frozen? ⟨blk, o, none⟩ = false
  gr : w.grownBy wr (some blk)

section
variable {α : Type} {enc : α → List Value} {k : Nat} {w wr w1 : World} {blk : Nat} {es : List α}

theorem grw_trans {a b c : World} {r : Option Nat} (h : a.grownBy b r) (h' : b.grownBy c r) : a.grownBy c r :=
  ⟨h'.os.trans h.os, h'.tape.trans h.tape, h'.output.trans h.output, Nat.le_trans h.size h'.size, fun k hk hr => (h'.block k (Nat.lt_of_lt_of_le hk h.size) hr).trans (h.block k hk hr)⟩
theorem grw_of_below {a b : World} {r : Option Nat} (h : Below a.heap.size a b) : a.grownBy b r := ⟨h.os, h.tape, h.output, h.size, fun k hk _ => h.block k hk⟩

theorem Rw.next (h : Rw enc k w wr blk es) (hg : Gr wr w1) (hb : blk < wr.heap.size) : Rw enc k w w1 blk es :=
  ⟨fun i hi j hj => by rw [hg.below.cell (by exact hb)]; exact h.cell i hi j hj, fun o => by rw [World.frozen?_of_block (w := wr) (hg.below.block _ hb)]; exact h.free o, grw_trans h.gr (grw_of_below hg.below)⟩

theorem grw_setCells (w : World) (b o : Nat) (vs : List Value) : w.grownBy (w.setCells b o vs) (some b) := by
  induction vs generalizing w o with
  | nil => exact ⟨rfl, rfl, rfl, Nat.le_refl _, fun _ _ _ => rfl⟩
  | cons v vs ih =>
    have h1 : w.grownBy (w.setCell ⟨b, o, none⟩ v) (some b) := ⟨rfl, rfl, rfl, by simp, fun k hk hr => Below.heap_setCell w ⟨b, o, none⟩ v k (by show k ≠ b; simpa using hr)⟩
    exact grw_trans h1 (ih (w.setCell ⟨b, o, none⟩ v) (o + 1))

theorem Rw.put (hk : ∀ a, (enc a).length = k) (h : Rw enc k w wr blk es) {i : Nat} (hi : i < es.length) (x : α) : Rw enc k w (wr.setCells blk (i * k) (enc x)) blk (es.set i x) := by
  refine ⟨fun i' hi' j hj => ?_, fun o => ?_, grw_trans h.gr (grw_setCells _ _ _ _)⟩
  · have hi2 : i' < es.length := by simpa using hi'
    by_cases e : i' = i
    · subst e
      have := World.cell?_setCells_in blk (enc x) (i' * k) wr (fun j hj => by rw [h.cell i' hi2 j (by rw [← hk x]; exact hj), List.getElem?_eq_getElem (by rw [hk, ← hk x]; exact hj)]; rfl) j (by rw [hk]; exact hj)
      rw [this]
      simp only [List.getElem_set_self]
      rw [List.getElem?_eq_getElem (by rw [hk]; exact hj)]
    · rw [World.cell?_setCells_out blk (enc x) (i * k) wr _ (fun _ _ => by
        simp only [hk]
        rcases Nat.lt_or_gt_of_ne e with h1 | h1
        · left
          have : (i' + 1) * k ≤ i * k := Nat.mul_le_mul_right k h1
          rw [Nat.add_mul] at this
          omega
        · right
          have : (i + 1) * k ≤ i' * k := Nat.mul_le_mul_right k h1
          rw [Nat.add_mul] at this
          omega)]
      rw [h.cell i' hi2 j hj]
      simp [Ne.symm e]
  · rw [World.frozen?_setCells]; exact h.free o

theorem zero_mem {cs : Array Value} {n : Nat} (h0 : 0 < cs.size) : ∀ v ∈ (Builtin.zeroCells cs n).toList, v ∈ cs := by
  intro v hv
  simp only [Builtin.zeroCells, Array.toList_map, List.mem_map] at hv
  obtain ⟨i, _, rfl⟩ := hv
  rw [getElem!_pos cs (i % cs.size) (Nat.mod_lt _ h0)]
  exact Array.getElem_mem _

/-- 'clear(s)', s a slice of n > 0 structs. -/
theorem clear_run {P : Program} (w : World) (t e ty : TypeId) (cs : Array Value) (ht : P.underlying t = some (.slice e)) (hv : ∀ w, (zeroValue e).run P w = .ok (.agg cs) w) (h0 : 0 < cs.size) (h1 : ∀ v ∈ cs, v.oneCell' = true) (b o n c : Nat) (hn : 0 < n)
    (hc : ∀ j, j < n * cs.size → (w.cell? ⟨b, o + j, none⟩).isSome = true) (hf : ∀ j, j < n * cs.size → w.frozen? ⟨b, o + j, none⟩ = false) :
    (Builtin.clear_ #[t] ty #[.slice (some ⟨b, o, none⟩) n c]).run P w = .ok (.tuple #[]) (w.setCells b o (Builtin.zeroCells cs n).toList) := by
  have hst := run_storeCells_cells (P := P) b o (Builtin.zeroCells cs n).toList 0 w (by simpa [size_zeroCells] using hc) (by simpa [size_zeroCells] using hf) (fun v hv' => h1 v (zero_mem h0 v hv'))
  simp only [Nat.add_zero] at hst
  have hz : (Value.agg cs).cells = cs := rfl
  obtain ⟨m, rfl⟩ : ∃ m, n = m + 1 := ⟨n - 1, by omega⟩
  simp [Builtin.clear_, run_underlying ht, hv, hz, hst]
end
end Go.Proofs.Ytjopjdidbkhmnaa
