/-
  What is proved: the laws' markNodeS and markNode write their marks into the lists of a tree whose lists lie apart, and into nothing else.
-/
import Derived.Test.YtlghcjihncmaiaaDoorTreeMark
namespace Go.Proofs.YtlghcjihncmaiaaDoor
open Go Go.RowKit

theorem flat_apart {FF : Nat → List Nat} {n : Nat} (h : ((List.range n).flatMap FF).Nodup) : (∀ i, i < n → (FF i).Nodup) ∧ ∀ i j, i < n → j < n → i ≠ j → ∀ x ∈ FF i, x ∉ FF j := by
  induction n with
  | zero => exact ⟨fun i hi => absurd hi (by omega), fun i j hi => absurd hi (by omega)⟩
  | succ n ih =>
    rw [List.range_succ, List.flatMap_append] at h
    simp only [List.flatMap_cons, List.flatMap_nil, List.append_nil] at h
    obtain ⟨h1, h2, h3⟩ := List.nodup_append.1 h
    obtain ⟨i1, i2⟩ := ih h1
    have mem : ∀ i, i < n → ∀ x ∈ FF i, x ∈ (List.range n).flatMap FF := fun i hi x hx => List.mem_flatMap.2 ⟨i, List.mem_range.2 hi, hx⟩
    refine ⟨fun i hi => ?_, fun i j hi hj hij x hx hx' => ?_⟩
    · by_cases e : i = n
      · subst e; exact h2
      · exact i1 i (by omega)
    · by_cases e : i = n
      · subst e
        exact h3 x (mem j (by omega) x hx') x hx rfl
      · by_cases e2 : j = n
        · subst e2
          exact h3 x (mem i (by omega) x hx) x hx' rfl
        · exact i2 i j (by omega) (by omega) hij x hx hx'

/-- A row of trees, some of which have their marks: all that has turned lies in F. -/
structure MState (F : List Nat) (w wr : World) (b off n : Nat) (KV DV : Nat → Value) (FF : Nat → List Nat) (M : Nat → RT) : Prop where
  but : But F w wr
  row : ∀ j, j < n → ∀ c, c < 5 → wr.cell? ⟨b, off + j * 5 + c, none⟩ = ((M j).row (KV j) (DV j))[c]?
  lie : ∀ j, j < n → Lies wr (M j) (KV j) (DV j) (FF j)

theorem MState.step {F : List Nat} {w wr w' : World} {b off n : Nat} {KV DV : Nat → Value} {FF : Nat → List Nat} {M : Nat → RT} (h : MState F w wr b off n KV DV FF M) {i : Nat} (hi : i < n) (X : RT)
    (hbF : b ∈ F) (hbF' : ∀ j, j < n → b ∉ FF j) (hFF : ∀ x ∈ FF i, x ∈ F) (hap : ∀ j, j < n → j ≠ i → ∀ x ∈ FF j, x ∉ FF i)
    (hbut : But (b :: FF i) wr w') (hrow : ∀ c, c < 5 → w'.cell? ⟨b, off + i * 5 + c, none⟩ = (X.row (KV i) (DV i))[c]?)
    (hoth : ∀ j, j < n → j ≠ i → ∀ c, c < 5 → w'.cell? ⟨b, off + j * 5 + c, none⟩ = wr.cell? ⟨b, off + j * 5 + c, none⟩) (hl : Lies w' X (KV i) (DV i) (FF i)) :
    MState F w w' b off n KV DV FF (fun j => if j = i then X else M j) where
  but := h.but.trans (hbut.mono fun x hx => by
    rcases List.mem_cons.1 hx with e | e
    · rw [e]; exact hbF
    · exact hFF x e)
  row := fun j hj c hc => by
    by_cases e : j = i
    · subst e
      simp only [if_true]
      exact hrow c hc
    · simp only [e, if_false]
      rw [hoth j hj e c hc]
      exact h.row j hj c hc
  lie := fun j hj => by
    by_cases e : j = i
    · subst e
      simp only [if_true]
      exact hl
    · simp only [e, if_false]
      refine (h.lie j hj).but hbut fun x hx hx' => ?_
      rcases List.mem_cons.1 hx' with e' | e'
      · exact hbF' j hj (e' ▸ hx)
      · exact hap j hj e x hx e'

/-- The first three cells of a node, written, with a call between. -/
theorem mark_head {wr w1 : World} {b p : Nat} {x : RT} {kv dv : Value} (q : Nat) (hrow : ∀ c, c < 5 → wr.cell? ⟨b, p + c, none⟩ = (x.row kv dv)[c]?)
    (hb1 : Below ((wr.setCell ⟨b, p, none⟩ (.int .i64 (q : Nat))).setCell ⟨b, p + 1, none⟩ (.int .i64 (q + 1 : Nat))).heap.size ((wr.setCell ⟨b, p, none⟩ (.int .i64 (q : Nat))).setCell ⟨b, p + 1, none⟩ (.int .i64 (q + 1 : Nat))) w1) :
    But [b] wr (w1.setCell ⟨b, p + 2, none⟩ (.string (markTxt (q + 2)))) ∧ (∀ c, c < 5 → (w1.setCell ⟨b, p + 2, none⟩ (.string (markTxt (q + 2)))).cell? ⟨b, p + c, none⟩ = ((markOne x q).row kv dv)[c]?) ∧
    (∀ o, (o < p ∨ p + 5 ≤ o) → (w1.setCell ⟨b, p + 2, none⟩ (.string (markTxt (q + 2)))).cell? ⟨b, o, none⟩ = wr.cell? ⟨b, o, none⟩) ∧ w1.cell? ⟨b, p + 2, none⟩ = some (.string x.s) ∧ w1.cell? ⟨b, p + 3, none⟩ = some kv ∧ w1.cell? ⟨b, p + 4, none⟩ = some dv ∧ But [b] wr w1 := by
  have c0 : wr.cell? ⟨b, p, none⟩ = some (.int .i64 x.k) := hrow 0 (by omega)
  have c1 : wr.cell? ⟨b, p + 1, none⟩ = some (.int .i64 x.n) := hrow 1 (by omega)
  have c2 : wr.cell? ⟨b, p + 2, none⟩ = some (.string x.s) := hrow 2 (by omega)
  have c3 : wr.cell? ⟨b, p + 3, none⟩ = some kv := hrow 3 (by omega)
  have c4 : wr.cell? ⟨b, p + 4, none⟩ = some dv := hrow 4 (by omega)
  have hlt : b < wr.heap.size := World.block_lt_of_cell? _ _ c0
  have hA1 : (wr.setCell ⟨b, p, none⟩ (.int .i64 (q : Nat))).cell? ⟨b, p + 1, none⟩ = some (.int .i64 x.n) := by rw [set_cell c0, if_neg (by omega)]; exact c1
  have hA : ∀ o, ((wr.setCell ⟨b, p, none⟩ (.int .i64 (q : Nat))).setCell ⟨b, p + 1, none⟩ (.int .i64 (q + 1 : Nat))).cell? ⟨b, o, none⟩ = if o = p + 1 then some (.int .i64 (q + 1 : Nat)) else if o = p then some (.int .i64 (q : Nat)) else wr.cell? ⟨b, o, none⟩ := fun o => by
    rw [set_cell hA1, set_cell c0]
  have hw1 : ∀ o, w1.cell? ⟨b, o, none⟩ = if o = p + 1 then some (.int .i64 (q + 1 : Nat)) else if o = p then some (.int .i64 (q : Nat)) else wr.cell? ⟨b, o, none⟩ := fun o => by
    rw [hb1.cell (by simp [World.setCell]; exact hlt), hA]
  have h2 : w1.cell? ⟨b, p + 2, none⟩ = some (.string x.s) := by rw [hw1, if_neg (by omega), if_neg (by omega)]; exact c2
  have hbut : But [b] wr w1 := ((((But.refl [b] wr).set (p := ⟨b, p, none⟩) (by simp) _).set (p := ⟨b, p + 1, none⟩) (by simp) _).trans (But.of_below hb1))
  refine ⟨hbut.set (by simp) _, fun c hc => ?_, fun o ho => ?_, h2, ?_, ?_, hbut⟩
  · rw [set_cell h2, hw1]
    match c, hc with
    | 0, _ => rw [if_neg (by omega), if_neg (by omega), if_pos (by omega)]; rfl
    | 1, _ => rw [if_neg (by omega), if_pos rfl]; rfl
    | 2, _ => rw [if_pos rfl]; rfl
    | 3, _ => rw [if_neg (by omega), if_neg (by omega), if_neg (by omega)]; exact c3
    | 4, _ => rw [if_neg (by omega), if_neg (by omega), if_neg (by omega)]; exact c4
  · rw [set_cell h2, hw1, if_neg (by omega), if_neg (by omega), if_neg (by omega)]
  · rw [hw1, if_neg (by omega), if_neg (by omega)]; exact c3
  · rw [hw1, if_neg (by omega), if_neg (by omega)]; exact c4

end Go.Proofs.YtlghcjihncmaiaaDoor
