/-
  What is proved: plain facts on rows of small structs that are laid one by one.
-/
import Derived.Test.YtjopjdidbkhmnaaOrdP
import Derived.Test.YtjopjdidbkhmnaaBx
import Derived.Test.YtjopjdidbkhmnaaTreeTo
namespace Go.Proofs.Ytjopjdidbkhmnaa
open Go Go.RowKit

/-- Cells stored one behind the other. -/
def setL (w : World) (b o : Nat) : List Value → World
  | [] => w
  | v :: vs => setL (w.setCell ⟨b, o, none⟩ v) b (o + 1) vs

theorem setL_other (w : World) (b o : Nat) (vs : List Value) (k : Nat) (h : k ≠ b) : (setL w b o vs).heap[k]? = w.heap[k]? := by
  induction vs generalizing w o with
  | nil => rfl
  | cons v vs ih => rw [setL, ih, Below.heap_setCell _ _ _ _ h]

theorem setL_below {B : Nat} {a w : World} (h : Below B a w) {b : Nat} (hb : B ≤ b) (o : Nat) (vs : List Value) : Below B a (setL w b o vs) := by
  induction vs generalizing w o with
  | nil => exact h
  | cons v vs ih => exact ih (h.setCell hb _) _

theorem setL_size (w : World) (b o : Nat) (vs : List Value) : (setL w b o vs).heap.size = w.heap.size := by
  induction vs generalizing w o with
  | nil => rfl
  | cons v vs ih => rw [setL, ih]; simp [World.setCell]

theorem setL_row {w : World} {b : Nat} {t : TypeId} {N : Nat} {f : Nat → Value} (h : w.rowIs b t N f) (o : Nat) (vs : List Value) :
    ∃ g, (setL w b o vs).rowIs b t N g ∧ (∀ c (_ : c < vs.length), some (g (o + c)) = vs[c]?) ∧ ∀ j, (j < o ∨ o + vs.length ≤ j) → g j = f j := by
  induction vs generalizing w o f with
  | nil => exact ⟨f, h, fun c hc => absurd hc (by simp), fun _ _ => rfl⟩
  | cons v vs ih =>
    obtain ⟨g, hg, h1, h2⟩ := ih (h.set o v) (o + 1)
    refine ⟨g, hg, fun c hc => ?_, fun j hj => ?_⟩
    · cases c with
      | zero => rw [Nat.add_zero, h2 o (by omega)]; simp
      | succ c =>
        have := h1 c (by simpa using hc)
        rw [show o + (c + 1) = o + 1 + c by omega, this]; simp
    · simp only [List.length_cons] at hj
      rw [h2 j (by omega)]
      have : ¬ j = o := by omega
      simp [this]

/-- A row of structs of k cells that has been laid up to n. -/
def LaidRow {α : Type} (enc : α → List Value) (k : Nat) (t : TypeId) (w wr : World) (xs : List α) (n : Nat) : Prop :=
  ∃ f : Nat → Value, wr.rowIs w.heap.size t (xs.length * k) f ∧ (∀ j (h : j < xs.length), j < n → ∀ c, c < k → some (f (j * k + c)) = (enc xs[j])[c]?) ∧ Below w.heap.size w wr

theorem LaidRow.start {α : Type} {enc : α → List Value} {k : Nat} {t : TypeId} {w wr : World} {xs : List α} {f : Nat → Value} (h : wr.rowIs w.heap.size t (xs.length * k) f) (hb : Below w.heap.size w wr) : LaidRow enc k t w wr xs 0 :=
  ⟨f, h, fun _ _ h => absurd h (by omega), hb⟩

theorem LaidRow.step {α : Type} {enc : α → List Value} {k : Nat} {t : TypeId} {w wr w1 : World} {xs : List α} {n : Nat} (hk : ∀ a, (enc a).length = k) (h : LaidRow enc k t w wr xs n) (hn : n < xs.length) (hb1 : Below wr.heap.size wr w1) :
    LaidRow enc k t w (setL w1 w.heap.size (n * k) (enc xs[n])) xs (n + 1) := by
  obtain ⟨f, hrow, hall, hb⟩ := h
  have hrow1 := hrow.of_block (hb1.block _ hrow.lt)
  obtain ⟨g, hg, hg1, hg2⟩ := setL_row hrow1 (n * k) (enc xs[n])
  rw [hk] at hg1 hg2
  refine ⟨g, hg, fun j hj hjn c hc => ?_, setL_below (hb.trans (hb1.mono hb.size)) (Nat.le_refl _) _ _⟩
  by_cases e : j = n
  · subst e
    exact hg1 c hc
  · have : j * k + c < n * k := by
      have : (j + 1) * k ≤ n * k := Nat.mul_le_mul_right k (by omega)
      rw [Nat.add_mul] at this
      omega
    rw [hg2 _ (by omega)]
    exact hall j hj (by omega) c hc

theorem LaidRow.done {α : Type} {enc : α → List Value} {ok : α → Prop} {k : Nat} {t : TypeId} {w wr : World} {xs : List α} (h : LaidRow enc k t w wr xs xs.length) (hm : xs.length ≤ maxLen) (hok : ∀ x ∈ xs, ok x) :
    ∃ F, RowAt enc ok k wr (.slice (some ⟨w.heap.size, 0, none⟩) xs.length xs.length) xs F ∧ Fresh w wr F ∧ (∀ b ∈ F, b = w.heap.size) ∧ Below w.heap.size w wr := by
  obtain ⟨f, hrow, hall, hb⟩ := h
  have hF : ∀ b ∈ (if xs.length = 0 then [] else [w.heap.size]), b = w.heap.size := by
    intro b h
    split at h <;> simp_all
  refine ⟨_, ⟨_, _, w.heap.size, 0, rfl, Nat.le_refl _, hm, fun _ => rfl, rfl, fun i hi => ⟨hok _ (List.getElem_mem hi), fun j hj => ?_⟩, fun i hi => by rw [Nat.zero_add, hrow.cell hi]; rfl⟩, ⟨by split <;> simp, fun b h => Nat.le_of_eq (hF b h).symm, fun b h o => by rw [hF b h]; exact hrow.frozen o⟩, hF, hb⟩
  have : i * k + j < xs.length * k := by
    have : (i + 1) * k ≤ xs.length * k := Nat.mul_le_mul_right k (by omega)
    rw [Nat.add_mul] at this
    omega
  rw [Nat.zero_add, hrow.cell this]
  exact hall i hi hi j hj

theorem rowIs_made (w : World) (z : Array Value) (n : Nat) (t : TypeId) : ∃ f, (w.alloc (.cells (madeCells z n) t)).rowIs w.heap.size t n f :=
  ⟨fun i => (madeCells z n)[i]?.getD default, by
    have := World.rowIs_alloc w (madeCells z n) t (fun i => (madeCells z n)[i]?.getD default) (fun i hi => by rw [Array.getElem?_eq_getElem hi]; rfl)
    rwa [size_madeCells] at this⟩
end Go.Proofs.Ytjopjdidbkhmnaa
