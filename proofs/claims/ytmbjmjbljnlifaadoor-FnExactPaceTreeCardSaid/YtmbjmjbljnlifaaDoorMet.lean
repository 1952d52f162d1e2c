/-
  What is proved: for any metric and any pace the program's MetricOk, PaceOk and PaceNew answer as the model's do.
-/
import Derived.Test.YtmbjmjbljnlifaaDoorNames
namespace Go.Proofs.YtmbjmjbljnlifaaDoor
open Go Go.RowKit

def metB (s : ByteArray) (k g : Int) : Bool := (nameB s && inB k 1 3) && inB g 1 1000000
def paceB (u d us ds : Int) : Bool := ((inB u 0 1000 && inB d 0 1000) && inB us 0 3600) && inB ds 0 3600
/-- A metric and a pace as one value each. -/
def metV (s : ByteArray) (k g : Int) : Value := .agg #[.string s, .int .i64 k, .int .i64 g]
def paceV (u d us ds : Int) : Value := .agg #[.int .i64 u, .int .i64 d, .int .i64 us, .int .i64 ds]

set_option maxHeartbeats 1000000 in
theorem sz_metric (s : ByteArray) (k g : Int) (left : Nat) (hm : s.size ≤ maxLen) (h2 : left ≤ 1048576) (w : World) :
    Calls Tryd.prog 5 #[.agg #[.string s, .int .i64 k, .int .i64 g], .int .i64 left] w fun e w' => e = .returned (.int .i64 (if s.size ≤ left then ((left - s.size : Nat) : Int) else -1)) ∧ Below w.heap.size w w' := by
  have HB : Hid (∀ o, Below w.heap.size w (w.alloc o)) := fun o => (Below.refl _ w).alloc (Nat.le_refl _) o
  unfold maxLen at hm
  by_cases h : s.size ≤ left
  · rw [if_pos h]
    go_enter Tryd.func5, Tryd.ntmps5
    go_wp2
    go_ret
    exact ⟨by rw [show ((left - s.size : Nat) : Int) = (left : Int) - s.size by omega]; rfl, HB.out _⟩
  · rw [if_neg h]
    go_enter Tryd.func5, Tryd.ntmps5
    go_wp2
    go_ret
    exact ⟨rfl, HB.out _⟩

/-- Three new blocks. -/
theorem three_new (w : World) (a b c : Obj) : (((w.alloc a).alloc b).alloc c).heap[w.heap.size]? = some a ∧ (((w.alloc a).alloc b).alloc c).heap[w.heap.size + 1]? = some b ∧ (((w.alloc a).alloc b).alloc c).heap[w.heap.size + 1 + 1]? = some c ∧
    Below w.heap.size w (((w.alloc a).alloc b).alloc c) ∧ (((w.alloc a).alloc b).alloc c).heap.size = w.heap.size + 3 := by
  have hl : ∀ (w : World) (o : Obj), (w.alloc o).heap[w.heap.size]? = some o := fun w o => by
    show (w.heap.push o)[w.heap.size]? = _
    simp
  have e1 : (w.alloc a).heap.size = w.heap.size + 1 := by simp
  have e2 : ((w.alloc a).alloc b).heap.size = w.heap.size + 1 + 1 := by simp
  refine ⟨?_, ?_, ?_, ((((Below.refl _ w).alloc (Nat.le_refl _) _).alloc (by simp) _).alloc (by simp; omega) _), by simp⟩
  · rw [Below.heap_alloc _ _ _ (by simp; omega), Below.heap_alloc _ _ _ (by simp), hl]
  · rw [Below.heap_alloc _ _ _ (by simp), ← e1, hl]
  · rw [← e2, hl]

theorem ret_met {fn : Func} {i : Nat} (hres : fn.results = #[ResultVar.cell i 30]) {tmps : Array Value} {w : World} {b : Nat} {t : TypeId} {a0 a1 a2 : Value}
    (ht : tmps[i]?.getD undef = .pointer (some ⟨b, 0, none⟩)) (h : w.heap[b]? = some (.cells #[a0, a1, a2] t (0, 0))) : (results fn tmps).run Tryd.prog w = .ok (.agg #[a0, a1, a2]) w := by
  have c0 : w.cell? ⟨b, 0, none⟩ = some a0 := by simp [World.cell?, h]
  have c1 : w.cell? ⟨b, 1, none⟩ = some a1 := by simp [World.cell?, h]
  have c2 : w.cell? ⟨b, 2, none⟩ = some a2 := by simp [World.cell?, h]
  simp [results, hres, ht, go_sem, c0, c1, c2]

theorem ret_pace {fn : Func} {i : Nat} (hres : fn.results = #[ResultVar.cell i 38]) {tmps : Array Value} {w : World} {b : Nat} {t : TypeId} {a0 a1 a2 a3 : Value}
    (ht : tmps[i]?.getD undef = .pointer (some ⟨b, 0, none⟩)) (h : w.heap[b]? = some (.cells #[a0, a1, a2, a3] t (0, 0))) : (results fn tmps).run Tryd.prog w = .ok (.agg #[a0, a1, a2, a3]) w := by
  have c0 : w.cell? ⟨b, 0, none⟩ = some a0 := by simp [World.cell?, h]
  have c1 : w.cell? ⟨b, 1, none⟩ = some a1 := by simp [World.cell?, h]
  have c2 : w.cell? ⟨b, 2, none⟩ = some a2 := by simp [World.cell?, h]
  have c3 : w.cell? ⟨b, 3, none⟩ = some a3 := by simp [World.cell?, h]
  simp [results, hres, ht, go_sem, c0, c1, c2, c3]

set_option maxHeartbeats 1000000 in
theorem to_metric (s : ByteArray) (k g : Int) (w : World) :
    Calls Tryd.prog 7 #[.agg #[.string s, .int .i64 k, .int .i64 g]] w fun e w' => e = .returned (.agg #[.string s, .int .i64 k, .int .i64 g]) ∧ Below w.heap.size w w' := by
  have HZ := Lib.hid (three_new w (.cells #[.string s, .int .i64 k, .int .i64 g] 23) (.cells #[.string s, .int .i64 k, .int .i64 g] 30) (.cells #[.string s, .int .i64 k, .int .i64 g] 30))
  go_enter Tryd.func7, Tryd.ntmps7
  go_wp2
  exact bodyPost_ret (ret_met Tryd.results7 rfl HZ.out.2.1) rfl ⟨rfl, HZ.out.2.2.2.1⟩

set_option maxHeartbeats 1000000 in
theorem to_pace (u d us ds : Int) (w : World) :
    Calls Tryd.prog 13 #[.agg #[.int .i64 u, .int .i64 d, .int .i64 us, .int .i64 ds]] w fun e w' => e = .returned (.agg #[.int .i64 u, .int .i64 d, .int .i64 us, .int .i64 ds]) ∧ Below w.heap.size w w' := by
  have HZ := Lib.hid (three_new w (.cells #[.int .i64 u, .int .i64 d, .int .i64 us, .int .i64 ds] 36) (.cells #[.int .i64 u, .int .i64 d, .int .i64 us, .int .i64 ds] 38) (.cells #[.int .i64 u, .int .i64 d, .int .i64 us, .int .i64 ds] 38))
  go_enter Tryd.func13, Tryd.ntmps13
  go_wp2
  exact bodyPost_ret (ret_pace Tryd.results13 rfl HZ.out.2.1) rfl ⟨rfl, HZ.out.2.2.2.1⟩

end Go.Proofs.YtmbjmjbljnlifaaDoor
