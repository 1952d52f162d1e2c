/-
  What is proved: for any metric and any pace the program's MetricOk, PaceOk and PaceNew answer as the model's do.; one operation of a region whose order Go leaves open may be taken first, whether its guard lets it run or not.
-/
import Derived.Test.YtfmkhogpnnobeaaGreatDoorPartAJ
import Derived.Deep.RegionHeld3
/- for any metric and any pace the program's MetricOk, PaceOk and PaceNew answer as the model's do. -/
namespace Go.Proofs.YtfmkhogpnnobeaaGreatDoor
open Go Go.RowKit

def metB (s : ByteArray) (k g : Int) : Bool := (nameB s && inB k 1 3) && inB g 1 1000000
def paceB (u d us ds : Int) : Bool := ((inB u 0 1000 && inB d 0 1000) && inB us 0 3600) && inB ds 0 3600
/-- A metric and a pace as one value each. -/
def metV (s : ByteArray) (k g : Int) : Value := .agg #[.string s, .int .i64 k, .int .i64 g]
def paceV (u d us ds : Int) : Value := .agg #[.int .i64 u, .int .i64 d, .int .i64 us, .int .i64 ds]

set_option maxRecDepth 100000 in
set_option maxHeartbeats 1000000 in
theorem spec_metricOk (s : ByteArray) (k g : Int) (hm : s.size ≤ maxLen) (w : World) :
    Calls Tryz.prog 89 #[.agg #[.string s, .int .i64 k, .int .i64 g]] w fun e w' => e = .returned (.bool (metB s k g)) ∧ Below w.heap.size w w' := by
  have h1 := Lib.hid (spec_nameOk s hm)
  have HB : Hid (∀ o, Below w.heap.size w (w.alloc o)) := fun o => (Below.refl _ w).alloc (Nat.le_refl _) o
  unfold metB
  clear hm
  generalize nameB s = b1 at *
  rcases hb2 : inB k 1 3 <;> rcases hb3 : inB g 1 1000000 <;> cases b1
  all_goals
    go_enter Tryz.func89, Tryz.ntmps89
    go_wp2_with (first
      | (go_at_call 52; refine (h1.out _).mono ?_; rintro e w1 ⟨rfl, e1⟩; subst e1)
      | (go_at_call 53; refine (spec_inB _ _ _ _).mono ?_; rintro e w1 ⟨rfl, e1⟩; subst e1; first | rw [hb2] | rw [hb3])
      | fail)
    go_ret
    exact ⟨rfl, HB.out _⟩
set_option maxRecDepth 100000 in
set_option maxHeartbeats 1000000 in
theorem impl_metricOk (s : ByteArray) (k g : Int) (hm : s.size ≤ maxLen) (w : World) :
    Calls Tryz.prog 98 #[.agg #[.string s, .int .i64 k, .int .i64 g]] w fun e w' => e = .returned (.bool (metB s k g)) ∧ Below w.heap.size w w' := by
  have h1 := Lib.hid (impl_nameOk s hm)
  have HB : Hid (∀ o, Below w.heap.size w (w.alloc o)) := fun o => (Below.refl _ w).alloc (Nat.le_refl _) o
  unfold metB
  clear hm
  generalize nameB s = b1 at *
  rcases hb2 : inB k 1 3 <;> rcases hb3 : inB g 1 1000000 <;> cases b1
  all_goals
    go_enter Tryz.func98, Tryz.ntmps98
    go_wp2_with (first
      | (go_at_call 66; refine (h1.out _).mono ?_; rintro e w1 ⟨rfl, e1⟩; subst e1)
      | (go_at_call 67; refine (impl_inB _ _ _ _).mono ?_; rintro e w1 ⟨rfl, e1⟩; subst e1; first | rw [hb2] | rw [hb3])
      | fail)
    go_ret
    exact ⟨rfl, HB.out _⟩

set_option maxRecDepth 100000 in
set_option maxHeartbeats 1000000 in
theorem spec_paceOk (u d us ds : Int) (w : World) :
    Calls Tryz.prog 55 #[.agg #[.int .i64 u, .int .i64 d, .int .i64 us, .int .i64 ds]] w fun e w' => e = .returned (.bool (paceB u d us ds)) ∧ Below w.heap.size w w' := by
  have HB : Hid (∀ o, Below w.heap.size w (w.alloc o)) := fun o => (Below.refl _ w).alloc (Nat.le_refl _) o
  unfold paceB
  rcases hb1 : inB u 0 1000 <;> rcases hb2 : inB d 0 1000 <;> rcases hb3 : inB us 0 3600 <;> rcases hb4 : inB ds 0 3600
  all_goals
    go_enter Tryz.func55, Tryz.ntmps55
    go_wp2_with (first
      | (go_at_call 53; refine (spec_inB _ _ _ _).mono ?_; rintro e w1 ⟨rfl, e1⟩; subst e1; first | rw [hb1] | rw [hb2] | rw [hb3] | rw [hb4])
      | fail)
    go_ret
    exact ⟨rfl, HB.out _⟩

set_option maxRecDepth 100000 in
set_option maxHeartbeats 1000000 in
theorem impl_paceOk (u d us ds : Int) (w : World) :
    Calls Tryz.prog 69 #[.agg #[.int .i64 u, .int .i64 d, .int .i64 us, .int .i64 ds]] w fun e w' => e = .returned (.bool (paceB u d us ds)) ∧ Below w.heap.size w w' := by
  have HB : Hid (∀ o, Below w.heap.size w (w.alloc o)) := fun o => (Below.refl _ w).alloc (Nat.le_refl _) o
  unfold paceB
  rcases hb1 : inB u 0 1000 <;> rcases hb2 : inB d 0 1000 <;> rcases hb3 : inB us 0 3600 <;> rcases hb4 : inB ds 0 3600
  all_goals
    go_enter Tryz.func69, Tryz.ntmps69
    go_wp2_with (first
      | (go_at_call 67; refine (impl_inB _ _ _ _).mono ?_; rintro e w1 ⟨rfl, e1⟩; subst e1; first | rw [hb1] | rw [hb2] | rw [hb3] | rw [hb4])
      | fail)
    go_ret
    exact ⟨rfl, HB.out _⟩

set_option maxHeartbeats 1000000 in
theorem sz_metric (s : ByteArray) (k g : Int) (left : Nat) (hm : s.size ≤ maxLen) (h2 : left ≤ 1048576) (w : World) :
    Calls Tryz.prog 50 #[.agg #[.string s, .int .i64 k, .int .i64 g], .int .i64 left] w fun e w' => e = .returned (.int .i64 (if s.size ≤ left then ((left - s.size : Nat) : Int) else -1)) ∧ Below w.heap.size w w' := by
  have HB : Hid (∀ o, Below w.heap.size w (w.alloc o)) := fun o => (Below.refl _ w).alloc (Nat.le_refl _) o
  unfold maxLen at hm
  by_cases h : s.size ≤ left
  · rw [if_pos h]
    go_enter Tryz.func50, Tryz.ntmps50
    go_wp2
    go_ret
    exact ⟨by rw [show ((left - s.size : Nat) : Int) = (left : Int) - s.size by omega]; rfl, HB.out _⟩
  · rw [if_neg h]
    go_enter Tryz.func50, Tryz.ntmps50
    go_wp2
    go_ret
    exact ⟨rfl, HB.out _⟩

/-- Three new blocks. -/
theorem three_new (w : World) (a b c : Obj) : (((w.alloc a).alloc b).alloc c).heap[w.heap.size]? = some a ∧ (((w.alloc a).alloc b).alloc c).heap[w.heap.size + 1]? = some b ∧ (((w.alloc a).alloc b).alloc c).heap[w.heap.size + 1 + 1]? = some c ∧
    Below w.heap.size w (((w.alloc a).alloc b).alloc c) ∧ (((w.alloc a).alloc b).alloc c).heap.size = w.heap.size + 3 := by
  have hl : ∀ (w : World) (o : Obj), (w.alloc o).heap[w.heap.size]? = some o := fun w o => by
    show (w.heap.push o)[w.heap.size]? = _
    simp
  have e1 : (w.alloc a).heap.size = w.heap.size + 1 := by simp
  have e2 : ((w.alloc a).alloc b).heap.size = w.heap.size + 1 + 1 := by simp
  refine ⟨?_, ?_, ?_, ((((Below.refl _ w).alloc (Nat.le_refl _) _).alloc (by simp) _).alloc (by simp; omega) _), by simp⟩
  · rw [Below.heap_alloc _ _ _ (by simp; omega), Below.heap_alloc _ _ _ (by simp), hl]
  · rw [Below.heap_alloc _ _ _ (by simp), ← e1, hl]
  · rw [← e2, hl]

theorem ret_met {fn : Func} {i : Nat} (hres : fn.results = #[ResultVar.cell i 93]) {tmps : Array Value} {w : World} {b : Nat} {t : TypeId} {a0 a1 a2 : Value}
    (ht : tmps[i]?.getD undef = .pointer (some ⟨b, 0, none⟩)) (h : w.heap[b]? = some (.cells #[a0, a1, a2] t (0, 0))) : (results fn tmps).run Tryz.prog w = .ok (.agg #[a0, a1, a2]) w := by
  have c0 : w.cell? ⟨b, 0, none⟩ = some a0 := by simp [World.cell?, h]
  have c1 : w.cell? ⟨b, 1, none⟩ = some a1 := by simp [World.cell?, h]
  have c2 : w.cell? ⟨b, 2, none⟩ = some a2 := by simp [World.cell?, h]
  simp [results, hres, ht, go_sem, c0, c1, c2]

theorem ret_pace {fn : Func} {i : Nat} (hres : fn.results = #[ResultVar.cell i 35]) {tmps : Array Value} {w : World} {b : Nat} {t : TypeId} {a0 a1 a2 a3 : Value}
    (ht : tmps[i]?.getD undef = .pointer (some ⟨b, 0, none⟩)) (h : w.heap[b]? = some (.cells #[a0, a1, a2, a3] t (0, 0))) : (results fn tmps).run Tryz.prog w = .ok (.agg #[a0, a1, a2, a3]) w := by
  have c0 : w.cell? ⟨b, 0, none⟩ = some a0 := by simp [World.cell?, h]
  have c1 : w.cell? ⟨b, 1, none⟩ = some a1 := by simp [World.cell?, h]
  have c2 : w.cell? ⟨b, 2, none⟩ = some a2 := by simp [World.cell?, h]
  have c3 : w.cell? ⟨b, 3, none⟩ = some a3 := by simp [World.cell?, h]
  simp [results, hres, ht, go_sem, c0, c1, c2, c3]

set_option maxHeartbeats 1000000 in
theorem to_metric (s : ByteArray) (k g : Int) (w : World) :
    Calls Tryz.prog 64 #[.agg #[.string s, .int .i64 k, .int .i64 g]] w fun e w' => e = .returned (.agg #[.string s, .int .i64 k, .int .i64 g]) ∧ Below w.heap.size w w' := by
  have HZ := Lib.hid (three_new w (.cells #[.string s, .int .i64 k, .int .i64 g] 80) (.cells #[.string s, .int .i64 k, .int .i64 g] 93) (.cells #[.string s, .int .i64 k, .int .i64 g] 93))
  go_enter Tryz.func64, Tryz.ntmps64
  go_wp2
  exact bodyPost_ret (ret_met Tryz.results64 rfl HZ.out.2.1) rfl ⟨rfl, HZ.out.2.2.2.1⟩

set_option maxHeartbeats 1000000 in
theorem to_pace (u d us ds : Int) (w : World) :
    Calls Tryz.prog 27 #[.agg #[.int .i64 u, .int .i64 d, .int .i64 us, .int .i64 ds]] w fun e w' => e = .returned (.agg #[.int .i64 u, .int .i64 d, .int .i64 us, .int .i64 ds]) ∧ Below w.heap.size w w' := by
  have HZ := Lib.hid (three_new w (.cells #[.int .i64 u, .int .i64 d, .int .i64 us, .int .i64 ds] 24) (.cells #[.int .i64 u, .int .i64 d, .int .i64 us, .int .i64 ds] 35) (.cells #[.int .i64 u, .int .i64 d, .int .i64 us, .int .i64 ds] 35))
  go_enter Tryz.func27, Tryz.ntmps27
  go_wp2
  exact bodyPost_ret (ret_pace Tryz.results27 rfl HZ.out.2.1) rfl ⟨rfl, HZ.out.2.2.2.1⟩

set_option maxHeartbeats 1000000 in
theorem spec_paceNew (w : World) : Calls Tryz.prog 62 #[] w fun e w' => e = .returned (.agg #[.int .i64 0, .int .i64 0, .int .i64 0, .int .i64 300]) ∧ Below w.heap.size w w' := by
  have HB : Hid (∀ o, Below w.heap.size w (w.alloc o)) := fun o => (Below.refl _ w).alloc (Nat.le_refl _) o
  have HL : Hid (∀ o, (w.alloc o).heap[w.heap.size]? = some o) := fun o => by
    show (w.heap.push o)[w.heap.size]? = _
    simp
  go_enter Tryz.func62, Tryz.ntmps62
  go_wp2
  exact bodyPost_ret (ret_pace Tryz.results62 rfl (HL.out _)) rfl ⟨rfl, HB.out _⟩

set_option maxHeartbeats 1000000 in
theorem impl_paceNew (w : World) : Calls Tryz.prog 75 #[] w fun e w' => e = .returned (.agg #[.int .i64 0, .int .i64 0, .int .i64 0, .int .i64 300]) ∧ Below w.heap.size w w' := by
  have HB : Hid (∀ o, Below w.heap.size w (w.alloc o)) := fun o => (Below.refl _ w).alloc (Nat.le_refl _) o
  have HL : Hid (∀ o, (w.alloc o).heap[w.heap.size]? = some o) := fun o => by
    show (w.heap.push o)[w.heap.size]? = _
    simp
  go_enter Tryz.func75, Tryz.ntmps75
  go_wp2
  exact bodyPost_ret (ret_pace Tryz.results75 rfl (HL.out _)) rfl ⟨rfl, HB.out _⟩

set_option maxHeartbeats 1000000 in
theorem eq_pace (u d us ds : Int) (w : World) :
    Calls Tryz.prog 34 #[.agg #[.int .i64 u, .int .i64 d, .int .i64 us, .int .i64 ds], .agg #[.int .i64 u, .int .i64 d, .int .i64 us, .int .i64 ds]] w fun e w' => e = .returned (.bool true) ∧ Below w.heap.size w w' := by
  have HB : Hid (∀ o o', Below w.heap.size w ((w.alloc o).alloc o')) := fun o o' => ((Below.refl _ w).alloc (Nat.le_refl _) o).alloc (by simp) o'
  go_enter Tryz.func34, Tryz.ntmps34
  go_wp2
  go_ret
  exact ⟨rfl, HB.out _ _⟩
end Go.Proofs.YtfmkhogpnnobeaaGreatDoor

/- one operation of a region whose order Go leaves open may be taken first, whether its guard lets it run or not. -/
namespace Go.Proofs.YtfmkhogpnnobeaaGreatDoor
open Go

/-- One operation of a drawn region is taken first: what it leaves lies in the slot d. -/
theorem takeD {P : Program} {ops : Array Oper} {Q : Exit → Act → World → Prop} {md : Region.Mode} {S : World → Prop} (i d : Nat) (v : Value) {oi : Oper} {fuel : Nat} {listed : Array Bool} {a : Act} {w : World} (hi : ops[i]? = some oi) (hd : oi.dst = some d)
    (hs : Region.noSelect ops = true) (hf : Region.free md ops listed i = true) (hr : (Region.ready md ops listed).contains i = true)
    (hQ : ∀ c a w, Q (.panic c) (a.put (some d) v) w → Q (.panic c) a w) (hy : YieldsIf P ops S oi v a) (hS : S w)
    (h : wpAnyH P md ops Q S fuel (listed.setIfInBounds i true) (a.put (some d) v) w) : wpAnyH P md ops Q S (fuel + 1) listed a w :=
  wpAnyH_take hi hs hf hr (by rw [hd]; exact hQ) hy hS (by rw [hd]; exact h)
end Go.Proofs.YtfmkhogpnnobeaaGreatDoor
