/-
  What is proved: the program's Number at every text of at most a million bytes: its inner function panics at what is no number, its face recovers; conditions: the library's table of powers of ten and three error variables start as the program's text lays them.
-/
import Derived.Test.YtafbcohlbhblfabDoorNumB
import Derived.Test.YtafbcohlbhblfabDoorFacts
import Derived.Defers
import Derived.Recover
import Derived.Lib.Hide
namespace Go.Proofs.YtafbcohlbhblfabDoor
open Go Go.RowKit

theorem atoi_ok (s : ByteArray) (hmax : s.size ≤ 1048576) (v : Int) (h : Lib.atoiAll s.data.toList = .ok v) (w : World) :
    Calls Tryd.prog 43 #[.string s] w fun e w' => e = .returned (.tuple #[.int .i64 v, .nilIface]) ∧ Below w.heap.size w w' := by
  refine (Tryd.strconv_Atoi_ok s (by omega) v h w).mono ?_
  rintro e w' ⟨rfl, rfl | ⟨t, rfl⟩⟩
  · exact ⟨rfl, Below.refl _ _⟩
  · exact ⟨rfl, Lib.bytesWorld_below _ _ _⟩

theorem atoi_err (s : ByteArray) (hmax : s.size ≤ 1048576) (h : ∀ v, Lib.atoiAll s.data.toList ≠ .ok v) (w : World) (V : Vars w) :
    Calls Tryd.prog 43 #[.string s] w fun e w' => (∃ (x : Int) (N : Nat), e = .returned (.tuple #[.int .i64 x, .iface 65 (.pointer (some ⟨N, 0, none⟩))])) ∧ Below w.heap.size w w' := by
  cases ha : Lib.atoiAll s.data.toList
  · exact absurd ha (h _)
  · refine (Any.strconv_Atoi_syntax_var Tryd.laysC172 s (by omega) ha V.tS V.pS w V.syn).mono ?_
    rintro e w' ⟨N, rfl, _, _, hb⟩
    exact ⟨⟨_, N, rfl⟩, hb⟩
  · refine (Any.strconv_Atoi_range_var Tryd.laysC172 s (by omega) ha V.tR V.pR w V.rng).mono ?_
    rintro e w' ⟨N, rfl, _, _, hb⟩
    exact ⟨⟨_, N, rfl⟩, hb⟩

set_option maxHeartbeats 400000 in
theorem must_ok (s : ByteArray) (hs : s.size ≤ 1048576) (v : Int) (h : Num.numOf s.data.toList = some v) (w : World) (V : Vars w) :
    Calls Tryd.prog 37 #[.string s] w fun e w' => e = .returned (.int .i64 v) ∧ Below w.heap.size w w' := by
  obtain ⟨h0, h1, h2⟩ := Num.numOf_some h
  have ha : Hid (Lib.atoiAll s.data.toList = .ok v) := by show _ = _; rw [← h2]; exact Num.atoiAll_itoa h0 h1
  have h3 : Lib.itoa v = s.toList := by rw [ByteArray.toList_eq]; exact h2
  clear h h2
  have hT := Lib.tabBelow_of_tabIs V.tab
  go_enter Tryd.func37, Tryd.ntmps37
  go_wp2_with (first
    | (go_at_call 43; refine (atoi_ok s hs v ha.out _).mono ?_; rintro e w1 ⟨rfl, hb1⟩)
    | (go_at_call 26; refine (impl_digits v (by omega) (by omega) _ (hT _ hb1)).mono ?_; rintro e w2 ⟨rfl, hb2⟩))
  go_ret
  exact ⟨rfl, hb1.trans (hb2.mono hb1.size)⟩

set_option maxHeartbeats 400000 in
theorem must_err (s : ByteArray) (hs : s.size ≤ 1048576) (h : ∀ v, Lib.atoiAll s.data.toList ≠ .ok v) (w : World) (V : Vars w) :
    Calls Tryd.prog 37 #[.string s] w fun e w' => e = .panicked [{ v := .iface V.tN V.pN, recovered := false }] ∧ Below w.heap.size w w' := by
  have hn := V.no
  have ho := V.oldN
  go_enter Tryd.func37, Tryd.ntmps37
  go_wp2_with (go_at_call 43; refine (atoi_err s hs h _ V).mono ?_; rintro e w1 ⟨⟨x, N, rfl⟩, hb1⟩; have hc1 := (hb1.cell (p := ⟨0, 0, none⟩) ho).trans hn)
  exact ⟨rfl, rfl, hb1⟩

set_option maxHeartbeats 400000 in
theorem must_far (s : ByteArray) (hs : s.size ≤ 1048576) (v : Int) (ha : Hid (Lib.atoiAll s.data.toList = .ok v)) (hv : v < -1000000000000 ∨ 1000000000000 < v) (w : World) (V : Vars w) :
    Calls Tryd.prog 37 #[.string s] w fun e w' => e = .panicked [{ v := .iface V.tN V.pN, recovered := false }] ∧ Below w.heap.size w w' := by
  have hn := V.no
  have ho := V.oldN
  rcases hv with hv | hv
  · go_enter Tryd.func37, Tryd.ntmps37
    go_wp2_with (go_at_call 43; refine (atoi_ok s hs v ha.out _).mono ?_; rintro e w1 ⟨rfl, hb1⟩; have hc1 := (hb1.cell (p := ⟨0, 0, none⟩) ho).trans hn)
    exact ⟨rfl, rfl, hb1⟩
  · have hv' : ¬ v < -1000000000000 := by omega
    go_enter Tryd.func37, Tryd.ntmps37
    go_wp2_with (go_at_call 43; refine (atoi_ok s hs v ha.out _).mono ?_; rintro e w1 ⟨rfl, hb1⟩; have hc1 := (hb1.cell (p := ⟨0, 0, none⟩) ho).trans hn)
    exact ⟨rfl, rfl, hb1⟩

set_option maxHeartbeats 400000 in
theorem must_other (s : ByteArray) (hs : s.size ≤ 1048576) (v : Int) (ha : Hid (Lib.atoiAll s.data.toList = .ok v)) (h0 : ¬ v < -1000000000000) (h1 : ¬ 1000000000000 < v) (h3 : ¬ Lib.itoa v = s.toList) (w : World) (V : Vars w) :
    Calls Tryd.prog 37 #[.string s] w fun e w' => e = .panicked [{ v := .iface V.tN V.pN, recovered := false }] ∧ Below w.heap.size w w' := by
  have hn := V.no
  have ho := V.oldN
  have hT := Lib.tabBelow_of_tabIs V.tab
  have h4 : (Lib.itoa v == s.toList) = false := by rw [beq_eq_false_iff_ne]; exact h3
  go_enter Tryd.func37, Tryd.ntmps37
  go_wp2_with (first
    | (go_at_call 43; refine (atoi_ok s hs v ha.out _).mono ?_; rintro e w1 ⟨rfl, hb1⟩)
    | (go_at_call 26; refine (impl_digits v (by omega) (by omega) _ (hT _ hb1)).mono ?_; rintro e w2 ⟨rfl, hb2⟩; have hb3 := hb1.trans (hb2.mono hb1.size); have hc3 := (hb3.cell (p := ⟨0, 0, none⟩) ho).trans hn))
  exact ⟨rfl, rfl, hb3⟩

/-- What is no number: the inner function panics. -/
theorem must_no (s : ByteArray) (hs : s.size ≤ 1048576) (h : Num.numOf s.data.toList = none) (w : World) (V : Vars w) :
    Calls Tryd.prog 37 #[.string s] w fun e w' => e = .panicked [{ v := .iface V.tN V.pN, recovered := false }] ∧ Below w.heap.size w w' := by
  by_cases hk : ∃ v, Lib.atoiAll s.data.toList = .ok v
  · obtain ⟨v, hv⟩ := hk
    by_cases hf : v < -1000000000000 ∨ 1000000000000 < v
    · exact must_far s hs v hv hf w V
    · refine must_other s hs v hv (by omega) (by omega) ?_ w V
      intro h3
      rw [ByteArray.toList_eq] at h3
      rw [← h3, Num.numOf_itoa (by omega) (by omega)] at h
      cases h
  · exact must_err s hs (fun v hv => hk ⟨v, hv⟩) w V

/-- The deferred closure in a frame that panics: recover marks the panic, both results are laid. -/
theorem catch_panicking (p q : Addr) (hpq : p ≠ q) (x : Int) (b : Bool) (u : TypeId) (pv : Value) (older : List PanicEntry) (w : World) (hc : w.cell? p = some (.int .i64 x)) (hz : w.frozen? p = false) (hd : w.cell? q = some (.bool b)) (hy : w.frozen? q = false) :
    CallsD Tryd.prog 36 #[.pointer (some p), .pointer (some q)] (.panicking ({ v := .iface u pv, recovered := false } :: older)) w fun e u' w' =>
      e = .returned (.tuple #[]) ∧ u' = .panicking ({ v := .iface u pv, recovered := true } :: older) ∧ w' = (w.setCell p (.int .i64 0)).setCell q (.bool false) := by
  have hd' : (w.setCell p (.int .i64 0)).cell? q = some (.bool b) := (World.cell?_setCell_other w p q _ hpq).trans hd
  refine callsD_of_wpS Tryd.func36 rfl fun c₀ cs hu => ?_
  apply wpS_seq
  apply wpS_region
  simp [wpOpsS, go_sem, recoverD, hu, Tryd.ntmps36, Exit.thenS]
  refine wpS_cond (t := true) (by simp [Act.eval, Array.replicate]) ?_
  simp only [if_true]
  apply wpS_region
  simp [wpOpsS, go_sem, hc, hz, hd', hy, bodyPostS, results, Tryd.results36]

theorem catch_idle (p q : Addr) (w : World) :
    CallsD Tryd.prog 36 #[.pointer (some p), .pointer (some q)] .returning w fun e u' w' => e = .returned (.tuple #[]) ∧ u' = .returning ∧ w' = w := by
  refine callsD_of_wpS Tryd.func36 rfl fun c₀ cs hu => ?_
  apply wpS_seq
  apply wpS_region
  simp [wpOpsS, go_sem, recoverD, hu, Tryd.ntmps36, Exit.thenS]
  refine wpS_cond (t := false) (by simp [Act.eval, Array.replicate]) ?_
  simp only [Bool.false_eq_true, if_false]
  refine wpS_of_wp (wp_skip ?_)
  cases c₀
  simp_all [bodyPostS, results, Tryd.results36]

/-- The world in which the two named results have just been laid. -/
theorem laid_two (w : World) (o1 o2 : Obj) : Below w.heap.size w ((w.alloc o1).alloc o2) := ((Below.refl _ w).alloc (Nat.le_refl _) _).alloc (by simp) _

theorem two_facts {w w1 : World} (hb : Below ((w.alloc (.cells #[.int .i64 0] 3)).alloc (.cells #[.bool false] 4)).heap.size ((w.alloc (.cells #[.int .i64 0] 3)).alloc (.cells #[.bool false] 4)) w1) :
    w1.cell? ⟨w.heap.size, 0, none⟩ = some (.int .i64 0) ∧ w1.cell? ⟨w.heap.size + 1, 0, none⟩ = some (.bool false) ∧ w1.frozen? ⟨w.heap.size, 0, none⟩ = false ∧ w1.frozen? ⟨w.heap.size + 1, 0, none⟩ = false := by
  have hz : ((w.alloc (.cells #[.int .i64 0] 3)).alloc (.cells #[.bool false] 4)).heap.size = w.heap.size + 2 := by simp
  have hc0 := hb.cell (p := ⟨w.heap.size, 0, none⟩) (by rw [hz]; show w.heap.size < _; omega)
  have hc1 := hb.cell (p := ⟨w.heap.size + 1, 0, none⟩) (by rw [hz]; show w.heap.size + 1 < _; omega)
  have hf0 := hb.frozen (p := ⟨w.heap.size, 0, none⟩) (by rw [hz]; show w.heap.size < _; omega)
  have hf1 := hb.frozen (p := ⟨w.heap.size + 1, 0, none⟩) (by rw [hz]; show w.heap.size + 1 < _; omega)
  simp [go_sem] at hc0 hc1 hf0 hf1
  exact ⟨hc0, hc1, hf0, hf1⟩

theorem put_facts {w1 : World} {p q : Addr} (hpq : p ≠ q) {u0 u1 : Value} (h0 : w1.cell? p = some u0) (h1 : w1.cell? q = some u1) (x y : Value) :
    (w1.setCell p x).cell? p = some x ∧ ((w1.setCell p x).setCell q y).cell? q = some y := by
  refine ⟨World.cell?_setCell_same w1 p x h0, World.cell?_setCell_same _ q y ((World.cell?_setCell_other w1 p q _ hpq).trans h1)⟩

theorem put_below {w w1 : World} {o1 o2 : Obj} (hb : Below ((w.alloc o1).alloc o2).heap.size ((w.alloc o1).alloc o2) w1) (x y : Value) :
    Below w.heap.size w ((w1.setCell ⟨w.heap.size, 0, none⟩ x).setCell ⟨w.heap.size + 1, 0, none⟩ y) :=
  (((laid_two w o1 o2).trans (hb.mono (by simp; omega))).setCell (Nat.le_refl _) _).setCell (Nat.le_succ _) _

set_option maxHeartbeats 400000 in
theorem impl_number_ok (s : ByteArray) (hs : s.size ≤ 1048576) (v : Int) (h : Hid (Num.numOf s.data.toList = some v)) (w : World) (V : Vars w) :
    Calls Tryd.prog 20 #[.string s] w fun e w' => e = .returned (.tuple #[.int .i64 v, .bool true]) ∧ Below w.heap.size w w' := by
  have hmf : ∀ (fn : Fn) (first cap : Array Value) (w : World), (Instr.makeFunc fn first cap).run Tryd.prog w = .ok (.func fn first cap) w := fun _ _ _ _ => rfl
  have hl := laid_two w (.cells #[.int .i64 0] 3) (.cells #[.bool false] 4)
  go_enter_defers Tryd.func20, Tryd.ntmps20
  go_wp2_with (go_at_call 37; refine (must_ok s hs v h.out _ (V.on hl)).mono ?_; rintro e w1 ⟨rfl, hb1⟩; obtain ⟨hc0, hc1, hf0, hf1⟩ := two_facts hb1)
  refine leaves_cons (f := 36) (args := #[.pointer (some ⟨w.heap.size, 0, none⟩), .pointer (some ⟨w.heap.size + 1, 0, none⟩)]) (by simp) (by simp [go_sem]) ?_
  refine (catch_idle ⟨w.heap.size, 0, none⟩ ⟨w.heap.size + 1, 0, none⟩ _).mono ?_
  rintro e u' w'' ⟨rfl, rfl, rfl⟩
  obtain ⟨g0, g1⟩ := put_facts (p := ⟨w.heap.size, 0, none⟩) (q := ⟨w.heap.size + 1, 0, none⟩) (by simp) hc0 hc1 (.int .i64 v) (.bool true)
  simp [Leaves, settle, results, Tryd.results20, go_sem, g0, g1]
  exact put_below hb1 _ _

set_option maxHeartbeats 400000 in
theorem impl_number_no (s : ByteArray) (hs : s.size ≤ 1048576) (h : Hid (Num.numOf s.data.toList = none)) (w : World) (V : Vars w) :
    Calls Tryd.prog 20 #[.string s] w fun e w' => e = .returned (.tuple #[.int .i64 0, .bool false]) ∧ Below w.heap.size w w' := by
  have hmf : ∀ (fn : Fn) (first cap : Array Value) (w : World), (Instr.makeFunc fn first cap).run Tryd.prog w = .ok (.func fn first cap) w := fun _ _ _ _ => rfl
  have hl := laid_two w (.cells #[.int .i64 0] 3) (.cells #[.bool false] 4)
  go_enter_defers Tryd.func20, Tryd.ntmps20
  go_wp2_with (go_at_call 37; refine (must_no s hs h.out _ (V.on hl)).mono ?_; rintro e w1 ⟨rfl, hb1⟩; obtain ⟨hc0, hc1, hf0, hf1⟩ := two_facts hb1)
  refine leaves_cons (f := 36) (args := #[.pointer (some ⟨w.heap.size, 0, none⟩), .pointer (some ⟨w.heap.size + 1, 0, none⟩)]) (by simp) (by simp [go_sem]) ?_
  refine (catch_panicking ⟨w.heap.size, 0, none⟩ ⟨w.heap.size + 1, 0, none⟩ (by simp) 0 false _ _ [] _ hc0 hf0 hc1 hf1).mono ?_
  rintro e u' w'' ⟨rfl, rfl, rfl⟩
  obtain ⟨g0, g1⟩ := put_facts (p := ⟨w.heap.size, 0, none⟩) (q := ⟨w.heap.size + 1, 0, none⟩) (by simp) hc0 hc1 (.int .i64 0) (.bool false)
  simp [Leaves, settle, results, Tryd.results20, go_sem, g0, g1]
  exact put_below hb1 _ _

/-- The program's Number, at every text of at most a million bytes. -/
theorem impl_number (s : ByteArray) (hs : s.size ≤ 1048576) (w : World) (V : Vars w) (r : Option Int) (hr : Hid (r = Num.numOf s.data.toList)) :
    Calls Tryd.prog 20 #[.string s] w fun e w' => e = .returned (.tuple #[.int .i64 (r.getD 0), .bool r.isSome]) ∧ Below w.heap.size w w' := by
  have h := hr.out
  cases r with
  | none => exact impl_number_no s hs h.symm w V
  | some v => exact impl_number_ok s hs v h.symm w V
end Go.Proofs.YtafbcohlbhblfabDoor
