/-
  What is proved: the program's Get of a node that is no map, or has not the Key, answers nothing and false; no condition.; for both flags the program's FlagOf answers as the model's FlagOf does, in memory of its own; no condition.; for every int the program's IntOf answers as the model's IntOf does, in memory of its own; no condition.; for every text the program's TextOf answers as the model's TextOf does, in memory of its own; no condition.; the program's nodeOk tells of a node alone whether it is as its kind has it.; the program's formOf, formOk and nodeOk, kind by kind.
-/
import Derived.Test.YtelpkcbbipianaaGreatPartAD
import Derived.Test.YtelpkcbbipianaaGreatPartAA
/- the program's Get of a node that is no map, or has not the Key, answers nothing and false; no condition. -/
namespace Go.Proofs.YtelpkcbbipianaaGreat
open Go Go.RowKit

set_option maxRecDepth 100000 in
set_option maxHeartbeats 1600000 in
theorem impl_kidAt_no (T : RT) (key : ByteArray) (h : ¬ T.isMap ∨ Absent T.keys key) (w : World) (kv dv : Value) (F : List Nat) (hl : Lies w T kv dv F) :
    Calls Tryz.prog 18 #[.agg #[.int .i64 T.k, .int .i64 T.n, .string T.s, kv, dv], .string key] w fun e w' => e = .returned (.tuple #[.agg #[.int .i64 0, .int .i64 0, .string ⟨#[]⟩, .slice none 0 0, .slice none 0 0], .bool false]) ∧ Below w.heap.size w w' := by
  obtain ⟨f1, f2, f3, FK, FD, hK, hD, -⟩ := hl.out
  obtain ⟨ko, kc, rfl⟩ := hK.slice
  obtain ⟨o2, q2, rfl⟩ := hD.slice
  have HX := Lib.hid (CBox.start w 27 (.int .i64 T.k) (.int .i64 T.n) (.string T.s) (.slice ko T.keys.length kc) (.slice o2 T.kids.length q2))
  clear hl
  by_cases hm : T.isMap
  · have ha : Absent T.keys key := h.resolve_left fun hn => hn hm
    have HIx : Hid (∀ wr, Below w.heap.size w wr → Calls Tryz.prog 34 #[.slice ko T.keys.length kc, .string key] wr fun e w' => e = .returned (.int .i64 (-1)) ∧ w' = wr) := fun wr hb => by
      refine (slices_index wr (hK.stay hb (Nat.le_refl _)) key).mono ?_
      rintro e w' ⟨⟨j, hj, rfl⟩ | ⟨-, rfl⟩, rfl⟩
      · exact (first_absent hj ha).elim
      · exact ⟨rfl, rfl⟩
    have HDec : Hid ((decide (T.k = 5) && decide (T.keys.length = T.kids.length)) = true) := Lib.hid (by simp [hm.1, hm.2])
    clear hm h ha hK hD
    go_enter Tryz.func18, Tryz.ntmps18
    go_wp2_with (first
      | (go_at_call 31; refine (impl_isMap _ _ _ _ _ _ _ _ _ _).mono ?_; rintro e w1 ⟨rfl, hb⟩; rw [HDec.out]; replace HX := Lib.hid (HX.out.next hb); clear hb; obtain ⟨x0, x1, x2, x3, x4, -⟩ := five HX.out.box)
      | (go_at_call 34; refine (HIx.out _ HX.out.below).mono ?_; rintro e w2 ⟨rfl, e2⟩; replace e2 := e2.symm; subst e2; obtain ⟨z0, z1, z2, z3, z4, z5⟩ := five HX.out.res)
      | fail)
    have hb3 := set5_below HX.out.below (b := w.heap.size + 1) (by omega) 0 (.int .i64 0) (.int .i64 0) (.string ⟨#[]⟩) (.slice none 0 0) (.slice none 0 0)
    exact bodyPost_ret (ret_nodeB Tryz.results18 rfl rfl (set5_end HX.out.res _ _ _ _ _)) rfl ⟨rfl, hb3⟩
  · have HDec : Hid ((decide (T.k = 5) && decide (T.keys.length = T.kids.length)) = false) := Lib.hid (by
      by_cases h5 : T.k = 5
      · have : ¬ T.keys.length = T.kids.length := fun e => hm ⟨h5, e⟩
        simp [this]
      · simp [h5])
    clear hm h hK hD
    go_enter Tryz.func18, Tryz.ntmps18
    go_wp2_with (first
      | (go_at_call 31; refine (impl_isMap _ _ _ _ _ _ _ _ _ _).mono ?_; rintro e w1 ⟨rfl, hb⟩; rw [HDec.out]; replace HX := Lib.hid (HX.out.next hb); clear hb; obtain ⟨z0, z1, z2, z3, z4, z5⟩ := five HX.out.res)
      | fail)
    have hb3 := set5_below HX.out.below (b := w.heap.size + 1) (by omega) 0 (.int .i64 0) (.int .i64 0) (.string ⟨#[]⟩) (.slice none 0 0) (.slice none 0 0)
    exact bodyPost_ret (ret_nodeB Tryz.results18 rfl rfl (set5_end HX.out.res _ _ _ _ _)) rfl ⟨rfl, hb3⟩

set_option maxRecDepth 100000 in
set_option maxHeartbeats 1600000 in
theorem impl_get_no (T : RT) (key : ByteArray) (h : ¬ T.isMap ∨ Absent T.keys key) (w : World) (kv dv : Value) (F : List Nat) (hl : Lies w T kv dv F) :
    Calls Tryz.prog 9 #[.agg #[.int .i64 T.k, .int .i64 T.n, .string T.s, kv, dv], .string key] w fun e w' => ∃ kv' dv' F', e = .returned (.tuple #[.agg #[.int .i64 0, .int .i64 0, .string ⟨#[]⟩, kv', dv'], .bool false]) ∧ Lies w' (.node 0 0 ⟨#[]⟩ [] []) kv' dv' F' ∧ Fresh w w' F' ∧ Below w.heap.size w w' := by
  have HX := Lib.hid (CBox.start w 27 (.int .i64 T.k) (.int .i64 T.n) (.string T.s) kv dv)
  have HG := Lib.hid fun (wr : World) (hb : Below w.heap.size w wr) => impl_kidAt_no T key h wr kv dv F (hl.stay hb (Nat.le_refl _))
  obtain ⟨⟨o1, q1, rfl⟩, ⟨o2, q2, rfl⟩⟩ := hl.slices
  clear hl h
  go_enter Tryz.func9, Tryz.ntmps9
  go_wp2_with fail
  refine (HG.out _ HX.out.below).mono ?_
  rintro e w1 ⟨rfl, hb1⟩
  replace HX := Lib.hid (HX.out.next hb1)
  clear hb1
  go_wp2_with fail
  have hbA := (Below.refl _ w1).alloc (Nat.le_refl _) (.cells #[.int .i64 0, .int .i64 0, .string ⟨#[]⟩, .slice none 0 0, .slice none 0 0] 27)
  refine (copy_node (.node 0 0 ⟨#[]⟩ [] []) _ (.slice none 0 0) (.slice none 0 0) [] (leaf_lies _ ⟨by decide, by decide⟩ ⟨by decide, by decide⟩ (by decide)) (by decide)).mono ?_
  rintro e w3 ⟨kv3, dv3, F3, rfl, hl3, hf3, hb3, -, -⟩
  obtain ⟨⟨o5, q5, rfl⟩, ⟨o6, q6, rfl⟩⟩ := hl3.slices
  show _
  have hX3 := HX.out.next (hbA.trans (hb3.mono hbA.size))
  obtain ⟨z0, z1, z2, z3, z4, z5⟩ := five hX3.res
  have hfar : ∀ y ∈ F3, w.heap.size + 2 ≤ y := fun y hy => by
    have h1 := hf3.old y hy
    have h2 := HX.out.size
    have h3 := hbA.size
    omega
  have keep : ∀ y ∈ F3, (set5 w3 (w.heap.size + 1) 0 (.int .i64 0) (.int .i64 0) (.string ⟨#[]⟩) (.slice o5 0 q5) (.slice o6 0 q6)).heap[y]? = w3.heap[y]? := fun y hy => set5_other _ _ _ _ _ _ _ _ _ (by have := hfar y hy; omega)
  have HE := Lib.hid (And.intro (set5_end hX3.res (.int .i64 0) (.int .i64 0) (.string ⟨#[]⟩) (.slice o5 0 q5) (.slice o6 0 q6)) (And.intro (hl3.carry keep) (And.intro (show Fresh w _ F3 from ((hf3.carry keep).earlier (by have h2 := HX.out.below.size; have h3 := hbA.size; omega))) (set5_below hX3.below (b := w.heap.size + 1) (by omega) 0 (.int .i64 0) (.int .i64 0) (.string ⟨#[]⟩) (.slice o5 0 q5) (.slice o6 0 q6)))))
  clear hl3 hf3 hb3 hbA hX3 keep hfar
  simp only [RT.k, RT.n, RT.s, RT.keys, RT.kids, List.length_nil]
  go_wp2
  exact bodyPost_ret (ret_nodeB Tryz.results9 rfl rfl HE.out.1) rfl ⟨_, _, _, rfl, HE.out.2⟩
end Go.Proofs.YtelpkcbbipianaaGreat

/- for both flags the program's FlagOf answers as the model's FlagOf does, in memory of its own; no condition. -/
namespace Go.Proofs.YtelpkcbbipianaaGreat
open Go Go.RowKit

set_option maxHeartbeats 400000 in
theorem node_flag (x : Int) (w : World) : Calls Tryz.prog 133 #[.int .i64 x] w fun e w' => e = .returned (.agg #[.int .i64 1, .int .i64 x, .string ⟨#[]⟩, .slice none 0 0, .slice none 0 0]) ∧ Below w.heap.size w w' := by
  go_enter Tryz.func133, Tryz.ntmps133
  go_wp2
  exact bodyPost_ret (ret_node Tryz.results133 rfl (heap_last w _)) rfl ⟨rfl, (Below.refl _ w).alloc (Nat.le_refl _) _⟩

set_option maxHeartbeats 400000 in
theorem spec_flagOf_true  (w : World) : Calls Tryz.prog 54 #[.bool true] w fun e w' => e = .returned (.agg #[.int .i64 1, .int .i64 1, .string ⟨#[]⟩, .slice none 0 0, .slice none 0 0]) ∧ Below w.heap.size w w' := by
  go_enter Tryz.func54, Tryz.ntmps54
  go_wp2
  exact bodyPost_ret (ret_node Tryz.results54 rfl (heap_last w _)) rfl ⟨rfl, (Below.refl _ w).alloc (Nat.le_refl _) _⟩

set_option maxHeartbeats 400000 in
theorem spec_flagOf_false  (w : World) : Calls Tryz.prog 54 #[.bool false] w fun e w' => e = .returned (.agg #[.int .i64 1, .int .i64 0, .string ⟨#[]⟩, .slice none 0 0, .slice none 0 0]) ∧ Below w.heap.size w w' := by
  go_enter Tryz.func54, Tryz.ntmps54
  go_wp2
  exact bodyPost_ret (ret_node Tryz.results54 rfl (heap_last w _)) rfl ⟨rfl, (Below.refl _ w).alloc (Nat.le_refl _) _⟩

end Go.Proofs.YtelpkcbbipianaaGreat

/- for every int the program's IntOf answers as the model's IntOf does, in memory of its own; no condition. -/
namespace Go.Proofs.YtelpkcbbipianaaGreat
open Go Go.RowKit

set_option maxHeartbeats 400000 in
theorem node_int (x : Int) (w : World) : Calls Tryz.prog 134 #[.int .i64 x] w fun e w' => e = .returned (.agg #[.int .i64 2, .int .i64 x, .string ⟨#[]⟩, .slice none 0 0, .slice none 0 0]) ∧ Below w.heap.size w w' := by
  go_enter Tryz.func134, Tryz.ntmps134
  go_wp2
  exact bodyPost_ret (ret_node Tryz.results134 rfl (heap_last w _)) rfl ⟨rfl, (Below.refl _ w).alloc (Nat.le_refl _) _⟩

set_option maxHeartbeats 400000 in
theorem spec_intOf (x : Int) (w : World) : Calls Tryz.prog 55 #[.int .i64 x] w fun e w' => e = .returned (.agg #[.int .i64 2, .int .i64 x, .string ⟨#[]⟩, .slice none 0 0, .slice none 0 0]) ∧ Below w.heap.size w w' := by
  go_enter Tryz.func55, Tryz.ntmps55
  go_wp2
  exact bodyPost_ret (ret_node Tryz.results55 rfl (heap_last w _)) rfl ⟨rfl, (Below.refl _ w).alloc (Nat.le_refl _) _⟩

end Go.Proofs.YtelpkcbbipianaaGreat

/- for every text the program's TextOf answers as the model's TextOf does, in memory of its own; no condition. -/
namespace Go.Proofs.YtelpkcbbipianaaGreat
open Go Go.RowKit

set_option maxHeartbeats 400000 in
theorem node_text (s : ByteArray) (w : World) : Calls Tryz.prog 135 #[.string s] w fun e w' => e = .returned (.agg #[.int .i64 3, .int .i64 0, .string s, .slice none 0 0, .slice none 0 0]) ∧ Below w.heap.size w w' := by
  go_enter Tryz.func135, Tryz.ntmps135
  go_wp2
  exact bodyPost_ret (ret_node Tryz.results135 rfl (heap_last w _)) rfl ⟨rfl, (Below.refl _ w).alloc (Nat.le_refl _) _⟩

set_option maxHeartbeats 400000 in
theorem spec_textOf (s : ByteArray) (w : World) : Calls Tryz.prog 56 #[.string s] w fun e w' => e = .returned (.agg #[.int .i64 3, .int .i64 0, .string s, .slice none 0 0, .slice none 0 0]) ∧ Below w.heap.size w w' := by
  go_enter Tryz.func56, Tryz.ntmps56
  go_wp2
  exact bodyPost_ret (ret_node Tryz.results56 rfl (heap_last w _)) rfl ⟨rfl, (Below.refl _ w).alloc (Nat.le_refl _) _⟩

end Go.Proofs.YtelpkcbbipianaaGreat

/- the program's nodeOk tells of a node alone whether it is as its kind has it. -/
namespace Go.Proofs.YtelpkcbbipianaaGreat
open Go Go.RowKit

/-- A node alone is as its kind has it. -/
def HeadOk (T : RT) : Prop :=
  (T.k = 0 ∧ T.n = 0 ∧ T.s = ⟨#[]⟩ ∧ T.keys.length = 0 ∧ T.kids.length = 0) ∨
  (T.k = 1 ∧ (T.n = 0 ∨ T.n = 1) ∧ T.s = ⟨#[]⟩ ∧ T.keys.length = 0 ∧ T.kids.length = 0) ∨
  (T.k = 2 ∧ (-1000000000000 ≤ T.n ∧ T.n ≤ 1000000000000) ∧ T.s = ⟨#[]⟩ ∧ T.keys.length = 0 ∧ T.kids.length = 0) ∨
  (T.k = 3 ∧ T.n = 0 ∧ textOk T.s = true ∧ T.keys.length = 0 ∧ T.kids.length = 0) ∨
  (T.k = 4 ∧ T.n = 0 ∧ T.s = ⟨#[]⟩ ∧ T.keys.length = 0) ∨
  (T.k = 5 ∧ T.n = 0 ∧ T.s = ⟨#[]⟩ ∧ T.keys.length = T.kids.length ∧ keysOk T.keys = true)

noncomputable def headOk (T : RT) : Bool := @decide (HeadOk T) (Classical.propDecidable _)
theorem headOk_yes {T : RT} (h : HeadOk T) : headOk T = true := @decide_eq_true _ (Classical.propDecidable _) h
theorem headOk_no {T : RT} (h : ¬ HeadOk T) : headOk T = false := @decide_eq_false _ (Classical.propDecidable _) h

/-! ### What the program's type switch finds -/

theorem zero_null : (Tryz.prog.info? 103).map (·.zero) = some (some (.agg #[])) := by kernel_rfl
theorem as_null_yes (v : Value) (xT : TypeId) (w : World) : (Instr.typeAssert (.iface 103 v) xT 103 true).run Tryz.prog w = .ok (.tuple #[v, .bool true]) w := by
  simp [Instr.typeAssert, run_underlying Tryz.underlying103, go_sem, Result.andThen]
theorem as_null_no (t : TypeId) (h : t ≠ 103) (v : Value) (xT : TypeId) (w : World) : (Instr.typeAssert (.iface t v) xT 103 true).run Tryz.prog w = .ok (.tuple #[.agg #[], .bool false]) w := by
  obtain ⟨i, hi, hz⟩ := Option.map_eq_some_iff.1 zero_null
  simp [Instr.typeAssert, run_underlying Tryz.underlying103, go_sem, Result.andThen, zeroValue, typeInfo, hi, hz, h]

theorem zero_flag : (Tryz.prog.info? 104).map (·.zero) = some (some (.int .i64 0)) := by kernel_rfl
theorem as_flag_yes (v : Value) (xT : TypeId) (w : World) : (Instr.typeAssert (.iface 104 v) xT 104 true).run Tryz.prog w = .ok (.tuple #[v, .bool true]) w := by
  simp [Instr.typeAssert, run_underlying Tryz.underlying104, go_sem, Result.andThen]
theorem as_flag_no (t : TypeId) (h : t ≠ 104) (v : Value) (xT : TypeId) (w : World) : (Instr.typeAssert (.iface t v) xT 104 true).run Tryz.prog w = .ok (.tuple #[.int .i64 0, .bool false]) w := by
  obtain ⟨i, hi, hz⟩ := Option.map_eq_some_iff.1 zero_flag
  simp [Instr.typeAssert, run_underlying Tryz.underlying104, go_sem, Result.andThen, zeroValue, typeInfo, hi, hz, h]

theorem zero_int : (Tryz.prog.info? 105).map (·.zero) = some (some (.int .i64 0)) := by kernel_rfl
theorem as_int_yes (v : Value) (xT : TypeId) (w : World) : (Instr.typeAssert (.iface 105 v) xT 105 true).run Tryz.prog w = .ok (.tuple #[v, .bool true]) w := by
  simp [Instr.typeAssert, run_underlying Tryz.underlying105, go_sem, Result.andThen]
theorem as_int_no (t : TypeId) (h : t ≠ 105) (v : Value) (xT : TypeId) (w : World) : (Instr.typeAssert (.iface t v) xT 105 true).run Tryz.prog w = .ok (.tuple #[.int .i64 0, .bool false]) w := by
  obtain ⟨i, hi, hz⟩ := Option.map_eq_some_iff.1 zero_int
  simp [Instr.typeAssert, run_underlying Tryz.underlying105, go_sem, Result.andThen, zeroValue, typeInfo, hi, hz, h]

theorem zero_text : (Tryz.prog.info? 106).map (·.zero) = some (some (.string ⟨#[]⟩)) := by kernel_rfl
theorem as_text_yes (v : Value) (xT : TypeId) (w : World) : (Instr.typeAssert (.iface 106 v) xT 106 true).run Tryz.prog w = .ok (.tuple #[v, .bool true]) w := by
  simp [Instr.typeAssert, run_underlying Tryz.underlying106, go_sem, Result.andThen]
theorem as_text_no (t : TypeId) (h : t ≠ 106) (v : Value) (xT : TypeId) (w : World) : (Instr.typeAssert (.iface t v) xT 106 true).run Tryz.prog w = .ok (.tuple #[.string ⟨#[]⟩, .bool false]) w := by
  obtain ⟨i, hi, hz⟩ := Option.map_eq_some_iff.1 zero_text
  simp [Instr.typeAssert, run_underlying Tryz.underlying106, go_sem, Result.andThen, zeroValue, typeInfo, hi, hz, h]

theorem zero_list : (Tryz.prog.info? 107).map (·.zero) = some (some (.slice none 0 0)) := by kernel_rfl
theorem as_list_yes (v : Value) (xT : TypeId) (w : World) : (Instr.typeAssert (.iface 107 v) xT 107 true).run Tryz.prog w = .ok (.tuple #[v, .bool true]) w := by
  simp [Instr.typeAssert, run_underlying Tryz.underlying107, go_sem, Result.andThen]
theorem as_list_no (t : TypeId) (h : t ≠ 107) (v : Value) (xT : TypeId) (w : World) : (Instr.typeAssert (.iface t v) xT 107 true).run Tryz.prog w = .ok (.tuple #[.slice none 0 0, .bool false]) w := by
  obtain ⟨i, hi, hz⟩ := Option.map_eq_some_iff.1 zero_list
  simp [Instr.typeAssert, run_underlying Tryz.underlying107, go_sem, Result.andThen, zeroValue, typeInfo, hi, hz, h]

theorem as_map_yes (v : Value) (xT : TypeId) (w : World) : (Instr.typeAssert (.iface 109 v) xT 109 true).run Tryz.prog w = .ok (.tuple #[v, .bool true]) w := by
  simp [Instr.typeAssert, run_underlying Tryz.underlying109, go_sem, Result.andThen]
set_option maxHeartbeats 400000 in
theorem node_null (w : World) : Calls Tryz.prog 132 #[.agg #[]] w fun e w' => e = .returned (.agg #[.int .i64 0, .int .i64 0, .string ⟨#[]⟩, .slice none 0 0, .slice none 0 0]) ∧ Below w.heap.size w w' := by
  go_enter Tryz.func132, Tryz.ntmps132
  go_wp2
  have h1 := heap_last (w.alloc (Obj.cells #[] 103)) (Obj.cells #[.int .i64 0, .int .i64 0, .string ⟨#[]⟩, .slice none 0 0, .slice none 0 0] 27)
  have e1 : (w.alloc (Obj.cells #[] 103)).heap.size = w.heap.size + 1 := by simp
  rw [e1] at h1
  exact bodyPost_ret (ret_node Tryz.results132 rfl h1) rfl ⟨rfl, ((Below.refl _ w).alloc (Nat.le_refl _) _).alloc (by simp) _⟩

set_option maxHeartbeats 400000 in
theorem node_list (o : Option Addr) (l c : Nat) (w : World) : Calls Tryz.prog 136 #[.slice o l c] w fun e w' => e = .returned (.agg #[.int .i64 4, .int .i64 0, .string ⟨#[]⟩, .slice none 0 0, .slice o l c]) ∧ Below w.heap.size w w' := by
  go_enter Tryz.func136, Tryz.ntmps136
  go_wp2
  exact bodyPost_ret (ret_node Tryz.results136 rfl (heap_last w _)) rfl ⟨rfl, (Below.refl _ w).alloc (Nat.le_refl _) _⟩

set_option maxHeartbeats 400000 in
theorem node_map (ko o : Option Addr) (kl kc l c : Nat) (w : World) : Calls Tryz.prog 69 #[.agg #[.slice ko kl kc, .slice o l c]] w fun e w' => e = .returned (.agg #[.int .i64 5, .int .i64 0, .string ⟨#[]⟩, .slice ko kl kc, .slice o l c]) ∧ Below w.heap.size w w' := by
  go_enter Tryz.func69, Tryz.ntmps69
  go_wp2
  have h1 := heap_last (w.alloc (Obj.cells #[.slice ko kl kc, .slice o l c] 109)) (Obj.cells #[.int .i64 5, .int .i64 0, .string ⟨#[]⟩, .slice ko kl kc, .slice o l c] 27)
  have e1 : (w.alloc (Obj.cells #[.slice ko kl kc, .slice o l c] 109)).heap.size = w.heap.size + 1 := by simp
  rw [e1] at h1
  exact bodyPost_ret (ret_node Tryz.results69 rfl h1) rfl ⟨rfl, ((Below.refl _ w).alloc (Nat.le_refl _) _).alloc (by simp) _⟩

theorem meth_null (v : Value) (w : World) : (method 269 103 v "loop.example/g00465/impl.node").run Tryz.prog w = .ok (132, v) w := by kernel_rfl
theorem meth_flag (v : Value) (w : World) : (method 269 104 v "loop.example/g00465/impl.node").run Tryz.prog w = .ok (133, v) w := by kernel_rfl
theorem meth_int (v : Value) (w : World) : (method 269 105 v "loop.example/g00465/impl.node").run Tryz.prog w = .ok (134, v) w := by kernel_rfl
theorem meth_text (v : Value) (w : World) : (method 269 106 v "loop.example/g00465/impl.node").run Tryz.prog w = .ok (135, v) w := by kernel_rfl
theorem meth_list (v : Value) (w : World) : (method 269 107 v "loop.example/g00465/impl.node").run Tryz.prog w = .ok (136, v) w := by kernel_rfl
theorem meth_map (v : Value) (w : World) : (method 269 109 v "loop.example/g00465/impl.node").run Tryz.prog w = .ok (69, v) w := by kernel_rfl
end Go.Proofs.YtelpkcbbipianaaGreat

/- the program's formOf, formOk and nodeOk, kind by kind. -/
namespace Go.Proofs.YtelpkcbbipianaaGreat
open Go Go.RowKit

theorem empty_ne {s : ByteArray} (h : ¬ s = ⟨#[]⟩) : (s.toList == []) = false := by
  have := bytes_ne h
  simpa [ByteArray.toList_eq] using this

set_option maxRecDepth 100000 in
set_option maxHeartbeats 400000 in
theorem formOf_null (n : Int) (s : ByteArray) (ko o : Option Addr) (kl kc dl dc : Nat) (w : World) : Calls Tryz.prog 45 #[.agg #[.int .i64 0, .int .i64 n, .string s, .slice ko kl kc, .slice o dl dc]] w fun e w' => e = .returned (.tuple #[.iface 103 (.agg #[]), .bool true]) ∧ Below w.heap.size w w' := by
  go_enter Tryz.func45, Tryz.ntmps45
  go_wp2
  go_ret2
  exact ⟨rfl, (Below.refl _ w).alloc (Nat.le_refl _) _⟩

set_option maxRecDepth 100000 in
set_option maxHeartbeats 400000 in
theorem formOf_flag (n : Int) (s : ByteArray) (ko o : Option Addr) (kl kc dl dc : Nat) (w : World) : Calls Tryz.prog 45 #[.agg #[.int .i64 1, .int .i64 n, .string s, .slice ko kl kc, .slice o dl dc]] w fun e w' => e = .returned (.tuple #[.iface 104 (.int .i64 n), .bool true]) ∧ Below w.heap.size w w' := by
  go_enter Tryz.func45, Tryz.ntmps45
  go_wp2
  go_ret2
  exact ⟨rfl, (Below.refl _ w).alloc (Nat.le_refl _) _⟩

set_option maxRecDepth 100000 in
set_option maxHeartbeats 400000 in
theorem formOf_int (n : Int) (s : ByteArray) (ko o : Option Addr) (kl kc dl dc : Nat) (w : World) : Calls Tryz.prog 45 #[.agg #[.int .i64 2, .int .i64 n, .string s, .slice ko kl kc, .slice o dl dc]] w fun e w' => e = .returned (.tuple #[.iface 105 (.int .i64 n), .bool true]) ∧ Below w.heap.size w w' := by
  go_enter Tryz.func45, Tryz.ntmps45
  go_wp2
  go_ret2
  exact ⟨rfl, (Below.refl _ w).alloc (Nat.le_refl _) _⟩

set_option maxRecDepth 100000 in
set_option maxHeartbeats 400000 in
theorem formOf_text (n : Int) (s : ByteArray) (ko o : Option Addr) (kl kc dl dc : Nat) (w : World) : Calls Tryz.prog 45 #[.agg #[.int .i64 3, .int .i64 n, .string s, .slice ko kl kc, .slice o dl dc]] w fun e w' => e = .returned (.tuple #[.iface 106 (.string s), .bool true]) ∧ Below w.heap.size w w' := by
  go_enter Tryz.func45, Tryz.ntmps45
  go_wp2
  go_ret2
  exact ⟨rfl, (Below.refl _ w).alloc (Nat.le_refl _) _⟩

set_option maxRecDepth 100000 in
set_option maxHeartbeats 400000 in
theorem formOf_list (n : Int) (s : ByteArray) (ko o : Option Addr) (kl kc dl dc : Nat) (w : World) : Calls Tryz.prog 45 #[.agg #[.int .i64 4, .int .i64 n, .string s, .slice ko kl kc, .slice o dl dc]] w fun e w' => e = .returned (.tuple #[.iface 107 (.slice o dl dc), .bool true]) ∧ Below w.heap.size w w' := by
  go_enter Tryz.func45, Tryz.ntmps45
  go_wp2
  go_ret2
  exact ⟨rfl, (Below.refl _ w).alloc (Nat.le_refl _) _⟩

set_option maxRecDepth 100000 in
set_option maxHeartbeats 400000 in
theorem formOf_map (n : Int) (s : ByteArray) (ko o : Option Addr) (kl kc dl dc : Nat) (w : World) : Calls Tryz.prog 45 #[.agg #[.int .i64 5, .int .i64 n, .string s, .slice ko kl kc, .slice o dl dc]] w fun e w' => e = .returned (.tuple #[.iface 109 (.agg #[.slice ko kl kc, .slice o dl dc]), .bool true]) ∧ Below w.heap.size w w' := by
  go_enter Tryz.func45, Tryz.ntmps45
  go_wp2
  go_ret2
  exact ⟨rfl, (Below.refl _ w).alloc (Nat.le_refl _) _⟩

set_option maxRecDepth 100000 in
set_option maxHeartbeats 400000 in
theorem formOf_none (k : Int) (h0 : ¬ k = 0) (h1 : ¬ k = 1) (h2 : ¬ k = 2) (h3 : ¬ k = 3) (h4 : ¬ k = 4) (h5 : ¬ k = 5) (n : Int) (s : ByteArray) (ko o : Option Addr) (kl kc dl dc : Nat) (w : World) : Calls Tryz.prog 45 #[.agg #[.int .i64 k, .int .i64 n, .string s, .slice ko kl kc, .slice o dl dc]] w fun e w' => e = .returned (.tuple #[.nilIface, .bool false]) ∧ Below w.heap.size w w' := by
  go_enter Tryz.func45, Tryz.ntmps45
  go_wp2
  go_ret2
  exact ⟨rfl, (Below.refl _ w).alloc (Nat.le_refl _) _⟩

set_option maxRecDepth 100000 in
set_option maxHeartbeats 400000 in
theorem formOk_null  (w : World) : Calls Tryz.prog 46 #[.iface 103 (.agg #[])] w fun e w' => e = .returned (.bool true) ∧ Below w.heap.size w w' := by
  have a_null := as_null_yes
  have a_list := as_list_no 103 (by decide)
  go_enter Tryz.func46, Tryz.ntmps46
  go_wp2
  go_ret
  exact ⟨rfl, Below.refl _ _⟩

set_option maxRecDepth 100000 in
set_option maxHeartbeats 400000 in
theorem formOk_list (o : Option Addr) (dl dc : Nat) (w : World) : Calls Tryz.prog 46 #[.iface 107 (.slice o dl dc)] w fun e w' => e = .returned (.bool true) ∧ Below w.heap.size w w' := by
  have a_null := as_null_no 107 (by decide)
  have a_list := as_list_yes
  go_enter Tryz.func46, Tryz.ntmps46
  go_wp2
  go_ret
  exact ⟨rfl, Below.refl _ _⟩

set_option maxRecDepth 100000 in
set_option maxHeartbeats 400000 in
theorem formOk_flag0  (w : World) : Calls Tryz.prog 46 #[.iface 104 (.int .i64 0)] w fun e w' => e = .returned (.bool true) ∧ Below w.heap.size w w' := by
  have a_null := as_null_no 104 (by decide)
  have a_list := as_list_no 104 (by decide)
  have a_flag := as_flag_yes
  go_enter Tryz.func46, Tryz.ntmps46
  go_wp2
  go_ret
  exact ⟨rfl, Below.refl _ _⟩

set_option maxRecDepth 100000 in
set_option maxHeartbeats 400000 in
theorem formOk_flag1  (w : World) : Calls Tryz.prog 46 #[.iface 104 (.int .i64 1)] w fun e w' => e = .returned (.bool true) ∧ Below w.heap.size w w' := by
  have a_null := as_null_no 104 (by decide)
  have a_list := as_list_no 104 (by decide)
  have a_flag := as_flag_yes
  go_enter Tryz.func46, Tryz.ntmps46
  go_wp2
  go_ret
  exact ⟨rfl, Below.refl _ _⟩

set_option maxRecDepth 100000 in
set_option maxHeartbeats 400000 in
theorem formOk_flag_no (n : Int) (h0 : ¬ n = 0) (h1 : ¬ n = 1) (w : World) : Calls Tryz.prog 46 #[.iface 104 (.int .i64 n)] w fun e w' => e = .returned (.bool false) ∧ Below w.heap.size w w' := by
  have a_null := as_null_no 104 (by decide)
  have a_list := as_list_no 104 (by decide)
  have a_flag := as_flag_yes
  go_enter Tryz.func46, Tryz.ntmps46
  go_wp2
  go_ret
  exact ⟨ret_bool (by simp [h0, h1]), Below.refl _ _⟩

set_option maxRecDepth 100000 in
set_option maxHeartbeats 400000 in
theorem formOk_int_yes (n : Int) (h0 : -1000000000000 ≤ n) (h1 : n ≤ 1000000000000) (w : World) : Calls Tryz.prog 46 #[.iface 105 (.int .i64 n)] w fun e w' => e = .returned (.bool true) ∧ Below w.heap.size w w' := by
  have a_null := as_null_no 105 (by decide)
  have a_list := as_list_no 105 (by decide)
  have a_flag := as_flag_no 105 (by decide)
  have a_int := as_int_yes
  go_enter Tryz.func46, Tryz.ntmps46
  go_wp2
  go_ret
  exact ⟨rfl, Below.refl _ _⟩

set_option maxRecDepth 100000 in
set_option maxHeartbeats 400000 in
theorem formOk_int_low (n : Int) (h0 : ¬ -1000000000000 ≤ n) (w : World) : Calls Tryz.prog 46 #[.iface 105 (.int .i64 n)] w fun e w' => e = .returned (.bool false) ∧ Below w.heap.size w w' := by
  have a_null := as_null_no 105 (by decide)
  have a_list := as_list_no 105 (by decide)
  have a_flag := as_flag_no 105 (by decide)
  have a_int := as_int_yes
  go_enter Tryz.func46, Tryz.ntmps46
  go_wp2
  go_ret
  exact ⟨rfl, Below.refl _ _⟩

set_option maxRecDepth 100000 in
set_option maxHeartbeats 400000 in
theorem formOk_int_high (n : Int) (h0 : -1000000000000 ≤ n) (h1 : ¬ n ≤ 1000000000000) (w : World) : Calls Tryz.prog 46 #[.iface 105 (.int .i64 n)] w fun e w' => e = .returned (.bool false) ∧ Below w.heap.size w w' := by
  have a_null := as_null_no 105 (by decide)
  have a_list := as_list_no 105 (by decide)
  have a_flag := as_flag_no 105 (by decide)
  have a_int := as_int_yes
  go_enter Tryz.func46, Tryz.ntmps46
  go_wp2
  go_ret
  exact ⟨rfl, Below.refl _ _⟩

set_option maxRecDepth 100000 in
set_option maxHeartbeats 400000 in
theorem formOk_text (s : ByteArray) (hs : s.size ≤ maxLen) (w : World) : Calls Tryz.prog 46 #[.iface 106 (.string s)] w fun e w' => e = .returned (.bool (textOk s)) ∧ Below w.heap.size w w' := by
  have a_null := as_null_no 106 (by decide)
  have a_list := as_list_no 106 (by decide)
  have a_flag := as_flag_no 106 (by decide)
  have a_int := as_int_no 106 (by decide)
  have a_text := as_text_yes
  have HT := Lib.hid (impl_textOk s hs)
  clear hs
  go_enter Tryz.func46, Tryz.ntmps46
  go_wp2_with (first | (go_at_call 66; refine (HT.out _).mono ?_; rintro e w1 ⟨rfl, e1⟩; subst e1) | go_in)
  go_ret
  exact ⟨rfl, Below.refl _ _⟩

set_option maxRecDepth 100000 in
set_option maxHeartbeats 400000 in
theorem formOk_map_no (ko o : Option Addr) (kl kc dl dc : Nat) (h : ¬ (kl : Int) = dl) (w : World) : Calls Tryz.prog 46 #[.iface 109 (.agg #[.slice ko kl kc, .slice o dl dc])] w fun e w' => e = .returned (.bool false) ∧ Below w.heap.size w w' := by
  have a_null := as_null_no 109 (by decide)
  have a_list := as_list_no 109 (by decide)
  have a_flag := as_flag_no 109 (by decide)
  have a_int := as_int_no 109 (by decide)
  have a_text := as_text_no 109 (by decide)
  have a_map := as_map_yes
  go_enter Tryz.func46, Tryz.ntmps46
  go_wp2
  go_ret
  exact ⟨rfl, (Below.refl _ w).alloc (Nat.le_refl _) _⟩

set_option maxRecDepth 100000 in
set_option maxHeartbeats 400000 in
theorem formOk_map_yes (kv : Value) (keys : List ByteArray) (FK : List Nat) (o : Option Addr) (dc : Nat) (w : World) (hK : StrsAt w kv keys FK) : Calls Tryz.prog 46 #[.iface 109 (.agg #[kv, .slice o keys.length dc])] w fun e w' => e = .returned (.bool (keysOk keys)) ∧ Below w.heap.size w w' := by
  have HT := Lib.hid fun ob => impl_keysOk (w.alloc ob) (hK.stay ((Below.refl _ w).alloc (Nat.le_refl _) ob) (Nat.le_refl _))
  obtain ⟨ko, kc, rfl⟩ := hK.slice
  clear hK
  have a_null := as_null_no 109 (by decide)
  have a_list := as_list_no 109 (by decide)
  have a_flag := as_flag_no 109 (by decide)
  have a_int := as_int_no 109 (by decide)
  have a_text := as_text_no 109 (by decide)
  have a_map := as_map_yes
  go_enter Tryz.func46, Tryz.ntmps46
  go_wp2_with (first | (go_at_call 67; refine (HT.out _).mono ?_; rintro e w1 ⟨rfl, e1⟩; subst e1) | go_in)
  go_ret
  exact ⟨rfl, (Below.refl _ w).alloc (Nat.le_refl _) _⟩
end Go.Proofs.YtelpkcbbipianaaGreat
