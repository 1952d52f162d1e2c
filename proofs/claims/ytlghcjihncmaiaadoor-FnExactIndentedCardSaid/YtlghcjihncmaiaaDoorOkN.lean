/-
  What is proved: the program's nodeOk tells of a node alone whether it is as its kind has it.
-/
import Derived.Test.YtlghcjihncmaiaaDoorOkK
import Derived.Test.YtlghcjihncmaiaaDoorFlagOf
import Derived.Test.YtlghcjihncmaiaaDoorIntOf
import Derived.Test.YtlghcjihncmaiaaDoorTextOf
namespace Go.Proofs.YtlghcjihncmaiaaDoor
open Go Go.RowKit

/-- A node alone is as its kind has it. -/
def HeadOk (T : RT) : Prop :=
  (T.k = 0 ∧ T.n = 0 ∧ T.s = ⟨#[]⟩ ∧ T.keys.length = 0 ∧ T.kids.length = 0) ∨
  (T.k = 1 ∧ (T.n = 0 ∨ T.n = 1) ∧ T.s = ⟨#[]⟩ ∧ T.keys.length = 0 ∧ T.kids.length = 0) ∨
  (T.k = 2 ∧ (-1000000000000 ≤ T.n ∧ T.n ≤ 1000000000000) ∧ T.s = ⟨#[]⟩ ∧ T.keys.length = 0 ∧ T.kids.length = 0) ∨
  (T.k = 3 ∧ T.n = 0 ∧ textOk T.s = true ∧ T.keys.length = 0 ∧ T.kids.length = 0) ∨
  (T.k = 4 ∧ T.n = 0 ∧ T.s = ⟨#[]⟩ ∧ T.keys.length = 0) ∨
  (T.k = 5 ∧ T.n = 0 ∧ T.s = ⟨#[]⟩ ∧ T.keys.length = T.kids.length ∧ keysOk T.keys = true)

noncomputable def headOk (T : RT) : Bool := @decide (HeadOk T) (Classical.propDecidable _)
theorem headOk_yes {T : RT} (h : HeadOk T) : headOk T = true := @decide_eq_true _ (Classical.propDecidable _) h
theorem headOk_no {T : RT} (h : ¬ HeadOk T) : headOk T = false := @decide_eq_false _ (Classical.propDecidable _) h

/-! ### What the program's type switch finds -/

theorem zero_null : (Tryd.prog.info? 81).map (·.zero) = some (some (.agg #[])) := by kernel_rfl
theorem as_null_yes (v : Value) (xT : TypeId) (w : World) : (Instr.typeAssert (.iface 81 v) xT 81 true).run Tryd.prog w = .ok (.tuple #[v, .bool true]) w := by
  simp [Instr.typeAssert, run_underlying Tryd.underlying81, go_sem, Result.andThen]
theorem as_null_no (t : TypeId) (h : t ≠ 81) (v : Value) (xT : TypeId) (w : World) : (Instr.typeAssert (.iface t v) xT 81 true).run Tryd.prog w = .ok (.tuple #[.agg #[], .bool false]) w := by
  obtain ⟨i, hi, hz⟩ := Option.map_eq_some_iff.1 zero_null
  simp [Instr.typeAssert, run_underlying Tryd.underlying81, go_sem, Result.andThen, zeroValue, typeInfo, hi, hz, h]

theorem zero_flag : (Tryd.prog.info? 70).map (·.zero) = some (some (.int .i64 0)) := by kernel_rfl
theorem as_flag_yes (v : Value) (xT : TypeId) (w : World) : (Instr.typeAssert (.iface 70 v) xT 70 true).run Tryd.prog w = .ok (.tuple #[v, .bool true]) w := by
  simp [Instr.typeAssert, run_underlying Tryd.underlying70, go_sem, Result.andThen]
theorem as_flag_no (t : TypeId) (h : t ≠ 70) (v : Value) (xT : TypeId) (w : World) : (Instr.typeAssert (.iface t v) xT 70 true).run Tryd.prog w = .ok (.tuple #[.int .i64 0, .bool false]) w := by
  obtain ⟨i, hi, hz⟩ := Option.map_eq_some_iff.1 zero_flag
  simp [Instr.typeAssert, run_underlying Tryd.underlying70, go_sem, Result.andThen, zeroValue, typeInfo, hi, hz, h]

theorem zero_int : (Tryd.prog.info? 71).map (·.zero) = some (some (.int .i64 0)) := by kernel_rfl
theorem as_int_yes (v : Value) (xT : TypeId) (w : World) : (Instr.typeAssert (.iface 71 v) xT 71 true).run Tryd.prog w = .ok (.tuple #[v, .bool true]) w := by
  simp [Instr.typeAssert, run_underlying Tryd.underlying71, go_sem, Result.andThen]
theorem as_int_no (t : TypeId) (h : t ≠ 71) (v : Value) (xT : TypeId) (w : World) : (Instr.typeAssert (.iface t v) xT 71 true).run Tryd.prog w = .ok (.tuple #[.int .i64 0, .bool false]) w := by
  obtain ⟨i, hi, hz⟩ := Option.map_eq_some_iff.1 zero_int
  simp [Instr.typeAssert, run_underlying Tryd.underlying71, go_sem, Result.andThen, zeroValue, typeInfo, hi, hz, h]

theorem zero_text : (Tryd.prog.info? 72).map (·.zero) = some (some (.string ⟨#[]⟩)) := by kernel_rfl
theorem as_text_yes (v : Value) (xT : TypeId) (w : World) : (Instr.typeAssert (.iface 72 v) xT 72 true).run Tryd.prog w = .ok (.tuple #[v, .bool true]) w := by
  simp [Instr.typeAssert, run_underlying Tryd.underlying72, go_sem, Result.andThen]
theorem as_text_no (t : TypeId) (h : t ≠ 72) (v : Value) (xT : TypeId) (w : World) : (Instr.typeAssert (.iface t v) xT 72 true).run Tryd.prog w = .ok (.tuple #[.string ⟨#[]⟩, .bool false]) w := by
  obtain ⟨i, hi, hz⟩ := Option.map_eq_some_iff.1 zero_text
  simp [Instr.typeAssert, run_underlying Tryd.underlying72, go_sem, Result.andThen, zeroValue, typeInfo, hi, hz, h]

theorem zero_list : (Tryd.prog.info? 73).map (·.zero) = some (some (.slice none 0 0)) := by kernel_rfl
theorem as_list_yes (v : Value) (xT : TypeId) (w : World) : (Instr.typeAssert (.iface 73 v) xT 73 true).run Tryd.prog w = .ok (.tuple #[v, .bool true]) w := by
  simp [Instr.typeAssert, run_underlying Tryd.underlying73, go_sem, Result.andThen]
theorem as_list_no (t : TypeId) (h : t ≠ 73) (v : Value) (xT : TypeId) (w : World) : (Instr.typeAssert (.iface t v) xT 73 true).run Tryd.prog w = .ok (.tuple #[.slice none 0 0, .bool false]) w := by
  obtain ⟨i, hi, hz⟩ := Option.map_eq_some_iff.1 zero_list
  simp [Instr.typeAssert, run_underlying Tryd.underlying73, go_sem, Result.andThen, zeroValue, typeInfo, hi, hz, h]

theorem zero_map : (Tryd.prog.info? 77).map (·.zero) = some (some (.agg #[.slice none 0 0, .slice none 0 0])) := by kernel_rfl
theorem as_map_yes (v : Value) (xT : TypeId) (w : World) : (Instr.typeAssert (.iface 77 v) xT 77 true).run Tryd.prog w = .ok (.tuple #[v, .bool true]) w := by
  simp [Instr.typeAssert, run_underlying Tryd.underlying77, go_sem, Result.andThen]
theorem as_map_no (t : TypeId) (h : t ≠ 77) (v : Value) (xT : TypeId) (w : World) : (Instr.typeAssert (.iface t v) xT 77 true).run Tryd.prog w = .ok (.tuple #[.agg #[.slice none 0 0, .slice none 0 0], .bool false]) w := by
  obtain ⟨i, hi, hz⟩ := Option.map_eq_some_iff.1 zero_map
  simp [Instr.typeAssert, run_underlying Tryd.underlying77, go_sem, Result.andThen, zeroValue, typeInfo, hi, hz, h]

set_option maxHeartbeats 400000 in
theorem node_null (w : World) : Calls Tryd.prog 97 #[.agg #[]] w fun e w' => e = .returned (.agg #[.int .i64 0, .int .i64 0, .string ⟨#[]⟩, .slice none 0 0, .slice none 0 0]) ∧ Below w.heap.size w w' := by
  go_enter Tryd.func97, Tryd.ntmps97
  go_wp2
  have h1 := heap_last (w.alloc (Obj.cells #[] 81)) (Obj.cells #[.int .i64 0, .int .i64 0, .string ⟨#[]⟩, .slice none 0 0, .slice none 0 0] 30)
  have e1 : (w.alloc (Obj.cells #[] 81)).heap.size = w.heap.size + 1 := by simp
  rw [e1] at h1
  exact bodyPost_ret (ret_node Tryd.results97 rfl h1) rfl ⟨rfl, ((Below.refl _ w).alloc (Nat.le_refl _) _).alloc (by simp) _⟩

set_option maxHeartbeats 400000 in
theorem node_list (o : Option Addr) (l c : Nat) (w : World) : Calls Tryd.prog 95 #[.slice o l c] w fun e w' => e = .returned (.agg #[.int .i64 4, .int .i64 0, .string ⟨#[]⟩, .slice none 0 0, .slice o l c]) ∧ Below w.heap.size w w' := by
  go_enter Tryd.func95, Tryd.ntmps95
  go_wp2
  exact bodyPost_ret (ret_node Tryd.results95 rfl (heap_last w _)) rfl ⟨rfl, (Below.refl _ w).alloc (Nat.le_refl _) _⟩

set_option maxHeartbeats 400000 in
theorem node_map (ko o : Option Addr) (kl kc l c : Nat) (w : World) : Calls Tryd.prog 96 #[.agg #[.slice ko kl kc, .slice o l c]] w fun e w' => e = .returned (.agg #[.int .i64 5, .int .i64 0, .string ⟨#[]⟩, .slice ko kl kc, .slice o l c]) ∧ Below w.heap.size w w' := by
  go_enter Tryd.func96, Tryd.ntmps96
  go_wp2
  have h1 := heap_last (w.alloc (Obj.cells #[.slice ko kl kc, .slice o l c] 77)) (Obj.cells #[.int .i64 5, .int .i64 0, .string ⟨#[]⟩, .slice ko kl kc, .slice o l c] 30)
  have e1 : (w.alloc (Obj.cells #[.slice ko kl kc, .slice o l c] 77)).heap.size = w.heap.size + 1 := by simp
  rw [e1] at h1
  exact bodyPost_ret (ret_node Tryd.results96 rfl h1) rfl ⟨rfl, ((Below.refl _ w).alloc (Nat.le_refl _) _).alloc (by simp) _⟩

theorem meth_null (v : Value) (w : World) : (method 215 81 v "loop.example/g00465/impl.node").run Tryd.prog w = .ok (97, v) w := by kernel_rfl
theorem meth_flag (v : Value) (w : World) : (method 215 70 v "loop.example/g00465/impl.node").run Tryd.prog w = .ok (92, v) w := by kernel_rfl
theorem meth_int (v : Value) (w : World) : (method 215 71 v "loop.example/g00465/impl.node").run Tryd.prog w = .ok (93, v) w := by kernel_rfl
theorem meth_text (v : Value) (w : World) : (method 215 72 v "loop.example/g00465/impl.node").run Tryd.prog w = .ok (94, v) w := by kernel_rfl
theorem meth_list (v : Value) (w : World) : (method 215 73 v "loop.example/g00465/impl.node").run Tryd.prog w = .ok (95, v) w := by kernel_rfl
theorem meth_map (v : Value) (w : World) : (method 215 77 v "loop.example/g00465/impl.node").run Tryd.prog w = .ok (96, v) w := by kernel_rfl
end Go.Proofs.YtlghcjihncmaiaaDoor
