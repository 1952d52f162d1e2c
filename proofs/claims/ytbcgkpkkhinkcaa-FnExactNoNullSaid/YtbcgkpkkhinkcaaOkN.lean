/-
  What is proved: the program's nodeOk tells of a node alone whether it is as its kind has it.
-/
import Derived.Test.YtbcgkpkkhinkcaaOkK
import Derived.Test.YtbcgkpkkhinkcaaFlagOf
import Derived.Test.YtbcgkpkkhinkcaaIntOf
import Derived.Test.YtbcgkpkkhinkcaaTextOf
namespace Go.Proofs.Ytbcgkpkkhinkcaa
open Go Go.RowKit

/-- A node alone is as its kind has it. -/
def HeadOk (T : RT) : Prop :=
  (T.k = 0 ∧ T.n = 0 ∧ T.s = ⟨#[]⟩ ∧ T.keys.length = 0 ∧ T.kids.length = 0) ∨
  (T.k = 1 ∧ (T.n = 0 ∨ T.n = 1) ∧ T.s = ⟨#[]⟩ ∧ T.keys.length = 0 ∧ T.kids.length = 0) ∨
  (T.k = 2 ∧ (-1000000000000 ≤ T.n ∧ T.n ≤ 1000000000000) ∧ T.s = ⟨#[]⟩ ∧ T.keys.length = 0 ∧ T.kids.length = 0) ∨
  (T.k = 3 ∧ T.n = 0 ∧ textOk T.s = true ∧ T.keys.length = 0 ∧ T.kids.length = 0) ∨
  (T.k = 4 ∧ T.n = 0 ∧ T.s = ⟨#[]⟩ ∧ T.keys.length = 0) ∨
  (T.k = 5 ∧ T.n = 0 ∧ T.s = ⟨#[]⟩ ∧ T.keys.length = T.kids.length ∧ keysOk T.keys = true)

noncomputable def headOk (T : RT) : Bool := @decide (HeadOk T) (Classical.propDecidable _)
theorem headOk_yes {T : RT} (h : HeadOk T) : headOk T = true := @decide_eq_true _ (Classical.propDecidable _) h
theorem headOk_no {T : RT} (h : ¬ HeadOk T) : headOk T = false := @decide_eq_false _ (Classical.propDecidable _) h

/-! ### What the program's type switch finds -/

theorem zero_null : (Try.prog.info? 72).map (·.zero) = some (some (.agg #[])) := by kernel_rfl
theorem as_null_yes (v : Value) (xT : TypeId) (w : World) : (Instr.typeAssert (.iface 72 v) xT 72 true).run Try.prog w = .ok (.tuple #[v, .bool true]) w := by
  simp [Instr.typeAssert, run_underlying Try.underlying72, go_sem, Result.andThen]
theorem as_null_no (t : TypeId) (h : t ≠ 72) (v : Value) (xT : TypeId) (w : World) : (Instr.typeAssert (.iface t v) xT 72 true).run Try.prog w = .ok (.tuple #[.agg #[], .bool false]) w := by
  obtain ⟨i, hi, hz⟩ := Option.map_eq_some_iff.1 zero_null
  simp [Instr.typeAssert, run_underlying Try.underlying72, go_sem, Result.andThen, zeroValue, typeInfo, hi, hz, h]

theorem zero_flag : (Try.prog.info? 73).map (·.zero) = some (some (.int .i64 0)) := by kernel_rfl
theorem as_flag_yes (v : Value) (xT : TypeId) (w : World) : (Instr.typeAssert (.iface 73 v) xT 73 true).run Try.prog w = .ok (.tuple #[v, .bool true]) w := by
  simp [Instr.typeAssert, run_underlying Try.underlying73, go_sem, Result.andThen]
theorem as_flag_no (t : TypeId) (h : t ≠ 73) (v : Value) (xT : TypeId) (w : World) : (Instr.typeAssert (.iface t v) xT 73 true).run Try.prog w = .ok (.tuple #[.int .i64 0, .bool false]) w := by
  obtain ⟨i, hi, hz⟩ := Option.map_eq_some_iff.1 zero_flag
  simp [Instr.typeAssert, run_underlying Try.underlying73, go_sem, Result.andThen, zeroValue, typeInfo, hi, hz, h]

theorem zero_int : (Try.prog.info? 74).map (·.zero) = some (some (.int .i64 0)) := by kernel_rfl
theorem as_int_yes (v : Value) (xT : TypeId) (w : World) : (Instr.typeAssert (.iface 74 v) xT 74 true).run Try.prog w = .ok (.tuple #[v, .bool true]) w := by
  simp [Instr.typeAssert, run_underlying Try.underlying74, go_sem, Result.andThen]
theorem as_int_no (t : TypeId) (h : t ≠ 74) (v : Value) (xT : TypeId) (w : World) : (Instr.typeAssert (.iface t v) xT 74 true).run Try.prog w = .ok (.tuple #[.int .i64 0, .bool false]) w := by
  obtain ⟨i, hi, hz⟩ := Option.map_eq_some_iff.1 zero_int
  simp [Instr.typeAssert, run_underlying Try.underlying74, go_sem, Result.andThen, zeroValue, typeInfo, hi, hz, h]

theorem zero_text : (Try.prog.info? 75).map (·.zero) = some (some (.string ⟨#[]⟩)) := by kernel_rfl
theorem as_text_yes (v : Value) (xT : TypeId) (w : World) : (Instr.typeAssert (.iface 75 v) xT 75 true).run Try.prog w = .ok (.tuple #[v, .bool true]) w := by
  simp [Instr.typeAssert, run_underlying Try.underlying75, go_sem, Result.andThen]
theorem as_text_no (t : TypeId) (h : t ≠ 75) (v : Value) (xT : TypeId) (w : World) : (Instr.typeAssert (.iface t v) xT 75 true).run Try.prog w = .ok (.tuple #[.string ⟨#[]⟩, .bool false]) w := by
  obtain ⟨i, hi, hz⟩ := Option.map_eq_some_iff.1 zero_text
  simp [Instr.typeAssert, run_underlying Try.underlying75, go_sem, Result.andThen, zeroValue, typeInfo, hi, hz, h]

theorem zero_list : (Try.prog.info? 76).map (·.zero) = some (some (.slice none 0 0)) := by kernel_rfl
theorem as_list_yes (v : Value) (xT : TypeId) (w : World) : (Instr.typeAssert (.iface 76 v) xT 76 true).run Try.prog w = .ok (.tuple #[v, .bool true]) w := by
  simp [Instr.typeAssert, run_underlying Try.underlying76, go_sem, Result.andThen]
theorem as_list_no (t : TypeId) (h : t ≠ 76) (v : Value) (xT : TypeId) (w : World) : (Instr.typeAssert (.iface t v) xT 76 true).run Try.prog w = .ok (.tuple #[.slice none 0 0, .bool false]) w := by
  obtain ⟨i, hi, hz⟩ := Option.map_eq_some_iff.1 zero_list
  simp [Instr.typeAssert, run_underlying Try.underlying76, go_sem, Result.andThen, zeroValue, typeInfo, hi, hz, h]

theorem zero_map : (Try.prog.info? 78).map (·.zero) = some (some (.agg #[.slice none 0 0, .slice none 0 0])) := by kernel_rfl
theorem as_map_yes (v : Value) (xT : TypeId) (w : World) : (Instr.typeAssert (.iface 78 v) xT 78 true).run Try.prog w = .ok (.tuple #[v, .bool true]) w := by
  simp [Instr.typeAssert, run_underlying Try.underlying78, go_sem, Result.andThen]
theorem as_map_no (t : TypeId) (h : t ≠ 78) (v : Value) (xT : TypeId) (w : World) : (Instr.typeAssert (.iface t v) xT 78 true).run Try.prog w = .ok (.tuple #[.agg #[.slice none 0 0, .slice none 0 0], .bool false]) w := by
  obtain ⟨i, hi, hz⟩ := Option.map_eq_some_iff.1 zero_map
  simp [Instr.typeAssert, run_underlying Try.underlying78, go_sem, Result.andThen, zeroValue, typeInfo, hi, hz, h]

set_option maxHeartbeats 400000 in
theorem node_null (w : World) : Calls Try.prog 76 #[.agg #[]] w fun e w' => e = .returned (.agg #[.int .i64 0, .int .i64 0, .string ⟨#[]⟩, .slice none 0 0, .slice none 0 0]) ∧ Below w.heap.size w w' := by
  go_enter Try.func76, Try.ntmps76
  go_wp2
  have h1 := heap_last (w.alloc (Obj.cells #[] 72)) (Obj.cells #[.int .i64 0, .int .i64 0, .string ⟨#[]⟩, .slice none 0 0, .slice none 0 0] 29)
  have e1 : (w.alloc (Obj.cells #[] 72)).heap.size = w.heap.size + 1 := by simp
  rw [e1] at h1
  exact bodyPost_ret (ret_node Try.results76 rfl h1) rfl ⟨rfl, ((Below.refl _ w).alloc (Nat.le_refl _) _).alloc (by simp) _⟩

set_option maxHeartbeats 400000 in
theorem node_list (o : Option Addr) (l c : Nat) (w : World) : Calls Try.prog 80 #[.slice o l c] w fun e w' => e = .returned (.agg #[.int .i64 4, .int .i64 0, .string ⟨#[]⟩, .slice none 0 0, .slice o l c]) ∧ Below w.heap.size w w' := by
  go_enter Try.func80, Try.ntmps80
  go_wp2
  exact bodyPost_ret (ret_node Try.results80 rfl (heap_last w _)) rfl ⟨rfl, (Below.refl _ w).alloc (Nat.le_refl _) _⟩

set_option maxHeartbeats 400000 in
theorem node_map (ko o : Option Addr) (kl kc l c : Nat) (w : World) : Calls Try.prog 81 #[.agg #[.slice ko kl kc, .slice o l c]] w fun e w' => e = .returned (.agg #[.int .i64 5, .int .i64 0, .string ⟨#[]⟩, .slice ko kl kc, .slice o l c]) ∧ Below w.heap.size w w' := by
  go_enter Try.func81, Try.ntmps81
  go_wp2
  have h1 := heap_last (w.alloc (Obj.cells #[.slice ko kl kc, .slice o l c] 78)) (Obj.cells #[.int .i64 5, .int .i64 0, .string ⟨#[]⟩, .slice ko kl kc, .slice o l c] 29)
  have e1 : (w.alloc (Obj.cells #[.slice ko kl kc, .slice o l c] 78)).heap.size = w.heap.size + 1 := by simp
  rw [e1] at h1
  exact bodyPost_ret (ret_node Try.results81 rfl h1) rfl ⟨rfl, ((Below.refl _ w).alloc (Nat.le_refl _) _).alloc (by simp) _⟩

theorem meth_null (v : Value) (w : World) : (method 196 72 v "loop.example/g00465/impl.node").run Try.prog w = .ok (76, v) w := by kernel_rfl
theorem meth_flag (v : Value) (w : World) : (method 196 73 v "loop.example/g00465/impl.node").run Try.prog w = .ok (77, v) w := by kernel_rfl
theorem meth_int (v : Value) (w : World) : (method 196 74 v "loop.example/g00465/impl.node").run Try.prog w = .ok (78, v) w := by kernel_rfl
theorem meth_text (v : Value) (w : World) : (method 196 75 v "loop.example/g00465/impl.node").run Try.prog w = .ok (79, v) w := by kernel_rfl
theorem meth_list (v : Value) (w : World) : (method 196 76 v "loop.example/g00465/impl.node").run Try.prog w = .ok (80, v) w := by kernel_rfl
theorem meth_map (v : Value) (w : World) : (method 196 78 v "loop.example/g00465/impl.node").run Try.prog w = .ok (81, v) w := by kernel_rfl
end Go.Proofs.Ytbcgkpkkhinkcaa
