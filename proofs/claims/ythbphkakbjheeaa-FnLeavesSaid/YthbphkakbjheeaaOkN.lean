/-
  What is proved: the program's nodeOk tells of a node alone whether it is as its kind has it.
-/
import Derived.Test.YthbphkakbjheeaaOkK
import Derived.Test.YthbphkakbjheeaaFlagOf
import Derived.Test.YthbphkakbjheeaaIntOf
import Derived.Test.YthbphkakbjheeaaTextOf
namespace Go.Proofs.Ythbphkakbjheeaa
open Go Go.RowKit

/-- A node alone is as its kind has it. -/
def HeadOk (T : RT) : Prop :=
  (T.k = 0 ∧ T.n = 0 ∧ T.s = ⟨#[]⟩ ∧ T.keys.length = 0 ∧ T.kids.length = 0) ∨
  (T.k = 1 ∧ (T.n = 0 ∨ T.n = 1) ∧ T.s = ⟨#[]⟩ ∧ T.keys.length = 0 ∧ T.kids.length = 0) ∨
  (T.k = 2 ∧ (-1000000000000 ≤ T.n ∧ T.n ≤ 1000000000000) ∧ T.s = ⟨#[]⟩ ∧ T.keys.length = 0 ∧ T.kids.length = 0) ∨
  (T.k = 3 ∧ T.n = 0 ∧ textOk T.s = true ∧ T.keys.length = 0 ∧ T.kids.length = 0) ∨
  (T.k = 4 ∧ T.n = 0 ∧ T.s = ⟨#[]⟩ ∧ T.keys.length = 0) ∨
  (T.k = 5 ∧ T.n = 0 ∧ T.s = ⟨#[]⟩ ∧ T.keys.length = T.kids.length ∧ keysOk T.keys = true)

noncomputable def headOk (T : RT) : Bool := @decide (HeadOk T) (Classical.propDecidable _)
theorem headOk_yes {T : RT} (h : HeadOk T) : headOk T = true := @decide_eq_true _ (Classical.propDecidable _) h
theorem headOk_no {T : RT} (h : ¬ HeadOk T) : headOk T = false := @decide_eq_false _ (Classical.propDecidable _) h

/-! ### What the program's type switch finds -/

theorem zero_null : (Try.prog.info? 101).map (·.zero) = some (some (.agg #[])) := by kernel_rfl
theorem as_null_yes (v : Value) (xT : TypeId) (w : World) : (Instr.typeAssert (.iface 101 v) xT 101 true).run Try.prog w = .ok (.tuple #[v, .bool true]) w := by
  simp [Instr.typeAssert, run_underlying Try.underlying101, go_sem, Result.andThen]
theorem as_null_no (t : TypeId) (h : t ≠ 101) (v : Value) (xT : TypeId) (w : World) : (Instr.typeAssert (.iface t v) xT 101 true).run Try.prog w = .ok (.tuple #[.agg #[], .bool false]) w := by
  obtain ⟨i, hi, hz⟩ := Option.map_eq_some_iff.1 zero_null
  simp [Instr.typeAssert, run_underlying Try.underlying101, go_sem, Result.andThen, zeroValue, typeInfo, hi, hz, h]

theorem zero_flag : (Try.prog.info? 61).map (·.zero) = some (some (.int .i64 0)) := by kernel_rfl
theorem as_flag_yes (v : Value) (xT : TypeId) (w : World) : (Instr.typeAssert (.iface 61 v) xT 61 true).run Try.prog w = .ok (.tuple #[v, .bool true]) w := by
  simp [Instr.typeAssert, run_underlying Try.underlying61, go_sem, Result.andThen]
theorem as_flag_no (t : TypeId) (h : t ≠ 61) (v : Value) (xT : TypeId) (w : World) : (Instr.typeAssert (.iface t v) xT 61 true).run Try.prog w = .ok (.tuple #[.int .i64 0, .bool false]) w := by
  obtain ⟨i, hi, hz⟩ := Option.map_eq_some_iff.1 zero_flag
  simp [Instr.typeAssert, run_underlying Try.underlying61, go_sem, Result.andThen, zeroValue, typeInfo, hi, hz, h]

theorem zero_int : (Try.prog.info? 63).map (·.zero) = some (some (.int .i64 0)) := by kernel_rfl
theorem as_int_yes (v : Value) (xT : TypeId) (w : World) : (Instr.typeAssert (.iface 63 v) xT 63 true).run Try.prog w = .ok (.tuple #[v, .bool true]) w := by
  simp [Instr.typeAssert, run_underlying Try.underlying63, go_sem, Result.andThen]
theorem as_int_no (t : TypeId) (h : t ≠ 63) (v : Value) (xT : TypeId) (w : World) : (Instr.typeAssert (.iface t v) xT 63 true).run Try.prog w = .ok (.tuple #[.int .i64 0, .bool false]) w := by
  obtain ⟨i, hi, hz⟩ := Option.map_eq_some_iff.1 zero_int
  simp [Instr.typeAssert, run_underlying Try.underlying63, go_sem, Result.andThen, zeroValue, typeInfo, hi, hz, h]

theorem zero_text : (Try.prog.info? 64).map (·.zero) = some (some (.string ⟨#[]⟩)) := by kernel_rfl
theorem as_text_yes (v : Value) (xT : TypeId) (w : World) : (Instr.typeAssert (.iface 64 v) xT 64 true).run Try.prog w = .ok (.tuple #[v, .bool true]) w := by
  simp [Instr.typeAssert, run_underlying Try.underlying64, go_sem, Result.andThen]
theorem as_text_no (t : TypeId) (h : t ≠ 64) (v : Value) (xT : TypeId) (w : World) : (Instr.typeAssert (.iface t v) xT 64 true).run Try.prog w = .ok (.tuple #[.string ⟨#[]⟩, .bool false]) w := by
  obtain ⟨i, hi, hz⟩ := Option.map_eq_some_iff.1 zero_text
  simp [Instr.typeAssert, run_underlying Try.underlying64, go_sem, Result.andThen, zeroValue, typeInfo, hi, hz, h]

theorem zero_list : (Try.prog.info? 65).map (·.zero) = some (some (.slice none 0 0)) := by kernel_rfl
theorem as_list_yes (v : Value) (xT : TypeId) (w : World) : (Instr.typeAssert (.iface 65 v) xT 65 true).run Try.prog w = .ok (.tuple #[v, .bool true]) w := by
  simp [Instr.typeAssert, run_underlying Try.underlying65, go_sem, Result.andThen]
theorem as_list_no (t : TypeId) (h : t ≠ 65) (v : Value) (xT : TypeId) (w : World) : (Instr.typeAssert (.iface t v) xT 65 true).run Try.prog w = .ok (.tuple #[.slice none 0 0, .bool false]) w := by
  obtain ⟨i, hi, hz⟩ := Option.map_eq_some_iff.1 zero_list
  simp [Instr.typeAssert, run_underlying Try.underlying65, go_sem, Result.andThen, zeroValue, typeInfo, hi, hz, h]

theorem zero_map : (Try.prog.info? 103).map (·.zero) = some (some (.agg #[.slice none 0 0, .slice none 0 0])) := by kernel_rfl
theorem as_map_yes (v : Value) (xT : TypeId) (w : World) : (Instr.typeAssert (.iface 103 v) xT 103 true).run Try.prog w = .ok (.tuple #[v, .bool true]) w := by
  simp [Instr.typeAssert, run_underlying Try.underlying103, go_sem, Result.andThen]
theorem as_map_no (t : TypeId) (h : t ≠ 103) (v : Value) (xT : TypeId) (w : World) : (Instr.typeAssert (.iface t v) xT 103 true).run Try.prog w = .ok (.tuple #[.agg #[.slice none 0 0, .slice none 0 0], .bool false]) w := by
  obtain ⟨i, hi, hz⟩ := Option.map_eq_some_iff.1 zero_map
  simp [Instr.typeAssert, run_underlying Try.underlying103, go_sem, Result.andThen, zeroValue, typeInfo, hi, hz, h]

set_option maxHeartbeats 400000 in
theorem node_null (w : World) : Calls Try.prog 110 #[.agg #[]] w fun e w' => e = .returned (.agg #[.int .i64 0, .int .i64 0, .string ⟨#[]⟩, .slice none 0 0, .slice none 0 0]) ∧ Below w.heap.size w w' := by
  go_enter Try.func110, Try.ntmps110
  go_wp2
  have h1 := heap_last (w.alloc (Obj.cells #[] 101)) (Obj.cells #[.int .i64 0, .int .i64 0, .string ⟨#[]⟩, .slice none 0 0, .slice none 0 0] 30)
  have e1 : (w.alloc (Obj.cells #[] 101)).heap.size = w.heap.size + 1 := by simp
  rw [e1] at h1
  exact bodyPost_ret (ret_node Try.results110 rfl h1) rfl ⟨rfl, ((Below.refl _ w).alloc (Nat.le_refl _) _).alloc (by simp) _⟩

set_option maxHeartbeats 400000 in
theorem node_list (o : Option Addr) (l c : Nat) (w : World) : Calls Try.prog 51 #[.slice o l c] w fun e w' => e = .returned (.agg #[.int .i64 4, .int .i64 0, .string ⟨#[]⟩, .slice none 0 0, .slice o l c]) ∧ Below w.heap.size w w' := by
  go_enter Try.func51, Try.ntmps51
  go_wp2
  exact bodyPost_ret (ret_node Try.results51 rfl (heap_last w _)) rfl ⟨rfl, (Below.refl _ w).alloc (Nat.le_refl _) _⟩

set_option maxHeartbeats 400000 in
theorem node_map (ko o : Option Addr) (kl kc l c : Nat) (w : World) : Calls Try.prog 111 #[.agg #[.slice ko kl kc, .slice o l c]] w fun e w' => e = .returned (.agg #[.int .i64 5, .int .i64 0, .string ⟨#[]⟩, .slice ko kl kc, .slice o l c]) ∧ Below w.heap.size w w' := by
  go_enter Try.func111, Try.ntmps111
  go_wp2
  have h1 := heap_last (w.alloc (Obj.cells #[.slice ko kl kc, .slice o l c] 103)) (Obj.cells #[.int .i64 5, .int .i64 0, .string ⟨#[]⟩, .slice ko kl kc, .slice o l c] 30)
  have e1 : (w.alloc (Obj.cells #[.slice ko kl kc, .slice o l c] 103)).heap.size = w.heap.size + 1 := by simp
  rw [e1] at h1
  exact bodyPost_ret (ret_node Try.results111 rfl h1) rfl ⟨rfl, ((Below.refl _ w).alloc (Nat.le_refl _) _).alloc (by simp) _⟩

theorem meth_null (v : Value) (w : World) : (method 223 101 v "loop.example/g00465/impl.node").run Try.prog w = .ok (110, v) w := by kernel_rfl
theorem meth_flag (v : Value) (w : World) : (method 223 61 v "loop.example/g00465/impl.node").run Try.prog w = .ok (47, v) w := by kernel_rfl
theorem meth_int (v : Value) (w : World) : (method 223 63 v "loop.example/g00465/impl.node").run Try.prog w = .ok (48, v) w := by kernel_rfl
theorem meth_text (v : Value) (w : World) : (method 223 64 v "loop.example/g00465/impl.node").run Try.prog w = .ok (49, v) w := by kernel_rfl
theorem meth_list (v : Value) (w : World) : (method 223 65 v "loop.example/g00465/impl.node").run Try.prog w = .ok (51, v) w := by kernel_rfl
theorem meth_map (v : Value) (w : World) : (method 223 103 v "loop.example/g00465/impl.node").run Try.prog w = .ok (111, v) w := by kernel_rfl
end Go.Proofs.Ythbphkakbjheeaa
