/-
  What is proved: for every int the program's IntOf answers as the model's IntOf does, in memory of its own; no condition.; for every text the program's TextOf answers as the model's TextOf does, in memory of its own; no condition.; the program's nodeOk tells of a node alone whether it is as its kind has it.; the program's formOf, formOk and nodeOk, kind by kind.; the program's nodeOk tells of every null, flag and int alone whether it is as its kind has it.
-/
import Derived.Test.YtmcjghhmcmkomaaGreatDoorPartAC
/- for every int the program's IntOf answers as the model's IntOf does, in memory of its own; no condition. -/
namespace Go.Proofs.YtmcjghhmcmkomaaGreatDoor
open Go Go.RowKit

set_option maxHeartbeats 400000 in
theorem node_int (x : Int) (w : World) : Calls Tryz.prog 154 #[.int .i64 x] w fun e w' => e = .returned (.agg #[.int .i64 2, .int .i64 x, .string ⟨#[]⟩, .slice none 0 0, .slice none 0 0]) ∧ Below w.heap.size w w' := by
  go_enter Tryz.func154, Tryz.ntmps154
  go_wp2
  exact bodyPost_ret (ret_node Tryz.results154 rfl (heap_last w _)) rfl ⟨rfl, (Below.refl _ w).alloc (Nat.le_refl _) _⟩

set_option maxHeartbeats 400000 in
theorem spec_intOf (x : Int) (w : World) : Calls Tryz.prog 61 #[.int .i64 x] w fun e w' => e = .returned (.agg #[.int .i64 2, .int .i64 x, .string ⟨#[]⟩, .slice none 0 0, .slice none 0 0]) ∧ Below w.heap.size w w' := by
  go_enter Tryz.func61, Tryz.ntmps61
  go_wp2
  exact bodyPost_ret (ret_node Tryz.results61 rfl (heap_last w _)) rfl ⟨rfl, (Below.refl _ w).alloc (Nat.le_refl _) _⟩

set_option maxHeartbeats 400000 in
theorem impl_intOf (x : Int) (w : World) : Calls Tryz.prog 139 #[.int .i64 x] w fun e w' => e = .returned (.agg #[.int .i64 2, .int .i64 x, .string ⟨#[]⟩, .slice none 0 0, .slice none 0 0]) ∧ Below w.heap.size w w' := by
  go_enter Tryz.func139, Tryz.ntmps139
  go_wp2_with (first
    | (go_at_call 154; refine (node_int _ _).mono ?_; rintro e w1 ⟨rfl, hb1⟩; obtain ⟨hh, hB⟩ := hand_on hb1; obtain ⟨g0, g1, g2, g3, g4, g5⟩ := five hh; have HH := Lib.hid (And.intro hh hB); clear hh hB hb1)
    | go_in)
  exact bodyPost_ret (ret_node Tryz.results139 rfl (set5_end HH.out.1 _ _ _ _ _)) rfl ⟨rfl, set5_below HH.out.2 (Nat.le_refl _) 0 _ _ _ _ _⟩


end Go.Proofs.YtmcjghhmcmkomaaGreatDoor

/- for every text the program's TextOf answers as the model's TextOf does, in memory of its own; no condition. -/
namespace Go.Proofs.YtmcjghhmcmkomaaGreatDoor
open Go Go.RowKit

set_option maxHeartbeats 400000 in
theorem node_text (s : ByteArray) (w : World) : Calls Tryz.prog 153 #[.string s] w fun e w' => e = .returned (.agg #[.int .i64 3, .int .i64 0, .string s, .slice none 0 0, .slice none 0 0]) ∧ Below w.heap.size w w' := by
  go_enter Tryz.func153, Tryz.ntmps153
  go_wp2
  exact bodyPost_ret (ret_node Tryz.results153 rfl (heap_last w _)) rfl ⟨rfl, (Below.refl _ w).alloc (Nat.le_refl _) _⟩

set_option maxHeartbeats 400000 in
theorem spec_textOf (s : ByteArray) (w : World) : Calls Tryz.prog 62 #[.string s] w fun e w' => e = .returned (.agg #[.int .i64 3, .int .i64 0, .string s, .slice none 0 0, .slice none 0 0]) ∧ Below w.heap.size w w' := by
  go_enter Tryz.func62, Tryz.ntmps62
  go_wp2
  exact bodyPost_ret (ret_node Tryz.results62 rfl (heap_last w _)) rfl ⟨rfl, (Below.refl _ w).alloc (Nat.le_refl _) _⟩

set_option maxHeartbeats 400000 in
theorem impl_textOf (s : ByteArray) (w : World) : Calls Tryz.prog 137 #[.string s] w fun e w' => e = .returned (.agg #[.int .i64 3, .int .i64 0, .string s, .slice none 0 0, .slice none 0 0]) ∧ Below w.heap.size w w' := by
  go_enter Tryz.func137, Tryz.ntmps137
  go_wp2_with (first
    | (go_at_call 153; refine (node_text _ _).mono ?_; rintro e w1 ⟨rfl, hb1⟩; obtain ⟨hh, hB⟩ := hand_on hb1; obtain ⟨g0, g1, g2, g3, g4, g5⟩ := five hh; have HH := Lib.hid (And.intro hh hB); clear hh hB hb1)
    | go_in)
  exact bodyPost_ret (ret_node Tryz.results137 rfl (set5_end HH.out.1 _ _ _ _ _)) rfl ⟨rfl, set5_below HH.out.2 (Nat.le_refl _) 0 _ _ _ _ _⟩


end Go.Proofs.YtmcjghhmcmkomaaGreatDoor

/- the program's nodeOk tells of a node alone whether it is as its kind has it. -/
namespace Go.Proofs.YtmcjghhmcmkomaaGreatDoor
open Go Go.RowKit

/-- A node alone is as its kind has it. -/
def HeadOk (T : RT) : Prop :=
  (T.k = 0 ∧ T.n = 0 ∧ T.s = ⟨#[]⟩ ∧ T.keys.length = 0 ∧ T.kids.length = 0) ∨
  (T.k = 1 ∧ (T.n = 0 ∨ T.n = 1) ∧ T.s = ⟨#[]⟩ ∧ T.keys.length = 0 ∧ T.kids.length = 0) ∨
  (T.k = 2 ∧ (-1000000000000 ≤ T.n ∧ T.n ≤ 1000000000000) ∧ T.s = ⟨#[]⟩ ∧ T.keys.length = 0 ∧ T.kids.length = 0) ∨
  (T.k = 3 ∧ T.n = 0 ∧ textOk T.s = true ∧ T.keys.length = 0 ∧ T.kids.length = 0) ∨
  (T.k = 4 ∧ T.n = 0 ∧ T.s = ⟨#[]⟩ ∧ T.keys.length = 0) ∨
  (T.k = 5 ∧ T.n = 0 ∧ T.s = ⟨#[]⟩ ∧ T.keys.length = T.kids.length ∧ keysOk T.keys = true)

noncomputable def headOk (T : RT) : Bool := @decide (HeadOk T) (Classical.propDecidable _)
theorem headOk_yes {T : RT} (h : HeadOk T) : headOk T = true := @decide_eq_true _ (Classical.propDecidable _) h
theorem headOk_no {T : RT} (h : ¬ HeadOk T) : headOk T = false := @decide_eq_false _ (Classical.propDecidable _) h

/-! ### What the program's type switch finds -/

theorem zero_null : (Tryz.prog.info? 107).map (·.zero) = some (some (.agg #[])) := by kernel_rfl
theorem as_null_yes (v : Value) (xT : TypeId) (w : World) : (Instr.typeAssert (.iface 107 v) xT 107 true).run Tryz.prog w = .ok (.tuple #[v, .bool true]) w := by
  simp [Instr.typeAssert, run_underlying Tryz.underlying107, go_sem, Result.andThen]
theorem as_null_no (t : TypeId) (h : t ≠ 107) (v : Value) (xT : TypeId) (w : World) : (Instr.typeAssert (.iface t v) xT 107 true).run Tryz.prog w = .ok (.tuple #[.agg #[], .bool false]) w := by
  obtain ⟨i, hi, hz⟩ := Option.map_eq_some_iff.1 zero_null
  simp [Instr.typeAssert, run_underlying Tryz.underlying107, go_sem, Result.andThen, zeroValue, typeInfo, hi, hz, h]

theorem zero_flag : (Tryz.prog.info? 65).map (·.zero) = some (some (.int .i64 0)) := by kernel_rfl
theorem as_flag_yes (v : Value) (xT : TypeId) (w : World) : (Instr.typeAssert (.iface 65 v) xT 65 true).run Tryz.prog w = .ok (.tuple #[v, .bool true]) w := by
  simp [Instr.typeAssert, run_underlying Tryz.underlying65, go_sem, Result.andThen]
theorem as_flag_no (t : TypeId) (h : t ≠ 65) (v : Value) (xT : TypeId) (w : World) : (Instr.typeAssert (.iface t v) xT 65 true).run Tryz.prog w = .ok (.tuple #[.int .i64 0, .bool false]) w := by
  obtain ⟨i, hi, hz⟩ := Option.map_eq_some_iff.1 zero_flag
  simp [Instr.typeAssert, run_underlying Tryz.underlying65, go_sem, Result.andThen, zeroValue, typeInfo, hi, hz, h]

theorem zero_int : (Tryz.prog.info? 66).map (·.zero) = some (some (.int .i64 0)) := by kernel_rfl
theorem as_int_yes (v : Value) (xT : TypeId) (w : World) : (Instr.typeAssert (.iface 66 v) xT 66 true).run Tryz.prog w = .ok (.tuple #[v, .bool true]) w := by
  simp [Instr.typeAssert, run_underlying Tryz.underlying66, go_sem, Result.andThen]
theorem as_int_no (t : TypeId) (h : t ≠ 66) (v : Value) (xT : TypeId) (w : World) : (Instr.typeAssert (.iface t v) xT 66 true).run Tryz.prog w = .ok (.tuple #[.int .i64 0, .bool false]) w := by
  obtain ⟨i, hi, hz⟩ := Option.map_eq_some_iff.1 zero_int
  simp [Instr.typeAssert, run_underlying Tryz.underlying66, go_sem, Result.andThen, zeroValue, typeInfo, hi, hz, h]

theorem zero_text : (Tryz.prog.info? 68).map (·.zero) = some (some (.string ⟨#[]⟩)) := by kernel_rfl
theorem as_text_yes (v : Value) (xT : TypeId) (w : World) : (Instr.typeAssert (.iface 68 v) xT 68 true).run Tryz.prog w = .ok (.tuple #[v, .bool true]) w := by
  simp [Instr.typeAssert, run_underlying Tryz.underlying68, go_sem, Result.andThen]
theorem as_text_no (t : TypeId) (h : t ≠ 68) (v : Value) (xT : TypeId) (w : World) : (Instr.typeAssert (.iface t v) xT 68 true).run Tryz.prog w = .ok (.tuple #[.string ⟨#[]⟩, .bool false]) w := by
  obtain ⟨i, hi, hz⟩ := Option.map_eq_some_iff.1 zero_text
  simp [Instr.typeAssert, run_underlying Tryz.underlying68, go_sem, Result.andThen, zeroValue, typeInfo, hi, hz, h]

theorem zero_list : (Tryz.prog.info? 70).map (·.zero) = some (some (.slice none 0 0)) := by kernel_rfl
theorem as_list_yes (v : Value) (xT : TypeId) (w : World) : (Instr.typeAssert (.iface 70 v) xT 70 true).run Tryz.prog w = .ok (.tuple #[v, .bool true]) w := by
  simp [Instr.typeAssert, run_underlying Tryz.underlying70, go_sem, Result.andThen]
theorem as_list_no (t : TypeId) (h : t ≠ 70) (v : Value) (xT : TypeId) (w : World) : (Instr.typeAssert (.iface t v) xT 70 true).run Tryz.prog w = .ok (.tuple #[.slice none 0 0, .bool false]) w := by
  obtain ⟨i, hi, hz⟩ := Option.map_eq_some_iff.1 zero_list
  simp [Instr.typeAssert, run_underlying Tryz.underlying70, go_sem, Result.andThen, zeroValue, typeInfo, hi, hz, h]

theorem zero_map : (Tryz.prog.info? 74).map (·.zero) = some (some (.agg #[.slice none 0 0, .slice none 0 0])) := by kernel_rfl
theorem as_map_yes (v : Value) (xT : TypeId) (w : World) : (Instr.typeAssert (.iface 74 v) xT 74 true).run Tryz.prog w = .ok (.tuple #[v, .bool true]) w := by
  simp [Instr.typeAssert, run_underlying Tryz.underlying74, go_sem, Result.andThen]
theorem as_map_no (t : TypeId) (h : t ≠ 74) (v : Value) (xT : TypeId) (w : World) : (Instr.typeAssert (.iface t v) xT 74 true).run Tryz.prog w = .ok (.tuple #[.agg #[.slice none 0 0, .slice none 0 0], .bool false]) w := by
  obtain ⟨i, hi, hz⟩ := Option.map_eq_some_iff.1 zero_map
  simp [Instr.typeAssert, run_underlying Tryz.underlying74, go_sem, Result.andThen, zeroValue, typeInfo, hi, hz, h]

set_option maxHeartbeats 400000 in
theorem node_null (w : World) : Calls Tryz.prog 189 #[.agg #[]] w fun e w' => e = .returned (.agg #[.int .i64 0, .int .i64 0, .string ⟨#[]⟩, .slice none 0 0, .slice none 0 0]) ∧ Below w.heap.size w w' := by
  go_enter Tryz.func189, Tryz.ntmps189
  go_wp2
  have h1 := heap_last (w.alloc (Obj.cells #[] 107)) (Obj.cells #[.int .i64 0, .int .i64 0, .string ⟨#[]⟩, .slice none 0 0, .slice none 0 0] 27)
  have e1 : (w.alloc (Obj.cells #[] 107)).heap.size = w.heap.size + 1 := by simp
  rw [e1] at h1
  exact bodyPost_ret (ret_node Tryz.results189 rfl h1) rfl ⟨rfl, ((Below.refl _ w).alloc (Nat.le_refl _) _).alloc (by simp) _⟩

set_option maxHeartbeats 400000 in
theorem node_list (o : Option Addr) (l c : Nat) (w : World) : Calls Tryz.prog 186 #[.slice o l c] w fun e w' => e = .returned (.agg #[.int .i64 4, .int .i64 0, .string ⟨#[]⟩, .slice none 0 0, .slice o l c]) ∧ Below w.heap.size w w' := by
  go_enter Tryz.func186, Tryz.ntmps186
  go_wp2
  exact bodyPost_ret (ret_node Tryz.results186 rfl (heap_last w _)) rfl ⟨rfl, (Below.refl _ w).alloc (Nat.le_refl _) _⟩

set_option maxHeartbeats 400000 in
theorem node_map (ko o : Option Addr) (kl kc l c : Nat) (w : World) : Calls Tryz.prog 187 #[.agg #[.slice ko kl kc, .slice o l c]] w fun e w' => e = .returned (.agg #[.int .i64 5, .int .i64 0, .string ⟨#[]⟩, .slice ko kl kc, .slice o l c]) ∧ Below w.heap.size w w' := by
  go_enter Tryz.func187, Tryz.ntmps187
  go_wp2
  have h1 := heap_last (w.alloc (Obj.cells #[.slice ko kl kc, .slice o l c] 74)) (Obj.cells #[.int .i64 5, .int .i64 0, .string ⟨#[]⟩, .slice ko kl kc, .slice o l c] 27)
  have e1 : (w.alloc (Obj.cells #[.slice ko kl kc, .slice o l c] 74)).heap.size = w.heap.size + 1 := by simp
  rw [e1] at h1
  exact bodyPost_ret (ret_node Tryz.results187 rfl h1) rfl ⟨rfl, ((Below.refl _ w).alloc (Nat.le_refl _) _).alloc (by simp) _⟩

theorem meth_null (v : Value) (w : World) : (method 346 107 v "loop.example/g00465/impl.node").run Tryz.prog w = .ok (189, v) w := by kernel_rfl
theorem meth_flag (v : Value) (w : World) : (method 346 65 v "loop.example/g00465/impl.node").run Tryz.prog w = .ok (155, v) w := by kernel_rfl
theorem meth_int (v : Value) (w : World) : (method 346 66 v "loop.example/g00465/impl.node").run Tryz.prog w = .ok (154, v) w := by kernel_rfl
theorem meth_text (v : Value) (w : World) : (method 346 68 v "loop.example/g00465/impl.node").run Tryz.prog w = .ok (153, v) w := by kernel_rfl
theorem meth_list (v : Value) (w : World) : (method 346 70 v "loop.example/g00465/impl.node").run Tryz.prog w = .ok (186, v) w := by kernel_rfl
theorem meth_map (v : Value) (w : World) : (method 346 74 v "loop.example/g00465/impl.node").run Tryz.prog w = .ok (187, v) w := by kernel_rfl
end Go.Proofs.YtmcjghhmcmkomaaGreatDoor

/- the program's formOf, formOk and nodeOk, kind by kind. -/
namespace Go.Proofs.YtmcjghhmcmkomaaGreatDoor
open Go Go.RowKit

theorem empty_ne {s : ByteArray} (h : ¬ s = ⟨#[]⟩) : (s.toList == []) = false := by
  have := bytes_ne h
  simpa [ByteArray.toList_eq] using this

set_option maxRecDepth 100000 in
set_option maxHeartbeats 400000 in
theorem formOf_null (n : Int) (s : ByteArray) (ko o : Option Addr) (kl kc dl dc : Nat) (w : World) : Calls Tryz.prog 38 #[.agg #[.int .i64 0, .int .i64 n, .string s, .slice ko kl kc, .slice o dl dc]] w fun e w' => e = .returned (.tuple #[.iface 107 (.agg #[]), .bool true]) ∧ Below w.heap.size w w' := by
  go_enter Tryz.func38, Tryz.ntmps38
  go_wp2
  go_ret2
  exact ⟨rfl, (Below.refl _ w).alloc (Nat.le_refl _) _⟩

set_option maxRecDepth 100000 in
set_option maxHeartbeats 400000 in
theorem formOf_flag (n : Int) (s : ByteArray) (ko o : Option Addr) (kl kc dl dc : Nat) (w : World) : Calls Tryz.prog 38 #[.agg #[.int .i64 1, .int .i64 n, .string s, .slice ko kl kc, .slice o dl dc]] w fun e w' => e = .returned (.tuple #[.iface 65 (.int .i64 n), .bool true]) ∧ Below w.heap.size w w' := by
  go_enter Tryz.func38, Tryz.ntmps38
  go_wp2
  go_ret2
  exact ⟨rfl, (Below.refl _ w).alloc (Nat.le_refl _) _⟩

set_option maxRecDepth 100000 in
set_option maxHeartbeats 400000 in
theorem formOf_int (n : Int) (s : ByteArray) (ko o : Option Addr) (kl kc dl dc : Nat) (w : World) : Calls Tryz.prog 38 #[.agg #[.int .i64 2, .int .i64 n, .string s, .slice ko kl kc, .slice o dl dc]] w fun e w' => e = .returned (.tuple #[.iface 66 (.int .i64 n), .bool true]) ∧ Below w.heap.size w w' := by
  go_enter Tryz.func38, Tryz.ntmps38
  go_wp2
  go_ret2
  exact ⟨rfl, (Below.refl _ w).alloc (Nat.le_refl _) _⟩

set_option maxRecDepth 100000 in
set_option maxHeartbeats 400000 in
theorem formOf_text (n : Int) (s : ByteArray) (ko o : Option Addr) (kl kc dl dc : Nat) (w : World) : Calls Tryz.prog 38 #[.agg #[.int .i64 3, .int .i64 n, .string s, .slice ko kl kc, .slice o dl dc]] w fun e w' => e = .returned (.tuple #[.iface 68 (.string s), .bool true]) ∧ Below w.heap.size w w' := by
  go_enter Tryz.func38, Tryz.ntmps38
  go_wp2
  go_ret2
  exact ⟨rfl, (Below.refl _ w).alloc (Nat.le_refl _) _⟩

set_option maxRecDepth 100000 in
set_option maxHeartbeats 400000 in
theorem formOf_list (n : Int) (s : ByteArray) (ko o : Option Addr) (kl kc dl dc : Nat) (w : World) : Calls Tryz.prog 38 #[.agg #[.int .i64 4, .int .i64 n, .string s, .slice ko kl kc, .slice o dl dc]] w fun e w' => e = .returned (.tuple #[.iface 70 (.slice o dl dc), .bool true]) ∧ Below w.heap.size w w' := by
  go_enter Tryz.func38, Tryz.ntmps38
  go_wp2
  go_ret2
  exact ⟨rfl, (Below.refl _ w).alloc (Nat.le_refl _) _⟩

set_option maxRecDepth 100000 in
set_option maxHeartbeats 400000 in
theorem formOf_map (n : Int) (s : ByteArray) (ko o : Option Addr) (kl kc dl dc : Nat) (w : World) : Calls Tryz.prog 38 #[.agg #[.int .i64 5, .int .i64 n, .string s, .slice ko kl kc, .slice o dl dc]] w fun e w' => e = .returned (.tuple #[.iface 74 (.agg #[.slice ko kl kc, .slice o dl dc]), .bool true]) ∧ Below w.heap.size w w' := by
  go_enter Tryz.func38, Tryz.ntmps38
  go_wp2
  go_ret2
  exact ⟨rfl, (Below.refl _ w).alloc (Nat.le_refl _) _⟩

set_option maxRecDepth 100000 in
set_option maxHeartbeats 400000 in
theorem formOf_none (k : Int) (h0 : ¬ k = 0) (h1 : ¬ k = 1) (h2 : ¬ k = 2) (h3 : ¬ k = 3) (h4 : ¬ k = 4) (h5 : ¬ k = 5) (n : Int) (s : ByteArray) (ko o : Option Addr) (kl kc dl dc : Nat) (w : World) : Calls Tryz.prog 38 #[.agg #[.int .i64 k, .int .i64 n, .string s, .slice ko kl kc, .slice o dl dc]] w fun e w' => e = .returned (.tuple #[.nilIface, .bool false]) ∧ Below w.heap.size w w' := by
  go_enter Tryz.func38, Tryz.ntmps38
  go_wp2
  go_ret2
  exact ⟨rfl, (Below.refl _ w).alloc (Nat.le_refl _) _⟩

set_option maxRecDepth 100000 in
set_option maxHeartbeats 400000 in
theorem formOk_null  (w : World) : Calls Tryz.prog 102 #[.iface 107 (.agg #[])] w fun e w' => e = .returned (.bool true) ∧ Below w.heap.size w w' := by
  have a_null := as_null_yes
  have a_list := as_list_no 107 (by decide)
  go_enter Tryz.func102, Tryz.ntmps102
  go_wp2
  go_ret
  exact ⟨rfl, Below.refl _ _⟩

set_option maxRecDepth 100000 in
set_option maxHeartbeats 400000 in
theorem formOk_list (o : Option Addr) (dl dc : Nat) (w : World) : Calls Tryz.prog 102 #[.iface 70 (.slice o dl dc)] w fun e w' => e = .returned (.bool true) ∧ Below w.heap.size w w' := by
  have a_null := as_null_no 70 (by decide)
  have a_list := as_list_yes
  go_enter Tryz.func102, Tryz.ntmps102
  go_wp2
  go_ret
  exact ⟨rfl, Below.refl _ _⟩

set_option maxRecDepth 100000 in
set_option maxHeartbeats 400000 in
theorem formOk_flag0  (w : World) : Calls Tryz.prog 102 #[.iface 65 (.int .i64 0)] w fun e w' => e = .returned (.bool true) ∧ Below w.heap.size w w' := by
  have a_null := as_null_no 65 (by decide)
  have a_list := as_list_no 65 (by decide)
  have a_flag := as_flag_yes
  go_enter Tryz.func102, Tryz.ntmps102
  go_wp2
  go_ret
  exact ⟨rfl, Below.refl _ _⟩

set_option maxRecDepth 100000 in
set_option maxHeartbeats 400000 in
theorem formOk_flag1  (w : World) : Calls Tryz.prog 102 #[.iface 65 (.int .i64 1)] w fun e w' => e = .returned (.bool true) ∧ Below w.heap.size w w' := by
  have a_null := as_null_no 65 (by decide)
  have a_list := as_list_no 65 (by decide)
  have a_flag := as_flag_yes
  go_enter Tryz.func102, Tryz.ntmps102
  go_wp2
  go_ret
  exact ⟨rfl, Below.refl _ _⟩

set_option maxRecDepth 100000 in
set_option maxHeartbeats 400000 in
theorem formOk_flag_no (n : Int) (h0 : ¬ n = 0) (h1 : ¬ n = 1) (w : World) : Calls Tryz.prog 102 #[.iface 65 (.int .i64 n)] w fun e w' => e = .returned (.bool false) ∧ Below w.heap.size w w' := by
  have a_null := as_null_no 65 (by decide)
  have a_list := as_list_no 65 (by decide)
  have a_flag := as_flag_yes
  go_enter Tryz.func102, Tryz.ntmps102
  go_wp2
  go_ret
  exact ⟨ret_bool (by simp [h0, h1]), Below.refl _ _⟩

set_option maxRecDepth 100000 in
set_option maxHeartbeats 400000 in
theorem formOk_int_yes (n : Int) (h0 : -1000000000000 ≤ n) (h1 : n ≤ 1000000000000) (w : World) : Calls Tryz.prog 102 #[.iface 66 (.int .i64 n)] w fun e w' => e = .returned (.bool true) ∧ Below w.heap.size w w' := by
  have a_null := as_null_no 66 (by decide)
  have a_list := as_list_no 66 (by decide)
  have a_flag := as_flag_no 66 (by decide)
  have a_int := as_int_yes
  go_enter Tryz.func102, Tryz.ntmps102
  go_wp2
  go_ret
  exact ⟨rfl, Below.refl _ _⟩

set_option maxRecDepth 100000 in
set_option maxHeartbeats 400000 in
theorem formOk_int_low (n : Int) (h0 : ¬ -1000000000000 ≤ n) (w : World) : Calls Tryz.prog 102 #[.iface 66 (.int .i64 n)] w fun e w' => e = .returned (.bool false) ∧ Below w.heap.size w w' := by
  have a_null := as_null_no 66 (by decide)
  have a_list := as_list_no 66 (by decide)
  have a_flag := as_flag_no 66 (by decide)
  have a_int := as_int_yes
  go_enter Tryz.func102, Tryz.ntmps102
  go_wp2
  go_ret
  exact ⟨rfl, Below.refl _ _⟩

set_option maxRecDepth 100000 in
set_option maxHeartbeats 400000 in
theorem formOk_int_high (n : Int) (h0 : -1000000000000 ≤ n) (h1 : ¬ n ≤ 1000000000000) (w : World) : Calls Tryz.prog 102 #[.iface 66 (.int .i64 n)] w fun e w' => e = .returned (.bool false) ∧ Below w.heap.size w w' := by
  have a_null := as_null_no 66 (by decide)
  have a_list := as_list_no 66 (by decide)
  have a_flag := as_flag_no 66 (by decide)
  have a_int := as_int_yes
  go_enter Tryz.func102, Tryz.ntmps102
  go_wp2
  go_ret
  exact ⟨rfl, Below.refl _ _⟩

set_option maxRecDepth 100000 in
set_option maxHeartbeats 400000 in
theorem formOk_text (s : ByteArray) (hs : s.size ≤ maxLen) (w : World) : Calls Tryz.prog 102 #[.iface 68 (.string s)] w fun e w' => e = .returned (.bool (textOk s)) ∧ Below w.heap.size w w' := by
  have a_null := as_null_no 68 (by decide)
  have a_list := as_list_no 68 (by decide)
  have a_flag := as_flag_no 68 (by decide)
  have a_int := as_int_no 68 (by decide)
  have a_text := as_text_yes
  have HT := Lib.hid (impl_textOk s hs)
  clear hs
  go_enter Tryz.func102, Tryz.ntmps102
  go_wp2_with (first | (go_at_call 69; refine (HT.out _).mono ?_; rintro e w1 ⟨rfl, e1⟩; subst e1) | go_in)
  go_ret
  exact ⟨rfl, Below.refl _ _⟩

set_option maxRecDepth 100000 in
set_option maxHeartbeats 400000 in
theorem formOk_map_no (ko o : Option Addr) (kl kc dl dc : Nat) (h : ¬ (kl : Int) = dl) (w : World) : Calls Tryz.prog 102 #[.iface 74 (.agg #[.slice ko kl kc, .slice o dl dc])] w fun e w' => e = .returned (.bool false) ∧ Below w.heap.size w w' := by
  have a_null := as_null_no 74 (by decide)
  have a_list := as_list_no 74 (by decide)
  have a_flag := as_flag_no 74 (by decide)
  have a_int := as_int_no 74 (by decide)
  have a_text := as_text_no 74 (by decide)
  have a_map := as_map_yes
  go_enter Tryz.func102, Tryz.ntmps102
  go_wp2
  go_ret
  exact ⟨rfl, (Below.refl _ w).alloc (Nat.le_refl _) _⟩

set_option maxRecDepth 100000 in
set_option maxHeartbeats 400000 in
theorem formOk_map_yes (kv : Value) (keys : List ByteArray) (FK : List Nat) (o : Option Addr) (dc : Nat) (w : World) (hK : StrsAt w kv keys FK) : Calls Tryz.prog 102 #[.iface 74 (.agg #[kv, .slice o keys.length dc])] w fun e w' => e = .returned (.bool (keysOk keys)) ∧ Below w.heap.size w w' := by
  have HT := Lib.hid fun ob => impl_keysOk (w.alloc ob) (hK.stay ((Below.refl _ w).alloc (Nat.le_refl _) ob) (Nat.le_refl _))
  obtain ⟨ko, kc, rfl⟩ := hK.slice
  clear hK
  have a_null := as_null_no 74 (by decide)
  have a_list := as_list_no 74 (by decide)
  have a_flag := as_flag_no 74 (by decide)
  have a_int := as_int_no 74 (by decide)
  have a_text := as_text_no 74 (by decide)
  have a_map := as_map_yes
  go_enter Tryz.func102, Tryz.ntmps102
  go_wp2_with (first | (go_at_call 125; refine (HT.out _).mono ?_; rintro e w1 ⟨rfl, e1⟩; subst e1) | go_in)
  go_ret
  exact ⟨rfl, (Below.refl _ w).alloc (Nat.le_refl _) _⟩
end Go.Proofs.YtmcjghhmcmkomaaGreatDoor

/- the program's nodeOk tells of every null, flag and int alone whether it is as its kind has it. -/
namespace Go.Proofs.YtmcjghhmcmkomaaGreatDoor
open Go Go.RowKit

set_option maxRecDepth 100000 in
set_option maxHeartbeats 800000 in
theorem nodeOk_null_bad_n (n : Int) (s : ByteArray) (ko o : Option Addr) (kl kc dl dc : Nat) (w : World) (hn : ¬ n = 0) : Calls Tryz.prog 67 #[.agg #[.int .i64 0, .int .i64 n, .string s, .slice ko kl kc, .slice o dl dc]] w fun e w' => e = .returned (.bool false) ∧ Below w.heap.size w w' := by
  have B0 := Box.start w (.int .i64 0) (.int .i64 n) (.string s) (.slice ko kl kc) (.slice o dl dc) 27
  have HX := Lib.hid B0
  have HF := Lib.hid (formOf_null n s ko o kl kc dl dc)
  clear B0
  go_enter Tryz.func67, Tryz.ntmps67
  go_wp2_with fail
  refine (HF.out _).mono ?_
  rintro e w1 ⟨rfl, hb1⟩
  have HX1 := Lib.hid (HX.out.next hb1)
  clear hb1
  go_wp2_with fail
  refine (formOk_null _).mono ?_
  rintro e w2 ⟨rfl, hb2⟩
  have HX2 := Lib.hid (HX1.out.next hb2)
  have HM := meth_null
  clear hb2
  go_wp2_with fail
  refine (node_null _).mono ?_
  rintro e w3 ⟨rfl, hb3⟩
  have HX3 := HX2.out.next hb3
  have XA := Lib.hid fun ob => HX3.next ((Below.refl _ w3).alloc (Nat.le_refl _) ob)
  have HB := Lib.hid fun ob => (XA.out ob).below
  have x1 := fun ob => (XA.out ob).c1
  have x2 := fun ob => (XA.out ob).c2
  have x3 := fun ob => (XA.out ob).c3
  have x4 := fun ob => (XA.out ob).c4
  clear hb3 HX3
  go_wp2
  go_ret
  refine ⟨?_, HB.out _⟩
  first
    | rfl
    | exact ret_bool (by simp; omega)

set_option maxRecDepth 100000 in
set_option maxHeartbeats 800000 in
theorem nodeOk_null_bad_s (n : Int) (s : ByteArray) (ko o : Option Addr) (kl kc dl dc : Nat) (w : World) (en : n = 0) (hs : ¬ s = ⟨#[]⟩) : Calls Tryz.prog 67 #[.agg #[.int .i64 0, .int .i64 n, .string s, .slice ko kl kc, .slice o dl dc]] w fun e w' => e = .returned (.bool false) ∧ Below w.heap.size w w' := by
  have B0 := Box.start w (.int .i64 0) (.int .i64 n) (.string s) (.slice ko kl kc) (.slice o dl dc) 27
  have HX := Lib.hid B0
  have HF := Lib.hid (formOf_null n s ko o kl kc dl dc)
  have hs1 := bytes_ne hs
  have hs2 := empty_ne hs
  subst en
  clear B0
  go_enter Tryz.func67, Tryz.ntmps67
  go_wp2_with fail
  refine (HF.out _).mono ?_
  rintro e w1 ⟨rfl, hb1⟩
  have HX1 := Lib.hid (HX.out.next hb1)
  clear hb1
  go_wp2_with fail
  refine (formOk_null _).mono ?_
  rintro e w2 ⟨rfl, hb2⟩
  have HX2 := Lib.hid (HX1.out.next hb2)
  have HM := meth_null
  clear hb2
  go_wp2_with fail
  refine (node_null _).mono ?_
  rintro e w3 ⟨rfl, hb3⟩
  have HX3 := HX2.out.next hb3
  have XA := Lib.hid fun ob => HX3.next ((Below.refl _ w3).alloc (Nat.le_refl _) ob)
  have HB := Lib.hid fun ob => (XA.out ob).below
  have x1 := fun ob => (XA.out ob).c1
  have x2 := fun ob => (XA.out ob).c2
  have x3 := fun ob => (XA.out ob).c3
  have x4 := fun ob => (XA.out ob).c4
  clear hb3 HX3
  go_wp2
  go_ret
  refine ⟨?_, HB.out _⟩
  first
    | rfl
    | exact ret_bool (by simp; omega)

set_option maxRecDepth 100000 in
set_option maxHeartbeats 800000 in
theorem nodeOk_null_bad_k (n : Int) (s : ByteArray) (ko o : Option Addr) (kl kc dl dc : Nat) (w : World) (en : n = 0) (es : s = ⟨#[]⟩) (hk : ¬ (kl : Int) = 0) : Calls Tryz.prog 67 #[.agg #[.int .i64 0, .int .i64 n, .string s, .slice ko kl kc, .slice o dl dc]] w fun e w' => e = .returned (.bool false) ∧ Below w.heap.size w w' := by
  have B0 := Box.start w (.int .i64 0) (.int .i64 n) (.string s) (.slice ko kl kc) (.slice o dl dc) 27
  have HX := Lib.hid B0
  have HF := Lib.hid (formOf_null n s ko o kl kc dl dc)
  subst en
  subst es
  clear B0
  go_enter Tryz.func67, Tryz.ntmps67
  go_wp2_with fail
  refine (HF.out _).mono ?_
  rintro e w1 ⟨rfl, hb1⟩
  have HX1 := Lib.hid (HX.out.next hb1)
  clear hb1
  go_wp2_with fail
  refine (formOk_null _).mono ?_
  rintro e w2 ⟨rfl, hb2⟩
  have HX2 := Lib.hid (HX1.out.next hb2)
  have HM := meth_null
  clear hb2
  go_wp2_with fail
  refine (node_null _).mono ?_
  rintro e w3 ⟨rfl, hb3⟩
  have HX3 := HX2.out.next hb3
  have XA := Lib.hid fun ob => HX3.next ((Below.refl _ w3).alloc (Nat.le_refl _) ob)
  have HB := Lib.hid fun ob => (XA.out ob).below
  have x1 := fun ob => (XA.out ob).c1
  have x2 := fun ob => (XA.out ob).c2
  have x3 := fun ob => (XA.out ob).c3
  have x4 := fun ob => (XA.out ob).c4
  clear hb3 HX3
  go_wp2
  go_ret
  refine ⟨?_, HB.out _⟩
  first
    | rfl
    | exact ret_bool (by simp; omega)

set_option maxRecDepth 100000 in
set_option maxHeartbeats 800000 in
theorem nodeOk_null_bad_d (n : Int) (s : ByteArray) (ko o : Option Addr) (kl kc dl dc : Nat) (w : World) (en : n = 0) (es : s = ⟨#[]⟩) (ek : kl = 0) (hd : ¬ (dl : Int) = 0) : Calls Tryz.prog 67 #[.agg #[.int .i64 0, .int .i64 n, .string s, .slice ko kl kc, .slice o dl dc]] w fun e w' => e = .returned (.bool false) ∧ Below w.heap.size w w' := by
  have B0 := Box.start w (.int .i64 0) (.int .i64 n) (.string s) (.slice ko kl kc) (.slice o dl dc) 27
  have HX := Lib.hid B0
  have HF := Lib.hid (formOf_null n s ko o kl kc dl dc)
  subst en
  subst es
  subst ek
  clear B0
  go_enter Tryz.func67, Tryz.ntmps67
  go_wp2_with fail
  refine (HF.out _).mono ?_
  rintro e w1 ⟨rfl, hb1⟩
  have HX1 := Lib.hid (HX.out.next hb1)
  clear hb1
  go_wp2_with fail
  refine (formOk_null _).mono ?_
  rintro e w2 ⟨rfl, hb2⟩
  have HX2 := Lib.hid (HX1.out.next hb2)
  have HM := meth_null
  clear hb2
  go_wp2_with fail
  refine (node_null _).mono ?_
  rintro e w3 ⟨rfl, hb3⟩
  have HX3 := HX2.out.next hb3
  have XA := Lib.hid fun ob => HX3.next ((Below.refl _ w3).alloc (Nat.le_refl _) ob)
  have HB := Lib.hid fun ob => (XA.out ob).below
  have x1 := fun ob => (XA.out ob).c1
  have x2 := fun ob => (XA.out ob).c2
  have x3 := fun ob => (XA.out ob).c3
  have x4 := fun ob => (XA.out ob).c4
  clear hb3 HX3
  go_wp2
  go_ret
  refine ⟨?_, HB.out _⟩
  first
    | rfl
    | exact ret_bool (by simp; omega)

set_option maxRecDepth 100000 in
set_option maxHeartbeats 800000 in
theorem nodeOk_null_good (n : Int) (s : ByteArray) (ko o : Option Addr) (kl kc dl dc : Nat) (w : World) (en : n = 0) (es : s = ⟨#[]⟩) (ek : kl = 0) (ed : dl = 0) : Calls Tryz.prog 67 #[.agg #[.int .i64 0, .int .i64 n, .string s, .slice ko kl kc, .slice o dl dc]] w fun e w' => e = .returned (.bool true) ∧ Below w.heap.size w w' := by
  have B0 := Box.start w (.int .i64 0) (.int .i64 n) (.string s) (.slice ko kl kc) (.slice o dl dc) 27
  have HX := Lib.hid B0
  have HF := Lib.hid (formOf_null n s ko o kl kc dl dc)
  subst en
  subst es
  subst ek
  subst ed
  clear B0
  go_enter Tryz.func67, Tryz.ntmps67
  go_wp2_with fail
  refine (HF.out _).mono ?_
  rintro e w1 ⟨rfl, hb1⟩
  have HX1 := Lib.hid (HX.out.next hb1)
  clear hb1
  go_wp2_with fail
  refine (formOk_null _).mono ?_
  rintro e w2 ⟨rfl, hb2⟩
  have HX2 := Lib.hid (HX1.out.next hb2)
  have HM := meth_null
  clear hb2
  go_wp2_with fail
  refine (node_null _).mono ?_
  rintro e w3 ⟨rfl, hb3⟩
  have HX3 := HX2.out.next hb3
  have XA := Lib.hid fun ob => HX3.next ((Below.refl _ w3).alloc (Nat.le_refl _) ob)
  have HB := Lib.hid fun ob => (XA.out ob).below
  have x1 := fun ob => (XA.out ob).c1
  have x2 := fun ob => (XA.out ob).c2
  have x3 := fun ob => (XA.out ob).c3
  have x4 := fun ob => (XA.out ob).c4
  clear hb3 HX3
  go_wp2
  go_ret
  refine ⟨?_, HB.out _⟩
  first
    | rfl
    | exact ret_bool (by simp; omega)

set_option maxRecDepth 100000 in
set_option maxHeartbeats 800000 in
theorem nodeOk_flag_bad_s (n : Int) (s : ByteArray) (ko o : Option Addr) (kl kc dl dc : Nat) (w : World) (hf : n = 0 ∨ n = 1) (hs : ¬ s = ⟨#[]⟩) : Calls Tryz.prog 67 #[.agg #[.int .i64 1, .int .i64 n, .string s, .slice ko kl kc, .slice o dl dc]] w fun e w' => e = .returned (.bool false) ∧ Below w.heap.size w w' := by
  have B0 := Box.start w (.int .i64 1) (.int .i64 n) (.string s) (.slice ko kl kc) (.slice o dl dc) 27
  have HX := Lib.hid B0
  have HF := Lib.hid (formOf_flag n s ko o kl kc dl dc)
  have ff : ∀ w : World, Calls Tryz.prog 102 #[.iface 65 (.int .i64 n)] w fun e w' => e = .returned (.bool true) ∧ Below w.heap.size w w' := by
    rcases hf with e | e
    · subst e; exact formOk_flag0
    · subst e; exact formOk_flag1
  clear hf
  have hs1 := bytes_ne hs
  have hs2 := empty_ne hs
  clear B0
  go_enter Tryz.func67, Tryz.ntmps67
  go_wp2_with fail
  refine (HF.out _).mono ?_
  rintro e w1 ⟨rfl, hb1⟩
  have HX1 := Lib.hid (HX.out.next hb1)
  clear hb1
  go_wp2_with fail
  refine (ff _).mono ?_
  rintro e w2 ⟨rfl, hb2⟩
  have HX2 := Lib.hid (HX1.out.next hb2)
  have HM := meth_flag
  clear hb2
  go_wp2_with fail
  refine (node_flag n _).mono ?_
  rintro e w3 ⟨rfl, hb3⟩
  have HX3 := HX2.out.next hb3
  have XA := Lib.hid fun ob => HX3.next ((Below.refl _ w3).alloc (Nat.le_refl _) ob)
  have HB := Lib.hid fun ob => (XA.out ob).below
  have x1 := fun ob => (XA.out ob).c1
  have x2 := fun ob => (XA.out ob).c2
  have x3 := fun ob => (XA.out ob).c3
  have x4 := fun ob => (XA.out ob).c4
  clear hb3 HX3
  go_wp2
  go_ret
  refine ⟨?_, HB.out _⟩
  first
    | rfl
    | exact ret_bool (by simp; omega)

set_option maxRecDepth 100000 in
set_option maxHeartbeats 800000 in
theorem nodeOk_flag_bad_k (n : Int) (s : ByteArray) (ko o : Option Addr) (kl kc dl dc : Nat) (w : World) (hf : n = 0 ∨ n = 1) (es : s = ⟨#[]⟩) (hk : ¬ (kl : Int) = 0) : Calls Tryz.prog 67 #[.agg #[.int .i64 1, .int .i64 n, .string s, .slice ko kl kc, .slice o dl dc]] w fun e w' => e = .returned (.bool false) ∧ Below w.heap.size w w' := by
  have B0 := Box.start w (.int .i64 1) (.int .i64 n) (.string s) (.slice ko kl kc) (.slice o dl dc) 27
  have HX := Lib.hid B0
  have HF := Lib.hid (formOf_flag n s ko o kl kc dl dc)
  have ff : ∀ w : World, Calls Tryz.prog 102 #[.iface 65 (.int .i64 n)] w fun e w' => e = .returned (.bool true) ∧ Below w.heap.size w w' := by
    rcases hf with e | e
    · subst e; exact formOk_flag0
    · subst e; exact formOk_flag1
  clear hf
  subst es
  clear B0
  go_enter Tryz.func67, Tryz.ntmps67
  go_wp2_with fail
  refine (HF.out _).mono ?_
  rintro e w1 ⟨rfl, hb1⟩
  have HX1 := Lib.hid (HX.out.next hb1)
  clear hb1
  go_wp2_with fail
  refine (ff _).mono ?_
  rintro e w2 ⟨rfl, hb2⟩
  have HX2 := Lib.hid (HX1.out.next hb2)
  have HM := meth_flag
  clear hb2
  go_wp2_with fail
  refine (node_flag n _).mono ?_
  rintro e w3 ⟨rfl, hb3⟩
  have HX3 := HX2.out.next hb3
  have XA := Lib.hid fun ob => HX3.next ((Below.refl _ w3).alloc (Nat.le_refl _) ob)
  have HB := Lib.hid fun ob => (XA.out ob).below
  have x1 := fun ob => (XA.out ob).c1
  have x2 := fun ob => (XA.out ob).c2
  have x3 := fun ob => (XA.out ob).c3
  have x4 := fun ob => (XA.out ob).c4
  clear hb3 HX3
  go_wp2
  go_ret
  refine ⟨?_, HB.out _⟩
  first
    | rfl
    | exact ret_bool (by simp; omega)

set_option maxRecDepth 100000 in
set_option maxHeartbeats 800000 in
theorem nodeOk_flag_bad_d (n : Int) (s : ByteArray) (ko o : Option Addr) (kl kc dl dc : Nat) (w : World) (hf : n = 0 ∨ n = 1) (es : s = ⟨#[]⟩) (ek : kl = 0) (hd : ¬ (dl : Int) = 0) : Calls Tryz.prog 67 #[.agg #[.int .i64 1, .int .i64 n, .string s, .slice ko kl kc, .slice o dl dc]] w fun e w' => e = .returned (.bool false) ∧ Below w.heap.size w w' := by
  have B0 := Box.start w (.int .i64 1) (.int .i64 n) (.string s) (.slice ko kl kc) (.slice o dl dc) 27
  have HX := Lib.hid B0
  have HF := Lib.hid (formOf_flag n s ko o kl kc dl dc)
  have ff : ∀ w : World, Calls Tryz.prog 102 #[.iface 65 (.int .i64 n)] w fun e w' => e = .returned (.bool true) ∧ Below w.heap.size w w' := by
    rcases hf with e | e
    · subst e; exact formOk_flag0
    · subst e; exact formOk_flag1
  clear hf
  subst es
  subst ek
  clear B0
  go_enter Tryz.func67, Tryz.ntmps67
  go_wp2_with fail
  refine (HF.out _).mono ?_
  rintro e w1 ⟨rfl, hb1⟩
  have HX1 := Lib.hid (HX.out.next hb1)
  clear hb1
  go_wp2_with fail
  refine (ff _).mono ?_
  rintro e w2 ⟨rfl, hb2⟩
  have HX2 := Lib.hid (HX1.out.next hb2)
  have HM := meth_flag
  clear hb2
  go_wp2_with fail
  refine (node_flag n _).mono ?_
  rintro e w3 ⟨rfl, hb3⟩
  have HX3 := HX2.out.next hb3
  have XA := Lib.hid fun ob => HX3.next ((Below.refl _ w3).alloc (Nat.le_refl _) ob)
  have HB := Lib.hid fun ob => (XA.out ob).below
  have x1 := fun ob => (XA.out ob).c1
  have x2 := fun ob => (XA.out ob).c2
  have x3 := fun ob => (XA.out ob).c3
  have x4 := fun ob => (XA.out ob).c4
  clear hb3 HX3
  go_wp2
  go_ret
  refine ⟨?_, HB.out _⟩
  first
    | rfl
    | exact ret_bool (by simp; omega)

set_option maxRecDepth 100000 in
set_option maxHeartbeats 800000 in
theorem nodeOk_flag_good (n : Int) (s : ByteArray) (ko o : Option Addr) (kl kc dl dc : Nat) (w : World) (hf : n = 0 ∨ n = 1) (es : s = ⟨#[]⟩) (ek : kl = 0) (ed : dl = 0) : Calls Tryz.prog 67 #[.agg #[.int .i64 1, .int .i64 n, .string s, .slice ko kl kc, .slice o dl dc]] w fun e w' => e = .returned (.bool true) ∧ Below w.heap.size w w' := by
  have B0 := Box.start w (.int .i64 1) (.int .i64 n) (.string s) (.slice ko kl kc) (.slice o dl dc) 27
  have HX := Lib.hid B0
  have HF := Lib.hid (formOf_flag n s ko o kl kc dl dc)
  have ff : ∀ w : World, Calls Tryz.prog 102 #[.iface 65 (.int .i64 n)] w fun e w' => e = .returned (.bool true) ∧ Below w.heap.size w w' := by
    rcases hf with e | e
    · subst e; exact formOk_flag0
    · subst e; exact formOk_flag1
  clear hf
  subst es
  subst ek
  subst ed
  clear B0
  go_enter Tryz.func67, Tryz.ntmps67
  go_wp2_with fail
  refine (HF.out _).mono ?_
  rintro e w1 ⟨rfl, hb1⟩
  have HX1 := Lib.hid (HX.out.next hb1)
  clear hb1
  go_wp2_with fail
  refine (ff _).mono ?_
  rintro e w2 ⟨rfl, hb2⟩
  have HX2 := Lib.hid (HX1.out.next hb2)
  have HM := meth_flag
  clear hb2
  go_wp2_with fail
  refine (node_flag n _).mono ?_
  rintro e w3 ⟨rfl, hb3⟩
  have HX3 := HX2.out.next hb3
  have XA := Lib.hid fun ob => HX3.next ((Below.refl _ w3).alloc (Nat.le_refl _) ob)
  have HB := Lib.hid fun ob => (XA.out ob).below
  have x1 := fun ob => (XA.out ob).c1
  have x2 := fun ob => (XA.out ob).c2
  have x3 := fun ob => (XA.out ob).c3
  have x4 := fun ob => (XA.out ob).c4
  clear hb3 HX3
  go_wp2
  go_ret
  refine ⟨?_, HB.out _⟩
  first
    | rfl
    | exact ret_bool (by simp; omega)

set_option maxRecDepth 100000 in
set_option maxHeartbeats 800000 in
theorem nodeOk_flag_none (n : Int) (s : ByteArray) (ko o : Option Addr) (kl kc dl dc : Nat) (w : World) (h0 : ¬ n = 0) (h1 : ¬ n = 1) : Calls Tryz.prog 67 #[.agg #[.int .i64 1, .int .i64 n, .string s, .slice ko kl kc, .slice o dl dc]] w fun e w' => e = .returned (.bool false) ∧ Below w.heap.size w w' := by
  have B0 := Box.start w (.int .i64 1) (.int .i64 n) (.string s) (.slice ko kl kc) (.slice o dl dc) 27
  have HX := Lib.hid B0
  have HF := Lib.hid (formOf_flag n s ko o kl kc dl dc)
  clear B0
  go_enter Tryz.func67, Tryz.ntmps67
  go_wp2_with fail
  refine (HF.out _).mono ?_
  rintro e w1 ⟨rfl, hb1⟩
  have HX1 := Lib.hid (HX.out.next hb1)
  clear hb1
  go_wp2_with fail
  refine (formOk_flag_no n h0 h1 _).mono ?_
  rintro e w2 ⟨rfl, hb2⟩
  have HB := Lib.hid (HX1.out.next hb2).below
  clear hb2
  go_wp2
  go_ret
  exact ⟨rfl, HB.out⟩

set_option maxRecDepth 100000 in
set_option maxHeartbeats 800000 in
theorem nodeOk_int_bad_s (n : Int) (s : ByteArray) (ko o : Option Addr) (kl kc dl dc : Nat) (w : World) (h0 : -1000000000000 ≤ n) (h1 : n ≤ 1000000000000) (hs : ¬ s = ⟨#[]⟩) : Calls Tryz.prog 67 #[.agg #[.int .i64 2, .int .i64 n, .string s, .slice ko kl kc, .slice o dl dc]] w fun e w' => e = .returned (.bool false) ∧ Below w.heap.size w w' := by
  have B0 := Box.start w (.int .i64 2) (.int .i64 n) (.string s) (.slice ko kl kc) (.slice o dl dc) 27
  have HX := Lib.hid B0
  have HF := Lib.hid (formOf_int n s ko o kl kc dl dc)
  have hs1 := bytes_ne hs
  have hs2 := empty_ne hs
  clear B0
  go_enter Tryz.func67, Tryz.ntmps67
  go_wp2_with fail
  refine (HF.out _).mono ?_
  rintro e w1 ⟨rfl, hb1⟩
  have HX1 := Lib.hid (HX.out.next hb1)
  clear hb1
  go_wp2_with fail
  refine (formOk_int_yes n h0 h1 _).mono ?_
  rintro e w2 ⟨rfl, hb2⟩
  have HX2 := Lib.hid (HX1.out.next hb2)
  have HM := meth_int
  clear hb2
  go_wp2_with fail
  refine (node_int n _).mono ?_
  rintro e w3 ⟨rfl, hb3⟩
  have HX3 := HX2.out.next hb3
  have XA := Lib.hid fun ob => HX3.next ((Below.refl _ w3).alloc (Nat.le_refl _) ob)
  have HB := Lib.hid fun ob => (XA.out ob).below
  have x1 := fun ob => (XA.out ob).c1
  have x2 := fun ob => (XA.out ob).c2
  have x3 := fun ob => (XA.out ob).c3
  have x4 := fun ob => (XA.out ob).c4
  clear hb3 HX3
  go_wp2
  go_ret
  refine ⟨?_, HB.out _⟩
  first
    | rfl
    | exact ret_bool (by simp; omega)

set_option maxRecDepth 100000 in
set_option maxHeartbeats 800000 in
theorem nodeOk_int_bad_k (n : Int) (s : ByteArray) (ko o : Option Addr) (kl kc dl dc : Nat) (w : World) (h0 : -1000000000000 ≤ n) (h1 : n ≤ 1000000000000) (es : s = ⟨#[]⟩) (hk : ¬ (kl : Int) = 0) : Calls Tryz.prog 67 #[.agg #[.int .i64 2, .int .i64 n, .string s, .slice ko kl kc, .slice o dl dc]] w fun e w' => e = .returned (.bool false) ∧ Below w.heap.size w w' := by
  have B0 := Box.start w (.int .i64 2) (.int .i64 n) (.string s) (.slice ko kl kc) (.slice o dl dc) 27
  have HX := Lib.hid B0
  have HF := Lib.hid (formOf_int n s ko o kl kc dl dc)
  subst es
  clear B0
  go_enter Tryz.func67, Tryz.ntmps67
  go_wp2_with fail
  refine (HF.out _).mono ?_
  rintro e w1 ⟨rfl, hb1⟩
  have HX1 := Lib.hid (HX.out.next hb1)
  clear hb1
  go_wp2_with fail
  refine (formOk_int_yes n h0 h1 _).mono ?_
  rintro e w2 ⟨rfl, hb2⟩
  have HX2 := Lib.hid (HX1.out.next hb2)
  have HM := meth_int
  clear hb2
  go_wp2_with fail
  refine (node_int n _).mono ?_
  rintro e w3 ⟨rfl, hb3⟩
  have HX3 := HX2.out.next hb3
  have XA := Lib.hid fun ob => HX3.next ((Below.refl _ w3).alloc (Nat.le_refl _) ob)
  have HB := Lib.hid fun ob => (XA.out ob).below
  have x1 := fun ob => (XA.out ob).c1
  have x2 := fun ob => (XA.out ob).c2
  have x3 := fun ob => (XA.out ob).c3
  have x4 := fun ob => (XA.out ob).c4
  clear hb3 HX3
  go_wp2
  go_ret
  refine ⟨?_, HB.out _⟩
  first
    | rfl
    | exact ret_bool (by simp; omega)

set_option maxRecDepth 100000 in
set_option maxHeartbeats 800000 in
theorem nodeOk_int_bad_d (n : Int) (s : ByteArray) (ko o : Option Addr) (kl kc dl dc : Nat) (w : World) (h0 : -1000000000000 ≤ n) (h1 : n ≤ 1000000000000) (es : s = ⟨#[]⟩) (ek : kl = 0) (hd : ¬ (dl : Int) = 0) : Calls Tryz.prog 67 #[.agg #[.int .i64 2, .int .i64 n, .string s, .slice ko kl kc, .slice o dl dc]] w fun e w' => e = .returned (.bool false) ∧ Below w.heap.size w w' := by
  have B0 := Box.start w (.int .i64 2) (.int .i64 n) (.string s) (.slice ko kl kc) (.slice o dl dc) 27
  have HX := Lib.hid B0
  have HF := Lib.hid (formOf_int n s ko o kl kc dl dc)
  subst es
  subst ek
  clear B0
  go_enter Tryz.func67, Tryz.ntmps67
  go_wp2_with fail
  refine (HF.out _).mono ?_
  rintro e w1 ⟨rfl, hb1⟩
  have HX1 := Lib.hid (HX.out.next hb1)
  clear hb1
  go_wp2_with fail
  refine (formOk_int_yes n h0 h1 _).mono ?_
  rintro e w2 ⟨rfl, hb2⟩
  have HX2 := Lib.hid (HX1.out.next hb2)
  have HM := meth_int
  clear hb2
  go_wp2_with fail
  refine (node_int n _).mono ?_
  rintro e w3 ⟨rfl, hb3⟩
  have HX3 := HX2.out.next hb3
  have XA := Lib.hid fun ob => HX3.next ((Below.refl _ w3).alloc (Nat.le_refl _) ob)
  have HB := Lib.hid fun ob => (XA.out ob).below
  have x1 := fun ob => (XA.out ob).c1
  have x2 := fun ob => (XA.out ob).c2
  have x3 := fun ob => (XA.out ob).c3
  have x4 := fun ob => (XA.out ob).c4
  clear hb3 HX3
  go_wp2
  go_ret
  refine ⟨?_, HB.out _⟩
  first
    | rfl
    | exact ret_bool (by simp; omega)

set_option maxRecDepth 100000 in
set_option maxHeartbeats 800000 in
theorem nodeOk_int_good (n : Int) (s : ByteArray) (ko o : Option Addr) (kl kc dl dc : Nat) (w : World) (h0 : -1000000000000 ≤ n) (h1 : n ≤ 1000000000000) (es : s = ⟨#[]⟩) (ek : kl = 0) (ed : dl = 0) : Calls Tryz.prog 67 #[.agg #[.int .i64 2, .int .i64 n, .string s, .slice ko kl kc, .slice o dl dc]] w fun e w' => e = .returned (.bool true) ∧ Below w.heap.size w w' := by
  have B0 := Box.start w (.int .i64 2) (.int .i64 n) (.string s) (.slice ko kl kc) (.slice o dl dc) 27
  have HX := Lib.hid B0
  have HF := Lib.hid (formOf_int n s ko o kl kc dl dc)
  subst es
  subst ek
  subst ed
  clear B0
  go_enter Tryz.func67, Tryz.ntmps67
  go_wp2_with fail
  refine (HF.out _).mono ?_
  rintro e w1 ⟨rfl, hb1⟩
  have HX1 := Lib.hid (HX.out.next hb1)
  clear hb1
  go_wp2_with fail
  refine (formOk_int_yes n h0 h1 _).mono ?_
  rintro e w2 ⟨rfl, hb2⟩
  have HX2 := Lib.hid (HX1.out.next hb2)
  have HM := meth_int
  clear hb2
  go_wp2_with fail
  refine (node_int n _).mono ?_
  rintro e w3 ⟨rfl, hb3⟩
  have HX3 := HX2.out.next hb3
  have XA := Lib.hid fun ob => HX3.next ((Below.refl _ w3).alloc (Nat.le_refl _) ob)
  have HB := Lib.hid fun ob => (XA.out ob).below
  have x1 := fun ob => (XA.out ob).c1
  have x2 := fun ob => (XA.out ob).c2
  have x3 := fun ob => (XA.out ob).c3
  have x4 := fun ob => (XA.out ob).c4
  clear hb3 HX3
  go_wp2
  go_ret
  refine ⟨?_, HB.out _⟩
  first
    | rfl
    | exact ret_bool (by simp; omega)

set_option maxRecDepth 100000 in
set_option maxHeartbeats 800000 in
theorem nodeOk_int_low (n : Int) (s : ByteArray) (ko o : Option Addr) (kl kc dl dc : Nat) (w : World) (h0 : ¬ -1000000000000 ≤ n) : Calls Tryz.prog 67 #[.agg #[.int .i64 2, .int .i64 n, .string s, .slice ko kl kc, .slice o dl dc]] w fun e w' => e = .returned (.bool false) ∧ Below w.heap.size w w' := by
  have B0 := Box.start w (.int .i64 2) (.int .i64 n) (.string s) (.slice ko kl kc) (.slice o dl dc) 27
  have HX := Lib.hid B0
  have HF := Lib.hid (formOf_int n s ko o kl kc dl dc)
  clear B0
  go_enter Tryz.func67, Tryz.ntmps67
  go_wp2_with fail
  refine (HF.out _).mono ?_
  rintro e w1 ⟨rfl, hb1⟩
  have HX1 := Lib.hid (HX.out.next hb1)
  clear hb1
  go_wp2_with fail
  refine (formOk_int_low n (by omega) _).mono ?_
  rintro e w2 ⟨rfl, hb2⟩
  have HB := Lib.hid (HX1.out.next hb2).below
  clear hb2
  go_wp2
  go_ret
  exact ⟨rfl, HB.out⟩

set_option maxRecDepth 100000 in
set_option maxHeartbeats 800000 in
theorem nodeOk_int_high (n : Int) (s : ByteArray) (ko o : Option Addr) (kl kc dl dc : Nat) (w : World) (h0 : -1000000000000 ≤ n) (h1 : ¬ n ≤ 1000000000000) : Calls Tryz.prog 67 #[.agg #[.int .i64 2, .int .i64 n, .string s, .slice ko kl kc, .slice o dl dc]] w fun e w' => e = .returned (.bool false) ∧ Below w.heap.size w w' := by
  have B0 := Box.start w (.int .i64 2) (.int .i64 n) (.string s) (.slice ko kl kc) (.slice o dl dc) 27
  have HX := Lib.hid B0
  have HF := Lib.hid (formOf_int n s ko o kl kc dl dc)
  clear B0
  go_enter Tryz.func67, Tryz.ntmps67
  go_wp2_with fail
  refine (HF.out _).mono ?_
  rintro e w1 ⟨rfl, hb1⟩
  have HX1 := Lib.hid (HX.out.next hb1)
  clear hb1
  go_wp2_with fail
  refine (formOk_int_high n (by omega) (by omega) _).mono ?_
  rintro e w2 ⟨rfl, hb2⟩
  have HB := Lib.hid (HX1.out.next hb2).below
  clear hb2
  go_wp2
  go_ret
  exact ⟨rfl, HB.out⟩

end Go.Proofs.YtmcjghhmcmkomaaGreatDoor
