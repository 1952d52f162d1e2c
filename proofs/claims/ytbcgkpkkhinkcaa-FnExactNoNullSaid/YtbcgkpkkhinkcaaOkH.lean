/-
  What is proved: the program's formOf, formOk and nodeOk, kind by kind.
-/
import Derived.Test.YtbcgkpkkhinkcaaOkN
namespace Go.Proofs.Ytbcgkpkkhinkcaa
open Go Go.RowKit

theorem empty_ne {s : ByteArray} (h : ¬ s = ⟨#[]⟩) : (s.toList == []) = false := by
  have := bytes_ne h
  simpa [ByteArray.toList_eq] using this

set_option maxRecDepth 100000 in
set_option maxHeartbeats 400000 in
theorem formOf_null (n : Int) (s : ByteArray) (ko o : Option Addr) (kl kc dl dc : Nat) (w : World) : Calls Try.prog 55 #[.agg #[.int .i64 0, .int .i64 n, .string s, .slice ko kl kc, .slice o dl dc]] w fun e w' => e = .returned (.tuple #[.iface 72 (.agg #[]), .bool true]) ∧ Below w.heap.size w w' := by
  go_enter Try.func55, Try.ntmps55
  go_wp2
  go_ret2
  exact ⟨rfl, (Below.refl _ w).alloc (Nat.le_refl _) _⟩

set_option maxRecDepth 100000 in
set_option maxHeartbeats 400000 in
theorem formOf_flag (n : Int) (s : ByteArray) (ko o : Option Addr) (kl kc dl dc : Nat) (w : World) : Calls Try.prog 55 #[.agg #[.int .i64 1, .int .i64 n, .string s, .slice ko kl kc, .slice o dl dc]] w fun e w' => e = .returned (.tuple #[.iface 73 (.int .i64 n), .bool true]) ∧ Below w.heap.size w w' := by
  go_enter Try.func55, Try.ntmps55
  go_wp2
  go_ret2
  exact ⟨rfl, (Below.refl _ w).alloc (Nat.le_refl _) _⟩

set_option maxRecDepth 100000 in
set_option maxHeartbeats 400000 in
theorem formOf_int (n : Int) (s : ByteArray) (ko o : Option Addr) (kl kc dl dc : Nat) (w : World) : Calls Try.prog 55 #[.agg #[.int .i64 2, .int .i64 n, .string s, .slice ko kl kc, .slice o dl dc]] w fun e w' => e = .returned (.tuple #[.iface 74 (.int .i64 n), .bool true]) ∧ Below w.heap.size w w' := by
  go_enter Try.func55, Try.ntmps55
  go_wp2
  go_ret2
  exact ⟨rfl, (Below.refl _ w).alloc (Nat.le_refl _) _⟩

set_option maxRecDepth 100000 in
set_option maxHeartbeats 400000 in
theorem formOf_text (n : Int) (s : ByteArray) (ko o : Option Addr) (kl kc dl dc : Nat) (w : World) : Calls Try.prog 55 #[.agg #[.int .i64 3, .int .i64 n, .string s, .slice ko kl kc, .slice o dl dc]] w fun e w' => e = .returned (.tuple #[.iface 75 (.string s), .bool true]) ∧ Below w.heap.size w w' := by
  go_enter Try.func55, Try.ntmps55
  go_wp2
  go_ret2
  exact ⟨rfl, (Below.refl _ w).alloc (Nat.le_refl _) _⟩

set_option maxRecDepth 100000 in
set_option maxHeartbeats 400000 in
theorem formOf_list (n : Int) (s : ByteArray) (ko o : Option Addr) (kl kc dl dc : Nat) (w : World) : Calls Try.prog 55 #[.agg #[.int .i64 4, .int .i64 n, .string s, .slice ko kl kc, .slice o dl dc]] w fun e w' => e = .returned (.tuple #[.iface 76 (.slice o dl dc), .bool true]) ∧ Below w.heap.size w w' := by
  go_enter Try.func55, Try.ntmps55
  go_wp2
  go_ret2
  exact ⟨rfl, (Below.refl _ w).alloc (Nat.le_refl _) _⟩

set_option maxRecDepth 100000 in
set_option maxHeartbeats 400000 in
theorem formOf_map (n : Int) (s : ByteArray) (ko o : Option Addr) (kl kc dl dc : Nat) (w : World) : Calls Try.prog 55 #[.agg #[.int .i64 5, .int .i64 n, .string s, .slice ko kl kc, .slice o dl dc]] w fun e w' => e = .returned (.tuple #[.iface 78 (.agg #[.slice ko kl kc, .slice o dl dc]), .bool true]) ∧ Below w.heap.size w w' := by
  go_enter Try.func55, Try.ntmps55
  go_wp2
  go_ret2
  exact ⟨rfl, (Below.refl _ w).alloc (Nat.le_refl _) _⟩

set_option maxRecDepth 100000 in
set_option maxHeartbeats 400000 in
theorem formOf_none (k : Int) (h0 : ¬ k = 0) (h1 : ¬ k = 1) (h2 : ¬ k = 2) (h3 : ¬ k = 3) (h4 : ¬ k = 4) (h5 : ¬ k = 5) (n : Int) (s : ByteArray) (ko o : Option Addr) (kl kc dl dc : Nat) (w : World) : Calls Try.prog 55 #[.agg #[.int .i64 k, .int .i64 n, .string s, .slice ko kl kc, .slice o dl dc]] w fun e w' => e = .returned (.tuple #[.nilIface, .bool false]) ∧ Below w.heap.size w w' := by
  go_enter Try.func55, Try.ntmps55
  go_wp2
  go_ret2
  exact ⟨rfl, (Below.refl _ w).alloc (Nat.le_refl _) _⟩

set_option maxRecDepth 100000 in
set_option maxHeartbeats 400000 in
theorem formOk_null  (w : World) : Calls Try.prog 56 #[.iface 72 (.agg #[])] w fun e w' => e = .returned (.bool true) ∧ Below w.heap.size w w' := by
  have a_null := as_null_yes
  have a_list := as_list_no 72 (by decide)
  go_enter Try.func56, Try.ntmps56
  go_wp2
  go_ret
  exact ⟨rfl, Below.refl _ _⟩

set_option maxRecDepth 100000 in
set_option maxHeartbeats 400000 in
theorem formOk_list (o : Option Addr) (dl dc : Nat) (w : World) : Calls Try.prog 56 #[.iface 76 (.slice o dl dc)] w fun e w' => e = .returned (.bool true) ∧ Below w.heap.size w w' := by
  have a_null := as_null_no 76 (by decide)
  have a_list := as_list_yes
  go_enter Try.func56, Try.ntmps56
  go_wp2
  go_ret
  exact ⟨rfl, Below.refl _ _⟩

set_option maxRecDepth 100000 in
set_option maxHeartbeats 400000 in
theorem formOk_flag0  (w : World) : Calls Try.prog 56 #[.iface 73 (.int .i64 0)] w fun e w' => e = .returned (.bool true) ∧ Below w.heap.size w w' := by
  have a_null := as_null_no 73 (by decide)
  have a_list := as_list_no 73 (by decide)
  have a_flag := as_flag_yes
  go_enter Try.func56, Try.ntmps56
  go_wp2
  go_ret
  exact ⟨rfl, Below.refl _ _⟩

set_option maxRecDepth 100000 in
set_option maxHeartbeats 400000 in
theorem formOk_flag1  (w : World) : Calls Try.prog 56 #[.iface 73 (.int .i64 1)] w fun e w' => e = .returned (.bool true) ∧ Below w.heap.size w w' := by
  have a_null := as_null_no 73 (by decide)
  have a_list := as_list_no 73 (by decide)
  have a_flag := as_flag_yes
  go_enter Try.func56, Try.ntmps56
  go_wp2
  go_ret
  exact ⟨rfl, Below.refl _ _⟩

set_option maxRecDepth 100000 in
set_option maxHeartbeats 400000 in
theorem formOk_flag_no (n : Int) (h0 : ¬ n = 0) (h1 : ¬ n = 1) (w : World) : Calls Try.prog 56 #[.iface 73 (.int .i64 n)] w fun e w' => e = .returned (.bool false) ∧ Below w.heap.size w w' := by
  have a_null := as_null_no 73 (by decide)
  have a_list := as_list_no 73 (by decide)
  have a_flag := as_flag_yes
  go_enter Try.func56, Try.ntmps56
  go_wp2
  go_ret
  exact ⟨ret_bool (by simp [h0, h1]), Below.refl _ _⟩

set_option maxRecDepth 100000 in
set_option maxHeartbeats 400000 in
theorem formOk_int_yes (n : Int) (h0 : -1000000000000 ≤ n) (h1 : n ≤ 1000000000000) (w : World) : Calls Try.prog 56 #[.iface 74 (.int .i64 n)] w fun e w' => e = .returned (.bool true) ∧ Below w.heap.size w w' := by
  have a_null := as_null_no 74 (by decide)
  have a_list := as_list_no 74 (by decide)
  have a_flag := as_flag_no 74 (by decide)
  have a_int := as_int_yes
  go_enter Try.func56, Try.ntmps56
  go_wp2
  go_ret
  exact ⟨rfl, Below.refl _ _⟩

set_option maxRecDepth 100000 in
set_option maxHeartbeats 400000 in
theorem formOk_int_low (n : Int) (h0 : ¬ -1000000000000 ≤ n) (w : World) : Calls Try.prog 56 #[.iface 74 (.int .i64 n)] w fun e w' => e = .returned (.bool false) ∧ Below w.heap.size w w' := by
  have a_null := as_null_no 74 (by decide)
  have a_list := as_list_no 74 (by decide)
  have a_flag := as_flag_no 74 (by decide)
  have a_int := as_int_yes
  go_enter Try.func56, Try.ntmps56
  go_wp2
  go_ret
  exact ⟨rfl, Below.refl _ _⟩

set_option maxRecDepth 100000 in
set_option maxHeartbeats 400000 in
theorem formOk_int_high (n : Int) (h0 : -1000000000000 ≤ n) (h1 : ¬ n ≤ 1000000000000) (w : World) : Calls Try.prog 56 #[.iface 74 (.int .i64 n)] w fun e w' => e = .returned (.bool false) ∧ Below w.heap.size w w' := by
  have a_null := as_null_no 74 (by decide)
  have a_list := as_list_no 74 (by decide)
  have a_flag := as_flag_no 74 (by decide)
  have a_int := as_int_yes
  go_enter Try.func56, Try.ntmps56
  go_wp2
  go_ret
  exact ⟨rfl, Below.refl _ _⟩

set_option maxRecDepth 100000 in
set_option maxHeartbeats 400000 in
theorem formOk_text (s : ByteArray) (hs : s.size ≤ maxLen) (w : World) : Calls Try.prog 56 #[.iface 75 (.string s)] w fun e w' => e = .returned (.bool (textOk s)) ∧ Below w.heap.size w w' := by
  have a_null := as_null_no 75 (by decide)
  have a_list := as_list_no 75 (by decide)
  have a_flag := as_flag_no 75 (by decide)
  have a_int := as_int_no 75 (by decide)
  have a_text := as_text_yes
  have HT := Lib.hid (impl_textOk s hs)
  clear hs
  go_enter Try.func56, Try.ntmps56
  go_wp2_with (first | (go_at_call 59; refine (HT.out _).mono ?_; rintro e w1 ⟨rfl, e1⟩; subst e1) | go_in)
  go_ret
  exact ⟨rfl, Below.refl _ _⟩

set_option maxRecDepth 100000 in
set_option maxHeartbeats 400000 in
theorem formOk_map_no (ko o : Option Addr) (kl kc dl dc : Nat) (h : ¬ (kl : Int) = dl) (w : World) : Calls Try.prog 56 #[.iface 78 (.agg #[.slice ko kl kc, .slice o dl dc])] w fun e w' => e = .returned (.bool false) ∧ Below w.heap.size w w' := by
  have a_null := as_null_no 78 (by decide)
  have a_list := as_list_no 78 (by decide)
  have a_flag := as_flag_no 78 (by decide)
  have a_int := as_int_no 78 (by decide)
  have a_text := as_text_no 78 (by decide)
  have a_map := as_map_yes
  go_enter Try.func56, Try.ntmps56
  go_wp2
  go_ret
  exact ⟨rfl, (Below.refl _ w).alloc (Nat.le_refl _) _⟩

set_option maxRecDepth 100000 in
set_option maxHeartbeats 400000 in
theorem formOk_map_yes (kv : Value) (keys : List ByteArray) (FK : List Nat) (o : Option Addr) (dc : Nat) (w : World) (hK : StrsAt w kv keys FK) : Calls Try.prog 56 #[.iface 78 (.agg #[kv, .slice o keys.length dc])] w fun e w' => e = .returned (.bool (keysOk keys)) ∧ Below w.heap.size w w' := by
  have HT := Lib.hid fun ob => impl_keysOk (w.alloc ob) (hK.stay ((Below.refl _ w).alloc (Nat.le_refl _) ob) (Nat.le_refl _))
  obtain ⟨ko, kc, rfl⟩ := hK.slice
  clear hK
  have a_null := as_null_no 78 (by decide)
  have a_list := as_list_no 78 (by decide)
  have a_flag := as_flag_no 78 (by decide)
  have a_int := as_int_no 78 (by decide)
  have a_text := as_text_no 78 (by decide)
  have a_map := as_map_yes
  go_enter Try.func56, Try.ntmps56
  go_wp2_with (first | (go_at_call 60; refine (HT.out _).mono ?_; rintro e w1 ⟨rfl, e1⟩; subst e1) | go_in)
  go_ret
  exact ⟨rfl, (Below.refl _ w).alloc (Nat.le_refl _) _⟩
end Go.Proofs.Ytbcgkpkkhinkcaa
