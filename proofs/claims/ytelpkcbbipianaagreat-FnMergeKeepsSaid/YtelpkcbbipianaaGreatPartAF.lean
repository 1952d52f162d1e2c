/-
  What is proved: the program's nodeOk tells of every null, flag and int alone whether it is as its kind has it.; the program's nodeOk tells of every text, list, map and node of no kind alone whether it is as its kind has it.
-/
import Derived.Test.YtelpkcbbipianaaGreatPartAE
/- the program's nodeOk tells of every null, flag and int alone whether it is as its kind has it. -/
namespace Go.Proofs.YtelpkcbbipianaaGreat
open Go Go.RowKit

set_option maxRecDepth 100000 in
set_option maxHeartbeats 800000 in
theorem nodeOk_null_bad_n (n : Int) (s : ByteArray) (ko o : Option Addr) (kl kc dl dc : Nat) (w : World) (hn : ¬ n = 0) : Calls Tryz.prog 26 #[.agg #[.int .i64 0, .int .i64 n, .string s, .slice ko kl kc, .slice o dl dc]] w fun e w' => e = .returned (.bool false) ∧ Below w.heap.size w w' := by
  have B0 := Box.start w (.int .i64 0) (.int .i64 n) (.string s) (.slice ko kl kc) (.slice o dl dc) 27
  have HX := Lib.hid B0
  have HF := Lib.hid (formOf_null n s ko o kl kc dl dc)
  clear B0
  go_enter Tryz.func26, Tryz.ntmps26
  go_wp2_with fail
  refine (HF.out _).mono ?_
  rintro e w1 ⟨rfl, hb1⟩
  have HX1 := Lib.hid (HX.out.next hb1)
  clear hb1
  go_wp2_with fail
  refine (formOk_null _).mono ?_
  rintro e w2 ⟨rfl, hb2⟩
  have HX2 := Lib.hid (HX1.out.next hb2)
  have HM := meth_null
  clear hb2
  go_wp2_with fail
  refine (node_null _).mono ?_
  rintro e w3 ⟨rfl, hb3⟩
  have HX3 := HX2.out.next hb3
  have XA := Lib.hid fun ob => HX3.next ((Below.refl _ w3).alloc (Nat.le_refl _) ob)
  have HB := Lib.hid fun ob => (XA.out ob).below
  have x1 := fun ob => (XA.out ob).c1
  have x2 := fun ob => (XA.out ob).c2
  have x3 := fun ob => (XA.out ob).c3
  have x4 := fun ob => (XA.out ob).c4
  clear hb3 HX3
  go_wp2
  go_ret
  refine ⟨?_, HB.out _⟩
  first
    | rfl
    | exact ret_bool (by simp; omega)

set_option maxRecDepth 100000 in
set_option maxHeartbeats 800000 in
theorem nodeOk_null_bad_s (n : Int) (s : ByteArray) (ko o : Option Addr) (kl kc dl dc : Nat) (w : World) (en : n = 0) (hs : ¬ s = ⟨#[]⟩) : Calls Tryz.prog 26 #[.agg #[.int .i64 0, .int .i64 n, .string s, .slice ko kl kc, .slice o dl dc]] w fun e w' => e = .returned (.bool false) ∧ Below w.heap.size w w' := by
  have B0 := Box.start w (.int .i64 0) (.int .i64 n) (.string s) (.slice ko kl kc) (.slice o dl dc) 27
  have HX := Lib.hid B0
  have HF := Lib.hid (formOf_null n s ko o kl kc dl dc)
  have hs1 := bytes_ne hs
  have hs2 := empty_ne hs
  subst en
  clear B0
  go_enter Tryz.func26, Tryz.ntmps26
  go_wp2_with fail
  refine (HF.out _).mono ?_
  rintro e w1 ⟨rfl, hb1⟩
  have HX1 := Lib.hid (HX.out.next hb1)
  clear hb1
  go_wp2_with fail
  refine (formOk_null _).mono ?_
  rintro e w2 ⟨rfl, hb2⟩
  have HX2 := Lib.hid (HX1.out.next hb2)
  have HM := meth_null
  clear hb2
  go_wp2_with fail
  refine (node_null _).mono ?_
  rintro e w3 ⟨rfl, hb3⟩
  have HX3 := HX2.out.next hb3
  have XA := Lib.hid fun ob => HX3.next ((Below.refl _ w3).alloc (Nat.le_refl _) ob)
  have HB := Lib.hid fun ob => (XA.out ob).below
  have x1 := fun ob => (XA.out ob).c1
  have x2 := fun ob => (XA.out ob).c2
  have x3 := fun ob => (XA.out ob).c3
  have x4 := fun ob => (XA.out ob).c4
  clear hb3 HX3
  go_wp2
  go_ret
  refine ⟨?_, HB.out _⟩
  first
    | rfl
    | exact ret_bool (by simp; omega)

set_option maxRecDepth 100000 in
set_option maxHeartbeats 800000 in
theorem nodeOk_null_bad_k (n : Int) (s : ByteArray) (ko o : Option Addr) (kl kc dl dc : Nat) (w : World) (en : n = 0) (es : s = ⟨#[]⟩) (hk : ¬ (kl : Int) = 0) : Calls Tryz.prog 26 #[.agg #[.int .i64 0, .int .i64 n, .string s, .slice ko kl kc, .slice o dl dc]] w fun e w' => e = .returned (.bool false) ∧ Below w.heap.size w w' := by
  have B0 := Box.start w (.int .i64 0) (.int .i64 n) (.string s) (.slice ko kl kc) (.slice o dl dc) 27
  have HX := Lib.hid B0
  have HF := Lib.hid (formOf_null n s ko o kl kc dl dc)
  subst en
  subst es
  clear B0
  go_enter Tryz.func26, Tryz.ntmps26
  go_wp2_with fail
  refine (HF.out _).mono ?_
  rintro e w1 ⟨rfl, hb1⟩
  have HX1 := Lib.hid (HX.out.next hb1)
  clear hb1
  go_wp2_with fail
  refine (formOk_null _).mono ?_
  rintro e w2 ⟨rfl, hb2⟩
  have HX2 := Lib.hid (HX1.out.next hb2)
  have HM := meth_null
  clear hb2
  go_wp2_with fail
  refine (node_null _).mono ?_
  rintro e w3 ⟨rfl, hb3⟩
  have HX3 := HX2.out.next hb3
  have XA := Lib.hid fun ob => HX3.next ((Below.refl _ w3).alloc (Nat.le_refl _) ob)
  have HB := Lib.hid fun ob => (XA.out ob).below
  have x1 := fun ob => (XA.out ob).c1
  have x2 := fun ob => (XA.out ob).c2
  have x3 := fun ob => (XA.out ob).c3
  have x4 := fun ob => (XA.out ob).c4
  clear hb3 HX3
  go_wp2
  go_ret
  refine ⟨?_, HB.out _⟩
  first
    | rfl
    | exact ret_bool (by simp; omega)

set_option maxRecDepth 100000 in
set_option maxHeartbeats 800000 in
theorem nodeOk_null_bad_d (n : Int) (s : ByteArray) (ko o : Option Addr) (kl kc dl dc : Nat) (w : World) (en : n = 0) (es : s = ⟨#[]⟩) (ek : kl = 0) (hd : ¬ (dl : Int) = 0) : Calls Tryz.prog 26 #[.agg #[.int .i64 0, .int .i64 n, .string s, .slice ko kl kc, .slice o dl dc]] w fun e w' => e = .returned (.bool false) ∧ Below w.heap.size w w' := by
  have B0 := Box.start w (.int .i64 0) (.int .i64 n) (.string s) (.slice ko kl kc) (.slice o dl dc) 27
  have HX := Lib.hid B0
  have HF := Lib.hid (formOf_null n s ko o kl kc dl dc)
  subst en
  subst es
  subst ek
  clear B0
  go_enter Tryz.func26, Tryz.ntmps26
  go_wp2_with fail
  refine (HF.out _).mono ?_
  rintro e w1 ⟨rfl, hb1⟩
  have HX1 := Lib.hid (HX.out.next hb1)
  clear hb1
  go_wp2_with fail
  refine (formOk_null _).mono ?_
  rintro e w2 ⟨rfl, hb2⟩
  have HX2 := Lib.hid (HX1.out.next hb2)
  have HM := meth_null
  clear hb2
  go_wp2_with fail
  refine (node_null _).mono ?_
  rintro e w3 ⟨rfl, hb3⟩
  have HX3 := HX2.out.next hb3
  have XA := Lib.hid fun ob => HX3.next ((Below.refl _ w3).alloc (Nat.le_refl _) ob)
  have HB := Lib.hid fun ob => (XA.out ob).below
  have x1 := fun ob => (XA.out ob).c1
  have x2 := fun ob => (XA.out ob).c2
  have x3 := fun ob => (XA.out ob).c3
  have x4 := fun ob => (XA.out ob).c4
  clear hb3 HX3
  go_wp2
  go_ret
  refine ⟨?_, HB.out _⟩
  first
    | rfl
    | exact ret_bool (by simp; omega)

set_option maxRecDepth 100000 in
set_option maxHeartbeats 800000 in
theorem nodeOk_null_good (n : Int) (s : ByteArray) (ko o : Option Addr) (kl kc dl dc : Nat) (w : World) (en : n = 0) (es : s = ⟨#[]⟩) (ek : kl = 0) (ed : dl = 0) : Calls Tryz.prog 26 #[.agg #[.int .i64 0, .int .i64 n, .string s, .slice ko kl kc, .slice o dl dc]] w fun e w' => e = .returned (.bool true) ∧ Below w.heap.size w w' := by
  have B0 := Box.start w (.int .i64 0) (.int .i64 n) (.string s) (.slice ko kl kc) (.slice o dl dc) 27
  have HX := Lib.hid B0
  have HF := Lib.hid (formOf_null n s ko o kl kc dl dc)
  subst en
  subst es
  subst ek
  subst ed
  clear B0
  go_enter Tryz.func26, Tryz.ntmps26
  go_wp2_with fail
  refine (HF.out _).mono ?_
  rintro e w1 ⟨rfl, hb1⟩
  have HX1 := Lib.hid (HX.out.next hb1)
  clear hb1
  go_wp2_with fail
  refine (formOk_null _).mono ?_
  rintro e w2 ⟨rfl, hb2⟩
  have HX2 := Lib.hid (HX1.out.next hb2)
  have HM := meth_null
  clear hb2
  go_wp2_with fail
  refine (node_null _).mono ?_
  rintro e w3 ⟨rfl, hb3⟩
  have HX3 := HX2.out.next hb3
  have XA := Lib.hid fun ob => HX3.next ((Below.refl _ w3).alloc (Nat.le_refl _) ob)
  have HB := Lib.hid fun ob => (XA.out ob).below
  have x1 := fun ob => (XA.out ob).c1
  have x2 := fun ob => (XA.out ob).c2
  have x3 := fun ob => (XA.out ob).c3
  have x4 := fun ob => (XA.out ob).c4
  clear hb3 HX3
  go_wp2
  go_ret
  refine ⟨?_, HB.out _⟩
  first
    | rfl
    | exact ret_bool (by simp; omega)

set_option maxRecDepth 100000 in
set_option maxHeartbeats 800000 in
theorem nodeOk_flag_bad_s (n : Int) (s : ByteArray) (ko o : Option Addr) (kl kc dl dc : Nat) (w : World) (hf : n = 0 ∨ n = 1) (hs : ¬ s = ⟨#[]⟩) : Calls Tryz.prog 26 #[.agg #[.int .i64 1, .int .i64 n, .string s, .slice ko kl kc, .slice o dl dc]] w fun e w' => e = .returned (.bool false) ∧ Below w.heap.size w w' := by
  have B0 := Box.start w (.int .i64 1) (.int .i64 n) (.string s) (.slice ko kl kc) (.slice o dl dc) 27
  have HX := Lib.hid B0
  have HF := Lib.hid (formOf_flag n s ko o kl kc dl dc)
  have ff : ∀ w : World, Calls Tryz.prog 46 #[.iface 104 (.int .i64 n)] w fun e w' => e = .returned (.bool true) ∧ Below w.heap.size w w' := by
    rcases hf with e | e
    · subst e; exact formOk_flag0
    · subst e; exact formOk_flag1
  clear hf
  have hs1 := bytes_ne hs
  have hs2 := empty_ne hs
  clear B0
  go_enter Tryz.func26, Tryz.ntmps26
  go_wp2_with fail
  refine (HF.out _).mono ?_
  rintro e w1 ⟨rfl, hb1⟩
  have HX1 := Lib.hid (HX.out.next hb1)
  clear hb1
  go_wp2_with fail
  refine (ff _).mono ?_
  rintro e w2 ⟨rfl, hb2⟩
  have HX2 := Lib.hid (HX1.out.next hb2)
  have HM := meth_flag
  clear hb2
  go_wp2_with fail
  refine (node_flag n _).mono ?_
  rintro e w3 ⟨rfl, hb3⟩
  have HX3 := HX2.out.next hb3
  have XA := Lib.hid fun ob => HX3.next ((Below.refl _ w3).alloc (Nat.le_refl _) ob)
  have HB := Lib.hid fun ob => (XA.out ob).below
  have x1 := fun ob => (XA.out ob).c1
  have x2 := fun ob => (XA.out ob).c2
  have x3 := fun ob => (XA.out ob).c3
  have x4 := fun ob => (XA.out ob).c4
  clear hb3 HX3
  go_wp2
  go_ret
  refine ⟨?_, HB.out _⟩
  first
    | rfl
    | exact ret_bool (by simp; omega)

set_option maxRecDepth 100000 in
set_option maxHeartbeats 800000 in
theorem nodeOk_flag_bad_k (n : Int) (s : ByteArray) (ko o : Option Addr) (kl kc dl dc : Nat) (w : World) (hf : n = 0 ∨ n = 1) (es : s = ⟨#[]⟩) (hk : ¬ (kl : Int) = 0) : Calls Tryz.prog 26 #[.agg #[.int .i64 1, .int .i64 n, .string s, .slice ko kl kc, .slice o dl dc]] w fun e w' => e = .returned (.bool false) ∧ Below w.heap.size w w' := by
  have B0 := Box.start w (.int .i64 1) (.int .i64 n) (.string s) (.slice ko kl kc) (.slice o dl dc) 27
  have HX := Lib.hid B0
  have HF := Lib.hid (formOf_flag n s ko o kl kc dl dc)
  have ff : ∀ w : World, Calls Tryz.prog 46 #[.iface 104 (.int .i64 n)] w fun e w' => e = .returned (.bool true) ∧ Below w.heap.size w w' := by
    rcases hf with e | e
    · subst e; exact formOk_flag0
    · subst e; exact formOk_flag1
  clear hf
  subst es
  clear B0
  go_enter Tryz.func26, Tryz.ntmps26
  go_wp2_with fail
  refine (HF.out _).mono ?_
  rintro e w1 ⟨rfl, hb1⟩
  have HX1 := Lib.hid (HX.out.next hb1)
  clear hb1
  go_wp2_with fail
  refine (ff _).mono ?_
  rintro e w2 ⟨rfl, hb2⟩
  have HX2 := Lib.hid (HX1.out.next hb2)
  have HM := meth_flag
  clear hb2
  go_wp2_with fail
  refine (node_flag n _).mono ?_
  rintro e w3 ⟨rfl, hb3⟩
  have HX3 := HX2.out.next hb3
  have XA := Lib.hid fun ob => HX3.next ((Below.refl _ w3).alloc (Nat.le_refl _) ob)
  have HB := Lib.hid fun ob => (XA.out ob).below
  have x1 := fun ob => (XA.out ob).c1
  have x2 := fun ob => (XA.out ob).c2
  have x3 := fun ob => (XA.out ob).c3
  have x4 := fun ob => (XA.out ob).c4
  clear hb3 HX3
  go_wp2
  go_ret
  refine ⟨?_, HB.out _⟩
  first
    | rfl
    | exact ret_bool (by simp; omega)

set_option maxRecDepth 100000 in
set_option maxHeartbeats 800000 in
theorem nodeOk_flag_bad_d (n : Int) (s : ByteArray) (ko o : Option Addr) (kl kc dl dc : Nat) (w : World) (hf : n = 0 ∨ n = 1) (es : s = ⟨#[]⟩) (ek : kl = 0) (hd : ¬ (dl : Int) = 0) : Calls Tryz.prog 26 #[.agg #[.int .i64 1, .int .i64 n, .string s, .slice ko kl kc, .slice o dl dc]] w fun e w' => e = .returned (.bool false) ∧ Below w.heap.size w w' := by
  have B0 := Box.start w (.int .i64 1) (.int .i64 n) (.string s) (.slice ko kl kc) (.slice o dl dc) 27
  have HX := Lib.hid B0
  have HF := Lib.hid (formOf_flag n s ko o kl kc dl dc)
  have ff : ∀ w : World, Calls Tryz.prog 46 #[.iface 104 (.int .i64 n)] w fun e w' => e = .returned (.bool true) ∧ Below w.heap.size w w' := by
    rcases hf with e | e
    · subst e; exact formOk_flag0
    · subst e; exact formOk_flag1
  clear hf
  subst es
  subst ek
  clear B0
  go_enter Tryz.func26, Tryz.ntmps26
  go_wp2_with fail
  refine (HF.out _).mono ?_
  rintro e w1 ⟨rfl, hb1⟩
  have HX1 := Lib.hid (HX.out.next hb1)
  clear hb1
  go_wp2_with fail
  refine (ff _).mono ?_
  rintro e w2 ⟨rfl, hb2⟩
  have HX2 := Lib.hid (HX1.out.next hb2)
  have HM := meth_flag
  clear hb2
  go_wp2_with fail
  refine (node_flag n _).mono ?_
  rintro e w3 ⟨rfl, hb3⟩
  have HX3 := HX2.out.next hb3
  have XA := Lib.hid fun ob => HX3.next ((Below.refl _ w3).alloc (Nat.le_refl _) ob)
  have HB := Lib.hid fun ob => (XA.out ob).below
  have x1 := fun ob => (XA.out ob).c1
  have x2 := fun ob => (XA.out ob).c2
  have x3 := fun ob => (XA.out ob).c3
  have x4 := fun ob => (XA.out ob).c4
  clear hb3 HX3
  go_wp2
  go_ret
  refine ⟨?_, HB.out _⟩
  first
    | rfl
    | exact ret_bool (by simp; omega)

set_option maxRecDepth 100000 in
set_option maxHeartbeats 800000 in
theorem nodeOk_flag_good (n : Int) (s : ByteArray) (ko o : Option Addr) (kl kc dl dc : Nat) (w : World) (hf : n = 0 ∨ n = 1) (es : s = ⟨#[]⟩) (ek : kl = 0) (ed : dl = 0) : Calls Tryz.prog 26 #[.agg #[.int .i64 1, .int .i64 n, .string s, .slice ko kl kc, .slice o dl dc]] w fun e w' => e = .returned (.bool true) ∧ Below w.heap.size w w' := by
  have B0 := Box.start w (.int .i64 1) (.int .i64 n) (.string s) (.slice ko kl kc) (.slice o dl dc) 27
  have HX := Lib.hid B0
  have HF := Lib.hid (formOf_flag n s ko o kl kc dl dc)
  have ff : ∀ w : World, Calls Tryz.prog 46 #[.iface 104 (.int .i64 n)] w fun e w' => e = .returned (.bool true) ∧ Below w.heap.size w w' := by
    rcases hf with e | e
    · subst e; exact formOk_flag0
    · subst e; exact formOk_flag1
  clear hf
  subst es
  subst ek
  subst ed
  clear B0
  go_enter Tryz.func26, Tryz.ntmps26
  go_wp2_with fail
  refine (HF.out _).mono ?_
  rintro e w1 ⟨rfl, hb1⟩
  have HX1 := Lib.hid (HX.out.next hb1)
  clear hb1
  go_wp2_with fail
  refine (ff _).mono ?_
  rintro e w2 ⟨rfl, hb2⟩
  have HX2 := Lib.hid (HX1.out.next hb2)
  have HM := meth_flag
  clear hb2
  go_wp2_with fail
  refine (node_flag n _).mono ?_
  rintro e w3 ⟨rfl, hb3⟩
  have HX3 := HX2.out.next hb3
  have XA := Lib.hid fun ob => HX3.next ((Below.refl _ w3).alloc (Nat.le_refl _) ob)
  have HB := Lib.hid fun ob => (XA.out ob).below
  have x1 := fun ob => (XA.out ob).c1
  have x2 := fun ob => (XA.out ob).c2
  have x3 := fun ob => (XA.out ob).c3
  have x4 := fun ob => (XA.out ob).c4
  clear hb3 HX3
  go_wp2
  go_ret
  refine ⟨?_, HB.out _⟩
  first
    | rfl
    | exact ret_bool (by simp; omega)

set_option maxRecDepth 100000 in
set_option maxHeartbeats 800000 in
theorem nodeOk_flag_none (n : Int) (s : ByteArray) (ko o : Option Addr) (kl kc dl dc : Nat) (w : World) (h0 : ¬ n = 0) (h1 : ¬ n = 1) : Calls Tryz.prog 26 #[.agg #[.int .i64 1, .int .i64 n, .string s, .slice ko kl kc, .slice o dl dc]] w fun e w' => e = .returned (.bool false) ∧ Below w.heap.size w w' := by
  have B0 := Box.start w (.int .i64 1) (.int .i64 n) (.string s) (.slice ko kl kc) (.slice o dl dc) 27
  have HX := Lib.hid B0
  have HF := Lib.hid (formOf_flag n s ko o kl kc dl dc)
  clear B0
  go_enter Tryz.func26, Tryz.ntmps26
  go_wp2_with fail
  refine (HF.out _).mono ?_
  rintro e w1 ⟨rfl, hb1⟩
  have HX1 := Lib.hid (HX.out.next hb1)
  clear hb1
  go_wp2_with fail
  refine (formOk_flag_no n h0 h1 _).mono ?_
  rintro e w2 ⟨rfl, hb2⟩
  have HB := Lib.hid (HX1.out.next hb2).below
  clear hb2
  go_wp2
  go_ret
  exact ⟨rfl, HB.out⟩

set_option maxRecDepth 100000 in
set_option maxHeartbeats 800000 in
theorem nodeOk_int_bad_s (n : Int) (s : ByteArray) (ko o : Option Addr) (kl kc dl dc : Nat) (w : World) (h0 : -1000000000000 ≤ n) (h1 : n ≤ 1000000000000) (hs : ¬ s = ⟨#[]⟩) : Calls Tryz.prog 26 #[.agg #[.int .i64 2, .int .i64 n, .string s, .slice ko kl kc, .slice o dl dc]] w fun e w' => e = .returned (.bool false) ∧ Below w.heap.size w w' := by
  have B0 := Box.start w (.int .i64 2) (.int .i64 n) (.string s) (.slice ko kl kc) (.slice o dl dc) 27
  have HX := Lib.hid B0
  have HF := Lib.hid (formOf_int n s ko o kl kc dl dc)
  have hs1 := bytes_ne hs
  have hs2 := empty_ne hs
  clear B0
  go_enter Tryz.func26, Tryz.ntmps26
  go_wp2_with fail
  refine (HF.out _).mono ?_
  rintro e w1 ⟨rfl, hb1⟩
  have HX1 := Lib.hid (HX.out.next hb1)
  clear hb1
  go_wp2_with fail
  refine (formOk_int_yes n h0 h1 _).mono ?_
  rintro e w2 ⟨rfl, hb2⟩
  have HX2 := Lib.hid (HX1.out.next hb2)
  have HM := meth_int
  clear hb2
  go_wp2_with fail
  refine (node_int n _).mono ?_
  rintro e w3 ⟨rfl, hb3⟩
  have HX3 := HX2.out.next hb3
  have XA := Lib.hid fun ob => HX3.next ((Below.refl _ w3).alloc (Nat.le_refl _) ob)
  have HB := Lib.hid fun ob => (XA.out ob).below
  have x1 := fun ob => (XA.out ob).c1
  have x2 := fun ob => (XA.out ob).c2
  have x3 := fun ob => (XA.out ob).c3
  have x4 := fun ob => (XA.out ob).c4
  clear hb3 HX3
  go_wp2
  go_ret
  refine ⟨?_, HB.out _⟩
  first
    | rfl
    | exact ret_bool (by simp; omega)

set_option maxRecDepth 100000 in
set_option maxHeartbeats 800000 in
theorem nodeOk_int_bad_k (n : Int) (s : ByteArray) (ko o : Option Addr) (kl kc dl dc : Nat) (w : World) (h0 : -1000000000000 ≤ n) (h1 : n ≤ 1000000000000) (es : s = ⟨#[]⟩) (hk : ¬ (kl : Int) = 0) : Calls Tryz.prog 26 #[.agg #[.int .i64 2, .int .i64 n, .string s, .slice ko kl kc, .slice o dl dc]] w fun e w' => e = .returned (.bool false) ∧ Below w.heap.size w w' := by
  have B0 := Box.start w (.int .i64 2) (.int .i64 n) (.string s) (.slice ko kl kc) (.slice o dl dc) 27
  have HX := Lib.hid B0
  have HF := Lib.hid (formOf_int n s ko o kl kc dl dc)
  subst es
  clear B0
  go_enter Tryz.func26, Tryz.ntmps26
  go_wp2_with fail
  refine (HF.out _).mono ?_
  rintro e w1 ⟨rfl, hb1⟩
  have HX1 := Lib.hid (HX.out.next hb1)
  clear hb1
  go_wp2_with fail
  refine (formOk_int_yes n h0 h1 _).mono ?_
  rintro e w2 ⟨rfl, hb2⟩
  have HX2 := Lib.hid (HX1.out.next hb2)
  have HM := meth_int
  clear hb2
  go_wp2_with fail
  refine (node_int n _).mono ?_
  rintro e w3 ⟨rfl, hb3⟩
  have HX3 := HX2.out.next hb3
  have XA := Lib.hid fun ob => HX3.next ((Below.refl _ w3).alloc (Nat.le_refl _) ob)
  have HB := Lib.hid fun ob => (XA.out ob).below
  have x1 := fun ob => (XA.out ob).c1
  have x2 := fun ob => (XA.out ob).c2
  have x3 := fun ob => (XA.out ob).c3
  have x4 := fun ob => (XA.out ob).c4
  clear hb3 HX3
  go_wp2
  go_ret
  refine ⟨?_, HB.out _⟩
  first
    | rfl
    | exact ret_bool (by simp; omega)

set_option maxRecDepth 100000 in
set_option maxHeartbeats 800000 in
theorem nodeOk_int_bad_d (n : Int) (s : ByteArray) (ko o : Option Addr) (kl kc dl dc : Nat) (w : World) (h0 : -1000000000000 ≤ n) (h1 : n ≤ 1000000000000) (es : s = ⟨#[]⟩) (ek : kl = 0) (hd : ¬ (dl : Int) = 0) : Calls Tryz.prog 26 #[.agg #[.int .i64 2, .int .i64 n, .string s, .slice ko kl kc, .slice o dl dc]] w fun e w' => e = .returned (.bool false) ∧ Below w.heap.size w w' := by
  have B0 := Box.start w (.int .i64 2) (.int .i64 n) (.string s) (.slice ko kl kc) (.slice o dl dc) 27
  have HX := Lib.hid B0
  have HF := Lib.hid (formOf_int n s ko o kl kc dl dc)
  subst es
  subst ek
  clear B0
  go_enter Tryz.func26, Tryz.ntmps26
  go_wp2_with fail
  refine (HF.out _).mono ?_
  rintro e w1 ⟨rfl, hb1⟩
  have HX1 := Lib.hid (HX.out.next hb1)
  clear hb1
  go_wp2_with fail
  refine (formOk_int_yes n h0 h1 _).mono ?_
  rintro e w2 ⟨rfl, hb2⟩
  have HX2 := Lib.hid (HX1.out.next hb2)
  have HM := meth_int
  clear hb2
  go_wp2_with fail
  refine (node_int n _).mono ?_
  rintro e w3 ⟨rfl, hb3⟩
  have HX3 := HX2.out.next hb3
  have XA := Lib.hid fun ob => HX3.next ((Below.refl _ w3).alloc (Nat.le_refl _) ob)
  have HB := Lib.hid fun ob => (XA.out ob).below
  have x1 := fun ob => (XA.out ob).c1
  have x2 := fun ob => (XA.out ob).c2
  have x3 := fun ob => (XA.out ob).c3
  have x4 := fun ob => (XA.out ob).c4
  clear hb3 HX3
  go_wp2
  go_ret
  refine ⟨?_, HB.out _⟩
  first
    | rfl
    | exact ret_bool (by simp; omega)

set_option maxRecDepth 100000 in
set_option maxHeartbeats 800000 in
theorem nodeOk_int_good (n : Int) (s : ByteArray) (ko o : Option Addr) (kl kc dl dc : Nat) (w : World) (h0 : -1000000000000 ≤ n) (h1 : n ≤ 1000000000000) (es : s = ⟨#[]⟩) (ek : kl = 0) (ed : dl = 0) : Calls Tryz.prog 26 #[.agg #[.int .i64 2, .int .i64 n, .string s, .slice ko kl kc, .slice o dl dc]] w fun e w' => e = .returned (.bool true) ∧ Below w.heap.size w w' := by
  have B0 := Box.start w (.int .i64 2) (.int .i64 n) (.string s) (.slice ko kl kc) (.slice o dl dc) 27
  have HX := Lib.hid B0
  have HF := Lib.hid (formOf_int n s ko o kl kc dl dc)
  subst es
  subst ek
  subst ed
  clear B0
  go_enter Tryz.func26, Tryz.ntmps26
  go_wp2_with fail
  refine (HF.out _).mono ?_
  rintro e w1 ⟨rfl, hb1⟩
  have HX1 := Lib.hid (HX.out.next hb1)
  clear hb1
  go_wp2_with fail
  refine (formOk_int_yes n h0 h1 _).mono ?_
  rintro e w2 ⟨rfl, hb2⟩
  have HX2 := Lib.hid (HX1.out.next hb2)
  have HM := meth_int
  clear hb2
  go_wp2_with fail
  refine (node_int n _).mono ?_
  rintro e w3 ⟨rfl, hb3⟩
  have HX3 := HX2.out.next hb3
  have XA := Lib.hid fun ob => HX3.next ((Below.refl _ w3).alloc (Nat.le_refl _) ob)
  have HB := Lib.hid fun ob => (XA.out ob).below
  have x1 := fun ob => (XA.out ob).c1
  have x2 := fun ob => (XA.out ob).c2
  have x3 := fun ob => (XA.out ob).c3
  have x4 := fun ob => (XA.out ob).c4
  clear hb3 HX3
  go_wp2
  go_ret
  refine ⟨?_, HB.out _⟩
  first
    | rfl
    | exact ret_bool (by simp; omega)

set_option maxRecDepth 100000 in
set_option maxHeartbeats 800000 in
theorem nodeOk_int_low (n : Int) (s : ByteArray) (ko o : Option Addr) (kl kc dl dc : Nat) (w : World) (h0 : ¬ -1000000000000 ≤ n) : Calls Tryz.prog 26 #[.agg #[.int .i64 2, .int .i64 n, .string s, .slice ko kl kc, .slice o dl dc]] w fun e w' => e = .returned (.bool false) ∧ Below w.heap.size w w' := by
  have B0 := Box.start w (.int .i64 2) (.int .i64 n) (.string s) (.slice ko kl kc) (.slice o dl dc) 27
  have HX := Lib.hid B0
  have HF := Lib.hid (formOf_int n s ko o kl kc dl dc)
  clear B0
  go_enter Tryz.func26, Tryz.ntmps26
  go_wp2_with fail
  refine (HF.out _).mono ?_
  rintro e w1 ⟨rfl, hb1⟩
  have HX1 := Lib.hid (HX.out.next hb1)
  clear hb1
  go_wp2_with fail
  refine (formOk_int_low n (by omega) _).mono ?_
  rintro e w2 ⟨rfl, hb2⟩
  have HB := Lib.hid (HX1.out.next hb2).below
  clear hb2
  go_wp2
  go_ret
  exact ⟨rfl, HB.out⟩

set_option maxRecDepth 100000 in
set_option maxHeartbeats 800000 in
theorem nodeOk_int_high (n : Int) (s : ByteArray) (ko o : Option Addr) (kl kc dl dc : Nat) (w : World) (h0 : -1000000000000 ≤ n) (h1 : ¬ n ≤ 1000000000000) : Calls Tryz.prog 26 #[.agg #[.int .i64 2, .int .i64 n, .string s, .slice ko kl kc, .slice o dl dc]] w fun e w' => e = .returned (.bool false) ∧ Below w.heap.size w w' := by
  have B0 := Box.start w (.int .i64 2) (.int .i64 n) (.string s) (.slice ko kl kc) (.slice o dl dc) 27
  have HX := Lib.hid B0
  have HF := Lib.hid (formOf_int n s ko o kl kc dl dc)
  clear B0
  go_enter Tryz.func26, Tryz.ntmps26
  go_wp2_with fail
  refine (HF.out _).mono ?_
  rintro e w1 ⟨rfl, hb1⟩
  have HX1 := Lib.hid (HX.out.next hb1)
  clear hb1
  go_wp2_with fail
  refine (formOk_int_high n (by omega) (by omega) _).mono ?_
  rintro e w2 ⟨rfl, hb2⟩
  have HB := Lib.hid (HX1.out.next hb2).below
  clear hb2
  go_wp2
  go_ret
  exact ⟨rfl, HB.out⟩

end Go.Proofs.YtelpkcbbipianaaGreat

/- the program's nodeOk tells of every text, list, map and node of no kind alone whether it is as its kind has it. -/
namespace Go.Proofs.YtelpkcbbipianaaGreat
open Go Go.RowKit

set_option maxRecDepth 100000 in
set_option maxHeartbeats 800000 in
theorem nodeOk_text_bad_n (n : Int) (s : ByteArray) (ko o : Option Addr) (kl kc dl dc : Nat) (w : World) (hm : s.size ≤ maxLen) (ht : textOk s = true) (hn : ¬ n = 0) : Calls Tryz.prog 26 #[.agg #[.int .i64 3, .int .i64 n, .string s, .slice ko kl kc, .slice o dl dc]] w fun e w' => e = .returned (.bool false) ∧ Below w.heap.size w w' := by
  have B0 := Box.start w (.int .i64 3) (.int .i64 n) (.string s) (.slice ko kl kc) (.slice o dl dc) 27
  have HX := Lib.hid B0
  have HF := Lib.hid (formOf_text n s ko o kl kc dl dc)
  have ff := formOk_text s hm
  rw [ht] at ff
  clear ht
  clear B0
  go_enter Tryz.func26, Tryz.ntmps26
  go_wp2_with fail
  refine (HF.out _).mono ?_
  rintro e w1 ⟨rfl, hb1⟩
  have HX1 := Lib.hid (HX.out.next hb1)
  clear hb1
  go_wp2_with fail
  refine (ff _).mono ?_
  rintro e w2 ⟨rfl, hb2⟩
  have HX2 := Lib.hid (HX1.out.next hb2)
  have HM := meth_text
  clear hb2
  go_wp2_with fail
  refine (node_text s _).mono ?_
  rintro e w3 ⟨rfl, hb3⟩
  have HX3 := HX2.out.next hb3
  have XA := Lib.hid fun ob => HX3.next ((Below.refl _ w3).alloc (Nat.le_refl _) ob)
  have HB := Lib.hid fun ob => (XA.out ob).below
  have x1 := fun ob => (XA.out ob).c1
  have x2 := fun ob => (XA.out ob).c2
  have x3 := fun ob => (XA.out ob).c3
  have x4 := fun ob => (XA.out ob).c4
  clear hb3 HX3
  go_wp2
  go_ret
  refine ⟨?_, HB.out _⟩
  first
    | rfl
    | exact ret_bool (by simp; omega)

set_option maxRecDepth 100000 in
set_option maxHeartbeats 800000 in
theorem nodeOk_text_bad_k (n : Int) (s : ByteArray) (ko o : Option Addr) (kl kc dl dc : Nat) (w : World) (hm : s.size ≤ maxLen) (ht : textOk s = true) (en : n = 0) (hk : ¬ (kl : Int) = 0) : Calls Tryz.prog 26 #[.agg #[.int .i64 3, .int .i64 n, .string s, .slice ko kl kc, .slice o dl dc]] w fun e w' => e = .returned (.bool false) ∧ Below w.heap.size w w' := by
  have B0 := Box.start w (.int .i64 3) (.int .i64 n) (.string s) (.slice ko kl kc) (.slice o dl dc) 27
  have HX := Lib.hid B0
  have HF := Lib.hid (formOf_text n s ko o kl kc dl dc)
  have ff := formOk_text s hm
  rw [ht] at ff
  clear ht
  subst en
  clear B0
  go_enter Tryz.func26, Tryz.ntmps26
  go_wp2_with fail
  refine (HF.out _).mono ?_
  rintro e w1 ⟨rfl, hb1⟩
  have HX1 := Lib.hid (HX.out.next hb1)
  clear hb1
  go_wp2_with fail
  refine (ff _).mono ?_
  rintro e w2 ⟨rfl, hb2⟩
  have HX2 := Lib.hid (HX1.out.next hb2)
  have HM := meth_text
  clear hb2
  go_wp2_with fail
  refine (node_text s _).mono ?_
  rintro e w3 ⟨rfl, hb3⟩
  have HX3 := HX2.out.next hb3
  have XA := Lib.hid fun ob => HX3.next ((Below.refl _ w3).alloc (Nat.le_refl _) ob)
  have HB := Lib.hid fun ob => (XA.out ob).below
  have x1 := fun ob => (XA.out ob).c1
  have x2 := fun ob => (XA.out ob).c2
  have x3 := fun ob => (XA.out ob).c3
  have x4 := fun ob => (XA.out ob).c4
  clear hb3 HX3
  go_wp2
  go_ret
  refine ⟨?_, HB.out _⟩
  first
    | rfl
    | exact ret_bool (by simp; omega)

set_option maxRecDepth 100000 in
set_option maxHeartbeats 800000 in
theorem nodeOk_text_bad_d (n : Int) (s : ByteArray) (ko o : Option Addr) (kl kc dl dc : Nat) (w : World) (hm : s.size ≤ maxLen) (ht : textOk s = true) (en : n = 0) (ek : kl = 0) (hd : ¬ (dl : Int) = 0) : Calls Tryz.prog 26 #[.agg #[.int .i64 3, .int .i64 n, .string s, .slice ko kl kc, .slice o dl dc]] w fun e w' => e = .returned (.bool false) ∧ Below w.heap.size w w' := by
  have B0 := Box.start w (.int .i64 3) (.int .i64 n) (.string s) (.slice ko kl kc) (.slice o dl dc) 27
  have HX := Lib.hid B0
  have HF := Lib.hid (formOf_text n s ko o kl kc dl dc)
  have ff := formOk_text s hm
  rw [ht] at ff
  clear ht
  subst en
  subst ek
  clear B0
  go_enter Tryz.func26, Tryz.ntmps26
  go_wp2_with fail
  refine (HF.out _).mono ?_
  rintro e w1 ⟨rfl, hb1⟩
  have HX1 := Lib.hid (HX.out.next hb1)
  clear hb1
  go_wp2_with fail
  refine (ff _).mono ?_
  rintro e w2 ⟨rfl, hb2⟩
  have HX2 := Lib.hid (HX1.out.next hb2)
  have HM := meth_text
  clear hb2
  go_wp2_with fail
  refine (node_text s _).mono ?_
  rintro e w3 ⟨rfl, hb3⟩
  have HX3 := HX2.out.next hb3
  have XA := Lib.hid fun ob => HX3.next ((Below.refl _ w3).alloc (Nat.le_refl _) ob)
  have HB := Lib.hid fun ob => (XA.out ob).below
  have x1 := fun ob => (XA.out ob).c1
  have x2 := fun ob => (XA.out ob).c2
  have x3 := fun ob => (XA.out ob).c3
  have x4 := fun ob => (XA.out ob).c4
  clear hb3 HX3
  go_wp2
  go_ret
  refine ⟨?_, HB.out _⟩
  first
    | rfl
    | exact ret_bool (by simp; omega)

set_option maxRecDepth 100000 in
set_option maxHeartbeats 800000 in
theorem nodeOk_text_good (n : Int) (s : ByteArray) (ko o : Option Addr) (kl kc dl dc : Nat) (w : World) (hm : s.size ≤ maxLen) (ht : textOk s = true) (en : n = 0) (ek : kl = 0) (ed : dl = 0) : Calls Tryz.prog 26 #[.agg #[.int .i64 3, .int .i64 n, .string s, .slice ko kl kc, .slice o dl dc]] w fun e w' => e = .returned (.bool true) ∧ Below w.heap.size w w' := by
  have B0 := Box.start w (.int .i64 3) (.int .i64 n) (.string s) (.slice ko kl kc) (.slice o dl dc) 27
  have HX := Lib.hid B0
  have HF := Lib.hid (formOf_text n s ko o kl kc dl dc)
  have ff := formOk_text s hm
  rw [ht] at ff
  clear ht
  subst en
  subst ek
  subst ed
  clear B0
  go_enter Tryz.func26, Tryz.ntmps26
  go_wp2_with fail
  refine (HF.out _).mono ?_
  rintro e w1 ⟨rfl, hb1⟩
  have HX1 := Lib.hid (HX.out.next hb1)
  clear hb1
  go_wp2_with fail
  refine (ff _).mono ?_
  rintro e w2 ⟨rfl, hb2⟩
  have HX2 := Lib.hid (HX1.out.next hb2)
  have HM := meth_text
  clear hb2
  go_wp2_with fail
  refine (node_text s _).mono ?_
  rintro e w3 ⟨rfl, hb3⟩
  have HX3 := HX2.out.next hb3
  have XA := Lib.hid fun ob => HX3.next ((Below.refl _ w3).alloc (Nat.le_refl _) ob)
  have HB := Lib.hid fun ob => (XA.out ob).below
  have x1 := fun ob => (XA.out ob).c1
  have x2 := fun ob => (XA.out ob).c2
  have x3 := fun ob => (XA.out ob).c3
  have x4 := fun ob => (XA.out ob).c4
  clear hb3 HX3
  go_wp2
  go_ret
  refine ⟨?_, HB.out _⟩
  first
    | rfl
    | exact ret_bool (by simp; omega)

set_option maxRecDepth 100000 in
set_option maxHeartbeats 800000 in
theorem nodeOk_text_none (n : Int) (s : ByteArray) (ko o : Option Addr) (kl kc dl dc : Nat) (w : World) (hm : s.size ≤ maxLen) (ht : textOk s = false) : Calls Tryz.prog 26 #[.agg #[.int .i64 3, .int .i64 n, .string s, .slice ko kl kc, .slice o dl dc]] w fun e w' => e = .returned (.bool false) ∧ Below w.heap.size w w' := by
  have B0 := Box.start w (.int .i64 3) (.int .i64 n) (.string s) (.slice ko kl kc) (.slice o dl dc) 27
  have HX := Lib.hid B0
  have HF := Lib.hid (formOf_text n s ko o kl kc dl dc)
  have ff := formOk_text s hm
  rw [ht] at ff
  clear ht
  clear B0
  go_enter Tryz.func26, Tryz.ntmps26
  go_wp2_with fail
  refine (HF.out _).mono ?_
  rintro e w1 ⟨rfl, hb1⟩
  have HX1 := Lib.hid (HX.out.next hb1)
  clear hb1
  go_wp2_with fail
  refine (ff _).mono ?_
  rintro e w2 ⟨rfl, hb2⟩
  have HB := Lib.hid (HX1.out.next hb2).below
  clear hb2
  go_wp2
  go_ret
  exact ⟨rfl, HB.out⟩

set_option maxRecDepth 100000 in
set_option maxHeartbeats 800000 in
theorem nodeOk_list_bad_n (n : Int) (s : ByteArray) (ko o : Option Addr) (kl kc dl dc : Nat) (w : World) (hn : ¬ n = 0) : Calls Tryz.prog 26 #[.agg #[.int .i64 4, .int .i64 n, .string s, .slice ko kl kc, .slice o dl dc]] w fun e w' => e = .returned (.bool false) ∧ Below w.heap.size w w' := by
  have B0 := Box.start w (.int .i64 4) (.int .i64 n) (.string s) (.slice ko kl kc) (.slice o dl dc) 27
  have HX := Lib.hid B0
  have HF := Lib.hid (formOf_list n s ko o kl kc dl dc)
  clear B0
  go_enter Tryz.func26, Tryz.ntmps26
  go_wp2_with fail
  refine (HF.out _).mono ?_
  rintro e w1 ⟨rfl, hb1⟩
  have HX1 := Lib.hid (HX.out.next hb1)
  clear hb1
  go_wp2_with fail
  refine (formOk_list o dl dc _).mono ?_
  rintro e w2 ⟨rfl, hb2⟩
  have HX2 := Lib.hid (HX1.out.next hb2)
  have HM := meth_list
  clear hb2
  go_wp2_with fail
  refine (node_list o dl dc _).mono ?_
  rintro e w3 ⟨rfl, hb3⟩
  have HX3 := HX2.out.next hb3
  have XA := Lib.hid fun ob => HX3.next ((Below.refl _ w3).alloc (Nat.le_refl _) ob)
  have HB := Lib.hid fun ob => (XA.out ob).below
  have x1 := fun ob => (XA.out ob).c1
  have x2 := fun ob => (XA.out ob).c2
  have x3 := fun ob => (XA.out ob).c3
  have x4 := fun ob => (XA.out ob).c4
  clear hb3 HX3
  go_wp2
  go_ret
  refine ⟨?_, HB.out _⟩
  first
    | rfl
    | exact ret_bool (by simp; omega)

set_option maxRecDepth 100000 in
set_option maxHeartbeats 800000 in
theorem nodeOk_list_bad_s (n : Int) (s : ByteArray) (ko o : Option Addr) (kl kc dl dc : Nat) (w : World) (en : n = 0) (hs : ¬ s = ⟨#[]⟩) : Calls Tryz.prog 26 #[.agg #[.int .i64 4, .int .i64 n, .string s, .slice ko kl kc, .slice o dl dc]] w fun e w' => e = .returned (.bool false) ∧ Below w.heap.size w w' := by
  have B0 := Box.start w (.int .i64 4) (.int .i64 n) (.string s) (.slice ko kl kc) (.slice o dl dc) 27
  have HX := Lib.hid B0
  have HF := Lib.hid (formOf_list n s ko o kl kc dl dc)
  have hs1 := bytes_ne hs
  have hs2 := empty_ne hs
  subst en
  clear B0
  go_enter Tryz.func26, Tryz.ntmps26
  go_wp2_with fail
  refine (HF.out _).mono ?_
  rintro e w1 ⟨rfl, hb1⟩
  have HX1 := Lib.hid (HX.out.next hb1)
  clear hb1
  go_wp2_with fail
  refine (formOk_list o dl dc _).mono ?_
  rintro e w2 ⟨rfl, hb2⟩
  have HX2 := Lib.hid (HX1.out.next hb2)
  have HM := meth_list
  clear hb2
  go_wp2_with fail
  refine (node_list o dl dc _).mono ?_
  rintro e w3 ⟨rfl, hb3⟩
  have HX3 := HX2.out.next hb3
  have XA := Lib.hid fun ob => HX3.next ((Below.refl _ w3).alloc (Nat.le_refl _) ob)
  have HB := Lib.hid fun ob => (XA.out ob).below
  have x1 := fun ob => (XA.out ob).c1
  have x2 := fun ob => (XA.out ob).c2
  have x3 := fun ob => (XA.out ob).c3
  have x4 := fun ob => (XA.out ob).c4
  clear hb3 HX3
  go_wp2
  go_ret
  refine ⟨?_, HB.out _⟩
  first
    | rfl
    | exact ret_bool (by simp; omega)

set_option maxRecDepth 100000 in
set_option maxHeartbeats 800000 in
theorem nodeOk_list_bad_k (n : Int) (s : ByteArray) (ko o : Option Addr) (kl kc dl dc : Nat) (w : World) (en : n = 0) (es : s = ⟨#[]⟩) (hk : ¬ (kl : Int) = 0) : Calls Tryz.prog 26 #[.agg #[.int .i64 4, .int .i64 n, .string s, .slice ko kl kc, .slice o dl dc]] w fun e w' => e = .returned (.bool false) ∧ Below w.heap.size w w' := by
  have B0 := Box.start w (.int .i64 4) (.int .i64 n) (.string s) (.slice ko kl kc) (.slice o dl dc) 27
  have HX := Lib.hid B0
  have HF := Lib.hid (formOf_list n s ko o kl kc dl dc)
  subst en
  subst es
  clear B0
  go_enter Tryz.func26, Tryz.ntmps26
  go_wp2_with fail
  refine (HF.out _).mono ?_
  rintro e w1 ⟨rfl, hb1⟩
  have HX1 := Lib.hid (HX.out.next hb1)
  clear hb1
  go_wp2_with fail
  refine (formOk_list o dl dc _).mono ?_
  rintro e w2 ⟨rfl, hb2⟩
  have HX2 := Lib.hid (HX1.out.next hb2)
  have HM := meth_list
  clear hb2
  go_wp2_with fail
  refine (node_list o dl dc _).mono ?_
  rintro e w3 ⟨rfl, hb3⟩
  have HX3 := HX2.out.next hb3
  have XA := Lib.hid fun ob => HX3.next ((Below.refl _ w3).alloc (Nat.le_refl _) ob)
  have HB := Lib.hid fun ob => (XA.out ob).below
  have x1 := fun ob => (XA.out ob).c1
  have x2 := fun ob => (XA.out ob).c2
  have x3 := fun ob => (XA.out ob).c3
  have x4 := fun ob => (XA.out ob).c4
  clear hb3 HX3
  go_wp2
  go_ret
  refine ⟨?_, HB.out _⟩
  first
    | rfl
    | exact ret_bool (by simp; omega)

set_option maxRecDepth 100000 in
set_option maxHeartbeats 800000 in
theorem nodeOk_list_good (n : Int) (s : ByteArray) (ko o : Option Addr) (kl kc dl dc : Nat) (w : World) (en : n = 0) (es : s = ⟨#[]⟩) (ek : kl = 0) : Calls Tryz.prog 26 #[.agg #[.int .i64 4, .int .i64 n, .string s, .slice ko kl kc, .slice o dl dc]] w fun e w' => e = .returned (.bool true) ∧ Below w.heap.size w w' := by
  have B0 := Box.start w (.int .i64 4) (.int .i64 n) (.string s) (.slice ko kl kc) (.slice o dl dc) 27
  have HX := Lib.hid B0
  have HF := Lib.hid (formOf_list n s ko o kl kc dl dc)
  subst en
  subst es
  subst ek
  clear B0
  go_enter Tryz.func26, Tryz.ntmps26
  go_wp2_with fail
  refine (HF.out _).mono ?_
  rintro e w1 ⟨rfl, hb1⟩
  have HX1 := Lib.hid (HX.out.next hb1)
  clear hb1
  go_wp2_with fail
  refine (formOk_list o dl dc _).mono ?_
  rintro e w2 ⟨rfl, hb2⟩
  have HX2 := Lib.hid (HX1.out.next hb2)
  have HM := meth_list
  clear hb2
  go_wp2_with fail
  refine (node_list o dl dc _).mono ?_
  rintro e w3 ⟨rfl, hb3⟩
  have HX3 := HX2.out.next hb3
  have XA := Lib.hid fun ob => HX3.next ((Below.refl _ w3).alloc (Nat.le_refl _) ob)
  have HB := Lib.hid fun ob => (XA.out ob).below
  have x1 := fun ob => (XA.out ob).c1
  have x2 := fun ob => (XA.out ob).c2
  have x3 := fun ob => (XA.out ob).c3
  have x4 := fun ob => (XA.out ob).c4
  clear hb3 HX3
  go_wp2
  go_ret
  refine ⟨?_, HB.out _⟩
  first
    | rfl
    | exact ret_bool (by simp; omega)

set_option maxRecDepth 100000 in
set_option maxHeartbeats 800000 in
theorem nodeOk_map_bad_n (n : Int) (s : ByteArray) (ko o : Option Addr) (kl kc dl dc : Nat) (w : World) (ff : ∀ w' : World, Below w.heap.size w w' → Calls Tryz.prog 46 #[.iface 109 (.agg #[.slice ko kl kc, .slice o dl dc])] w' fun e w'' => e = .returned (.bool true) ∧ Below w'.heap.size w' w'') (hn : ¬ n = 0) : Calls Tryz.prog 26 #[.agg #[.int .i64 5, .int .i64 n, .string s, .slice ko kl kc, .slice o dl dc]] w fun e w' => e = .returned (.bool false) ∧ Below w.heap.size w w' := by
  have B0 := Box.start w (.int .i64 5) (.int .i64 n) (.string s) (.slice ko kl kc) (.slice o dl dc) 27
  have HX := Lib.hid B0
  have HF := Lib.hid (formOf_map n s ko o kl kc dl dc)
  have FF := Lib.hid ff
  clear ff
  clear B0
  go_enter Tryz.func26, Tryz.ntmps26
  go_wp2_with fail
  refine (HF.out _).mono ?_
  rintro e w1 ⟨rfl, hb1⟩
  have HX1 := Lib.hid (HX.out.next hb1)
  clear hb1
  go_wp2_with fail
  refine (FF.out _ HX1.out.below).mono ?_
  rintro e w2 ⟨rfl, hb2⟩
  have HX2 := Lib.hid (HX1.out.next hb2)
  have HM := meth_map
  clear hb2
  go_wp2_with fail
  refine (node_map ko o kl kc dl dc _).mono ?_
  rintro e w3 ⟨rfl, hb3⟩
  have HX3 := HX2.out.next hb3
  have XA := Lib.hid fun ob => HX3.next ((Below.refl _ w3).alloc (Nat.le_refl _) ob)
  have HB := Lib.hid fun ob => (XA.out ob).below
  have x1 := fun ob => (XA.out ob).c1
  have x2 := fun ob => (XA.out ob).c2
  have x3 := fun ob => (XA.out ob).c3
  have x4 := fun ob => (XA.out ob).c4
  clear hb3 HX3
  go_wp2
  go_ret
  refine ⟨?_, HB.out _⟩
  first
    | rfl
    | exact ret_bool (by simp; omega)

set_option maxRecDepth 100000 in
set_option maxHeartbeats 800000 in
theorem nodeOk_map_bad_s (n : Int) (s : ByteArray) (ko o : Option Addr) (kl kc dl dc : Nat) (w : World) (ff : ∀ w' : World, Below w.heap.size w w' → Calls Tryz.prog 46 #[.iface 109 (.agg #[.slice ko kl kc, .slice o dl dc])] w' fun e w'' => e = .returned (.bool true) ∧ Below w'.heap.size w' w'') (en : n = 0) (hs : ¬ s = ⟨#[]⟩) : Calls Tryz.prog 26 #[.agg #[.int .i64 5, .int .i64 n, .string s, .slice ko kl kc, .slice o dl dc]] w fun e w' => e = .returned (.bool false) ∧ Below w.heap.size w w' := by
  have B0 := Box.start w (.int .i64 5) (.int .i64 n) (.string s) (.slice ko kl kc) (.slice o dl dc) 27
  have HX := Lib.hid B0
  have HF := Lib.hid (formOf_map n s ko o kl kc dl dc)
  have FF := Lib.hid ff
  clear ff
  have hs1 := bytes_ne hs
  have hs2 := empty_ne hs
  subst en
  clear B0
  go_enter Tryz.func26, Tryz.ntmps26
  go_wp2_with fail
  refine (HF.out _).mono ?_
  rintro e w1 ⟨rfl, hb1⟩
  have HX1 := Lib.hid (HX.out.next hb1)
  clear hb1
  go_wp2_with fail
  refine (FF.out _ HX1.out.below).mono ?_
  rintro e w2 ⟨rfl, hb2⟩
  have HX2 := Lib.hid (HX1.out.next hb2)
  have HM := meth_map
  clear hb2
  go_wp2_with fail
  refine (node_map ko o kl kc dl dc _).mono ?_
  rintro e w3 ⟨rfl, hb3⟩
  have HX3 := HX2.out.next hb3
  have XA := Lib.hid fun ob => HX3.next ((Below.refl _ w3).alloc (Nat.le_refl _) ob)
  have HB := Lib.hid fun ob => (XA.out ob).below
  have x1 := fun ob => (XA.out ob).c1
  have x2 := fun ob => (XA.out ob).c2
  have x3 := fun ob => (XA.out ob).c3
  have x4 := fun ob => (XA.out ob).c4
  clear hb3 HX3
  go_wp2
  go_ret
  refine ⟨?_, HB.out _⟩
  first
    | rfl
    | exact ret_bool (by simp; omega)

set_option maxRecDepth 100000 in
set_option maxHeartbeats 800000 in
theorem nodeOk_map_good (n : Int) (s : ByteArray) (ko o : Option Addr) (kl kc dl dc : Nat) (w : World) (ff : ∀ w' : World, Below w.heap.size w w' → Calls Tryz.prog 46 #[.iface 109 (.agg #[.slice ko kl kc, .slice o dl dc])] w' fun e w'' => e = .returned (.bool true) ∧ Below w'.heap.size w' w'') (en : n = 0) (es : s = ⟨#[]⟩) : Calls Tryz.prog 26 #[.agg #[.int .i64 5, .int .i64 n, .string s, .slice ko kl kc, .slice o dl dc]] w fun e w' => e = .returned (.bool true) ∧ Below w.heap.size w w' := by
  have B0 := Box.start w (.int .i64 5) (.int .i64 n) (.string s) (.slice ko kl kc) (.slice o dl dc) 27
  have HX := Lib.hid B0
  have HF := Lib.hid (formOf_map n s ko o kl kc dl dc)
  have FF := Lib.hid ff
  clear ff
  subst en
  subst es
  clear B0
  go_enter Tryz.func26, Tryz.ntmps26
  go_wp2_with fail
  refine (HF.out _).mono ?_
  rintro e w1 ⟨rfl, hb1⟩
  have HX1 := Lib.hid (HX.out.next hb1)
  clear hb1
  go_wp2_with fail
  refine (FF.out _ HX1.out.below).mono ?_
  rintro e w2 ⟨rfl, hb2⟩
  have HX2 := Lib.hid (HX1.out.next hb2)
  have HM := meth_map
  clear hb2
  go_wp2_with fail
  refine (node_map ko o kl kc dl dc _).mono ?_
  rintro e w3 ⟨rfl, hb3⟩
  have HX3 := HX2.out.next hb3
  have XA := Lib.hid fun ob => HX3.next ((Below.refl _ w3).alloc (Nat.le_refl _) ob)
  have HB := Lib.hid fun ob => (XA.out ob).below
  have x1 := fun ob => (XA.out ob).c1
  have x2 := fun ob => (XA.out ob).c2
  have x3 := fun ob => (XA.out ob).c3
  have x4 := fun ob => (XA.out ob).c4
  clear hb3 HX3
  go_wp2
  go_ret
  refine ⟨?_, HB.out _⟩
  first
    | rfl
    | exact ret_bool (by simp; omega)

set_option maxRecDepth 100000 in
set_option maxHeartbeats 800000 in
theorem nodeOk_map_none (n : Int) (s : ByteArray) (ko o : Option Addr) (kl kc dl dc : Nat) (w : World) (ff : ∀ w' : World, Below w.heap.size w w' → Calls Tryz.prog 46 #[.iface 109 (.agg #[.slice ko kl kc, .slice o dl dc])] w' fun e w'' => e = .returned (.bool false) ∧ Below w'.heap.size w' w'') : Calls Tryz.prog 26 #[.agg #[.int .i64 5, .int .i64 n, .string s, .slice ko kl kc, .slice o dl dc]] w fun e w' => e = .returned (.bool false) ∧ Below w.heap.size w w' := by
  have B0 := Box.start w (.int .i64 5) (.int .i64 n) (.string s) (.slice ko kl kc) (.slice o dl dc) 27
  have HX := Lib.hid B0
  have HF := Lib.hid (formOf_map n s ko o kl kc dl dc)
  have FF := Lib.hid ff
  clear ff
  clear B0
  go_enter Tryz.func26, Tryz.ntmps26
  go_wp2_with fail
  refine (HF.out _).mono ?_
  rintro e w1 ⟨rfl, hb1⟩
  have HX1 := Lib.hid (HX.out.next hb1)
  clear hb1
  go_wp2_with fail
  refine (FF.out _ HX1.out.below).mono ?_
  rintro e w2 ⟨rfl, hb2⟩
  have HB := Lib.hid (HX1.out.next hb2).below
  clear hb2
  go_wp2
  go_ret
  exact ⟨rfl, HB.out⟩

set_option maxRecDepth 100000 in
set_option maxHeartbeats 800000 in
theorem nodeOk_none (k : Int) (h0 : ¬ k = 0) (h1 : ¬ k = 1) (h2 : ¬ k = 2) (h3 : ¬ k = 3) (h4 : ¬ k = 4) (h5 : ¬ k = 5) (n : Int) (s : ByteArray) (ko o : Option Addr) (kl kc dl dc : Nat) (w : World) : Calls Tryz.prog 26 #[.agg #[.int .i64 k, .int .i64 n, .string s, .slice ko kl kc, .slice o dl dc]] w fun e w' => e = .returned (.bool false) ∧ Below w.heap.size w w' := by
  have HX := Lib.hid (Box.start w (.int .i64 k) (.int .i64 n) (.string s) (.slice ko kl kc) (.slice o dl dc) 27)
  have HF := Lib.hid (formOf_none k h0 h1 h2 h3 h4 h5 n s ko o kl kc dl dc)
  clear h0 h1 h2 h3 h4 h5
  go_enter Tryz.func26, Tryz.ntmps26
  go_wp2_with fail
  refine (HF.out _).mono ?_
  rintro e w1 ⟨rfl, hb1⟩
  have HB := Lib.hid (HX.out.next hb1).below
  clear hb1
  go_wp2
  go_ret
  exact ⟨rfl, HB.out⟩

end Go.Proofs.YtelpkcbbipianaaGreat
