/-
  What is proved: the program's nodeOk tells of every text, list, map and node of no kind alone whether it is as its kind has it.; plain facts on which trees are right, how deep they are and how many nodes they have; the program's nodeOk at every node.; the model's l3Deep and l3Size tell how deep a tree is and how many nodes it has.; the model's l3Leaf and l3Right tell whether a tree is right.
-/
import Derived.Test.YtmcjghhmcmkomaaGreatDoorPartAD
/- the program's nodeOk tells of every text, list, map and node of no kind alone whether it is as its kind has it. -/
namespace Go.Proofs.YtmcjghhmcmkomaaGreatDoor
open Go Go.RowKit

set_option maxRecDepth 100000 in
set_option maxHeartbeats 800000 in
theorem nodeOk_text_bad_n (n : Int) (s : ByteArray) (ko o : Option Addr) (kl kc dl dc : Nat) (w : World) (hm : s.size ≤ maxLen) (ht : textOk s = true) (hn : ¬ n = 0) : Calls Tryz.prog 67 #[.agg #[.int .i64 3, .int .i64 n, .string s, .slice ko kl kc, .slice o dl dc]] w fun e w' => e = .returned (.bool false) ∧ Below w.heap.size w w' := by
  have B0 := Box.start w (.int .i64 3) (.int .i64 n) (.string s) (.slice ko kl kc) (.slice o dl dc) 27
  have HX := Lib.hid B0
  have HF := Lib.hid (formOf_text n s ko o kl kc dl dc)
  have ff := formOk_text s hm
  rw [ht] at ff
  clear ht
  clear B0
  go_enter Tryz.func67, Tryz.ntmps67
  go_wp2_with fail
  refine (HF.out _).mono ?_
  rintro e w1 ⟨rfl, hb1⟩
  have HX1 := Lib.hid (HX.out.next hb1)
  clear hb1
  go_wp2_with fail
  refine (ff _).mono ?_
  rintro e w2 ⟨rfl, hb2⟩
  have HX2 := Lib.hid (HX1.out.next hb2)
  have HM := meth_text
  clear hb2
  go_wp2_with fail
  refine (node_text s _).mono ?_
  rintro e w3 ⟨rfl, hb3⟩
  have HX3 := HX2.out.next hb3
  have XA := Lib.hid fun ob => HX3.next ((Below.refl _ w3).alloc (Nat.le_refl _) ob)
  have HB := Lib.hid fun ob => (XA.out ob).below
  have x1 := fun ob => (XA.out ob).c1
  have x2 := fun ob => (XA.out ob).c2
  have x3 := fun ob => (XA.out ob).c3
  have x4 := fun ob => (XA.out ob).c4
  clear hb3 HX3
  go_wp2
  go_ret
  refine ⟨?_, HB.out _⟩
  first
    | rfl
    | exact ret_bool (by simp; omega)

set_option maxRecDepth 100000 in
set_option maxHeartbeats 800000 in
theorem nodeOk_text_bad_k (n : Int) (s : ByteArray) (ko o : Option Addr) (kl kc dl dc : Nat) (w : World) (hm : s.size ≤ maxLen) (ht : textOk s = true) (en : n = 0) (hk : ¬ (kl : Int) = 0) : Calls Tryz.prog 67 #[.agg #[.int .i64 3, .int .i64 n, .string s, .slice ko kl kc, .slice o dl dc]] w fun e w' => e = .returned (.bool false) ∧ Below w.heap.size w w' := by
  have B0 := Box.start w (.int .i64 3) (.int .i64 n) (.string s) (.slice ko kl kc) (.slice o dl dc) 27
  have HX := Lib.hid B0
  have HF := Lib.hid (formOf_text n s ko o kl kc dl dc)
  have ff := formOk_text s hm
  rw [ht] at ff
  clear ht
  subst en
  clear B0
  go_enter Tryz.func67, Tryz.ntmps67
  go_wp2_with fail
  refine (HF.out _).mono ?_
  rintro e w1 ⟨rfl, hb1⟩
  have HX1 := Lib.hid (HX.out.next hb1)
  clear hb1
  go_wp2_with fail
  refine (ff _).mono ?_
  rintro e w2 ⟨rfl, hb2⟩
  have HX2 := Lib.hid (HX1.out.next hb2)
  have HM := meth_text
  clear hb2
  go_wp2_with fail
  refine (node_text s _).mono ?_
  rintro e w3 ⟨rfl, hb3⟩
  have HX3 := HX2.out.next hb3
  have XA := Lib.hid fun ob => HX3.next ((Below.refl _ w3).alloc (Nat.le_refl _) ob)
  have HB := Lib.hid fun ob => (XA.out ob).below
  have x1 := fun ob => (XA.out ob).c1
  have x2 := fun ob => (XA.out ob).c2
  have x3 := fun ob => (XA.out ob).c3
  have x4 := fun ob => (XA.out ob).c4
  clear hb3 HX3
  go_wp2
  go_ret
  refine ⟨?_, HB.out _⟩
  first
    | rfl
    | exact ret_bool (by simp; omega)

set_option maxRecDepth 100000 in
set_option maxHeartbeats 800000 in
theorem nodeOk_text_bad_d (n : Int) (s : ByteArray) (ko o : Option Addr) (kl kc dl dc : Nat) (w : World) (hm : s.size ≤ maxLen) (ht : textOk s = true) (en : n = 0) (ek : kl = 0) (hd : ¬ (dl : Int) = 0) : Calls Tryz.prog 67 #[.agg #[.int .i64 3, .int .i64 n, .string s, .slice ko kl kc, .slice o dl dc]] w fun e w' => e = .returned (.bool false) ∧ Below w.heap.size w w' := by
  have B0 := Box.start w (.int .i64 3) (.int .i64 n) (.string s) (.slice ko kl kc) (.slice o dl dc) 27
  have HX := Lib.hid B0
  have HF := Lib.hid (formOf_text n s ko o kl kc dl dc)
  have ff := formOk_text s hm
  rw [ht] at ff
  clear ht
  subst en
  subst ek
  clear B0
  go_enter Tryz.func67, Tryz.ntmps67
  go_wp2_with fail
  refine (HF.out _).mono ?_
  rintro e w1 ⟨rfl, hb1⟩
  have HX1 := Lib.hid (HX.out.next hb1)
  clear hb1
  go_wp2_with fail
  refine (ff _).mono ?_
  rintro e w2 ⟨rfl, hb2⟩
  have HX2 := Lib.hid (HX1.out.next hb2)
  have HM := meth_text
  clear hb2
  go_wp2_with fail
  refine (node_text s _).mono ?_
  rintro e w3 ⟨rfl, hb3⟩
  have HX3 := HX2.out.next hb3
  have XA := Lib.hid fun ob => HX3.next ((Below.refl _ w3).alloc (Nat.le_refl _) ob)
  have HB := Lib.hid fun ob => (XA.out ob).below
  have x1 := fun ob => (XA.out ob).c1
  have x2 := fun ob => (XA.out ob).c2
  have x3 := fun ob => (XA.out ob).c3
  have x4 := fun ob => (XA.out ob).c4
  clear hb3 HX3
  go_wp2
  go_ret
  refine ⟨?_, HB.out _⟩
  first
    | rfl
    | exact ret_bool (by simp; omega)

set_option maxRecDepth 100000 in
set_option maxHeartbeats 800000 in
theorem nodeOk_text_good (n : Int) (s : ByteArray) (ko o : Option Addr) (kl kc dl dc : Nat) (w : World) (hm : s.size ≤ maxLen) (ht : textOk s = true) (en : n = 0) (ek : kl = 0) (ed : dl = 0) : Calls Tryz.prog 67 #[.agg #[.int .i64 3, .int .i64 n, .string s, .slice ko kl kc, .slice o dl dc]] w fun e w' => e = .returned (.bool true) ∧ Below w.heap.size w w' := by
  have B0 := Box.start w (.int .i64 3) (.int .i64 n) (.string s) (.slice ko kl kc) (.slice o dl dc) 27
  have HX := Lib.hid B0
  have HF := Lib.hid (formOf_text n s ko o kl kc dl dc)
  have ff := formOk_text s hm
  rw [ht] at ff
  clear ht
  subst en
  subst ek
  subst ed
  clear B0
  go_enter Tryz.func67, Tryz.ntmps67
  go_wp2_with fail
  refine (HF.out _).mono ?_
  rintro e w1 ⟨rfl, hb1⟩
  have HX1 := Lib.hid (HX.out.next hb1)
  clear hb1
  go_wp2_with fail
  refine (ff _).mono ?_
  rintro e w2 ⟨rfl, hb2⟩
  have HX2 := Lib.hid (HX1.out.next hb2)
  have HM := meth_text
  clear hb2
  go_wp2_with fail
  refine (node_text s _).mono ?_
  rintro e w3 ⟨rfl, hb3⟩
  have HX3 := HX2.out.next hb3
  have XA := Lib.hid fun ob => HX3.next ((Below.refl _ w3).alloc (Nat.le_refl _) ob)
  have HB := Lib.hid fun ob => (XA.out ob).below
  have x1 := fun ob => (XA.out ob).c1
  have x2 := fun ob => (XA.out ob).c2
  have x3 := fun ob => (XA.out ob).c3
  have x4 := fun ob => (XA.out ob).c4
  clear hb3 HX3
  go_wp2
  go_ret
  refine ⟨?_, HB.out _⟩
  first
    | rfl
    | exact ret_bool (by simp; omega)

set_option maxRecDepth 100000 in
set_option maxHeartbeats 800000 in
theorem nodeOk_text_none (n : Int) (s : ByteArray) (ko o : Option Addr) (kl kc dl dc : Nat) (w : World) (hm : s.size ≤ maxLen) (ht : textOk s = false) : Calls Tryz.prog 67 #[.agg #[.int .i64 3, .int .i64 n, .string s, .slice ko kl kc, .slice o dl dc]] w fun e w' => e = .returned (.bool false) ∧ Below w.heap.size w w' := by
  have B0 := Box.start w (.int .i64 3) (.int .i64 n) (.string s) (.slice ko kl kc) (.slice o dl dc) 27
  have HX := Lib.hid B0
  have HF := Lib.hid (formOf_text n s ko o kl kc dl dc)
  have ff := formOk_text s hm
  rw [ht] at ff
  clear ht
  clear B0
  go_enter Tryz.func67, Tryz.ntmps67
  go_wp2_with fail
  refine (HF.out _).mono ?_
  rintro e w1 ⟨rfl, hb1⟩
  have HX1 := Lib.hid (HX.out.next hb1)
  clear hb1
  go_wp2_with fail
  refine (ff _).mono ?_
  rintro e w2 ⟨rfl, hb2⟩
  have HB := Lib.hid (HX1.out.next hb2).below
  clear hb2
  go_wp2
  go_ret
  exact ⟨rfl, HB.out⟩

set_option maxRecDepth 100000 in
set_option maxHeartbeats 800000 in
theorem nodeOk_list_bad_n (n : Int) (s : ByteArray) (ko o : Option Addr) (kl kc dl dc : Nat) (w : World) (hn : ¬ n = 0) : Calls Tryz.prog 67 #[.agg #[.int .i64 4, .int .i64 n, .string s, .slice ko kl kc, .slice o dl dc]] w fun e w' => e = .returned (.bool false) ∧ Below w.heap.size w w' := by
  have B0 := Box.start w (.int .i64 4) (.int .i64 n) (.string s) (.slice ko kl kc) (.slice o dl dc) 27
  have HX := Lib.hid B0
  have HF := Lib.hid (formOf_list n s ko o kl kc dl dc)
  clear B0
  go_enter Tryz.func67, Tryz.ntmps67
  go_wp2_with fail
  refine (HF.out _).mono ?_
  rintro e w1 ⟨rfl, hb1⟩
  have HX1 := Lib.hid (HX.out.next hb1)
  clear hb1
  go_wp2_with fail
  refine (formOk_list o dl dc _).mono ?_
  rintro e w2 ⟨rfl, hb2⟩
  have HX2 := Lib.hid (HX1.out.next hb2)
  have HM := meth_list
  clear hb2
  go_wp2_with fail
  refine (node_list o dl dc _).mono ?_
  rintro e w3 ⟨rfl, hb3⟩
  have HX3 := HX2.out.next hb3
  have XA := Lib.hid fun ob => HX3.next ((Below.refl _ w3).alloc (Nat.le_refl _) ob)
  have HB := Lib.hid fun ob => (XA.out ob).below
  have x1 := fun ob => (XA.out ob).c1
  have x2 := fun ob => (XA.out ob).c2
  have x3 := fun ob => (XA.out ob).c3
  have x4 := fun ob => (XA.out ob).c4
  clear hb3 HX3
  go_wp2
  go_ret
  refine ⟨?_, HB.out _⟩
  first
    | rfl
    | exact ret_bool (by simp; omega)

set_option maxRecDepth 100000 in
set_option maxHeartbeats 800000 in
theorem nodeOk_list_bad_s (n : Int) (s : ByteArray) (ko o : Option Addr) (kl kc dl dc : Nat) (w : World) (en : n = 0) (hs : ¬ s = ⟨#[]⟩) : Calls Tryz.prog 67 #[.agg #[.int .i64 4, .int .i64 n, .string s, .slice ko kl kc, .slice o dl dc]] w fun e w' => e = .returned (.bool false) ∧ Below w.heap.size w w' := by
  have B0 := Box.start w (.int .i64 4) (.int .i64 n) (.string s) (.slice ko kl kc) (.slice o dl dc) 27
  have HX := Lib.hid B0
  have HF := Lib.hid (formOf_list n s ko o kl kc dl dc)
  have hs1 := bytes_ne hs
  have hs2 := empty_ne hs
  subst en
  clear B0
  go_enter Tryz.func67, Tryz.ntmps67
  go_wp2_with fail
  refine (HF.out _).mono ?_
  rintro e w1 ⟨rfl, hb1⟩
  have HX1 := Lib.hid (HX.out.next hb1)
  clear hb1
  go_wp2_with fail
  refine (formOk_list o dl dc _).mono ?_
  rintro e w2 ⟨rfl, hb2⟩
  have HX2 := Lib.hid (HX1.out.next hb2)
  have HM := meth_list
  clear hb2
  go_wp2_with fail
  refine (node_list o dl dc _).mono ?_
  rintro e w3 ⟨rfl, hb3⟩
  have HX3 := HX2.out.next hb3
  have XA := Lib.hid fun ob => HX3.next ((Below.refl _ w3).alloc (Nat.le_refl _) ob)
  have HB := Lib.hid fun ob => (XA.out ob).below
  have x1 := fun ob => (XA.out ob).c1
  have x2 := fun ob => (XA.out ob).c2
  have x3 := fun ob => (XA.out ob).c3
  have x4 := fun ob => (XA.out ob).c4
  clear hb3 HX3
  go_wp2
  go_ret
  refine ⟨?_, HB.out _⟩
  first
    | rfl
    | exact ret_bool (by simp; omega)

set_option maxRecDepth 100000 in
set_option maxHeartbeats 800000 in
theorem nodeOk_list_bad_k (n : Int) (s : ByteArray) (ko o : Option Addr) (kl kc dl dc : Nat) (w : World) (en : n = 0) (es : s = ⟨#[]⟩) (hk : ¬ (kl : Int) = 0) : Calls Tryz.prog 67 #[.agg #[.int .i64 4, .int .i64 n, .string s, .slice ko kl kc, .slice o dl dc]] w fun e w' => e = .returned (.bool false) ∧ Below w.heap.size w w' := by
  have B0 := Box.start w (.int .i64 4) (.int .i64 n) (.string s) (.slice ko kl kc) (.slice o dl dc) 27
  have HX := Lib.hid B0
  have HF := Lib.hid (formOf_list n s ko o kl kc dl dc)
  subst en
  subst es
  clear B0
  go_enter Tryz.func67, Tryz.ntmps67
  go_wp2_with fail
  refine (HF.out _).mono ?_
  rintro e w1 ⟨rfl, hb1⟩
  have HX1 := Lib.hid (HX.out.next hb1)
  clear hb1
  go_wp2_with fail
  refine (formOk_list o dl dc _).mono ?_
  rintro e w2 ⟨rfl, hb2⟩
  have HX2 := Lib.hid (HX1.out.next hb2)
  have HM := meth_list
  clear hb2
  go_wp2_with fail
  refine (node_list o dl dc _).mono ?_
  rintro e w3 ⟨rfl, hb3⟩
  have HX3 := HX2.out.next hb3
  have XA := Lib.hid fun ob => HX3.next ((Below.refl _ w3).alloc (Nat.le_refl _) ob)
  have HB := Lib.hid fun ob => (XA.out ob).below
  have x1 := fun ob => (XA.out ob).c1
  have x2 := fun ob => (XA.out ob).c2
  have x3 := fun ob => (XA.out ob).c3
  have x4 := fun ob => (XA.out ob).c4
  clear hb3 HX3
  go_wp2
  go_ret
  refine ⟨?_, HB.out _⟩
  first
    | rfl
    | exact ret_bool (by simp; omega)

set_option maxRecDepth 100000 in
set_option maxHeartbeats 800000 in
theorem nodeOk_list_good (n : Int) (s : ByteArray) (ko o : Option Addr) (kl kc dl dc : Nat) (w : World) (en : n = 0) (es : s = ⟨#[]⟩) (ek : kl = 0) : Calls Tryz.prog 67 #[.agg #[.int .i64 4, .int .i64 n, .string s, .slice ko kl kc, .slice o dl dc]] w fun e w' => e = .returned (.bool true) ∧ Below w.heap.size w w' := by
  have B0 := Box.start w (.int .i64 4) (.int .i64 n) (.string s) (.slice ko kl kc) (.slice o dl dc) 27
  have HX := Lib.hid B0
  have HF := Lib.hid (formOf_list n s ko o kl kc dl dc)
  subst en
  subst es
  subst ek
  clear B0
  go_enter Tryz.func67, Tryz.ntmps67
  go_wp2_with fail
  refine (HF.out _).mono ?_
  rintro e w1 ⟨rfl, hb1⟩
  have HX1 := Lib.hid (HX.out.next hb1)
  clear hb1
  go_wp2_with fail
  refine (formOk_list o dl dc _).mono ?_
  rintro e w2 ⟨rfl, hb2⟩
  have HX2 := Lib.hid (HX1.out.next hb2)
  have HM := meth_list
  clear hb2
  go_wp2_with fail
  refine (node_list o dl dc _).mono ?_
  rintro e w3 ⟨rfl, hb3⟩
  have HX3 := HX2.out.next hb3
  have XA := Lib.hid fun ob => HX3.next ((Below.refl _ w3).alloc (Nat.le_refl _) ob)
  have HB := Lib.hid fun ob => (XA.out ob).below
  have x1 := fun ob => (XA.out ob).c1
  have x2 := fun ob => (XA.out ob).c2
  have x3 := fun ob => (XA.out ob).c3
  have x4 := fun ob => (XA.out ob).c4
  clear hb3 HX3
  go_wp2
  go_ret
  refine ⟨?_, HB.out _⟩
  first
    | rfl
    | exact ret_bool (by simp; omega)

set_option maxRecDepth 100000 in
set_option maxHeartbeats 800000 in
theorem nodeOk_map_bad_n (n : Int) (s : ByteArray) (ko o : Option Addr) (kl kc dl dc : Nat) (w : World) (ff : ∀ w' : World, Below w.heap.size w w' → Calls Tryz.prog 102 #[.iface 74 (.agg #[.slice ko kl kc, .slice o dl dc])] w' fun e w'' => e = .returned (.bool true) ∧ Below w'.heap.size w' w'') (hn : ¬ n = 0) : Calls Tryz.prog 67 #[.agg #[.int .i64 5, .int .i64 n, .string s, .slice ko kl kc, .slice o dl dc]] w fun e w' => e = .returned (.bool false) ∧ Below w.heap.size w w' := by
  have B0 := Box.start w (.int .i64 5) (.int .i64 n) (.string s) (.slice ko kl kc) (.slice o dl dc) 27
  have HX := Lib.hid B0
  have HF := Lib.hid (formOf_map n s ko o kl kc dl dc)
  have FF := Lib.hid ff
  clear ff
  clear B0
  go_enter Tryz.func67, Tryz.ntmps67
  go_wp2_with fail
  refine (HF.out _).mono ?_
  rintro e w1 ⟨rfl, hb1⟩
  have HX1 := Lib.hid (HX.out.next hb1)
  clear hb1
  go_wp2_with fail
  refine (FF.out _ HX1.out.below).mono ?_
  rintro e w2 ⟨rfl, hb2⟩
  have HX2 := Lib.hid (HX1.out.next hb2)
  have HM := meth_map
  clear hb2
  go_wp2_with fail
  refine (node_map ko o kl kc dl dc _).mono ?_
  rintro e w3 ⟨rfl, hb3⟩
  have HX3 := HX2.out.next hb3
  have XA := Lib.hid fun ob => HX3.next ((Below.refl _ w3).alloc (Nat.le_refl _) ob)
  have HB := Lib.hid fun ob => (XA.out ob).below
  have x1 := fun ob => (XA.out ob).c1
  have x2 := fun ob => (XA.out ob).c2
  have x3 := fun ob => (XA.out ob).c3
  have x4 := fun ob => (XA.out ob).c4
  clear hb3 HX3
  go_wp2
  go_ret
  refine ⟨?_, HB.out _⟩
  first
    | rfl
    | exact ret_bool (by simp; omega)

set_option maxRecDepth 100000 in
set_option maxHeartbeats 800000 in
theorem nodeOk_map_bad_s (n : Int) (s : ByteArray) (ko o : Option Addr) (kl kc dl dc : Nat) (w : World) (ff : ∀ w' : World, Below w.heap.size w w' → Calls Tryz.prog 102 #[.iface 74 (.agg #[.slice ko kl kc, .slice o dl dc])] w' fun e w'' => e = .returned (.bool true) ∧ Below w'.heap.size w' w'') (en : n = 0) (hs : ¬ s = ⟨#[]⟩) : Calls Tryz.prog 67 #[.agg #[.int .i64 5, .int .i64 n, .string s, .slice ko kl kc, .slice o dl dc]] w fun e w' => e = .returned (.bool false) ∧ Below w.heap.size w w' := by
  have B0 := Box.start w (.int .i64 5) (.int .i64 n) (.string s) (.slice ko kl kc) (.slice o dl dc) 27
  have HX := Lib.hid B0
  have HF := Lib.hid (formOf_map n s ko o kl kc dl dc)
  have FF := Lib.hid ff
  clear ff
  have hs1 := bytes_ne hs
  have hs2 := empty_ne hs
  subst en
  clear B0
  go_enter Tryz.func67, Tryz.ntmps67
  go_wp2_with fail
  refine (HF.out _).mono ?_
  rintro e w1 ⟨rfl, hb1⟩
  have HX1 := Lib.hid (HX.out.next hb1)
  clear hb1
  go_wp2_with fail
  refine (FF.out _ HX1.out.below).mono ?_
  rintro e w2 ⟨rfl, hb2⟩
  have HX2 := Lib.hid (HX1.out.next hb2)
  have HM := meth_map
  clear hb2
  go_wp2_with fail
  refine (node_map ko o kl kc dl dc _).mono ?_
  rintro e w3 ⟨rfl, hb3⟩
  have HX3 := HX2.out.next hb3
  have XA := Lib.hid fun ob => HX3.next ((Below.refl _ w3).alloc (Nat.le_refl _) ob)
  have HB := Lib.hid fun ob => (XA.out ob).below
  have x1 := fun ob => (XA.out ob).c1
  have x2 := fun ob => (XA.out ob).c2
  have x3 := fun ob => (XA.out ob).c3
  have x4 := fun ob => (XA.out ob).c4
  clear hb3 HX3
  go_wp2
  go_ret
  refine ⟨?_, HB.out _⟩
  first
    | rfl
    | exact ret_bool (by simp; omega)

set_option maxRecDepth 100000 in
set_option maxHeartbeats 800000 in
theorem nodeOk_map_good (n : Int) (s : ByteArray) (ko o : Option Addr) (kl kc dl dc : Nat) (w : World) (ff : ∀ w' : World, Below w.heap.size w w' → Calls Tryz.prog 102 #[.iface 74 (.agg #[.slice ko kl kc, .slice o dl dc])] w' fun e w'' => e = .returned (.bool true) ∧ Below w'.heap.size w' w'') (en : n = 0) (es : s = ⟨#[]⟩) : Calls Tryz.prog 67 #[.agg #[.int .i64 5, .int .i64 n, .string s, .slice ko kl kc, .slice o dl dc]] w fun e w' => e = .returned (.bool true) ∧ Below w.heap.size w w' := by
  have B0 := Box.start w (.int .i64 5) (.int .i64 n) (.string s) (.slice ko kl kc) (.slice o dl dc) 27
  have HX := Lib.hid B0
  have HF := Lib.hid (formOf_map n s ko o kl kc dl dc)
  have FF := Lib.hid ff
  clear ff
  subst en
  subst es
  clear B0
  go_enter Tryz.func67, Tryz.ntmps67
  go_wp2_with fail
  refine (HF.out _).mono ?_
  rintro e w1 ⟨rfl, hb1⟩
  have HX1 := Lib.hid (HX.out.next hb1)
  clear hb1
  go_wp2_with fail
  refine (FF.out _ HX1.out.below).mono ?_
  rintro e w2 ⟨rfl, hb2⟩
  have HX2 := Lib.hid (HX1.out.next hb2)
  have HM := meth_map
  clear hb2
  go_wp2_with fail
  refine (node_map ko o kl kc dl dc _).mono ?_
  rintro e w3 ⟨rfl, hb3⟩
  have HX3 := HX2.out.next hb3
  have XA := Lib.hid fun ob => HX3.next ((Below.refl _ w3).alloc (Nat.le_refl _) ob)
  have HB := Lib.hid fun ob => (XA.out ob).below
  have x1 := fun ob => (XA.out ob).c1
  have x2 := fun ob => (XA.out ob).c2
  have x3 := fun ob => (XA.out ob).c3
  have x4 := fun ob => (XA.out ob).c4
  clear hb3 HX3
  go_wp2
  go_ret
  refine ⟨?_, HB.out _⟩
  first
    | rfl
    | exact ret_bool (by simp; omega)

set_option maxRecDepth 100000 in
set_option maxHeartbeats 800000 in
theorem nodeOk_map_none (n : Int) (s : ByteArray) (ko o : Option Addr) (kl kc dl dc : Nat) (w : World) (ff : ∀ w' : World, Below w.heap.size w w' → Calls Tryz.prog 102 #[.iface 74 (.agg #[.slice ko kl kc, .slice o dl dc])] w' fun e w'' => e = .returned (.bool false) ∧ Below w'.heap.size w' w'') : Calls Tryz.prog 67 #[.agg #[.int .i64 5, .int .i64 n, .string s, .slice ko kl kc, .slice o dl dc]] w fun e w' => e = .returned (.bool false) ∧ Below w.heap.size w w' := by
  have B0 := Box.start w (.int .i64 5) (.int .i64 n) (.string s) (.slice ko kl kc) (.slice o dl dc) 27
  have HX := Lib.hid B0
  have HF := Lib.hid (formOf_map n s ko o kl kc dl dc)
  have FF := Lib.hid ff
  clear ff
  clear B0
  go_enter Tryz.func67, Tryz.ntmps67
  go_wp2_with fail
  refine (HF.out _).mono ?_
  rintro e w1 ⟨rfl, hb1⟩
  have HX1 := Lib.hid (HX.out.next hb1)
  clear hb1
  go_wp2_with fail
  refine (FF.out _ HX1.out.below).mono ?_
  rintro e w2 ⟨rfl, hb2⟩
  have HB := Lib.hid (HX1.out.next hb2).below
  clear hb2
  go_wp2
  go_ret
  exact ⟨rfl, HB.out⟩

set_option maxRecDepth 100000 in
set_option maxHeartbeats 800000 in
theorem nodeOk_none (k : Int) (h0 : ¬ k = 0) (h1 : ¬ k = 1) (h2 : ¬ k = 2) (h3 : ¬ k = 3) (h4 : ¬ k = 4) (h5 : ¬ k = 5) (n : Int) (s : ByteArray) (ko o : Option Addr) (kl kc dl dc : Nat) (w : World) : Calls Tryz.prog 67 #[.agg #[.int .i64 k, .int .i64 n, .string s, .slice ko kl kc, .slice o dl dc]] w fun e w' => e = .returned (.bool false) ∧ Below w.heap.size w w' := by
  have HX := Lib.hid (Box.start w (.int .i64 k) (.int .i64 n) (.string s) (.slice ko kl kc) (.slice o dl dc) 27)
  have HF := Lib.hid (formOf_none k h0 h1 h2 h3 h4 h5 n s ko o kl kc dl dc)
  clear h0 h1 h2 h3 h4 h5
  go_enter Tryz.func67, Tryz.ntmps67
  go_wp2_with fail
  refine (HF.out _).mono ?_
  rintro e w1 ⟨rfl, hb1⟩
  have HB := Lib.hid (HX.out.next hb1).below
  clear hb1
  go_wp2
  go_ret
  exact ⟨rfl, HB.out⟩

end Go.Proofs.YtmcjghhmcmkomaaGreatDoor

/- plain facts on which trees are right, how deep they are and how many nodes they have; the program's nodeOk at every node. -/
namespace Go.Proofs.YtmcjghhmcmkomaaGreatDoor
open Go Go.RowKit

theorem head0 {n : Int} {s : ByteArray} {keys : List ByteArray} {kids : List RT} : HeadOk (.node 0 n s keys kids) ↔ (n = 0 ∧ s = ⟨#[]⟩ ∧ keys.length = 0 ∧ kids.length = 0) := by simp [HeadOk, RT.k, RT.n, RT.s, RT.keys, RT.kids]
theorem head1 {n : Int} {s : ByteArray} {keys : List ByteArray} {kids : List RT} : HeadOk (.node 1 n s keys kids) ↔ ((n = 0 ∨ n = 1) ∧ s = ⟨#[]⟩ ∧ keys.length = 0 ∧ kids.length = 0) := by simp [HeadOk, RT.k, RT.n, RT.s, RT.keys, RT.kids]
theorem head2 {n : Int} {s : ByteArray} {keys : List ByteArray} {kids : List RT} : HeadOk (.node 2 n s keys kids) ↔ ((-1000000000000 ≤ n ∧ n ≤ 1000000000000) ∧ s = ⟨#[]⟩ ∧ keys.length = 0 ∧ kids.length = 0) := by simp [HeadOk, RT.k, RT.n, RT.s, RT.keys, RT.kids]
theorem head3 {n : Int} {s : ByteArray} {keys : List ByteArray} {kids : List RT} : HeadOk (.node 3 n s keys kids) ↔ (n = 0 ∧ textOk s = true ∧ keys.length = 0 ∧ kids.length = 0) := by simp [HeadOk, RT.k, RT.n, RT.s, RT.keys, RT.kids]
theorem head4 {n : Int} {s : ByteArray} {keys : List ByteArray} {kids : List RT} : HeadOk (.node 4 n s keys kids) ↔ (n = 0 ∧ s = ⟨#[]⟩ ∧ keys.length = 0) := by simp [HeadOk, RT.k, RT.n, RT.s, RT.keys, RT.kids]
theorem head5 {n : Int} {s : ByteArray} {keys : List ByteArray} {kids : List RT} : HeadOk (.node 5 n s keys kids) ↔ (n = 0 ∧ s = ⟨#[]⟩ ∧ keys.length = kids.length ∧ keysOk keys = true) := by simp [HeadOk, RT.k, RT.n, RT.s, RT.keys, RT.kids]
theorem head_none {k n : Int} {s : ByteArray} {keys : List ByteArray} {kids : List RT} (h0 : ¬ k = 0) (h1 : ¬ k = 1) (h2 : ¬ k = 2) (h3 : ¬ k = 3) (h4 : ¬ k = 4) (h5 : ¬ k = 5) : ¬ HeadOk (.node k n s keys kids) := by simp [HeadOk, RT.k, h0, h1, h2, h3, h4, h5]

theorem impl_nodeOk (T : RT) (w : World) (kv dv : Value) (F : List Nat) (hl : Lies w T kv dv F) :
    Calls Tryz.prog 67 #[T.val kv dv] w fun e w' => e = .returned (.bool (headOk T)) ∧ Below w.heap.size w w' := by
  obtain ⟨k, n, s, keys, kids⟩ := T
  obtain ⟨-, -, hs, FK, FD, hK, hD, -⟩ := hl.outn
  have hK' := hK
  obtain ⟨ko, kc, rfl⟩ := hK.slice
  obtain ⟨o, dc, rfl⟩ := hD.slice
  show Calls Tryz.prog 67 #[.agg #[.int .i64 k, .int .i64 n, .string s, .slice ko keys.length kc, .slice o kids.length dc]] w _
  by_cases k0 : k = 0
  · subst k0
    by_cases e1 : n = 0
    · by_cases e2 : s = ⟨#[]⟩
      · by_cases e3 : keys.length = 0
        · by_cases e4 : kids.length = 0
          · rw [headOk_yes (head0.2 ⟨e1, e2, e3, e4⟩)]; exact nodeOk_null_good n s ko o _ kc _ dc w e1 e2 e3 e4
          · rw [headOk_no (fun h => e4 (head0.1 h).2.2.2)]; exact nodeOk_null_bad_d n s ko o _ kc _ dc w e1 e2 e3 (by omega)
        · rw [headOk_no (fun h => e3 (head0.1 h).2.2.1)]; exact nodeOk_null_bad_k n s ko o _ kc _ dc w e1 e2 (by omega)
      · rw [headOk_no (fun h => e2 (head0.1 h).2.1)]; exact nodeOk_null_bad_s n s ko o _ kc _ dc w e1 e2
    · rw [headOk_no (fun h => e1 (head0.1 h).1)]; exact nodeOk_null_bad_n n s ko o _ kc _ dc w e1
  by_cases k1 : k = 1
  · subst k1
    by_cases e1 : n = 0 ∨ n = 1
    · by_cases e2 : s = ⟨#[]⟩
      · by_cases e3 : keys.length = 0
        · by_cases e4 : kids.length = 0
          · rw [headOk_yes (head1.2 ⟨e1, e2, e3, e4⟩)]; exact nodeOk_flag_good n s ko o _ kc _ dc w e1 e2 e3 e4
          · rw [headOk_no (fun h => e4 (head1.1 h).2.2.2)]; exact nodeOk_flag_bad_d n s ko o _ kc _ dc w e1 e2 e3 (by omega)
        · rw [headOk_no (fun h => e3 (head1.1 h).2.2.1)]; exact nodeOk_flag_bad_k n s ko o _ kc _ dc w e1 e2 (by omega)
      · rw [headOk_no (fun h => e2 (head1.1 h).2.1)]; exact nodeOk_flag_bad_s n s ko o _ kc _ dc w e1 e2
    · rw [headOk_no (fun h => e1 (head1.1 h).1)]; exact nodeOk_flag_none n s ko o _ kc _ dc w (fun h => e1 (.inl h)) (fun h => e1 (.inr h))
  by_cases k2 : k = 2
  · subst k2
    by_cases e0 : -1000000000000 ≤ n
    · by_cases e1 : n ≤ 1000000000000
      · by_cases e2 : s = ⟨#[]⟩
        · by_cases e3 : keys.length = 0
          · by_cases e4 : kids.length = 0
            · rw [headOk_yes (head2.2 ⟨⟨e0, e1⟩, e2, e3, e4⟩)]; exact nodeOk_int_good n s ko o _ kc _ dc w e0 e1 e2 e3 e4
            · rw [headOk_no (fun h => e4 (head2.1 h).2.2.2)]; exact nodeOk_int_bad_d n s ko o _ kc _ dc w e0 e1 e2 e3 (by omega)
          · rw [headOk_no (fun h => e3 (head2.1 h).2.2.1)]; exact nodeOk_int_bad_k n s ko o _ kc _ dc w e0 e1 e2 (by omega)
        · rw [headOk_no (fun h => e2 (head2.1 h).2.1)]; exact nodeOk_int_bad_s n s ko o _ kc _ dc w e0 e1 e2
      · rw [headOk_no (fun h => e1 (head2.1 h).1.2)]; exact nodeOk_int_high n s ko o _ kc _ dc w e0 e1
    · rw [headOk_no (fun h => e0 (head2.1 h).1.1)]; exact nodeOk_int_low n s ko o _ kc _ dc w e0
  by_cases k3 : k = 3
  · subst k3
    by_cases e2 : textOk s = true
    · by_cases e1 : n = 0
      · by_cases e3 : keys.length = 0
        · by_cases e4 : kids.length = 0
          · rw [headOk_yes (head3.2 ⟨e1, e2, e3, e4⟩)]; exact nodeOk_text_good n s ko o _ kc _ dc w hs e2 e1 e3 e4
          · rw [headOk_no (fun h => e4 (head3.1 h).2.2.2)]; exact nodeOk_text_bad_d n s ko o _ kc _ dc w hs e2 e1 e3 (by omega)
        · rw [headOk_no (fun h => e3 (head3.1 h).2.2.1)]; exact nodeOk_text_bad_k n s ko o _ kc _ dc w hs e2 e1 (by omega)
      · rw [headOk_no (fun h => e1 (head3.1 h).1)]; exact nodeOk_text_bad_n n s ko o _ kc _ dc w hs e2 e1
    · rw [headOk_no (fun h => e2 (head3.1 h).2.1)]; exact nodeOk_text_none n s ko o _ kc _ dc w hs (by simpa using e2)
  by_cases k4 : k = 4
  · subst k4
    by_cases e1 : n = 0
    · by_cases e2 : s = ⟨#[]⟩
      · by_cases e3 : keys.length = 0
        · rw [headOk_yes (head4.2 ⟨e1, e2, e3⟩)]; exact nodeOk_list_good n s ko o _ kc _ dc w e1 e2 e3
        · rw [headOk_no (fun h => e3 (head4.1 h).2.2)]; exact nodeOk_list_bad_k n s ko o _ kc _ dc w e1 e2 (by omega)
      · rw [headOk_no (fun h => e2 (head4.1 h).2.1)]; exact nodeOk_list_bad_s n s ko o _ kc _ dc w e1 e2
    · rw [headOk_no (fun h => e1 (head4.1 h).1)]; exact nodeOk_list_bad_n n s ko o _ kc _ dc w e1
  by_cases k5 : k = 5
  · subst k5
    by_cases e3 : keys.length = kids.length
    · have ff : ∀ w' : World, Below w.heap.size w w' → Calls Tryz.prog 102 #[.iface 74 (.agg #[.slice ko keys.length kc, .slice o kids.length dc])] w' fun e w'' => e = .returned (.bool (keysOk keys)) ∧ Below w'.heap.size w' w'' := fun w' hb => by
        rw [← e3]
        exact formOk_map_yes _ keys FK o dc w' (hK'.stay hb (Nat.le_refl _))
      by_cases e4 : keysOk keys = true
      · rw [e4] at ff
        by_cases e1 : n = 0
        · by_cases e2 : s = ⟨#[]⟩
          · rw [headOk_yes (head5.2 ⟨e1, e2, e3, e4⟩)]; exact nodeOk_map_good n s ko o _ kc _ dc w ff e1 e2
          · rw [headOk_no (fun h => e2 (head5.1 h).2.1)]; exact nodeOk_map_bad_s n s ko o _ kc _ dc w ff e1 e2
        · rw [headOk_no (fun h => e1 (head5.1 h).1)]; exact nodeOk_map_bad_n n s ko o _ kc _ dc w ff e1
      · have e4' : keysOk keys = false := by simpa using e4
        rw [e4'] at ff
        rw [headOk_no (fun h => e4 (head5.1 h).2.2.2)]; exact nodeOk_map_none n s ko o _ kc _ dc w ff
    · rw [headOk_no (fun h => e3 (head5.1 h).2.2.1)]
      exact nodeOk_map_none n s ko o _ kc _ dc w fun w' _ => formOk_map_no ko o _ kc _ dc (by omega) w'
  · rw [headOk_no (head_none k0 k1 k2 k3 k4 k5)]
    exact nodeOk_none k k0 k1 k2 k3 k4 k5 n s ko o _ kc _ dc w

/-! ### Depth, size, rightness -/

mutual
def RT.deep : RT → Nat
  | .node _ _ _ _ kids => deepAll kids + 1
def deepAll : List RT → Nat
  | [] => 0
  | t :: ts => max t.deep (deepAll ts)
end
mutual
def RT.size : RT → Nat
  | .node _ _ _ _ kids => sizeAll kids + 1
def sizeAll : List RT → Nat
  | [] => 0
  | t :: ts => t.size + sizeAll ts
end
mutual
noncomputable def RT.right : RT → Bool
  | .node k n s keys kids => headOk (.node k n s keys kids) && rightAll kids
noncomputable def rightAll : List RT → Bool
  | [] => true
  | t :: ts => t.right && rightAll ts
end

theorem deepAll_take (l : List RT) (i : Nat) (h : i < l.length) : deepAll (l.take (i + 1)) = max (deepAll (l.take i)) l[i].deep := by
  induction l generalizing i with
  | nil => simp at h
  | cons t l ih =>
    cases i with
    | zero => simp [deepAll]
    | succ i =>
      have := ih i (by simpa using h)
      simp only [List.take_succ_cons, deepAll, List.getElem_cons_succ, this]
      omega
theorem deepAll_take_le (l : List RT) (i : Nat) : deepAll (l.take i) ≤ deepAll l := by
  induction l generalizing i with
  | nil => simp
  | cons t l ih =>
    cases i with
    | zero => simp [deepAll]
    | succ i =>
      have := ih i
      simp only [List.take_succ_cons, deepAll]
      omega
theorem sizeAll_take (l : List RT) (i : Nat) (h : i < l.length) : sizeAll (l.take (i + 1)) = sizeAll (l.take i) + l[i].size := by
  induction l generalizing i with
  | nil => simp at h
  | cons t l ih =>
    cases i with
    | zero => simp [sizeAll]
    | succ i =>
      have := ih i (by simpa using h)
      simp only [List.take_succ_cons, sizeAll, List.getElem_cons_succ, this]
      omega
theorem sizeAll_take_le (l : List RT) (i : Nat) : sizeAll (l.take i) ≤ sizeAll l := by
  induction l generalizing i with
  | nil => simp
  | cons t l ih =>
    cases i with
    | zero => simp [sizeAll]
    | succ i =>
      have := ih i
      simp only [List.take_succ_cons, sizeAll]
      omega
theorem rightAll_iff (l : List RT) : rightAll l = true ↔ ∀ i (h : i < l.length), l[i].right = true := by
  induction l with
  | nil => simp [rightAll]
  | cons t l ih =>
    rw [rightAll, Bool.and_eq_true, ih]
    constructor
    · rintro ⟨h1, h2⟩ i hi
      cases i with
      | zero => exact h1
      | succ i => exact h2 i (by simpa using hi)
    · intro h
      exact ⟨h 0 (by simp), fun i hi => h (i + 1) (by simpa using hi)⟩

theorem deep_sz (T : RT) : T.deep ≤ T.sz + 1 := by
  induction T using RT.ind with
  | h k n s keys kids ih =>
    have h : ∀ l : List RT, (∀ t ∈ l, t.deep ≤ t.sz + 1) → deepAll l ≤ l.length + szAll l := by
      intro l hl
      induction l with
      | nil => simp [deepAll]
      | cons t l ihl =>
        have h1 := hl t (by simp)
        have h2 := ihl (fun x hx => hl x (by simp [hx]))
        simp only [deepAll, szAll, List.length_cons]
        omega
    have := h kids ih
    simp only [RT.deep, RT.sz]
    omega
theorem size_sz (T : RT) : T.size ≤ T.sz + 1 := by
  induction T using RT.ind with
  | h k n s keys kids ih =>
    have h : ∀ l : List RT, (∀ t ∈ l, t.size ≤ t.sz + 1) → sizeAll l ≤ l.length + szAll l := by
      intro l hl
      induction l with
      | nil => simp [sizeAll]
      | cons t l ihl =>
        have h1 := hl t (by simp)
        have h2 := ihl (fun x hx => hl x (by simp [hx]))
        simp only [sizeAll, szAll, List.length_cons]
        omega
    have := h kids ih
    simp only [RT.size, RT.sz]
    omega

end Go.Proofs.YtmcjghhmcmkomaaGreatDoor

/- the model's l3Deep and l3Size tell how deep a tree is and how many nodes it has. -/
namespace Go.Proofs.YtmcjghhmcmkomaaGreatDoor
open Go Go.RowKit

def DeepAt (T : RT) : Prop := ∀ (w : World) (kv dv : Value) (F : List Nat), Lies w T kv dv F → T.sz ≤ 1048576 →
  Calls Tryz.prog 43 #[T.val kv dv] w fun e w' => e = .returned (.int .i64 (T.deep : Nat)) ∧ Below w.heap.size w w'
def SizeAt (T : RT) : Prop := ∀ (w : World) (kv dv : Value) (F : List Nat), Lies w T kv dv F → T.sz ≤ 1048576 →
  Calls Tryz.prog 44 #[T.val kv dv] w fun e w' => e = .returned (.int .i64 (T.size : Nat)) ∧ Below w.heap.size w w'

set_option maxHeartbeats 400000 in
theorem spec_max (a b : Nat) (w : World) : Calls Tryz.prog 71 #[.int .i64 (a : Nat), .int .i64 (b : Nat)] w fun e w' => e = .returned (.int .i64 (max a b : Nat)) ∧ w' = w := by
  by_cases h : (a : Int) > b
  · go_enter Tryz.func71, Tryz.ntmps71
    go_wp2
    go_ret
    exact ⟨ret_int (by omega), rfl⟩
  · go_enter Tryz.func71, Tryz.ntmps71
    go_wp2
    go_ret
    exact ⟨ret_int (by omega), rfl⟩

set_option maxRecDepth 100000 in
set_option maxHeartbeats 800000 in
theorem spec_deep (T : RT) : DeepAt T := by
  induction T using RT.ind with
  | h k n s keys kids ih =>
    intro w kv dv F hl hsz
    have hdp := deep_sz (.node k n s keys kids)
    obtain ⟨-, -, -, FK, FD, -, hD, -⟩ := hl.outn
    obtain ⟨o, cap, b, off, FF, KV, DV, rfl, hlc, hcm, ho, -, hcell, hlies, -⟩ := hD
    have hsk : ∀ t ∈ kids, t.sz ≤ 1048576 := fun t ht => by
      have := sz_take kids ht
      simp only [RT.sz] at hsz
      omega
    simp only [RT.deep] at hdp
    have hdb : deepAll kids ≤ 1048576 := by omega
    have HX := Lib.hid (Box.start w (.int .i64 k) (.int .i64 n) (.string s) kv (.slice o kids.length cap) 27)
    have HC := Lib.hid hcell
    have HL := Lib.hid hlies
    have HO := Lib.hid ho
    clear hcell hlies ho hl hdp hsz
    unfold maxLen at hcm
    show Calls Tryz.prog 43 #[.agg #[.int .i64 k, .int .i64 n, .string s, kv, .slice o kids.length cap]] w fun e w' => e = .returned (.int .i64 (deepAll kids + 1 : Nat)) ∧ Below w.heap.size w w'
    go_enter Tryz.func43, Tryz.ntmps43
    go_wp2
    go_loopw [3, 4] (fun m i wr => ∃ j : Nat, j ≤ kids.length ∧ i = .int .i64 j ∧ m = .int .i64 (deepAll (kids.take j) : Nat) ∧ Hid (Box w wr (.int .i64 k) (.int .i64 n) (.string s) kv (.slice o kids.length cap))) (fun _ i _ => kids.length - (intOf i).toNat)
    case atStart => exact ⟨0, Nat.zero_le _, rfl, by simp [deepAll], HX.out⟩
    case round =>
      obtain ⟨j, hj, rfl, rfl, hx⟩ := hrel
      obtain ⟨hb, -, x0, x1, x2, x3, x4⟩ := hx.out
      by_cases hlt : j < kids.length
      · have ho := HO.out (by omega)
        subst ho
        obtain ⟨c0, c1, c2, c3, c4⟩ := kid_cells (HC.out j hlt) hb
        have HI := Lib.hid (ih _ (List.getElem_mem hlt) wr _ _ _ ((HL.out j hlt).stay hb (Nat.le_refl _)) (hsk _ (List.getElem_mem hlt)))
        have HE := Lib.hid (deepAll_take kids j hlt)
        generalize kids[j] = x at *
        have HM := Lib.hid (spec_max (deepAll (kids.take j)) x.deep)
        clear hb
        go_wp2_with (first
          | (go_at_call 43; refine HI.out.mono ?_; rintro e w1 ⟨rfl, hb1⟩; have HB1 := Lib.hid hb1; clear hb1)
          | (go_at_call 71; refine (HM.out _).mono ?_; rintro e w2 ⟨rfl, e2⟩; subst e2)
          | go_in)
        exact ⟨⟨j + 1, by omega, by go_num, by rw [HE.out], hx.out.next HB1.out⟩, by simp [intOf]; omega⟩
      · have e : kids.take j = kids := List.take_of_length_le (by omega)
        rw [e]
        have HB := Lib.hid hb
        clear hb
        go_wp2
        go_ret
        exact ⟨ret_int (by omega), HB.out⟩

set_option maxRecDepth 100000 in
set_option maxHeartbeats 800000 in
theorem spec_size (T : RT) : SizeAt T := by
  induction T using RT.ind with
  | h k n s keys kids ih =>
    intro w kv dv F hl hsz
    have hdp := size_sz (.node k n s keys kids)
    obtain ⟨-, -, -, FK, FD, -, hD, -⟩ := hl.outn
    obtain ⟨o, cap, b, off, FF, KV, DV, rfl, hlc, hcm, ho, -, hcell, hlies, -⟩ := hD
    have hsk : ∀ t ∈ kids, t.sz ≤ 1048576 := fun t ht => by
      have := sz_take kids ht
      simp only [RT.sz] at hsz
      omega
    simp only [RT.size] at hdp
    have hdb : sizeAll kids ≤ 1048576 := by omega
    have HX := Lib.hid (Box.start w (.int .i64 k) (.int .i64 n) (.string s) kv (.slice o kids.length cap) 27)
    have HC := Lib.hid hcell
    have HL := Lib.hid hlies
    have HO := Lib.hid ho
    clear hcell hlies ho hl hdp hsz
    unfold maxLen at hcm
    show Calls Tryz.prog 44 #[.agg #[.int .i64 k, .int .i64 n, .string s, kv, .slice o kids.length cap]] w fun e w' => e = .returned (.int .i64 (sizeAll kids + 1 : Nat)) ∧ Below w.heap.size w w'
    go_enter Tryz.func44, Tryz.ntmps44
    go_wp2
    go_loopw [3, 4] (fun m i wr => ∃ j : Nat, j ≤ kids.length ∧ i = .int .i64 j ∧ m = .int .i64 (sizeAll (kids.take j) + 1 : Nat) ∧ Hid (Box w wr (.int .i64 k) (.int .i64 n) (.string s) kv (.slice o kids.length cap))) (fun _ i _ => kids.length - (intOf i).toNat)
    case atStart => exact ⟨0, Nat.zero_le _, rfl, by simp [sizeAll], HX.out⟩
    case round =>
      obtain ⟨j, hj, rfl, rfl, hx⟩ := hrel
      obtain ⟨hb, -, x0, x1, x2, x3, x4⟩ := hx.out
      by_cases hlt : j < kids.length
      · have ho := HO.out (by omega)
        subst ho
        obtain ⟨c0, c1, c2, c3, c4⟩ := kid_cells (HC.out j hlt) hb
        have HI := Lib.hid (ih _ (List.getElem_mem hlt) wr _ _ _ ((HL.out j hlt).stay hb (Nat.le_refl _)) (hsk _ (List.getElem_mem hlt)))
        have he := sizeAll_take kids j hlt
        have hle := sizeAll_take_le kids (j + 1)
        generalize kids[j] = x at *
        have HE := Lib.hid he
        have hbd : sizeAll (kids.take j) + x.size ≤ 1048576 := by omega
        clear hb he hle
        go_wp2_with (first
          | (go_at_call 44; refine HI.out.mono ?_; rintro e w1 ⟨rfl, hb1⟩; have HB1 := Lib.hid hb1; clear hb1)
          | go_in)
        exact ⟨⟨j + 1, by omega, by go_num, by rw [HE.out]; congr 1; omega, hx.out.next HB1.out⟩, by simp [intOf]; omega⟩
      · have e : kids.take j = kids := List.take_of_length_le (by omega)
        rw [e]
        have HB := Lib.hid hb
        clear hb
        go_wp2
        go_ret
        exact ⟨ret_int (by omega), HB.out⟩
end Go.Proofs.YtmcjghhmcmkomaaGreatDoor

/- the model's l3Leaf and l3Right tell whether a tree is right. -/
namespace Go.Proofs.YtmcjghhmcmkomaaGreatDoor
open Go Go.RowKit

section
variable (n : Int) (s : ByteArray) (ko o : Option Addr) (kl kc dl dc : Nat) (w : World)

set_option maxRecDepth 100000 in
set_option maxHeartbeats 800000 in
theorem leaf_kids (k : Int) (h : 0 < dl) (hm : dl ≤ maxLen) : Calls Tryz.prog 72 #[.agg #[.int .i64 k, .int .i64 n, .string s, .slice ko kl kc, .slice o dl dc]] w fun e w' => e = .returned (.bool false) ∧ Below w.heap.size w w' := by
  unfold maxLen at hm
  have h' : (0 : Int) < dl := by omega
  go_enter Tryz.func72, Tryz.ntmps72
  go_wp2
  go_ret
  exact ⟨rfl, (Below.refl _ w).alloc (Nat.le_refl _) _⟩

set_option maxRecDepth 100000 in
set_option maxHeartbeats 800000 in
theorem leaf_keys (k : Int) (h : 0 < kl) (hm : kl ≤ maxLen) : Calls Tryz.prog 72 #[.agg #[.int .i64 k, .int .i64 n, .string s, .slice ko kl kc, .slice o 0 dc]] w fun e w' => e = .returned (.bool false) ∧ Below w.heap.size w w' := by
  unfold maxLen at hm
  have h' : (0 : Int) < kl := by omega
  go_enter Tryz.func72, Tryz.ntmps72
  go_wp2
  go_ret
  exact ⟨rfl, (Below.refl _ w).alloc (Nat.le_refl _) _⟩

set_option maxRecDepth 100000 in
set_option maxHeartbeats 1600000 in
theorem leaf_head (k : Int) (hs : s.size ≤ maxLen) (h4 : ¬ k = 4) (h5 : ¬ k = 5) : Calls Tryz.prog 72 #[.agg #[.int .i64 k, .int .i64 n, .string s, .slice ko 0 kc, .slice o 0 dc]] w fun e w' => e = .returned (.bool (headOk (.node k n s [] []))) ∧ Below w.heap.size w w' := by
  by_cases k0 : k = 0
  · subst k0
    by_cases e1 : n = 0
    · by_cases e2 : s = ⟨#[]⟩
      · subst e1 e2
        rw [headOk_yes (head0.2 ⟨rfl, rfl, rfl, rfl⟩)]
        clear hs h4 h5
        go_enter Tryz.func72, Tryz.ntmps72
        go_wp2
        go_ret
        exact ⟨rfl, (Below.refl _ w).alloc (Nat.le_refl _) _⟩
      · subst e1
        rw [headOk_no (fun h => e2 (head0.1 h).2.1)]
        have hs1 := bytes_ne e2
        have hs2 := empty_ne e2
        clear hs h4 h5
        go_enter Tryz.func72, Tryz.ntmps72
        go_wp2
        go_ret
        exact ⟨by first | rfl | (exact ret_bool (by simp [hs2])), (Below.refl _ w).alloc (Nat.le_refl _) _⟩
    · rw [headOk_no (fun h => e1 (head0.1 h).1)]
      clear hs h4 h5
      go_enter Tryz.func72, Tryz.ntmps72
      go_wp2
      go_ret
      exact ⟨rfl, (Below.refl _ w).alloc (Nat.le_refl _) _⟩
  by_cases k1 : k = 1
  · subst k1
    by_cases e0 : 0 ≤ n
    · by_cases e1 : n ≤ 1
      · by_cases e2 : s = ⟨#[]⟩
        · subst e2
          rw [headOk_yes (head1.2 ⟨by omega, rfl, rfl, rfl⟩)]
          clear hs h4 h5 k0
          go_enter Tryz.func72, Tryz.ntmps72
          go_wp2
          go_ret
          exact ⟨rfl, (Below.refl _ w).alloc (Nat.le_refl _) _⟩
        · rw [headOk_no (fun h => e2 (head1.1 h).2.1)]
          have hs1 := bytes_ne e2
          have hs2 := empty_ne e2
          clear hs h4 h5 k0
          go_enter Tryz.func72, Tryz.ntmps72
          go_wp2
          go_ret
          exact ⟨by first | rfl | (exact ret_bool (by simp [hs2])), (Below.refl _ w).alloc (Nat.le_refl _) _⟩
      · rw [headOk_no (fun h => by have := (head1.1 h).1; omega)]
        clear hs h4 h5 k0
        go_enter Tryz.func72, Tryz.ntmps72
        go_wp2
        go_ret
        exact ⟨rfl, (Below.refl _ w).alloc (Nat.le_refl _) _⟩
    · rw [headOk_no (fun h => by have := (head1.1 h).1; omega)]
      clear hs h4 h5 k0
      go_enter Tryz.func72, Tryz.ntmps72
      go_wp2
      go_ret
      exact ⟨rfl, (Below.refl _ w).alloc (Nat.le_refl _) _⟩
  by_cases k2 : k = 2
  · subst k2
    by_cases e0 : -1000000000000 ≤ n
    · by_cases e1 : n ≤ 1000000000000
      · by_cases e2 : s = ⟨#[]⟩
        · subst e2
          rw [headOk_yes (head2.2 ⟨⟨e0, e1⟩, rfl, rfl, rfl⟩)]
          clear hs h4 h5 k0 k1
          go_enter Tryz.func72, Tryz.ntmps72
          go_wp2
          go_ret
          exact ⟨rfl, (Below.refl _ w).alloc (Nat.le_refl _) _⟩
        · rw [headOk_no (fun h => e2 (head2.1 h).2.1)]
          have hs1 := bytes_ne e2
          have hs2 := empty_ne e2
          clear hs h4 h5 k0 k1
          go_enter Tryz.func72, Tryz.ntmps72
          go_wp2
          go_ret
          exact ⟨by first | rfl | (exact ret_bool (by simp [hs2])), (Below.refl _ w).alloc (Nat.le_refl _) _⟩
      · rw [headOk_no (fun h => e1 (head2.1 h).1.2)]
        clear hs h4 h5 k0 k1
        go_enter Tryz.func72, Tryz.ntmps72
        go_wp2
        go_ret
        exact ⟨rfl, (Below.refl _ w).alloc (Nat.le_refl _) _⟩
    · rw [headOk_no (fun h => e0 (head2.1 h).1.1)]
      clear hs h4 h5 k0 k1
      go_enter Tryz.func72, Tryz.ntmps72
      go_wp2
      go_ret
      exact ⟨rfl, (Below.refl _ w).alloc (Nat.le_refl _) _⟩
  by_cases k3 : k = 3
  · subst k3
    have HT := Lib.hid (spec_textOk s hs)
    by_cases e1 : n = 0
    · subst e1
      have e : headOk (.node 3 0 s [] []) = textOk s := by
        by_cases ht : textOk s = true
        · rw [ht, headOk_yes (head3.2 ⟨rfl, ht, rfl, rfl⟩)]
        · have ht' : textOk s = false := by simpa using ht
          rw [ht', headOk_no (fun h => ht (head3.1 h).2.1)]
      rw [e]
      clear hs h4 h5 k0 k1 k2 e
      generalize textOk s = tb at *
      go_enter Tryz.func72, Tryz.ntmps72
      go_wp2_with (first | (go_at_call 74; refine (HT.out _).mono ?_; rintro e w1 ⟨rfl, e1⟩; subst e1) | go_in)
      go_ret
      exact ⟨rfl, (Below.refl _ w).alloc (Nat.le_refl _) _⟩
    · rw [headOk_no (fun h => e1 (head3.1 h).1)]
      clear hs h4 h5 k0 k1 k2
      go_enter Tryz.func72, Tryz.ntmps72
      go_wp2
      go_ret
      exact ⟨rfl, (Below.refl _ w).alloc (Nat.le_refl _) _⟩
  · rw [headOk_no (head_none k0 k1 k2 k3 h4 h5)]
    clear hs h4 h5
    go_enter Tryz.func72, Tryz.ntmps72
    go_wp2
    go_ret
    exact ⟨rfl, (Below.refl _ w).alloc (Nat.le_refl _) _⟩
end
end Go.Proofs.YtmcjghhmcmkomaaGreatDoor
