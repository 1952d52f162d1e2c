/-
  What is proved: the law FnLeaves returns true at every code, and the code reads behind the call as it did; no condition.
-/
import Derived.Test.YthbphkakbjheeaaDrawF
import Derived.Test.YthbphkakbjheeaaListB
import Derived.Test.YthbphkakbjheeaaSameI
namespace Go.Proofs.Ythbphkakbjheeaa
open Go Go.RowKit

/-- Where the leaves' law stands: its four trees in their blocks; the list that was drawn. -/
structure LS (w wr : World) (B : Nat) (fn n : Int) (s : ByteArray) (dv dv' : Value) (kids : List RT) (F F' : List Nat) : Prop where
  below : Below w.heap.size w wr
  c7 : wr.heap[B]? = some (.cells #[.int .i64 1, .int .i64 fn, .string ⟨#[]⟩, .slice none 0 0, .slice none 0 0] 30 (0, 0))
  c8 : wr.heap[B + 1]? = some (.cells #[.int .i64 2, .int .i64 n, .string ⟨#[]⟩, .slice none 0 0, .slice none 0 0] 30 (0, 0))
  c9 : wr.heap[B + 1 + 1]? = some (.cells #[.int .i64 3, .int .i64 0, .string s, .slice none 0 0, .slice none 0 0] 30 (0, 0))
  c10 : wr.heap[B + 1 + 1 + 1]? = some (.cells #[.int .i64 4, .int .i64 0, .string ⟨#[]⟩, .slice none 0 0, dv'] 30 (0, 0))
  lie : KidsLie wr dv kids F
  lst : Lies wr (listT kids) (.slice none 0 0) dv' F'

theorem LS.next {w wr w1 : World} {B : Nat} {fn n : Int} {s : ByteArray} {dv dv' : Value} {kids : List RT} {F F' : List Nat} (h : LS w wr B fn n s dv dv' kids F F') (hb : Below wr.heap.size wr w1) : LS w w1 B fn n s dv dv' kids F F' :=
  have k : ∀ {y : Nat} {o : Obj}, wr.heap[y]? = some o → w1.heap[y]? = some o := fun {y _} h => (hb.block y (Array.getElem?_eq_some_iff.1 h).1).trans h
  ⟨h.below.trans (hb.mono h.below.size), k h.c7, k h.c8, k h.c9, k h.c10, h.lie.stay hb (Nat.le_refl _), h.lst.stay hb (Nat.le_refl _)⟩

theorem LS.start {w wr : World} {fn n : Int} {s : ByteArray} {dv dv' : Value} {kids : List RT} {F F' : List Nat} (hb : Below w.heap.size w wr) (hk : KidsLie wr dv kids F) (hl : Lies wr (listT kids) (.slice none 0 0) dv' F') :
    LS w ((((wr.alloc (.cells #[.int .i64 1, .int .i64 fn, .string ⟨#[]⟩, .slice none 0 0, .slice none 0 0] 30)).alloc (.cells #[.int .i64 2, .int .i64 n, .string ⟨#[]⟩, .slice none 0 0, .slice none 0 0] 30)).alloc (.cells #[.int .i64 3, .int .i64 0, .string s, .slice none 0 0, .slice none 0 0] 30)).alloc (.cells #[.int .i64 4, .int .i64 0, .string ⟨#[]⟩, .slice none 0 0, dv'] 30)) wr.heap.size fn n s dv dv' kids F F' := by
  have hb4 := ((((Below.refl wr.heap.size wr).alloc (Nat.le_refl _) (.cells #[.int .i64 1, .int .i64 fn, .string ⟨#[]⟩, .slice none 0 0, .slice none 0 0] 30)).alloc (by simp) (.cells #[.int .i64 2, .int .i64 n, .string ⟨#[]⟩, .slice none 0 0, .slice none 0 0] 30)).alloc (by simp; omega) (.cells #[.int .i64 3, .int .i64 0, .string s, .slice none 0 0, .slice none 0 0] 30)).alloc (by simp; omega) (.cells #[.int .i64 4, .int .i64 0, .string ⟨#[]⟩, .slice none 0 0, dv'] 30)
  refine ⟨hb.trans (hb4.mono hb.size), ?_, ?_, ?_, ?_, hk.stay hb4 (Nat.le_refl _), hl.stay hb4 (Nat.le_refl _)⟩
  · rw [Below.heap_alloc _ _ _ (by simp; omega), Below.heap_alloc _ _ _ (by simp; omega), Below.heap_alloc _ _ _ (by simp)]
    exact heap_last _ _
  · rw [Below.heap_alloc _ _ _ (by simp), Below.heap_alloc _ _ _ (by simp)]
    have := heap_last (wr.alloc (.cells #[.int .i64 1, .int .i64 fn, .string ⟨#[]⟩, .slice none 0 0, .slice none 0 0] 30)) (.cells #[.int .i64 2, .int .i64 n, .string ⟨#[]⟩, .slice none 0 0, .slice none 0 0] 30)
    simpa using this
  · rw [Below.heap_alloc _ _ _ (by simp)]
    have := heap_last ((wr.alloc (.cells #[.int .i64 1, .int .i64 fn, .string ⟨#[]⟩, .slice none 0 0, .slice none 0 0] 30)).alloc (.cells #[.int .i64 2, .int .i64 n, .string ⟨#[]⟩, .slice none 0 0, .slice none 0 0] 30)) (.cells #[.int .i64 3, .int .i64 0, .string s, .slice none 0 0, .slice none 0 0] 30)
    simpa using this
  · have := heap_last (((wr.alloc (.cells #[.int .i64 1, .int .i64 fn, .string ⟨#[]⟩, .slice none 0 0, .slice none 0 0] 30)).alloc (.cells #[.int .i64 2, .int .i64 n, .string ⟨#[]⟩, .slice none 0 0, .slice none 0 0] 30)).alloc (.cells #[.int .i64 3, .int .i64 0, .string s, .slice none 0 0, .slice none 0 0] 30)) (.cells #[.int .i64 4, .int .i64 0, .string ⟨#[]⟩, .slice none 0 0, dv'] 30)
    simpa using this

set_option maxRecDepth 100000 in
theorem leaves_long (a : Option Addr) (len cap : Nat) (_hm : len ≤ 9223372036854775807) (hs : (1048576 : Int) < len) (w : World) :
    Calls Try.prog 3 #[.slice a len cap] w fun e w' => e = .returned (.bool true) ∧ Below w.heap.size w w' := by
  go_enter Try.func3, Try.ntmps3
  go_wp2
  go_ret
  exact ⟨rfl, Below.refl _ _⟩

theorem big_no (a : Option Addr) (len cap : Nat) (hs : ¬ (1048576 : Int) < len) (w : World) : Calls Try.prog 12 #[.slice a len cap] w fun e w' => e = .returned (.bool false) ∧ w' = w := by
  go_enter Try.func12, Try.ntmps12
  go_wp2
  go_ret
  exact ⟨rfl, rfl⟩

set_option maxRecDepth 100000 in
set_option maxHeartbeats 4000000 in
theorem leaves_walk (a : Option Addr) (len cap : Nat) (w : World) (hcode : CodeAt w a len) :
    Calls Try.prog 3 #[.slice a len cap] w fun e w' => e = .returned (.bool true) ∧ Below w.heap.size w w' := by
  have hs : ¬ (1048576 : Int) < len := by have := hcode.1; omega
  have HC := Lib.hid hcode
  have HB := Lib.hid (Below.refl w.heap.size w)
  have HFl : Hid (∀ b : Bool, ∃ fn : Int, ((b = true ∧ fn = 1) ∨ (b = false ∧ fn = 0)) ∧ (∀ w : World, Calls Try.prog 22 #[.bool b] w fun e w' => e = .returned (.agg #[.int .i64 1, .int .i64 fn, .string ⟨#[]⟩, .slice none 0 0, .slice none 0 0]) ∧ Below w.heap.size w w') ∧ ∀ w : World, Calls Try.prog 17 #[.bool b] w fun e w' => e = .returned (.agg #[.int .i64 1, .int .i64 fn, .string ⟨#[]⟩, .slice none 0 0, .slice none 0 0]) ∧ Below w.heap.size w w') := fun b => by
    cases b
    · exact ⟨0, .inr ⟨rfl, rfl⟩, spec_flagOf_false, impl_flagOf_false⟩
    · exact ⟨1, .inl ⟨rfl, rfl⟩, spec_flagOf_true, impl_flagOf_true⟩
  clear hcode
  go_enter Try.func3, Try.ntmps3
  go_upto_region 5 with (first
    | (go_at_call 12; refine (big_no a len cap hs w).mono ?_; rintro e w0 ⟨rfl, rfl⟩)
    | (go_at_call 13; refine (drawFlagOf_any a len cap _ (HC.out.on HB.out)).mono ?_; rintro e w1 ⟨b, rfl, hb⟩; obtain ⟨fn, hfn, hF⟩ := HFl.out b; have HFn := Lib.hid hfn; have HF := Lib.hid hF; replace HB := Lib.hid (HB.out.trans (hb.mono HB.out.size)); clear hb HFl hfn hF)
    | (go_at_call 14; refine (drawIntOf_any a len cap _ (HC.out.on HB.out)).mono ?_; rintro e w2 ⟨n, hn1, hn2, rfl, hb⟩; replace HB := Lib.hid (HB.out.trans (hb.mono HB.out.size)); clear hb)
    | (go_at_call 15; refine (drawTextOf_any a len cap _ (HC.out.on HB.out)).mono ?_; rintro e w3 ⟨s, hs1, rfl, hb⟩; replace HB := Lib.hid (HB.out.trans (hb.mono HB.out.size)); clear hb)
    | (go_at_call 16; refine (drawListOf_any a len cap _ (HC.out.on HB.out)).mono ?_; rintro e w4 ⟨dv, kids, F, rfl, hl, -, hb, hz⟩; obtain ⟨o1, c1, rfl⟩ := hl.slice; replace HB := Lib.hid (HB.out.trans (hb.mono HB.out.size)); have HK := Lib.hid hl; have HZ := Lib.hid hz; clear hb hl hz)
    | (go_at_call 17; refine (HF.out.2 _).mono ?_; rintro e w5 ⟨rfl, hb⟩; replace HK := Lib.hid (HK.out.stay hb (Nat.le_refl _)); replace HB := Lib.hid (HB.out.trans (hb.mono HB.out.size)); clear hb)
    | (go_at_call 18; refine (impl_intOf _ _).mono ?_; rintro e w6 ⟨rfl, hb⟩; replace HK := Lib.hid (HK.out.stay hb (Nat.le_refl _)); replace HB := Lib.hid (HB.out.trans (hb.mono HB.out.size)); clear hb)
    | (go_at_call 19; refine (impl_textOf _ _).mono ?_; rintro e w7 ⟨rfl, hb⟩; replace HK := Lib.hid (HK.out.stay hb (Nat.le_refl _)); replace HB := Lib.hid (HB.out.trans (hb.mono HB.out.size)); clear hb)
    | (go_at_call 20; refine (impl_listOf kids _ _ F HK.out (by have := HZ.out; omega)).mono ?_; rintro e w8 ⟨dv', F', rfl, hl, -, hb⟩; obtain ⟨o2, c2, rfl⟩ : ∃ o c, dv' = .slice o kids.length c := hl.slices.2; have HS := Lib.hid (LS.start (fn := fn) (n := n) (s := s) (HB.out.trans (hb.mono HB.out.size)) (HK.out.stay hb (Nat.le_refl _)) hl); clear hb hl HK HB)
    | fail)
  generalize (((w8.alloc (.cells #[.int .i64 1, .int .i64 fn, .string ⟨#[]⟩, .slice none 0 0, .slice none 0 0] 30)).alloc (.cells #[.int .i64 2, .int .i64 n, .string ⟨#[]⟩, .slice none 0 0, .slice none 0 0] 30)).alloc (.cells #[.int .i64 3, .int .i64 0, .string s, .slice none 0 0, .slice none 0 0] 30)).alloc (.cells #[.int .i64 4, .int .i64 0, .string ⟨#[]⟩, .slice none 0 0, .slice o2 kids.length c2] 30) = w9 at *
  generalize w8.heap.size = B at *
  have HFit : Hid (Fit fn ∧ Fit n) := ⟨by rcases HFn.out with ⟨-, rfl⟩ | ⟨-, rfl⟩ <;> exact ⟨by decide, by decide⟩, by omega, by omega⟩
  have HSm : Hid ((∀ W, Calls Try.prog 21 #[.agg #[.int .i64 1, .int .i64 fn, .string ⟨#[]⟩, .slice none 0 0, .slice none 0 0], .agg #[.int .i64 1, .int .i64 fn, .string ⟨#[]⟩, .slice none 0 0, .slice none 0 0]] W fun e w' => e = .returned (.bool true) ∧ Below W.heap.size W w') ∧ (∀ W, Calls Try.prog 21 #[.agg #[.int .i64 2, .int .i64 n, .string ⟨#[]⟩, .slice none 0 0, .slice none 0 0], .agg #[.int .i64 2, .int .i64 n, .string ⟨#[]⟩, .slice none 0 0, .slice none 0 0]] W fun e w' => e = .returned (.bool true) ∧ Below W.heap.size W w') ∧ (∀ W, Calls Try.prog 21 #[.agg #[.int .i64 3, .int .i64 0, .string s, .slice none 0 0, .slice none 0 0], .agg #[.int .i64 3, .int .i64 0, .string s, .slice none 0 0, .slice none 0 0]] W fun e w' => e = .returned (.bool true) ∧ Below W.heap.size W w')) := by
    have hsame : ∀ (T : RT) (W : World) (kv dv kv' dv' : Value) (F F' : List Nat), Lies W T kv dv F → Lies W T kv' dv' F' → Calls Try.prog 21 #[T.val kv dv, T.val kv' dv'] W fun e w' => e = .returned (.bool true) ∧ Below W.heap.size W w' := fun T W kv dv kv' dv' F F' h h' => by
      refine (impl_same T W kv dv F h T kv' dv' F' h').mono ?_
      rintro e w' ⟨rfl, hb⟩
      rw [same_yes rfl]
      exact ⟨rfl, hb⟩
    exact ⟨fun W => hsame (.node 1 fn ⟨#[]⟩ [] []) W _ _ _ _ [] [] (leaf_lies W ⟨by decide, by decide⟩ HFit.out.1 (by decide)) (leaf_lies W ⟨by decide, by decide⟩ HFit.out.1 (by decide)),
      fun W => hsame (.node 2 n ⟨#[]⟩ [] []) W _ _ _ _ [] [] (leaf_lies W ⟨by decide, by decide⟩ HFit.out.2 (by decide)) (leaf_lies W ⟨by decide, by decide⟩ HFit.out.2 (by decide)),
      fun W => hsame (.node 3 0 s [] []) W _ _ _ _ [] [] (leaf_lies W ⟨by decide, by decide⟩ ⟨by decide, by decide⟩ (by unfold maxLen; omega)) (leaf_lies W ⟨by decide, by decide⟩ ⟨by decide, by decide⟩ (by unfold maxLen; omega))⟩
  have HSl : Hid (∀ (W : World) (dv3 : Value) (F3 : List Nat), Lies W (listT kids) (.slice none 0 0) (.slice o2 kids.length c2) F' → Lies W (listT kids) (.slice none 0 0) dv3 F3 → Calls Try.prog 21 #[.agg #[.int .i64 4, .int .i64 0, .string ⟨#[]⟩, .slice none 0 0, .slice o2 kids.length c2], .agg #[.int .i64 4, .int .i64 0, .string ⟨#[]⟩, .slice none 0 0, dv3]] W fun e w' => e = .returned (.bool true) ∧ Below W.heap.size W w') := fun W dv3 F3 h h' => by
    refine (impl_same (listT kids) W _ _ F' h (listT kids) _ _ F3 h').mono ?_
    rintro e w' ⟨rfl, hb⟩
    rw [same_yes rfl]
    exact ⟨rfl, hb⟩
  have t1 : True := trivial
  have t2 : True := trivial
  have t3 : True := trivial
  have t4 : True := trivial
  obtain ⟨x00, x01, x02, x03, x04, -⟩ := five HS.out.c7; obtain ⟨x10, x11, x12, x13, x14, -⟩ := five HS.out.c8; obtain ⟨x20, x21, x22, x23, x24, -⟩ := five HS.out.c9; obtain ⟨x30, x31, x32, x33, x34, -⟩ := five HS.out.c10
  replace HS := Lib.hid (HS.out.next (below_drewN (Below.refl _ _) 1))
  go_region_held3 (fun w' => w'.cell? ⟨B, 0, none⟩ = some (.int .i64 1) ∧ w'.cell? ⟨B, 1, none⟩ = some (.int .i64 fn) ∧ w'.cell? ⟨B, 2, none⟩ = some (.string ⟨#[]⟩) ∧ w'.cell? ⟨B, 3, none⟩ = some (.slice none 0 0) ∧ w'.cell? ⟨B, 4, none⟩ = some (.slice none 0 0) ∧ w'.cell? ⟨B + 1, 0, none⟩ = some (.int .i64 2) ∧ w'.cell? ⟨B + 1, 1, none⟩ = some (.int .i64 n) ∧ w'.cell? ⟨B + 1, 2, none⟩ = some (.string ⟨#[]⟩) ∧ w'.cell? ⟨B + 1, 3, none⟩ = some (.slice none 0 0) ∧ w'.cell? ⟨B + 1, 4, none⟩ = some (.slice none 0 0) ∧ w'.cell? ⟨B + 1 + 1, 0, none⟩ = some (.int .i64 3) ∧ w'.cell? ⟨B + 1 + 1, 1, none⟩ = some (.int .i64 0) ∧ w'.cell? ⟨B + 1 + 1, 2, none⟩ = some (.string s) ∧ w'.cell? ⟨B + 1 + 1, 3, none⟩ = some (.slice none 0 0) ∧ w'.cell? ⟨B + 1 + 1, 4, none⟩ = some (.slice none 0 0) ∧ w'.cell? ⟨B + 1 + 1 + 1, 0, none⟩ = some (.int .i64 4) ∧ w'.cell? ⟨B + 1 + 1 + 1, 1, none⟩ = some (.int .i64 0) ∧ w'.cell? ⟨B + 1 + 1 + 1, 2, none⟩ = some (.string ⟨#[]⟩) ∧ w'.cell? ⟨B + 1 + 1 + 1, 3, none⟩ = some (.slice none 0 0) ∧ w'.cell? ⟨B + 1 + 1 + 1, 4, none⟩ = some (.slice o2 kids.length c2)) (go_keep)
        (first
          | (go_at_call 22; refine (HF.out.1 _).mono ?_; rintro e w' ⟨rfl, hb⟩; replace HS := Lib.hid (HS.out.next hb); clear hb; clear x00 x01 x02 x03 x04 x10 x11 x12 x13 x14 x20 x21 x22 x23 x24 x30 x31 x32 x33 x34; obtain ⟨x00, x01, x02, x03, x04, -⟩ := five HS.out.c7; obtain ⟨x10, x11, x12, x13, x14, -⟩ := five HS.out.c8; obtain ⟨x20, x21, x22, x23, x24, -⟩ := five HS.out.c9; obtain ⟨x30, x31, x32, x33, x34, -⟩ := five HS.out.c10)
          | (go_at_call 23; refine (spec_intOf _ _).mono ?_; rintro e w' ⟨rfl, hb⟩; replace HS := Lib.hid (HS.out.next hb); clear hb; clear x00 x01 x02 x03 x04 x10 x11 x12 x13 x14 x20 x21 x22 x23 x24 x30 x31 x32 x33 x34; obtain ⟨x00, x01, x02, x03, x04, -⟩ := five HS.out.c7; obtain ⟨x10, x11, x12, x13, x14, -⟩ := five HS.out.c8; obtain ⟨x20, x21, x22, x23, x24, -⟩ := five HS.out.c9; obtain ⟨x30, x31, x32, x33, x34, -⟩ := five HS.out.c10)
          | (go_at_call 24; refine (spec_textOf _ _).mono ?_; rintro e w' ⟨rfl, hb⟩; replace HS := Lib.hid (HS.out.next hb); clear hb; clear x00 x01 x02 x03 x04 x10 x11 x12 x13 x14 x20 x21 x22 x23 x24 x30 x31 x32 x33 x34; obtain ⟨x00, x01, x02, x03, x04, -⟩ := five HS.out.c7; obtain ⟨x10, x11, x12, x13, x14, -⟩ := five HS.out.c8; obtain ⟨x20, x21, x22, x23, x24, -⟩ := five HS.out.c9; obtain ⟨x30, x31, x32, x33, x34, -⟩ := five HS.out.c10)
          | (go_at_call 25; refine (spec_listOf kids _ _ F HS.out.lie (by have := HZ.out; omega)).mono ?_; rintro e w' ⟨dv3, F3, rfl, hl3, -, hb⟩; have HL3 := Lib.hid hl3; clear hl3; replace HS := Lib.hid (HS.out.next hb); clear hb; clear x00 x01 x02 x03 x04 x10 x11 x12 x13 x14 x20 x21 x22 x23 x24 x30 x31 x32 x33 x34; obtain ⟨x00, x01, x02, x03, x04, -⟩ := five HS.out.c7; obtain ⟨x10, x11, x12, x13, x14, -⟩ := five HS.out.c8; obtain ⟨x20, x21, x22, x23, x24, -⟩ := five HS.out.c9; obtain ⟨x30, x31, x32, x33, x34, -⟩ := five HS.out.c10)
          | (go_at_call 21; clear t1; refine (HSm.out.1 _).mono ?_; rintro e w' ⟨rfl, hb⟩; replace HS := Lib.hid (HS.out.next hb); clear hb; clear x00 x01 x02 x03 x04 x10 x11 x12 x13 x14 x20 x21 x22 x23 x24 x30 x31 x32 x33 x34; obtain ⟨x00, x01, x02, x03, x04, -⟩ := five HS.out.c7; obtain ⟨x10, x11, x12, x13, x14, -⟩ := five HS.out.c8; obtain ⟨x20, x21, x22, x23, x24, -⟩ := five HS.out.c9; obtain ⟨x30, x31, x32, x33, x34, -⟩ := five HS.out.c10)
          | (go_at_call 21; clear t2; refine (HSm.out.2.1 _).mono ?_; rintro e w' ⟨rfl, hb⟩; replace HS := Lib.hid (HS.out.next hb); clear hb; clear x00 x01 x02 x03 x04 x10 x11 x12 x13 x14 x20 x21 x22 x23 x24 x30 x31 x32 x33 x34; obtain ⟨x00, x01, x02, x03, x04, -⟩ := five HS.out.c7; obtain ⟨x10, x11, x12, x13, x14, -⟩ := five HS.out.c8; obtain ⟨x20, x21, x22, x23, x24, -⟩ := five HS.out.c9; obtain ⟨x30, x31, x32, x33, x34, -⟩ := five HS.out.c10)
          | (go_at_call 21; clear t3; refine (HSm.out.2.2 _).mono ?_; rintro e w' ⟨rfl, hb⟩; replace HS := Lib.hid (HS.out.next hb); clear hb; clear x00 x01 x02 x03 x04 x10 x11 x12 x13 x14 x20 x21 x22 x23 x24 x30 x31 x32 x33 x34; obtain ⟨x00, x01, x02, x03, x04, -⟩ := five HS.out.c7; obtain ⟨x10, x11, x12, x13, x14, -⟩ := five HS.out.c8; obtain ⟨x20, x21, x22, x23, x24, -⟩ := five HS.out.c9; obtain ⟨x30, x31, x32, x33, x34, -⟩ := five HS.out.c10)
          | (go_at_call 21; clear t4; refine (HSl.out _ _ _ HS.out.lst HL3.out).mono ?_; rintro e w' ⟨rfl, hb⟩; replace HS := Lib.hid (HS.out.next hb); clear hb; clear x00 x01 x02 x03 x04 x10 x11 x12 x13 x14 x20 x21 x22 x23 x24 x30 x31 x32 x33 x34; obtain ⟨x00, x01, x02, x03, x04, -⟩ := five HS.out.c7; obtain ⟨x10, x11, x12, x13, x14, -⟩ := five HS.out.c8; obtain ⟨x20, x21, x22, x23, x24, -⟩ := five HS.out.c9; obtain ⟨x30, x31, x32, x33, x34, -⟩ := five HS.out.c10))
  rcases HFn.out with ⟨rfl, rfl⟩ | ⟨rfl, rfl⟩
  all_goals
    go_wp2
    go_ret
    exact ⟨by simp, HS.out.below⟩
end Go.Proofs.Ythbphkakbjheeaa
