/-
  What is proved: the model's drawing of flags, keys, texts and leaves of trees: what is drawn is small, and lies in memory of its own; nothing turns but the cursor.
-/
import Derived.Test.YthbphkakbjheeaaDrawP
import Derived.Test.YthbphkakbjheeaaSetS
import Derived.Test.YthbphkakbjheeaaSetZ
import Derived.Test.YthbphkakbjheeaaFlagOf
import Derived.Test.YthbphkakbjheeaaIntOf
import Derived.Test.YthbphkakbjheeaaTextOf
namespace Go.Proofs.Ythbphkakbjheeaa
open Go Go.RowKit

/-! ### From world to world -/

theorem Only.grown {p : Nat} {w w' : World} (h : Only p w w') : w.grownBy w' (some p) :=
  ⟨h.1, h.2.1, h.2.2.1, Nat.le_of_eq h.2.2.2.1.symm, fun k _ hk => h.2.2.2.2 k (fun e => hk (by rw [e]))⟩

theorem grown_below {p : Nat} {w w' : World} (h : Below w.heap.size w w') : w.grownBy w' (some p) := ⟨h.os, h.tape, h.output, h.size, fun k hk _ => h.block k hk⟩

theorem CurAt.on {w w' : World} {p : Nat} {a : Option Addr} {len cap : Nat} (h : CurAt w p a len cap) (hb : Below w.heap.size w w') : CurAt w' p a len cap := by
  obtain ⟨i, x, hi, hc⟩ := h
  exact ⟨i, x, hi, (hb.block p (CurAt.lt ⟨i, x, hi, hc⟩)).trans hc⟩

theorem CodeAt.grown {p : Nat} {w w' : World} {a : Option Addr} {len : Nat} (h : CodeAt w a len) (hne : Apart a len p) (hg : w.grownBy w' (some p)) : CodeAt w' a len := by
  obtain ⟨hl, h0 | ⟨b, off, rfl, hlt, hc⟩⟩ := h
  · exact ⟨hl, .inl h0⟩
  · rcases hne with h0 | hne
    · exact ⟨hl, .inl h0⟩
    refine ⟨hl, .inr ⟨b, off, rfl, Nat.lt_of_lt_of_le hlt hg.size, fun i hi => ?_⟩⟩
    obtain ⟨z, hz, hcell⟩ := hc i hi
    exact ⟨z, hz, (World.cell?_of_block (w := w) (a := ⟨b, off + i, none⟩) (hg.block b hlt (fun e => hne _ rfl (by injection e)))).trans hcell⟩

/-- A cursor that may be drawn from. -/
structure Cur (w : World) (p : Nat) (a : Option Addr) (len cap : Nat) : Prop where
  cur : CurAt w p a len cap
  code : CodeAt w a len
  apart : Apart a len p

theorem Cur.on {w w' : World} {p : Nat} {a : Option Addr} {len cap : Nat} (h : Cur w p a len cap) (hb : Below w.heap.size w w') : Cur w' p a len cap := ⟨h.cur.on hb, h.code.on hb, h.apart⟩
theorem Cur.only {w w' : World} {p : Nat} {a : Option Addr} {len cap : Nat} (h : Cur w p a len cap) (hc : CurAt w' p a len cap) (ho : Only p w w') : Cur w' p a len cap := ⟨hc, h.code.only h.apart ho, h.apart⟩
theorem Cur.lt {w : World} {p : Nat} {a : Option Addr} {len cap : Nat} (h : Cur w p a len cap) : p < w.heap.size := h.cur.lt

theorem Cur.put {w : World} {p : Nat} {a : Option Addr} {len cap : Nat} (h : Cur w p a len cap) {B : Nat} (hB : B ≠ p) (hA : Apart a len B) (v0 v1 v2 v3 v4 : Value) : Cur (set5 w B 0 v0 v1 v2 v3 v4) p a len cap := by
  obtain ⟨i, x, hi, hc⟩ := h.cur
  refine ⟨⟨i, x, hi, (set5_other _ _ _ _ _ _ _ _ _ (Ne.symm hB)).trans hc⟩, ?_, h.apart⟩
  obtain ⟨hl, h0 | ⟨b, off, rfl, hlt, hcc⟩⟩ := h.code
  · exact ⟨hl, .inl h0⟩
  · rcases hA with h0 | hne
    · exact ⟨hl, .inl h0⟩
    refine ⟨hl, .inr ⟨b, off, rfl, by rw [set5_size]; exact hlt, fun j hj => ?_⟩⟩
    obtain ⟨z, hz, hcell⟩ := hcc j hj
    exact ⟨z, hz, (World.cell?_of_block (w := w) (a := ⟨b, off + j, none⟩) (set5_other _ _ _ _ _ _ _ _ b (hne ⟨b, off, none⟩ rfl))).trans hcell⟩

/-! ### Flags, keys, texts -/

set_option maxHeartbeats 400000 in
theorem once_any (n : Nat) (h1 : 1 ≤ n) (hn : n ≤ 256) (a : Option Addr) (len cap p : Nat) (w : World) (hc : Cur w p a len cap) :
    Calls Try.prog 42 #[.pointer (some ⟨p, 0, none⟩), .int .i64 n] w fun e w' => (∃ b : Bool, e = .returned (.bool b)) ∧ Cur w' p a len cap ∧ Only p w w' := by
  have HC := Lib.hid hc
  clear hc
  go_enter Try.func42, Try.ntmps42
  go_wp2_with (go_at_call 44; refine (below_any n h1 hn a len cap p _ HC.out.cur HC.out.code HC.out.apart).mono ?_; rintro e w1 ⟨⟨r, hr, rfl⟩, hc1, ho1⟩; have H1 := Lib.hid (And.intro (HC.out.only hc1 ho1) ho1); clear hc1 ho1)
  go_ret
  exact ⟨⟨_, rfl⟩, H1.out⟩

theorem pick_laid (Q : ByteArray → Prop) (xs : List ByteArray) (arr : Array Value) (harr : arr = (xs.map Value.string).toArray) (n q : Nat) (hn : n = xs.length) (h1 : 1 ≤ n) (h2 : n ≤ 256) (hQ : ∀ v ∈ xs, Q v)
    (a : Option Addr) (len cap p : Nat) (w : World) (hq : q = w.heap.size) (hc : Cur w p a len cap) :
    Calls Try.prog 75 #[.pointer (some ⟨p, 0, none⟩), .slice (some ⟨q, 0, none⟩) n n] (w.alloc (.cells arr 9)) fun e w' => (∃ v : ByteArray, Q v ∧ e = .returned (.string v)) ∧ Cur w' p a len cap ∧ w.grownBy w' (some p) := by
  subst harr
  have hb := (Below.refl _ w).alloc (Nat.le_refl _) (.cells (xs.map Value.string).toArray 9)
  have hc' := hc.on hb
  refine (pick_any Q n n q h1 h2 a len cap p _ hc'.cur hc'.code hc.apart (by have := hc.lt; omega) (fun i hi => list_at hQ w _ hq i (by omega))).mono ?_
  rintro e w' ⟨he, hcw, ho⟩
  exact ⟨he, hc'.only hcw ho, (grown_below hb).andThen ho.grown (fun _ hj => .inr hj)⟩

theorem pickInt_laid (Q : Int → Prop) (xs : List Int) (arr : Array Value) (harr : arr = (xs.map (Value.int .i64)).toArray) (n q : Nat) (hn : n = xs.length) (h1 : 1 ≤ n) (h2 : n ≤ 256) (hQ : ∀ v ∈ xs, Q v)
    (a : Option Addr) (len cap p : Nat) (w : World) (hq : q = w.heap.size) (hc : Cur w p a len cap) :
    Calls Try.prog 77 #[.pointer (some ⟨p, 0, none⟩), .slice (some ⟨q, 0, none⟩) n n] (w.alloc (.cells arr 3)) fun e w' => (∃ v : Int, Q v ∧ e = .returned (.int .i64 v)) ∧ Cur w' p a len cap ∧ w.grownBy w' (some p) := by
  subst harr
  have hb := (Below.refl _ w).alloc (Nat.le_refl _) (.cells (xs.map (Value.int .i64)).toArray 3)
  have hc' := hc.on hb
  refine (pickInt_any Q n n q h1 h2 a len cap p _ hc'.cur hc'.code hc.apart (by have := hc.lt; omega) (fun i hi => list_at hQ w _ hq i (by omega))).mono ?_
  rintro e w' ⟨he, hcw, ho⟩
  exact ⟨he, hc'.only hcw ho, (grown_below hb).andThen ho.grown (fun _ hj => .inr hj)⟩

def keyTexts : List ByteArray := [⟨#[97]⟩, ⟨#[98]⟩, ⟨#[110, 97, 109, 101]⟩, ⟨#[109, 97, 120]⟩, ⟨#[120, 32, 121]⟩, ⟨#[]⟩, ⟨#[97, 58, 98]⟩, ⟨#[45]⟩]

set_option maxHeartbeats 400000 in
theorem drawKey_any (a : Option Addr) (len cap p : Nat) (w : World) (hc : Cur w p a len cap) :
    Calls Try.prog 86 #[.pointer (some ⟨p, 0, none⟩)] w fun e w' => (∃ v : ByteArray, v.size ≤ 12 ∧ e = .returned (.string v)) ∧ Cur w' p a len cap ∧ w.grownBy w' (some p) := by
  have HC := Lib.hid hc
  clear hc
  go_enter Try.func86, Try.ntmps86
  go_wp2_with (first
    | (go_at_call 75; refine (pick_laid (fun v => v.size ≤ 12) keyTexts _ rfl _ _ rfl (by decide) (by decide) (by decide) a len cap p w rfl HC.out).mono ?_; rintro e w1 ⟨⟨v, hv, rfl⟩, h1⟩; have H1 := Lib.hid h1; clear h1)
    | fail)
  go_ret
  exact ⟨⟨v, hv, rfl⟩, H1.out⟩

def leafTexts : List ByteArray := [⟨#[]⟩, ⟨#[97]⟩, ⟨#[119, 101, 98]⟩, ⟨#[116, 114, 117, 101]⟩, ⟨#[49, 50]⟩, ⟨#[115, 97, 121, 32, 34, 110, 111, 34]⟩, ⟨#[98, 97, 99, 107, 92]⟩, ⟨#[97, 58, 32, 98]⟩, ⟨#[45, 32, 120]⟩, ⟨#[35]⟩, ⟨#[53, 109]⟩, ⟨#[110, 117, 108, 108]⟩, ⟨#[32, 120]⟩]

set_option maxHeartbeats 400000 in
theorem drawText_any (a : Option Addr) (len cap p : Nat) (w : World) (hc : Cur w p a len cap) :
    Calls Try.prog 45 #[.pointer (some ⟨p, 0, none⟩)] w fun e w' => (∃ v : ByteArray, v.size ≤ 12 ∧ e = .returned (.string v)) ∧ Cur w' p a len cap ∧ w.grownBy w' (some p) := by
  have HC := Lib.hid hc
  clear hc
  go_enter Try.func45, Try.ntmps45
  go_wp2_with (first
    | (go_at_call 75; refine (pick_laid (fun v => v.size ≤ 12) leafTexts _ rfl _ _ rfl (by decide) (by decide) (by decide) a len cap p w rfl HC.out).mono ?_; rintro e w1 ⟨⟨v, hv, rfl⟩, h1⟩; have H1 := Lib.hid h1; clear h1)
    | fail)
  go_ret
  exact ⟨⟨v, hv, rfl⟩, H1.out⟩

/-! ### What is drawn of a tree -/

/-- How great a tree is that is drawn so deep. -/
def bnd : Nat → Nat
  | 0 => 16
  | d + 1 => 3 * (bnd d + 16) + 16

/-- Where a drawing stands: the cursor; the block of what is answered, still empty; nothing has turned but the cursor's block. -/
structure DS (w wr : World) (p : Nat) (a : Option Addr) (len cap : Nat) : Prop where
  cur : Cur wr p a len cap
  grown : w.grownBy wr (some p)
  res : wr.heap[w.heap.size]? = some (.cells #[.int .i64 0, .int .i64 0, .string ⟨#[]⟩, .slice none 0 0, .slice none 0 0] 30 (0, 0))

section
variable {w wr w1 : World} {p : Nat} {a : Option Addr} {len cap : Nat}

theorem DS.start (h : Cur w p a len cap) : DS w (w.alloc (.cells #[.int .i64 0, .int .i64 0, .string ⟨#[]⟩, .slice none 0 0, .slice none 0 0] 30)) p a len cap :=
  have hb := (Below.refl _ w).alloc (Nat.le_refl _) (.cells #[.int .i64 0, .int .i64 0, .string ⟨#[]⟩, .slice none 0 0, .slice none 0 0] 30)
  ⟨h.on hb, grown_below hb, heap_last w _⟩

theorem DS.lt (h : DS w wr p a len cap) : w.heap.size < wr.heap.size := (Array.getElem?_eq_some_iff.1 h.res).1

/-- Something more is drawn. -/
theorem DS.draw (h : DS w wr p a len cap) (hp : p < w.heap.size) (hc : Cur w1 p a len cap) (hg : wr.grownBy w1 (some p)) : DS w w1 p a len cap :=
  ⟨hc, h.grown.andThen hg (fun _ hj => .inr hj), (hg.block _ h.lt (fun e => by injection e with e; omega)).trans h.res⟩

theorem DS.next (h : DS w wr p a len cap) (hb : Below wr.heap.size wr w1) : DS w w1 p a len cap :=
  ⟨h.cur.on hb, h.grown.andThen (grown_below hb (p := p)) (fun _ hj => .inr hj), (hb.block _ h.lt).trans h.res⟩

theorem grown_put (h : w.grownBy wr (some p)) {B : Nat} (hB : w.heap.size ≤ B) (v0 v1 v2 v3 v4 : Value) : w.grownBy (set5 wr B 0 v0 v1 v2 v3 v4) (some p) :=
  have hb := set5_below (Below.refl 0 wr) (Nat.zero_le B) 0 v0 v1 v2 v3 v4
  ⟨hb.os.trans h.os, hb.tape.trans h.tape, hb.output.trans h.output, by rw [set5_size]; exact h.size, fun k hk hne => (set5_other wr B 0 v0 v1 v2 v3 v4 k (by omega)).trans (h.block k hk hne)⟩

theorem apart_size (h : Cur w p a len cap) {B : Nat} (hB : w.heap.size ≤ B) : Apart a len B := h.code.apart hB

/-- What is answered is stored. -/
theorem DS.fin (h : DS w wr p a len cap) (h0 : Cur w p a len cap) {T : RT} {kv dv : Value} {F : List Nat} (hl : Lies wr T kv dv F) (hf : Fresh w wr F) (hn : w.heap.size ∉ F) :
    (set5 wr w.heap.size 0 (.int .i64 T.k) (.int .i64 T.n) (.string T.s) kv dv).heap[w.heap.size]? = some (.cells #[.int .i64 T.k, .int .i64 T.n, .string T.s, kv, dv] 30 (0, 0)) ∧
    Lies (set5 wr w.heap.size 0 (.int .i64 T.k) (.int .i64 T.n) (.string T.s) kv dv) T kv dv F ∧ Fresh w (set5 wr w.heap.size 0 (.int .i64 T.k) (.int .i64 T.n) (.string T.s) kv dv) F ∧
    Cur (set5 wr w.heap.size 0 (.int .i64 T.k) (.int .i64 T.n) (.string T.s) kv dv) p a len cap ∧ w.grownBy (set5 wr w.heap.size 0 (.int .i64 T.k) (.int .i64 T.n) (.string T.s) kv dv) (some p) := by
  have keep : ∀ y ∈ F, (set5 wr w.heap.size 0 (.int .i64 T.k) (.int .i64 T.n) (.string T.s) kv dv).heap[y]? = wr.heap[y]? := fun y hy => set5_other _ _ _ _ _ _ _ _ _ (fun e => hn (e ▸ hy))
  exact ⟨set5_end h.res _ _ _ _ _, hl.carry keep, hf.carry keep, h.cur.put (by have := h0.lt; omega) (apart_size h0 (Nat.le_refl _)) _ _ _ _ _, grown_put h.grown (Nat.le_refl _) _ _ _ _ _⟩
end

theorem bnd_le : (d : Nat) → 16 ≤ bnd d
  | 0 => Nat.le_refl _
  | d + 1 => by rw [bnd]; omega

theorem leaf_bnd (k n : Int) (s : ByteArray) (hs : s.size ≤ 12) (d : Nat) : (RT.node k n s [] []).sz ≤ bnd d := by
  have := bnd_le d
  simp [RT.sz, szAll, strSz]
  omega

/-- What l3DrawRight answers, so deep. -/
def DrawAt (d : Nat) : Prop := ∀ (a : Option Addr) (len cap p : Nat) (w : World), Cur w p a len cap →
  Calls Try.prog 76 #[.pointer (some ⟨p, 0, none⟩), .int .i64 d] w fun e w' => ∃ T kv dv F, e = .returned (.agg #[.int .i64 T.k, .int .i64 T.n, .string T.s, kv, dv]) ∧ Lies w' T kv dv F ∧ Fresh w w' F ∧ Cur w' p a len cap ∧ w.grownBy w' (some p) ∧ T.sz ≤ bnd d

set_option maxRecDepth 100000 in
set_option maxHeartbeats 1600000 in
/-- The leaves: nothing is drawn deeper. -/
theorem draw_zero : DrawAt 0 := fun a len cap p w hc => by
  have HC := Lib.hid hc
  have HD := Lib.hid (DS.start hc)
  have hp : Hid (p < w.heap.size) := hc.lt
  clear hc
  have t1 : True := trivial
  go_enter Try.func76, Try.ntmps76
  go_wp2_with (first
    | (go_at_call 44; clear t1; refine (below_any 6 (by omega) (by omega) a len cap p _ HD.out.cur.cur HD.out.cur.code HD.out.cur.apart).mono ?_; rintro e w1 ⟨⟨r, hr, rfl⟩, hc1, ho1⟩; replace HD := Lib.hid (HD.out.draw hp.out (HD.out.cur.only hc1 ho1) ho1.grown); clear hc1 ho1 hr)
    | fail)
  refine (below_any 4 (by omega) (by omega) a len cap p _ HD.out.cur.cur HD.out.cur.code HD.out.cur.apart).mono ?_
  rintro e w2 ⟨⟨r2, hr2, rfl⟩, hc1, ho1⟩
  replace HD := Lib.hid (HD.out.draw hp.out (HD.out.cur.only hc1 ho1) ho1.grown)
  clear hc1 ho1
  obtain ⟨z0, z1, z2, z3, z4, z5⟩ := five HD.out.res
  obtain rfl | rfl | rfl | rfl : r2 = 0 ∨ r2 = 1 ∨ r2 = 2 ∨ r2 = 3 := by omega
  · clear z0 z1 z2 z3 z4 z5
    obtain ⟨z0, z1, z2, z3, z4, z5⟩ := five HD.out.res
    have HE := Lib.hid (HD.out.fin HC.out (leaf_lies _ (k := 0) (n := 0) (s := ⟨#[]⟩) ⟨by decide, by decide⟩ ⟨by decide, by decide⟩ (by decide)) (Fresh.nil _ _) (by simp))
    go_wp2
    exact bodyPost_ret (ret_node Try.results76 rfl HE.out.1) rfl ⟨_, _, _, _, rfl, HE.out.2.1, HE.out.2.2.1, HE.out.2.2.2.1, HE.out.2.2.2.2, leaf_bnd _ _ _ (by decide) _⟩
  · clear z0 z1 z2 z3 z4 z5
    go_wp2_with (first
      | (go_at_call 42; refine (once_any 2 (by omega) (by omega) a len cap p _ HD.out.cur).mono ?_; rintro e w3 ⟨⟨b, rfl⟩, hc3, ho3⟩; replace HD := Lib.hid (HD.out.draw hp.out hc3 ho3.grown); clear hc3 ho3)
      | fail)
    obtain ⟨n, hn, HFl⟩ : ∃ n : Int, Fit n ∧ Hid (∀ w : World, Calls Try.prog 22 #[.bool b] w fun e w' => e = .returned (.agg #[.int .i64 1, .int .i64 n, .string ⟨#[]⟩, .slice none 0 0, .slice none 0 0]) ∧ Below w.heap.size w w') := by
      cases b
      · exact ⟨0, ⟨by decide, by decide⟩, fun w => spec_flagOf_false w⟩
      · exact ⟨1, ⟨by decide, by decide⟩, fun w => spec_flagOf_true w⟩
    refine (HFl.out _).mono ?_
    rintro e w4 ⟨rfl, hb4⟩
    replace HD := Lib.hid (HD.out.next hb4)
    clear hb4 HFl
    obtain ⟨z0, z1, z2, z3, z4, z5⟩ := five HD.out.res
    have HE := Lib.hid (HD.out.fin HC.out (leaf_lies _ (k := 1) (n := n) (s := ⟨#[]⟩) ⟨by decide, by decide⟩ hn (by decide)) (Fresh.nil _ _) (by simp))
    go_wp2
    exact bodyPost_ret (ret_node Try.results76 rfl HE.out.1) rfl ⟨_, _, _, _, rfl, HE.out.2.1, HE.out.2.2.1, HE.out.2.2.2.1, HE.out.2.2.2.2, leaf_bnd _ _ _ (by decide) _⟩
  · clear z0 z1 z2 z3 z4 z5
    go_wp2_with (first
      | (go_at_call 77; refine (pickInt_laid Fit [0, 7, -3, 1000, 1000000000000] _ rfl _ _ rfl (by decide) (by decide) (by unfold Fit; decide) a len cap p _ rfl HD.out.cur).mono ?_; rintro e w3 ⟨⟨n, hn, rfl⟩, hc3, hg3⟩; replace HD := Lib.hid (HD.out.draw hp.out hc3 hg3); clear hc3 hg3)
      | fail)
    refine (spec_intOf _ _).mono ?_
    rintro e w4 ⟨rfl, hb4⟩
    replace HD := Lib.hid (HD.out.next hb4)
    clear hb4
    obtain ⟨z0, z1, z2, z3, z4, z5⟩ := five HD.out.res
    have HE := Lib.hid (HD.out.fin HC.out (leaf_lies _ (k := 2) (n := n) (s := ⟨#[]⟩) ⟨by decide, by decide⟩ hn (by decide)) (Fresh.nil _ _) (by simp))
    go_wp2
    exact bodyPost_ret (ret_node Try.results76 rfl HE.out.1) rfl ⟨_, _, _, _, rfl, HE.out.2.1, HE.out.2.2.1, HE.out.2.2.2.1, HE.out.2.2.2.2, leaf_bnd _ _ _ (by decide) _⟩
  · clear z0 z1 z2 z3 z4 z5
    go_wp2_with (first
      | (go_at_call 45; refine (drawText_any a len cap p _ HD.out.cur).mono ?_; rintro e w3 ⟨⟨s, hs, rfl⟩, hc3, hg3⟩; replace HD := Lib.hid (HD.out.draw hp.out hc3 hg3); clear hc3 hg3)
      | fail)
    refine (spec_textOf _ _).mono ?_
    rintro e w4 ⟨rfl, hb4⟩
    replace HD := Lib.hid (HD.out.next hb4)
    clear hb4
    obtain ⟨z0, z1, z2, z3, z4, z5⟩ := five HD.out.res
    have HE := Lib.hid (HD.out.fin HC.out (leaf_lies _ (k := 3) (n := 0) (s := s) ⟨by decide, by decide⟩ ⟨by decide, by decide⟩ (by unfold maxLen; omega)) (Fresh.nil _ _) (by simp))
    go_wp2
    exact bodyPost_ret (ret_node Try.results76 rfl HE.out.1) rfl ⟨_, _, _, _, rfl, HE.out.2.1, HE.out.2.2.1, HE.out.2.2.2.1, HE.out.2.2.2.2, leaf_bnd _ _ _ (by omega) _⟩
end Go.Proofs.Ythbphkakbjheeaa
