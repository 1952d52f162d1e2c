/-
  What is proved: the model's drawing of flags, keys, texts and leaves of trees: what is drawn is small, and lies in memory of its own; nothing turns but the cursor.; the model's drawing of metrics and paces: what is drawn is within the bounds of an order; nothing turns but the cursor.; plain facts on rows of small structs that are laid one by one.; the laws' toMetricS, toNoteS and toOrder lay the same metrics, notes and orders into new memory.; the laws' toOrder lays the same order into new memory.; the program's tree of a list of notes: a map of their Texts, in memory of its own; no condition.; append of one text to a list of texts, and of one tree to a list of trees, that lie in memory of their own with their room: in place, or in a new block.; a list of small structs that was laid by append lies as such lists do; no condition.
-/
import Derived.Test.YtelpkcbbipianaaGreatPartAN
import Derived.Test.YtelpkcbbipianaaGreatPartAJ
import Derived.Test.YtelpkcbbipianaaGreatPartAE
import Derived.Test.YtelpkcbbipianaaGreatPartAK
import Derived.Test.YtelpkcbbipianaaGreatPartAH
import Derived.Test.YtelpkcbbipianaaGreatPartAD
import Derived.Test.YtelpkcbbipianaaGreatPartAA
import Derived.Test.YtelpkcbbipianaaGreatPartAI
import Derived.Test.YtelpkcbbipianaaGreatPartAC
import Derived.Test.YtelpkcbbipianaaGreatPartAB
import Derived.ArgAppend
import Derived.Deep.MidRow
/- the model's drawing of flags, keys, texts and leaves of trees: what is drawn is small, and lies in memory of its own; nothing turns but the cursor. -/
namespace Go.Proofs.YtelpkcbbipianaaGreat
open Go Go.RowKit

/-! ### From world to world -/

theorem Only.grown {p : Nat} {w w' : World} (h : Only p w w') : w.grownBy w' (some p) :=
  ⟨h.1, h.2.1, h.2.2.1, Nat.le_of_eq h.2.2.2.1.symm, fun k _ hk => h.2.2.2.2 k (fun e => hk (by rw [e]))⟩

theorem grown_below {p : Nat} {w w' : World} (h : Below w.heap.size w w') : w.grownBy w' (some p) := ⟨h.os, h.tape, h.output, h.size, fun k hk _ => h.block k hk⟩

theorem CurAt.on {w w' : World} {p : Nat} {a : Option Addr} {len cap : Nat} (h : CurAt w p a len cap) (hb : Below w.heap.size w w') : CurAt w' p a len cap := by
  obtain ⟨i, x, hi, hc⟩ := h
  exact ⟨i, x, hi, (hb.block p (CurAt.lt ⟨i, x, hi, hc⟩)).trans hc⟩

/-- A cursor that may be drawn from. -/
structure Cur (w : World) (p : Nat) (a : Option Addr) (len cap : Nat) : Prop where
  cur : CurAt w p a len cap
  code : CodeAt w a len
  apart : Apart a len p

theorem Cur.on {w w' : World} {p : Nat} {a : Option Addr} {len cap : Nat} (h : Cur w p a len cap) (hb : Below w.heap.size w w') : Cur w' p a len cap := ⟨h.cur.on hb, h.code.on hb, h.apart⟩
theorem Cur.only {w w' : World} {p : Nat} {a : Option Addr} {len cap : Nat} (h : Cur w p a len cap) (hc : CurAt w' p a len cap) (ho : Only p w w') : Cur w' p a len cap := ⟨hc, h.code.only h.apart ho, h.apart⟩
theorem Cur.lt {w : World} {p : Nat} {a : Option Addr} {len cap : Nat} (h : Cur w p a len cap) : p < w.heap.size := h.cur.lt

theorem Cur.put {w : World} {p : Nat} {a : Option Addr} {len cap : Nat} (h : Cur w p a len cap) {B : Nat} (hB : B ≠ p) (hA : Apart a len B) (v0 v1 v2 v3 v4 : Value) : Cur (set5 w B 0 v0 v1 v2 v3 v4) p a len cap := by
  obtain ⟨i, x, hi, hc⟩ := h.cur
  refine ⟨⟨i, x, hi, (set5_other _ _ _ _ _ _ _ _ _ (Ne.symm hB)).trans hc⟩, ?_, h.apart⟩
  obtain ⟨hl, h0 | ⟨b, off, rfl, hlt, hcc⟩⟩ := h.code
  · exact ⟨hl, .inl h0⟩
  · rcases hA with h0 | hne
    · exact ⟨hl, .inl h0⟩
    refine ⟨hl, .inr ⟨b, off, rfl, by rw [set5_size]; exact hlt, fun j hj => ?_⟩⟩
    obtain ⟨z, hz, hcell⟩ := hcc j hj
    exact ⟨z, hz, (World.cell?_of_block (w := w) (a := ⟨b, off + j, none⟩) (set5_other _ _ _ _ _ _ _ _ b (hne ⟨b, off, none⟩ rfl))).trans hcell⟩

/-! ### Flags, keys, texts -/

set_option maxHeartbeats 400000 in
theorem once_any (n : Nat) (h1 : 1 ≤ n) (hn : n ≤ 256) (a : Option Addr) (len cap p : Nat) (w : World) (hc : Cur w p a len cap) :
    Calls Tryz.prog 35 #[.pointer (some ⟨p, 0, none⟩), .int .i64 n] w fun e w' => (∃ b : Bool, e = .returned (.bool b)) ∧ Cur w' p a len cap ∧ Only p w w' := by
  have HC := Lib.hid hc
  clear hc
  go_enter Tryz.func35, Tryz.ntmps35
  go_wp2_with (go_at_call 24; refine (below_any n h1 hn a len cap p _ HC.out.cur HC.out.code HC.out.apart).mono ?_; rintro e w1 ⟨⟨r, hr, rfl⟩, hc1, ho1⟩; have H1 := Lib.hid (And.intro (HC.out.only hc1 ho1) ho1); clear hc1 ho1)
  go_ret
  exact ⟨⟨_, rfl⟩, H1.out⟩

theorem pick_laid (Q : ByteArray → Prop) (xs : List ByteArray) (arr : Array Value) (harr : arr = (xs.map Value.string).toArray) (n q : Nat) (hn : n = xs.length) (h1 : 1 ≤ n) (h2 : n ≤ 256) (hQ : ∀ v ∈ xs, Q v)
    (a : Option Addr) (len cap p : Nat) (w : World) (hq : q = w.heap.size) (hc : Cur w p a len cap) :
    Calls Tryz.prog 44 #[.pointer (some ⟨p, 0, none⟩), .slice (some ⟨q, 0, none⟩) n n] (w.alloc (.cells arr 9)) fun e w' => (∃ v : ByteArray, Q v ∧ e = .returned (.string v)) ∧ Cur w' p a len cap ∧ w.grownBy w' (some p) := by
  subst harr
  have hb := (Below.refl _ w).alloc (Nat.le_refl _) (.cells (xs.map Value.string).toArray 9)
  have hc' := hc.on hb
  refine (pick_any Q n n q h1 h2 a len cap p _ hc'.cur hc'.code hc.apart (by have := hc.lt; omega) (fun i hi => list_at hQ w _ hq i (by omega))).mono ?_
  rintro e w' ⟨he, hcw, ho⟩
  exact ⟨he, hc'.only hcw ho, (grown_below hb).andThen ho.grown (fun _ hj => .inr hj)⟩

theorem pickInt_laid (Q : Int → Prop) (xs : List Int) (arr : Array Value) (harr : arr = (xs.map (Value.int .i64)).toArray) (n q : Nat) (hn : n = xs.length) (h1 : 1 ≤ n) (h2 : n ≤ 256) (hQ : ∀ v ∈ xs, Q v)
    (a : Option Addr) (len cap p : Nat) (w : World) (hq : q = w.heap.size) (hc : Cur w p a len cap) :
    Calls Tryz.prog 43 #[.pointer (some ⟨p, 0, none⟩), .slice (some ⟨q, 0, none⟩) n n] (w.alloc (.cells arr 3)) fun e w' => (∃ v : Int, Q v ∧ e = .returned (.int .i64 v)) ∧ Cur w' p a len cap ∧ w.grownBy w' (some p) := by
  subst harr
  have hb := (Below.refl _ w).alloc (Nat.le_refl _) (.cells (xs.map (Value.int .i64)).toArray 3)
  have hc' := hc.on hb
  refine (pickInt_any Q n n q h1 h2 a len cap p _ hc'.cur hc'.code hc.apart (by have := hc.lt; omega) (fun i hi => list_at hQ w _ hq i (by omega))).mono ?_
  rintro e w' ⟨he, hcw, ho⟩
  exact ⟨he, hc'.only hcw ho, (grown_below hb).andThen ho.grown (fun _ hj => .inr hj)⟩

def keyTexts : List ByteArray := [⟨#[97]⟩, ⟨#[98]⟩, ⟨#[110, 97, 109, 101]⟩, ⟨#[109, 97, 120]⟩, ⟨#[120, 32, 121]⟩, ⟨#[]⟩, ⟨#[97, 58, 98]⟩, ⟨#[45]⟩]

set_option maxHeartbeats 400000 in
theorem drawKey_any (a : Option Addr) (len cap p : Nat) (w : World) (hc : Cur w p a len cap) :
    Calls Tryz.prog 58 #[.pointer (some ⟨p, 0, none⟩)] w fun e w' => (∃ v : ByteArray, v.size ≤ 12 ∧ e = .returned (.string v)) ∧ Cur w' p a len cap ∧ w.grownBy w' (some p) := by
  have HC := Lib.hid hc
  clear hc
  go_enter Tryz.func58, Tryz.ntmps58
  go_wp2_with (first
    | (go_at_call 44; refine (pick_laid (fun v => v.size ≤ 12) keyTexts _ rfl _ _ rfl (by decide) (by decide) (by decide) a len cap p w rfl HC.out).mono ?_; rintro e w1 ⟨⟨v, hv, rfl⟩, h1⟩; have H1 := Lib.hid h1; clear h1)
    | fail)
  go_ret
  exact ⟨⟨v, hv, rfl⟩, H1.out⟩

def leafTexts : List ByteArray := [⟨#[]⟩, ⟨#[97]⟩, ⟨#[119, 101, 98]⟩, ⟨#[116, 114, 117, 101]⟩, ⟨#[49, 50]⟩, ⟨#[115, 97, 121, 32, 34, 110, 111, 34]⟩, ⟨#[98, 97, 99, 107, 92]⟩, ⟨#[97, 58, 32, 98]⟩, ⟨#[45, 32, 120]⟩, ⟨#[35]⟩, ⟨#[53, 109]⟩, ⟨#[110, 117, 108, 108]⟩, ⟨#[32, 120]⟩]

set_option maxHeartbeats 400000 in
theorem drawText_any (a : Option Addr) (len cap p : Nat) (w : World) (hc : Cur w p a len cap) :
    Calls Tryz.prog 57 #[.pointer (some ⟨p, 0, none⟩)] w fun e w' => (∃ v : ByteArray, v.size ≤ 12 ∧ e = .returned (.string v)) ∧ Cur w' p a len cap ∧ w.grownBy w' (some p) := by
  have HC := Lib.hid hc
  clear hc
  go_enter Tryz.func57, Tryz.ntmps57
  go_wp2_with (first
    | (go_at_call 44; refine (pick_laid (fun v => v.size ≤ 12) leafTexts _ rfl _ _ rfl (by decide) (by decide) (by decide) a len cap p w rfl HC.out).mono ?_; rintro e w1 ⟨⟨v, hv, rfl⟩, h1⟩; have H1 := Lib.hid h1; clear h1)
    | fail)
  go_ret
  exact ⟨⟨v, hv, rfl⟩, H1.out⟩

/-! ### What is drawn of a tree -/

/-- How great a tree is that is drawn so deep. -/
def bnd : Nat → Nat
  | 0 => 46
  | d + 1 => 3 * (bnd d + 30) + 21

/-- Where a drawing stands: the cursor; the block of what is answered, still empty; nothing has turned but the cursor's block. -/
structure DS (w wr : World) (p : Nat) (a : Option Addr) (len cap : Nat) : Prop where
  cur : Cur wr p a len cap
  grown : w.grownBy wr (some p)
  res : wr.heap[w.heap.size]? = some (.cells #[.int .i64 0, .int .i64 0, .string ⟨#[]⟩, .slice none 0 0, .slice none 0 0] 27 (0, 0))

section
variable {w wr w1 : World} {p : Nat} {a : Option Addr} {len cap : Nat}

theorem DS.start (h : Cur w p a len cap) : DS w (w.alloc (.cells #[.int .i64 0, .int .i64 0, .string ⟨#[]⟩, .slice none 0 0, .slice none 0 0] 27)) p a len cap :=
  have hb := (Below.refl _ w).alloc (Nat.le_refl _) (.cells #[.int .i64 0, .int .i64 0, .string ⟨#[]⟩, .slice none 0 0, .slice none 0 0] 27)
  ⟨h.on hb, grown_below hb, heap_last w _⟩

theorem DS.lt (h : DS w wr p a len cap) : w.heap.size < wr.heap.size := (Array.getElem?_eq_some_iff.1 h.res).1

/-- Something more is drawn. -/
theorem DS.draw (h : DS w wr p a len cap) (hp : p < w.heap.size) (hc : Cur w1 p a len cap) (hg : wr.grownBy w1 (some p)) : DS w w1 p a len cap :=
  ⟨hc, h.grown.andThen hg (fun _ hj => .inr hj), (hg.block _ h.lt (fun e => by injection e with e; omega)).trans h.res⟩

theorem DS.next (h : DS w wr p a len cap) (hb : Below wr.heap.size wr w1) : DS w w1 p a len cap :=
  ⟨h.cur.on hb, h.grown.andThen (grown_below hb (p := p)) (fun _ hj => .inr hj), (hb.block _ h.lt).trans h.res⟩

theorem grown_put (h : w.grownBy wr (some p)) {B : Nat} (hB : w.heap.size ≤ B) (v0 v1 v2 v3 v4 : Value) : w.grownBy (set5 wr B 0 v0 v1 v2 v3 v4) (some p) :=
  have hb := set5_below (Below.refl 0 wr) (Nat.zero_le B) 0 v0 v1 v2 v3 v4
  ⟨hb.os.trans h.os, hb.tape.trans h.tape, hb.output.trans h.output, by rw [set5_size]; exact h.size, fun k hk hne => (set5_other wr B 0 v0 v1 v2 v3 v4 k (by omega)).trans (h.block k hk hne)⟩

theorem apart_size (h : Cur w p a len cap) {B : Nat} (hB : w.heap.size ≤ B) : Apart a len B := h.code.apart hB

/-- What is answered is stored. -/
theorem DS.fin (h : DS w wr p a len cap) (h0 : Cur w p a len cap) {T : RT} {kv dv : Value} {F : List Nat} (hl : Lies wr T kv dv F) (hf : Fresh w wr F) (hn : w.heap.size ∉ F) :
    (set5 wr w.heap.size 0 (.int .i64 T.k) (.int .i64 T.n) (.string T.s) kv dv).heap[w.heap.size]? = some (.cells #[.int .i64 T.k, .int .i64 T.n, .string T.s, kv, dv] 27 (0, 0)) ∧
    Lies (set5 wr w.heap.size 0 (.int .i64 T.k) (.int .i64 T.n) (.string T.s) kv dv) T kv dv F ∧ Fresh w (set5 wr w.heap.size 0 (.int .i64 T.k) (.int .i64 T.n) (.string T.s) kv dv) F ∧
    Cur (set5 wr w.heap.size 0 (.int .i64 T.k) (.int .i64 T.n) (.string T.s) kv dv) p a len cap ∧ w.grownBy (set5 wr w.heap.size 0 (.int .i64 T.k) (.int .i64 T.n) (.string T.s) kv dv) (some p) := by
  have keep : ∀ y ∈ F, (set5 wr w.heap.size 0 (.int .i64 T.k) (.int .i64 T.n) (.string T.s) kv dv).heap[y]? = wr.heap[y]? := fun y hy => set5_other _ _ _ _ _ _ _ _ _ (fun e => hn (e ▸ hy))
  exact ⟨set5_end h.res _ _ _ _ _, hl.carry keep, hf.carry keep, h.cur.put (by have := h0.lt; omega) (apart_size h0 (Nat.le_refl _)) _ _ _ _ _, grown_put h.grown (Nat.le_refl _) _ _ _ _ _⟩
end

theorem bnd_le : (d : Nat) → 46 ≤ bnd d
  | 0 => Nat.le_refl _
  | d + 1 => by rw [bnd]; omega

theorem leaf_bnd (k n : Int) (s : ByteArray) (hs : s.size ≤ 12) (d : Nat) : (RT.node k n s [] []).wz ≤ bnd d := by
  have := bnd_le d
  simp [RT.wz, wzAll, strSz]
  omega

/-- What l3DrawRight answers, so deep. -/
def DrawAt (d : Nat) : Prop := ∀ (a : Option Addr) (len cap p : Nat) (w : World), Cur w p a len cap →
  Calls Tryz.prog 36 #[.pointer (some ⟨p, 0, none⟩), .int .i64 d] w fun e w' => ∃ T kv dv F, e = .returned (.agg #[.int .i64 T.k, .int .i64 T.n, .string T.s, kv, dv]) ∧ Lies w' T kv dv F ∧ Fresh w w' F ∧ Cur w' p a len cap ∧ w.grownBy w' (some p) ∧ T.wz ≤ bnd d

set_option maxRecDepth 100000 in
set_option maxHeartbeats 1600000 in
/-- The leaves: nothing is drawn deeper. -/
theorem draw_zero : DrawAt 0 := fun a len cap p w hc => by
  have HC := Lib.hid hc
  have HD := Lib.hid (DS.start hc)
  have hp : Hid (p < w.heap.size) := hc.lt
  clear hc
  have t1 : True := trivial
  go_enter Tryz.func36, Tryz.ntmps36
  go_wp2_with (first
    | (go_at_call 24; clear t1; refine (below_any 6 (by omega) (by omega) a len cap p _ HD.out.cur.cur HD.out.cur.code HD.out.cur.apart).mono ?_; rintro e w1 ⟨⟨r, hr, rfl⟩, hc1, ho1⟩; replace HD := Lib.hid (HD.out.draw hp.out (HD.out.cur.only hc1 ho1) ho1.grown); clear hc1 ho1 hr)
    | fail)
  refine (below_any 4 (by omega) (by omega) a len cap p _ HD.out.cur.cur HD.out.cur.code HD.out.cur.apart).mono ?_
  rintro e w2 ⟨⟨r2, hr2, rfl⟩, hc1, ho1⟩
  replace HD := Lib.hid (HD.out.draw hp.out (HD.out.cur.only hc1 ho1) ho1.grown)
  clear hc1 ho1
  obtain ⟨z0, z1, z2, z3, z4, z5⟩ := five HD.out.res
  obtain rfl | rfl | rfl | rfl : r2 = 0 ∨ r2 = 1 ∨ r2 = 2 ∨ r2 = 3 := by omega
  · clear z0 z1 z2 z3 z4 z5
    obtain ⟨z0, z1, z2, z3, z4, z5⟩ := five HD.out.res
    have HE := Lib.hid (HD.out.fin HC.out (leaf_lies _ (k := 0) (n := 0) (s := ⟨#[]⟩) ⟨by decide, by decide⟩ ⟨by decide, by decide⟩ (by decide)) (Fresh.nil _ _) (by simp))
    go_wp2
    exact bodyPost_ret (ret_node Tryz.results36 rfl HE.out.1) rfl ⟨_, _, _, _, rfl, HE.out.2.1, HE.out.2.2.1, HE.out.2.2.2.1, HE.out.2.2.2.2, leaf_bnd _ _ _ (by decide) _⟩
  · clear z0 z1 z2 z3 z4 z5
    go_wp2_with (first
      | (go_at_call 35; refine (once_any 2 (by omega) (by omega) a len cap p _ HD.out.cur).mono ?_; rintro e w3 ⟨⟨b, rfl⟩, hc3, ho3⟩; replace HD := Lib.hid (HD.out.draw hp.out hc3 ho3.grown); clear hc3 ho3)
      | fail)
    obtain ⟨n, hn, HFl⟩ : ∃ n : Int, Fit n ∧ Hid (∀ w : World, Calls Tryz.prog 54 #[.bool b] w fun e w' => e = .returned (.agg #[.int .i64 1, .int .i64 n, .string ⟨#[]⟩, .slice none 0 0, .slice none 0 0]) ∧ Below w.heap.size w w') := by
      cases b
      · exact ⟨0, ⟨by decide, by decide⟩, fun w => spec_flagOf_false w⟩
      · exact ⟨1, ⟨by decide, by decide⟩, fun w => spec_flagOf_true w⟩
    refine (HFl.out _).mono ?_
    rintro e w4 ⟨rfl, hb4⟩
    replace HD := Lib.hid (HD.out.next hb4)
    clear hb4 HFl
    obtain ⟨z0, z1, z2, z3, z4, z5⟩ := five HD.out.res
    have HE := Lib.hid (HD.out.fin HC.out (leaf_lies _ (k := 1) (n := n) (s := ⟨#[]⟩) ⟨by decide, by decide⟩ hn (by decide)) (Fresh.nil _ _) (by simp))
    go_wp2
    exact bodyPost_ret (ret_node Tryz.results36 rfl HE.out.1) rfl ⟨_, _, _, _, rfl, HE.out.2.1, HE.out.2.2.1, HE.out.2.2.2.1, HE.out.2.2.2.2, leaf_bnd _ _ _ (by decide) _⟩
  · clear z0 z1 z2 z3 z4 z5
    go_wp2_with (first
      | (go_at_call 43; refine (pickInt_laid Fit [0, 7, -3, 1000, 1000000000000] _ rfl _ _ rfl (by decide) (by decide) (by unfold Fit; decide) a len cap p _ rfl HD.out.cur).mono ?_; rintro e w3 ⟨⟨n, hn, rfl⟩, hc3, hg3⟩; replace HD := Lib.hid (HD.out.draw hp.out hc3 hg3); clear hc3 hg3)
      | fail)
    refine (spec_intOf _ _).mono ?_
    rintro e w4 ⟨rfl, hb4⟩
    replace HD := Lib.hid (HD.out.next hb4)
    clear hb4
    obtain ⟨z0, z1, z2, z3, z4, z5⟩ := five HD.out.res
    have HE := Lib.hid (HD.out.fin HC.out (leaf_lies _ (k := 2) (n := n) (s := ⟨#[]⟩) ⟨by decide, by decide⟩ hn (by decide)) (Fresh.nil _ _) (by simp))
    go_wp2
    exact bodyPost_ret (ret_node Tryz.results36 rfl HE.out.1) rfl ⟨_, _, _, _, rfl, HE.out.2.1, HE.out.2.2.1, HE.out.2.2.2.1, HE.out.2.2.2.2, leaf_bnd _ _ _ (by decide) _⟩
  · clear z0 z1 z2 z3 z4 z5
    go_wp2_with (first
      | (go_at_call 57; refine (drawText_any a len cap p _ HD.out.cur).mono ?_; rintro e w3 ⟨⟨s, hs, rfl⟩, hc3, hg3⟩; replace HD := Lib.hid (HD.out.draw hp.out hc3 hg3); clear hc3 hg3)
      | fail)
    refine (spec_textOf _ _).mono ?_
    rintro e w4 ⟨rfl, hb4⟩
    replace HD := Lib.hid (HD.out.next hb4)
    clear hb4
    obtain ⟨z0, z1, z2, z3, z4, z5⟩ := five HD.out.res
    have HE := Lib.hid (HD.out.fin HC.out (leaf_lies _ (k := 3) (n := 0) (s := s) ⟨by decide, by decide⟩ ⟨by decide, by decide⟩ (by unfold maxLen; omega)) (Fresh.nil _ _) (by simp))
    go_wp2
    exact bodyPost_ret (ret_node Tryz.results36 rfl HE.out.1) rfl ⟨_, _, _, _, rfl, HE.out.2.1, HE.out.2.2.1, HE.out.2.2.2.1, HE.out.2.2.2.2, leaf_bnd _ _ _ (by omega) _⟩
end Go.Proofs.YtelpkcbbipianaaGreat

/- the model's drawing of metrics and paces: what is drawn is within the bounds of an order; nothing turns but the cursor. -/
namespace Go.Proofs.YtelpkcbbipianaaGreat
open Go Go.RowKit

/-- Where a drawing stands: the cursor; the block of what is answered as it was laid; nothing has turned but the cursor's block. -/
structure DG (w wr : World) (p : Nat) (a : Option Addr) (len cap : Nat) (cs : Array Value) (t : TypeId) : Prop where
  cur : Cur wr p a len cap
  grown : w.grownBy wr (some p)
  res : wr.heap[w.heap.size]? = some (.cells cs t (0, 0))

section
variable {w wr w1 : World} {p : Nat} {a : Option Addr} {len cap : Nat} {cs : Array Value} {t : TypeId}

theorem DG.start (h : Cur w p a len cap) (cs : Array Value) (t : TypeId) : DG w (w.alloc (.cells cs t)) p a len cap cs t :=
  have hb := (Below.refl _ w).alloc (Nat.le_refl _) (.cells cs t)
  ⟨h.on hb, grown_below hb, heap_last w _⟩

theorem DG.lt (h : DG w wr p a len cap cs t) : w.heap.size < wr.heap.size := (Array.getElem?_eq_some_iff.1 h.res).1

theorem DG.draw (h : DG w wr p a len cap cs t) (hp : p < w.heap.size) (hc : Cur w1 p a len cap) (hg : wr.grownBy w1 (some p)) : DG w w1 p a len cap cs t :=
  ⟨hc, h.grown.andThen hg (fun _ hj => .inr hj), (hg.block _ h.lt (fun e => by injection e with e; omega)).trans h.res⟩

theorem DG.next (h : DG w wr p a len cap cs t) (hb : Below wr.heap.size wr w1) : DG w w1 p a len cap cs t :=
  ⟨h.cur.on hb, h.grown.andThen (grown_below hb (p := p)) (fun _ hj => .inr hj), (hb.block _ h.lt).trans h.res⟩

/-- A cell of what is answered is stored. -/
theorem DG.set (h : DG w wr p a len cap cs t) (h0 : Cur w p a len cap) (o : Nat) (v : Value) : DG w (wr.setCell ⟨w.heap.size, o, none⟩ v) p a len cap (cs.setIfInBounds o v) t := by
  have hp := h0.lt
  have keep : ∀ y, y ≠ w.heap.size → (wr.setCell ⟨w.heap.size, o, none⟩ v).heap[y]? = wr.heap[y]? := fun y hy => Below.heap_setCell _ _ _ _ (by exact hy)
  have hA : Apart a len w.heap.size := apart_size h0 (Nat.le_refl _)
  refine ⟨⟨?_, ?_, h.cur.apart⟩, ⟨h.grown.os, h.grown.tape, h.grown.output, by simpa [World.setCell] using h.grown.size, fun k hk hne => (keep k (by omega)).trans (h.grown.block k hk hne)⟩, heap_set h.res o v⟩
  · obtain ⟨i, x, hi, hc⟩ := h.cur.cur
    exact ⟨i, x, hi, (keep p (by omega)).trans hc⟩
  · obtain ⟨hl, h1 | ⟨b, off, rfl, hlt, hcc⟩⟩ := h.cur.code
    · exact ⟨hl, .inl h1⟩
    · rcases hA with h1 | hne
      · exact ⟨hl, .inl h1⟩
      refine ⟨hl, .inr ⟨b, off, rfl, by simpa [World.setCell] using hlt, fun j hj => ?_⟩⟩
      obtain ⟨z, hz, hcell⟩ := hcc j hj
      exact ⟨z, hz, (World.cell?_of_block (w := wr) (a := ⟨b, off + j, none⟩) (keep b (hne ⟨b, off, none⟩ rfl))).trans hcell⟩
end

theorem three {w : World} {b : Nat} {t : TypeId} {a0 a1 a2 : Value} (h : w.heap[b]? = some (.cells #[a0, a1, a2] t (0, 0))) : w.cell? ⟨b, 0, none⟩ = some a0 ∧ w.cell? ⟨b, 1, none⟩ = some a1 ∧ w.cell? ⟨b, 2, none⟩ = some a2 ∧ ∀ o, w.frozen? ⟨b, o, none⟩ = false :=
  ⟨by simp [World.cell?, h], by simp [World.cell?, h], by simp [World.cell?, h], fun o => by simp [World.frozen?, h]⟩
theorem four {w : World} {b : Nat} {t : TypeId} {a0 a1 a2 a3 : Value} (h : w.heap[b]? = some (.cells #[a0, a1, a2, a3] t (0, 0))) : w.cell? ⟨b, 0, none⟩ = some a0 ∧ w.cell? ⟨b, 1, none⟩ = some a1 ∧ w.cell? ⟨b, 2, none⟩ = some a2 ∧ w.cell? ⟨b, 3, none⟩ = some a3 ∧ ∀ o, w.frozen? ⟨b, o, none⟩ = false :=
  ⟨by simp [World.cell?, h], by simp [World.cell?, h], by simp [World.cell?, h], by simp [World.cell?, h], fun o => by simp [World.frozen?, h]⟩

def MetD (m : Met) : Prop := m.name.size ≤ 5 ∧ (1 ≤ m.kind ∧ m.kind ≤ 3) ∧ 1 ≤ m.goal ∧ m.goal ≤ 1000000

def metNames : List ByteArray := [⟨#[99, 112, 117]⟩, ⟨#[109, 101, 109]⟩, ⟨#[113, 117, 101, 117, 101]⟩, ⟨#[104, 105, 116, 115]⟩]

set_option maxRecDepth 100000 in
set_option maxHeartbeats 1600000 in
theorem drawMetric_any (a : Option Addr) (len cap p : Nat) (w : World) (hc : Cur w p a len cap) :
    Calls Tryz.prog 63 #[.pointer (some ⟨p, 0, none⟩)] w fun e w' => ∃ m : Met, MetD m ∧ e = .returned (.agg #[.string m.name, .int .i64 m.kind, .int .i64 m.goal]) ∧ Cur w' p a len cap ∧ w.grownBy w' (some p) := by
  have HC := Lib.hid hc
  have HD := Lib.hid (DG.start hc #[.string ⟨#[]⟩, .int .i64 0, .int .i64 0] 96)
  have hp : Hid (p < w.heap.size) := hc.lt
  clear hc
  go_enter Tryz.func63, Tryz.ntmps63
  go_wp2_with (first
    | (go_at_call 44; refine (pick_laid (fun v => v.size ≤ 5) metNames _ rfl _ _ rfl (by decide) (by decide) (by decide) a len cap p _ (by simp) HD.out.cur).mono ?_; rintro e w1 ⟨⟨s, hs, rfl⟩, hc1, hg1⟩; replace HD := Lib.hid (HD.out.draw hp.out hc1 hg1); clear hc1 hg1)
    | (go_at_call 24; refine (below_any 3 (by omega) (by omega) a len cap p _ HD.out.cur.cur HD.out.cur.code HD.out.cur.apart).mono ?_; rintro e w2 ⟨⟨r, hr, rfl⟩, hc1, ho1⟩; replace HD := Lib.hid (HD.out.draw hp.out (HD.out.cur.only hc1 ho1) ho1.grown); clear hc1 ho1)
    | (go_at_call 43; refine (pickInt_laid (fun v => 1 ≤ v ∧ v ≤ 1000000) [1, 500, 700, 800, 805, 1000, 50000, 1000000] _ rfl _ _ rfl (by decide) (by decide) (by decide) a len cap p _ (by simp) HD.out.cur).mono ?_; rintro e w3 ⟨⟨g, hg, rfl⟩, hc3, hg3⟩; replace HD := Lib.hid (HD.out.draw hp.out hc3 hg3); clear hc3 hg3; obtain ⟨z0, z1, z2, zf⟩ := three HD.out.res)
    | fail)
  have HE := Lib.hid (((HD.out.set HC.out 0 (.string s)).set HC.out 1 (.int .i64 (1 + r))).set HC.out 2 (.int .i64 g))
  exact bodyPost_ret (ret_met Tryz.results63 rfl HE.out.res) rfl ⟨⟨s, 1 + r, g⟩, ⟨hs, ⟨by show (1 : Int) ≤ 1 + r; omega, by show 1 + (r : Int) ≤ 3; omega⟩, hg⟩, rfl, HE.out.cur, HE.out.grown⟩

def PacD (q : Pac) : Prop := (0 ≤ q.up ∧ q.up ≤ 3600) ∧ (0 ≤ q.down ∧ q.down ≤ 3600) ∧ (0 ≤ q.ups ∧ q.ups ≤ 3600) ∧ 0 ≤ q.downs ∧ q.downs ≤ 3600

set_option maxRecDepth 100000 in
set_option maxHeartbeats 1600000 in
theorem drawPace_any (a : Option Addr) (len cap p : Nat) (w : World) (hc : Cur w p a len cap) :
    Calls Tryz.prog 62 #[.pointer (some ⟨p, 0, none⟩)] w fun e w' => ∃ q : Pac, PacD q ∧ e = .returned (.agg #[.int .i64 q.up, .int .i64 q.down, .int .i64 q.ups, .int .i64 q.downs]) ∧ Cur w' p a len cap ∧ w.grownBy w' (some p) := by
  have HC := Lib.hid hc
  have HD := Lib.hid (DG.start hc #[.int .i64 0, .int .i64 0, .int .i64 0, .int .i64 0] 63)
  have hp : Hid (p < w.heap.size) := hc.lt
  clear hc
  go_enter Tryz.func62, Tryz.ntmps62
  go_wp2_with fail
  refine (once_any 3 (by omega) (by omega) a len cap p _ HD.out.cur).mono ?_
  rintro e w1 ⟨⟨b, rfl⟩, hc1, ho1⟩
  replace HD := Lib.hid (HD.out.draw hp.out hc1 ho1.grown)
  clear hc1 ho1
  cases b
  · have t1 : True := trivial
    have t2 : True := trivial
    have t3 : True := trivial
    have t4 : True := trivial
    go_wp2_with (first
      | (go_at_call 43; clear t1; refine (pickInt_laid (fun v => 0 ≤ v ∧ v ≤ 3600) [0, 1, 4] _ rfl _ _ rfl (by decide) (by decide) (by decide) a len cap p _ (by simp) HD.out.cur).mono ?_; rintro e w1 ⟨⟨u, hu, rfl⟩, hc3, hg3⟩; replace HD := Lib.hid (HD.out.draw hp.out hc3 hg3); clear hc3 hg3)
      | (go_at_call 43; clear t2; refine (pickInt_laid (fun v => 0 ≤ v ∧ v ≤ 3600) [0, 1, 2] _ rfl _ _ rfl (by decide) (by decide) (by decide) a len cap p _ (by simp) HD.out.cur).mono ?_; rintro e w2 ⟨⟨d, hd, rfl⟩, hc3, hg3⟩; replace HD := Lib.hid (HD.out.draw hp.out hc3 hg3); clear hc3 hg3)
      | (go_at_call 43; clear t3; refine (pickInt_laid (fun v => 0 ≤ v ∧ v ≤ 3600) [0, 30, 60] _ rfl _ _ rfl (by decide) (by decide) (by decide) a len cap p _ (by simp) HD.out.cur).mono ?_; rintro e w3 ⟨⟨us, hus, rfl⟩, hc3, hg3⟩; replace HD := Lib.hid (HD.out.draw hp.out hc3 hg3); clear hc3 hg3)
      | (go_at_call 43; clear t4; refine (pickInt_laid (fun v => 0 ≤ v ∧ v ≤ 3600) [0, 60, 300, 3600] _ rfl _ _ rfl (by decide) (by decide) (by decide) a len cap p _ (by simp) HD.out.cur).mono ?_; rintro e w4 ⟨⟨ds, hds, rfl⟩, hc3, hg3⟩; replace HD := Lib.hid (HD.out.draw hp.out hc3 hg3); clear hc3 hg3; obtain ⟨z0, z1, z2, z3, zf⟩ := four HD.out.res)
      | fail)
    have HE := Lib.hid ((((HD.out.set HC.out 0 (.int .i64 u)).set HC.out 1 (.int .i64 d)).set HC.out 2 (.int .i64 us)).set HC.out 3 (.int .i64 ds))
    exact bodyPost_ret (ret_pace Tryz.results62 rfl HE.out.res) rfl ⟨⟨u, d, us, ds⟩, ⟨hu, hd, hus, hds⟩, rfl, HE.out.cur, HE.out.grown⟩
  · go_wp2_with (first
      | (go_at_call 80; refine (spec_paceNew _).mono ?_; rintro e w2 ⟨rfl, hb2⟩; replace HD := Lib.hid (HD.out.next hb2); clear hb2; obtain ⟨z0, z1, z2, z3, zf⟩ := four HD.out.res)
      | fail)
    have HE := Lib.hid ((((HD.out.set HC.out 0 (.int .i64 0)).set HC.out 1 (.int .i64 0)).set HC.out 2 (.int .i64 0)).set HC.out 3 (.int .i64 300))
    exact bodyPost_ret (ret_pace Tryz.results62 rfl HE.out.res) rfl ⟨⟨0, 0, 0, 300⟩, ⟨⟨by decide, by decide⟩, ⟨by decide, by decide⟩, ⟨by decide, by decide⟩, by decide, by decide⟩, rfl, HE.out.cur, HE.out.grown⟩
end Go.Proofs.YtelpkcbbipianaaGreat

/- plain facts on rows of small structs that are laid one by one. -/
namespace Go.Proofs.YtelpkcbbipianaaGreat
open Go Go.RowKit

/-- Cells stored one behind the other. -/
def setL (w : World) (b o : Nat) : List Value → World
  | [] => w
  | v :: vs => setL (w.setCell ⟨b, o, none⟩ v) b (o + 1) vs

theorem setL_other (w : World) (b o : Nat) (vs : List Value) (k : Nat) (h : k ≠ b) : (setL w b o vs).heap[k]? = w.heap[k]? := by
  induction vs generalizing w o with
  | nil => rfl
  | cons v vs ih => rw [setL, ih, Below.heap_setCell _ _ _ _ h]

end Go.Proofs.YtelpkcbbipianaaGreat

/- the laws' toMetricS, toNoteS and toOrder lay the same metrics, notes and orders into new memory. -/
namespace Go.Proofs.YtelpkcbbipianaaGreat
open Go Go.RowKit

theorem info_met : (Tryz.prog.info? 96).map (fun i => (i.zero, i.size, i.bytes)) = some (some (.agg #[.string ⟨#[]⟩, .int .i64 0, .int .i64 0]), 3, 32) := by kernel_rfl

theorem info_not : (Tryz.prog.info? 99).map (fun i => (i.zero, i.size, i.bytes)) = some (some (.agg #[.string ⟨#[]⟩, .string ⟨#[]⟩]), 2, 32) := by kernel_rfl

end Go.Proofs.YtelpkcbbipianaaGreat

/- the laws' toOrder lays the same order into new memory. -/
namespace Go.Proofs.YtelpkcbbipianaaGreat
open Go Go.RowKit

theorem ret_order {fn : Func} {i : Nat} (hres : fn.results = #[ResultVar.cell i 66]) {tmps : Array Value} {w : World} {b : Nat} {t : TypeId} {a0 a1 a2 a3 a4 a5 a6 a7 a8 a9 : Value}
    (ht : tmps[i]?.getD undef = .pointer (some ⟨b, 0, none⟩)) (h : w.heap[b]? = some (.cells #[a0, a1, a2, a3, a4, a5, a6, a7, a8, a9] t (0, 0))) : (results fn tmps).run Tryz.prog w = .ok (.agg #[a0, a1, a2, a3, a4, a5, a6, a7, a8, a9]) w := by
  have c0 : w.cell? ⟨b, 0, none⟩ = some a0 := cell_of h 0
  have c1 : w.cell? ⟨b, 1, none⟩ = some a1 := cell_of h 1
  have c2 : w.cell? ⟨b, 2, none⟩ = some a2 := cell_of h 2
  have c3 : w.cell? ⟨b, 3, none⟩ = some a3 := cell_of h 3
  have c4 : w.cell? ⟨b, 4, none⟩ = some a4 := cell_of h 4
  have c5 : w.cell? ⟨b, 5, none⟩ = some a5 := cell_of h 5
  have c6 : w.cell? ⟨b, 6, none⟩ = some a6 := cell_of h 6
  have c7 : w.cell? ⟨b, 7, none⟩ = some a7 := cell_of h 7
  have c8 : w.cell? ⟨b, 8, none⟩ = some a8 := cell_of h 8
  have c9 : w.cell? ⟨b, 9, none⟩ = some a9 := cell_of h 9
  simp [results, hres, ht, go_sem, c0, c1, c2, c3, c4, c5, c6, c7, c8, c9]

end Go.Proofs.YtelpkcbbipianaaGreat

/- the program's tree of a list of notes: a map of their Texts, in memory of its own; no condition. -/
namespace Go.Proofs.YtelpkcbbipianaaGreat
open Go Go.RowKit

theorem owns_form {w : World} {base n : Nat} {t : TypeId} {k : Nat} {v : Value} {l : List Value} (h : w.ownsRow base t k v n l) : ∃ o c, v = .slice o n c := by
  rcases h.2 with ⟨rfl, h0⟩ | ⟨g, cap, cur, rfl, _⟩
  · exact ⟨none, 0, by rw [h0]⟩
  · exact ⟨_, _, rfl⟩
theorem owns_blk {w : World} {base n : Nat} {t : TypeId} {k : Nat} {v : Value} {l : List Value} (h : w.ownsRow base t k v n l) {b : Nat} (hb : v.ownBlock = some b) : base ≤ b ∧ b < w.heap.size ∧ ∃ cs, w.heap[b]? = some (.cells cs t (0, 0)) := by
  rcases h.2 with ⟨rfl, _⟩ | ⟨g', cap', cur, rfl, hg, hh, _⟩
  · simp [Value.ownBlock] at hb
  · have : g' = b := by simpa [Value.ownBlock] using hb
    subst this
    exact ⟨hg, (Array.getElem?_eq_some_iff.1 hh).1, _, hh⟩
theorem owns_carry {w w1 : World} {base n : Nat} {t : TypeId} {k : Nat} {v : Value} {l : List Value} (h : w.ownsRow base t k v n l) (hk : ∀ b, v.ownBlock = some b → w1.heap[b]? = w.heap[b]?) : w1.ownsRow base t k v n l := by
  refine ⟨h.1, ?_⟩
  rcases h.2 with h2 | ⟨g, cap, cur, rfl, hg, hh, r⟩
  · exact .inl h2
  · exact .inr ⟨g, cap, cur, rfl, hg, (hk g rfl).trans hh, r⟩

section
variable {w wr w1 w3 : World} {xs : List Not} {j d : Nat} {kv dv : Value}

end

end Go.Proofs.YtelpkcbbipianaaGreat

/- append of one text to a list of texts, and of one tree to a list of trees, that lie in memory of their own with their room: in place, or in a new block. -/
namespace Go.Proofs.YtelpkcbbipianaaGreat
open Go Go.RowKit

theorem setCells_other (b : Nat) : ∀ (vs : List Value) (o : Nat) (w : World) (y : Nat), y ≠ b → (w.setCells b o vs).heap[y]? = w.heap[y]?
  | [], _, _, _, _ => rfl
  | v :: r, o, w, y, h => by
    rw [World.setCells, setCells_other b r (o + 1) _ y h]
    exact Below.heap_setCell _ _ _ _ h

theorem setCells_but (b : Nat) : ∀ (vs : List Value) (o : Nat) (w : World) (F : List Nat), b ∈ F → But F w (w.setCells b o vs)
  | [], _, w, F, _ => But.refl F w
  | v :: r, o, w, F, h => by
    rw [World.setCells]
    exact ((But.refl F w).set (p := ⟨b, o, none⟩) h v).trans (setCells_but b r (o + 1) _ F h)

theorem Room.setCells {w : World} {b off n : Nat} (h : Room w b off n) (b' o : Nat) (vs : List Value) : Room (w.setCells b' o vs) b off n := fun i hi => World.isSome_setCells b' vs o w _ (h i hi)

/-- The elements that are appended to a list that has no room come to stand in a new block. -/
theorem run_append_out {P : Program} (w : World) (t ty e : TypeId) (i : TypeInfo) (z : Value) (size bytes : Nat) (ht : P.underlying t = some (.slice e)) (hi : P.info? e = some i) (hz : i.zero = some z)
    (hsize : i.size = size) (hby : i.bytes = bytes) (hzs : z.cells.size = size) (hsz : 0 < size) (o : Option Addr) (n cap : Nat) (hcap : cap < n + 1) (olds : List Value) (hlo : olds.length = n * size) (ho : 0 < n → ∃ b, o = some b)
    (holds : ∀ j u, olds[j]? = some u → ∀ b, o = some b → w.cell? (b.add j) = some u) (hn : n ≤ cap) (a : Addr) (news : List Value) (hl : news.length = 1 * size) (hnews : ∀ j u, news[j]? = some u → w.cell? (a.add j) = some u) (h1 : ∀ u ∈ news, u.oneCell' = true) (hc0 : o = none → cap = 0)
    (h63 : n + 1 ≤ maxLen) (hbytes : (n + 1) * bytes ≤ 140737488355328) :
    ∃ v' w', (Builtin.append_ #[t, t] ty #[.slice o n cap, .slice (some a) 1 1]).run P w = .ok v' w' ∧ w'.ownsRow w.heap.size e size v' (n + 1) (olds ++ news) ∧ w.grownBy w' none := by
  cases o with
  | some b =>
    exact run_append_arg_grows w t ty e i z size bytes ht hi hz hsize hby hzs hsz b n cap olds hlo (fun j u hu => holds j u hu b rfl) a 1 1 news hl hnews hcap h63 hbytes
  | none =>
    have hcz := hc0 rfl
    subst hcz
    obtain rfl : n = 0 := by omega
    have hol : olds = [] := List.length_eq_zero_iff.1 (by omega)
    subst hol
    obtain ⟨v', w', hr, h2, h3, -, -⟩ := run_append_own_at (P := P) w w.heap.size t ty e i z size bytes ht hi hz hsize hby hzs hsz (.slice none 0 0) 0 [] (World.ownsRow_nil _ _ _ _) a 1 1 news hl hnews h1 h63 hbytes (Nat.le_refl _)
    exact ⟨v', w', hr, h2, h3⟩

theorem owns_shape {w : World} {base : Nat} {e : TypeId} {q : Nat} {v : Value} {n : Nat} {xs : List Value} (h : w.ownsRow base e q v n xs) : ∃ o c, v = .slice o n c := by
  rcases h.2 with ⟨rfl, h0⟩ | ⟨g, cap, cur, rfl, _⟩
  · exact ⟨none, 0, by rw [h0]⟩
  · exact ⟨_, _, rfl⟩

theorem but_grown {F : List Nat} {w w' : World} (h : w.grownBy w' none) : But F w w' := But.of_below (below_of_grown h)

/-- One tree more behind a list of trees. -/
theorem append_kid {w wr : World} {dv : Value} {kids : List RT} {FD : List Nat} (h : KidsLie wr dv kids FD) (hf : Fresh w wr FD) {X : RT} {kx dx : Value} {FX : List Nat} (hX : Lies wr X kx dx FX) (hfX : Fresh w wr FX) (hd : ∀ x ∈ FX, x ∉ FD)
    {xb : Nat} {t : TypeId} (hxb : wr.heap[xb]? = some (.cells #[.int .i64 X.k, .int .i64 X.n, .string X.s, kx, dx] t (0, 0))) (hn : kids.length ≤ 1048576) (hs : w.heap.size ≤ wr.heap.size) (ty : TypeId) :
    ∃ v' w', (Builtin.append_ #[25, 25] ty #[dv, .slice (some ⟨xb, 0, none⟩) 1 1]).run Tryz.prog wr = .ok v' w' ∧
      ∃ o' c', v' = .slice o' (kids.length + 1) c' ∧ But FD wr w' ∧ ∃ F, KidsLie w' (.slice o' (kids.length + 1) c') (kids ++ [X]) F ∧ Fresh w w' F ∧ ∀ y ∈ F, y ∈ FD ∨ y ∈ FX ∨ wr.heap.size ≤ y := by
  obtain ⟨i0, hi0, hz0, hz1, hz2⟩ := info_parts info_node
  have hone : ∀ u ∈ X.row kx dx, u.oneCell' = true := by
    obtain ⟨⟨o1, q1, rfl⟩, ⟨o2, q2, rfl⟩⟩ := hX.slices
    exact row_one X _ _ _ _ _ _
  have hnews : ∀ j u, (X.row kx dx)[j]? = some u → wr.cell? ((⟨xb, 0, none⟩ : Addr).add j) = some u := World.news_of_block hxb
  obtain ⟨o, cap, b, off, FF, KV, DV, rfl, h1, h2, h3, hFD, h4, h5, h6⟩ := h
  have hsubF : ∀ y ∈ (List.range kids.length).flatMap FF, y ∈ FD := fun y hy => by rw [hFD]; exact List.mem_append_right _ hy
  have hfF : Fresh w wr ((List.range kids.length).flatMap FF) := by
    refine ⟨?_, fun y hy => hf.old y (hsubF y hy), fun y hy => hf.free y (hsubF y hy)⟩
    have := hf.nodup
    rw [hFD] at this
    exact (List.nodup_append.1 this).2.1
  by_cases hc : kids.length + 1 ≤ cap
  · have ho := h3 (by omega)
    subst ho
    rw [if_neg (by omega)] at hFD
    have hbF : b ∈ FD := by rw [hFD]; simp
    have hbn : b ∉ (List.range kids.length).flatMap FF := by
      have := hf.nodup
      rw [hFD] at this
      exact (List.nodup_cons.1 this).1
    have hbX : b ∉ FX := fun hx => hd b hx hbF
    have hrun := run_append_room_cells (P := Tryz.prog) wr 25 ty 27 i0 Tryz.underlying25 hi0 b off kids.length cap ⟨xb, 0, none⟩ 1 1 (X.row kx dx) (by rw [hz1]; rfl) hnews hone hc
      (fun j hj => by rw [hz1, Nat.add_assoc]; exact h6 _ (by have : j < 5 := hj; omega)) (fun j _ => hf.free b hbF _)
    rw [hz1] at hrun
    have keep : ∀ y, y ≠ b → (wr.setCells b (off + kids.length * 5) (X.row kx dx)).heap[y]? = wr.heap[y]? := fun y hy => setCells_other b _ _ wr y hy
    have hroom : ∀ j, j < (X.row kx dx).length → (wr.cell? ⟨b, off + kids.length * 5 + j, none⟩).isSome = true := fun j hj => by rw [Nat.add_assoc]; exact h6 _ (by have : j < 5 := hj; omega)
    have hflat := flat_succ FF kids.length FX
    have hmem : ∀ y ∈ (List.range (kids.length + 1)).flatMap (fun j => if j = kids.length then FX else FF j), y ∈ (List.range kids.length).flatMap FF ∨ y ∈ FX := fun y hy => by
      rw [hflat] at hy; exact List.mem_append.1 hy
    refine ⟨_, _, hrun, _, _, rfl, setCells_but b _ _ wr FD hbF, [b] ++ (List.range (kids.length + 1)).flatMap (fun j => if j = kids.length then FX else FF j), ?_, ⟨?_, fun y hy => ?_, fun y hy o => ?_⟩, fun y hy => ?_⟩
    · refine ⟨_, cap, b, off, (fun j => if j = kids.length then FX else FF j), (fun j => if j = kids.length then kx else KV j), (fun j => if j = kids.length then dx else DV j), by simp, by simpa using hc, h2, fun _ => rfl, by rw [if_neg (by omega)]; simp, fun j hj c hcc => ?_, fun j hj => ?_, h6.setCells _ _ _⟩
      · rw [List.length_append, List.length_singleton] at hj
        by_cases e : j = kids.length
        · subst e
          simp only [if_true, List.getElem_concat_length]
          rw [World.cell?_setCells_in b (X.row kx dx) _ wr hroom c hcc, List.getElem?_eq_getElem (by exact hcc)]
        · simp only [e, if_false]
          rw [World.cell?_setCells_out b _ _ wr _ (fun _ _ => .inl (by show off + j * 5 + c < _; omega)), List.getElem_append_left (by omega)]
          exact h4 j (by omega) c hcc
      · rw [List.length_append, List.length_singleton] at hj
        by_cases e : j = kids.length
        · subst e
          simp only [if_true, List.getElem_concat_length]
          exact hX.carry fun y hy => keep y (fun ee => hbX (ee ▸ hy))
        · simp only [e, if_false]
          rw [List.getElem_append_left (by omega)]
          exact (h5 j (by omega)).carry fun y hy => keep y (fun ee => hbn (List.mem_flatMap.2 ⟨j, List.mem_range.2 (by omega), ee ▸ hy⟩))
    · rw [hflat]
      simp only [List.singleton_append, List.nodup_cons]
      refine ⟨fun hy => ?_, List.nodup_append.2 ⟨hfF.nodup, hfX.nodup, fun x hx y hy e => hd y hy (hsubF y (e ▸ hx))⟩⟩
      rcases List.mem_append.1 hy with hy | hy
      · exact hbn hy
      · exact hbX hy
    · rcases List.mem_append.1 hy with hy | hy
      · simp at hy; subst hy; exact hf.old y hbF
      · rcases hmem y hy with hy | hy
        · exact hfF.old y hy
        · exact hfX.old y hy
    · rw [World.frozen?_setCells]
      rcases List.mem_append.1 hy with hy | hy
      · simp at hy; subst hy; exact hf.free y hbF o
      · rcases hmem y hy with hy | hy
        · exact hfF.free y hy o
        · exact hfX.free y hy o
    · rcases List.mem_append.1 hy with hy | hy
      · simp at hy; subst hy; exact .inl hbF
      · rcases hmem y hy with hy | hy
        · exact .inl (hsubF y hy)
        · exact .inr (.inl hy)
  · have hrows : ∀ j u, (rowsOf kids KV DV kids.length)[j]? = some u → ∀ b', o = some b' → wr.cell? (b'.add j) = some u := fun j u hu b' hb' => by
      have hj : j < kids.length * 5 := by
        have := (List.getElem?_eq_some_iff.1 hu).1
        rwa [rowsOf_length] at this
      have ho := h3 (by omega)
      rw [hb'] at ho
      have hbe : b' = ⟨b, off, none⟩ := Option.some.inj ho
      subst hbe
      have hj5 : j / 5 < kids.length := by omega
      have hr := rowsOf_get kids KV DV kids.length (j / 5) (j % 5) hj5 (by omega)
      have e : j / 5 * 5 + j % 5 = j := by omega
      rw [e, hu] at hr
      have hcc := h4 (j / 5) hj5 (j % 5) (by omega)
      rw [Nat.add_assoc, e] at hcc
      rw [Go.WideShapes.add_plain, hcc, hr]
      have e2 : kids.getD (j / 5) default = kids[j / 5] := by simp [List.getD, List.getElem?_eq_getElem hj5]
      rw [e2]
    obtain ⟨v', w', hr, hown, hg⟩ := run_append_out (P := Tryz.prog) wr 25 ty 27 i0 _ 5 80 Tryz.underlying25 hi0 hz0 hz1 hz2 rfl (by decide) o kids.length cap (by omega) (rowsOf kids KV DV kids.length) (rowsOf_length _ _ _ _) (fun h0 => ⟨_, h3 (by omega)⟩)
      hrows h1 ⟨xb, 0, none⟩ (X.row kx dx) rfl hnews hone (fun e => by
        rcases Nat.eq_zero_or_pos cap with h0 | h0
        · exact h0
        · rw [h3 h0] at e; cases e) (by unfold maxLen; omega) (by omega)
    obtain ⟨o', c', rfl⟩ := owns_shape hown
    have hb := below_of_grown hg
    have hins : insAt kids kids.length X = kids ++ [X] := by simp [insAt]
    obtain ⟨F, k1, k2, k3⟩ := kids_ins (w := w) (wf := w') (base := wr.heap.size) (KV := KV) (DV := DV) (FF := FF) (Nat.le_refl kids.length) (by
        rw [List.take_of_length_le (by rw [rowsOf_length]; exact Nat.le_refl _), List.drop_eq_nil_of_le (by rw [rowsOf_length]; exact Nat.le_refl _), List.append_nil]
        exact hown) (fun j hj => (h5 j hj).stay hb (Nat.le_refl _)) (hX.stay hb (Nat.le_refl _)) (hfF.carry fun y hy => hb.block y (by
          obtain ⟨j, hj, hy⟩ := List.mem_flatMap.1 hy
          exact (h5 j (List.mem_range.1 hj)).lt y hy)) (hfX.carry fun y hy => hb.block y (hX.lt y hy)) (fun y hy hy' => hd y hy (hsubF y hy')) (fun g hgo => by
          have hge := (hown.lt g hgo).1
          refine ⟨fun hy => ?_, fun hy => ?_⟩
          · obtain ⟨j, hj, hy⟩ := List.mem_flatMap.1 hy
            have := (h5 j (List.mem_range.1 hj)).lt g hy
            omega
          · have := hX.lt g hy
            omega) hs
    rw [hins] at k1
    refine ⟨_, w', hr, o', c', rfl, but_grown hg, F, k1, k2, fun y hy => ?_⟩
    rcases k3 y hy with e | e | e
    · exact .inr (.inr (hown.lt y e).1)
    · exact .inl (hsubF y e)
    · exact .inr (.inl e)

/-- One text more behind a list of texts. -/
theorem append_str {w wr : World} {kv : Value} {ks : List ByteArray} {FK : List Nat} (h : StrsAt wr kv ks FK) (hf : Fresh w wr FK) (key : ByteArray) (hkey : key.size ≤ maxLen) {xb : Nat} {t : TypeId} (hxb : wr.heap[xb]? = some (.cells #[.string key] t (0, 0))) (hn : ks.length ≤ 1048576) (hs : w.heap.size ≤ wr.heap.size) (ty : TypeId) :
    ∃ v' w', (Builtin.append_ #[24, 24] ty #[kv, .slice (some ⟨xb, 0, none⟩) 1 1]).run Tryz.prog wr = .ok v' w' ∧
      ∃ o' c', v' = .slice o' (ks.length + 1) c' ∧ But FK wr w' ∧ ∃ F, StrsAt w' (.slice o' (ks.length + 1) c') (ks ++ [key]) F ∧ Fresh w w' F ∧ ∀ y ∈ F, y ∈ FK ∨ wr.heap.size ≤ y := by
  obtain ⟨i0, hi0, hz0, hz1, hz2⟩ := info_parts info_string
  have hone : ∀ u ∈ [Value.string key], u.oneCell' = true := by simp [Value.oneCell']
  have hnews : ∀ j u, [Value.string key][j]? = some u → wr.cell? ((⟨xb, 0, none⟩ : Addr).add j) = some u := World.news_of_block hxb
  obtain ⟨o, cap, b, off, rfl, h1, h2, h3, hFK, h4, h6⟩ := h
  have hsz : ∀ i (hi : i < (ks ++ [key]).length), (ks ++ [key])[i].size ≤ maxLen := fun i hi => by
    rcases List.mem_append.1 (List.getElem_mem hi) with e | e
    · obtain ⟨m, hm, e⟩ := List.getElem_of_mem e
      rw [← e]; exact (h4 m hm).2
    · simp at e; rw [e]; exact hkey
  by_cases hc : ks.length + 1 ≤ cap
  · have ho := h3 (by omega)
    subst ho
    rw [if_neg (by omega)] at hFK
    subst hFK
    have hrun := run_append_room_cells (P := Tryz.prog) wr 24 ty 9 i0 Tryz.underlying24 hi0 b off ks.length cap ⟨xb, 0, none⟩ 1 1 [.string key] (by rw [hz1]; rfl) hnews hone hc
      (fun j hj => by rw [hz1, Nat.add_assoc]; exact h6 _ (by have : j < 1 := hj; omega)) (fun j _ => hf.free b (by simp) _)
    rw [hz1] at hrun
    have hroom : ∀ j, j < [Value.string key].length → (wr.cell? ⟨b, off + ks.length * 1 + j, none⟩).isSome = true := fun j hj => by rw [Nat.add_assoc]; exact h6 _ (by have : j < 1 := hj; omega)
    refine ⟨_, _, hrun, _, _, rfl, setCells_but b _ _ wr [b] (by simp), [b], ⟨_, cap, b, off, by simp, by simpa using hc, h2, fun _ => rfl, by rw [if_neg (by omega)], fun j hj => ⟨?_, hsz j hj⟩, h6.setCells _ _ _⟩, ⟨by simp, hf.old, fun y hy o => by rw [World.frozen?_setCells]; exact hf.free y hy o⟩, fun y hy => .inl hy⟩
    rw [List.length_append, List.length_singleton] at hj
    by_cases e : j = ks.length
    · subst e
      have := World.cell?_setCells_in b [Value.string key] _ wr hroom 0 (by simp)
      simpa using this
    · rw [World.cell?_setCells_out b _ _ wr _ (fun _ _ => .inl (by show off + j < _; omega)), List.getElem_append_left (by omega)]
      exact (h4 j (by omega)).1
  · have hrows : ∀ j u, (ks.map Value.string)[j]? = some u → ∀ b', o = some b' → wr.cell? (b'.add j) = some u := fun j u hu b' hb' => by
      have hj : j < ks.length := by
        have := (List.getElem?_eq_some_iff.1 hu).1
        simpa using this
      have ho := h3 (by omega)
      rw [hb'] at ho
      have hbe : b' = ⟨b, off, none⟩ := Option.some.inj ho
      subst hbe
      rw [List.getElem?_map, List.getElem?_eq_getElem hj] at hu
      have hu' : Value.string ks[j] = u := by simpa using hu
      rw [Go.WideShapes.add_plain, ← hu']
      exact (h4 j hj).1
    obtain ⟨v', w', hr, hown, hg⟩ := run_append_out (P := Tryz.prog) wr 24 ty 9 i0 _ 1 16 Tryz.underlying24 hi0 hz0 hz1 hz2 rfl (by decide) o ks.length cap (by omega) (ks.map .string) (by simp) (fun h0 => ⟨_, h3 (by omega)⟩)
      hrows h1 ⟨xb, 0, none⟩ [.string key] rfl hnews hone (fun e => by
        rcases Nat.eq_zero_or_pos cap with h0 | h0
        · exact h0
        · rw [h3 h0] at e; cases e) (by unfold maxLen; omega) (by omega)
    obtain ⟨o', c', rfl⟩ := owns_shape hown
    obtain ⟨F, f1, f2, f3⟩ := strs_owned (w := w) (wf := w') (base := wr.heap.size) (t := 9) (v := .slice o' (ks.length + 1) c') (ks := ks ++ [key]) (by simpa using hown) hsz hs
    exact ⟨_, w', hr, o', c', rfl, but_grown hg, F, f1, f2, fun y hy => .inr (hown.lt y (f3 y hy)).1⟩
end Go.Proofs.YtelpkcbbipianaaGreat

/- a list of small structs that was laid by append lies as such lists do; no condition. -/
namespace Go.Proofs.YtelpkcbbipianaaGreat
open Go Go.RowKit

theorem flat_at {α : Type} {enc : α → List Value} {k : Nat} (hk : ∀ a, (enc a).length = k) : (xs : List α) → (i : Nat) → (h : i < xs.length) → (j : Nat) → (hj : j < k) → (xs.flatMap enc)[i * k + j]? = (enc xs[i])[j]?
  | x :: xs, 0, _, j, hj => by
    rw [List.flatMap_cons, Nat.zero_mul, Nat.zero_add, List.getElem?_append_left (by rw [hk]; exact hj)]
    rfl
  | x :: xs, i + 1, h, j, hj => by
    have e : (i + 1) * k + j = (enc x).length + (i * k + j) := by rw [hk, Nat.add_mul]; omega
    rw [List.flatMap_cons, e, List.getElem?_append_right (by omega), Nat.add_sub_cancel_left]
    exact flat_at hk xs i (by simpa using h) j hj

theorem row_of_owns {α : Type} {enc : α → List Value} {ok : α → Prop} {k : Nat} {w : World} {base : Nat} {e : TypeId} {v : Value} {xs : List α} (hk : ∀ a, (enc a).length = k) (h : w.ownsRow base e k v xs.length (xs.flatMap enc)) (hok : ∀ x ∈ xs, ok x) : ∃ F, RowAt enc ok k w v xs F := by
  rcases h.2 with ⟨rfl, h0⟩ | ⟨g, cap, cur, rfl, hb, hg, hn, hc, hs, ht⟩
  · have e : xs = [] := List.eq_nil_of_length_eq_zero h0
    subst e
    exact ⟨[], none, 0, 0, 0, rfl, Nat.le_refl _, by decide, fun h => absurd h (by omega), by simp, fun i hi => absurd hi (by simp), fun i hi => absurd hi (by simp)⟩
  · refine ⟨_, some ⟨g, 0, none⟩, cap, g, 0, rfl, hn, hc, fun _ => rfl, rfl, fun i hi => ⟨hok _ (List.getElem_mem hi), fun j hj => ?_⟩, fun i hi => ?_⟩
    · have hlt : i * k + j < xs.length * k := by
        have : (i + 1) * k ≤ xs.length * k := Nat.mul_le_mul_right k (by omega)
        rw [Nat.add_mul] at this
        omega
      have e1 : cur[i * k + j]? = (xs.flatMap enc)[i * k + j]? := by rw [← ht, List.getElem?_take_of_lt hlt, Array.getElem?_toList]
      rw [← flat_at hk xs i hi j hj, ← e1]
      simp [World.cell?, hg]
    · have hi' : i < cur.size := by rw [hs]; exact hi
      simp [World.cell?, hg, Array.getElem?_eq_getElem hi']

/-- The elements that pass, of the first j. -/
theorem filter_take {α : Type} (q : α → Bool) (xs : List α) {j : Nat} (hj : j < xs.length) : (xs.take (j + 1)).filter q = (xs.take j).filter q ++ (if q xs[j] = true then [xs[j]] else []) := by
  rw [List.take_succ_eq_append_getElem hj, List.filter_append, List.filter_cons, List.filter_nil]

theorem met_row (m : Met) : m.row.length = 3 := rfl
theorem info_metL : (Tryz.prog.info? 96).map (fun i => (i.zero, i.size, i.bytes)) = some (some (.agg #[.string ⟨#[]⟩, .int .i64 0, .int .i64 0]), 3, 32) := by kernel_rfl

end Go.Proofs.YtelpkcbbipianaaGreat
