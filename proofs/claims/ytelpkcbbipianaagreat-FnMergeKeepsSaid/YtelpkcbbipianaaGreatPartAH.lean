/-
  What is proved: the program's roomBehind tells how many of the nodes that there is room for are left behind a tree; its TreeOk whether a tree is right, not too deep and not too great.; for any tree the program's TreeOk answers as the model's TreeOk does, and the law returns true with its argument as it was; no condition.; plain facts on lists of texts and of nodes that a literal lays: one block each; and on the map that comes of keys in any order.; plain facts on lists of small structs as they lie in memory, and on metrics, notes, paces and orders.; plain facts on decimal numerals and on lists of bytes; no program, no condition beyond each theorem's own.; plain facts on texts that are digits with an end behind them: the runes behind the digits are an end's signs just where the bytes are; no program, no condition beyond each theorem's own.; the model's Digits hands back the decimal numeral of any int; it makes memory and turns none that was there.; AmountText and SpanText, the program's and the model's, at every int; condition of the program's: the library's table of powers of ten starts as the program's text lays it.
-/
import Derived.Test.YtelpkcbbipianaaGreatPartAG
import Derived.Test.YtelpkcbbipianaaGreatPartAA
import Derived.Test.YtelpkcbbipianaaGreatPartAD
import Derived.Test.YtelpkcbbipianaaGreatPartAB
import Derived.Lib.ItoaNum
import Derived.Lib.ItoaLen
import Derived.Lib.AtoiTie
import Derived.Lib.AtoiAllCases
import Derived.Laws.RangeAny
import Derived.Test.YtelpkcbbipianaaGreatRows
import Derived.WalkKit
import Derived.WalkLawsBesides
import Derived.ProofKit
import Derived.Laws.IdiomStrings
import Derived.Outline
import Derived.OpenShut
import Derived.LaidMore
import Derived.Stop.Joined
import Derived.Stop.LaidErr
import Derived.Lib.LaidTab
import Derived.Lib.AppendIntMem
import Derived.WalkSmall
import Derived.MakeChecks
import Derived.Lib.Hide
/- the program's roomBehind tells how many of the nodes that there is room for are left behind a tree; its TreeOk whether a tree is right, not too deep and not too great. -/
namespace Go.Proofs.YtelpkcbbipianaaGreat
open Go Go.RowKit

/-- A tree fits: right, so deep at most, so many nodes at most. -/
def FitsK (T : RT) (d r : Nat) : Prop := T.deep ≤ d ∧ T.size ≤ r ∧ T.right = true

def RoomAt (T : RT) : Prop := ∀ (w : World) (kv dv : Value) (F : List Nat), Lies w T kv dv F → ∀ d r : Nat, d ≤ 8 → r ≤ 200 →
  Calls Tryz.prog 12 #[T.val kv dv, .int .i64 d, .int .i64 r] w fun e w' => ((FitsK T d r ∧ e = .returned (.tuple #[.int .i64 (r - T.size : Nat), .bool true])) ∨ (¬ FitsK T d r ∧ e = .returned (.tuple #[.int .i64 0, .bool false]))) ∧ Below w.heap.size w w'

theorem fits_head {T : RT} {d r : Nat} (h : FitsK T d r) : 0 < d ∧ 0 < r ∧ headOk T = true := by
  obtain ⟨h1, h2, h3⟩ := h
  obtain ⟨k, n, s, keys, kids⟩ := T
  rw [RT.deep] at h1
  rw [RT.size] at h2
  rw [RT.right, Bool.and_eq_true] at h3
  exact ⟨by omega, by omega, h3.1⟩

theorem fits_kid {k n : Int} {s : ByteArray} {keys : List ByteArray} {kids : List RT} {d r j : Nat} (h : FitsK (.node k n s keys kids) d r) (hj : j < kids.length) : FitsK kids[j] (d - 1) (r - 1 - sizeAll (kids.take j)) := by
  obtain ⟨h1, h2, h3⟩ := h
  rw [RT.deep] at h1
  rw [RT.size] at h2
  rw [RT.right, Bool.and_eq_true, rightAll_iff] at h3
  have e1 := deepAll_take kids j hj
  have e2 := deepAll_take_le kids (j + 1)
  have e3 := sizeAll_take kids j hj
  have e4 := sizeAll_take_le kids (j + 1)
  exact ⟨by omega, by omega, h3.2 j hj⟩

theorem fits_all {k n : Int} {s : ByteArray} {keys : List ByteArray} {kids : List RT} {d r : Nat} (h0 : 0 < d) (h1 : 0 < r) (hh : headOk (.node k n s keys kids) = true) (hd : deepAll kids ≤ d - 1) (hs : sizeAll kids ≤ r - 1) (hr : ∀ i (h : i < kids.length), kids[i].right = true) : FitsK (.node k n s keys kids) d r := by
  refine ⟨by rw [RT.deep]; omega, by rw [RT.size]; omega, ?_⟩
  rw [RT.right, hh, Bool.true_and, rightAll_iff]
  exact hr

set_option maxRecDepth 100000 in
set_option maxHeartbeats 1600000 in
theorem impl_room (T : RT) : RoomAt T := by
  induction T using RT.ind with
  | h k n s keys kids ih =>
    intro w kv dv F hl d r hd hr
    have HN := Lib.hid fun (wr : World) (hb : Below w.heap.size w wr) => impl_nodeOk (.node k n s keys kids) wr kv dv F (hl.stay hb (Nat.le_refl _))
    obtain ⟨-, -, -, FK, FD, -, hD, -⟩ := hl.outn
    obtain ⟨o, cap, b, off, FF, KV, DV, rfl, hlc, hcm, ho, -, hcell, hlies, -⟩ := hD
    have HX := Lib.hid (Box.start w (.int .i64 k) (.int .i64 n) (.string s) kv (.slice o kids.length cap) 27)
    have HC := Lib.hid hcell
    have HL := Lib.hid hlies
    have HO := Lib.hid ho
    clear hcell hlies ho hl
    unfold maxLen at hcm
    show Calls Tryz.prog 12 #[.agg #[.int .i64 k, .int .i64 n, .string s, kv, .slice o kids.length cap], .int .i64 d, .int .i64 r] w _
    by_cases d0 : d = 0
    · have hnf : Hid (¬ FitsK (.node k n s keys kids) d r) := fun h => by have := (fits_head h).1; omega
      subst d0
      go_enter Tryz.func12, Tryz.ntmps12
      go_wp2
      go_ret2
      exact ⟨.inr ⟨hnf.out, rfl⟩, (Below.refl _ w).alloc (Nat.le_refl _) _⟩
    by_cases r0 : r = 0
    · have hnf : Hid (¬ FitsK (.node k n s keys kids) d r) := fun h => by have := (fits_head h).2.1; omega
      have d1 : ¬ (d : Int) = 0 := by omega
      subst r0
      go_enter Tryz.func12, Tryz.ntmps12
      go_wp2
      go_ret2
      exact ⟨.inr ⟨hnf.out, rfl⟩, (Below.refl _ w).alloc (Nat.le_refl _) _⟩
    have d1 : ((d : Int) == 0) = false := by simp; omega
    have r1 : ((r : Int) == 0) = false := by simp; omega
    by_cases hh : headOk (.node k n s keys kids) = true
    · rw [hh] at HN
      go_enter Tryz.func12, Tryz.ntmps12
      go_wp2_with (first
        | (go_at_call 26; refine (HN.out _ HX.out.below).mono ?_; rintro e w1 ⟨rfl, hb1⟩; have HX1 := Lib.hid (HX.out.next hb1); obtain ⟨-, -, x0, x1, x2, x3, x4⟩ := HX1.out; clear hb1)
        | fail)
      go_loopw [2, 28] (fun m i wr => ∃ j : Nat, j ≤ kids.length ∧ i = .int .i64 j ∧ m = .int .i64 (r - 1 - sizeAll (kids.take j) : Nat) ∧ Hid (deepAll (kids.take j) ≤ d - 1 ∧ sizeAll (kids.take j) ≤ r - 1 ∧ ∀ i (h : i < kids.length), i < j → kids[i].right = true) ∧ Hid (Below w.heap.size w wr)) (fun _ i _ => kids.length - (intOf i).toNat)
      case atStart => exact ⟨0, Nat.zero_le _, rfl, by simp [sizeAll]; omega, ⟨by simp [deepAll], by simp [sizeAll], fun i _ h => absurd h (by omega)⟩, HX1.out.below⟩
      case round =>
        obtain ⟨j, hj, rfl, rfl, hr, hb⟩ := hrel
        by_cases hlt : j < kids.length
        · have ho := HO.out (by omega)
          subst ho
          obtain ⟨c0, c1, c2, c3, c4⟩ := kid_cells (HC.out j hlt) hb.out
          obtain ⟨⟨o1, q1, s1⟩, ⟨o2, q2, s2⟩⟩ := (HL.out j hlt).slices
          have HI := Lib.hid (fun (w1 : World) (hb1 : Below w.heap.size w w1) => ih _ (List.getElem_mem hlt) w1 _ _ _ ((HL.out j hlt).stay hb1 (Nat.le_refl _)) (d - 1) (r - 1 - sizeAll (kids.take j)) (by omega) (by omega))
          have HE := Lib.hid (And.intro (deepAll_take kids j hlt) (sizeAll_take kids j hlt))
          have HF := Lib.hid (fun h : FitsK (.node k n s keys kids) d r => fits_kid h hlt)
          have HY : Hid (kids[j].right = true → ∀ i (h : i < kids.length), i < j + 1 → kids[i].right = true) := fun h i hi hij => by
            by_cases e : i = j
            · subst e; exact h
            · exact hr.out.2.2 i hi (by omega)
          have hB1 : Hid (∀ ob, Below w.heap.size w (wr.alloc ob)) := fun ob => hb.out.alloc hb.out.size _
          have ed : ((d : Int) - 1) = ((d - 1 : Nat) : Int) := by omega
          generalize kids[j] = x at *
          generalize KV j = v1 at *
          generalize DV j = v2 at *
          subst s1 s2
          generalize hq : r - 1 - sizeAll (kids.take j) = q at *
          have HQ := Lib.hid hq
          clear hq
          go_wp2_with fail
          refine (HI.out _ (hB1.out _)).mono ?_
          rintro e w2 ⟨hor, hb2⟩
          have HB2 := Lib.hid ((hB1.out _).trans (hb2.mono (hB1.out _).size))
          clear hb2
          rcases hor with ⟨hf, rfl⟩ | ⟨hf, rfl⟩
          · have HFt := Lib.hid hf
            clear hf
            go_wp2
            obtain ⟨f1, f2, f3⟩ := HFt.out
            obtain ⟨g1, g2⟩ := HE.out
            obtain ⟨u1, u2, -⟩ := hr.out
            have := HQ.out
            refine ⟨⟨j + 1, by omega, by go_num, ?_, ⟨by omega, by omega, HY.out f3⟩, HB2.out⟩, by simp [intOf]; omega⟩
            congr 1; omega
          · have HFt := Lib.hid (fun h => hf (HF.out h))
            clear hf
            go_wp2
            go_ret2
            exact ⟨.inr ⟨HFt.out, rfl⟩, HB2.out⟩
        · have e : kids.take j = kids := List.take_of_length_le (by omega)
          have HFt : Hid (FitsK (.node k n s keys kids) d r) := by
            have := hr.out
            rw [e] at this
            exact fits_all (by omega) (by omega) hh this.1 this.2.1 (fun i h => this.2.2 i h (by omega))
          rw [e]
          go_wp2
          go_ret2
          refine ⟨.inl ⟨HFt.out, ?_⟩, hb.out⟩
          rw [RT.size]
          exact congrArg (fun z => Ending.returned (.tuple #[.int .i64 z, .bool true])) (by omega)
    · have hh' : headOk (.node k n s keys kids) = false := by simpa using hh
      have hnf : Hid (¬ FitsK (.node k n s keys kids) d r) := fun h => hh (fits_head h).2.2
      rw [hh'] at HN
      go_enter Tryz.func12, Tryz.ntmps12
      go_wp2_with (first
        | (go_at_call 26; refine (HN.out _ HX.out.below).mono ?_; rintro e w1 ⟨rfl, hb1⟩; have HB := Lib.hid (HX.out.next hb1).below; clear hb1)
        | fail)
      go_ret2
      exact ⟨.inr ⟨hnf.out, rfl⟩, HB.out⟩
end Go.Proofs.YtelpkcbbipianaaGreat

/- for any tree the program's TreeOk answers as the model's TreeOk does, and the law returns true with its argument as it was; no condition. -/
namespace Go.Proofs.YtelpkcbbipianaaGreat
open Go Go.RowKit

theorem treeOk_fits (T : RT) : treeOk T = true ↔ FitsK T 8 200 := by
  unfold treeOk FitsK
  simp [Bool.and_eq_true, and_assoc]

set_option maxRecDepth 100000 in
set_option maxHeartbeats 400000 in
theorem impl_treeOk (T : RT) (w : World) (kv dv : Value) (F : List Nat) (hl : Lies w T kv dv F) :
    Calls Tryz.prog 6 #[.agg #[.int .i64 T.k, .int .i64 T.n, .string T.s, kv, dv]] w fun e w' => e = .returned (.bool (treeOk T)) ∧ Below w.heap.size w w' := by
  have HX := Lib.hid (Box.start w (.int .i64 T.k) (.int .i64 T.n) (.string T.s) kv dv 27)
  have HR := Lib.hid (impl_room T _ _ _ _ (hl.stay HX.out.below (Nat.le_refl _)) 8 200 (by omega) (by omega))
  clear hl
  go_enter Tryz.func6, Tryz.ntmps6
  go_wp2_with fail
  refine HR.out.mono ?_
  rintro e w1 ⟨hor, hb1⟩
  have HB := Lib.hid (HX.out.next hb1).below
  clear hb1
  rcases hor with ⟨hf, rfl⟩ | ⟨hf, rfl⟩
  · have HF := Lib.hid ((treeOk_fits T).2 hf)
    clear hf
    go_wp2
    go_ret
    exact ⟨by rw [HF.out]; rfl, HB.out⟩
  · have HF : Hid (treeOk T = false) := by
      show treeOk T = false
      rw [← Bool.not_eq_true, treeOk_fits]
      exact hf
    clear hf
    go_wp2
    go_ret
    exact ⟨by rw [HF.out]; rfl, HB.out⟩

end Go.Proofs.YtelpkcbbipianaaGreat

/- plain facts on lists of texts and of nodes that a literal lays: one block each; and on the map that comes of keys in any order. -/
namespace Go.Proofs.YtelpkcbbipianaaGreat
open Go Go.RowKit

theorem strs_lit {w : World} {b : Nat} (ks : List ByteArray) {cs : Array Value} (h : w.heap[b]? = some (.cells cs 9 (0, 0))) (hc : cs.toList = ks.map .string) (hs : ∀ k ∈ ks, k.size ≤ maxLen) (hm : ks.length ≤ maxLen) (hn : 0 < ks.length) :
    StrsAt w (.slice (some ⟨b, 0, none⟩) ks.length ks.length) ks [b] := by
  have hsz : cs.size = ks.length := by have := congrArg List.length hc; simpa using this
  refine ⟨_, _, b, 0, rfl, Nat.le_refl _, hm, fun _ => rfl, by rw [if_neg (by omega)], fun i hi => ⟨?_, hs _ (List.getElem_mem hi)⟩, fun i hi => ?_⟩
  · rw [cell_of h, ← Array.getElem?_toList, hc]
    simp [hi]
  · rw [cell_of h]
    simp [hsz, hi]

/-- Nodes that a literal lays: the cells of each, one behind the other. -/
theorem kids_lit {w : World} {b : Nat} (kids : List RT) (KV DV : Nat → Value) (FF : Nat → List Nat) {cs : Array Value} (h : w.heap[b]? = some (.cells cs 27 (0, 0))) (hsz : cs.size = kids.length * 5)
    (hc : ∀ i (hi : i < kids.length), ∀ j, j < 5 → cs[i * 5 + j]? = (kids[i].row (KV i) (DV i))[j]?) (hl : ∀ i (hi : i < kids.length), Lies w kids[i] (KV i) (DV i) (FF i)) (hm : kids.length ≤ maxLen) (hn : 0 < kids.length) :
    KidsLie w (.slice (some ⟨b, 0, none⟩) kids.length kids.length) kids ([b] ++ (List.range kids.length).flatMap FF) := by
  refine ⟨_, _, b, 0, FF, KV, DV, rfl, Nat.le_refl _, hm, fun _ => rfl, by rw [if_neg (by omega)], fun i hi j hj => ?_, hl, fun i hi => ?_⟩
  · rw [cell_of h, Nat.zero_add]
    exact hc i hi j hj
  · rw [cell_of h]
    simp [hsz]
    omega

theorem below_cast {B : Nat} {X W' : World} (hb : Below B X W') (h : B = X.heap.size) : Below X.heap.size X W' := h ▸ hb

theorem blk_next {w w' : World} {b : Nat} {o : Obj} (h : w.heap[b]? = some o) (hb : Below w.heap.size w w') : w'.heap[b]? = some o :=
  (hb.block b (Array.getElem?_eq_some_iff.1 h).1).trans h

theorem two_blk (w : World) (a b : Obj) : ((w.alloc a).alloc b).heap[w.heap.size]? = some a ∧ ((w.alloc a).alloc b).heap[w.heap.size + 1]? = some b ∧ ((w.alloc a).alloc b).heap.size = w.heap.size + 2 ∧ Below w.heap.size w ((w.alloc a).alloc b) := by
  refine ⟨?_, ?_, by simp, ((Below.refl _ w).alloc (Nat.le_refl _) _).alloc (by simp) _⟩
  · rw [Below.heap_alloc _ _ _ (by simp), heap_last]
  · have := heap_last (w.alloc a) b
    simpa using this

/-- A block that was laid on the way. -/
structure One (w W : World) (b : Nat) (o : Obj) : Prop where
  at_ : W.heap[b]? = some o
  old : w.heap.size + 2 ≤ b

/-- Where a function stands whose parameter and whose result have a block each. -/
structure Two (w W : World) (a r : Obj) : Prop where
  below : Below w.heap.size w W
  arg : W.heap[w.heap.size]? = some a
  res : W.heap[w.heap.size + 1]? = some r
  size : w.heap.size + 2 ≤ W.heap.size

theorem Two.start (w : World) (a r : Obj) : Two w ((w.alloc a).alloc r) a r := by
  obtain ⟨h1, h2, h3, h4⟩ := two_blk w a r
  exact ⟨h4, h1, h2, Nat.le_of_eq h3.symm⟩
theorem below_drew1 (W : World) : Below W.heap.size W W.drew := ⟨rfl, rfl, rfl, Nat.le_refl _, fun _ _ => rfl⟩
theorem below_lit (W : World) (o : Obj) : Below W.heap.size W (W.alloc o).drew := ((Below.refl _ W).alloc (Nat.le_refl _) o).trans (B := W.heap.size) ⟨rfl, rfl, rfl, Nat.le_refl _, fun _ _ => rfl⟩
theorem Two.next {w W W' : World} {a r : Obj} (h : Two w W a r) (hb : Below W.heap.size W W') : Two w W' a r :=
  ⟨h.below.trans (hb.mono h.below.size), blk_next h.arg hb, blk_next h.res hb, Nat.le_trans h.size hb.size⟩

theorem Two.next1 {w W W' : World} {a r : Obj} (h : Two w W a r) (hb : Below W.drew.heap.size W.drew W') : Two w W' a r := (h.next (below_drew1 W)).next hb
theorem Two.lit {w W W' : World} {a r o : Obj} {B : Nat} (h : Two w W a r) (hb : Below B (W.alloc o).drew W') (hB : B = W.heap.size + 1) : Two w W' a r ∧ One w W' W.heap.size o := by
  have hb : Below (W.alloc o).drew.heap.size (W.alloc o).drew W' := below_cast hb (by subst hB; simp [World.drew])
  exact ⟨(h.next (below_lit W o)).next hb, blk_next (w := (W.alloc o).drew) (heap_last W o) hb, h.size⟩
theorem Two.lit1 {w W W' : World} {a r o : Obj} (h : Two w W a r) (hb : Below (W.alloc o).heap.size (W.alloc o) W') : Two w W' a r ∧ One w W' W.heap.size o :=
  ⟨(h.next ((Below.refl _ W).alloc (Nat.le_refl _) o)).next hb, blk_next (heap_last W o) hb, h.size⟩
theorem One.mv {w W : World} {b n : Nat} {o : Obj} (h : One w W b o) (e : b = n) : One w W n o := e ▸ h
theorem One.next {w W W' : World} {b : Nat} {o : Obj} (h : One w W b o) (hb : Below W.heap.size W W') : One w W' b o := ⟨blk_next h.at_ hb, h.old⟩

theorem One.lit1 {w W W' : World} {b : Nat} {o o' : Obj} (h : One w W b o) (hb : Below (W.alloc o').heap.size (W.alloc o') W') : One w W' b o := (h.next ((Below.refl _ W).alloc (Nat.le_refl _) o')).next hb
theorem Two.lits1 {w W W' : World} {a r o o' : Obj} (h : Two w W a r) (hb : Below ((W.alloc o).alloc o').heap.size ((W.alloc o).alloc o') W') : Two w W' a r ∧ One w W' W.heap.size o ∧ One w W' (W.heap.size + 1) o' := by
  obtain ⟨h1, h2, h3, h4⟩ := two_blk W o o'
  exact ⟨(h.next h4).next hb, ⟨blk_next h1 hb, h.size⟩, blk_next h2 hb, by have := h.size; omega⟩
theorem leaf_kid (W : World) (t : RT) (h : t.keys = [] ∧ t.kids = [] ∧ Fit t.k ∧ Fit t.n ∧ t.s.size ≤ maxLen) : Lies W t (.slice none 0 0) (.slice none 0 0) [] := by
  obtain ⟨h1, h2, h3, h4, h5⟩ := h
  rw [RT.eta t, h1, h2]
  exact leaf_lies W h3 h4 h5

end Go.Proofs.YtelpkcbbipianaaGreat

/- plain facts on lists of small structs as they lie in memory, and on metrics, notes, paces and orders. -/
namespace Go.Proofs.YtelpkcbbipianaaGreat
open Go Go.RowKit

/-- A list whose elements take k cells each, and the block it lies in, its spare room too. -/
def RowAt {α : Type} (enc : α → List Value) (ok : α → Prop) (k : Nat) (w : World) (v : Value) (xs : List α) (F : List Nat) : Prop :=
  ∃ (o : Option Addr) (cap b off : Nat), v = .slice o xs.length cap ∧ xs.length ≤ cap ∧ cap ≤ maxLen ∧ (0 < cap → o = some ⟨b, off, none⟩) ∧ F = (if cap = 0 then [] else [b]) ∧
    (∀ i (h : i < xs.length), ok xs[i] ∧ ∀ j, j < k → w.cell? ⟨b, off + i * k + j, none⟩ = (enc xs[i])[j]?) ∧ Room w b off (cap * k)

section
variable {α : Type} {enc : α → List Value} {ok : α → Prop} {k : Nat} {w w' : World} {v : Value} {xs : List α} {F : List Nat}

theorem RowAt.slice (h : RowAt enc ok k w v xs F) : ∃ o c, v = .slice o xs.length c ∧ xs.length ≤ maxLen := by
  obtain ⟨o', cap', _, _, rfl, h1, h2, _⟩ := h
  exact ⟨o', cap', rfl, Nat.le_trans h1 h2⟩

theorem RowAt.every (h : RowAt enc ok k w v xs F) : ∀ x ∈ xs, ok x := by
  obtain ⟨o', cap', _, _, rfl, h1, h2, _, _, h3, _⟩ := h
  intro x hx
  obtain ⟨i, hi, rfl⟩ := List.getElem_of_mem hx
  exact (h3 i hi).1

theorem RowAt.carry (h : RowAt enc ok k w v xs F) (hF : ∀ b ∈ F, w'.heap[b]? = w.heap[b]?) : RowAt enc ok k w' v xs F := by
  obtain ⟨o, cap, b, off, rfl, h1, h2, h3, rfl, h4, h5⟩ := h
  have hb : 0 < cap → w'.heap[b]? = w.heap[b]? := fun hc => hF b (by rw [if_neg (by omega)]; simp)
  refine ⟨o, cap, b, off, rfl, h1, h2, h3, rfl, fun i hi => ⟨(h4 i hi).1, fun j hj => ?_⟩, fun i hi => ?_⟩
  · rw [World.cell?_of_block (w := w) (hb (by omega))]
    exact (h4 i hi).2 j hj
  · have : 0 < cap := by
      rcases Nat.eq_zero_or_pos cap with e | e
      · subst e; simp at hi
      · exact e
    rw [World.cell?_of_block (w := w) (a := ⟨b, off + i, none⟩) (hb this)]
    exact h5 i hi

theorem RowAt.lt (h : RowAt enc ok k w v xs F) (hk : 0 < k) : ∀ b ∈ F, b < w.heap.size := by
  obtain ⟨o, cap, b, off, rfl, h1, h2, h3, rfl, h4, h5⟩ := h
  intro c hc
  split at hc
  · simp at hc
  · simp at hc
    subst hc
    exact h5.lt (Nat.mul_pos (by omega) hk)

theorem RowAt.stay (h : RowAt enc ok k w v xs F) (hk : 0 < k) {B : Nat} (hb : Below B w w') (hB : w.heap.size ≤ B) : RowAt enc ok k w' v xs F :=
  h.carry fun b hF => hb.block b (Nat.lt_of_lt_of_le (h.lt hk b hF) hB)
end

structure Met where
  name : ByteArray
  kind : Int
  goal : Int
structure Not where
  key : ByteArray
  text : ByteArray
structure Pac where
  up : Int
  down : Int
  ups : Int
  downs : Int
structure Ord where
  name : ByteArray
  target : ByteArray
  low : Int
  high : Int
  mets : List Met
  pace : Pac
  notes : List Not

def Met.row (m : Met) : List Value := [.string m.name, .int .i64 m.kind, .int .i64 m.goal]
def Met.ok (m : Met) : Prop := m.name.size ≤ maxLen ∧ Fit m.kind ∧ Fit m.goal
def Not.row (m : Not) : List Value := [.string m.key, .string m.text]
def Not.ok (m : Not) : Prop := m.key.size ≤ maxLen ∧ m.text.size ≤ maxLen
def Pac.ok (p : Pac) : Prop := Fit p.up ∧ Fit p.down ∧ Fit p.ups ∧ Fit p.downs
def MetsAt := RowAt Met.row Met.ok 3
def NotsAt := RowAt Not.row Not.ok 2

/-- An order's ten cells, of which two lead on. -/
def Ord.row (o : Ord) (mv nv : Value) : List Value := [.string o.name, .string o.target, .int .i64 o.low, .int .i64 o.high, mv, .int .i64 o.pace.up, .int .i64 o.pace.down, .int .i64 o.pace.ups, .int .i64 o.pace.downs, nv]

/-- An order that lies in w behind these two lists, in the blocks F. -/
structure OrdAt (w : World) (o : Ord) (mv nv : Value) (FM FN : List Nat) : Prop where
  name : o.name.size ≤ maxLen
  target : o.target.size ≤ maxLen
  low : Fit o.low
  high : Fit o.high
  pace : o.pace.ok
  mets : MetsAt w mv o.mets FM
  notes : NotsAt w nv o.notes FN

theorem OrdAt.stay {w w' : World} {o : Ord} {mv nv : Value} {FM FN : List Nat} (h : OrdAt w o mv nv FM FN) {B : Nat} (hb : Below B w w') (hB : w.heap.size ≤ B) : OrdAt w' o mv nv FM FN :=
  ⟨h.name, h.target, h.low, h.high, h.pace, RowAt.stay h.mets (by decide) hb hB, RowAt.stay h.notes (by decide) hb hB⟩

theorem OrdAt.slices {w : World} {o : Ord} {mv nv : Value} {FM FN : List Nat} (h : OrdAt w o mv nv FM FN) : (∃ a c, mv = .slice a o.mets.length c) ∧ ∃ a c, nv = .slice a o.notes.length c := by
  obtain ⟨a, c, e, -⟩ := RowAt.slice h.mets
  obtain ⟨a', c', e', -⟩ := RowAt.slice h.notes
  exact ⟨⟨a, c, e⟩, a', c', e'⟩
end Go.Proofs.YtelpkcbbipianaaGreat

/- plain facts on decimal numerals and on lists of bytes; no program, no condition beyond each theorem's own. -/
namespace Go.Proofs.YtelpkcbbipianaaGreat.Num
open Go

/-- What is still to be written ahead of 'out'. -/
def rest (u : Nat) (out : List UInt8) : List UInt8 := if u = 0 then out else Lib.decDigits u ++ out

theorem rest_zero (out : List UInt8) : rest 0 out = out := rfl
theorem rest_pos {u : Nat} (h : u ≠ 0) (out : List UInt8) : rest u out = Lib.decDigits u ++ out := if_neg h

theorem rest_step {u : Nat} (h : u ≠ 0) (out : List UInt8) : rest (u / 10) (UInt8.ofNat (48 + u % 10) :: out) = rest u out := by
  rw [rest_pos h]
  by_cases hs : u < 10
  · rw [Lib.decDigits, dif_pos hs, Nat.div_eq_of_lt hs, rest_zero, Nat.mod_eq_of_lt hs]; rfl
  · rw [rest_pos (by omega), Lib.decDigits.eq_def u, dif_neg hs]; simp

theorem rest_length (u : Nat) (out : List UInt8) : out.length ≤ (rest u out).length := by
  unfold rest; split <;> simp

theorem itoa_pos {n : Int} (h : 0 < n) : Lib.itoa n = rest n.natAbs [] := by
  rw [rest_pos (by omega)]; unfold Lib.itoa; rw [if_neg (by omega)]
  have : n.toNat = n.natAbs := by omega
  rw [this]; simp
theorem itoa_neg {n : Int} (h : n < 0) : Lib.itoa n = 45 :: rest n.natAbs [] := by
  rw [rest_pos (by omega)]; unfold Lib.itoa; rw [if_pos h]; simp
theorem itoa_zero : Lib.itoa 0 = [48] := by
  show Lib.decDigits 0 = [48]
  rw [Lib.decDigits, dif_pos (by decide)]; rfl
theorem itoa_length (n : Int) (h0 : -9223372036854775808 ≤ n) (h1 : n ≤ 9223372036854775807) : (Lib.itoa n).length ≤ 21 := Lib.itoa_length_le n h0 h1

end Go.Proofs.YtelpkcbbipianaaGreat.Num

/- plain facts on texts that are digits with an end behind them: the runes behind the digits are an end's signs just where the bytes are; no program, no condition beyond each theorem's own. -/
namespace Go.Proofs.YtelpkcbbipianaaGreat
open Go

/-! ### What is told is read as it was -/

def amtText (n : Int) : List UInt8 :=
  if n < 0 ∨ 1000000000000 < n then [] else if n ≠ 0 ∧ n % 1000000 = 0 then Lib.itoa (n / 1000000) ++ [107] else if n % 1000 = 0 then Lib.itoa (n / 1000) else Lib.itoa n ++ [109]
def spanText (n : Int) : List UInt8 :=
  if n < 0 ∨ 1000000 < n then [] else if n ≠ 0 ∧ n % 3600 = 0 then Lib.itoa (n / 3600) ++ [104] else if n ≠ 0 ∧ n % 60 = 0 then Lib.itoa (n / 60) ++ [109] else Lib.itoa n ++ [115]

end Go.Proofs.YtelpkcbbipianaaGreat

/- the model's Digits hands back the decimal numeral of any int; it makes memory and turns none that was there. -/
namespace Go.Proofs.YtelpkcbbipianaaGreat
open Go Go.RowKit

/-- 'string([]byte{x})' in the world in which that row has just been laid. -/
theorem conv_one (w : World) (x : Int) : (convert 22 9 (.slice (some ⟨w.heap.size, 0, none⟩) 1 1)).run Tryz.prog (w.alloc (.cells #[.int .u8 x] 5)) = .ok (.string ⟨#[UInt8.ofNat x.toNat]⟩) (w.alloc (.cells #[.int .u8 x] 5)) := by
  rw [run_convert_bytes_string _ 22 9 5 _ 1 1 Tryz.underlying22 Tryz.underlying5 Tryz.underlying9]
  have hl := run_loadCells_list (P := Tryz.prog) (w.alloc (.cells #[.int .u8 x] 5)) ⟨w.heap.size, 0, none⟩ [Value.int .u8 x] (fun j v hj => by
    have h := World.cell?_alloc_mark w #[.int .u8 x] 5 (0, 0) j
    cases j with
    | zero => simp at hj; subst hj; simp [Addr.add]
    | succ j => simp at hj)
  rw [run_bytesToString _ _ 1 1 [x] hl]
  rfl

theorem ret_str {a b : List UInt8} (h : a = b) : Ending.returned (.string ⟨a.toArray⟩) = .returned (.string ⟨b.toArray⟩) := by rw [h]

theorem step_end {m : Nat} (hm : ¬ m = 0) {out fin : List UInt8} (hr : Num.rest m out = fin) (x : UInt8) (hx : x = UInt8.ofNat (48 + m % 10)) :
    Value.string ({ data := #[x] } ++ { data := out.toArray }) = Value.string { data := (x :: out).toArray } ∧ Num.rest (m / 10) (x :: out) = fin := by
  refine ⟨?_, ?_⟩
  · rw [ByteArray.mk_append_mk]; simp
  · rw [hx, Num.rest_step hm, hr]

theorem neg_end {n : Int} (h : n < 0) {out : List UInt8} (hr : out = Num.rest n.natAbs []) : Ending.returned (Value.string ({ data := #[45] } ++ { data := out.toArray })) = .returned (.string ⟨(Lib.itoa n).toArray⟩) := by
  rw [Num.itoa_neg h, hr, ByteArray.mk_append_mk]; simp

set_option maxHeartbeats 400000 in
theorem spec_digits_pos (n : Int) (h : 0 < n) (hn : n ≤ 9223372036854775807) (w : World) :
    Calls Tryz.prog 107 #[.int .i64 n] w fun e w' => e = .returned (.string ⟨(Lib.itoa n).toArray⟩) ∧ Below w.heap.size w w' := by
  have hz : (n == 0) = false := by simp; omega
  have hl : ¬ n < 0 := by omega
  go_enter Tryz.func107, Tryz.ntmps107
  go_wp2
  go_loopw [0, 4] (fun t o wr => ∃ (m : Nat) (out : List UInt8), t = .int .i64 m ∧ m ≤ n ∧ o = .string ⟨out.toArray⟩ ∧ Num.rest m out = Num.rest n.natAbs [] ∧ Below w.heap.size w wr) (fun t _ _ => (intOf t).toNat)
  case atStart => exact ⟨n.natAbs, [], by congr 1; omega, by omega, rfl, rfl, Below.refl _ _⟩
  case round =>
    obtain ⟨m, out, rfl, hm, rfl, hr, hb⟩ := hrel
    have hol : out.length ≤ 21 := by
      have h1 := Num.rest_length m out
      rw [hr, ← Num.itoa_pos h] at h1
      have h2 := Num.itoa_length n (by omega) hn
      omega
    have HR : Hid (Num.rest m out = Num.rest n.natAbs []) := hr
    clear hr
    by_cases hm0 : m = 0
    · subst hm0
      go_wp2
      go_ret
      have hr := HR.out
      rw [Num.rest_zero, ← Num.itoa_pos h] at hr
      exact ⟨ret_str hr, hb⟩
    · have hne : ((m : Int) == 0) = false := by simp; omega
      have kc := conv_one wr
      go_wp2
      go_roundw
      case rel =>
        have hs := step_end hm0 HR.out (48 + UInt8.ofNat (m % 10)) (by simp)
        exact ⟨m / 10, _, by go_num, by omega, hs.1, hs.2, hb.alloc hb.size _⟩
      case measure => simp [intOf]; omega

set_option maxHeartbeats 400000 in
theorem spec_digits_neg (n : Int) (h : n < 0) (hn : -9223372036854775808 ≤ n) (w : World) :
    Calls Tryz.prog 107 #[.int .i64 n] w fun e w' => e = .returned (.string ⟨(Lib.itoa n).toArray⟩) ∧ Below w.heap.size w w' := by
  have hz : (n == 0) = false := by simp; omega
  go_enter Tryz.func107, Tryz.ntmps107
  go_wp2
  go_loopw [0, 4] (fun t o wr => ∃ (m : Nat) (out : List UInt8), t = .int .i64 (-m) ∧ n ≤ -m ∧ o = .string ⟨out.toArray⟩ ∧ Num.rest m out = Num.rest n.natAbs [] ∧ Below w.heap.size w wr) (fun t _ _ => (intOf t).natAbs)
  case atStart => exact ⟨n.natAbs, [], by congr 1; omega, by omega, rfl, rfl, Below.refl _ _⟩
  case round =>
    obtain ⟨m, out, rfl, hm, rfl, hr, hb⟩ := hrel
    have hol : out.length ≤ 21 := by
      have h1 := Num.rest_length m out
      have h2 := Num.itoa_length n hn (by omega)
      rw [hr] at h1
      rw [Num.itoa_neg h] at h2
      simp at h2
      omega
    have HR : Hid (Num.rest m out = Num.rest n.natAbs []) := hr
    clear hr
    by_cases hm0 : m = 0
    · subst hm0
      go_wp2
      go_ret
      have hr := HR.out
      rw [Num.rest_zero] at hr
      exact ⟨neg_end h hr, hb⟩
    · have hne : ((-(m : Int)) == 0) = false := by simp; omega
      have kc := conv_one wr
      go_wp2
      · go_roundw
        case rel =>
          have hs := step_end hm0 HR.out (48 + UInt8.ofNat (m % 10)) (by simp)
          exact ⟨m / 10, _, by go_num, by omega, hs.1, hs.2, hb.alloc hb.size _⟩
        case measure => simp [intOf]; omega
      · go_roundw
        case rel =>
          have hs := step_end hm0 HR.out (UInt8.ofNat (48 + -((m : Int) % 10)).toNat) (by congr 1; omega)
          exact ⟨m / 10, _, by go_num, by omega, hs.1, hs.2, hb.alloc hb.size _⟩
        case measure => simp [intOf]; omega

theorem spec_digits_zero (w : World) :
    Calls Tryz.prog 107 #[.int .i64 0] w fun e w' => e = .returned (.string ⟨(Lib.itoa 0).toArray⟩) ∧ Below w.heap.size w w' := by
  go_enter Tryz.func107, Tryz.ntmps107
  go_wp2
  go_ret
  exact ⟨ret_str (a := [48]) Num.itoa_zero.symm, Below.refl _ _⟩

/-- The model's Digits, at every int. -/
theorem spec_digits (n : Int) (h0 : -9223372036854775808 ≤ n) (h1 : n ≤ 9223372036854775807) (w : World) :
    Calls Tryz.prog 107 #[.int .i64 n] w fun e w' => e = .returned (.string ⟨(Lib.itoa n).toArray⟩) ∧ Below w.heap.size w w' := by
  rcases Int.lt_trichotomy n 0 with h | h | h
  · exact spec_digits_neg n h h0 w
  · subst h; exact spec_digits_zero w
  · exact spec_digits_pos n h h1 w
end Go.Proofs.YtelpkcbbipianaaGreat

/- AmountText and SpanText, the program's and the model's, at every int; condition of the program's: the library's table of powers of ten starts as the program's text lays it. -/
namespace Go.Proofs.YtelpkcbbipianaaGreat
open Go Go.RowKit

theorem ret_add {a b c : List UInt8} (h : c = a ++ b) : Ending.returned (.string ({ data := a.toArray } ++ { data := b.toArray })) = .returned (.string ⟨c.toArray⟩) := by
  rw [h, ByteArray.mk_append_mk]

set_option maxHeartbeats 400000 in
theorem spec_amountText_out (n : Int) (h0 : -9223372036854775808 ≤ n) (h1 : n ≤ 9223372036854775807) (hx : n < 0 ∨ 1000000000000 < n) (w : World) :
    Calls Tryz.prog 106 #[.int .i64 n] w fun e w' => e = .returned (.string ⟨(amtText n).toArray⟩) ∧ Below w.heap.size w w' := by
  have e : Hid (amtText n = []) := if_pos hx
  by_cases hA : n < 0
  · have hA' : ¬ 0 ≤ n := by omega
    go_enter Tryz.func106, Tryz.ntmps106
    go_wp2
    go_ret
    exact ⟨by rw [e.out]; rfl, Below.refl _ _⟩
  · have hA' : 0 ≤ n := by omega
    have hB : 1000000000000 < n := by omega
    have hB' : ¬ n ≤ 1000000000000 := by omega
    go_enter Tryz.func106, Tryz.ntmps106
    go_wp2
    go_ret
    exact ⟨by rw [e.out]; rfl, Below.refl _ _⟩

set_option maxHeartbeats 400000 in
theorem spec_amountText_zero (w : World) :
    Calls Tryz.prog 106 #[.int .i64 0] w fun e w' => e = .returned (.string ⟨(amtText 0).toArray⟩) ∧ Below w.heap.size w w' := by
  have e : Hid (amtText 0 = Lib.itoa 0) := rfl
  have hl := Num.itoa_length (0) (by omega) (by omega)
  go_enter Tryz.func106, Tryz.ntmps106
  go_wp2_with (first | (go_at_call 107; refine (spec_digits (0) (by omega) (by omega) _).mono ?_; rintro e w1 ⟨rfl, hb1⟩) | go_in)
  go_ret
  exact ⟨ret_str e.out.symm, hb1⟩

set_option maxHeartbeats 400000 in
theorem spec_amountText_1000000 (n : Int) (h0 : 0 < n) (h1 : n ≤ 1000000000000) (q1000000 : n % 1000000 = 0) (w : World) :
    Calls Tryz.prog 106 #[.int .i64 n] w fun e w' => e = .returned (.string ⟨(amtText n).toArray⟩) ∧ Below w.heap.size w w' := by
  have e : Hid (amtText n = Lib.itoa (n / 1000000) ++ [107]) := (if_neg (by omega)).trans (if_pos (by omega))
  have z1 : (n != 0) = true := by simp; omega
  have z2 : ¬ n < 0 := by omega
  have z3 : 0 ≤ n := by omega
  have z4 : ¬ 1000000000000 < n := by omega
  have z5 : ¬ n = 0 := by omega
  have hl := Num.itoa_length (n / 1000000) (by omega) (by omega)
  go_enter Tryz.func106, Tryz.ntmps106
  go_wp2_with (first | (go_at_call 107; refine (spec_digits (n / 1000000) (by omega) (by omega) _).mono ?_; rintro e w1 ⟨rfl, hb1⟩) | go_in)
  go_ret
  exact ⟨ret_add e.out, hb1⟩

set_option maxHeartbeats 400000 in
theorem spec_amountText_1000 (n : Int) (h0 : 0 < n) (h1 : n ≤ 1000000000000) (_q1000000 : ¬ n % 1000000 = 0) (q1000 : n % 1000 = 0) (w : World) :
    Calls Tryz.prog 106 #[.int .i64 n] w fun e w' => e = .returned (.string ⟨(amtText n).toArray⟩) ∧ Below w.heap.size w w' := by
  have e : Hid (amtText n = Lib.itoa (n / 1000)) := (if_neg (by omega)).trans ((if_neg (by omega)).trans (if_pos (by omega)))
  have z1 : (n != 0) = true := by simp; omega
  have z2 : ¬ n < 0 := by omega
  have z3 : 0 ≤ n := by omega
  have z4 : ¬ 1000000000000 < n := by omega
  have z5 : ¬ n = 0 := by omega
  have hl := Num.itoa_length (n / 1000) (by omega) (by omega)
  go_enter Tryz.func106, Tryz.ntmps106
  go_wp2_with (first | (go_at_call 107; refine (spec_digits (n / 1000) (by omega) (by omega) _).mono ?_; rintro e w1 ⟨rfl, hb1⟩) | go_in)
  go_ret
  exact ⟨ret_str e.out.symm, hb1⟩

set_option maxHeartbeats 400000 in
theorem spec_amountText_1 (n : Int) (h0 : 0 < n) (h1 : n ≤ 1000000000000) (_q1000000 : ¬ n % 1000000 = 0) (_q1000 : ¬ n % 1000 = 0) (w : World) :
    Calls Tryz.prog 106 #[.int .i64 n] w fun e w' => e = .returned (.string ⟨(amtText n).toArray⟩) ∧ Below w.heap.size w w' := by
  have e : Hid (amtText n = Lib.itoa (n) ++ [109]) := (if_neg (by omega)).trans ((if_neg (by omega)).trans (if_neg (by omega)))
  have z1 : (n != 0) = true := by simp; omega
  have z2 : ¬ n < 0 := by omega
  have z3 : 0 ≤ n := by omega
  have z4 : ¬ 1000000000000 < n := by omega
  have z5 : ¬ n = 0 := by omega
  have hl := Num.itoa_length (n) (by omega) (by omega)
  go_enter Tryz.func106, Tryz.ntmps106
  go_wp2_with (first | (go_at_call 107; refine (spec_digits (n) (by omega) (by omega) _).mono ?_; rintro e w1 ⟨rfl, hb1⟩) | go_in)
  go_ret
  exact ⟨ret_add e.out, hb1⟩

theorem spec_amountText (n : Int) (h0 : -9223372036854775808 ≤ n) (h1 : n ≤ 9223372036854775807) (w : World) :
    Calls Tryz.prog 106 #[.int .i64 n] w fun e w' => e = .returned (.string ⟨(amtText n).toArray⟩) ∧ Below w.heap.size w w' := by
  by_cases hx : n < 0 ∨ 1000000000000 < n
  · exact spec_amountText_out n h0 h1 hx w
  · by_cases hz : n = 0
    · subst hz; exact spec_amountText_zero w
    · by_cases q1000000 : n % 1000000 = 0
      · exact spec_amountText_1000000 n (by omega) (by omega) q1000000 w
      · by_cases q1000 : n % 1000 = 0
        · exact spec_amountText_1000 n (by omega) (by omega) q1000000 q1000 w
        · exact spec_amountText_1 n (by omega) (by omega) q1000000 q1000 w

set_option maxHeartbeats 400000 in
theorem spec_spanText_out (n : Int) (h0 : -9223372036854775808 ≤ n) (h1 : n ≤ 9223372036854775807) (hx : n < 0 ∨ 1000000 < n) (w : World) :
    Calls Tryz.prog 89 #[.int .i64 n] w fun e w' => e = .returned (.string ⟨(spanText n).toArray⟩) ∧ Below w.heap.size w w' := by
  have e : Hid (spanText n = []) := if_pos hx
  by_cases hA : n < 0
  · have hA' : ¬ 0 ≤ n := by omega
    go_enter Tryz.func89, Tryz.ntmps89
    go_wp2
    go_ret
    exact ⟨by rw [e.out]; rfl, Below.refl _ _⟩
  · have hA' : 0 ≤ n := by omega
    have hB : 1000000 < n := by omega
    have hB' : ¬ n ≤ 1000000 := by omega
    go_enter Tryz.func89, Tryz.ntmps89
    go_wp2
    go_ret
    exact ⟨by rw [e.out]; rfl, Below.refl _ _⟩

set_option maxHeartbeats 400000 in
theorem spec_spanText_zero (w : World) :
    Calls Tryz.prog 89 #[.int .i64 0] w fun e w' => e = .returned (.string ⟨(spanText 0).toArray⟩) ∧ Below w.heap.size w w' := by
  have e : Hid (spanText 0 = Lib.itoa 0 ++ [115]) := rfl
  have hl := Num.itoa_length (0) (by omega) (by omega)
  go_enter Tryz.func89, Tryz.ntmps89
  go_wp2_with (first | (go_at_call 107; refine (spec_digits (0) (by omega) (by omega) _).mono ?_; rintro e w1 ⟨rfl, hb1⟩) | go_in)
  go_ret
  exact ⟨ret_add e.out, hb1⟩

set_option maxHeartbeats 400000 in
theorem spec_spanText_3600 (n : Int) (h0 : 0 < n) (h1 : n ≤ 1000000) (q3600 : n % 3600 = 0) (w : World) :
    Calls Tryz.prog 89 #[.int .i64 n] w fun e w' => e = .returned (.string ⟨(spanText n).toArray⟩) ∧ Below w.heap.size w w' := by
  have e : Hid (spanText n = Lib.itoa (n / 3600) ++ [104]) := (if_neg (by omega)).trans (if_pos (by omega))
  have z1 : (n != 0) = true := by simp; omega
  have z2 : ¬ n < 0 := by omega
  have z3 : 0 ≤ n := by omega
  have z4 : ¬ 1000000 < n := by omega
  have z5 : ¬ n = 0 := by omega
  have hl := Num.itoa_length (n / 3600) (by omega) (by omega)
  go_enter Tryz.func89, Tryz.ntmps89
  go_wp2_with (first | (go_at_call 107; refine (spec_digits (n / 3600) (by omega) (by omega) _).mono ?_; rintro e w1 ⟨rfl, hb1⟩) | go_in)
  go_ret
  exact ⟨ret_add e.out, hb1⟩

set_option maxHeartbeats 400000 in
theorem spec_spanText_60 (n : Int) (h0 : 0 < n) (h1 : n ≤ 1000000) (_q3600 : ¬ n % 3600 = 0) (q60 : n % 60 = 0) (w : World) :
    Calls Tryz.prog 89 #[.int .i64 n] w fun e w' => e = .returned (.string ⟨(spanText n).toArray⟩) ∧ Below w.heap.size w w' := by
  have e : Hid (spanText n = Lib.itoa (n / 60) ++ [109]) := (if_neg (by omega)).trans ((if_neg (by omega)).trans (if_pos (by omega)))
  have z1 : (n != 0) = true := by simp; omega
  have z2 : ¬ n < 0 := by omega
  have z3 : 0 ≤ n := by omega
  have z4 : ¬ 1000000 < n := by omega
  have z5 : ¬ n = 0 := by omega
  have hl := Num.itoa_length (n / 60) (by omega) (by omega)
  go_enter Tryz.func89, Tryz.ntmps89
  go_wp2_with (first | (go_at_call 107; refine (spec_digits (n / 60) (by omega) (by omega) _).mono ?_; rintro e w1 ⟨rfl, hb1⟩) | go_in)
  go_ret
  exact ⟨ret_add e.out, hb1⟩

set_option maxHeartbeats 400000 in
theorem spec_spanText_1 (n : Int) (h0 : 0 < n) (h1 : n ≤ 1000000) (_q3600 : ¬ n % 3600 = 0) (_q60 : ¬ n % 60 = 0) (w : World) :
    Calls Tryz.prog 89 #[.int .i64 n] w fun e w' => e = .returned (.string ⟨(spanText n).toArray⟩) ∧ Below w.heap.size w w' := by
  have e : Hid (spanText n = Lib.itoa (n) ++ [115]) := (if_neg (by omega)).trans ((if_neg (by omega)).trans (if_neg (by omega)))
  have z1 : (n != 0) = true := by simp; omega
  have z2 : ¬ n < 0 := by omega
  have z3 : 0 ≤ n := by omega
  have z4 : ¬ 1000000 < n := by omega
  have z5 : ¬ n = 0 := by omega
  have hl := Num.itoa_length (n) (by omega) (by omega)
  go_enter Tryz.func89, Tryz.ntmps89
  go_wp2_with (first | (go_at_call 107; refine (spec_digits (n) (by omega) (by omega) _).mono ?_; rintro e w1 ⟨rfl, hb1⟩) | go_in)
  go_ret
  exact ⟨ret_add e.out, hb1⟩

theorem spec_spanText (n : Int) (h0 : -9223372036854775808 ≤ n) (h1 : n ≤ 9223372036854775807) (w : World) :
    Calls Tryz.prog 89 #[.int .i64 n] w fun e w' => e = .returned (.string ⟨(spanText n).toArray⟩) ∧ Below w.heap.size w w' := by
  by_cases hx : n < 0 ∨ 1000000 < n
  · exact spec_spanText_out n h0 h1 hx w
  · by_cases hz : n = 0
    · subst hz; exact spec_spanText_zero w
    · by_cases q3600 : n % 3600 = 0
      · exact spec_spanText_3600 n (by omega) (by omega) q3600 w
      · by_cases q60 : n % 60 = 0
        · exact spec_spanText_60 n (by omega) (by omega) q3600 q60 w
        · exact spec_spanText_1 n (by omega) (by omega) q3600 q60 w

end Go.Proofs.YtelpkcbbipianaaGreat
