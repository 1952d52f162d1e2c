/-
  What is proved: the program's mergeSpots, way by way: by what its three spots are, it answers the one or the other, asks mergeMaps, or tells the way.; what mergeSpots answers, if mergeMaps answers as it shall.
-/
import Derived.Test.YtelpkcbbipianaaGreatPartBB
/- the program's mergeSpots, way by way: by what its three spots are, it answers the one or the other, asks mergeMaps, or tells the way. -/
namespace Go.Proofs.YtelpkcbbipianaaGreat
open Go Go.RowKit Go.Maps

/-- The blocks of what mergeSpots was handed, and of what it answers. -/
structure SB (w wr : World) (C1 C2 C3 : Array Value) : Prop where
  below : Below w.heap.size w wr
  size : w.heap.size + 4 ≤ wr.heap.size
  b1 : wr.heap[w.heap.size]? = some (.cells C1 40 (0, 0))
  b2 : wr.heap[w.heap.size + 1]? = some (.cells C2 40 (0, 0))
  b3 : wr.heap[w.heap.size + 1 + 1]? = some (.cells C3 40 (0, 0))
  res : wr.heap[w.heap.size + 1 + 1 + 1]? = some (.cells #[.int .i64 0, .int .i64 0, .string ⟨#[]⟩, .slice none 0 0, .slice none 0 0, .bool false] 40 (0, 0))

theorem SB.start (w : World) (C1 C2 C3 : Array Value) : SB w ((((w.alloc (.cells C1 40)).alloc (.cells C2 40)).alloc (.cells C3 40)).alloc (.cells #[.int .i64 0, .int .i64 0, .string ⟨#[]⟩, .slice none 0 0, .slice none 0 0, .bool false] 40)) C1 C2 C3 := by
  refine ⟨(((Below.refl _ w).alloc (Nat.le_refl _) _).alloc (by simp) _).alloc (by simp; omega) _ |>.alloc (by simp; omega) _, by simp, ?_, ?_, ?_, ?_⟩
  all_goals
    show ((((w.heap.push _).push _).push _).push _)[_]? = _
    simp only [Array.getElem?_push, Array.size_push]
    repeat (first | rw [if_pos (by omega)] | rw [if_neg (by omega)])
    all_goals simp

theorem SB.next {w wr w1 : World} {C1 C2 C3 : Array Value} (h : SB w wr C1 C2 C3) (hb : Below wr.heap.size wr w1) : SB w w1 C1 C2 C3 :=
  ⟨h.below.trans (hb.mono h.below.size), Nat.le_trans h.size hb.size, (hb.block _ (by have := h.size; omega)).trans h.b1, (hb.block _ (by have := h.size; omega)).trans h.b2, (hb.block _ (by have := h.size; omega)).trans h.b3, (hb.block _ (by have := h.size; omega)).trans h.res⟩

theorem isMap_says (k n : Int) (s : ByteArray) (ko o : Option Addr) (kl kc dl dc : Nat) (r : Bool) (h : (decide (k = 5) && decide (kl = dl)) = r) (w : World) :
    Calls Tryz.prog 31 #[.agg #[.int .i64 k, .int .i64 n, .string s, .slice ko kl kc, .slice o dl dc]] w fun e w' => e = .returned (.bool r) ∧ Below w.heap.size w w' := by
  subst h
  exact impl_isMap k n s ko o kl kc dl dc w

theorem SB.six {w wr : World} {C1 C2 C3 : Array Value} (h : SB w wr C1 C2 C3) (ob : Obj) : ∀ o, (wr.alloc ob).frozen? ⟨w.heap.size + 1 + 1 + 1, o, none⟩ = false :=
  (Go.Proofs.YtelpkcbbipianaaGreat.six ((Below.heap_alloc wr ob _ (by have := h.size; omega)).trans h.res)).2.2.2.2.2.2

theorem SB.cells {w wr : World} {C1 C2 C3 : Array Value} (h : SB w wr C1 C2 C3) (ob : Obj) : (wr.alloc ob).cell? ⟨w.heap.size + 1 + 1 + 1, 0, none⟩ = some (.int .i64 0) ∧ (wr.alloc ob).cell? ⟨w.heap.size + 1 + 1 + 1, 1, none⟩ = some (.int .i64 0) ∧ (wr.alloc ob).cell? ⟨w.heap.size + 1 + 1 + 1, 2, none⟩ = some (.string ⟨#[]⟩) ∧ (wr.alloc ob).cell? ⟨w.heap.size + 1 + 1 + 1, 3, none⟩ = some (.slice none 0 0) ∧ (wr.alloc ob).cell? ⟨w.heap.size + 1 + 1 + 1, 4, none⟩ = some (.slice none 0 0) ∧ (wr.alloc ob).cell? ⟨w.heap.size + 1 + 1 + 1, 5, none⟩ = some (.bool false) := by
  obtain ⟨h0, h1, h2, h3, h4, h5, -⟩ := Go.Proofs.YtelpkcbbipianaaGreat.six ((Below.heap_alloc wr ob _ (by have := h.size; omega)).trans h.res)
  exact ⟨h0, h1, h2, h3, h4, h5⟩

section
variable (k1 n1 : Int) (s1 : ByteArray) (x1 : Option Addr) (l1 c1 : Nat) (y1 : Option Addr) (m1 d1 : Nat) (p1 : Bool)
variable (k2 n2 : Int) (s2 : ByteArray) (x2 : Option Addr) (l2 c2 : Nat) (y2 : Option Addr) (m2 d2 : Nat) (p2 : Bool)
variable (k3 n3 : Int) (s3 : ByteArray) (x3 : Option Addr) (l3 c3 : Nat) (y3 : Option Addr) (m3 d3 : Nat) (p3 : Bool)

abbrev A6 (k n : Int) (s : ByteArray) (x : Option Addr) (l c : Nat) (y : Option Addr) (m d : Nat) (p : Bool) : Value := .agg #[.int .i64 k, .int .i64 n, .string s, .slice x l c, .slice y m d, .bool p]
abbrev C6 (k n : Int) (s : ByteArray) (x : Option Addr) (l c : Nat) (y : Option Addr) (m d : Nat) (p : Bool) : Array Value := #[.int .i64 k, .int .i64 n, .string s, .slice x l c, .slice y m d, .bool p]

/-- What a comparison of two spots answers. -/
def Says (w : World) (X Y : Value) (r : Bool) : Prop := ∀ wr, Below w.heap.size w wr → Calls Tryz.prog 30 #[X, Y] wr fun e w' => e = .returned (.bool r) ∧ Below wr.heap.size wr w'

set_option maxRecDepth 100000 in
set_option maxHeartbeats 1600000 in
theorem spots_1 (w : World) (H31 : Hid (Says w (A6 k3 n3 s3 x3 l3 c3 y3 m3 d3 p3) (A6 k1 n1 s1 x1 l1 c1 y1 m1 d1 p1) true)) :
    Calls Tryz.prog 16 #[A6 k1 n1 s1 x1 l1 c1 y1 m1 d1 p1, A6 k2 n2 s2 x2 l2 c2 y2 m2 d2 p2, A6 k3 n3 s3 x3 l3 c3 y3 m3 d3 p3] w fun e w' => e = .returned (.tuple #[A6 k2 n2 s2 x2 l2 c2 y2 m2 d2 p2, .slice none 0 0]) ∧ Below w.heap.size w w' := by
  have HX := Lib.hid (SB.start w (C6 k1 n1 s1 x1 l1 c1 y1 m1 d1 p1) (C6 k2 n2 s2 x2 l2 c2 y2 m2 d2 p2) (C6 k3 n3 s3 x3 l3 c3 y3 m3 d3 p3))
  have tok1 : True := trivial
  go_enter Tryz.func16, Tryz.ntmps16
  go_wp2_with (first
    | (go_at_call 30; have _t := tok1; refine (H31.out _ HX.out.below).mono ?_; rintro e w1 ⟨rfl, hb1⟩; clear tok1; replace HX := Lib.hid (HX.out.next hb1); clear hb1; obtain ⟨a0, a1, a2, a3, a4, a5, a6⟩ := six HX.out.b1; obtain ⟨f0, f1, f2, f3, f4, f5, f6⟩ := six HX.out.b2; obtain ⟨g0, g1, g2, g3, g4, g5, g6⟩ := six HX.out.b3; obtain ⟨r0, r1, r2, r3, r4, r5, r6⟩ := six HX.out.res)
    | go_in)
  exact bodyPost_ret (ret_spotS Tryz.results16 rfl rfl (set6_end HX.out.res _ _ _ _ _ _)) rfl ⟨rfl, set6_below HX.out.below (by omega) _ _ _ _ _ _⟩

set_option maxRecDepth 100000 in
set_option maxHeartbeats 1600000 in
theorem spots_2 (w : World) (H31 : Hid (Says w (A6 k3 n3 s3 x3 l3 c3 y3 m3 d3 p3) (A6 k1 n1 s1 x1 l1 c1 y1 m1 d1 p1) false)) (H23 : Hid (Says w (A6 k2 n2 s2 x2 l2 c2 y2 m2 d2 p2) (A6 k3 n3 s3 x3 l3 c3 y3 m3 d3 p3) true)) :
    Calls Tryz.prog 16 #[A6 k1 n1 s1 x1 l1 c1 y1 m1 d1 p1, A6 k2 n2 s2 x2 l2 c2 y2 m2 d2 p2, A6 k3 n3 s3 x3 l3 c3 y3 m3 d3 p3] w fun e w' => e = .returned (.tuple #[A6 k2 n2 s2 x2 l2 c2 y2 m2 d2 p2, .slice none 0 0]) ∧ Below w.heap.size w w' := by
  have HX := Lib.hid (SB.start w (C6 k1 n1 s1 x1 l1 c1 y1 m1 d1 p1) (C6 k2 n2 s2 x2 l2 c2 y2 m2 d2 p2) (C6 k3 n3 s3 x3 l3 c3 y3 m3 d3 p3))
  have tok1 : True := trivial
  have tok2 : True := trivial
  go_enter Tryz.func16, Tryz.ntmps16
  go_wp2_with (first
    | (go_at_call 30; have _t := tok1; refine (H31.out _ HX.out.below).mono ?_; rintro e w1 ⟨rfl, hb1⟩; clear tok1; replace HX := Lib.hid (HX.out.next hb1); clear hb1; obtain ⟨a0, a1, a2, a3, a4, a5, a6⟩ := six HX.out.b1; obtain ⟨f0, f1, f2, f3, f4, f5, f6⟩ := six HX.out.b2; obtain ⟨g0, g1, g2, g3, g4, g5, g6⟩ := six HX.out.b3; obtain ⟨r0, r1, r2, r3, r4, r5, r6⟩ := six HX.out.res)
    | (go_at_call 30; have _t := tok2; refine (H23.out _ HX.out.below).mono ?_; rintro e w1 ⟨rfl, hb1⟩; clear tok2; clear a0 a1 a2 a3 a4 a5 a6 f0 f1 f2 f3 f4 f5 f6 g0 g1 g2 g3 g4 g5 g6 r0 r1 r2 r3 r4 r5 r6; replace HX := Lib.hid (HX.out.next hb1); clear hb1; obtain ⟨a0, a1, a2, a3, a4, a5, a6⟩ := six HX.out.b1; obtain ⟨f0, f1, f2, f3, f4, f5, f6⟩ := six HX.out.b2; obtain ⟨g0, g1, g2, g3, g4, g5, g6⟩ := six HX.out.b3; obtain ⟨r0, r1, r2, r3, r4, r5, r6⟩ := six HX.out.res)
    | go_in)
  exact bodyPost_ret (ret_spotS Tryz.results16 rfl rfl (set6_end HX.out.res _ _ _ _ _ _)) rfl ⟨rfl, set6_below HX.out.below (by omega) _ _ _ _ _ _⟩

set_option maxRecDepth 100000 in
set_option maxHeartbeats 1600000 in
theorem spots_3 (w : World) (H31 : Hid (Says w (A6 k3 n3 s3 x3 l3 c3 y3 m3 d3 p3) (A6 k1 n1 s1 x1 l1 c1 y1 m1 d1 p1) false)) (H23 : Hid (Says w (A6 k2 n2 s2 x2 l2 c2 y2 m2 d2 p2) (A6 k3 n3 s3 x3 l3 c3 y3 m3 d3 p3) false)) (H21 : Hid (Says w (A6 k2 n2 s2 x2 l2 c2 y2 m2 d2 p2) (A6 k1 n1 s1 x1 l1 c1 y1 m1 d1 p1) true)) :
    Calls Tryz.prog 16 #[A6 k1 n1 s1 x1 l1 c1 y1 m1 d1 p1, A6 k2 n2 s2 x2 l2 c2 y2 m2 d2 p2, A6 k3 n3 s3 x3 l3 c3 y3 m3 d3 p3] w fun e w' => e = .returned (.tuple #[A6 k3 n3 s3 x3 l3 c3 y3 m3 d3 p3, .slice none 0 0]) ∧ Below w.heap.size w w' := by
  have HX := Lib.hid (SB.start w (C6 k1 n1 s1 x1 l1 c1 y1 m1 d1 p1) (C6 k2 n2 s2 x2 l2 c2 y2 m2 d2 p2) (C6 k3 n3 s3 x3 l3 c3 y3 m3 d3 p3))
  have tok1 : True := trivial
  have tok2 : True := trivial
  have tok3 : True := trivial
  go_enter Tryz.func16, Tryz.ntmps16
  go_wp2_with (first
    | (go_at_call 30; have _t := tok1; refine (H31.out _ HX.out.below).mono ?_; rintro e w1 ⟨rfl, hb1⟩; clear tok1; replace HX := Lib.hid (HX.out.next hb1); clear hb1; obtain ⟨a0, a1, a2, a3, a4, a5, a6⟩ := six HX.out.b1; obtain ⟨f0, f1, f2, f3, f4, f5, f6⟩ := six HX.out.b2; obtain ⟨g0, g1, g2, g3, g4, g5, g6⟩ := six HX.out.b3; obtain ⟨r0, r1, r2, r3, r4, r5, r6⟩ := six HX.out.res)
    | (go_at_call 30; have _t := tok2; refine (H23.out _ HX.out.below).mono ?_; rintro e w1 ⟨rfl, hb1⟩; clear tok2; clear a0 a1 a2 a3 a4 a5 a6 f0 f1 f2 f3 f4 f5 f6 g0 g1 g2 g3 g4 g5 g6 r0 r1 r2 r3 r4 r5 r6; replace HX := Lib.hid (HX.out.next hb1); clear hb1; obtain ⟨a0, a1, a2, a3, a4, a5, a6⟩ := six HX.out.b1; obtain ⟨f0, f1, f2, f3, f4, f5, f6⟩ := six HX.out.b2; obtain ⟨g0, g1, g2, g3, g4, g5, g6⟩ := six HX.out.b3; obtain ⟨r0, r1, r2, r3, r4, r5, r6⟩ := six HX.out.res)
    | (go_at_call 30; have _t := tok3; refine (H21.out _ HX.out.below).mono ?_; rintro e w1 ⟨rfl, hb1⟩; clear tok3; clear a0 a1 a2 a3 a4 a5 a6 f0 f1 f2 f3 f4 f5 f6 g0 g1 g2 g3 g4 g5 g6 r0 r1 r2 r3 r4 r5 r6; replace HX := Lib.hid (HX.out.next hb1); clear hb1; obtain ⟨a0, a1, a2, a3, a4, a5, a6⟩ := six HX.out.b1; obtain ⟨f0, f1, f2, f3, f4, f5, f6⟩ := six HX.out.b2; obtain ⟨g0, g1, g2, g3, g4, g5, g6⟩ := six HX.out.b3; obtain ⟨r0, r1, r2, r3, r4, r5, r6⟩ := six HX.out.res)
    | go_in)
  exact bodyPost_ret (ret_spotS Tryz.results16 rfl rfl (set6_end HX.out.res _ _ _ _ _ _)) rfl ⟨rfl, set6_below HX.out.below (by omega) _ _ _ _ _ _⟩

set_option maxRecDepth 100000 in
set_option maxHeartbeats 1600000 in
theorem spots_5a (w : World) (H31 : Hid (Says w (A6 k3 n3 s3 x3 l3 c3 y3 m3 d3 p3) (A6 k1 n1 s1 x1 l1 c1 y1 m1 d1 p1) false)) (H23 : Hid (Says w (A6 k2 n2 s2 x2 l2 c2 y2 m2 d2 p2) (A6 k3 n3 s3 x3 l3 c3 y3 m3 d3 p3) false)) (H21 : Hid (Says w (A6 k2 n2 s2 x2 l2 c2 y2 m2 d2 p2) (A6 k1 n1 s1 x1 l1 c1 y1 m1 d1 p1) false)) (hI1 : (decide (k1 = 5) && decide (l1 = m1)) = false) :
    Calls Tryz.prog 16 #[A6 k1 n1 s1 x1 l1 c1 y1 m1 d1 p1, A6 k2 n2 s2 x2 l2 c2 y2 m2 d2 p2, A6 k3 n3 s3 x3 l3 c3 y3 m3 d3 p3] w fun e w' => ∃ g, e = .returned (.tuple #[A6 k2 n2 s2 x2 l2 c2 y2 m2 d2 p2, .slice (some ⟨g, 0, none⟩) 1 1]) ∧ w'.heap[g]? = some (.cells #[.string ⟨#[46]⟩] 9 (0, 0)) ∧ w.heap.size ≤ g ∧ Below w.heap.size w w' := by
  have HX := Lib.hid (SB.start w (C6 k1 n1 s1 x1 l1 c1 y1 m1 d1 p1) (C6 k2 n2 s2 x2 l2 c2 y2 m2 d2 p2) (C6 k3 n3 s3 x3 l3 c3 y3 m3 d3 p3))
  have tok1 : True := trivial
  have tok2 : True := trivial
  have tok3 : True := trivial
  have tok4 : True := trivial
  have tok5 : True := trivial
  have tok6 : True := trivial
  have tok7 : True := trivial
  go_enter Tryz.func16, Tryz.ntmps16
  go_wp2_with (first
    | (go_at_call 30; have _t := tok1; refine (H31.out _ HX.out.below).mono ?_; rintro e w1 ⟨rfl, hb1⟩; clear tok1; replace HX := Lib.hid (HX.out.next hb1); clear hb1; obtain ⟨a0, a1, a2, a3, a4, a5, a6⟩ := six HX.out.b1; obtain ⟨f0, f1, f2, f3, f4, f5, f6⟩ := six HX.out.b2; obtain ⟨g0, g1, g2, g3, g4, g5, g6⟩ := six HX.out.b3; obtain ⟨r0, r1, r2, r3, r4, r5, r6⟩ := six HX.out.res)
    | (go_at_call 30; have _t := tok2; refine (H23.out _ HX.out.below).mono ?_; rintro e w1 ⟨rfl, hb1⟩; clear tok2; clear a0 a1 a2 a3 a4 a5 a6 f0 f1 f2 f3 f4 f5 f6 g0 g1 g2 g3 g4 g5 g6 r0 r1 r2 r3 r4 r5 r6; replace HX := Lib.hid (HX.out.next hb1); clear hb1; obtain ⟨a0, a1, a2, a3, a4, a5, a6⟩ := six HX.out.b1; obtain ⟨f0, f1, f2, f3, f4, f5, f6⟩ := six HX.out.b2; obtain ⟨g0, g1, g2, g3, g4, g5, g6⟩ := six HX.out.b3; obtain ⟨r0, r1, r2, r3, r4, r5, r6⟩ := six HX.out.res)
    | (go_at_call 30; have _t := tok3; refine (H21.out _ HX.out.below).mono ?_; rintro e w1 ⟨rfl, hb1⟩; clear tok3; clear a0 a1 a2 a3 a4 a5 a6 f0 f1 f2 f3 f4 f5 f6 g0 g1 g2 g3 g4 g5 g6 r0 r1 r2 r3 r4 r5 r6; replace HX := Lib.hid (HX.out.next hb1); clear hb1; obtain ⟨a0, a1, a2, a3, a4, a5, a6⟩ := six HX.out.b1; obtain ⟨f0, f1, f2, f3, f4, f5, f6⟩ := six HX.out.b2; obtain ⟨g0, g1, g2, g3, g4, g5, g6⟩ := six HX.out.b3; obtain ⟨r0, r1, r2, r3, r4, r5, r6⟩ := six HX.out.res)
    | (go_at_call 31; have _t := tok4; refine (isMap_says _ _ _ _ _ _ _ _ _ _ hI1 _).mono ?_; rintro e w1 ⟨rfl, hb1⟩; clear tok4; clear a0 a1 a2 a3 a4 a5 a6 f0 f1 f2 f3 f4 f5 f6 g0 g1 g2 g3 g4 g5 g6 r0 r1 r2 r3 r4 r5 r6; replace HX := Lib.hid (HX.out.next hb1); clear hb1; obtain ⟨a0, a1, a2, a3, a4, a5, a6⟩ := six HX.out.b1; obtain ⟨f0, f1, f2, f3, f4, f5, f6⟩ := six HX.out.b2; obtain ⟨g0, g1, g2, g3, g4, g5, g6⟩ := six HX.out.b3; obtain ⟨r0, r1, r2, r3, r4, r5, r6⟩ := six HX.out.res; have q6 := HX.out.six; have q0 := (fun ob => (HX.out.cells ob).1); have q1 := (fun ob => (HX.out.cells ob).2.1); have q2 := (fun ob => (HX.out.cells ob).2.2.1); have q3 := (fun ob => (HX.out.cells ob).2.2.2.1); have q4 := (fun ob => (HX.out.cells ob).2.2.2.2.1); have q5 := (fun ob => (HX.out.cells ob).2.2.2.2.2))
    | go_in)
  have hsz := HX.out.size
  refine bodyPost_ret (ret_spotS Tryz.results16 rfl rfl (set6_end ((Below.heap_alloc w1 _ _ (by omega)).trans HX.out.res) _ _ _ _ _ _)) rfl ⟨w1.heap.size, rfl, ?_, by omega, set6_below (HX.out.below.alloc (by omega) _) (by omega) _ _ _ _ _ _⟩
  exact (set6_other _ _ _ _ _ _ _ _ _ (by omega)).trans (heap_last w1 _)

set_option maxRecDepth 100000 in
set_option maxHeartbeats 1600000 in
theorem spots_5b (w : World) (H31 : Hid (Says w (A6 k3 n3 s3 x3 l3 c3 y3 m3 d3 p3) (A6 k1 n1 s1 x1 l1 c1 y1 m1 d1 p1) false)) (H23 : Hid (Says w (A6 k2 n2 s2 x2 l2 c2 y2 m2 d2 p2) (A6 k3 n3 s3 x3 l3 c3 y3 m3 d3 p3) false)) (H21 : Hid (Says w (A6 k2 n2 s2 x2 l2 c2 y2 m2 d2 p2) (A6 k1 n1 s1 x1 l1 c1 y1 m1 d1 p1) false)) (hI1 : (decide (k1 = 5) && decide (l1 = m1)) = true) (hI2 : (decide (k2 = 5) && decide (l2 = m2)) = false) :
    Calls Tryz.prog 16 #[A6 k1 n1 s1 x1 l1 c1 y1 m1 d1 p1, A6 k2 n2 s2 x2 l2 c2 y2 m2 d2 p2, A6 k3 n3 s3 x3 l3 c3 y3 m3 d3 p3] w fun e w' => ∃ g, e = .returned (.tuple #[A6 k2 n2 s2 x2 l2 c2 y2 m2 d2 p2, .slice (some ⟨g, 0, none⟩) 1 1]) ∧ w'.heap[g]? = some (.cells #[.string ⟨#[46]⟩] 9 (0, 0)) ∧ w.heap.size ≤ g ∧ Below w.heap.size w w' := by
  have HX := Lib.hid (SB.start w (C6 k1 n1 s1 x1 l1 c1 y1 m1 d1 p1) (C6 k2 n2 s2 x2 l2 c2 y2 m2 d2 p2) (C6 k3 n3 s3 x3 l3 c3 y3 m3 d3 p3))
  have tok1 : True := trivial
  have tok2 : True := trivial
  have tok3 : True := trivial
  have tok4 : True := trivial
  have tok5 : True := trivial
  have tok6 : True := trivial
  have tok7 : True := trivial
  go_enter Tryz.func16, Tryz.ntmps16
  go_wp2_with (first
    | (go_at_call 30; have _t := tok1; refine (H31.out _ HX.out.below).mono ?_; rintro e w1 ⟨rfl, hb1⟩; clear tok1; replace HX := Lib.hid (HX.out.next hb1); clear hb1; obtain ⟨a0, a1, a2, a3, a4, a5, a6⟩ := six HX.out.b1; obtain ⟨f0, f1, f2, f3, f4, f5, f6⟩ := six HX.out.b2; obtain ⟨g0, g1, g2, g3, g4, g5, g6⟩ := six HX.out.b3; obtain ⟨r0, r1, r2, r3, r4, r5, r6⟩ := six HX.out.res)
    | (go_at_call 30; have _t := tok2; refine (H23.out _ HX.out.below).mono ?_; rintro e w1 ⟨rfl, hb1⟩; clear tok2; clear a0 a1 a2 a3 a4 a5 a6 f0 f1 f2 f3 f4 f5 f6 g0 g1 g2 g3 g4 g5 g6 r0 r1 r2 r3 r4 r5 r6; replace HX := Lib.hid (HX.out.next hb1); clear hb1; obtain ⟨a0, a1, a2, a3, a4, a5, a6⟩ := six HX.out.b1; obtain ⟨f0, f1, f2, f3, f4, f5, f6⟩ := six HX.out.b2; obtain ⟨g0, g1, g2, g3, g4, g5, g6⟩ := six HX.out.b3; obtain ⟨r0, r1, r2, r3, r4, r5, r6⟩ := six HX.out.res)
    | (go_at_call 30; have _t := tok3; refine (H21.out _ HX.out.below).mono ?_; rintro e w1 ⟨rfl, hb1⟩; clear tok3; clear a0 a1 a2 a3 a4 a5 a6 f0 f1 f2 f3 f4 f5 f6 g0 g1 g2 g3 g4 g5 g6 r0 r1 r2 r3 r4 r5 r6; replace HX := Lib.hid (HX.out.next hb1); clear hb1; obtain ⟨a0, a1, a2, a3, a4, a5, a6⟩ := six HX.out.b1; obtain ⟨f0, f1, f2, f3, f4, f5, f6⟩ := six HX.out.b2; obtain ⟨g0, g1, g2, g3, g4, g5, g6⟩ := six HX.out.b3; obtain ⟨r0, r1, r2, r3, r4, r5, r6⟩ := six HX.out.res)
    | (go_at_call 31; have _t := tok4; refine (isMap_says _ _ _ _ _ _ _ _ _ _ hI1 _).mono ?_; rintro e w1 ⟨rfl, hb1⟩; clear tok4; clear a0 a1 a2 a3 a4 a5 a6 f0 f1 f2 f3 f4 f5 f6 g0 g1 g2 g3 g4 g5 g6 r0 r1 r2 r3 r4 r5 r6; replace HX := Lib.hid (HX.out.next hb1); clear hb1; obtain ⟨a0, a1, a2, a3, a4, a5, a6⟩ := six HX.out.b1; obtain ⟨f0, f1, f2, f3, f4, f5, f6⟩ := six HX.out.b2; obtain ⟨g0, g1, g2, g3, g4, g5, g6⟩ := six HX.out.b3; obtain ⟨r0, r1, r2, r3, r4, r5, r6⟩ := six HX.out.res)
    | (go_at_call 31; have _t := tok5; refine (isMap_says _ _ _ _ _ _ _ _ _ _ hI2 _).mono ?_; rintro e w1 ⟨rfl, hb1⟩; clear tok5; clear a0 a1 a2 a3 a4 a5 a6 f0 f1 f2 f3 f4 f5 f6 g0 g1 g2 g3 g4 g5 g6 r0 r1 r2 r3 r4 r5 r6; replace HX := Lib.hid (HX.out.next hb1); clear hb1; obtain ⟨a0, a1, a2, a3, a4, a5, a6⟩ := six HX.out.b1; obtain ⟨f0, f1, f2, f3, f4, f5, f6⟩ := six HX.out.b2; obtain ⟨g0, g1, g2, g3, g4, g5, g6⟩ := six HX.out.b3; obtain ⟨r0, r1, r2, r3, r4, r5, r6⟩ := six HX.out.res; have q6 := HX.out.six; have q0 := (fun ob => (HX.out.cells ob).1); have q1 := (fun ob => (HX.out.cells ob).2.1); have q2 := (fun ob => (HX.out.cells ob).2.2.1); have q3 := (fun ob => (HX.out.cells ob).2.2.2.1); have q4 := (fun ob => (HX.out.cells ob).2.2.2.2.1); have q5 := (fun ob => (HX.out.cells ob).2.2.2.2.2))
    | go_in)
  have hsz := HX.out.size
  refine bodyPost_ret (ret_spotS Tryz.results16 rfl rfl (set6_end ((Below.heap_alloc w1 _ _ (by omega)).trans HX.out.res) _ _ _ _ _ _)) rfl ⟨w1.heap.size, rfl, ?_, by omega, set6_below (HX.out.below.alloc (by omega) _) (by omega) _ _ _ _ _ _⟩
  exact (set6_other _ _ _ _ _ _ _ _ _ (by omega)).trans (heap_last w1 _)

set_option maxRecDepth 100000 in
set_option maxHeartbeats 1600000 in
theorem spots_5c (w : World) (H31 : Hid (Says w (A6 k3 n3 s3 x3 l3 c3 y3 m3 d3 p3) (A6 k1 n1 s1 x1 l1 c1 y1 m1 d1 p1) false)) (H23 : Hid (Says w (A6 k2 n2 s2 x2 l2 c2 y2 m2 d2 p2) (A6 k3 n3 s3 x3 l3 c3 y3 m3 d3 p3) false)) (H21 : Hid (Says w (A6 k2 n2 s2 x2 l2 c2 y2 m2 d2 p2) (A6 k1 n1 s1 x1 l1 c1 y1 m1 d1 p1) false)) (hI1 : (decide (k1 = 5) && decide (l1 = m1)) = true) (hI2 : (decide (k2 = 5) && decide (l2 = m2)) = true) (hI3 : (decide (k3 = 5) && decide (l3 = m3)) = false) :
    Calls Tryz.prog 16 #[A6 k1 n1 s1 x1 l1 c1 y1 m1 d1 p1, A6 k2 n2 s2 x2 l2 c2 y2 m2 d2 p2, A6 k3 n3 s3 x3 l3 c3 y3 m3 d3 p3] w fun e w' => ∃ g, e = .returned (.tuple #[A6 k2 n2 s2 x2 l2 c2 y2 m2 d2 p2, .slice (some ⟨g, 0, none⟩) 1 1]) ∧ w'.heap[g]? = some (.cells #[.string ⟨#[46]⟩] 9 (0, 0)) ∧ w.heap.size ≤ g ∧ Below w.heap.size w w' := by
  have HX := Lib.hid (SB.start w (C6 k1 n1 s1 x1 l1 c1 y1 m1 d1 p1) (C6 k2 n2 s2 x2 l2 c2 y2 m2 d2 p2) (C6 k3 n3 s3 x3 l3 c3 y3 m3 d3 p3))
  have tok1 : True := trivial
  have tok2 : True := trivial
  have tok3 : True := trivial
  have tok4 : True := trivial
  have tok5 : True := trivial
  have tok6 : True := trivial
  have tok7 : True := trivial
  go_enter Tryz.func16, Tryz.ntmps16
  go_wp2_with (first
    | (go_at_call 30; have _t := tok1; refine (H31.out _ HX.out.below).mono ?_; rintro e w1 ⟨rfl, hb1⟩; clear tok1; replace HX := Lib.hid (HX.out.next hb1); clear hb1; obtain ⟨a0, a1, a2, a3, a4, a5, a6⟩ := six HX.out.b1; obtain ⟨f0, f1, f2, f3, f4, f5, f6⟩ := six HX.out.b2; obtain ⟨g0, g1, g2, g3, g4, g5, g6⟩ := six HX.out.b3; obtain ⟨r0, r1, r2, r3, r4, r5, r6⟩ := six HX.out.res)
    | (go_at_call 30; have _t := tok2; refine (H23.out _ HX.out.below).mono ?_; rintro e w1 ⟨rfl, hb1⟩; clear tok2; clear a0 a1 a2 a3 a4 a5 a6 f0 f1 f2 f3 f4 f5 f6 g0 g1 g2 g3 g4 g5 g6 r0 r1 r2 r3 r4 r5 r6; replace HX := Lib.hid (HX.out.next hb1); clear hb1; obtain ⟨a0, a1, a2, a3, a4, a5, a6⟩ := six HX.out.b1; obtain ⟨f0, f1, f2, f3, f4, f5, f6⟩ := six HX.out.b2; obtain ⟨g0, g1, g2, g3, g4, g5, g6⟩ := six HX.out.b3; obtain ⟨r0, r1, r2, r3, r4, r5, r6⟩ := six HX.out.res)
    | (go_at_call 30; have _t := tok3; refine (H21.out _ HX.out.below).mono ?_; rintro e w1 ⟨rfl, hb1⟩; clear tok3; clear a0 a1 a2 a3 a4 a5 a6 f0 f1 f2 f3 f4 f5 f6 g0 g1 g2 g3 g4 g5 g6 r0 r1 r2 r3 r4 r5 r6; replace HX := Lib.hid (HX.out.next hb1); clear hb1; obtain ⟨a0, a1, a2, a3, a4, a5, a6⟩ := six HX.out.b1; obtain ⟨f0, f1, f2, f3, f4, f5, f6⟩ := six HX.out.b2; obtain ⟨g0, g1, g2, g3, g4, g5, g6⟩ := six HX.out.b3; obtain ⟨r0, r1, r2, r3, r4, r5, r6⟩ := six HX.out.res)
    | (go_at_call 31; have _t := tok4; refine (isMap_says _ _ _ _ _ _ _ _ _ _ hI1 _).mono ?_; rintro e w1 ⟨rfl, hb1⟩; clear tok4; clear a0 a1 a2 a3 a4 a5 a6 f0 f1 f2 f3 f4 f5 f6 g0 g1 g2 g3 g4 g5 g6 r0 r1 r2 r3 r4 r5 r6; replace HX := Lib.hid (HX.out.next hb1); clear hb1; obtain ⟨a0, a1, a2, a3, a4, a5, a6⟩ := six HX.out.b1; obtain ⟨f0, f1, f2, f3, f4, f5, f6⟩ := six HX.out.b2; obtain ⟨g0, g1, g2, g3, g4, g5, g6⟩ := six HX.out.b3; obtain ⟨r0, r1, r2, r3, r4, r5, r6⟩ := six HX.out.res)
    | (go_at_call 31; have _t := tok5; refine (isMap_says _ _ _ _ _ _ _ _ _ _ hI2 _).mono ?_; rintro e w1 ⟨rfl, hb1⟩; clear tok5; clear a0 a1 a2 a3 a4 a5 a6 f0 f1 f2 f3 f4 f5 f6 g0 g1 g2 g3 g4 g5 g6 r0 r1 r2 r3 r4 r5 r6; replace HX := Lib.hid (HX.out.next hb1); clear hb1; obtain ⟨a0, a1, a2, a3, a4, a5, a6⟩ := six HX.out.b1; obtain ⟨f0, f1, f2, f3, f4, f5, f6⟩ := six HX.out.b2; obtain ⟨g0, g1, g2, g3, g4, g5, g6⟩ := six HX.out.b3; obtain ⟨r0, r1, r2, r3, r4, r5, r6⟩ := six HX.out.res)
    | (go_at_call 31; have _t := tok6; refine (isMap_says _ _ _ _ _ _ _ _ _ _ hI3 _).mono ?_; rintro e w1 ⟨rfl, hb1⟩; clear tok6; clear a0 a1 a2 a3 a4 a5 a6 f0 f1 f2 f3 f4 f5 f6 g0 g1 g2 g3 g4 g5 g6 r0 r1 r2 r3 r4 r5 r6; replace HX := Lib.hid (HX.out.next hb1); clear hb1; obtain ⟨a0, a1, a2, a3, a4, a5, a6⟩ := six HX.out.b1; obtain ⟨f0, f1, f2, f3, f4, f5, f6⟩ := six HX.out.b2; obtain ⟨g0, g1, g2, g3, g4, g5, g6⟩ := six HX.out.b3; obtain ⟨r0, r1, r2, r3, r4, r5, r6⟩ := six HX.out.res; have q6 := HX.out.six; have q0 := (fun ob => (HX.out.cells ob).1); have q1 := (fun ob => (HX.out.cells ob).2.1); have q2 := (fun ob => (HX.out.cells ob).2.2.1); have q3 := (fun ob => (HX.out.cells ob).2.2.2.1); have q4 := (fun ob => (HX.out.cells ob).2.2.2.2.1); have q5 := (fun ob => (HX.out.cells ob).2.2.2.2.2))
    | go_in)
  have hsz := HX.out.size
  refine bodyPost_ret (ret_spotS Tryz.results16 rfl rfl (set6_end ((Below.heap_alloc w1 _ _ (by omega)).trans HX.out.res) _ _ _ _ _ _)) rfl ⟨w1.heap.size, rfl, ?_, by omega, set6_below (HX.out.below.alloc (by omega) _) (by omega) _ _ _ _ _ _⟩
  exact (set6_other _ _ _ _ _ _ _ _ _ (by omega)).trans (heap_last w1 _)

set_option maxRecDepth 100000 in
set_option maxHeartbeats 1600000 in
theorem spots_4 (w : World) (H31 : Hid (Says w (A6 k3 n3 s3 x3 l3 c3 y3 m3 d3 p3) (A6 k1 n1 s1 x1 l1 c1 y1 m1 d1 p1) false)) (H23 : Hid (Says w (A6 k2 n2 s2 x2 l2 c2 y2 m2 d2 p2) (A6 k3 n3 s3 x3 l3 c3 y3 m3 d3 p3) false)) (H21 : Hid (Says w (A6 k2 n2 s2 x2 l2 c2 y2 m2 d2 p2) (A6 k1 n1 s1 x1 l1 c1 y1 m1 d1 p1) false)) (hI1 : (decide (k1 = 5) && decide (l1 = m1)) = true) (hI2 : (decide (k2 = 5) && decide (l2 = m2)) = true) (hI3 : (decide (k3 = 5) && decide (l3 = m3)) = true) (R : Int → Int → ByteArray → Option Addr → Nat → Nat → Option Addr → Nat → Nat → Option Addr → Nat → Nat → World → Prop) (HM : Hid (∀ wr, Below w.heap.size w wr → w.heap.size + 4 ≤ wr.heap.size → Calls Tryz.prog 32 #[.agg #[.int .i64 k1, .int .i64 n1, .string s1, .slice x1 l1 c1, .slice y1 m1 d1], .agg #[.int .i64 k2, .int .i64 n2, .string s2, .slice x2 l2 c2, .slice y2 m2 d2], .agg #[.int .i64 k3, .int .i64 n3, .string s3, .slice x3 l3 c3, .slice y3 m3 d3]] wr fun e w' => Below wr.heap.size wr w' ∧ ∃ K N S ka kl kc da dl dc wa wn wc, e = .returned (.tuple #[.agg #[.int .i64 K, .int .i64 N, .string S, .slice ka kl kc, .slice da dl dc], .slice wa wn wc]) ∧ R K N S ka kl kc da dl dc wa wn wc w')) :
    Calls Tryz.prog 16 #[A6 k1 n1 s1 x1 l1 c1 y1 m1 d1 p1, A6 k2 n2 s2 x2 l2 c2 y2 m2 d2 p2, A6 k3 n3 s3 x3 l3 c3 y3 m3 d3 p3] w fun e w' => ∃ K N S ka kl kc da dl dc wa wn wc w1, e = .returned (.tuple #[A6 K N S ka kl kc da dl dc true, .slice wa wn wc]) ∧ R K N S ka kl kc da dl dc wa wn wc w1 ∧ (∀ y, y ≠ w.heap.size + 1 + 1 + 1 → y < w1.heap.size → w'.heap[y]? = w1.heap[y]?) ∧ w1.heap.size ≤ w'.heap.size ∧ Below w.heap.size w w' := by
  have HX := Lib.hid (SB.start w (C6 k1 n1 s1 x1 l1 c1 y1 m1 d1 p1) (C6 k2 n2 s2 x2 l2 c2 y2 m2 d2 p2) (C6 k3 n3 s3 x3 l3 c3 y3 m3 d3 p3))
  have tok1 : True := trivial
  have tok2 : True := trivial
  have tok3 : True := trivial
  have tok4 : True := trivial
  have tok5 : True := trivial
  have tok6 : True := trivial
  have tok7 : True := trivial
  go_enter Tryz.func16, Tryz.ntmps16
  go_wp2_with (first
    | (go_at_call 30; have _t := tok1; refine (H31.out _ HX.out.below).mono ?_; rintro e w1 ⟨rfl, hb1⟩; clear tok1; replace HX := Lib.hid (HX.out.next hb1); clear hb1; obtain ⟨a0, a1, a2, a3, a4, a5, a6⟩ := six HX.out.b1; obtain ⟨f0, f1, f2, f3, f4, f5, f6⟩ := six HX.out.b2; obtain ⟨g0, g1, g2, g3, g4, g5, g6⟩ := six HX.out.b3; obtain ⟨r0, r1, r2, r3, r4, r5, r6⟩ := six HX.out.res)
    | (go_at_call 30; have _t := tok2; refine (H23.out _ HX.out.below).mono ?_; rintro e w1 ⟨rfl, hb1⟩; clear tok2; clear a0 a1 a2 a3 a4 a5 a6 f0 f1 f2 f3 f4 f5 f6 g0 g1 g2 g3 g4 g5 g6 r0 r1 r2 r3 r4 r5 r6; replace HX := Lib.hid (HX.out.next hb1); clear hb1; obtain ⟨a0, a1, a2, a3, a4, a5, a6⟩ := six HX.out.b1; obtain ⟨f0, f1, f2, f3, f4, f5, f6⟩ := six HX.out.b2; obtain ⟨g0, g1, g2, g3, g4, g5, g6⟩ := six HX.out.b3; obtain ⟨r0, r1, r2, r3, r4, r5, r6⟩ := six HX.out.res)
    | (go_at_call 30; have _t := tok3; refine (H21.out _ HX.out.below).mono ?_; rintro e w1 ⟨rfl, hb1⟩; clear tok3; clear a0 a1 a2 a3 a4 a5 a6 f0 f1 f2 f3 f4 f5 f6 g0 g1 g2 g3 g4 g5 g6 r0 r1 r2 r3 r4 r5 r6; replace HX := Lib.hid (HX.out.next hb1); clear hb1; obtain ⟨a0, a1, a2, a3, a4, a5, a6⟩ := six HX.out.b1; obtain ⟨f0, f1, f2, f3, f4, f5, f6⟩ := six HX.out.b2; obtain ⟨g0, g1, g2, g3, g4, g5, g6⟩ := six HX.out.b3; obtain ⟨r0, r1, r2, r3, r4, r5, r6⟩ := six HX.out.res)
    | (go_at_call 31; have _t := tok4; refine (isMap_says _ _ _ _ _ _ _ _ _ _ hI1 _).mono ?_; rintro e w1 ⟨rfl, hb1⟩; clear tok4; clear a0 a1 a2 a3 a4 a5 a6 f0 f1 f2 f3 f4 f5 f6 g0 g1 g2 g3 g4 g5 g6 r0 r1 r2 r3 r4 r5 r6; replace HX := Lib.hid (HX.out.next hb1); clear hb1; obtain ⟨a0, a1, a2, a3, a4, a5, a6⟩ := six HX.out.b1; obtain ⟨f0, f1, f2, f3, f4, f5, f6⟩ := six HX.out.b2; obtain ⟨g0, g1, g2, g3, g4, g5, g6⟩ := six HX.out.b3; obtain ⟨r0, r1, r2, r3, r4, r5, r6⟩ := six HX.out.res)
    | (go_at_call 31; have _t := tok5; refine (isMap_says _ _ _ _ _ _ _ _ _ _ hI2 _).mono ?_; rintro e w1 ⟨rfl, hb1⟩; clear tok5; clear a0 a1 a2 a3 a4 a5 a6 f0 f1 f2 f3 f4 f5 f6 g0 g1 g2 g3 g4 g5 g6 r0 r1 r2 r3 r4 r5 r6; replace HX := Lib.hid (HX.out.next hb1); clear hb1; obtain ⟨a0, a1, a2, a3, a4, a5, a6⟩ := six HX.out.b1; obtain ⟨f0, f1, f2, f3, f4, f5, f6⟩ := six HX.out.b2; obtain ⟨g0, g1, g2, g3, g4, g5, g6⟩ := six HX.out.b3; obtain ⟨r0, r1, r2, r3, r4, r5, r6⟩ := six HX.out.res)
    | (go_at_call 31; have _t := tok6; refine (isMap_says _ _ _ _ _ _ _ _ _ _ hI3 _).mono ?_; rintro e w1 ⟨rfl, hb1⟩; clear tok6; clear a0 a1 a2 a3 a4 a5 a6 f0 f1 f2 f3 f4 f5 f6 g0 g1 g2 g3 g4 g5 g6 r0 r1 r2 r3 r4 r5 r6; replace HX := Lib.hid (HX.out.next hb1); clear hb1; obtain ⟨a0, a1, a2, a3, a4, a5, a6⟩ := six HX.out.b1; obtain ⟨f0, f1, f2, f3, f4, f5, f6⟩ := six HX.out.b2; obtain ⟨g0, g1, g2, g3, g4, g5, g6⟩ := six HX.out.b3; obtain ⟨r0, r1, r2, r3, r4, r5, r6⟩ := six HX.out.res)
    | (go_at_call 32; refine (HM.out _ HX.out.below HX.out.size).mono ?_; rintro e w1 ⟨hb1, K, N, S, ka, kl, kc, da, dl, dc, wa, wn, wc, rfl, hR⟩; have HR := Lib.hid hR; clear hR; clear a0 a1 a2 a3 a4 a5 a6 f0 f1 f2 f3 f4 f5 f6 g0 g1 g2 g3 g4 g5 g6 r0 r1 r2 r3 r4 r5 r6; replace HX := Lib.hid (HX.out.next hb1); clear hb1; obtain ⟨a0, a1, a2, a3, a4, a5, a6⟩ := six HX.out.b1; obtain ⟨f0, f1, f2, f3, f4, f5, f6⟩ := six HX.out.b2; obtain ⟨g0, g1, g2, g3, g4, g5, g6⟩ := six HX.out.b3; obtain ⟨r0, r1, r2, r3, r4, r5, r6⟩ := six HX.out.res; have q6 := HX.out.six; have q0 := (fun ob => (HX.out.cells ob).1); have q1 := (fun ob => (HX.out.cells ob).2.1); have q2 := (fun ob => (HX.out.cells ob).2.2.1); have q3 := (fun ob => (HX.out.cells ob).2.2.2.1); have q4 := (fun ob => (HX.out.cells ob).2.2.2.2.1); have q5 := (fun ob => (HX.out.cells ob).2.2.2.2.2))
    | go_in)
  have hsz := HX.out.size
  refine bodyPost_ret (ret_spotS Tryz.results16 rfl rfl (set6_end ((Below.heap_alloc w1 _ _ (by omega)).trans HX.out.res) _ _ _ _ _ _)) rfl ⟨K, N, S, ka, kl, kc, da, dl, dc, wa, wn, wc, w1, rfl, HR.out, fun y hy hl => (set6_other _ _ _ _ _ _ _ _ _ hy).trans (Below.heap_alloc w1 _ _ hl), ?_, set6_below (HX.out.below.alloc (by omega) _) (by omega) _ _ _ _ _ _⟩
  show w1.heap.size ≤ (set6 _ _ _ _ _ _ _ _).heap.size
  simp [set6, set5, World.setCell]

end
end Go.Proofs.YtelpkcbbipianaaGreat

/- what mergeSpots answers, if mergeMaps answers as it shall. -/
namespace Go.Proofs.YtelpkcbbipianaaGreat
open Go Go.RowKit Go.Maps

/-- A row of ways that a call has laid. -/
structure Ways (w w' : World) (v : Value) (S : Nat) : Prop where
  row : ∃ (wl : List ByteArray) (FW : List Nat), StrsAt w' v wl FW ∧ (∀ y ∈ FW, w.heap.size ≤ y) ∧ wl.length ≤ S ∧ ∀ x ∈ wl, x.size ≤ S

def SpotsPost (w : World) (o1 o2 o3 : Option RT) (F1 F2 F3 : List Nat) (e : Ending) (w' : World) : Prop :=
  ∃ (o : Option RT) (y1 : Option Addr) (d1 : Nat) (y2 : Option Addr) (d2 : Nat) (F : List Nat) (va : Option Addr) (vn vc : Nat), e = .returned (.tuple #[spotV o y1 d1 y2 d2, .slice va vn vc]) ∧ Spot w' o y1 d1 y2 d2 F ∧
    (∀ y ∈ F, y ∈ F1 ∨ y ∈ F2 ∨ y ∈ F3 ∨ w.heap.size ≤ y) ∧ Ways w w' (.slice va vn vc) (osz o1 + osz o2 + osz o3 + 1) ∧ MSpec o1 o2 o3 o ∧ Below w.heap.size w w'

def SpotsAt (o1 : Option RT) : Prop := ∀ (o2 o3 : Option RT) (w : World) (x1 : Option Addr) (c1 : Nat) (y1 : Option Addr) (d1 : Nat) (F1 : List Nat) (x2 : Option Addr) (c2 : Nat) (y2 : Option Addr) (d2 : Nat) (F2 : List Nat) (x3 : Option Addr) (c3 : Nat) (y3 : Option Addr) (d3 : Nat) (F3 : List Nat),
  Spot w o1 x1 c1 y1 d1 F1 → Spot w o2 x2 c2 y2 d2 F2 → Spot w o3 x3 c3 y3 d3 F3 → osz o1 + osz o2 + osz o3 ≤ 1000000 →
  Calls Tryz.prog 16 #[spotV o1 x1 c1 y1 d1, spotV o2 x2 c2 y2 d2, spotV o3 x3 c3 y3 d3] w (SpotsPost w o1 o2 o3 F1 F2 F3)

def MapsPost (w : World) (A B C : RT) (F1 F2 F3 : List Nat) (e : Ending) (w' : World) : Prop :=
  ∃ (M : RT) (y1 : Option Addr) (d1 : Nat) (y2 : Option Addr) (d2 : Nat) (F : List Nat) (va : Option Addr) (vn vc : Nat), e = .returned (.tuple #[.agg #[.int .i64 M.k, .int .i64 M.n, .string M.s, .slice y1 M.keys.length d1, .slice y2 M.kids.length d2], .slice va vn vc]) ∧ Lies w' M (.slice y1 M.keys.length d1) (.slice y2 M.kids.length d2) F ∧
    (∀ y ∈ F, y ∈ F1 ∨ y ∈ F2 ∨ y ∈ F3 ∨ w.heap.size ≤ y) ∧ Ways w w' (.slice va vn vc) (A.sz + B.sz + C.sz) ∧ M.isMap ∧ (∀ key, MSpec (A.at key) (B.at key) (C.at key) (M.at key)) ∧ M.sz ≤ A.sz + B.sz + C.sz ∧ Below w.heap.size w w'

def MapsAt (A : RT) : Prop := ∀ (B C : RT) (w : World) (x1 : Option Addr) (c1 : Nat) (y1 : Option Addr) (d1 : Nat) (F1 : List Nat) (x2 : Option Addr) (c2 : Nat) (y2 : Option Addr) (d2 : Nat) (F2 : List Nat) (x3 : Option Addr) (c3 : Nat) (y3 : Option Addr) (d3 : Nat) (F3 : List Nat),
  Lies w A (.slice x1 A.keys.length c1) (.slice y1 A.kids.length d1) F1 → Lies w B (.slice x2 B.keys.length c2) (.slice y2 B.kids.length d2) F2 → Lies w C (.slice x3 C.keys.length c3) (.slice y3 C.kids.length d3) F3 → A.isMap → B.isMap → C.isMap → A.sz + B.sz + C.sz ≤ 1000000 →
  Calls Tryz.prog 32 #[.agg #[.int .i64 A.k, .int .i64 A.n, .string A.s, .slice x1 A.keys.length c1, .slice y1 A.kids.length d1], .agg #[.int .i64 B.k, .int .i64 B.n, .string B.s, .slice x2 B.keys.length c2, .slice y2 B.kids.length d2], .agg #[.int .i64 C.k, .int .i64 C.n, .string C.s, .slice x3 C.keys.length c3, .slice y3 C.kids.length d3]] w (MapsPost w A B C F1 F2 F3)

theorem says {w : World} {a b : Option RT} {x1 x2 y1 y2 : Option Addr} {c1 c2 d1 d2 : Nat} {F F' : List Nat} (ha : Spot w a x1 c1 x2 c2 F) (hb : Spot w b y1 d1 y2 d2 F') (r : Bool) (h : r = true ↔ a = b) : Says w (spotV a x1 c1 x2 c2) (spotV b y1 d1 y2 d2) r := fun wr hw => by
  refine (impl_spotSame a b wr x1 x2 y1 y2 c1 c2 d1 d2 F F' ⟨ha.lies.stay hw (Nat.le_refl _)⟩ ⟨hb.lies.stay hw (Nat.le_refl _)⟩).mono ?_
  rintro e w' ⟨r', rfl, hr, hb'⟩
  have : r' = r := by
    cases r' <;> cases r <;> simp at h hr ⊢
    · exact hr h
    · exact h hr
  exact ⟨by rw [this], hb'⟩

theorem ways_nil (w w' : World) (S : Nat) : Ways w w' (.slice none 0 0) S := ⟨[], [], strs_nil w' none, fun y hy => absurd hy (by simp), Nat.zero_le _, fun x hx => absurd hx (by simp)⟩

theorem ways_one {w w' : World} {g S : Nat} (h : w'.heap[g]? = some (.cells #[.string ⟨#[46]⟩] 9 (0, 0))) (hg : w.heap.size ≤ g) (hS : 1 ≤ S) : Ways w w' (.slice (some ⟨g, 0, none⟩) 1 1) S := by
  refine ⟨[⟨#[46]⟩], [g], ⟨_, 1, g, 0, rfl, by simp, by decide, fun _ => rfl, by simp, fun i hi => ?_, room_of h (by simp)⟩, fun y hy => by simp at hy; omega, by simpa using hS, fun x hx => by simp at hx; subst hx; exact hS⟩
  have hi0 : i = 0 := by simp at hi; omega
  subst hi0
  exact ⟨cell_of h 0, by show (1 : Nat) ≤ maxLen; unfold maxLen; omega⟩

theorem not_map {T : RT} (h : ¬ T.isMap) : (decide (T.k = 5) && decide (T.keys.length = T.kids.length)) = false := by
  cases hh : (decide (T.k = 5) && decide (T.keys.length = T.kids.length)) with
  | false => rfl
  | true =>
    simp only [Bool.and_eq_true, decide_eq_true_eq] at hh
    exact absurd ⟨hh.1, hh.2⟩ h

theorem is_map {T : RT} (h : T.isMap) : (decide (T.k = 5) && decide (T.keys.length = T.kids.length)) = true := by
  simp [h.1, h.2]

theorem map_some {o : Option RT} (h : (o.getD zeroT).isMap) : ∃ A, o = some A ∧ A.isMap := by
  cases o with
  | none => exact absurd h.1 (by decide)
  | some A => exact ⟨A, rfl, h⟩

theorem spots_any {o1 : Option RT} (hM : ∀ A, o1 = some A → MapsAt A) : SpotsAt o1 := by
  intro o2 o3 w x1 c1 y1 d1 F1 x2 c2 y2 d2 F2 x3 c3 y3 d3 F3 h1 h2 h3 hsz
  by_cases e31 : o3 = o1
  · refine (spots_1 _ _ _ _ _ _ _ _ _ _ _ _ _ _ _ _ _ _ _ _ _ _ _ _ _ _ _ _ _ _ w (says h3 h1 true (by simp [e31]))).mono ?_
    rintro e w' ⟨rfl, hb⟩
    exact ⟨o2, x2, c2, y2, d2, F2, none, 0, 0, rfl, ⟨h2.lies.stay hb (Nat.le_refl _)⟩, fun y hy => .inr (.inl hy), ways_nil _ _ _, mspec_a (.inl e31), hb⟩
  have f31 := says h3 h1 false (by simp [e31])
  by_cases e23 : o2 = o3
  · refine (spots_2 _ _ _ _ _ _ _ _ _ _ _ _ _ _ _ _ _ _ _ _ _ _ _ _ _ _ _ _ _ _ w f31 (says h2 h3 true (by simp [e23]))).mono ?_
    rintro e w' ⟨rfl, hb⟩
    exact ⟨o2, x2, c2, y2, d2, F2, none, 0, 0, rfl, ⟨h2.lies.stay hb (Nat.le_refl _)⟩, fun y hy => .inr (.inl hy), ways_nil _ _ _, mspec_a (.inr e23), hb⟩
  have f23 := says h2 h3 false (by simp [e23])
  by_cases e21 : o2 = o1
  · refine (spots_3 _ _ _ _ _ _ _ _ _ _ _ _ _ _ _ _ _ _ _ _ _ _ _ _ _ _ _ _ _ _ w f31 f23 (says h2 h1 true (by simp [e21]))).mono ?_
    rintro e w' ⟨rfl, hb⟩
    exact ⟨o3, x3, c3, y3, d3, F3, none, 0, 0, rfl, ⟨h3.lies.stay hb (Nat.le_refl _)⟩, fun y hy => .inr (.inr (.inl hy)), ways_nil _ _ _, mspec_b e21, hb⟩
  have f21 := says h2 h1 false (by simp [e21])
  have hway : (¬ ((o1.getD zeroT).isMap ∧ (o2.getD zeroT).isMap ∧ (o3.getD zeroT).isMap)) → ∀ e w', (∃ g, e = Ending.returned (.tuple #[spotV o2 x2 c2 y2 d2, .slice (some ⟨g, 0, none⟩) 1 1]) ∧ w'.heap[g]? = some (.cells #[.string ⟨#[46]⟩] 9 (0, 0)) ∧ w.heap.size ≤ g ∧ Below w.heap.size w w') → SpotsPost w o1 o2 o3 F1 F2 F3 e w' := by
    rintro hm e w' ⟨g, rfl, hg, hge, hb⟩
    exact ⟨o2, x2, c2, y2, d2, F2, _, 1, 1, rfl, ⟨h2.lies.stay hb (Nat.le_refl _)⟩, fun y hy => .inr (.inl hy), ways_one hg hge (by omega), mspec_way e31 e23 e21 hm, hb⟩
  by_cases m1 : (o1.getD zeroT).isMap
  · by_cases m2 : (o2.getD zeroT).isMap
    · by_cases m3 : (o3.getD zeroT).isMap
      · obtain ⟨A, rfl, mA⟩ := map_some m1
        obtain ⟨B, rfl, mB⟩ := map_some m2
        obtain ⟨C, rfl, mC⟩ := map_some m3
        refine (spots_4 _ _ _ _ _ _ _ _ _ _ _ _ _ _ _ _ _ _ _ _ _ _ _ _ _ _ _ _ _ _ w f31 f23 f21 (is_map m1) (is_map m2) (is_map m3)
          (fun K N S ka kl kc da dl dc wa wn wc w1 => ∃ M F, w1.heap.size ≥ w.heap.size + 4 ∧ K = M.k ∧ N = M.n ∧ S = M.s ∧ kl = M.keys.length ∧ dl = M.kids.length ∧ Lies w1 M (.slice ka M.keys.length kc) (.slice da M.kids.length dc) F ∧ (∀ y ∈ F, y ≠ w.heap.size + 1 + 1 + 1 ∧ (y ∈ F1 ∨ y ∈ F2 ∨ y ∈ F3 ∨ w.heap.size ≤ y)) ∧ (∃ (wl : List ByteArray) (FW : List Nat), StrsAt w1 (.slice wa wn wc) wl FW ∧ (∀ y ∈ FW, y ≠ w.heap.size + 1 + 1 + 1 ∧ w.heap.size ≤ y) ∧ wl.length ≤ A.sz + B.sz + C.sz ∧ ∀ x ∈ wl, x.size ≤ A.sz + B.sz + C.sz) ∧ M.isMap ∧ (∀ key, MSpec (A.at key) (B.at key) (C.at key) (M.at key)) ∧ M.sz ≤ A.sz + B.sz + C.sz)
          (fun wr hw hsw => (hM A rfl B C wr x1 c1 y1 d1 F1 x2 c2 y2 d2 F2 x3 c3 y3 d3 F3 (h1.lies.stay hw (Nat.le_refl _)) (h2.lies.stay hw (Nat.le_refl _)) (h3.lies.stay hw (Nat.le_refl _)) mA mB mC hsz).mono ?_)).mono ?_
        · rintro e w' ⟨M, y1', d1', y2', d2', F, va, vn, vc, rfl, hl, hF, ⟨wl, FW, hS, hFW, hn, hx⟩, hm, hk, hs, hb⟩
          refine ⟨hb, M.k, M.n, M.s, y1', M.keys.length, d1', y2', M.kids.length, d2', va, vn, vc, rfl, M, F, by have := hb.size; omega, rfl, rfl, rfl, rfl, rfl, hl, fun y hy => ?_, ⟨wl, FW, hS, fun y hy => by have := hFW y hy; omega, hn, hx⟩, hm, hk, hs⟩
          have hl1 : ∀ y ∈ F1, y < w.heap.size := fun y hy => h1.lies.lt y hy
          have hl2 : ∀ y ∈ F2, y < w.heap.size := fun y hy => h2.lies.lt y hy
          have hl3 : ∀ y ∈ F3, y < w.heap.size := fun y hy => h3.lies.lt y hy
          rcases hF y hy with h | h | h | h
          · exact ⟨by have := hl1 y h; omega, .inl h⟩
          · exact ⟨by have := hl2 y h; omega, .inr (.inl h)⟩
          · exact ⟨by have := hl3 y h; omega, .inr (.inr (.inl h))⟩
          · exact ⟨by omega, .inr (.inr (.inr (by omega)))⟩
        · rintro e w' ⟨K, N, S, ka, kl, kc, da, dl, dc, wa, wn, wc, w1, rfl, ⟨M, F, hw4, rfl, rfl, rfl, rfl, rfl, hl, hF, ⟨wl, FW, hS, hFW, hn, hx⟩, hm, hk, hs⟩, hkeep, hsz1, hb⟩
          refine ⟨some M, ka, kc, da, dc, F, wa, wn, wc, rfl, ⟨hl.carry fun y hy => hkeep y (hF y hy).1 (hl.lt y hy)⟩, fun y hy => (hF y hy).2, ⟨wl, FW, hS.carry fun y hy => hkeep y (hFW y hy).1 (hS.lt y hy), fun y hy => (hFW y hy).2, ?_, fun x hxm => ?_⟩, mspec_maps e31 e23 e21 hm hk hs, hb⟩
          · exact Nat.le_succ_of_le hn
          · exact Nat.le_succ_of_le (hx x hxm)
      · exact (spots_5c _ _ _ _ _ _ _ _ _ _ _ _ _ _ _ _ _ _ _ _ _ _ _ _ _ _ _ _ _ _ w f31 f23 f21 (is_map m1) (is_map m2) (not_map m3)).mono (hway fun h => m3 h.2.2)
    · exact (spots_5b _ _ _ _ _ _ _ _ _ _ _ _ _ _ _ _ _ _ _ _ _ _ _ _ _ _ _ _ _ _ w f31 f23 f21 (is_map m1) (not_map m2)).mono (hway fun h => m2 h.2.1)
  · exact (spots_5a _ _ _ _ _ _ _ _ _ _ _ _ _ _ _ _ _ _ _ _ _ _ _ _ _ _ _ _ _ _ w f31 f23 f21 (not_map m1)).mono (hway fun h => m1 h.1)
end Go.Proofs.YtelpkcbbipianaaGreat
