/-
  What is proved: the program's Outline of a text of one line that is a right tree in braces answers that tree and -1; condition: the library's MaxLen is a number.; plain facts on a block that a function laid, in every later world that has all earlier blocks as they were.; plain facts on where a law stands that holds what a function answered against what is wanted, marks it, and looks whether the marks are held.; how great a map is once a key has been set in it.; plain facts on a measure of a tree that is not less than its room and not less than what a right tree is written as in braces.; plain facts: a text without a line's end, alone or with one behind it, is one line; how long a right tree's braced text is at most.
-/
import Derived.Test.YtmcjghhmcmkomaaGreatDoorPartAO
import Derived.Test.YtmcjghhmcmkomaaGreatDoorRows
import Derived.Below
import Derived.WalkKit
import Derived.WalkSpells
import Derived.Lib.Hide
import Derived.Deep.RegionHeld3
import Derived.Deep.Draws
import Derived.Deep.QuietTactic
import Derived.Deep.RegionWith
import Derived.BigQuiet
import Derived.Test.YtmcjghhmcmkomaaGreatDoorPartAC
import Derived.Test.YtmcjghhmcmkomaaGreatDoorPartAI
import Derived.Test.YtmcjghhmcmkomaaGreatDoorPartAF
import Derived.Lib.IndexBytes
import Derived.Lib.IndexMore
import Derived.Lib.IndexLaws
/- the program's Outline of a text of one line that is a right tree in braces answers that tree and -1; condition: the library's MaxLen is a number. -/
namespace Go.Proofs.YtmcjghhmcmkomaaGreatDoor
open Go Go.RowKit Go.Shelf

attribute [local go_sem] Oper.semAt_some

theorem five_blks (w : World) (a b c d e : Obj) : (((((w.alloc a).alloc b).alloc c).alloc d).alloc e).heap[w.heap.size]? = some a ∧ (((((w.alloc a).alloc b).alloc c).alloc d).alloc e).heap[w.heap.size + 1]? = some b ∧ (((((w.alloc a).alloc b).alloc c).alloc d).alloc e).heap[w.heap.size + 1 + 1]? = some c ∧ (((((w.alloc a).alloc b).alloc c).alloc d).alloc e).heap[w.heap.size + 1 + 1 + 1]? = some d ∧ (((((w.alloc a).alloc b).alloc c).alloc d).alloc e).heap[w.heap.size + 1 + 1 + 1 + 1]? = some e ∧ (((((w.alloc a).alloc b).alloc c).alloc d).alloc e).heap.size = w.heap.size + 5 ∧ Below w.heap.size w (((((w.alloc a).alloc b).alloc c).alloc d).alloc e) := by
  refine ⟨?_, ?_, ?_, ?_, ?_, by simp, (((((Below.refl _ w).alloc (Nat.le_refl _) _).alloc (by simp) _).alloc (by simp; omega) _).alloc (by simp; omega) _).alloc (by simp; omega) _⟩
  all_goals
    show (((((w.heap.push a).push b).push c).push d).push e)[_]? = _
    simp only [Array.getElem?_push, Array.size_push]
    repeat (first | rw [if_pos (by omega)] | rw [if_neg (by omega)])
    all_goals simp

theorem cells_at {w : World} {a : Addr} {v : Value} (h : w.cell? a = some v) : ∃ cs t fr, w.heap[a.block]? = some (Obj.cells cs t fr) := by
  unfold World.cell? at h
  split at h
  · rename_i cs t fr e; exact ⟨cs, t, fr, e⟩
  · cases h

theorem room_cells {w : World} {b off n : Nat} (h : Room w b off n) (hn : 0 < n) : ∃ cs t fr, w.heap[b]? = some (Obj.cells cs t fr) := by
  obtain ⟨u, hu⟩ := Option.isSome_iff_exists.1 (h 0 hn)
  exact cells_at hu

/-- The memory that a tree lies in is cells. -/
theorem lies_cells (T : RT) : ∀ (w : World) (kv dv : Value) (F : List Nat), Lies w T kv dv F → ∀ y ∈ F, ∃ cs t fr, w.heap[y]? = some (Obj.cells cs t fr) := by
  induction T using RT.ind with
  | h k n s keys kids ih =>
    intro w kv dv F hl y hy
    obtain ⟨-, -, -, FK, FD, hK, hD, rfl⟩ := hl.outn
    rcases List.mem_append.1 hy with hy | hy
    · obtain ⟨o, cap, b, off, -, -, -, -, rfl, -, hroom⟩ := hK
      split at hy
      · simp at hy
      · simp at hy; subst hy
        exact room_cells hroom (by omega)
    · obtain ⟨o, cap, b, off, FF, KV, DV, -, -, -, -, rfl, -, hlies, hroom⟩ := hD
      rcases List.mem_append.1 hy with hy | hy
      · split at hy
        · simp at hy
        · simp at hy; subst hy
          exact room_cells hroom (by omega)
      · obtain ⟨i, hi, hy⟩ := List.mem_flatMap.1 hy
        have hi := List.mem_range.1 hi
        exact ih _ (List.getElem_mem hi) w _ _ _ (hlies i hi) y hy

/-- What outlined holds between its rounds. -/
structure OI (w : World) (T : RT) (m : Int) (pre : List Unit) (W : World) : Prop where
  res : W.heap[w.heap.size]? = some (.cells #[.int .i64 0, .int .i64 0, .string ⟨#[]⟩, .slice none 0 0, .slice none 0 0] 27 (0, 0))
  err : W.heap[w.heap.size + 1]? = some (.cells #[.nilIface] 39 (0, 0))
  lines : ∃ v : Int, W.heap[w.heap.size + 1 + 1 + 1]? = some (.cells #[.int .i64 v] 3 (0, 0))
  max : MaxL W m
  below : Below w.heap.size w W
  st : (pre = [] ∧ Ob W (w.heap.size + 1 + 1) true 0 0 ⟨#[]⟩ (.slice none 0 0) (.slice none 0 0)) ∨ (pre = [()] ∧ ∃ kx dx F, Ob W (w.heap.size + 1 + 1) false T.k T.n T.s kx dx ∧ Lies W T kx dx F ∧ Fresh w W F ∧ ∀ y ∈ F, w.heap.size + 4 ≤ y)

theorem oi_own (w : World) (T : RT) (m : Int) : OwnFrom (w.heap.size + 5) (OI w T m) := by
  intro pre W W' row h hg hr
  have keep : ∀ y, y < w.heap.size + 5 → ∀ o : Obj, W.heap[y]? = some o → W'.heap[y]? = some o := fun y hy o ho => (hg.block y (Array.getElem?_eq_some_iff.1 ho).1 (fun e => by have := (hr y e.symm).1; omega)).trans ho
  have keepc : ∀ y, (∃ cs t fr, W.heap[y]? = some (Obj.cells cs t fr)) → W'.heap[y]? = W.heap[y]? := fun y ⟨cs, t, fr, ho⟩ => hg.block y (Array.getElem?_eq_some_iff.1 ho).1 (fun e => by
    obtain ⟨-, o, h1, h2⟩ := hr y e.symm
    rw [ho] at h1; injection h1 with h1; subst h1; cases h2)
  obtain ⟨v, hv⟩ := h.lines
  refine ⟨keep _ (by omega) _ h.res, keep _ (by omega) _ h.err, ⟨v, keep _ (by omega) _ hv⟩, ?_, h.below.grown hg h.below.size (fun k e => by have := (hr k e).1; omega), ?_⟩
  · obtain ⟨cs, t, fr, ho⟩ := cells_at h.max
    exact (World.cell?_of_block (a := ⟨2, 0, none⟩) (keepc _ ⟨cs, t, fr, ho⟩)).trans h.max
  · rcases h.st with ⟨rfl, h1⟩ | ⟨rfl, kx, dx, F, h1, h2, h3, h4⟩
    · exact .inl ⟨rfl, keep _ (by omega) _ h1⟩
    · exact .inr ⟨rfl, kx, dx, F, keep _ (by omega) _ h1, h2.carry fun y hy => keepc y (lies_cells T W _ _ _ h2 y hy), h3.carry fun y hy => keepc y (lies_cells T W _ _ _ h2 y hy), h4⟩

theorem oi_line {w : World} {T : RT} {m : Int} {W : World} (h : OI w T m [] W) (hm0 : 2 < w.heap.size) (v : Int) : OI w T m [] (W.setCell ⟨w.heap.size + 1 + 1 + 1, 0, none⟩ (.int .i64 v)) := by
  have keep : ∀ y, y ≠ w.heap.size + 1 + 1 + 1 → (W.setCell ⟨w.heap.size + 1 + 1 + 1, 0, none⟩ (.int .i64 v)).heap[y]? = W.heap[y]? := fun y hy => Below.heap_setCell _ _ _ _ hy
  obtain ⟨v0, hv⟩ := h.lines
  refine ⟨(keep _ (by omega)).trans h.res, (keep _ (by omega)).trans h.err, ⟨v, heap_set hv 0 _⟩, (World.cell?_of_block (a := ⟨2, 0, none⟩) (keep 2 (by omega))).trans h.max, h.below.setCell (p := ⟨w.heap.size + 1 + 1 + 1, 0, none⟩) (by show w.heap.size ≤ w.heap.size + 1 + 1 + 1; omega) _, ?_⟩
  rcases h.st with ⟨e, h1⟩ | ⟨e, -⟩
  · exact .inl ⟨rfl, (keep _ (by omega)).trans h1⟩
  · cases e

theorem oi_below {w : World} {T : RT} {m : Int} {W W' : World} (h : OI w T m [] W) (hb : Below W.heap.size W W') : OI w T m [] W' := by
  obtain ⟨v0, hv⟩ := h.lines
  refine ⟨blk_nextR h.res hb, blk_nextR h.err hb, ⟨v0, blk_nextR hv hb⟩, h.max.stay hb h.max.lt, h.below.trans (hb.mono h.below.size), ?_⟩
  rcases h.st with ⟨e, h1⟩ | ⟨e, -⟩
  · exact .inl ⟨rfl, blk_nextR h1 hb⟩
  · cases e

theorem oi_take {w : World} {T : RT} {m : Int} {W W' : World} (h : OI w T m [] W) (hm0 : 2 < w.heap.size) (hg : W.grownBy W' (some (w.heap.size + 1 + 1))) {kx dx : Value} {F : List Nat} (hO : Ob W' (w.heap.size + 1 + 1) false T.k T.n T.s kx dx) (hl : Lies W' T kx dx F) (hf : Fresh W W' F) : OI w T m [()] W' := by
  obtain ⟨v0, hv⟩ := h.lines
  have keep : ∀ y, y ≠ w.heap.size + 1 + 1 → ∀ o : Obj, W.heap[y]? = some o → W'.heap[y]? = some o := fun y hy o ho => (hg.block y (Array.getElem?_eq_some_iff.1 ho).1 (fun e => by injection e with e; omega)).trans ho
  have hlt := (Array.getElem?_eq_some_iff.1 hv).1
  refine ⟨keep _ (by omega) _ h.res, keep _ (by omega) _ h.err, ⟨v0, keep _ (by omega) _ hv⟩, ?_, h.below.grown hg h.below.size (fun k e => by injection e with e; omega), .inr ⟨rfl, kx, dx, F, hO, hl, hf.earlier h.below.size, fun y hy => by have := hf.old y hy; omega⟩⟩
  obtain ⟨cs, t, fr, ho⟩ := cells_at h.max
  exact (World.cell?_of_block (a := ⟨2, 0, none⟩) ((keep _ (by show 2 ≠ _; omega) _ ho).trans ho.symm)).trans h.max

theorem ret_node_err {fn : Func} {i j : Nat} (hres : fn.results = #[ResultVar.cell i 27, ResultVar.cell j 39]) {tmps : Array Value} {w : World} {b b2 : Nat} {t t2 : TypeId} {a0 a1 a2 a3 a4 v : Value}
    (ht : tmps[i]?.getD undef = .pointer (some ⟨b, 0, none⟩)) (hv : tmps[j]?.getD undef = .pointer (some ⟨b2, 0, none⟩)) (h : w.heap[b]? = some (.cells #[a0, a1, a2, a3, a4] t (0, 0))) (h2 : w.heap[b2]? = some (.cells #[v] t2 (0, 0))) : (results fn tmps).run Tryz.prog w = .ok (.tuple #[.agg #[a0, a1, a2, a3, a4], v]) w := by
  obtain ⟨c0, c1, c2, c3, c4, -⟩ := five h
  have d0 : w.cell? ⟨b2, 0, none⟩ = some v := cell_of h2 0
  simp [results, hres, ht, hv, go_sem, c0, c1, c2, c3, c4, d0]

theorem trim_none {l : List UInt8} {b : UInt8} {r : List UInt8} (e : l = b :: r) (c : UInt8) (h : b ≠ c) : Lib.trimLeftB l c = l := by
  subst e
  simp [Lib.trimLeftB, h]

set_option maxRecDepth 100000 in
set_option maxHeartbeats 8000000 in
theorem impl_outlined (T : RT) (hok : treeOk T = true) (hTs : T.brac.length ≤ 6000) (s : ByteArray) (hs : s.size ≤ 6000) (hne : ¬ s.size = 0) (hcut : ⟨(Lib.cut s.data.toList [10]).1.toArray⟩ = (⟨T.brac.toArray⟩ : ByteArray) ∧ ⟨(Lib.cut s.data.toList [10]).2.1.toArray⟩ = (⟨#[]⟩ : ByteArray)) (m : Int) (w : World) (hm : MaxL w m) :
    Calls Tryz.prog 22 #[.string s] w fun e w' => ∃ kx dx F, e = .returned (.tuple #[.agg #[.int .i64 T.k, .int .i64 T.n, .string T.s, kx, dx], .nilIface]) ∧ Lies w' T kx dx F ∧ Fresh w w' F ∧ Below w.heap.size w w' := by
  have hL := lone_of (treeOk_out hok).2 hTs
  have HEn := Lib.hid (fun (wx : World) (hx : MaxL wx m) => impl_entryOf _ hL m wx hx)
  have HTk := Lib.hid (fun (wx : World) (b : Nat) (h : Ob wx b true 0 0 ⟨#[]⟩ (.slice none 0 0) (.slice none 0 0)) => out_take T hok hTs b _ _ _ _ _ wx h)
  obtain ⟨b0, r0, eb, hb35, hb32, -, -⟩ := lone_head hL
  have HTr := Lib.hid (fun (wx : World) => Tryz.strings_TrimLeft_one ⟨T.brac.toArray⟩ 32 (by decide) wx)
  rw [trim_none eb 32 hb32] at HTr
  have HTO := Lib.hid (fun (wx : World) (kv dv : Value) (F : List Nat) (hl : Lies wx T kv dv F) => impl_treeOk T wx kv dv F hl)
  rw [hok] at HTO
  have hLsz := hL.size
  have hz1 : ((⟨T.brac.toArray⟩ : ByteArray).toList == []) = false := by rw [toList_of eb]; rfl
  have hz2 := list_size eb
  have hst := fun (n : Nat) (hn : 2 ≤ n) (W : World) (B : Nat) (hB : B < W.heap.size) (hx : MaxL W m) (hbox : W.cell? ⟨B, 0, none⟩ = some (.string s)) => lines_stops n hn s ⟨T.brac.toArray⟩ (by omega) hne hcut m B (fun _ _ => True) W hB hx hbox
  have hb0 : ∃ h : 0 < (⟨T.brac.toArray⟩ : ByteArray).size, (⟨T.brac.toArray⟩ : ByteArray)[0] = b0 := by
    refine ⟨by rw [hz2]; simp, ?_⟩
    have h1 : (⟨T.brac.toArray⟩ : ByteArray).data.toList[0]? = some b0 := by rw [eb]; rfl
    obtain ⟨h2, h3⟩ := List.getElem?_eq_some_iff.1 h1
    exact h3
  clear hL hok hTs hcut eb
  generalize (⟨T.brac.toArray⟩ : ByteArray) = line at *
  obtain ⟨hl0, hl1⟩ := hb0
  refine (callsIn_wide (n := 6)).1 ?_
  refine callsIn_of_wp_marks Tryz.func22 rfl trivial ?_ rfl
  simp only [Tryz.ntmps22, List.size_toArray, List.length_cons, List.length_nil, Nat.reduceAdd, Nat.reduceSub, Array.replicate_succ, Array.replicate_zero, List.push_toArray, List.append_toArray, List.nil_append, List.cons_append]
  gi_wp2
  refine ⟨trivial, ?_⟩
  refine (callsIn_wide.2 (impl_linesOf s _)).mono ?_
  rintro e w1 ⟨rfl, rfl⟩
  gi_wp2
  have H0 := five_blks w (.cells #[.int .i64 0, .int .i64 0, .string ⟨#[]⟩, .slice none 0 0, .slice none 0 0] 27) (.cells #[.nilIface] 39) (.cells #[.slice none 0 0, .bool true, .int .i64 0, .int .i64 0, .int .i64 0, .string ⟨#[]⟩, .slice none 0 0, .slice none 0 0] 82) (.cells #[.int .i64 0] 3) (.cells #[.string s] 9)
  generalize ((((w.alloc (.cells #[.int .i64 0, .int .i64 0, .string ⟨#[]⟩, .slice none 0 0, .slice none 0 0] 27)).alloc (.cells #[.nilIface] 39)).alloc (.cells #[.slice none 0 0, .bool true, .int .i64 0, .int .i64 0, .int .i64 0, .string ⟨#[]⟩, .slice none 0 0, .slice none 0 0] 82)).alloc (.cells #[.int .i64 0] 3)).alloc (.cells #[.string s] 9) = W0 at *
  obtain ⟨e0, e1, e2, e3, e4, esz, ebl⟩ := H0
  have hmW : MaxL W0 m := hm.stay ebl hm.lt
  refine wpIn_rangeFunc_ownF rfl (by omega) (gf := 79) (lb := #[.pointer (some ⟨w.heap.size + 1 + 1 + 1 + 1, 0, none⟩)]) rfl trivial (enters_of Tryz.func79 (by kernel_rfl) rfl)
    (hst 5 (by omega) W0 (w.heap.size + 1 + 1 + 1 + 1) (by omega) hmW (cell_of e4 0)) (fun _ _ => trivial) (fun _ _ _ _ _ _ _ _ => trivial) (Below.refl _ _) (fun _ => rfl)
    (OI w T m) (fun _ _ _ => False) (by rw [esz]; exact oi_own w T m) (fun _ _ _ _ _ hs _ _ => hs)
    ⟨e0, e1, ⟨0, e3⟩, hmW, ebl, .inl ⟨rfl, e2⟩⟩
    (fun _ => { tmps := #[.string s, undef, .pointer (some ⟨w.heap.size, 0, none⟩), .pointer (some ⟨w.heap.size + 1, 0, none⟩), .pointer (some ⟨w.heap.size + 1 + 1, 0, none⟩), .pointer (some ⟨w.heap.size + 1 + 1 + 1, 0, none⟩), .int .i64 0, .string line, undef, .agg #[.slice none 0 0, .bool true, .int .i64 0, .int .i64 0, .int .i64 0, .string ⟨#[]⟩, .slice none 0 0, .slice none 0 0], .string s, .func (.func 79) #[] #[.pointer (some ⟨w.heap.size + 1 + 1 + 1 + 1, 0, none⟩)], .int .i64 0, .string line, undef, undef, undef, undef, undef, undef, undef, undef, undef, undef, undef, undef, undef, undef, undef, undef, undef, undef, undef, undef, undef, undef, undef, undef, undef, undef, undef, undef, undef, undef, undef, undef, undef, undef, undef, undef, undef, undef, undef, undef, undef, undef, undef, undef, undef, undef, undef, undef, undef], defers := [] }) ?assign ?body ?done ?stop
  case assign =>
    intro l x W K hK
    simp only [encL]
    gi_wp2
    exact hK
  case body =>
    rintro l pre ⟨⟩ W hI hlen
    obtain rfl : pre = [] := List.length_eq_zero_iff.1 (by omega)
    have hO : Ob W (w.heap.size + 1 + 1) true 0 0 ⟨#[]⟩ (.slice none 0 0) (.slice none 0 0) := by
      rcases hI.st with ⟨-, h⟩ | ⟨e, -⟩
      · exact h
      · cases e
    obtain ⟨v, hv⟩ := hI.lines
    have ln0 := cell_of hv 0
    have ln1 : W.frozen? ⟨w.heap.size + 1 + 1 + 1, 0, none⟩ = false := by simp [World.frozen?, hv]
    simp only [List.getElem?_toArray, List.getElem?_cons_zero] at ln0
    clear hst
    gi_wp2
    refine ⟨trivial, ?_⟩
    refine (CallsIn.inRound l (callsIn_wide.2 (HTr.out _))).mono ?_
    rintro e w2 ⟨rfl, e2⟩
    subst w2
    have hq : ((b0.toNat : Int) == 35) = false := by simpa using u8_int_ne hb35
    gi_wp2
    refine ⟨trivial, ?_⟩
    have HI1 := Lib.hid (oi_line hI hm.lt 1)
    refine (CallsIn.inRound l (callsIn_wide.2 (HEn.out _ HI1.out.max))).mono ?_
    rintro e w3 ⟨rfl, hb3⟩
    have HI3 := Lib.hid (oi_below HI1.out hb3)
    have HO3 : Hid (Ob w3 (w.heap.size + 1 + 1) true 0 0 ⟨#[]⟩ (.slice none 0 0) (.slice none 0 0)) := by
      rcases HI3.out.st with ⟨-, h⟩ | ⟨e, -⟩
      · exact h
      · cases e
    have HKp : Hid (KeepsOthers W w3) := (KeepsOthers.setCell _ _ _).trans (KeepsOthers.of_grownBy (grw_below (r := none) hb3) (fun j o e => by cases e))
    clear hb3 HI1 ln0 ln1 hO hv
    gi_wp2
    refine ⟨trivial, ?_⟩
    refine (CallsIn.inRound l (callsIn_wide.2 (HTk.out _ _ HO3.out))).mono ?_
    rintro e w4 ⟨rfl, kx, dx, F, hO4, hl4, hf4, hg4⟩
    have HK4 : Hid (KeepsOthers W w4) := HKp.out.trans (KeepsOthers.of_grownBy hg4 (fun j o e ho => by
      injection e with e
      subst e
      have h1 : w3.heap[w.heap.size + 1 + 1]? = _ := HO3.out
      rw [h1] at ho
      injection ho with ho
      subst ho
      rfl))
    have HI4 := Lib.hid (oi_take HI3.out hm.lt hg4 hO4 hl4 hf4)
    clear hO4 hl4 hf4 hg4 HKp HI3 HO3
    gi_wp2
    exact ⟨HK4.out, trivial, HI4.out⟩
  case done =>
    rintro D ys W hD rfl hI hK
    obtain ⟨kx, dx, F, hO, hl, hf, hfar⟩ : ∃ kx dx F, Ob W (w.heap.size + 1 + 1) false T.k T.n T.s kx dx ∧ Lies W T kx dx F ∧ Fresh w W F ∧ ∀ y ∈ F, w.heap.size + 4 ≤ y := by
      rcases hI.st with ⟨e, -⟩ | ⟨-, h⟩
      · cases e
      · exact h
    obtain ⟨⟨o1, c1, rfl⟩, ⟨o2, c2, rfl⟩⟩ := hl.slices
    obtain ⟨x0, x1, x2, x3, x4, x5, x6, x7, x8⟩ := hO.eight
    have hs' : ¬ (6000 : Int) < (s.size : Int) := by omega
    clear hst
    gi_wp2
    refine ⟨trivial, ?_⟩
    refine (callsIn_wide.2 (out_shut _ _ _ _ _ _ _ _ hO)).mono ?_
    rintro e w5 ⟨⟨v5, rfl⟩, hb5⟩
    have HO5 := Lib.hid (hO.next hb5)
    have HL5 := Lib.hid (hl.stay hb5 (Nat.le_refl _))
    have hf5 : Fresh w w5 F := hf.carry fun y hy => hb5.block y (hl.lt y hy)
    have hr5 := blk_nextR hI.res hb5
    have he5 := blk_nextR hI.err hb5
    have hK5 := blk_nextR hK hb5
    have hB5 : Below w.heap.size w w5 := hI.below.trans (hb5.mono hI.below.size)
    clear x0 x1 x2 x3 x4 x5 x6 x7 x8 hO hl hf hI hK hb5
    obtain ⟨x0, x1, x2, x3, x4, x5, x6, x7, x8⟩ := HO5.out.eight
    gi_wp2
    refine ⟨trivial, ?_⟩
    refine (callsIn_wide.2 (HTO.out _ _ _ _ HL5.out)).mono ?_
    rintro e w6 ⟨rfl, hb6⟩
    have HO6 := Lib.hid (HO5.out.next hb6)
    have HL6 := Lib.hid (HL5.out.stay hb6 (Nat.le_refl _))
    have hf6 : Fresh w w6 F := hf5.carry fun y hy => hb6.block y (HL5.out.lt y hy)
    have hr6 := blk_nextR hr5 hb6
    have he6 := blk_nextR he5 hb6
    have hK6 := blk_nextR hK5 hb6
    have hB6 : Below w.heap.size w w6 := hB5.trans (hb6.mono hB5.size)
    clear x0 x1 x2 x3 x4 x5 x6 x7 x8 hr5 he5 hK5 hf5 hB5 hb6 HO5 HL5
    obtain ⟨x0, x1, x2, x3, x4, x5, x6, x7, x8⟩ := HO6.out.eight
    obtain ⟨z0, z1, z2, z3, z4, z5⟩ := five hr6
    have q0 := cell_of he6 0
    have q1 : w6.frozen? ⟨w.heap.size + 1, 0, none⟩ = false := by simp [World.frozen?, he6]
    simp only [List.getElem?_toArray, List.getElem?_cons_zero] at q0
    gi_wp2
    have hD5 : w.heap.size + 5 ≤ D := by rw [← esz]; exact hD
    have hFD : ∀ y ∈ F, y ≠ D := fun y hy e => by
      obtain ⟨cs, t, fr, ho⟩ := lies_cells T w6 _ _ _ HL6.out y hy
      rw [e, hK6] at ho
      injection ho with ho
      cases ho
    have hKf : ((set5 w6 w.heap.size 0 (.int .i64 T.k) (.int .i64 T.n) (.string T.s) (.slice o1 T.keys.length c1) (.slice o2 T.kids.length c2)).setCell ⟨w.heap.size + 1, 0, none⟩ .nilIface).heap[D]? = some (.deferred (some [])) := by
      rw [Below.heap_setCell _ _ _ _ (by show D ≠ w.heap.size + 1; omega), set5_other _ _ _ _ _ _ _ _ _ (by omega)]
      exact hK6
    refine ⟨by simp, .inl ⟨_, _, rfl, run_takeDeferred hKf, ?_⟩⟩
    have keep : ∀ y, y ≠ D → (((set5 w6 w.heap.size 0 (.int .i64 T.k) (.int .i64 T.n) (.string T.s) (.slice o1 T.keys.length c1) (.slice o2 T.kids.length c2)).setCell ⟨w.heap.size + 1, 0, none⟩ .nilIface).putObj D (.deferred none)).heap[y]? = ((set5 w6 w.heap.size 0 (.int .i64 T.k) (.int .i64 T.n) (.string T.s) (.slice o1 T.keys.length c1) (.slice o2 T.kids.length c2)).setCell ⟨w.heap.size + 1, 0, none⟩ .nilIface).heap[y]? := fun y hy => World.putObj_heap_other (fun e => hy e)
    have keepF : ∀ y ∈ F, (((set5 w6 w.heap.size 0 (.int .i64 T.k) (.int .i64 T.n) (.string T.s) (.slice o1 T.keys.length c1) (.slice o2 T.kids.length c2)).setCell ⟨w.heap.size + 1, 0, none⟩ .nilIface).putObj D (.deferred none)).heap[y]? = w6.heap[y]? := fun y hy => by
      have h4 := hfar y hy
      rw [keep y (hFD y hy), Below.heap_setCell _ _ _ _ (by show y ≠ w.heap.size + 1; omega), set5_other _ _ _ _ _ _ _ _ _ (by omega)]
    have hB7 : Below w.heap.size w ((set5 w6 w.heap.size 0 (.int .i64 T.k) (.int .i64 T.n) (.string T.s) (.slice o1 T.keys.length c1) (.slice o2 T.kids.length c2)).setCell ⟨w.heap.size + 1, 0, none⟩ .nilIface) := (set5_below hB6 (Nat.le_refl _) _ _ _ _ _ _).setCell (p := ⟨w.heap.size + 1, 0, none⟩) (by show w.heap.size ≤ w.heap.size + 1; omega) _
    refine ⟨_, ret_node_err Tryz.results22 rfl rfl ((keep _ (by omega)).trans ((Below.heap_setCell _ _ _ _ (by show w.heap.size ≠ w.heap.size + 1; omega)).trans (set5_end hr6 _ _ _ _ _))) ((keep _ (by omega)).trans (heap_set ((set5_other _ _ _ _ _ _ _ _ _ (by omega)).trans he6) 0 _)), _, _, F, rfl, HL6.out.carry keepF, hf6.carry keepF, hB7.trans (belowK_b (w := w) (Nat.le_refl _) _ D _ _ (by omega) hKf rfl rfl)⟩
  case stop =>
    rintro D c pre W _ _ h _
    exact h.elim

set_option maxRecDepth 100000 in
set_option maxHeartbeats 2000000 in
theorem impl_outline (T : RT) (hok : treeOk T = true) (hTs : T.brac.length ≤ 6000) (s : ByteArray) (hs : s.size ≤ 6000) (hne : ¬ s.size = 0) (hcut : ⟨(Lib.cut s.data.toList [10]).1.toArray⟩ = (⟨T.brac.toArray⟩ : ByteArray) ∧ ⟨(Lib.cut s.data.toList [10]).2.1.toArray⟩ = (⟨#[]⟩ : ByteArray)) (m : Int) (w : World) (hm : MaxL w m) :
    Calls Tryz.prog 9 #[.string s] w fun e w' => ∃ kx dx F, e = .returned (.tuple #[.agg #[.int .i64 T.k, .int .i64 T.n, .string T.s, kx, dx], .int .i64 (-1)]) ∧ Lies w' T kx dx F ∧ Fresh w w' F ∧ Below w.heap.size w w' := by
  have HTr := Lib.hid (fun (wx : World) (hx : MaxL wx m) => impl_outlined T hok hTs s hs hne hcut m wx hx)
  have hb0 := (Below.refl _ w).alloc (Nat.le_refl _) (.cells #[.int .i64 0, .int .i64 0, .string ⟨#[]⟩, .slice none 0 0, .slice none 0 0] 27)
  have HM := Lib.hid (hm.stay hb0 hm.lt)
  clear hok hTs hs hne hcut hm
  have HZ := Lib.hid (And.intro (heap_last w (.cells #[.int .i64 0, .int .i64 0, .string ⟨#[]⟩, .slice none 0 0, .slice none 0 0] 27)) hb0)
  clear hb0
  go_enter Tryz.func9, Tryz.ntmps9
  go_wp2_with fail
  refine (HTr.out _ HM.out).mono ?_
  rintro e w1 ⟨kx, dx, F, rfl, hl, hf, hb⟩
  obtain ⟨⟨o1, c1, rfl⟩, ⟨o2, c2, rfl⟩⟩ := hl.slices
  go_wp2_with fail
  refine (impl_placed _ _ _ _ _ _ _ _ _ _).mono ?_
  rintro e w2 ⟨rfl, hb2⟩
  have hb12 := hb.trans (hb2.mono hb.size)
  have hz2 := blk_nextR HZ.out.1 hb12
  have HF : Hid (Lies w2 T (.slice o1 T.keys.length c1) (.slice o2 T.kids.length c2) F ∧ Fresh w w2 F ∧ (∀ y ∈ F, y ≠ w.heap.size) ∧ Below w.heap.size w w2) := ⟨hl.stay hb2 (Nat.le_refl _), (hf.carry fun y hy => hb2.block y (hl.lt y hy)).earlier (by simp), fun y hy e => by have := hf.old y hy; simp at this; omega, HZ.out.2.trans (hb12.mono HZ.out.2.size)⟩
  have HZ2 := Lib.hid hz2
  obtain ⟨z0, z1, z2, z3, z4, z5⟩ := five hz2
  clear hl hf hb hb2 hb12 hz2
  go_wp2_with fail
  have keep : ∀ y ∈ F, (set5 w2 w.heap.size 0 (.int .i64 T.k) (.int .i64 T.n) (.string T.s) (.slice o1 T.keys.length c1) (.slice o2 T.kids.length c2)).heap[y]? = w2.heap[y]? := fun y hy => set5_other _ _ _ _ _ _ _ _ _ (HF.out.2.2.1 y hy)
  exact bodyPost_ret (ret_node2 Tryz.results9 rfl rfl (set5_end HZ2.out _ _ _ _ _)) rfl ⟨_, _, F, rfl, HF.out.1.carry keep, HF.out.2.1.carry keep, set5_below HF.out.2.2.2 (Nat.le_refl _) _ _ _ _ _ _⟩
end Go.Proofs.YtmcjghhmcmkomaaGreatDoor

/- plain facts on a block that a function laid, in every later world that has all earlier blocks as they were. -/
namespace Go.Proofs.YtmcjghhmcmkomaaGreatDoor
open Go Go.RowKit

/-- All that lay in w0 lies in wr; the block B bears these cells. -/
structure Bx (w0 wr : World) (B : Nat) (cs : Array Value) (t : TypeId) : Prop where
  below : Below w0.heap.size w0 wr
  blk : wr.heap[B]? = some (.cells cs t (0, 0))

theorem Bx.start (w : World) (cs : Array Value) (t : TypeId) : Bx w (w.alloc (.cells cs t)) w.heap.size cs t :=
  ⟨(Below.refl _ w).alloc (Nat.le_refl _) _, by show (w.heap.push _)[w.heap.size]? = _; simp⟩

theorem Bx.next {w0 wr w1 : World} {B : Nat} {cs : Array Value} {t : TypeId} (h : Bx w0 wr B cs t) (hb : Below wr.heap.size wr w1) : Bx w0 w1 B cs t :=
  ⟨h.below.trans (hb.mono h.below.size), (hb.block _ (Array.getElem?_eq_some_iff.1 h.blk).1).trans h.blk⟩

theorem Bx.cell {w0 wr : World} {B : Nat} {cs : Array Value} {t : TypeId} (h : Bx w0 wr B cs t) (o : Nat) : wr.cell? ⟨B, o, none⟩ = cs[o]? := by
  simp [World.cell?, h.blk]

/-- A further block. -/
theorem Bx.add {w0 wr : World} {B : Nat} {cs : Array Value} {t : TypeId} (h : Bx w0 wr B cs t) (cs' : Array Value) (t' : TypeId) : Bx w0 (wr.alloc (.cells cs' t')) wr.heap.size cs' t' :=
  ⟨h.below.trans (((Below.refl _ wr).alloc (Nat.le_refl _) _).mono h.below.size), by show (wr.heap.push _)[wr.heap.size]? = _; simp⟩

theorem Bx.alloc {w0 wr : World} {B : Nat} {cs : Array Value} {t : TypeId} (h : Bx w0 wr B cs t) (o : Obj) : Bx w0 (wr.alloc o) B cs t :=
  h.next ((Below.refl _ wr).alloc (Nat.le_refl _) _)

theorem Bx.drew {w0 wr : World} {B : Nat} {cs : Array Value} {t : TypeId} (h : Bx w0 wr B cs t) (n : Nat) : Bx w0 (wr.drewN n) B cs t :=
  h.next ((Below.refl _ wr).trans ⟨rfl, rfl, rfl, Nat.le_refl _, fun _ _ => rfl⟩)
end Go.Proofs.YtmcjghhmcmkomaaGreatDoor

/- plain facts on where a law stands that holds what a function answered against what is wanted, marks it, and looks whether the marks are held. -/
namespace Go.Proofs.YtmcjghhmcmkomaaGreatDoor
open Go Go.RowKit

mutual
theorem cnt_sz : (T : RT) → T.cnt ≤ 3 * T.sz
  | .node _ _ _ keys kids => by
    have := cntAll_sz kids
    rw [RT.cnt, RT.sz]
    omega
theorem cntAll_sz : (l : List RT) → cntAll l ≤ 3 * (l.length + szAll l)
  | [] => by simp [cntAll]
  | t :: l => by
    have h1 := cnt_sz t
    have h2 := cntAll_sz l
    simp only [cntAll, szAll, List.length_cons]
    omega
end

theorem below_but {w wr w1 : World} {G : List Nat} (h : Below w.heap.size w wr) (hb : But G wr w1) (hG : ∀ x ∈ G, w.heap.size ≤ x) : Below w.heap.size w w1 :=
  ⟨hb.os.trans h.os, hb.tape.trans h.tape, hb.output.trans h.output, Nat.le_trans h.size hb.size, fun k hk => (hb.block k (Nat.lt_of_lt_of_le hk h.size) (fun hx => by have := hG k hx; omega)).trans (h.block k hk)⟩

theorem bx_but {w0 wr w1 : World} {B : Nat} {cs : Array Value} {t : TypeId} {G : List Nat} (h : Bx w0 wr B cs t) (hb : But G wr w1) (hB : B ∉ G) (hG : ∀ x ∈ G, w0.heap.size ≤ x) : Bx w0 w1 B cs t :=
  ⟨below_but h.below hb hG, (hb.block B (Array.getElem?_eq_some_iff.1 h.blk).1 hB).trans h.blk⟩

/-- What is wanted lies behind block Bw, what was answered behind block Bg, each in its own memory. -/
structure GState (w wr : World) (T TG : RT) (kW vW kG vG : Value) (Bw Bg : Nat) (FW FG : List Nat) : Prop where
  below : Below w.heap.size w wr
  boxW : wr.heap[Bw]? = some (.cells #[.int .i64 T.k, .int .i64 T.n, .string T.s, kW, vW] 27 (0, 0))
  boxG : wr.heap[Bg]? = some (.cells #[.int .i64 T.k, .int .i64 T.n, .string T.s, kG, vG] 27 (0, 0))
  lieW : Lies wr T kW vW FW
  lieG : Lies wr TG kG vG FG
  nodup : FG.Nodup
  free : ∀ b ∈ FG, ∀ o, wr.frozen? ⟨b, o, none⟩ = false
  apart : Bw ∉ FG ∧ Bg ∉ FG ∧ ∀ x ∈ FW, x ∉ FG
  old : ∀ x ∈ FG, w.heap.size ≤ x

section
variable {w wr w1 : World} {T TG : RT} {kW vW kG vG : Value} {Bw Bg : Nat} {FW FG G : List Nat}

theorem GState.ltW (h : GState w wr T TG kW vW kG vG Bw Bg FW FG) : Bw < wr.heap.size := (Array.getElem?_eq_some_iff.1 h.boxW).1
theorem GState.ltG (h : GState w wr T TG kW vW kG vG Bw Bg FW FG) : Bg < wr.heap.size := (Array.getElem?_eq_some_iff.1 h.boxG).1

theorem GState.next (h : GState w wr T TG kW vW kG vG Bw Bg FW FG) (hb : Below wr.heap.size wr w1) : GState w w1 T TG kW vW kG vG Bw Bg FW FG :=
  ⟨h.below.trans (hb.mono h.below.size), (hb.block _ h.ltW).trans h.boxW, (hb.block _ h.ltG).trans h.boxG, h.lieW.stay hb (Nat.le_refl _), h.lieG.stay hb (Nat.le_refl _), h.nodup,
    fun b hbF o => (hb.frozen (by exact h.lieG.lt b hbF)).trans (h.free b hbF o), h.apart, h.old⟩

/-- Something else has been written: neither of the two. -/
theorem GState.but (h : GState w wr T TG kW vW kG vG Bw Bg FW FG) (hb : But G wr w1) (hW : Bw ∉ G) (hG : Bg ∉ G) (hFW : ∀ x ∈ FW, x ∉ G) (hFG : ∀ x ∈ FG, x ∉ G) (hold : ∀ x ∈ G, w.heap.size ≤ x) : GState w w1 T TG kW vW kG vG Bw Bg FW FG :=
  ⟨below_but h.below hb hold, (hb.block _ h.ltW hW).trans h.boxW, (hb.block _ h.ltG hG).trans h.boxG, h.lieW.but hb hFW, h.lieG.but hb hFG, h.nodup, fun b hbF o => (hb.free b (h.lieG.lt b hbF) o).trans (h.free b hbF o), h.apart, h.old⟩

/-- What was answered has been marked. -/
theorem GState.mark (h : GState w wr T TG kW vW kG vG Bw Bg FW FG) (hb : But FG wr w1) {TM : RT} (hl : Lies w1 TM kG vG FG) : GState w w1 T TM kW vW kG vG Bw Bg FW FG :=
  ⟨below_but h.below hb h.old, (hb.block _ h.ltW h.apart.1).trans h.boxW, (hb.block _ h.ltG h.apart.2.1).trans h.boxG, h.lieW.but hb h.apart.2.2, hl, h.nodup, fun b hbF o => (hb.free b (h.lieG.lt b hbF) o).trans (h.free b hbF o), h.apart, h.old⟩
end
end Go.Proofs.YtmcjghhmcmkomaaGreatDoor

/- how great a map is once a key has been set in it. -/
namespace Go.Proofs.YtmcjghhmcmkomaaGreatDoor
open Go Go.RowKit

theorem cntAll_append (a b : List RT) : cntAll (a ++ b) = cntAll a + cntAll b := by
  induction a with
  | nil => simp [cntAll]
  | cons t l ih => simp only [List.cons_append, cntAll, ih]; omega

theorem szAll_append (a b : List RT) : szAll (a ++ b) = szAll a + szAll b := by
  induction a with
  | nil => simp [szAll]
  | cons t l ih => simp only [List.cons_append, szAll, ih]; omega

theorem strSz_append (a b : List ByteArray) : strSz (a ++ b) = strSz a + strSz b := by
  induction a with
  | nil => simp [strSz]
  | cons t l ih => simp only [strSz, List.cons_append, List.map_cons, List.sum_cons] at ih ⊢; omega

theorem cntAll_set (X : RT) : (l : List RT) → (i : Nat) → cntAll (l.set i X) ≤ cntAll l + 3 + X.cnt
  | [], _ => by simp [cntAll]
  | t :: l, 0 => by simp only [List.set_cons_zero, cntAll]; omega
  | t :: l, i + 1 => by
    have := cntAll_set X l i
    simp only [List.set_cons_succ, cntAll]; omega

theorem szAll_set (X : RT) : (l : List RT) → (i : Nat) → szAll (l.set i X) ≤ szAll l + X.sz
  | [], _ => by simp [szAll]
  | t :: l, 0 => by simp only [List.set_cons_zero, szAll]; omega
  | t :: l, i + 1 => by
    have := szAll_set X l i
    simp only [List.set_cons_succ, szAll]; omega

theorem setT_cnt (T X : RT) (key : ByteArray) : (setT T key X).cnt ≤ T.cnt + X.cnt + 4 := by
  obtain ⟨k, n, s, keys, kids⟩ := T
  unfold setT
  split
  · rename_i hm
    split
    · have := cntAll_set X kids (firstN keys key)
      simp only [RT.cnt, RT.kids, RT.keys]
      omega
    · have e := cntAll_append (kids.take (placeN keys key)) (kids.drop (placeN keys key))
      rw [List.take_append_drop] at e
      have hl := insAt_length key (placeN_le keys key)
      simp only [RT.cnt, RT.kids, RT.keys, hl]
      simp only [insAt, cntAll_append, cntAll]
      omega
  · omega

theorem setT_sz (T X : RT) (key : ByteArray) : (setT T key X).sz ≤ T.sz + X.sz + key.size + 2 := by
  obtain ⟨k, n, s, keys, kids⟩ := T
  unfold setT
  split
  · rename_i hm
    have hlen : keys.length = kids.length := hm.2
    split
    · have := szAll_set X kids (firstN keys key)
      simp only [RT.sz, RT.kids, RT.keys, RT.s, List.length_set]
      omega
    · have e := szAll_append (kids.take (placeN keys key)) (kids.drop (placeN keys key))
      rw [List.take_append_drop] at e
      have e2 := strSz_append (keys.take (placeN keys key)) (keys.drop (placeN keys key))
      rw [List.take_append_drop] at e2
      have hl := insAt_length key (placeN_le keys key)
      have hl2 := insAt_length (l := kids) X (show placeN keys key ≤ kids.length by have := placeN_le keys key; omega)
      simp only [RT.sz, RT.kids, RT.keys, RT.s, hl, hl2]
      have e3 : strSz (key :: keys.drop (placeN keys key)) = key.size + strSz (keys.drop (placeN keys key)) := by simp [strSz]
      simp only [insAt, szAll_append, strSz_append, szAll, e3]
      omega
  · omega
end Go.Proofs.YtmcjghhmcmkomaaGreatDoor

/- plain facts on a measure of a tree that is not less than its room and not less than what a right tree is written as in braces. -/
namespace Go.Proofs.YtmcjghhmcmkomaaGreatDoor
open Go Go.RowKit

mutual
/-- A measure: 21 for a node, its bytes twice, its keys' bytes twice and 4 more, 1 for a kid. -/
def RT.wz : RT → Nat
  | .node _ _ s keys kids => 21 + 2 * s.size + (4 * keys.length + 2 * strSz keys) + (kids.length + wzAll kids)
def wzAll : List RT → Nat
  | [] => 0
  | t :: ts => t.wz + wzAll ts
end

theorem wz_sz (T : RT) : T.sz ≤ T.wz := by
  induction T using RT.ind with
  | h k n s keys kids ih =>
    have h : ∀ l : List RT, (∀ t ∈ l, t.sz ≤ t.wz) → szAll l ≤ wzAll l := by
      intro l hl
      induction l with
      | nil => simp [szAll]
      | cons t l ihl =>
        have h1 := hl t (by simp)
        have h2 := ihl (fun x hx => hl x (by simp [hx]))
        simp only [szAll, wzAll]
        omega
    have := h kids ih
    simp only [RT.wz, RT.sz]
    omega

theorem wzAll_append (a b : List RT) : wzAll (a ++ b) = wzAll a + wzAll b := by
  induction a with
  | nil => simp [wzAll]
  | cons t l ih => simp only [List.cons_append, wzAll, ih]; omega

theorem wzAll_set (X : RT) : (l : List RT) → (i : Nat) → wzAll (l.set i X) ≤ wzAll l + X.wz
  | [], _ => by simp [wzAll]
  | t :: l, 0 => by simp only [List.set_cons_zero, wzAll]; omega
  | t :: l, i + 1 => by
    have := wzAll_set X l i
    simp only [List.set_cons_succ, wzAll]; omega

theorem wzAll_put (X : RT) : (l : List RT) → (i : Nat) → (h : i < l.length) → wzAll (l.set i X) + l[i].wz = wzAll l + X.wz
  | [], _, h => by simp at h
  | t :: l, 0, _ => by simp only [List.set_cons_zero, wzAll, List.getElem_cons_zero]; omega
  | t :: l, i + 1, h => by
    have := wzAll_put X l i (by simpa using h)
    simp only [List.set_cons_succ, wzAll, List.getElem_cons_succ]; omega

theorem setT_wz (T X : RT) (key : ByteArray) : (setT T key X).wz ≤ T.wz + X.wz + 2 * key.size + 5 := by
  obtain ⟨k, n, s, keys, kids⟩ := T
  unfold setT
  split
  · rename_i hm
    have hlen : keys.length = kids.length := hm.2
    split
    · have := wzAll_set X kids (firstN keys key)
      simp only [RT.wz, RT.kids, RT.keys, RT.s, List.length_set]
      omega
    · have e := wzAll_append (kids.take (placeN keys key)) (kids.drop (placeN keys key))
      rw [List.take_append_drop] at e
      have e2 := strSz_append (keys.take (placeN keys key)) (keys.drop (placeN keys key))
      rw [List.take_append_drop] at e2
      have hl := insAt_length key (placeN_le keys key)
      have hl2 := insAt_length (l := kids) X (show placeN keys key ≤ kids.length by have := placeN_le keys key; omega)
      simp only [RT.wz, RT.kids, RT.keys, RT.s, hl, hl2]
      have e3 : strSz (key :: keys.drop (placeN keys key)) = key.size + strSz (keys.drop (placeN keys key)) := by simp [strSz]
      simp only [insAt, wzAll_append, strSz_append, wzAll, e3]
      omega
  · omega

theorem wzAll_mem : (l : List RT) → (t : RT) → t ∈ l → t.wz ≤ wzAll l
  | [], _, h => absurd h (by simp)
  | x :: l, t, h => by
    rcases List.mem_cons.1 h with e | e
    · rw [e, wzAll]; omega
    · have := wzAll_mem l t e
      rw [wzAll]; omega

theorem kid_wz (N : RT) (i : Nat) (hi : i < N.kids.length) : N.kids[i].wz ≤ N.wz := by
  obtain ⟨k, n, s, keys, kids⟩ := N
  have h : kids[i].wz ≤ wzAll kids := wzAll_mem kids _ (List.getElem_mem hi)
  simp only [RT.wz, RT.kids] at h ⊢
  omega

/-- A kid is turned into another. -/
theorem kids_wz (N X : RT) (i : Nat) (hi : i < N.kids.length) : (RT.node N.k N.n N.s N.keys (N.kids.set i X)).wz + N.kids[i].wz = N.wz + X.wz := by
  obtain ⟨k, n, s, keys, kids⟩ := N
  have := wzAll_put X kids i hi
  simp only [RT.wz, RT.kids, RT.keys, RT.s, List.length_set]
  omega
end Go.Proofs.YtmcjghhmcmkomaaGreatDoor

/- plain facts: a text without a line's end, alone or with one behind it, is one line; how long a right tree's braced text is at most. -/
namespace Go.Proofs.YtmcjghhmcmkomaaGreatDoor
open Go Go.RowKit

theorem noOcc_ten {l : List UInt8} (h : ∀ b ∈ l, b ≠ 10) (j : Nat) : Lib.occAt l [10] j = false := by
  unfold Lib.occAt
  cases e : l.drop j with
  | nil => rfl
  | cons b r =>
    have hb : b ∈ l := List.mem_of_mem_drop (by rw [e]; exact List.mem_cons_self ..)
    have := h b hb
    simp [List.isPrefixOf, Ne.symm this]

/-- The braced text, alone or with an end of its line, is one line. -/
theorem cut_one {l : List UInt8} (h : ∀ b ∈ l, b ≠ 10) : Lib.cut l [10] = (l, [], false) ∧ Lib.cut (l ++ [10]) [10] = (l, [], true) := by
  have h1 : Lib.index l [10] = -1 := Lib.index_none fun j _ => noOcc_ten h j
  have h2 : Lib.index (l ++ [10]) [10] = l.length := Lib.index_first (by simp) (by unfold Lib.occAt; simp) fun j hj => by
    have hz := noOcc_ten h j
    unfold Lib.occAt at hz ⊢
    rw [List.drop_append_of_le_length (by omega)]
    cases e : l.drop j with
    | nil => have := congrArg List.length e; simp at this; omega
    | cons b r => rw [e] at hz; simpa [List.isPrefixOf] using hz
  constructor
  · unfold Lib.cut; rw [h1]; rfl
  · unfold Lib.cut; rw [h2, if_pos (by omega)]; simp

theorem quoteT_two (s : ByteArray) : (quoteT s).data.toList.length ≤ 2 + 2 * s.size := by
  unfold quoteT
  split
  · have h2 := escAll_length s.data.toList
    have h3 : s.data.toList.length = s.size := by simp
    simp only [quoteL, List.length_append, List.length_cons, List.length_nil]
    omega
  · simp

theorem list_wz : (kids : List RT) → (∀ t ∈ kids, t.brac.length ≤ t.wz) → (Lib.joinTail [44] (bracAll kids)).length ≤ wzAll kids + kids.length
  | [], _ => by simp [bracAll, Lib.joinTail]
  | t :: kids, h => by
    have h1 := h t (by simp)
    have h2 := list_wz kids (fun x hx => h x (by simp [hx]))
    rw [Lib.joinTail_length] at h2 ⊢
    simp only [bracAll, Lib.lens, List.map_cons, List.sum_cons, List.length_cons, List.length_nil, wzAll, Nat.mul_add] at h2 ⊢
    omega

theorem map_wz : (keys : List ByteArray) → (kids : List RT) → keys.length = kids.length → (∀ t ∈ kids, t.brac.length ≤ t.wz) → (Lib.joinTail [44] (List.zipWith keyed keys (bracAll kids))).length ≤ wzAll kids + 4 * keys.length + 2 * strSz keys
  | [], [], _, _ => by simp [bracAll, Lib.joinTail]
  | [], _ :: _, h, _ => by simp at h
  | _ :: _, [], h, _ => by simp at h
  | key :: keys, t :: kids, hl, h => by
    have h1 := h t (by simp)
    have h2 := map_wz keys kids (by simpa using hl) (fun x hx => h x (by simp [hx]))
    have h3 := quoteT_two key
    have h4 : strSz (key :: keys) = key.size + strSz keys := by simp [strSz]
    have h5 : (keyed key t.brac).length = (quoteT key).data.toList.length + (1 + t.brac.length) := by simp [keyed]; omega
    rw [Lib.joinTail_length] at h2 ⊢
    simp only [bracAll, List.zipWith_cons_cons, Lib.lens, List.map_cons, List.sum_cons, List.length_cons, List.length_nil, wzAll, Nat.mul_add, h4] at h2 ⊢
    omega

/-- A right tree's braced text is not longer than its measure. -/
theorem brac_wz (T : RT) : T.right = true → T.brac.length ≤ T.wz := by
  induction T using RT.ind with
  | h k n s keys kids ih =>
    intro hr
    obtain ⟨hh, hk⟩ := right_out hr
    have hi : ∀ t ∈ kids, t.brac.length ≤ t.wz := fun t ht => by
      obtain ⟨i, hi, rfl⟩ := List.getElem_of_mem ht
      exact ih _ (List.getElem_mem hi) (hk i hi)
    have hw : (RT.node k n s keys kids).wz = 21 + 2 * s.size + (4 * keys.length + 2 * strSz keys) + (kids.length + wzAll kids) := rfl
    rw [hw]
    simp only [HeadOk, RT.k, RT.n, RT.s, RT.keys, RT.kids] at hh
    rcases hh with ⟨rfl, h⟩ | ⟨rfl, h⟩ | ⟨rfl, h, -⟩ | ⟨rfl, h⟩ | ⟨rfl, h⟩ | ⟨rfl, h, h2, h3, h4⟩
    · rw [brac0]; simp; omega
    · rw [brac1]; split <;> simp <;> omega
    · rw [brac2]
      have := Num.itoa_length n (by omega) (by omega)
      omega
    · rw [brac3]
      have := quoteT_two s
      omega
    · have h1 := list_wz kids hi
      have h2 := join_le_tail (bracAll kids)
      rw [brac4]
      simp only [partsOf, if_pos, List.length_append, List.length_cons, List.length_nil]
      omega
    · have h5 := map_wz keys kids h3 hi
      have h6 := join_le_tail (List.zipWith keyed keys (bracAll kids))
      rw [brac5]
      have e : partsOf 5 keys kids = List.zipWith keyed keys (bracAll kids) := by unfold partsOf; rw [if_neg (by decide)]
      rw [e]
      simp only [List.length_append, List.length_cons, List.length_nil]
      omega
end Go.Proofs.YtmcjghhmcmkomaaGreatDoor
