/-
  What is proved: the outliner takes a line that fits.; the outliner closes all that is open: the tree is what it tells.; plain facts on the lines that a tree is written as: one behind the other they are its text; each is of a kind that is read.; what the program takes for a Key at the head of a line, as it is or quoted, and what stands behind it; condition: the library's MaxLen is a number.; what the program takes a line for that is an entry of a list or a map: its kind, its Key, its value, and whether one stands there; condition: the library's MaxLen is a number.
-/
import Derived.Test.YtmcjghhmcmkomaaGreatDoorPartAY
import Derived.Test.YtmcjghhmcmkomaaGreatDoorPartAW
import Derived.Test.YtmcjghhmcmkomaaGreatDoorPartAM
import Derived.Test.YtmcjghhmcmkomaaGreatDoorPartAO
import Derived.Test.YtmcjghhmcmkomaaGreatDoorPartAP
/- the outliner takes a line that fits. -/
namespace Go.Proofs.YtmcjghhmcmkomaaGreatDoor
open Go Go.RowKit

/-- The value that stands in a line is read as the tree that the line has. -/
def ValOf (v : ByteArray) (l : Ln) : Prop := ∀ X, l.val = some X → ValAt v X

theorem obeg {w0 wr : World} {p : Nat} {en : Nat} {ov : Value} {ls : List Ol} {l : Ln} {value : ByteArray} (h : OMid w0 wr wr p true en ov ls) (hp : p < w0.heap.size) (hen : en < 200) (hll : ls.length ≤ 1048575) (hf : l.fine ⟨l.kind, [], [], ⟨#[]⟩⟩) (hv : ValOf value l) :
    Calls Tryz.prog 85 #[.pointer (some ⟨p, 0, none⟩), .agg #[.int .i64 l.kind, .string l.key, .string value, .bool l.val.isNone]] wr fun e w' => e = .returned (.bool true) ∧ ∃ ov' l', OMid w0 wr w' p l.val.isNone (en + 1) ov' (ls ++ [l']) ∧ l'.pl = PL.says ⟨l.kind, [], [], ⟨#[]⟩⟩ l := by
  obtain ⟨h1, -, h3, h4⟩ := hf
  have hkey : l.key.size ≤ maxLen := by unfold maxLen; omega
  have hk := h3.imp (fun h => h) (fun h => h.1)
  unfold PL.says
  cases hX : l.val with
  | none => exact obegA h hp hen hll hkey hk
  | some X => exact obegV h hp hen hll hkey hk (hv X hX) (h4 X hX).1

theorem oadd {w0 wr : World} {p : Nat} {du : Bool} {en : Nat} {ls : List Ol} {lq : Ol} {l : Ln} {g cap : Nat} {value : ByteArray} (h : OMid w0 wr wr p du en (.slice (some ⟨g, 0, none⟩) (ls.length + 1) cap) (ls ++ [lq])) (hp : p < w0.heap.size) (hen : en < 200) (hf : l.fine lq.pl) (hk2 : l.kind = 5 → lq.key ∈ lq.dk) (hv : ValOf value l) :
    Calls Tryz.prog 86 #[.pointer (some ⟨p, 0, none⟩), .agg #[.int .i64 l.kind, .string l.key, .string value, .bool l.val.isNone]] wr fun e w' => e = .returned (.bool true) ∧ ∃ ov' l', OMid w0 wr w' p l.val.isNone (en + 1) ov' (ls ++ [l']) ∧ l'.pl = PL.says lq.pl l := by
  obtain ⟨h1, h2, h3, h4⟩ := hf
  have hkey : l.key.size ≤ maxLen := by unfold maxLen; omega
  have hke : lq.k = l.kind := h2
  rw [← hke] at h3 hk2
  rw [← hke]
  have hk : lq.k = 4 ∧ l.key = ⟨#[]⟩ ∨ lq.k = 5 ∧ l.key ∉ lq.dk := h3
  unfold PL.says
  cases hX : l.val with
  | none => exact (oaddA h hp hen hkey hk (fun e => .inl (hk2 e))).mono fun e w' ⟨he, l', h1, h2⟩ => ⟨he, _, l', h1, h2⟩
  | some X => exact (oaddV h hp hen hkey hk (fun e => .inl (hk2 e)) (hv X hX) (h4 X hX).1).mono fun e w' ⟨he, l', h1, h2⟩ => ⟨he, _, l', h1, h2⟩

theorem says_len {a : List PL} {p q : PL} : (a ++ [p]).length = (a ++ [q]).length := by simp

set_option maxRecDepth 100000 in
set_option maxHeartbeats 4000000 in
/-- The first line of a list or a map. -/
theorem otakeF {w0 wr : World} {p : Nat} {en : Nat} {ov : Value} {ls : List Ol} {l : Ln} {value : ByteArray} (h : OMid w0 wr wr p true en ov ls) (hp : p < w0.heap.size) (hen : en < 200) (hll : ls.length ≤ en) (hin : l.inn = 2 * ls.length) (hf : l.fine ⟨l.kind, [], [], ⟨#[]⟩⟩) (hv : ValOf value l) :
    Calls Tryz.prog 51 #[.pointer (some ⟨p, 0, none⟩), .int .i64 l.inn, .agg #[.int .i64 l.kind, .string l.key, .string value, .bool l.val.isNone]] wr fun e w' => e = .returned (.bool true) ∧ ∃ ov' l', OMid w0 wr w' p l.val.isNone (en + 1) ov' (ls ++ [l']) ∧ l'.pl = PL.says ⟨l.kind, [], [], ⟨#[]⟩⟩ l := by
  obtain ⟨oo, cc, rfl⟩ := h.lenv
  have HB : Hid (∀ wy : World, Below wr.heap.size wr wy → Calls Tryz.prog 85 #[.pointer (some ⟨p, 0, none⟩), .agg #[.int .i64 l.kind, .string l.key, .string value, .bool l.val.isNone]] wy fun e w' => e = .returned (.bool true) ∧ ∃ ov' l', OMid w0 wr w' p l.val.isNone (en + 1) ov' (ls ++ [l']) ∧ l'.pl = PL.says ⟨l.kind, [], [], ⟨#[]⟩⟩ l) := fun wy hb =>
    (obeg (h.below hb).here hp hen (by omega) hf hv).mono fun e w' ⟨he, ov', l', h1, h2⟩ => ⟨he, ov', l', h1.later (h.below hb).kp, h2⟩
  have hin' : (l.inn : Int) = 2 * (ls.length : Int) := by rw [hin]; simp
  generalize l.val.isNone = al at *
  have hbe := (Below.refl _ wr).alloc (Nat.le_refl _) (.cells #[.int .i64 l.kind, .string l.key, .string value, .bool al] 89)
  obtain ⟨z0, z1, z2, z3, z4⟩ := four (heap_last wr (.cells #[.int .i64 l.kind, .string l.key, .string value, .bool al] 89))
  obtain ⟨x0, x1, x2, x3⟩ := (h.below hbe).ob.eight
  rw [hin']
  clear h hf hv
  go_enter Tryz.func51, Tryz.ntmps51
  go_wp2_with fail
  refine (HB.out _ hbe).mono ?_
  rintro e w1 ⟨rfl, ov', l', hM, hl'⟩
  have HM := Lib.hid (And.intro hM hl')
  clear hM hl' x0 x1 x2 x3 z0 z1 z2 z3 z4 HB
  go_wp2
  go_ret
  exact ⟨rfl, ov', l', HM.out⟩

set_option maxRecDepth 100000 in
set_option maxHeartbeats 4000000 in
/-- A line of what is open. -/
theorem otakeN {w0 wr : World} {p : Nat} {en : Nat} {ov : Value} {ls : List Ol} {ls' : List PL} {q : PL} {l : Ln} {value : ByteArray} (h : OMid w0 wr wr p false en ov ls) (hp : p < w0.heap.size) (hen : en < 200) (hll : ls.length ≤ en) (hin : l.inn = 2 * ls'.length) (hlt : ls'.length < ls.length) (hs : Shut (ls.map Ol.pl) (ls'.length + 1) (ls' ++ [q])) (hf : l.fine q) (hk2 : l.kind = 5 → q.key ∈ q.dk) (hv : ValOf value l) :
    Calls Tryz.prog 51 #[.pointer (some ⟨p, 0, none⟩), .int .i64 l.inn, .agg #[.int .i64 l.kind, .string l.key, .string value, .bool l.val.isNone]] wr fun e w' => e = .returned (.bool true) ∧ ∃ ov' ls2 l', OMid w0 wr w' p l.val.isNone (en + 1) ov' (ls2 ++ [l']) ∧ ls2.map Ol.pl = ls' ∧ l'.pl = PL.says q l := by
  obtain ⟨oo, cc, rfl⟩ := h.lenv
  generalize hm : ls'.length = m at *
  have HS : Hid (Calls Tryz.prog 53 #[.pointer (some ⟨p, 0, none⟩), .int .i64 ((m : Int) + 1)] (wr.alloc (.cells #[.int .i64 l.kind, .string l.key, .string value, .bool l.val.isNone] 89)) fun e w' => (∃ v, e = .returned v) ∧ ∃ g cap ls2 lq, OMid w0 wr w' p false en (.slice (some ⟨g, 0, none⟩) (ls2.length + 1) cap) (ls2 ++ [lq]) ∧ w'.heap[wr.heap.size]? = some (.cells #[.int .i64 l.kind, .string l.key, .string value, .bool l.val.isNone] 89 (0, 0)) ∧ ls2.map Ol.pl = ls' ∧ lq.pl = q) := by
    have hb := (Below.refl _ wr).alloc (Nat.le_refl _) (.cells #[.int .i64 l.kind, .string l.key, .string value, .bool l.val.isNone] 89)
    refine (oshut (h.below hb).here hp (by omega) hs).mono fun e w' ⟨he, ov', ls2, h1, h2, h5⟩ => ⟨he, ?_⟩
    obtain ⟨ls1, lq, rfl, h3, h4⟩ := snoc_of_map h2
    obtain ⟨g, cap, cur, rfl, -⟩ := h1.stk.top
    exact ⟨g, cap, ls1, lq, h1.later (h.below hb).kp, (h5 _ _ (h.spare hp _)).same, h3, h4⟩
  have HA : Hid (∀ (wy : World) (g cap : Nat) (ls2 : List Ol) (lq : Ol), OMid w0 wr wy p false en (.slice (some ⟨g, 0, none⟩) (ls2.length + 1) cap) (ls2 ++ [lq]) → lq.pl = q → Calls Tryz.prog 86 #[.pointer (some ⟨p, 0, none⟩), .agg #[.int .i64 l.kind, .string l.key, .string value, .bool l.val.isNone]] wy fun e w' => e = .returned (.bool true) ∧ ∃ ov' l', OMid w0 wr w' p l.val.isNone (en + 1) ov' (ls2 ++ [l']) ∧ l'.pl = PL.says q l) := fun wy g cap ls2 lq h1 h2 => by
    subst h2
    exact (oadd h1.here hp hen hf hk2 hv).mono fun e w' ⟨he, ov', l', h2, h3⟩ => ⟨he, ov', l', h2.later h1.kp, h3⟩
  have hin' : (l.inn : Int) = 2 * (m : Int) := by rw [hin]; simp
  generalize l.val.isNone = al at *
  have hbe := (Below.refl _ wr).alloc (Nat.le_refl _) (.cells #[.int .i64 l.kind, .string l.key, .string value, .bool al] 89)
  obtain ⟨z0, z1, z2, z3, z4⟩ := four (heap_last wr (.cells #[.int .i64 l.kind, .string l.key, .string value, .bool al] 89))
  obtain ⟨x0, x1, x2, x3⟩ := (h.below hbe).ob.eight
  rw [hin']
  have hge : ¬ (2 * (ls.length : Int) ≤ 2 * (m : Int)) := by omega
  have hmod : (2 * (m : Int)).tmod 2 = 0 := by simp
  have hdiv : (2 * (m : Int)).tdiv 2 = m := by simp
  clear h hf hv
  go_enter Tryz.func51, Tryz.ntmps51
  go_wp2_with fail
  refine HS.out.mono ?_
  rintro e w1 ⟨⟨v, rfl⟩, g, cap, ls2, lq, hM, hz, e1, e2⟩
  clear x0 x1 x2 x3 z0 z1 z2 z3 z4
  obtain ⟨z0, z1, z2, z3, z4⟩ := four hz
  obtain ⟨x0, x1, x2, x3⟩ := hM.ob.eight
  have HM := Lib.hid hM
  clear hM hz
  go_wp2_with fail
  refine (HA.out _ _ _ _ _ HM.out e2).mono ?_
  rintro e w2 ⟨rfl, ov', l', hM, hl'⟩
  have HM2 := Lib.hid (And.intro hM hl')
  clear hM hl' x0 x1 x2 x3 z0 z1 z2 z3 z4 HA HS
  go_wp2
  go_ret
  exact ⟨rfl, ov', ls2, l', HM2.out.1, e1, HM2.out.2⟩

/-- The outliner takes a line that fits. -/
theorem otake {w0 wr : World} {p : Nat} {du : Bool} {en : Nat} {ov : Value} {ls : List Ol} {s' : LS} {l : Ln} {value : ByteArray} (h : OMid w0 wr wr p du en ov ls) (hp : p < w0.heap.size) (hll : ls.length ≤ en) (hs : Step ⟨ls.map Ol.pl, du, en⟩ l s') (hv : ValOf value l) :
    Calls Tryz.prog 51 #[.pointer (some ⟨p, 0, none⟩), .int .i64 l.inn, .agg #[.int .i64 l.kind, .string l.key, .string value, .bool l.val.isNone]] wr fun e w' => e = .returned (.bool true) ∧ ∃ ov' ls', OMid w0 wr w' p s'.due s'.ent ov' ls' ∧ ls'.map Ol.pl = s'.ls ∧ ls'.length ≤ s'.ent := by
  generalize hs0 : (⟨ls.map Ol.pl, du, en⟩ : LS) = s at hs
  cases hs with
  | @first qs ent l hin hf hent =>
    injection hs0 with e1 e2 e3
    subst e1 e2 e3
    rw [List.length_map] at hin
    refine (otakeF h hp hent hll hin hf hv).mono fun e w' ⟨he, ov', l', h1, h2⟩ => ⟨he, ov', _, h1, ?_, ?_⟩
    · rw [List.map_append, List.map_singleton, h2]
    · simp; omega
  | @next qs ls' q ent l hin hlt hsh hf hk2 hent =>
    injection hs0 with e1 e2 e3
    subst e1 e2 e3
    rw [List.length_map] at hlt
    refine (otakeN h hp hent hll hin hlt hsh hf hk2 hv).mono fun e w' ⟨he, ov', ls2, l', h1, h2, h3⟩ => ⟨he, ov', _, h1, ?_, ?_⟩
    · rw [List.map_append, List.map_singleton, h2, h3]
    · have := congrArg List.length h2
      rw [List.length_map] at this
      simp; omega
end Go.Proofs.YtmcjghhmcmkomaaGreatDoor

/- the outliner closes all that is open: the tree is what it tells. -/
namespace Go.Proofs.YtmcjghhmcmkomaaGreatDoor
open Go Go.RowKit

/-- The outliner's block, in general. -/
def Oz (w : World) (b : Nat) (ov : Value) (due : Bool) (ent : Nat) (k n : Int) (s : ByteArray) (kv dv : Value) : Prop := w.heap[b]? = some (.cells #[ov, .bool due, .int .i64 ent, .int .i64 k, .int .i64 n, .string s, kv, dv] 82 (0, 0))

theorem Oz.eight {w : World} {b : Nat} {ov : Value} {due : Bool} {ent : Nat} {k n : Int} {s : ByteArray} {kv dv : Value} (h : Oz w b ov due ent k n s kv dv) :
    w.cell? ⟨b, 0, none⟩ = some ov ∧ w.cell? ⟨b, 1, none⟩ = some (.bool due) ∧ w.cell? ⟨b, 2, none⟩ = some (.int .i64 ent) ∧ w.cell? ⟨b, 3, none⟩ = some (.int .i64 k) ∧ w.cell? ⟨b, 4, none⟩ = some (.int .i64 n) ∧ w.cell? ⟨b, 5, none⟩ = some (.string s) ∧ w.cell? ⟨b, 6, none⟩ = some kv ∧ w.cell? ⟨b, 7, none⟩ = some dv ∧ ∀ o, w.frozen? ⟨b, o, none⟩ = false := by
  have h : w.heap[b]? = some (.cells #[ov, .bool due, .int .i64 ent, .int .i64 k, .int .i64 n, .string s, kv, dv] 82 (0, 0)) := h
  refine ⟨cell_of h 0, cell_of h 1, cell_of h 2, cell_of h 3, cell_of h 4, cell_of h 5, cell_of h 6, cell_of h 7, fun o => ?_⟩
  simp [World.frozen?, h]

theorem Oz.lt {w : World} {b : Nat} {ov : Value} {due : Bool} {ent : Nat} {k n : Int} {s : ByteArray} {kv dv : Value} (h : Oz w b ov due ent k n s kv dv) : b < w.heap.size := (Array.getElem?_eq_some_iff.1 h).1
theorem Oz.put {w : World} {b : Nat} {ov : Value} {due : Bool} {ent : Nat} {k n : Int} {s : ByteArray} {kv dv : Value} (h : Oz w b ov due ent k n s kv dv) (k' n' : Int) (s' : ByteArray) (kv' dv' : Value) : Oz (set5 w b 3 (.int .i64 k') (.int .i64 n') (.string s') kv' dv') b ov due ent k' n' s' kv' dv' := by
  have h0 := heap_set h 3 (.int .i64 k')
  have h1 := heap_set h0 4 (.int .i64 n')
  have h2 := heap_set h1 5 (.string s')
  have h3 := heap_set h2 6 kv'
  have h4 := heap_set h3 7 dv'
  exact h4

set_option maxRecDepth 100000 in
set_option maxHeartbeats 2000000 in
/-- Nothing is open any more: the tree is what is told. -/
theorem oz_put (b : Nat) (due : Bool) (ent : Nat) (o : Option Addr) (c : Nat) (k n k' n' : Int) (s s' : ByteArray) (kv dv : Value) (o1 o2 : Option Addr) (l1 c1 l2 c2 : Nat) (w : World) (h : Oz w b (.slice o 0 c) due ent k n s kv dv) :
    Calls Tryz.prog 89 #[.pointer (some ⟨b, 0, none⟩), .agg #[.int .i64 k', .int .i64 n', .string s', .slice o1 l1 c1, .slice o2 l2 c2]] w fun e w' => (∃ v, e = .returned v) ∧ Oz w' b (.slice o 0 c) due ent k' n' s' (.slice o1 l1 c1) (.slice o2 l2 c2) ∧ w.grownBy w' (some b) := by
  have hb0 := (Below.refl _ w).alloc (Nat.le_refl _) (.cells #[.int .i64 k', .int .i64 n', .string s', .slice o1 l1 c1, .slice o2 l2 c2] 27)
  have H1 : Hid (Oz (w.alloc (.cells #[.int .i64 k', .int .i64 n', .string s', .slice o1 l1 c1, .slice o2 l2 c2] 27)) b (.slice o 0 c) due ent k n s kv dv ∧ w.grownBy (w.alloc (.cells #[.int .i64 k', .int .i64 n', .string s', .slice o1 l1 c1, .slice o2 l2 c2] 27)) (some b)) := ⟨blk_nextR h hb0, grw_below hb0⟩
  obtain ⟨x0, x1, x2, x3, x4, x5, x6, x7, x8⟩ := H1.out.1.eight
  clear h hb0
  go_enter Tryz.func89, Tryz.ntmps89
  go_wp2_with fail
  refine bodyPost_ret (results_none Tryz.results89 _ _ _) rfl ?_
  exact ⟨⟨_, rfl⟩, H1.out.1.put k' n' s' (.slice o1 l1 c1) (.slice o2 l2 c2), grw_own5 H1.out.2 _ _ _ _ _⟩

/-- The outliner's tree, where nothing is open any more. -/
def OEnd (w0 wa w : World) (p : Nat) (du : Bool) (en : Nat) (T : RT) : Prop := ∃ o c o1 c1 o2 c2 F, Oz w p (.slice o 0 c) du en T.k T.n T.s (.slice o1 T.keys.length c1) (.slice o2 T.kids.length c2) ∧ Lies w T (.slice o1 T.keys.length c1) (.slice o2 T.kids.length c2) F ∧ Fresh w0 w F ∧ Kp w0 p wa w

set_option maxRecDepth 100000 in
set_option maxHeartbeats 4000000 in
/-- The outliner closes all that is open. -/
theorem oshut0 {w0 wa : World} {p : Nat} {du : Bool} {en : Nat} {ov : Value} {ls : List Ol} {q0 : PL} (h : OMid w0 wa wa p du en ov ls) (hp : p < w0.heap.size) (hen : en ≤ 200) (hs : Shut (ls.map Ol.pl) 1 [q0]) :
    Calls Tryz.prog 53 #[.pointer (some ⟨p, 0, none⟩), .int .i64 0] wa fun e w' => (∃ v, e = .returned v) ∧ OEnd w0 wa w' p du en q0.tree := by
  have H0 : Hid (OMid w0 wa wa p du en ov ls ∧ Shut (ls.map Ol.pl) 1 [q0]) := ⟨h, hs⟩
  clear h hs
  go_enter Tryz.func53, Tryz.ntmps53
  go_wp2_with fail
  go_loopw [4, 5] (fun _ _ wx => (∃ ov ls, Hid (OMid w0 wa wx p du en ov ls ∧ Shut (ls.map Ol.pl) 1 [q0])) ∨ Hid (OEnd w0 wa wx p du en q0.tree)) (fun _ _ wx => oopen wx p)
  case atStart => exact .inl ⟨_, _, H0.out⟩
  case round =>
    rcases hrel with ⟨ov, ls, hr⟩ | hr
    rotate_left 1
    · obtain ⟨o, c, o1, c1, o2, c2, F, h1, h2⟩ := hr.out
      obtain ⟨x0, x1, x2, x3, x4, x5, x6, x7, x8⟩ := h1.eight
      clear h1 h2
      go_wp2
      go_end0
      exact ⟨⟨_, rfl⟩, hr.out⟩
    obtain ⟨hM, hs⟩ := hr.out
    clear hr
    rcases shut_cases hs with ⟨hl, he⟩ | ⟨a, q, p0, he, ha, hf, hs2⟩
    · obtain ⟨lp, rfl, hlp⟩ : ∃ lp, ls = [] ++ [lp] ∧ lp.pl = q0 := by
        obtain ⟨x, e1, e2⟩ := List.map_eq_singleton_iff.1 he.symm
        exact ⟨x, e1, e2⟩
      subst hlp
      obtain ⟨g, cap, cur, rfl, kg, kc, kc2, -⟩ := hM.stk.top
      obtain ⟨cur', k2, k3, k4, k5, ktop, kpre, k6, k7, k8, k9, hl, -⟩ := hM.parts
      obtain ⟨o1, q1, e1⟩ := StrsAt.slice hl.keys
      obtain ⟨o2, q2, e2⟩ := KidsLie.slice hl.kids
      have hk : Fit lp.k := by
        obtain ⟨mb, -, -, -, -, hk, -⟩ := hl.kind
        rcases hk with hk | hk
        · rw [hk]; exact ⟨by decide, by decide⟩
        · rw [hk.1]; exact ⟨by decide, by decide⟩
      obtain ⟨x0, x1, x2, x3⟩ := hM.ob.eight
      have c0 : wr.cell? ⟨g, ([] : List Ol).length * 8, none⟩ = some (.int .i64 lp.k) := by rw [cell_of k2]; exact ktop 0 (by decide)
      have c1 : wr.cell? ⟨g, ([] : List Ol).length * 8 + 1, none⟩ = some (.int .i64 0) := by rw [cell_of k2]; exact ktop 1 (by decide)
      have c2 : wr.cell? ⟨g, ([] : List Ol).length * 8 + 2, none⟩ = some (.string ⟨#[]⟩) := by rw [cell_of k2]; exact ktop 2 (by decide)
      have c3 : wr.cell? ⟨g, ([] : List Ol).length * 8 + 3, none⟩ = some (.slice o1 lp.dk.length q1) := by rw [cell_of k2, ← e1]; exact ktop 3 (by decide)
      have c4 : wr.cell? ⟨g, ([] : List Ol).length * 8 + 4, none⟩ = some (.slice o2 lp.dd.length q2) := by rw [cell_of k2, ← e2]; exact ktop 4 (by decide)
      unfold maxLen at kc2
      have HQ : Hid (∀ wy, Below (wr.setCell ⟨p, 0, none⟩ (.slice (some ⟨g, 0, none⟩) 0 cap)).heap.size (wr.setCell ⟨p, 0, none⟩ (.slice (some ⟨g, 0, none⟩) 0 cap)) wy → Calls Tryz.prog 89 #[.pointer (some ⟨p, 0, none⟩), .agg #[.int .i64 lp.k, .int .i64 0, .string ⟨#[]⟩, .slice o1 lp.dk.length q1, .slice o2 lp.dd.length q2]] wy fun e w' => (∃ v, e = .returned v) ∧ OEnd w0 wa w' p du en lp.pl.tree) := fun wy hb => by
        obtain ⟨h1, h2⟩ := hM.pop hp hk
        have h1 := h1.below hb
        have h2 := h2.stay hb
        rw [e1, e2] at h2
        have hz : Oz wy p (.slice (some ⟨g, 0, none⟩) 0 cap) du en 0 0 ⟨#[]⟩ (.slice none 0 0) (.slice none 0 0) := h1.ob
        refine (oz_put p du en _ _ _ _ _ _ _ _ _ _ _ _ _ _ _ _ _ hz).mono fun e w' ⟨a1, a2, a3⟩ => ⟨a1, ?_⟩
        have keep : ∀ y ∈ lp.FK ++ lp.FD, w'.heap[y]? = wy.heap[y]? := fun y hy => a3.block y (h2.lies.lt y hy) (fun e => by injection e with e; have := h2.fresh.old y hy; omega)
        exact ⟨_, _, _, _, _, _, _, a2, h2.lies.carry keep, h2.fresh.carry keep, h1.kp.trans (Kp.of_grw a3 h1.hs (.inl rfl))⟩
      have HO : Hid (oopen wr p = 1) := by
        show oopen wr p = _
        unfold oopen
        rw [x0]; rfl
      have HBl : Hid (∀ (wx : World) ob, Below wx.heap.size wx (wx.alloc ob)) := fun wx ob => (Below.refl _ wx).alloc (Nat.le_refl _) ob
      have hpx : p < wr.heap.size := Nat.lt_of_lt_of_le hp hM.hs
      clear hM hs he k2 ktop kpre hl e1 e2
      simp only [List.length_nil, Nat.zero_add, Nat.zero_mul] at c0 c1 c2 c3 c4 x0 kc
      go_wp2_with fail
      refine (HQ.out _ (HBl.out _ _)).mono ?_
      rintro e w2 ⟨⟨v2, rfl⟩, hM'⟩
      have HM2 := Lib.hid hM'
      clear hM'
      go_wp2
      refine ⟨.inr HM2.out, ?_⟩
      obtain ⟨o, c, o1, c1, o2, c2, F, h1, -⟩ := HM2.out
      rw [HO.out]
      unfold oopen
      rw [h1.eight.1]
      exact Nat.zero_lt_one
    · obtain ⟨ls1, lq, lp, rfl, rfl, rfl, rfl⟩ := map_snoc2 he
      obtain ⟨g, cap, cur, rfl, kg, kc, kc2, -⟩ := hM.stk.top
      obtain ⟨cur', k2, k3, k4, k5, ktop, kpre, k6, k7, k8, k9, hl, -⟩ := hM.parts
      obtain ⟨o1, q1, e1⟩ := StrsAt.slice hl.keys
      obtain ⟨o2, q2, e2⟩ := KidsLie.slice hl.kids
      have hk : Fit lp.k := by
        obtain ⟨mb, -, -, -, -, hk, -⟩ := hl.kind
        rcases hk with hk | hk
        · rw [hk]; exact ⟨by decide, by decide⟩
        · rw [hk.1]; exact ⟨by decide, by decide⟩
      obtain ⟨x0, x1, x2, x3⟩ := hM.ob.eight
      have c0 : wr.cell? ⟨g, (ls1 ++ [lq]).length * 8, none⟩ = some (.int .i64 lp.k) := by rw [cell_of k2]; exact ktop 0 (by decide)
      have c1 : wr.cell? ⟨g, (ls1 ++ [lq]).length * 8 + 1, none⟩ = some (.int .i64 0) := by rw [cell_of k2]; exact ktop 1 (by decide)
      have c2 : wr.cell? ⟨g, (ls1 ++ [lq]).length * 8 + 2, none⟩ = some (.string ⟨#[]⟩) := by rw [cell_of k2]; exact ktop 2 (by decide)
      have c3 : wr.cell? ⟨g, (ls1 ++ [lq]).length * 8 + 3, none⟩ = some (.slice o1 lp.dk.length q1) := by rw [cell_of k2, ← e1]; exact ktop 3 (by decide)
      have c4 : wr.cell? ⟨g, (ls1 ++ [lq]).length * 8 + 4, none⟩ = some (.slice o2 lp.dd.length q2) := by rw [cell_of k2, ← e2]; exact ktop 4 (by decide)
      have hll : (ls1 ++ [lq]).length = ls1.length + 1 := by simp
      rw [List.length_map] at ha
      unfold maxLen at kc2
      have HQ : Hid (∀ wy, Below (wr.setCell ⟨p, 0, none⟩ (.slice (some ⟨g, 0, none⟩) (ls1.length + 1) cap)).heap.size (wr.setCell ⟨p, 0, none⟩ (.slice (some ⟨g, 0, none⟩) (ls1.length + 1) cap)) wy → Calls Tryz.prog 89 #[.pointer (some ⟨p, 0, none⟩), .agg #[.int .i64 lp.k, .int .i64 0, .string ⟨#[]⟩, .slice o1 lp.dk.length q1, .slice o2 lp.dd.length q2]] wy fun e w' => (∃ v, e = .returned v) ∧ ∃ l', OMid w0 wa w' p du en (.slice (some ⟨g, 0, none⟩) (ls1.length + 1) cap) (ls1 ++ [l']) ∧ l'.pl = lq.pl.put lp.pl.tree) := fun wy hb => by
        obtain ⟨h1, h2⟩ := hM.pop hp hk
        rw [hll] at h1 h2
        rw [e1, e2] at h2
        exact oput (h1.below hb) hp hf hen (X := .node lp.k 0 ⟨#[]⟩ lp.dk lp.dd) (h2.stay hb)
      have HF := Lib.hid hs2
      have HO : Hid (oopen wr p = ls1.length + 1 + 1) := by
        show oopen wr p = _
        unfold oopen
        rw [x0, hll]
      have HBl : Hid (∀ (wx : World) ob, Below wx.heap.size wx (wx.alloc ob)) := fun wx ob => (Below.refl _ wx).alloc (Nat.le_refl _) ob
      have hpx : p < wr.heap.size := Nat.lt_of_lt_of_le hp hM.hs
      clear hM hs he hs2 kg k2 ktop kpre hl hf e1 e2
      simp only [hll] at c0 c1 c2 c3 c4 x0 kc
      clear hll
      generalize hn : ls1.length + 1 = n at *
      have g0 : (0 : Int) ≤ (n : Int) := by omega
      have g1 : (n : Int) < (n : Int) + 1 := by omega
      have g3 : IntKind.i64.wrap (n : Int) = n := by rw [IntKind.wrap_i64]; omega
      have g4 : (0 : Int) < (n : Int) + 1 := by omega
      have g5 : (n : Int) ≤ (cap : Int) := by omega
      go_wp2_with fail
      refine (HQ.out _ (HBl.out _ _)).mono ?_
      rintro e w2 ⟨⟨v2, rfl⟩, l', hM', hl'⟩
      have HM2 := Lib.hid (And.intro hM' hl')
      have HN := Lib.hid hn
      clear hM' hl' hn
      go_wp2
      refine ⟨.inl ⟨_, _, ⟨HM2.out.1, ?_⟩⟩, ?_⟩
      · rw [List.map_append, List.map_singleton, HM2.out.2]; exact HF.out
      · have h1 := HM2.out.1.ob.eight.1
        have h2 := HO.out
        have h3 := HN.out
        rw [h2]
        unfold oopen
        rw [h1]
        show _ < _
        simp only []
        omega
end Go.Proofs.YtmcjghhmcmkomaaGreatDoor

/- plain facts on the lines that a tree is written as: one behind the other they are its text; each is of a kind that is read. -/
namespace Go.Proofs.YtmcjghhmcmkomaaGreatDoor
open Go Go.RowKit

/-- A line behind its blanks, and the whole line. -/
def Ln.text (l : Ln) : List UInt8 := headL l.kind l.key ++ (match l.val with
  | none => []
  | some X => 32 :: inlL X)
def Ln.line (l : Ln) : List UInt8 := List.replicate l.inn 32 ++ l.text

theorem headL_in (k : Int) (key : ByteArray) : headL k (keyIn k key) = headL k key := by
  unfold headL keyIn
  by_cases h : k = 5
  · rw [if_pos h, if_pos h, if_pos h]
  · rw [if_neg h, if_neg h]

theorem linesAll_text (k : Int) (d : Nat) : (keys : List ByteArray) → (kids : List RT) → (∀ t ∈ kids, t.lines (d + 2) = (t.lns (d + 2)).flatMap fun l => l.line ++ [10]) → linesAll k keys kids d = (lnsAll k keys kids d).flatMap fun l => l.line ++ [10]
  | _, [], _ => rfl
  | keys, t :: ts, h => by
    have h1 := linesAll_text k d keys.tail ts (fun x hx => h x (List.mem_cons_of_mem _ hx))
    have h2 := h t (List.mem_cons_self ..)
    rw [linesAll, lnsAll, List.flatMap_append, List.flatMap_cons, ← h1]
    congr 1
    unfold Ln.line Ln.text
    simp only [headL_in]
    by_cases hz : t.kids.length = 0
    · rw [if_pos hz, if_pos hz, if_pos hz]
      simp
    · rw [if_neg hz, if_neg hz, if_neg hz, h2]
      simp [Ln.line, Ln.text]

theorem lines_text (T : RT) : ∀ d, T.lines d = (T.lns d).flatMap fun l => l.line ++ [10] := by
  induction T using RT.ind with
  | h k n s keys kids ih =>
    intro d
    rw [RT.lines, RT.lns]
    exact linesAll_text k d keys kids fun t ht => ih t ht (d + 2)

/-- A line that is read. -/
def Ln.good (l : Ln) : Prop := (l.kind = 4 ∧ l.key = ⟨#[]⟩ ∨ l.kind = 5 ∧ textOk l.key = true) ∧ ∀ X, l.val = some X → treeOk X = true ∧ X.kids.length = 0

theorem lnsAll_good (k : Int) (d : Nat) (hk : k = 4 ∨ k = 5) : (keys : List ByteArray) → (kids : List RT) → (k = 5 → keys.length = kids.length ∧ ∀ x ∈ keys, textOk x = true) → (∀ t ∈ kids, treeOk t = true ∧ ∀ l ∈ t.lns (d + 2), t.kids.length ≠ 0 → l.good) → ∀ l ∈ lnsAll k keys kids d, l.good
  | _, [], _, _ => fun l hl => by simp [lnsAll] at hl
  | keys, t :: ts, hks, h => by
    intro l hl
    have h2 := h t (List.mem_cons_self ..)
    rw [lnsAll, List.mem_append, List.mem_cons] at hl
    rcases hl with (rfl | hl) | hl
    · refine ⟨?_, fun X hX => ?_⟩
      · rcases hk with rfl | rfl
        · exact .inl ⟨rfl, by unfold keyIn; rw [if_neg (show ¬ ((4 : Int) = 5) by decide)]⟩
        · refine .inr ⟨rfl, ?_⟩
          obtain ⟨h3, h4⟩ := hks rfl
          cases keys with
          | nil => simp at h3
          | cons a r => exact h4 a (List.mem_cons_self ..)
      · simp only [] at hX
        split at hX
        · rename_i hz
          injection hX with hX
          subst hX
          exact ⟨h2.1, hz⟩
        · cases hX
    · split at hl
      · simp at hl
      · rename_i hz
        exact h2.2 l hl hz
    · exact lnsAll_good k d hk keys.tail ts (fun e => by
        obtain ⟨h3, h4⟩ := hks e
        refine ⟨by simp only [List.length_tail, h3, List.length_cons]; omega, fun x hx => h4 x (List.mem_of_mem_tail hx)⟩) (fun x hx => h x (List.mem_cons_of_mem _ hx)) l hl

theorem lns_good (T : RT) : ∀ d, treeOk T = true → T.kids.length ≠ 0 → ∀ l ∈ T.lns d, l.good := by
  induction T using RT.ind with
  | h k n s keys kids ih =>
    intro d hok h0 l hl
    obtain ⟨-, -, hr⟩ := treeOk_parts hok
    have hk := kind_of_kids hr h0
    rw [RT.lns] at hl
    refine lnsAll_good k d hk keys kids (fun e => ?_) (fun t ht => ⟨treeOk_kid hok ht, fun l hl hz => ih t ht (d + 2) (treeOk_kid hok ht) hz l hl⟩) l hl
    obtain ⟨hh, -⟩ := right_out hr
    unfold HeadOk at hh
    simp only [RT.k, RT.keys, RT.kids] at hh
    have h5 : keys.length = kids.length ∧ keysOk keys = true := by
      rcases hh with h | h | h | h | h | h
      · omega
      · omega
      · omega
      · omega
      · omega
      · exact h.2.2.2
    refine ⟨h5.1, fun x hx => ?_⟩
    obtain ⟨i, hi, rfl⟩ := List.getElem_of_mem hx
    exact (keys_behind (dk := keys.take i) (rk := keys.drop (i + 1)) (key := keys[i]) (by rw [← List.drop_eq_getElem_cons hi, List.take_append_drop]; exact h5.2)).2.2.1
end Go.Proofs.YtmcjghhmcmkomaaGreatDoor

/- what the program takes for a Key at the head of a line, as it is or quoted, and what stands behind it; condition: the library's MaxLen is a number. -/
namespace Go.Proofs.YtmcjghhmcmkomaaGreatDoor
open Go Go.RowKit

theorem noOccB {c : UInt8} {l : List UInt8} (h : ∀ b ∈ l, b ≠ c) (j : Nat) : Lib.occAt l [c] j = false := by
  unfold Lib.occAt
  cases e : l.drop j with
  | nil => rfl
  | cons b r =>
    have hb : b ∈ l := List.mem_of_mem_drop (by rw [e]; exact List.mem_cons_self ..)
    have := h b hb
    simp [List.isPrefixOf, Ne.symm this]

/-- A text is cut at the first such byte. -/
theorem cut_at {c : UInt8} {l : List UInt8} (h : ∀ b ∈ l, b ≠ c) (R : List UInt8) : Lib.cut (l ++ c :: R) [c] = (l, R, true) := by
  have h2 : Lib.index (l ++ c :: R) [c] = l.length := Lib.index_first (by simp) (by unfold Lib.occAt; simp) fun j hj => by
    have hz := noOccB h j
    unfold Lib.occAt at hz ⊢
    rw [List.drop_append_of_le_length (by omega)]
    cases e : l.drop j with
    | nil => have := congrArg List.length e; simp at this; omega
    | cons b r => rw [e] at hz; simpa [List.isPrefixOf] using hz
  unfold Lib.cut; rw [h2, if_pos (by omega)]; simp

theorem cut_not {c : UInt8} {l : List UInt8} (h : ∀ b ∈ l, b ≠ c) : Lib.cut l [c] = (l, [], false) := by
  have h1 : Lib.index l [c] = -1 := Lib.index_none fun j _ => noOccB h j
  unfold Lib.cut; rw [h1]; rfl

theorem okP_no {b : UInt8} (h : okP b = true) : b ≠ 58 ∧ b ≠ 10 := by
  refine ⟨?_, ?_⟩ <;> rintro rfl <;> revert h <;> decide
theorem let_no {b : UInt8} (h : isLet b = true) : b ≠ 45 ∧ b ≠ 34 ∧ b ≠ 32 ∧ b ≠ 35 := by
  refine ⟨?_, ?_, ?_, ?_⟩ <;> rintro rfl <;> revert h <;> decide

theorem plain_head {s : ByteArray} (h : plainB s = true) : ∃ b r, s.data.toList = b :: r ∧ isLet b = true ∧ r.all okP = true := by
  simp only [plainB, Bool.and_eq_true, decide_eq_true_eq] at h
  obtain ⟨⟨⟨h1, -⟩, h2⟩, -⟩ := h
  cases e : s.data.toList with
  | nil => have := list_size e; rw [List.length_nil] at this; omega
  | cons b r =>
    rw [e, goodL, Bool.and_eq_true] at h2
    exact ⟨b, r, rfl, h2.1, h2.2⟩

theorem plain_bytes {s : ByteArray} (h : plainB s = true) : ∀ b ∈ s.data.toList, b ≠ 58 ∧ b ≠ 10 := by
  obtain ⟨b, r, e, h1, h2⟩ := plain_head h
  intro x hx
  rw [e] at hx
  rcases List.mem_cons.1 hx with rfl | hx
  · exact okP_no (okP_let h1)
  · exact okP_no (List.all_eq_true.1 h2 x hx)

theorem bytes_eq {a b : ByteArray} (h : a.data.toList = b.data.toList) : a = b := by
  cases a; cases b
  exact congrArg ByteArray.mk (Array.toList_inj.1 h)

theorem extract_tail {s R : ByteArray} {l : List UInt8} (h : s.data.toList = l ++ R.data.toList) : s.extract l.length s.size = R := by
  refine bytes_eq ?_
  rw [ByteArray.data_extract, Array.toList_extract, List.extract_eq_take_drop, h, List.drop_left, list_size h]
  exact List.take_of_length_le (by simp)

set_option maxRecDepth 100000 in
set_option maxHeartbeats 4000000 in
/-- A Key that is written as it is. -/
theorem impl_cutKeyP (s key R : ByteArray) (hp : plainB key = true) (e : s.data.toList = key.data.toList ++ 58 :: R.data.toList) (hsz : s.size ≤ 7000) (m : Int) (w : World) (hm : MaxL w m) :
    Calls Tryz.prog 88 #[.string s] w fun e w' => e = .returned (.tuple #[.string key, .string R, .bool true]) ∧ Below w.heap.size w w' := by
  have eS : (⟨#[58]⟩ : ByteArray).data.toList = [58] := rfl
  have HC := Lib.hid (Tryz.strings_Cut s ⟨#[58]⟩ m w (by omega) hm)
  rw [eS, e, cut_at (fun b hb => (plain_bytes hp b hb).1)] at HC
  simp only [Array.toArray_toList] at HC
  have HP : Hid (∀ wx, Calls Tryz.prog 54 #[.string key] wx fun e w' => e = .returned (.bool (plainB key)) ∧ w' = wx) := fun wx => impl_plainOk _ (by have := plainB_le hp; unfold maxLen; omega) wx
  rw [hp] at HP
  clear e hp
  go_enter Tryz.func88, Tryz.ntmps88
  go_wp2_with fail
  refine HC.out.mono ?_
  rintro e w1 ⟨rfl, q, hq⟩
  have HB1 : Hid (Below w.heap.size w w1) := by
    rw [hq]
    exact blw_drewN (Below.refl _ _) _
  clear hq
  go_wp2_with (first
    | (go_at_call 54; refine (HP.out _).mono ?_; rintro e w2 ⟨rfl, e2⟩; subst w2)
    | fail)
  go_ret3
  exact ⟨rfl, HB1.out⟩

set_option maxRecDepth 100000 in
set_option maxHeartbeats 4000000 in
/-- A Key that is quoted. -/
theorem impl_cutKeyQ (s R : ByteArray) (l : List UInt8) (hl : l.all okByte = true) (e : s.data.toList = quoteL l ++ 58 :: R.data.toList) (hsz : s.size ≤ 7000) (m : Int) (w : World) (hm : MaxL w m) :
    Calls Tryz.prog 88 #[.string s] w fun e w' => e = .returned (.tuple #[.string ⟨l.toArray⟩, .string R, .bool true]) ∧ Below w.heap.size w w' := by
  have HC := Lib.hid (fun (wx : World) (hx : MaxL wx m) => Tryz.strings_Cut s ⟨#[58]⟩ m wx (by omega) hx)
  have eh : s.data.toList = 34 :: (escAll l ++ 34 :: (58 :: R.data.toList)) := by rw [e]; simp [quoteL]
  have hc1 : (Lib.cut s.data.toList [58]).1.length ≤ s.size := by
    unfold Lib.cut
    split
    · simp only [List.length_take]; have : s.data.toList.length = s.size := by simp
      omega
    · show s.data.toList.length ≤ _; simp
  have hpl : plainB ⟨(Lib.cut s.data.toList [58]).1.toArray⟩ = false := by
    unfold Lib.cut
    split
    · generalize (Lib.index s.data.toList [58]).toNat = n
      show plainB ⟨(s.data.toList.take n).toArray⟩ = false
      cases n with
      | zero => simp [plainB, ByteArray.size]
      | succ n =>
        have : goodL (⟨(s.data.toList.take (n + 1)).toArray⟩ : ByteArray).data.toList = false := by
          show goodL ((s.data.toList.take (n + 1)).toArray.toList) = false
          rw [List.toList_toArray, eh, List.take_succ_cons, goodL]; rfl
        simp only [plainB, this, Bool.and_false, Bool.false_and]
    · have : goodL (⟨s.data.toList.toArray⟩ : ByteArray).data.toList = false := by
        show goodL (s.data.toList.toArray.toList) = false
        rw [List.toList_toArray, eh, goodL]; rfl
      simp only [plainB, this, Bool.and_false, Bool.false_and]
  have HP : Hid (∀ wx, Calls Tryz.prog 54 #[.string ⟨(Lib.cut s.data.toList [58]).1.toArray⟩] wx fun e w' => e = .returned (.bool (plainB ⟨(Lib.cut s.data.toList [58]).1.toArray⟩)) ∧ w' = wx) := fun wx => impl_plainOk _ (by
    show (Lib.cut s.data.toList [58]).1.toArray.size ≤ maxLen
    rw [List.size_toArray]
    unfold maxLen; omega) wx
  rw [hpl] at HP
  have HQ := Lib.hid (fun (wx : World) (p : Nat) (hr : Rd wx p s 0 (.slice none 0 0) 0 0) => rd_quoted p s (by omega) 0 _ _ _ l _ hl (by rw [List.drop_zero]; exact eh) wx hr)
  have HW := Lib.hid (fun (wx : World) (p : Nat) (hr : Rd wx p s (0 + (quoteL l).length) (.slice none 0 0) 0 0) => rd_word p s (by unfold maxLen; omega) (0 + (quoteL l).length) _ _ _ ⟨#[58]⟩ (by decide) R.data.toList (by rw [e, Nat.zero_add, List.drop_left]; rfl) wx hr)
  have hx : s.extract ((quoteL l).length + 1) s.size = R := by
    have := extract_tail (s := s) (R := R) (l := quoteL l ++ [58]) (by rw [e]; simp)
    rwa [List.length_append] at this
  have hle : (quoteL l).length + 1 ≤ s.size := by rw [list_size e]; simp
  have HM := Lib.hid hm
  have eS : (⟨#[58]⟩ : ByteArray).data.toList = [58] := rfl
  have eS2 : (⟨#[58]⟩ : ByteArray).size = 1 := rfl
  rw [eS] at HC
  rw [eS2] at HW
  clear hm hpl hc1 eS e eh hl eS2
  generalize (Lib.cut s.data.toList [58]).1 = c1 at *
  generalize (Lib.cut s.data.toList [58]).2.1 = c2 at *
  generalize (Lib.cut s.data.toList [58]).2.2 = fo at *
  simp only [Nat.zero_add] at HQ HW
  generalize (quoteL l).length = n at *
  generalize hkey : (⟨l.toArray⟩ : ByteArray) = key at *
  have g0 : (0 : Int) ≤ (n : Int) + 1 := by omega
  have g1 : (n : Int) + 1 ≤ (s.size : Int) := by omega
  cases fo
  all_goals
    go_enter Tryz.func88, Tryz.ntmps88
    go_wp2_with fail
    refine (HC.out _ HM.out).mono ?_
    rintro e w1 ⟨rfl, q, hq⟩
    have HB1 : Hid (Below w.heap.size w w1) := by
      rw [hq]
      exact blw_drewN (Below.refl _ _) _
    clear hq
    go_wp2_with (first
      | (go_at_call 54; refine (HP.out _).mono ?_; rintro e w2 ⟨rfl, e2⟩; subst w2)
      | fail)
    have HR1 : Hid (Rd (w1.alloc (.cells #[.string s, .int .i64 0, .slice none 0 0, .int .i64 0, .int .i64 0] 97)) w1.heap.size s 0 (.slice none 0 0) 0 0) := heap_last w1 _
    have HB2 : Hid (Below w.heap.size w (w1.alloc (.cells #[.string s, .int .i64 0, .slice none 0 0, .int .i64 0, .int .i64 0] 97))) := HB1.out.alloc HB1.out.size _
    have HPl : Hid (w.heap.size ≤ w1.heap.size) := HB1.out.size
    refine (HQ.out _ _ HR1.out).mono ?_
    rintro e w2 ⟨rfl, hr, hg⟩
    have HB3 : Hid (Below w.heap.size w w2) := HB2.out.grown hg HB2.out.size (fun k e => by injection e with e; have := HPl.out; omega)
    have HWd := Lib.hid (HW.out _ _ hr)
    clear hr hg
    go_wp2_with fail
    refine HWd.out.mono ?_
    rintro e w3 ⟨rfl, hr3, hg3⟩
    have HB4 : Hid (Below w.heap.size w w3) := HB3.out.grown hg3 HB3.out.size (fun k e => by injection e with e; have := HPl.out; omega)
    have HR3 := Lib.hid hr3
    clear hg3 HWd
    obtain ⟨x0, x1, x2, x3, x4, x5⟩ := five hr3
    clear hr3
    go_wp2
    go_region_with fail
    all_goals
      go_wp2
      go_ret3
      exact ⟨by first | rfl | rw [hx], by first | exact HB4.out | exact blw_drewN HB4.out 1⟩
end Go.Proofs.YtmcjghhmcmkomaaGreatDoor

/- what the program takes a line for that is an entry of a list or a map: its kind, its Key, its value, and whether one stands there; condition: the library's MaxLen is a number. -/
namespace Go.Proofs.YtmcjghhmcmkomaaGreatDoor
open Go Go.RowKit

/-- The two entries that entryOf lays: what is answered, and what is filled. -/
def EnG (w wx : World) (k : Int) (key val : ByteArray) (al : Bool) : Prop := wx.heap[w.heap.size]? = some (.cells #[.int .i64 0, .string ⟨#[]⟩, .string ⟨#[]⟩, .bool false] 89 (0, 0)) ∧ wx.heap[w.heap.size + 1]? = some (.cells #[.int .i64 k, .string key, .string val, .bool al] 89 (0, 0)) ∧ Below w.heap.size w wx
theorem EnG.next {w wx wy : World} {k : Int} {key val : ByteArray} {al : Bool} (h : EnG w wx k key val al) (hb : Below wx.heap.size wx wy) : EnG w wy k key val al := ⟨blk_nextR h.1 hb, blk_nextR h.2.1 hb, h.2.2.trans (hb.mono h.2.2.size)⟩
theorem EnG.drew {w wx : World} {k : Int} {key val : ByteArray} {al : Bool} (h : EnG w wx k key val al) (n : Nat) : EnG w (wx.drewN n) k key val al := ⟨h.1, h.2.1, blw_drewN h.2.2 n⟩
theorem EnG.set {w wx : World} {k : Int} {key val : ByteArray} {al : Bool} (h : EnG w wx k key val al) (o : Nat) (v : Value) {k' : Int} {key' val' : ByteArray} {al' : Bool} (hv : (#[.int .i64 k, .string key, .string val, .bool al] : Array Value).setIfInBounds o v = #[.int .i64 k', .string key', .string val', .bool al']) : EnG w (wx.setCell ⟨w.heap.size + 1, o, none⟩ v) k' key' val' al' :=
  ⟨(Below.heap_setCell _ _ _ _ (by show w.heap.size ≠ w.heap.size + 1; omega)).trans h.1, by rw [heap_set h.2.1 o v, hv], h.2.2.setCell (p := ⟨w.heap.size + 1, o, none⟩) (by show w.heap.size ≤ w.heap.size + 1; omega) _⟩
theorem EnG.start (w : World) : EnG w ((w.alloc (.cells #[.int .i64 0, .string ⟨#[]⟩, .string ⟨#[]⟩, .bool false] 89)).alloc (.cells #[.int .i64 4, .string ⟨#[]⟩, .string ⟨#[]⟩, .bool false] 89)) 4 ⟨#[]⟩ ⟨#[]⟩ false := EnB.start w 4

/-- What stands behind a dash or a Key and its colon: nothing, or a blank and a value. -/
def Behind (R V : ByteArray) (al : Bool) : Prop := (al = true ∧ R = ⟨#[]⟩ ∧ V = ⟨#[]⟩) ∨ (al = false ∧ R.data.toList = 32 :: V.data.toList)

theorem behind_cut {R V : ByteArray} {al : Bool} (h : Behind R V al) (w : World) : Calls Tryz.prog 87 #[.string R, .string ⟨#[32]⟩] w fun e w' => e = .returned (.tuple #[.string V, .bool !al]) ∧ ∃ n, w' = w.drewN n := by
  rcases h with ⟨rfl, rfl, rfl⟩ | ⟨rfl, e⟩
  · exact impl_cutPrefix_no ⟨#[]⟩ ⟨#[32]⟩ rfl w
  · have h1 := impl_cutPrefix_yes R ⟨#[32]⟩ (by rw [pre_one e]; decide) (by rw [list_size e]; show 1 ≤ _; simp) w
    have h2 : R.extract 1 R.size = V := extract_tail (l := [32]) e
    have h3 : (⟨#[32]⟩ : ByteArray).size = 1 := rfl
    rw [h3, h2] at h1
    exact h1

theorem behind_none {R V : ByteArray} {al : Bool} (h : Behind R V al) : (R.toList == []) = al := by
  rcases h with ⟨rfl, rfl, rfl⟩ | ⟨rfl, e⟩
  · rw [ByteArray.toList_eq]; rfl
  · rw [toList_of e]; rfl

set_option maxRecDepth 100000 in
set_option maxHeartbeats 4000000 in
theorem entry_dash (s R V : ByteArray) (al : Bool) (e : s.data.toList = 45 :: R.data.toList) (hR : Behind R V al) (w : World) :
    Calls Tryz.prog 52 #[.string s] w fun e w' => e = .returned (.agg #[.int .i64 4, .string ⟨#[]⟩, .string V, .bool al]) ∧ Below w.heap.size w w' := by
  have H1 := Lib.hid (fun (wx : World) => impl_cutPrefix_yes s ⟨#[45]⟩ (by rw [pre_one e]; decide) (by rw [list_size e]; show 1 ≤ _; simp) wx)
  have h2 : s.extract 1 s.size = R := extract_tail (l := [45]) e
  have h3 : (⟨#[45]⟩ : ByteArray).size = 1 := rfl
  rw [h3, h2] at H1
  have H2 := Lib.hid (fun (wx : World) => behind_cut hR wx)
  have hne := behind_none hR
  clear e hR h2 h3
  go_enter Tryz.func52, Tryz.ntmps52
  go_wp2_with fail
  refine (H1.out _).mono ?_
  rintro e' w1 ⟨rfl, q, hq⟩
  have Q1 : Hid (EnG w w1 4 ⟨#[]⟩ ⟨#[]⟩ false) := by rw [hq]; exact (EnG.start w).drew q
  clear hq
  go_wp2_with fail
  refine (H2.out _).mono ?_
  rintro e' w2 ⟨rfl, q, hq⟩
  have Q2 : Hid (EnG w w2 4 ⟨#[]⟩ ⟨#[]⟩ false) := by rw [hq]; exact Q1.out.drew q
  clear hq H1 H2 Q1
  obtain ⟨z0, z1, z2, z3, z4⟩ := four Q2.out.1
  obtain ⟨y0, y1, y2, y3, y4⟩ := four Q2.out.2.1
  cases al
  · go_wp2_with fail
    have Q3 := (Q2.out.set 2 (.string V) rfl).set 3 (.bool false) rfl
    exact bodyPost_ret (ret_entry Tryz.results52 rfl (set4_end Q3.1 _ _ _ _)) rfl ⟨rfl, set4_below Q3.2.2 (Nat.le_refl _) _ _ _ _⟩
  · go_wp2_with fail
    have Q3 := (Q2.out.set 2 (.string V) rfl).set 3 (.bool true) rfl
    exact bodyPost_ret (ret_entry Tryz.results52 rfl (set4_end Q3.1 _ _ _ _)) rfl ⟨rfl, set4_below Q3.2.2 (Nat.le_refl _) _ _ _ _⟩

set_option maxRecDepth 100000 in
set_option maxHeartbeats 4000000 in
theorem entry_key (s key R V : ByteArray) (al : Bool) (b : UInt8) (r : List UInt8) (e : s.data.toList = b :: r) (hb : b ≠ 45) (hR : Behind R V al) (m : Int) (w : World) (hm : MaxL w m)
    (hk : ∀ wx, MaxL wx m → Calls Tryz.prog 88 #[.string s] wx fun e w' => e = .returned (.tuple #[.string key, .string R, .bool true]) ∧ Below wx.heap.size wx w') :
    Calls Tryz.prog 52 #[.string s] w fun e w' => e = .returned (.agg #[.int .i64 5, .string key, .string V, .bool al]) ∧ Below w.heap.size w w' := by
  have H1 := Lib.hid (fun (wx : World) => impl_cutPrefix_no s ⟨#[45]⟩ (by rw [pre_one e]; simpa using fun h => hb h.symm) wx)
  have HK := Lib.hid hk
  have HM := Lib.hid hm
  have H2 := Lib.hid (fun (wx : World) => behind_cut hR wx)
  have hne := behind_none hR
  clear e hR hk hm hb
  go_enter Tryz.func52, Tryz.ntmps52
  go_wp2_with fail
  refine (H1.out _).mono ?_
  rintro e' w1 ⟨rfl, q, hq⟩
  have Q1 : Hid (EnG w w1 4 ⟨#[]⟩ ⟨#[]⟩ false) := by rw [hq]; exact (EnG.start w).drew q
  clear hq
  obtain ⟨y0, y1, y2, y3, y4⟩ := four Q1.out.2.1
  go_wp2_with fail
  have Q2 : Hid (EnG w (w1.setCell ⟨w.heap.size + 1, 0, none⟩ (.int .i64 5)) 5 ⟨#[]⟩ ⟨#[]⟩ false) := Q1.out.set 0 (.int .i64 5) rfl
  refine (HK.out _ (HM.out.stay Q2.out.2.2 HM.out.lt)).mono ?_
  rintro e' w2 ⟨rfl, hb2⟩
  replace Q2 := Lib.hid (Q2.out.next hb2)
  clear hb2 y0 y1 y2 y3 y4
  obtain ⟨y0, y1, y2, y3, y4⟩ := four Q2.out.2.1
  go_wp2_with fail
  have Q4 : Hid (EnG w (w2.setCell ⟨w.heap.size + 1, 1, none⟩ (.string key)) 5 key ⟨#[]⟩ false) := Q2.out.set 1 (.string key) rfl
  refine (H2.out _).mono ?_
  rintro e' w3 ⟨rfl, q, hq⟩
  have Q3 : Hid (EnG w w3 5 key ⟨#[]⟩ false) := by rw [hq]; exact Q4.out.drew q
  clear hq Q2 Q1 Q4 H1 H2 y0 y1 y2 y3 y4 HK
  obtain ⟨z0, z1, z2, z3, z4⟩ := four Q3.out.1
  obtain ⟨y0, y1, y2, y3, y4⟩ := four Q3.out.2.1
  cases al
  · go_wp2_with fail
    have Q5 := (Q3.out.set 2 (.string V) rfl).set 3 (.bool false) rfl
    exact bodyPost_ret (ret_entry Tryz.results52 rfl (set4_end Q5.1 _ _ _ _)) rfl ⟨rfl, set4_below Q5.2.2 (Nat.le_refl _) _ _ _ _⟩
  · go_wp2_with fail
    have Q5 := (Q3.out.set 2 (.string V) rfl).set 3 (.bool true) rfl
    exact bodyPost_ret (ret_entry Tryz.results52 rfl (set4_end Q5.1 _ _ _ _)) rfl ⟨rfl, set4_below Q5.2.2 (Nat.le_refl _) _ _ _ _⟩

/-- The text of a line's value. -/
def Ln.value (l : Ln) : ByteArray := match l.val with
  | none => ⟨#[]⟩
  | some X => ⟨(inlL X).toArray⟩

/-- What a written line is taken for. -/
theorem impl_entryLn (l : Ln) (hg : l.good) (s : ByteArray) (e : s.data.toList = l.text) (hsz : s.size ≤ 7000) (m : Int) (w : World) (hm : MaxL w m) :
    Calls Tryz.prog 52 #[.string s] w fun e w' => e = .returned (.agg #[.int .i64 l.kind, .string l.key, .string l.value, .bool l.val.isNone]) ∧ Below w.heap.size w w' := by
  obtain ⟨R, eR, hR⟩ : ∃ R : ByteArray, l.text = headL l.kind l.key ++ R.data.toList ∧ Behind R l.value l.val.isNone := by
    unfold Ln.text Ln.value
    cases l.val with
    | none => exact ⟨⟨#[]⟩, rfl, .inl ⟨rfl, rfl, rfl⟩⟩
    | some X => exact ⟨⟨(32 :: inlL X).toArray⟩, by simp, .inr ⟨rfl, by simp⟩⟩
  rw [eR] at e
  rcases hg.1 with ⟨hk, hke⟩ | ⟨hk, hke⟩
  · rw [hk, hke]
    rw [hk, hke] at e
    exact entry_dash s R _ _ e hR w
  · rw [hk]
    rw [hk] at e
    have e' : s.data.toList = keyL l.key ++ 58 :: R.data.toList := by rw [e]; simp [headL]
    clear e
    unfold keyL at e'
    split at e'
    · rename_i hp
      obtain ⟨b, r, e1, e2, -⟩ := plain_head hp
      exact entry_key s l.key R _ _ b _ (by rw [e', e1]; rfl) (let_no e2).1 hR m w hm (fun wx hx => impl_cutKeyP s l.key R hp e' hsz m wx hx)
    · have hq : (quoteT l.key).data.toList = quoteL l.key.data.toList := by unfold quoteT; rw [if_pos hke]
      rw [hq] at e'
      have hall : l.key.data.toList.all okByte = true := by
        unfold textOk at hke
        exact (Bool.and_eq_true_iff.1 hke).2
      have hk2 := fun wx hx => impl_cutKeyQ s R l.key.data.toList hall e' hsz m wx hx
      simp only [Array.toArray_toList] at hk2
      exact entry_key s l.key R _ _ 34 _ (by rw [e']; rfl) (by decide) hR m w hm hk2
end Go.Proofs.YtmcjghhmcmkomaaGreatDoor
