/-
  What is proved: a line's value, written as it is or in braces, is read as the tree it was written of; the outliner takes a line that is a value alone.; a range over a function whose rounds are numbered: what holds ahead of round i holds, one number on, behind it; a round keeps the loop's two blocks; every round ends as it should.; the program's linesOf hands on a text's lines with their numbers, and ends; condition: the library's MaxLen is a number.; the outliner's state between lines, whatever a line is: nothing, an entry, a value alone.; the outliner's state stays where none of its blocks is turned; how it ends.
-/
import Derived.Test.YtmcjghhmcmkomaaGreatDoorPartAZ
import Derived.Test.YtmcjghhmcmkomaaGreatDoorPartAC
import Derived.Test.YtmcjghhmcmkomaaGreatDoorPartAO
import Derived.Test.YtmcjghhmcmkomaaGreatDoorPartAP
/- a line's value, written as it is or in braces, is read as the tree it was written of; the outliner takes a line that is a value alone. -/
namespace Go.Proofs.YtmcjghhmcmkomaaGreatDoor
open Go Go.RowKit

set_option maxRecDepth 100000 in
set_option maxHeartbeats 2000000 in
theorem valAt_plain (s : ByteArray) (hp : plainB s = true) : ValAt s (.node 3 0 s [] []) := fun w => by
  have HP : Hid (∀ wx, Calls Tryz.prog 54 #[.string s] wx fun e w' => e = .returned (.bool (plainB s)) ∧ w' = wx) := fun wx => impl_plainOk _ (by have := plainB_le hp; unfold maxLen; omega) wx
  have hsz : s.size ≤ maxLen := by have := plainB_le hp; unfold maxLen; omega
  rw [hp] at HP
  clear hp
  have hb0 := (Below.refl _ w).alloc (Nat.le_refl _) (.cells #[.int .i64 0, .int .i64 0, .string ⟨#[]⟩, .slice none 0 0, .slice none 0 0] 27)
  have HZ := Lib.hid (And.intro (heap_last w (.cells #[.int .i64 0, .int .i64 0, .string ⟨#[]⟩, .slice none 0 0, .slice none 0 0] 27)) hb0)
  clear hb0
  go_enter Tryz.func131, Tryz.ntmps131
  go_wp2_with (first
    | (go_at_call 54; refine (HP.out _).mono ?_; rintro e w1 ⟨rfl, e1⟩; subst w1)
    | fail)
  refine (impl_textOf s _).mono ?_
  rintro e w2 ⟨rfl, hb⟩
  have HZ2 := Lib.hid (blk_nextR HZ.out.1 hb)
  have HB2 := Lib.hid (HZ.out.2.trans (hb.mono HZ.out.2.size))
  clear hb
  obtain ⟨z0, z1, z2, z3, z4, z5⟩ := five HZ2.out
  go_wp2_with fail
  exact bodyPost_ret (ret_node2 Tryz.results131 rfl rfl (set5_end HZ2.out _ _ _ _ _)) rfl ⟨_, _, [], rfl, leaf_lies _ ⟨by decide, by decide⟩ ⟨by decide, by decide⟩ hsz, Fresh.nil _ _, set5_below HB2.out (Nat.le_refl _) _ _ _ _ _ _⟩

/-- A line's value is read as the tree that it was written of. -/
theorem valAt_inl (X : RT) (hok : treeOk X = true) (h0 : X.kids.length = 0) : ValAt ⟨(inlL X).toArray⟩ X := by
  obtain ⟨-, -, hr⟩ := treeOk_parts hok
  by_cases hp : X.k = 3 ∧ plainB X.s = true
  · have e : (⟨(inlL X).toArray⟩ : ByteArray) = X.s := by unfold inlL; rw [if_pos hp]
    have eX : X = .node 3 0 X.s [] [] := by
      obtain ⟨hh, -⟩ := right_out hr
      cases X with
      | node k n s keys kids =>
        have hk : k = 3 := hp.1
        rcases hh with q | q | q | q | q | q
        · have : k = 0 := q.1; omega
        · have : k = 1 := q.1; omega
        · have : k = 2 := q.1; omega
        · have e1 : n = 0 := q.2.1
          have e2 : keys = [] := List.length_eq_zero_iff.1 q.2.2.2.1
          have e3 : kids = [] := List.length_eq_zero_iff.1 q.2.2.2.2
          subst hk e1 e2 e3
          rfl
        · have : k = 4 := q.1; omega
        · have : k = 5 := q.1; omega
    rw [e]
    have := valAt_plain X.s hp.2
    rwa [← eX] at this
  · have e : inlL X = X.brac := by unfold inlL; rw [if_neg hp]
    have hsz := inlL_length hr
    rw [size_leaf h0, e] at hsz
    rw [e]
    exact fun w => impl_valueOf X hok (by omega) w

theorem Oz.next {w w' : World} {b : Nat} {ov : Value} {due : Bool} {ent : Nat} {k n : Int} {s : ByteArray} {kv dv : Value} (h : Oz w b ov due ent k n s kv dv) (hb : Below w.heap.size w w') : Oz w' b ov due ent k n s kv dv := blk_nextR h hb
theorem Oz.due {w : World} {b : Nat} {ov : Value} {due : Bool} {ent : Nat} {k n : Int} {s : ByteArray} {kv dv : Value} (h : Oz w b ov due ent k n s kv dv) (d : Bool) : Oz (w.setCell ⟨b, 1, none⟩ (.bool d)) b ov d ent k n s kv dv := heap_set h 1 _

set_option maxRecDepth 100000 in
set_option maxHeartbeats 2000000 in
theorem ov_give (T : RT) (st : ByteArray) (hv : ValAt st T) {o0 : Option Addr} {c0 en0 : Nat} (b : Nat) (due : Bool) (k n : Int) (s : ByteArray) (kv dv : Value) (w : World) (h : Oz w b (.slice o0 0 c0) due en0 k n s kv dv) :
    Calls Tryz.prog 112 #[.pointer (some ⟨b, 0, none⟩), .string st] w fun e w' => e = .returned (.bool true) ∧ ∃ kx dx F, Oz w' b (.slice o0 0 c0) false en0 T.k T.n T.s kx dx ∧ Lies w' T kx dx F ∧ Fresh w w' F ∧ w.grownBy w' (some b) := by
  have HV := Lib.hid hv
  have H := Lib.hid h
  clear hv h
  go_enter Tryz.func112, Tryz.ntmps112
  go_wp2_with fail
  refine (HV.out _).mono ?_
  rintro e w1 ⟨kx, dx, F, rfl, hl, hf, hb⟩
  obtain ⟨⟨o1, c1, rfl⟩, ⟨o2, c2, rfl⟩⟩ := hl.slices
  have hb2 := (Below.refl _ w1).alloc (Nat.le_refl _) (.cells #[.int .i64 T.k, .int .i64 T.n, .string T.s, .slice o1 T.keys.length c1, .slice o2 T.kids.length c2] 27)
  have H2 : Hid (Oz (w1.alloc (.cells #[.int .i64 T.k, .int .i64 T.n, .string T.s, .slice o1 T.keys.length c1, .slice o2 T.kids.length c2] 27)) b (.slice o0 0 c0) due en0 k n s kv dv ∧ Lies (w1.alloc (.cells #[.int .i64 T.k, .int .i64 T.n, .string T.s, .slice o1 T.keys.length c1, .slice o2 T.kids.length c2] 27)) T (.slice o1 T.keys.length c1) (.slice o2 T.kids.length c2) F ∧ Fresh w (w1.alloc (.cells #[.int .i64 T.k, .int .i64 T.n, .string T.s, .slice o1 T.keys.length c1, .slice o2 T.kids.length c2] 27)) F ∧ Below w.heap.size w (w1.alloc (.cells #[.int .i64 T.k, .int .i64 T.n, .string T.s, .slice o1 T.keys.length c1, .slice o2 T.kids.length c2] 27))) :=
    ⟨(H.out.next hb).next hb2, hl.stay hb2 (Nat.le_refl _), hf.carry fun y hy => hb2.block y (hl.lt y hy), hb.trans (hb2.mono hb.size)⟩
  have hne : ¬ b = w1.heap.size := by have := H.out.lt; have := hb.size; omega
  have hne' : ¬ w1.heap.size = b := fun e => hne e.symm
  obtain ⟨x0, x1, x2, x3, x4, x5, x6, x7, x8⟩ := H2.out.1.eight
  have HL := Lib.hid H.out.lt
  have HS1 := Lib.hid hb.size
  clear hl hf hb hb2
  go_wp2_with fail
  have H3 := Lib.hid (H2.out.1.due false)
  refine (oz_put _ _ _ _ _ _ _ _ _ _ _ _ _ _ _ _ _ _ _ _ H3.out).mono ?_
  rintro e w3 ⟨⟨v, rfl⟩, ho, hg⟩
  have hlt := HL.out
  have hs1 := HS1.out
  have keep : ∀ y ∈ F, w3.heap[y]? = (w1.alloc (.cells #[.int .i64 T.k, .int .i64 T.n, .string T.s, .slice o1 T.keys.length c1, .slice o2 T.kids.length c2] 27)).heap[y]? := fun y hy => by
    have h1 := H2.out.2.2.1.old y hy
    have h2 := H2.out.2.1.lt y hy
    rw [hg.block y (by simpa [World.setCell] using h2) (fun e => by injection e with e; omega), Below.heap_setCell _ _ _ _ (by show y ≠ b; omega)]
  have HF : Hid (Oz w3 b (.slice o0 0 c0) false en0 T.k T.n T.s (.slice o1 T.keys.length c1) (.slice o2 T.kids.length c2) ∧ Lies w3 T (.slice o1 T.keys.length c1) (.slice o2 T.kids.length c2) F ∧ Fresh w w3 F ∧ w.grownBy w3 (some b)) := ⟨ho, H2.out.2.1.carry keep, H2.out.2.2.1.carry keep, grw_trans (grw_trans (grw_below H2.out.2.2.2) (grw_set _ _ _ _)) hg⟩
  clear ho hg keep x0 x1 x2 x3 x4 x5 x6 x7 x8
  go_wp2
  go_ret
  exact ⟨rfl, _, _, F, HF.out⟩

set_option maxRecDepth 100000 in
set_option maxHeartbeats 2000000 in
theorem ov_begin (T : RT) (st : ByteArray) (hv : ValAt st T) {o0 : Option Addr} {c0 en0 : Nat} (b : Nat) (due : Bool) (k n : Int) (s : ByteArray) (kv dv : Value) (w : World) (h : Oz w b (.slice o0 0 c0) due en0 k n s kv dv) :
    Calls Tryz.prog 85 #[.pointer (some ⟨b, 0, none⟩), .agg #[.int .i64 0, .string ⟨#[]⟩, .string st, .bool false]] w fun e w' => e = .returned (.bool true) ∧ ∃ kx dx F, Oz w' b (.slice o0 0 c0) false en0 T.k T.n T.s kx dx ∧ Lies w' T kx dx F ∧ Fresh w w' F ∧ w.grownBy w' (some b) := by
  have hb0 := (Below.refl _ w).alloc (Nat.le_refl _) (.cells #[.int .i64 0, .string ⟨#[]⟩, .string st, .bool false] 89)
  have HV := Lib.hid (ov_give T st hv b due k n s kv dv _ (h.next hb0))
  have HB := Lib.hid hb0
  obtain ⟨x0, x1, x2, x3, x4, x5, x6, x7, x8⟩ := (h.next hb0).eight
  clear hv h hb0
  go_enter Tryz.func85, Tryz.ntmps85
  go_wp2_with fail
  refine HV.out.mono ?_
  rintro e w1 ⟨rfl, kx, dx, F, h1, h2, h3, h4⟩
  have HF : Hid (Oz w1 b (.slice o0 0 c0) false en0 T.k T.n T.s kx dx ∧ Lies w1 T kx dx F ∧ Fresh w w1 F ∧ w.grownBy w1 (some b)) := ⟨h1, h2, h3.earlier HB.out.size, grw_trans (grw_below HB.out) h4⟩
  clear h1 h2 h3 h4
  go_wp2
  go_ret
  exact ⟨rfl, _, _, F, HF.out⟩

set_option maxRecDepth 100000 in
set_option maxHeartbeats 2000000 in
theorem ov_take (T : RT) (st : ByteArray) (hv : ValAt st T) {o0 : Option Addr} {c0 en0 : Nat} (b : Nat) (k n : Int) (s : ByteArray) (kv dv : Value) (w : World) (h : Oz w b (.slice o0 0 c0) true en0 k n s kv dv) :
    Calls Tryz.prog 51 #[.pointer (some ⟨b, 0, none⟩), .int .i64 0, .agg #[.int .i64 0, .string ⟨#[]⟩, .string st, .bool false]] w fun e w' => e = .returned (.bool true) ∧ ∃ kx dx F, Oz w' b (.slice o0 0 c0) false en0 T.k T.n T.s kx dx ∧ Lies w' T kx dx F ∧ Fresh w w' F ∧ w.grownBy w' (some b) := by
  have hb0 := (Below.refl _ w).alloc (Nat.le_refl _) (.cells #[.int .i64 0, .string ⟨#[]⟩, .string st, .bool false] 89)
  have HV := Lib.hid (ov_begin T st hv b true k n s kv dv _ (h.next hb0))
  have HB := Lib.hid hb0
  obtain ⟨x0, x1, x2, x3, x4, x5, x6, x7, x8⟩ := (h.next hb0).eight
  clear hv h hb0
  go_enter Tryz.func51, Tryz.ntmps51
  go_wp2_with fail
  refine HV.out.mono ?_
  rintro e w1 ⟨rfl, kx, dx, F, h1, h2, h3, h4⟩
  have HF : Hid (Oz w1 b (.slice o0 0 c0) false en0 T.k T.n T.s kx dx ∧ Lies w1 T kx dx F ∧ Fresh w w1 F ∧ w.grownBy w1 (some b)) := ⟨h1, h2, h3.earlier HB.out.size, grw_trans (grw_below HB.out) h4⟩
  clear h1 h2 h3 h4
  go_wp2
  go_ret
  exact ⟨rfl, _, _, F, HF.out⟩


set_option maxRecDepth 100000 in
set_option maxHeartbeats 4000000 in
/-- A text without a colon is no Key. -/
theorem impl_cutKeyN (s : ByteArray) (hp : plainB s = true) (m : Int) (w : World) (hm : MaxL w m) :
    Calls Tryz.prog 88 #[.string s] w fun e w' => e = .returned (.tuple #[.string ⟨#[]⟩, .string ⟨#[]⟩, .bool false]) ∧ Below w.heap.size w w' := by
  obtain ⟨b, r, eb, hlet, -⟩ := plain_head hp
  have hle := plainB_le hp
  have eS : (⟨#[58]⟩ : ByteArray).data.toList = [58] := rfl
  have HC := Lib.hid (Tryz.strings_Cut s ⟨#[58]⟩ m w (by omega) hm)
  rw [eS, cut_not (fun b hb => (plain_bytes hp b hb).1)] at HC
  simp only [Array.toArray_toList] at HC
  have HQ := Lib.hid (fun (wx : World) (p : Nat) (hr : Rd wx p s 0 (.slice none 0 0) 0 0) => rd_quoted_no p s 0 (Nat.zero_le _) _ _ _ (by rw [(nextB_drop (b := b) (l := r) (by simpa using eb)).1]; exact (let_no hlet).2.1) wx hr)
  clear hp hm eb hlet
  go_enter Tryz.func88, Tryz.ntmps88
  go_wp2_with fail
  refine HC.out.mono ?_
  rintro e w1 ⟨rfl, q, hq⟩
  have HB1 : Hid (Below w.heap.size w w1) := by
    rw [hq]
    exact blw_drewN (Below.refl _ _) _
  clear hq
  go_wp2_with fail
  have HR1 : Hid (Rd (w1.alloc (.cells #[.string s, .int .i64 0, .slice none 0 0, .int .i64 0, .int .i64 0] 97)) w1.heap.size s 0 (.slice none 0 0) 0 0) := heap_last w1 _
  have HB2 : Hid (Below w.heap.size w (w1.alloc (.cells #[.string s, .int .i64 0, .slice none 0 0, .int .i64 0, .int .i64 0] 97))) := HB1.out.alloc HB1.out.size _
  refine (HQ.out _ _ HR1.out).mono ?_
  rintro e w2 ⟨⟨v, rfl, u, rfl⟩, hb⟩
  have HB3 := Lib.hid (HB2.out.trans (hb.mono HB2.out.size))
  clear hb HQ
  go_wp2
  go_ret3
  exact ⟨rfl, HB3.out⟩

set_option maxRecDepth 100000 in
set_option maxHeartbeats 4000000 in
theorem entry_alone (s : ByteArray) (b : UInt8) (r : List UInt8) (e : s.data.toList = b :: r) (hb : b ≠ 45) (m : Int) (w : World) (hm : MaxL w m)
    (hk : ∀ wx, MaxL wx m → Calls Tryz.prog 88 #[.string s] wx fun e w' => e = .returned (.tuple #[.string ⟨#[]⟩, .string ⟨#[]⟩, .bool false]) ∧ Below wx.heap.size wx w') :
    Calls Tryz.prog 52 #[.string s] w fun e w' => e = .returned (.agg #[.int .i64 0, .string ⟨#[]⟩, .string s, .bool false]) ∧ Below w.heap.size w w' := by
  have HK := Lib.hid hk
  have HM := Lib.hid hm
  have H1 := Lib.hid (fun (wx : World) => impl_cutPrefix_no s ⟨#[45]⟩ (by rw [pre_one e]; simpa using fun h => hb h.symm) wx)
  have H2 := Lib.hid (fun (wx : World) => impl_cutPrefix_no ⟨#[]⟩ ⟨#[32]⟩ rfl wx)
  clear hm hk e hb
  go_enter Tryz.func52, Tryz.ntmps52
  go_wp2_with fail
  refine (H1.out _).mono ?_
  rintro e' w1 ⟨rfl, q, hq⟩
  have Q1 : Hid (EnB w w1 4) := by rw [hq]; exact (EnB.start w 4).drew q
  clear hq
  obtain ⟨y0, y1, y2, y3, y4⟩ := four Q1.out.2.1
  go_wp2_with fail
  have Q2 := Lib.hid (Q1.out.kind 5)
  refine (HK.out _ (HM.out.stay Q2.out.2.2 HM.out.lt)).mono ?_
  rintro e' w2 ⟨rfl, hb2⟩
  replace Q2 := Lib.hid (Q2.out.next hb2)
  clear hb2 y0 y1 y2 y3 y4
  obtain ⟨y0, y1, y2, y3, y4⟩ := four Q2.out.2.1
  go_wp2_with fail
  replace Q2 := Lib.hid Q2.out.key
  refine (H2.out _).mono ?_
  rintro e' w3 ⟨rfl, q, hq⟩
  have Q3 : Hid (EnB w w3 5) := by rw [hq]; exact Q2.out.drew q
  clear hq Q2 Q1 H1 H2 y0 y1 y2 y3 y4
  obtain ⟨z0, z1, z2, z3, z4⟩ := four Q3.out.1
  go_wp2_with fail
  exact bodyPost_ret (ret_entry Tryz.results52 rfl (set4_end Q3.out.1 _ _ _ _)) rfl ⟨rfl, set4_below Q3.out.2.2 (Nat.le_refl _) _ _ _ _⟩

/-- A line that is a value alone. -/
theorem entry_inl (X : RT) (hok : treeOk X = true) (h0 : X.kids.length = 0) (m : Int) (w : World) (hm : MaxL w m) :
    Calls Tryz.prog 52 #[.string ⟨(inlL X).toArray⟩] w fun e w' => e = .returned (.agg #[.int .i64 0, .string ⟨#[]⟩, .string ⟨(inlL X).toArray⟩, .bool false]) ∧ Below w.heap.size w w' := by
  obtain ⟨-, -, hr⟩ := treeOk_parts hok
  by_cases hp : X.k = 3 ∧ plainB X.s = true
  · have e : (⟨(inlL X).toArray⟩ : ByteArray) = X.s := by unfold inlL; rw [if_pos hp]
    rw [e]
    obtain ⟨b, r, eb, hlet, -⟩ := plain_head hp.2
    exact entry_alone X.s b r eb (let_no hlet).1 m w hm (fun wx hx => impl_cutKeyN X.s hp.2 m wx hx)
  · have e : inlL X = X.brac := by unfold inlL; rw [if_neg hp]
    have hsz := inlL_length hr
    rw [size_leaf h0, e] at hsz
    rw [e]
    exact impl_entryOf _ (lone_of hr (by omega)) m w hm
end Go.Proofs.YtmcjghhmcmkomaaGreatDoor

/- a range over a function whose rounds are numbered: what holds ahead of round i holds, one number on, behind it; a round keeps the loop's two blocks; every round ends as it should. -/
namespace Go.Proofs.YtmcjghhmcmkomaaGreatDoor
open Go Go.RowKit Go.Shelf

/-- An iterator that hands on these rows in this order, and ends; what it needs of the world between rounds is K. -/
def Rowed (F : Fence) (n : Nat) (P : Program) (g : Nat) (lb : Array Value) (row : Nat → Array Value) (N : Nat) (K : World → Prop) (w : World) : Prop :=
  ∀ (l : Nat) (J : Nat → World → Prop) (W : World), Below w.heap.size w W → (∀ i W W', J i W → Below W.heap.size W W' → J i W') →
    (∀ i W1, i < N → J i W1 → YieldAt F (n - 1) P l (row i) W1 fun e W' => e = .returned (.bool true) ∧ J (i + 1) W' ∧ K W') →
    J 0 W → CallsIn F n P g (#[.func (.yield l) #[] #[]] ++ lb) W fun e W' => (∃ v, e = .returned v) ∧ J N W'

/-- What is said of blocks that are none of the loop's two. -/
def Rides (b : Nat) (I : Nat → World → Prop) : Prop :=
  ∀ i W W' row, I i W → W.grownBy W' row → (∀ r, row = some r → r = b ∨ r = b + 1) → I i W'

theorem wpIn_rowed {F : Fence} {n : Nat} {P : Program} {g : Operand} {ps : Array Tmp} {assign body : Code} {Q : Exit → Act → World → Prop} {a : Act} {w w0 : World}
    (hro : F.round = none) (h1 : 1 ≤ n) {gf : Nat} {lb : Array Value} (hg : a.eval g = .func (.func gf) #[] lb) (hFg : F.fn gf) (eg : ∀ args w, (callFunc gf args).run P w = .ok (.enter gf args) w)
    {row : Nat → Array Value} {N : Nat} {K : World → Prop} (hseq : Rowed F (n - 1) P gf lb row N K w0) (hb0 : Below w0.heap.size w0 w) (hps : ∀ i, (row i).size = ps.size)
    (I : Nat → World → Prop) (hI : Rides w.heap.size I) (hK : ∀ i W, I i W → K W) (h0 : ∀ o1 o2, I 0 ((w.alloc o1).alloc o2)) (a₁ : Nat → Act)
    (hassign : ∀ (l i : Nat) (W : World) (K : Act → World → Prop), K (a₁ i) W →
      assign.wpIn (F.inRound l) (n - 1 - 1) P (Exit.then K (fun _ _ _ => False)) { tmps := (ps.zip (row i)).foldl (fun t (p, v) => t.setIfInBounds p v) a.tmps, defers := [] } W)
    (hbody : ∀ (l i : Nat) (W : World), i < N → I i W → w.heap.size + 2 ≤ W.heap.size → body.wpIn (F.inRound l) (n - 1 - 1) P (fun e _ W' => e = .normal ∧ I (i + 1) W' ∧ W.heap.size ≤ W'.heap.size ∧ W'.heap[w.heap.size]? = W.heap[w.heap.size]? ∧ W'.heap[w.heap.size + 1]? = W.heap[w.heap.size + 1]?) (a₁ i) W)
    (hdone : ∀ W, I N W → W.heap[w.heap.size]? = some (.deferred (some [])) → Q .normal { a with defers := { target := .collected w.heap.size, args := #[] } :: a.defers } W) :
    (Code.rangeFunc g ps assign body).wpIn F n P Q a w := by
  refine wpIn_rangeFunc fun fn hfn => ?_
  rw [hro]
  generalize hR : (fun st => ({ state := st, pending := none, fn, tmps := a.tmps, params := ps, assign, body, defers := w.heap.size } : Loop)) = R
  have hR' : ∀ st, R st = { state := st, pending := none, fn, tmps := a.tmps, params := ps, assign, body, defers := w.heap.size } := fun st => by rw [← hR]
  have ride : ∀ i (W : World) (o : Obj), I i W → I i (W.putObj (w.heap.size + 1) o) := fun i W o h => hI i W _ (some (w.heap.size + 1)) h (grownBy_putObj' W _ o) fun r e => .inr (by injection e with e; exact e.symm)
  -- between rounds: the caller's word, the loop's record ready, the block for what is deferred
  let J : Nat → World → Prop := fun i W => I i W ∧ W.heap[w.heap.size + 1]? = some (.loop (R .ready)) ∧ W.heap[w.heap.size]? = some (.deferred (some []))
  have hJ0 : J 0 ((w.alloc (.deferred (some []))).alloc (.loop (R .ready))) := by
    refine ⟨h0 _ _, ?_, ?_⟩
    · have := World.alloc_heap_new (w.alloc (.deferred (some []))) (.loop (R .ready)); rwa [World.size_alloc] at this
    · exact (Below.heap_alloc _ _ _ (by simp)).trans (World.alloc_heap_new w _)
  have hbW : Below w0.heap.size w0 ((w.alloc (.deferred (some []))).alloc (.loop (R .ready))) := hb0.trans ((((Below.refl _ w).alloc (Nat.le_refl _) _).alloc (by simp) _).mono hb0.size)
  have hJa : ∀ i W W', J i W → Below W.heap.size W W' → J i W' := fun i W W' hj hb =>
    ⟨hI i W W' none hj.1 (grw_below hb) (fun r e => by cases e), (hb.block _ (Array.getElem?_eq_some_iff.1 hj.2.1).1).trans hj.2.1, (hb.block _ (Array.getElem?_eq_some_iff.1 hj.2.2).1).trans hj.2.2⟩
  obtain ⟨W1, hW1⟩ : ∃ W1, (w.alloc (.deferred (some []))).alloc (.loop (R .ready)) = W1 := ⟨_, rfl⟩
  rw [hW1] at hJ0 hbW
  refine ⟨w.heap.size + 1, [{ target := .collected w.heap.size, args := #[] }], W1, { target := .fn (.func gf) lb, args := #[.func (.yield (w.heap.size + 1)) #[] #[]] }, W1, gf, #[.func (.yield (w.heap.size + 1)) #[] #[]] ++ lb, W1,
    ?_, by simp only [resolve, hg]; simp [go_sem], fun f' hf' => ?_, by simp [invoke, go_sem, eg], fun _ => h1, ?_⟩
  · rw [← hW1, hR']; exact run_enterLoop_outer _ _ _ _ _
  · simp [Target.leads] at hf'; subst hf'; exact hFg
  · refine (hseq _ J _ hbW hJa (fun i W hi hj => ?_) hJ0).mono ?_
    · obtain ⟨hii, hl, hk⟩ := hj
      have hlt := (Array.getElem?_eq_some_iff.1 hl).1
      have hy := run_yield (P := P) (args := row i) hl (by rw [hR']; exact hps i)
      rw [hR'] at hy
      refine ⟨fn, _, assign, body, hy, roundIn_of_wpIn hfn (hassign _ i W _ ⟨_, run_beginRound hl (by rw [hR']), ?_⟩)⟩
      have hl2 : (W.putObj (w.heap.size + 1) (.loop { R .ready with state := .busy })).heap[w.heap.size + 1]? = some (.loop { R .ready with state := .busy }) := World.putObj_heap_same hlt
      have hk2 : (W.putObj (w.heap.size + 1) (.loop { R .ready with state := .busy })).heap[w.heap.size]? = some (.deferred (some [])) := (World.putObj_heap_other (by omega)).trans hk
      have hs2 : w.heap.size + 2 ≤ (W.putObj (w.heap.size + 1) (.loop { R .ready with state := .busy })).heap.size := by simp; omega
      refine wpIn_mono (hbody _ i _ hi (ride i W _ hii) hs2) ?_
      rintro e a3 W3 ⟨rfl, hi3, hs3, hk3, hl3⟩
      have hl3 := hl3.trans hl2
      have hlt3 := (Array.getElem?_eq_some_iff.1 hl3).1
      refine ⟨_, _, run_endRound (P := P) none hl3, rfl, ⟨ride _ _ _ hi3, ?_, (World.putObj_heap_other (by omega)).trans (hk3.trans hk2)⟩, hK _ _ (ride _ _ _ hi3)⟩
      rw [World.putObj_heap_same hlt3, hR']
      rfl
    · rintro e W2 ⟨⟨v, rfl⟩, hi, hl, hk⟩
      have := run_endLoop (P := P) hl (by rw [hR']; simp)
      rw [hR'] at this
      exact ⟨none, _, this, hdone _ (ride _ _ _ hi) ((World.putObj_heap_other (by omega)).trans hk)⟩

end Go.Proofs.YtmcjghhmcmkomaaGreatDoor

/- the program's linesOf hands on a text's lines with their numbers, and ends; condition: the library's MaxLen is a number. -/
namespace Go.Proofs.YtmcjghhmcmkomaaGreatDoor
open Go Go.RowKit Go.Shelf

attribute [local go_sem] Oper.semAt_some

/-- A text as a row of lines: what is left of it ahead of each line. -/
structure Lined (N : Nat) (line rest : Nat → ByteArray) : Prop where
  end_ : rest N = ⟨#[]⟩
  some_ : ∀ i, i < N → (rest i).size ≠ 0
  cut : ∀ i, i < N → (⟨(Lib.cut (rest i).data.toList [10]).1.toArray⟩ : ByteArray) = line i ∧ (⟨(Lib.cut (rest i).data.toList [10]).2.1.toArray⟩ : ByteArray) = rest (i + 1)
  le : ∀ i, i ≤ N → (rest i).size ≤ 6001
  few : N ≤ 10000
  less : ∀ i, i < N → (rest (i + 1)).size < (rest i).size

def encN (line : Nat → ByteArray) (i : Nat) : Array Value := #[.int .i64 i, .string (line i)]

set_option maxRecDepth 100000 in
set_option maxHeartbeats 4000000 in
theorem lines_rows (n : Nat) (hn : 2 ≤ n) {N : Nat} {line rest : Nat → ByteArray} (hL : Lined N line rest) (m : Int) (B : Nat) (w : World) (hB : B < w.heap.size) (hm : MaxL w m) (hbox : w.cell? ⟨B, 0, none⟩ = some (.string (rest 0))) :
    Rowed Fence.wide n Tryz.prog 79 #[.pointer (some ⟨B, 0, none⟩)] (encN line) N (fun W => MaxL W m) w := fun l J W hW hJ hY h0 => by
  have hbW : W.cell? ⟨B, 0, none⟩ = some (.string (rest 0)) := (hW.cell (p := ⟨B, 0, none⟩) (by show B < _; omega)).trans hbox
  have hmW : MaxL W m := hm.stay hW hm.lt
  have eS : (⟨#[10]⟩ : ByteArray).data.toList = [10] := rfl
  have HC : Hid (∀ (W1 : World) i, i < N → MaxL W1 m → Calls Tryz.prog 80 #[.string (rest i), .string ⟨#[10]⟩] W1 fun e w' => (∃ b, e = .returned (.tuple #[.string (line i), .string (rest (i + 1)), .bool b])) ∧ ∃ q, w' = W1.drewN q) := fun W1 i hi hm1 => by
    have h1 := Tryz.strings_Cut (rest i) ⟨#[10]⟩ m W1 (by have := hL.le i (by omega); omega) hm1
    rw [eS, (hL.cut i hi).1, (hL.cut i hi).2] at h1
    exact h1.mono fun e w' ⟨h2, h3⟩ => ⟨⟨_, h2⟩, h3⟩
  have HN : Hid (∀ i, i < N → ((rest i).toList == []) = false) := fun i hi => by
    rw [ByteArray.toList_eq]
    cases h : (rest i).data.toList with
    | nil => exact absurd (list_size h) (hL.some_ i hi)
    | cons x r => rfl
  have HS : Hid (Lined N line rest) := hL
  have HY := Lib.hid hY
  clear hL hY
  refine callsIn_of_wp Tryz.func79 rfl trivial ?_ rfl
  simp only [Tryz.ntmps79, List.size_toArray, List.length_cons, List.length_nil, Nat.reduceAdd, Nat.reduceSub, Array.replicate_succ, Array.replicate_zero, List.push_toArray, List.append_toArray, List.nil_append, List.cons_append]
  gi_wp2
  gi_loopw [3, 4] (fun r q wr => ∃ i : Nat, i ≤ N ∧ r = .string (rest i) ∧ q = .int .i64 (i : Int) ∧ J i wr ∧ MaxL wr m) (fun r _ _ => strZ r)
  case atStart => exact ⟨0, Nat.zero_le _, rfl, rfl, h0, hmW⟩
  case round =>
    obtain ⟨i, hi, rfl, rfl, hJi, hmi⟩ := hrel
    by_cases hiN : i = N
    · subst hiN
      have hz : (rest i) = ⟨#[]⟩ := HS.out.end_
      have hz1 : ((rest i).toList == []) = true := by rw [hz, ByteArray.toList_eq]; rfl
      gi_wp2
      go_end0
      exact ⟨⟨_, rfl⟩, hJi⟩
    · have hlt : i < N := by omega
      have hz1 := HN.out i hlt
      have hfew := HS.out.few
      have hless := HS.out.less i hlt
      gi_wp2
      refine ⟨trivial, fun _ => by omega, ?_⟩
      refine (callsIn_wide.2 (HC.out wr i hlt hmi)).mono ?_
      rintro e w1 ⟨⟨b, rfl⟩, q, hq⟩
      have hJd : J i w1 := by
        rw [hq]
        exact hJ i _ _ hJi (blw_drewN (Below.refl _ _) q)
      clear hq
      obtain ⟨fn, tmps, assign, body, hy, hR⟩ := HY.out i w1 hlt hJd
      have hy2 : (Instr.yield l #[.int .i64 (i : Int), .string (line i)]).run Tryz.prog w1 = .ok (.round l fn tmps assign body) w1 := hy
      clear hy
      have hw : IntKind.i64.wrap ((i : Int) + 1) = ((i + 1 : Nat) : Int) := by rw [IntKind.wrap_i64]; omega
      gi_wp2
      refine ⟨fun _ => by omega, ?_⟩
      refine hR.mono ?_
      rintro e W2 ⟨rfl, hJ2, hm2⟩
      gi_wp2
      exact ⟨⟨i + 1, by omega, rfl, by first | rfl | (push_cast; rfl) | exact congrArg (Value.int .i64) hw, hJ2, hm2⟩, hless⟩
end Go.Proofs.YtmcjghhmcmkomaaGreatDoor

/- the outliner's state between lines, whatever a line is: nothing, an entry, a value alone. -/
namespace Go.Proofs.YtmcjghhmcmkomaaGreatDoor
open Go Go.RowKit

/-- What the outliner has come to: levels, or a value alone. -/
inductive OS where
  | lv (s : LS)
  | sc (T : RT)

def OState (w0 W : World) (p : Nat) : OS → Prop
  | .lv s => ∃ ov ls, OMid w0 W W p s.due s.ent ov ls ∧ ls.map Ol.pl = s.ls ∧ ls.length ≤ s.ent
  | .sc T => ∃ o c kx dx F, Oz W p (.slice o 0 c) false 0 T.k T.n T.s kx dx ∧ Lies W T kx dx F ∧ Fresh w0 W F ∧ w0.heap.size ≤ W.heap.size

/-- A line that says nothing. -/
def skips (line : List UInt8) : Prop := Lib.trimLeftB line 32 = [] ∨ ∃ r, Lib.trimLeftB line 32 = 35 :: r

inductive Move : OS → List UInt8 → OS → Prop
  | skip {s : OS} {line : List UInt8} : skips line → Move s line s
  | entry {s s' : LS} {l : Ln} : l.good → l.text.length ≤ 7000 → Step s l s' → Move (.lv s) l.line (.lv s')
  | alone {T : RT} : treeOk T = true → T.kids.length = 0 → Move (.lv ⟨[], true, 0⟩) (inlL T) (.sc T)

theorem trim_blanks (n : Nat) (t : List UInt8) : Lib.trimLeftB (List.replicate n 32 ++ t) 32 = Lib.trimLeftB t 32 := by
  induction n with
  | zero => rfl
  | succ n _ =>
    rw [List.replicate_succ, List.cons_append]
    simp [Lib.trimLeftB]

theorem keyL_head (s : ByteArray) (hs : textOk s = true) : ∃ b r, keyL s = b :: r ∧ b ≠ 35 ∧ b ≠ 32 := by
  unfold keyL
  split
  · rename_i hp
    obtain ⟨b, r, e, h, -⟩ := plain_head hp
    exact ⟨b, r, e, (let_no h).2.2.2, (let_no h).2.2.1⟩
  · exact ⟨34, _, by unfold quoteT; rw [if_pos hs]; rfl, by decide, by decide⟩

theorem text_head {l : Ln} (h : l.good) : ∃ b r, l.text = b :: r ∧ b ≠ 35 ∧ b ≠ 32 := by
  unfold Ln.text headL
  rcases h.1 with ⟨hk, -⟩ | ⟨hk, hke⟩
  · rw [hk, if_neg (by decide)]; exact ⟨45, _, rfl, by decide, by decide⟩
  · rw [if_pos hk]
    obtain ⟨b, r, e, h1, h2⟩ := keyL_head l.key hke
    exact ⟨b, _, by rw [e]; rfl, h1, h2⟩

theorem inlL_head {T : RT} (hok : treeOk T = true) (h0 : T.kids.length = 0) : ∃ b r, inlL T = b :: r ∧ b ≠ 35 ∧ b ≠ 32 ∧ (inlL T).length ≤ 896 := by
  obtain ⟨-, -, hr⟩ := treeOk_parts hok
  have hsz := inlL_length hr
  rw [size_leaf h0] at hsz
  by_cases hp : T.k = 3 ∧ plainB T.s = true
  · have e : inlL T = T.s.data.toList := by unfold inlL; rw [if_pos hp]
    obtain ⟨b, r, e1, h, -⟩ := plain_head hp.2
    exact ⟨b, r, by rw [e, e1], (let_no h).2.2.2, (let_no h).2.2.1, by omega⟩
  · have e : inlL T = T.brac := by unfold inlL; rw [if_neg hp]
    rw [e] at hsz ⊢
    obtain ⟨b, r, e1, h1, h2, -⟩ := lone_head (lone_of hr (by omega))
    exact ⟨b, r, by simpa using e1, h1, h2, by omega⟩

theorem trim_head {t : List UInt8} (h : ∃ b r, t = b :: r ∧ b ≠ 35 ∧ b ≠ 32) : Lib.trimLeftB t 32 = t := by
  obtain ⟨b, r, rfl, -, h2⟩ := h
  simp [Lib.trimLeftB, h2]

/-- What a round does with a line that is taken. -/
structure Taken (s : OS) (line : List UInt8) (s' : OS) (inn : Nat) (text : ByteArray) (ek : Int) (key val : ByteArray) (al : Bool) : Prop where
  trim : Lib.trimLeftB line 32 = text.data.toList
  head : ∃ b r, text.data.toList = b :: r ∧ b ≠ 35
  len : line.length = inn + text.size
  entry : ∀ m w, MaxL w m → Calls Tryz.prog 52 #[.string text] w fun e w' => e = .returned (.agg #[.int .i64 ek, .string key, .string val, .bool al]) ∧ Below w.heap.size w w'
  take : ∀ w0 w p, p < w0.heap.size → OState w0 w p s → Calls Tryz.prog 51 #[.pointer (some ⟨p, 0, none⟩), .int .i64 inn, .agg #[.int .i64 ek, .string key, .string val, .bool al]] w fun e w' => e = .returned (.bool true) ∧ OState w0 w' p s' ∧ Kp w0 p w w'

set_option maxRecDepth 100000 in
theorem Move.cases {s s' : OS} {line : List UInt8} (h : Move s line s') : (skips line ∧ s' = s) ∨ ∃ inn text ek key val al, Taken s line s' inn text ek key val al := by
  cases h with
  | skip h => exact .inl ⟨h, rfl⟩
  | @entry s s' l hg hsz hs =>
    right
    have hh := text_head hg
    refine ⟨l.inn, ⟨l.text.toArray⟩, l.kind, l.key, l.value, l.val.isNone, ⟨?_, ?_, ?_, fun m w hm => ?_, fun w0 w p hp hO => ?_⟩⟩
    · unfold Ln.line; rw [trim_blanks, trim_head hh]
    · obtain ⟨b, r, e, h1, -⟩ := hh; exact ⟨b, r, e, h1⟩
    · unfold Ln.line
      rw [List.length_append, List.length_replicate]
      show _ = l.inn + l.text.toArray.size
      rw [List.size_toArray]
    · exact impl_entryLn l hg ⟨l.text.toArray⟩ rfl (by show l.text.toArray.size ≤ _; rw [List.size_toArray]; exact hsz) m w hm
    · obtain ⟨ov, ls, h1, h2, h3⟩ := hO
      have hv : ValOf l.value l := fun X hX => by
        unfold Ln.value
        rw [hX]
        exact valAt_inl X (hg.2 X hX).1 (hg.2 X hX).2
      refine (otake h1 hp h3 (s' := s') (by rw [h2]; exact hs) hv).mono fun e w' ⟨a1, ov', ls', a2, a3, a4⟩ => ⟨a1, ⟨ov', ls', a2.here, a3, a4⟩, a2.kp⟩
  | @alone T hok h0 =>
    right
    obtain ⟨b, r, e, h1, h2, h3⟩ := inlL_head hok h0
    refine ⟨0, ⟨(inlL T).toArray⟩, 0, ⟨#[]⟩, ⟨(inlL T).toArray⟩, false, ⟨?_, ⟨b, r, e, h1⟩, ?_, fun m w hm => entry_inl T hok h0 m w hm, fun w0 w p hp hO => ?_⟩⟩
    · rw [trim_head ⟨b, r, e, h1, h2⟩]
    · show _ = 0 + (inlL T).toArray.size
      rw [List.size_toArray, Nat.zero_add]
    · obtain ⟨ov, ls, a1, a2, a3⟩ := hO
      obtain rfl : ls = [] := List.length_eq_zero_iff.1 (Nat.le_zero.1 a3)
      obtain ⟨o, c, rfl⟩ := a1.lenv
      have hz : Oz w p (.slice o 0 c) true 0 0 0 ⟨#[]⟩ (.slice none 0 0) (.slice none 0 0) := a1.ob
      refine (ov_take T _ (valAt_inl T hok h0) p _ _ _ _ _ w hz).mono fun e w' ⟨b1, kx, dx, F, b2, b3, b4, b5⟩ => ⟨b1, ⟨o, c, kx, dx, F, b2, b3, b4.earlier a1.hs, Nat.le_trans a1.hs b5.size⟩, Kp.of_grw b5 a1.hs (.inl rfl)⟩
end Go.Proofs.YtmcjghhmcmkomaaGreatDoor

/- the outliner's state stays where none of its blocks is turned; how it ends. -/
namespace Go.Proofs.YtmcjghhmcmkomaaGreatDoor
open Go Go.RowKit

theorem OState.ride {w0 W W' : World} {p : Nat} {s : OS} {row : Option Nat} (h : OState w0 W p s) (hp : p < w0.heap.size) (hg : W.grownBy W' row) (hr : ∀ r, row = some r → r < w0.heap.size ∧ r ≠ p) : OState w0 W' p s := by
  have keep : ∀ k, w0.heap.size ≤ k ∨ k = p → k < W.heap.size → W'.heap[k]? = W.heap[k]? := fun k hk ho => hg.block k ho (fun e => by
    obtain ⟨h1, h2⟩ := hr k e.symm
    rcases hk with hk | hk <;> omega)
  cases s with
  | lv s =>
    obtain ⟨ov, ls, h1, h2, h3⟩ := h
    exact ⟨ov, ls, ⟨(keep p (.inr rfl) (Nat.lt_of_lt_of_le hp h1.hs)).trans h1.ob, h1.stk.carry fun b hb => keep b (.inl (h1.stk.blocks hb).2) (h1.stk.blocks hb).1, Kp.refl _ _ _, Nat.le_trans h1.hs hg.size⟩, h2, h3⟩
  | sc T =>
    obtain ⟨o, c, kx, dx, F, h1, h2, h3, h4⟩ := h
    have hk : ∀ y ∈ F, W'.heap[y]? = W.heap[y]? := fun y hy => keep y (.inl (h3.old y hy)) (h2.lt y hy)
    exact ⟨o, c, kx, dx, F, (keep p (.inr rfl) h1.lt).trans h1, h2.carry hk, h3.carry hk, Nat.le_trans h4 hg.size⟩

theorem OState.size {w0 W : World} {p : Nat} {s : OS} (h : OState w0 W p s) : w0.heap.size ≤ W.heap.size := by
  cases s with
  | lv s => obtain ⟨ov, ls, h1, -⟩ := h; exact h1.hs
  | sc T => obtain ⟨o, c, kx, dx, F, -, -, -, h4⟩ := h; exact h4

/-- What the lines say is this tree. -/
def Ends (s : OS) (T : RT) : Prop := s = .sc T ∨ ∃ ls ent q, s = .lv ⟨ls, false, ent⟩ ∧ Shut ls 1 [q] ∧ q.tree = T ∧ ent ≤ 200

theorem ends_due {w0 W : World} {p : Nat} {s : OS} {T : RT} (h : OState w0 W p s) (he : Ends s T) : W.cell? ⟨p, 1, none⟩ = some (.bool false) := by
  rcases he with rfl | ⟨ls, ent, q, rfl, -⟩
  · obtain ⟨o, c, kx, dx, F, h1, -⟩ := h
    exact h1.eight.2.1
  · obtain ⟨ov, ls, h1, -⟩ := h
    exact h1.ob.eight.2.1

set_option maxRecDepth 100000 in
set_option maxHeartbeats 2000000 in
theorem oz_shut (b : Nat) (o : Option Addr) (c : Nat) (due : Bool) (en : Nat) (k n : Int) (s : ByteArray) (kv dv : Value) (w : World) (h : Oz w b (.slice o 0 c) due en k n s kv dv) :
    Calls Tryz.prog 53 #[.pointer (some ⟨b, 0, none⟩), .int .i64 0] w fun e w' => (∃ v, e = .returned v) ∧ Below w.heap.size w w' := by
  obtain ⟨x0, x1, x2, x3, x4, x5, x6, x7, x8⟩ := h.eight
  clear h
  go_enter Tryz.func53, Tryz.ntmps53
  go_wp2
  go_loopw [] (fun wr => wr = w) (fun _ => 0)
  case atStart => rfl
  case round =>
    subst hrel
    go_wp2_with fail
    go_end0
    exact ⟨⟨_, rfl⟩, Below.refl _ _⟩

theorem ends_shut {w0 W : World} {p : Nat} {s : OS} {T : RT} (h : OState w0 W p s) (he : Ends s T) (hp : p < w0.heap.size) :
    Calls Tryz.prog 53 #[.pointer (some ⟨p, 0, none⟩), .int .i64 0] W fun e w' => (∃ v, e = .returned v) ∧ ∃ en, en ≤ 200 ∧ OEnd w0 W w' p false en T := by
  rcases he with rfl | ⟨ls, ent, q, rfl, h1, rfl, h3⟩
  · obtain ⟨o, c, kx, dx, F, h1, h2, h3, h4⟩ := h
    obtain ⟨⟨o1, c1, rfl⟩, ⟨o2, c2, rfl⟩⟩ := h2.slices
    refine (oz_shut p o c _ _ _ _ _ _ _ W h1).mono fun e w' ⟨a1, a2⟩ => ⟨a1, 0, Nat.zero_le _, o, c, o1, c1, o2, c2, F, h1.next a2, h2.stay a2 (Nat.le_refl _), h3.carry fun b hb => a2.block b (h2.lt b hb), Kp.of_below a2 h4⟩
  · obtain ⟨ov, ls, a1, a2, a3⟩ := h
    exact (oshut0 a1 hp h3 (by rw [a2]; exact h1)).mono fun e w' ⟨b1, b2⟩ => ⟨b1, _, h3, b2⟩
end Go.Proofs.YtmcjghhmcmkomaaGreatDoor
