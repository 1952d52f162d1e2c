/-
  What is proved: the outliner puts a tree into the last level of what is open, and closes levels.; the map of Keys that a list's level has seen: its one Key, of no bytes, is found, and its entry stored anew.; the outliner, with something open, is given a value's text; what a line adds to the last level.; the Key of a line is laid into the outliner's last level, and into the Keys that it has seen.; one operation of a region whose order Go leaves open may be taken first, whether its guard lets it run or not.
-/
import Derived.Test.YtmcjghhmcmkomaaGreatDoorPartAW
import Derived.Test.YtmcjghhmcmkomaaGreatDoorRdT
import Derived.Test.YtmcjghhmcmkomaaGreatDoorPartAG
import Derived.Test.YtmcjghhmcmkomaaGreatDoorPartAO
import Derived.Deep.RegionHeld3
/- the outliner puts a tree into the last level of what is open, and closes levels. -/
namespace Go.Proofs.YtmcjghhmcmkomaaGreatDoor
open Go Go.RowKit

def Ol.pl (l : Ol) : PL := ⟨l.k, l.dk, l.dd, l.key⟩

/-- One level less: what it was is a tree in hand. -/
theorem OMid.pop {w0 wr0 wr : World} {p : Nat} {du : Bool} {en : Nat} {ls : List Ol} {l : Ol} {g cap : Nat} (h : OMid w0 wr0 wr p du en (.slice (some ⟨g, 0, none⟩) (ls.length + 1) cap) (ls ++ [l])) (hp : p < w0.heap.size) (hk : Fit l.k) :
    OMid w0 wr0 (wr.setCell ⟨p, 0, none⟩ (.slice (some ⟨g, 0, none⟩) ls.length cap)) p du en (.slice (some ⟨g, 0, none⟩) ls.length cap) ls ∧ OHand w0 (wr.setCell ⟨p, 0, none⟩ (.slice (some ⟨g, 0, none⟩) ls.length cap)) (.slice (some ⟨g, 0, none⟩) ls.length cap) ls (.node l.k 0 ⟨#[]⟩ l.dk l.dd) l.kv l.dv (l.FK ++ l.FD) := by
  obtain ⟨cur, k2, k3, k4, k5, ktop, kpre, k6, k7, k8, k9, hl, a1, a2, a3⟩ := h.parts
  have hgr := grw_set wr p 0 (.slice (some ⟨g, 0, none⟩) ls.length cap)
  have hpop := h.stk.pop
  have hin : ∀ x ∈ l.FK ++ l.FD, x ∈ l.blocks := fun x hx => by
    rcases List.mem_append.1 hx with hx | hx
    · exact List.mem_append_left _ hx
    · exact List.mem_append_right _ (List.mem_append_left _ hx)
  have keep : ∀ x ∈ l.FK ++ l.FD, (wr.setCell ⟨p, 0, none⟩ (.slice (some ⟨g, 0, none⟩) ls.length cap)).heap[x]? = wr.heap[x]? := fun x hx => Below.heap_setCell _ _ _ _ (by show x ≠ p; have := hl.old x (hin x hx); omega)
  have a2' : (l.FK ++ (l.FD ++ l.FM)).Nodup := a2
  rw [← List.append_assoc] at a2'
  refine ⟨⟨heap_set h.ob 0 _, hpop.next hgr hp, h.kp.trans (Kp.of_grw hgr h.hs (.inl rfl)), by simpa [World.setCell] using h.hs⟩, ⟨?_, ⟨(List.nodup_append.1 a2').1, fun x hx => hl.old x (hin x hx), fun x hx o => ?_⟩, fun x hx hy => a3 x hy (hin x hx), fun x hx e => ?_⟩⟩
  · exact (Lies.into hk ⟨by decide, by decide⟩ (by show (0 : Nat) ≤ _; exact Nat.zero_le _) hl.keys hl.kids).carry keep
  · rw [World.frozen?_of_block (w := wr) (keep x hx)]
    rcases List.mem_append.1 hx with hx | hx
    · exact hl.fk.free x hx o
    · exact hl.fd.free x hx o
  · simp [Value.ownBlock] at e
    subst e
    exact k9 (hin _ hx)

theorem OHand.stay {w0 wr w1 : World} {ov : Value} {ls : List Ol} {X : RT} {kx dx : Value} {FX : List Nat} (h : OHand w0 wr ov ls X kx dx FX) (hb : Below wr.heap.size wr w1) : OHand w0 w1 ov ls X kx dx FX :=
  ⟨h.lies.stay hb (Nat.le_refl _), h.fresh.carry fun b hx => hb.block b (h.lies.lt b hx), h.apart, h.mine⟩

/-- A block that is none of the outliner's, and what it holds. -/
structure Spare (z : Nat) (ob : Option Obj) (wr : World) (p : Nat) (ov : Value) (ls : List Ol) : Prop where
  lt : z < wr.heap.size
  np : z ≠ p
  blk : z ∉ ls.flatMap Ol.blocks
  own : ¬ ov.ownBlock = some z
  same : wr.heap[z]? = ob

theorem Spare.below {z : Nat} {ob : Option Obj} {wr w1 : World} {p : Nat} {ov : Value} {ls : List Ol} (h : Spare z ob wr p ov ls) (hb : Below wr.heap.size wr w1) : Spare z ob w1 p ov ls :=
  ⟨Nat.lt_of_lt_of_le h.lt hb.size, h.np, h.blk, h.own, (hb.block z h.lt).trans h.same⟩

/-- What is new is spare. -/
theorem OMid.spare {w0 wr0 wr : World} {p : Nat} {du : Bool} {en : Nat} {ov : Value} {ls : List Ol} (h : OMid w0 wr0 wr p du en ov ls) (hp : p < w0.heap.size) (o : Obj) : Spare wr.heap.size (some o) (wr.alloc o) p ov ls :=
  ⟨by simp, by have := h.hs; omega, fun hin => by have := (h.stk.blocks (.inl hin)).1; omega, fun e => by have := (h.stk.blocks (.inr e)).1; omega, heap_last wr o⟩

theorem Spare.turned {z : Nat} {ob : Option Obj} {wr w1 : World} {p g n cap : Nat} {ls : List Ol} {l l' : Ol} {G FX : List Nat} (h : Spare z ob wr p (.slice (some ⟨g, 0, none⟩) n cap) (ls ++ [l])) (hx : z ∉ FX) (hb : But (g :: G) wr w1) (hG : ∀ x ∈ G, x ∈ l.blocks) (hl : ∀ y ∈ l'.blocks, y ∈ l.blocks ∨ y ∈ FX ∨ wr.heap.size ≤ y) : Spare z ob w1 p (.slice (some ⟨g, 0, none⟩) n cap) (ls ++ [l']) := by
  have h1 := h.blk
  rw [List.flatMap_append, List.mem_append, not_or] at h1
  obtain ⟨h1, h2⟩ := h1
  have h2 : z ∉ l.blocks := by simpa using h2
  refine ⟨Nat.lt_of_lt_of_le h.lt hb.size, h.np, ?_, h.own, (hb.block z h.lt fun hin => ?_).trans h.same⟩
  · rw [List.flatMap_append, List.mem_append]
    rintro (e | e)
    · exact h1 e
    · have e : z ∈ l'.blocks := by simpa using e
      rcases hl z e with e | e | e
      · exact h2 e
      · exact hx e
      · have := h.lt; omega
  · rcases List.mem_cons.1 hin with e | e
    · exact h.own (by rw [e]; rfl)
    · exact h2 (hG z e)

/-- A tree that fits is put into the last level. -/
theorem OMid.putA {w0 wr0 wr : World} {p : Nat} {du : Bool} {en : Nat} {ls : List Ol} {l : Ol} {g cap : Nat} (h : OMid w0 wr0 wr p du en (.slice (some ⟨g, 0, none⟩) (ls.length + 1) cap) (ls ++ [l])) (hp : p < w0.heap.size) (hf : l.pl.fits) {X : RT} {kx dx : Value} {FX : List Nat} (hX : OHand w0 wr (.slice (some ⟨g, 0, none⟩) (ls.length + 1) cap) (ls ++ [l]) X kx dx FX) :
    Calls Tryz.prog 116 #[.pointer (some ⟨g, ls.length * 8, none⟩), .agg #[.int .i64 X.k, .int .i64 X.n, .string X.s, kx, dx]] wr fun e w' => (∃ v, e = .returned v) ∧ But (g :: l.blocks) wr w' ∧ ∃ l', OMid w0 wr0 w' p du en (.slice (some ⟨g, 0, none⟩) (ls.length + 1) cap) (ls ++ [l']) ∧ l'.pl = l.pl.put X ∧ ∀ z ob, Spare z ob wr p (.slice (some ⟨g, 0, none⟩) (ls.length + 1) cap) (ls ++ [l]) → z ∉ FX → Spare z ob w' p (.slice (some ⟨g, 0, none⟩) (ls.length + 1) cap) (ls ++ [l']) := by
  obtain ⟨hk, hlen⟩ := hf
  have hlen' : l.dd.length ≤ 1048576 := by have : l.dd.length < 200 := hlen; omega
  rcases hk with hk | ⟨hk, hab, hpl, -⟩
  · have hk : l.k = 4 := hk
    refine (h.put4 hp hk hlen' hX).mono ?_
    rintro e w' ⟨hv, v', F, hM, hb, hF⟩
    refine ⟨hv, hb.mono fun x hx => ?_, _, hM, ?_, fun z ob hz hzx => hz.turned hzx hb (fun x hx => List.mem_append_right _ (List.mem_append_left _ hx)) fun y hy => ?_⟩
    rotate_left 2
    · have hy : y ∈ l.FK ++ (F ++ l.FM) := hy
      rcases List.mem_append.1 hy with e | e
      · exact .inl (List.mem_append_left _ e)
      · rcases List.mem_append.1 e with e | e
        · exact hF y e
        · exact .inl (List.mem_append_right _ (List.mem_append_right _ e))
    · rcases List.mem_cons.1 hx with e | e
      · rw [e]; exact List.mem_cons_self ..
      · exact List.mem_cons_of_mem _ (List.mem_append_right _ (List.mem_append_left _ e))
    show (⟨l.k, l.dk, l.dd ++ [X], l.key⟩ : PL) = PL.put ⟨l.k, l.dk, l.dd, l.key⟩ X
    unfold PL.put
    rw [if_neg (by show ¬ l.k = 5; rw [hk]; decide)]
  · have hk : l.k = 5 := hk
    refine (h.put5 hp hk hlen' hab hpl hX).mono ?_
    rintro e w' ⟨hv, u', v', FK, F, hM, hb, hF⟩
    refine ⟨hv, hb.mono fun x hx => ?_, _, hM, ?_, fun z ob hz hzx => hz.turned hzx hb (fun x hx => ?_) fun y hy => ?_⟩
    rotate_left 2
    · rcases List.mem_append.1 hx with e | e
      · exact List.mem_append_left _ e
      · exact List.mem_append_right _ (List.mem_append_left _ e)
    · have hy : y ∈ FK ++ (F ++ l.FM) := hy
      rcases List.mem_append.1 hy with e | e
      · exact hF y (List.mem_append_left _ e)
      · rcases List.mem_append.1 e with e | e
        · exact hF y (List.mem_append_right _ e)
        · exact .inl (List.mem_append_right _ (List.mem_append_right _ e))
    · rcases List.mem_cons.1 hx with e | e
      · rw [e]; exact List.mem_cons_self ..
      · rcases List.mem_append.1 e with e | e
        · exact List.mem_cons_of_mem _ (List.mem_append_left _ e)
        · exact List.mem_cons_of_mem _ (List.mem_append_right _ (List.mem_append_left _ e))
    show (⟨l.k, l.dk ++ [l.key], l.dd ++ [X], l.key⟩ : PL) = PL.put ⟨l.k, l.dk, l.dd, l.key⟩ X
    unfold PL.put
    rw [if_pos (by show l.k = 5; exact hk)]

theorem OB.eight {w : World} {b : Nat} {ov : Value} {due : Bool} {ent : Nat} (h : OB w b ov due ent) :
    w.cell? ⟨b, 0, none⟩ = some ov ∧ w.cell? ⟨b, 1, none⟩ = some (.bool due) ∧ w.cell? ⟨b, 2, none⟩ = some (.int .i64 ent) ∧ ∀ o, w.frozen? ⟨b, o, none⟩ = false := by
  have h : w.heap[b]? = some (.cells #[ov, .bool due, .int .i64 ent, .int .i64 0, .int .i64 0, .string ⟨#[]⟩, .slice none 0 0, .slice none 0 0] 82 (0, 0)) := h
  exact ⟨cell_of h 0, cell_of h 1, cell_of h 2, fun o => by simp [World.frozen?, h]⟩

set_option maxRecDepth 100000 in
set_option maxHeartbeats 4000000 in
/-- The outliner puts a tree into the last level. -/
theorem oputZ {w0 wr0 wr : World} {p : Nat} {du : Bool} {en : Nat} {ls : List Ol} {l : Ol} {g cap : Nat} (h : OMid w0 wr0 wr p du en (.slice (some ⟨g, 0, none⟩) (ls.length + 1) cap) (ls ++ [l])) (hp : p < w0.heap.size) (hf : l.pl.fits) (hen : en ≤ 200) {X : RT} {kx dx : Value} {FX : List Nat} (hX : OHand w0 wr (.slice (some ⟨g, 0, none⟩) (ls.length + 1) cap) (ls ++ [l]) X kx dx FX) :
    Calls Tryz.prog 89 #[.pointer (some ⟨p, 0, none⟩), .agg #[.int .i64 X.k, .int .i64 X.n, .string X.s, kx, dx]] wr fun e w' => (∃ v, e = .returned v) ∧ ∃ l', OMid w0 wr0 w' p du en (.slice (some ⟨g, 0, none⟩) (ls.length + 1) cap) (ls ++ [l']) ∧ l'.pl = l.pl.put X ∧ ∀ z ob, Spare z ob wr p (.slice (some ⟨g, 0, none⟩) (ls.length + 1) cap) (ls ++ [l]) → z ∉ FX → Spare z ob w' p (.slice (some ⟨g, 0, none⟩) (ls.length + 1) cap) (ls ++ [l']) := by
  obtain ⟨⟨o1, q1, rfl⟩, ⟨o2, q2, rfl⟩⟩ := hX.lies.slices
  obtain ⟨cur, k2, k3, k4, -, -, -, kg, -, -, -, hl, -⟩ := h.parts
  have HBx : Hid (wr.heap.size ∉ g :: l.blocks ∧ p < wr.heap.size) := ⟨fun hin => by
    rcases List.mem_cons.1 hin with e | e
    · omega
    · have := hl.lt _ e; omega, Nat.lt_of_lt_of_le hp h.hs⟩
  have HP : Hid (∀ wx, Below wr.heap.size wr wx → Calls Tryz.prog 116 #[.pointer (some ⟨g, ls.length * 8, none⟩), .agg #[.int .i64 X.k, .int .i64 X.n, .string X.s, .slice o1 X.keys.length q1, .slice o2 X.kids.length q2]] wx fun e w' => (∃ v, e = .returned v) ∧ But (g :: l.blocks) wx w' ∧ ∃ l', OMid w0 wr0 w' p du en (.slice (some ⟨g, 0, none⟩) (ls.length + 1) cap) (ls ++ [l']) ∧ l'.pl = l.pl.put X ∧ ∀ z ob, Spare z ob wr p (.slice (some ⟨g, 0, none⟩) (ls.length + 1) cap) (ls ++ [l]) → z ∉ FX → Spare z ob w' p (.slice (some ⟨g, 0, none⟩) (ls.length + 1) cap) (ls ++ [l'])) := fun wx hb => ((h.below hb).putA hp hf (hX.stay hb)).mono fun e w' ⟨a1, a2, l', a3, a4, a5⟩ => ⟨a1, a2, l', a3, a4, fun z ob hz hzx => a5 z ob (hz.below hb) hzx⟩
  have HBl : Hid (Below wr.heap.size wr (wr.alloc (.cells #[.int .i64 X.k, .int .i64 X.n, .string X.s, .slice o1 X.keys.length q1, .slice o2 X.kids.length q2] 27))) := (Below.refl _ wr).alloc (Nat.le_refl _) _
  have Z0 := Lib.hid (heap_last wr (.cells #[.int .i64 X.k, .int .i64 X.n, .string X.s, .slice o1 X.keys.length q1, .slice o2 X.kids.length q2] 27))
  obtain ⟨x0, x1, x2, x3⟩ := (h.below HBl.out).ob.eight
  obtain ⟨b0, b1, b2, b3, b4, -⟩ := five Z0.out
  unfold maxLen at k4
  have hen' : (en : Int) ≤ 200 := by omega
  clear h hX k2 hf
  go_enter Tryz.func89, Tryz.ntmps89
  generalize hln : ls.length = n at *
  have g0 : (0 : Int) ≤ (n : Int) := by omega
  have g1 : (n : Int) < (n : Int) + 1 := by omega
  have g2 : ¬ (n : Int) < 0 := by omega
  have g3 : IntKind.i64.wrap (n : Int) = n := by rw [IntKind.wrap_i64]; omega
  go_wp2
  go_region_held3 (fun w' => w'.cell? ⟨p, 0, none⟩ = some (.slice (some ⟨g, 0, none⟩) (n + 1) cap) ∧ w'.cell? ⟨wr.heap.size, 0, none⟩ = some (.int .i64 X.k) ∧ w'.cell? ⟨wr.heap.size, 1, none⟩ = some (.int .i64 X.n) ∧ w'.cell? ⟨wr.heap.size, 2, none⟩ = some (.string X.s) ∧ w'.cell? ⟨wr.heap.size, 3, none⟩ = some (.slice o1 X.keys.length q1) ∧ w'.cell? ⟨wr.heap.size, 4, none⟩ = some (.slice o2 X.kids.length q2)) (go_keep)
    (first
      | (go_at_call 116; refine (HP.out _ (blw_drewN HBl.out 1)).mono ?_
         rintro e w2 ⟨⟨v2, rfl⟩, hbut, l', hM', hl'⟩
         have hz : w2.heap[wr.heap.size]? = _ := (hbut.block wr.heap.size (by show _ < ((wr.alloc _)).heap.size; simp) HBx.out.1).trans Z0.out
         clear x0 x1 x2 x3 b0 b1 b2 b3 b4
         obtain ⟨x0, x1, x2, x3⟩ := hM'.ob.eight
         obtain ⟨b0, b1, b2, b3, b4, -⟩ := five hz
         have HM2 := Lib.hid (And.intro hM' hl')
         clear hM' hl' hbut hz))
  go_wp2
  go_end0
  exact ⟨⟨_, rfl⟩, _, HM2.out⟩

theorem oput {w0 wr0 wr : World} {p : Nat} {du : Bool} {en : Nat} {ls : List Ol} {l : Ol} {g cap : Nat} (h : OMid w0 wr0 wr p du en (.slice (some ⟨g, 0, none⟩) (ls.length + 1) cap) (ls ++ [l])) (hp : p < w0.heap.size) (hf : l.pl.fits) (hen : en ≤ 200) {X : RT} {kx dx : Value} {FX : List Nat} (hX : OHand w0 wr (.slice (some ⟨g, 0, none⟩) (ls.length + 1) cap) (ls ++ [l]) X kx dx FX) :
    Calls Tryz.prog 89 #[.pointer (some ⟨p, 0, none⟩), .agg #[.int .i64 X.k, .int .i64 X.n, .string X.s, kx, dx]] wr fun e w' => (∃ v, e = .returned v) ∧ ∃ l', OMid w0 wr0 w' p du en (.slice (some ⟨g, 0, none⟩) (ls.length + 1) cap) (ls ++ [l']) ∧ l'.pl = l.pl.put X :=
  (oputZ h hp hf hen hX).mono fun _ _ ⟨h1, l', h2, h3, _⟩ => ⟨h1, l', h2, h3⟩

theorem map_snoc2 {α β : Type} {f : α → β} {ls : List α} {a : List β} {q p : β} (h : ls.map f = a ++ [q] ++ [p]) : ∃ ls1 lq lp, ls = ls1 ++ [lq] ++ [lp] ∧ ls1.map f = a ∧ f lq = q ∧ f lp = p := by
  obtain ⟨l1, l2, rfl, h1, h2⟩ := List.map_eq_append_iff.1 h
  obtain ⟨l3, l4, rfl, h3, h4⟩ := List.map_eq_append_iff.1 h1
  obtain ⟨x, rfl, e1⟩ := List.map_eq_singleton_iff.1 h2
  obtain ⟨y, rfl, e2⟩ := List.map_eq_singleton_iff.1 h4
  exact ⟨l3, y, x, rfl, h3, e2, e1⟩

theorem snoc_of_map {α β : Type} {f : α → β} {ls : List α} {a : List β} {q : β} (h : ls.map f = a ++ [q]) : ∃ ls1 lq, ls = ls1 ++ [lq] ∧ ls1.map f = a ∧ f lq = q := by
  obtain ⟨l1, l2, rfl, h1, h2⟩ := List.map_eq_append_iff.1 h
  obtain ⟨x, rfl, e1⟩ := List.map_eq_singleton_iff.1 h2
  exact ⟨l1, x, rfl, h1, e1⟩

theorem shut_cases {qs ls : List PL} {m : Nat} (h : Shut ls m qs) : (ls.length = m ∧ qs = ls) ∨ ∃ a q p, ls = a ++ [q] ++ [p] ∧ m ≤ a.length + 1 ∧ q.fits ∧ Shut (a ++ [q.put p.tree]) m qs := by
  cases h with
  | done e => exact .inl ⟨e, rfl⟩
  | pop h1 h2 h3 => exact .inr ⟨_, _, _, rfl, h1, h2, h3⟩

theorem OMid.lenv {w0 wr0 wr : World} {p : Nat} {du : Bool} {en : Nat} {ov : Value} {ls : List Ol} (h : OMid w0 wr0 wr p du en ov ls) : ∃ o c, ov = .slice o ls.length c := by
  rcases h.stk.row.2 with ⟨rfl, h0⟩ | ⟨g, cap, cur, rfl, _⟩
  · exact ⟨none, 0, by rw [h0]⟩
  · exact ⟨_, _, rfl⟩

theorem OMid.later {w0 wr0 wr1 wr : World} {p : Nat} {du : Bool} {en : Nat} {ov : Value} {ls : List Ol} (h : OMid w0 wr1 wr p du en ov ls) (hk : Kp w0 p wr0 wr1) : OMid w0 wr0 wr p du en ov ls := ⟨h.ob, h.stk, hk.trans h.kp, h.hs⟩

/-- How many levels the outliner's cell tells of. -/
def oopen (w : World) (p : Nat) : Nat := match w.cell? ⟨p, 0, none⟩ with
  | some (.slice _ n _) => n
  | _ => 0

set_option maxRecDepth 100000 in
set_option maxHeartbeats 4000000 in
/-- The outliner closes all but the first levels, so many. -/
theorem oshut {w0 wa : World} {p : Nat} {du : Bool} {en m : Nat} {ov : Value} {ls : List Ol} {qs : List PL} (h : OMid w0 wa wa p du en ov ls) (hp : p < w0.heap.size) (hen : en ≤ 200) (hs : Shut (ls.map Ol.pl) m qs) :
    Calls Tryz.prog 53 #[.pointer (some ⟨p, 0, none⟩), .int .i64 m] wa fun e w' => (∃ v, e = .returned v) ∧ ∃ ov' ls', OMid w0 wa w' p du en ov' ls' ∧ ls'.map Ol.pl = qs ∧ ∀ z ob, Spare z ob wa p ov ls → Spare z ob w' p ov' ls' := by
  have H0 : Hid (OMid w0 wa wa p du en ov ls ∧ Shut (ls.map Ol.pl) m qs ∧ ∀ z ob, Spare z ob wa p ov ls → Spare z ob wa p ov ls) := ⟨h, hs, fun _ _ h => h⟩
  generalize hov0 : ov = ov0 at *
  generalize hls0 : ls = ls0 at *
  clear h hs
  go_enter Tryz.func53, Tryz.ntmps53
  go_wp2_with fail
  go_loopw [4, 5] (fun _ _ wx => ∃ ov ls, Hid (OMid w0 wa wx p du en ov ls ∧ Shut (ls.map Ol.pl) m qs ∧ ∀ z ob, Spare z ob wa p ov0 ls0 → Spare z ob wx p ov ls)) (fun _ _ wx => oopen wx p)
  case atStart => exact ⟨_, _, H0.out⟩
  case round =>
    obtain ⟨ov, ls, hr⟩ := hrel
    obtain ⟨hM, hs, hz⟩ := hr.out
    clear hr
    rcases shut_cases hs with ⟨hl, rfl⟩ | ⟨a, q, p0, he, ha, hf, hs2⟩
    · obtain ⟨o, c, rfl⟩ := hM.lenv
      obtain ⟨x0, x1, x2, x3⟩ := hM.ob.eight
      rw [List.length_map] at hl
      have hle : ¬ ((m : Int) < (ls.length : Int)) := by omega
      have HM := Lib.hid (And.intro hM hz)
      clear hM hs hz
      go_wp2
      go_end0
      exact ⟨⟨_, rfl⟩, _, _, HM.out.1, rfl, HM.out.2⟩
    · obtain ⟨ls1, lq, lp, rfl, rfl, rfl, rfl⟩ := map_snoc2 he
      obtain ⟨g, cap, cur, rfl, kg, kc, kc2, -⟩ := hM.stk.top
      obtain ⟨cur', k2, k3, k4, k5, ktop, kpre, k6, k7, k8, k9, hl, -⟩ := hM.parts
      obtain ⟨o1, q1, e1⟩ := StrsAt.slice hl.keys
      obtain ⟨o2, q2, e2⟩ := KidsLie.slice hl.kids
      have hk : Fit lp.k := by
        obtain ⟨mb, -, -, -, -, hk, -⟩ := hl.kind
        rcases hk with hk | hk
        · rw [hk]; exact ⟨by decide, by decide⟩
        · rw [hk.1]; exact ⟨by decide, by decide⟩
      obtain ⟨x0, x1, x2, x3⟩ := hM.ob.eight
      have c0 : wr.cell? ⟨g, (ls1 ++ [lq]).length * 8, none⟩ = some (.int .i64 lp.k) := by rw [cell_of k2]; exact ktop 0 (by decide)
      have c1 : wr.cell? ⟨g, (ls1 ++ [lq]).length * 8 + 1, none⟩ = some (.int .i64 0) := by rw [cell_of k2]; exact ktop 1 (by decide)
      have c2 : wr.cell? ⟨g, (ls1 ++ [lq]).length * 8 + 2, none⟩ = some (.string ⟨#[]⟩) := by rw [cell_of k2]; exact ktop 2 (by decide)
      have c3 : wr.cell? ⟨g, (ls1 ++ [lq]).length * 8 + 3, none⟩ = some (.slice o1 lp.dk.length q1) := by rw [cell_of k2, ← e1]; exact ktop 3 (by decide)
      have c4 : wr.cell? ⟨g, (ls1 ++ [lq]).length * 8 + 4, none⟩ = some (.slice o2 lp.dd.length q2) := by rw [cell_of k2, ← e2]; exact ktop 4 (by decide)
      have hll : (ls1 ++ [lq]).length = ls1.length + 1 := by simp
      rw [List.length_map] at ha
      unfold maxLen at kc2
      have HQ : Hid (∀ wy, Below (wr.setCell ⟨p, 0, none⟩ (.slice (some ⟨g, 0, none⟩) (ls1.length + 1) cap)).heap.size (wr.setCell ⟨p, 0, none⟩ (.slice (some ⟨g, 0, none⟩) (ls1.length + 1) cap)) wy → Calls Tryz.prog 89 #[.pointer (some ⟨p, 0, none⟩), .agg #[.int .i64 lp.k, .int .i64 0, .string ⟨#[]⟩, .slice o1 lp.dk.length q1, .slice o2 lp.dd.length q2]] wy fun e w' => (∃ v, e = .returned v) ∧ ∃ l', OMid w0 wa w' p du en (.slice (some ⟨g, 0, none⟩) (ls1.length + 1) cap) (ls1 ++ [l']) ∧ l'.pl = lq.pl.put lp.pl.tree ∧ ∀ z ob, Spare z ob wa p ov0 ls0 → Spare z ob w' p (.slice (some ⟨g, 0, none⟩) (ls1.length + 1) cap) (ls1 ++ [l'])) := fun wy hb => by
        obtain ⟨h1, h2⟩ := hM.pop hp hk
        rw [hll] at h1 h2
        rw [e1, e2] at h2
        refine (oputZ (h1.below hb) hp hf hen (X := .node lp.k 0 ⟨#[]⟩ lp.dk lp.dd) (h2.stay hb)).mono fun e w' ⟨a1, l', a2, a3, a4⟩ => ⟨a1, l', a2, a3, fun z ob hz0 => ?_⟩
        have hz1 := hz z ob hz0
        have hz2 := hz1.blk
        rw [List.flatMap_append, List.mem_append, not_or] at hz2
        have hz3 : z ∉ lp.blocks := by simpa using hz2.2
        refine a4 z ob (Spare.below ⟨?_, hz1.np, hz2.1, hz1.own, (Below.heap_setCell _ _ _ _ (by exact hz1.np)).trans hz1.same⟩ hb) fun hin => hz3 ?_
        · simpa [World.setCell] using hz1.lt
        · rcases List.mem_append.1 hin with e | e
          · exact List.mem_append_left _ e
          · exact List.mem_append_right _ (List.mem_append_left _ e)
      have HF := Lib.hid hs2
      have HO : Hid (oopen wr p = ls1.length + 1 + 1) := by
        show oopen wr p = _
        unfold oopen
        rw [x0, hll]
      have HBl : Hid (∀ (wx : World) ob, Below wx.heap.size wx (wx.alloc ob)) := fun wx ob => (Below.refl _ wx).alloc (Nat.le_refl _) ob
      have hpx : p < wr.heap.size := Nat.lt_of_lt_of_le hp hM.hs
      clear hM hs hz he hs2 kg k2 ktop kpre hl hf e1 e2
      simp only [hll] at c0 c1 c2 c3 c4 x0 kc
      clear hll
      generalize hn : ls1.length + 1 = n at *
      have g0 : (0 : Int) ≤ (n : Int) := by omega
      have g1 : (n : Int) < (n : Int) + 1 := by omega
      have g3 : IntKind.i64.wrap (n : Int) = n := by rw [IntKind.wrap_i64]; omega
      have g4 : (m : Int) < (n : Int) + 1 := by omega
      have g5 : (n : Int) ≤ (cap : Int) := by omega
      go_wp2_with fail
      refine (HQ.out _ (HBl.out _ _)).mono ?_
      rintro e w2 ⟨⟨v2, rfl⟩, l', hM', hl', hz'⟩
      have HM2 := Lib.hid (And.intro hM' hl')
      have HZ2 := Lib.hid hz'
      have HN := Lib.hid hn
      clear hM' hl' hn hz'
      go_wp2
      refine ⟨⟨_, _, ⟨HM2.out.1, ?_, HZ2.out⟩⟩, ?_⟩
      · rw [List.map_append, List.map_singleton, HM2.out.2]; exact HF.out
      · have h1 := HM2.out.1.ob.eight.1
        have h2 := HO.out
        have h3 := HN.out
        rw [h2]
        unfold oopen
        rw [h1]
        show _ < _
        simp only []
        omega
end Go.Proofs.YtmcjghhmcmkomaaGreatDoor

/- the map of Keys that a list's level has seen: its one Key, of no bytes, is found, and its entry stored anew. -/
namespace Go.Proofs.YtmcjghhmcmkomaaGreatDoor
open Go Go.RowKit Go.MapKept

theorem seen_one {w : World} {mb : Nat} {key : ByteArray} (h : Seen w mb [key]) : ∃ (e : MapEntry) (c : Nat), w.heap[mb]? = some (.map #[e] c) ∧ e.key = .string key ∧ e.born < c := by
  obtain ⟨es, c, h1, h2, h3⟩ := h
  obtain ⟨l, rfl⟩ : ∃ l, es = ⟨l⟩ := ⟨es.toList, rfl⟩
  simp only [List.map_cons, List.map_nil] at h2
  obtain ⟨e, rfl, he⟩ := List.map_eq_singleton_iff.1 h2
  exact ⟨e, c, h1, he, h3 e (by simp)⟩

theorem find_one (key : ByteArray) (e : MapEntry) (he : e.key = .string key) : Instr.findNow .string (.string key) [e] 0 = some (some (0, e.val)) := by
  have hb : (key == key) = true := by show (key.data == key.data) = true; simp
  unfold Instr.findNow
  rw [he]
  simp only [Instr.sameNow, hb]

theorem bits_one (key : ByteArray) : Instr.sameBits 10000 (.string key) (.string key) = true := by
  have hb : (key == key) = true := by show (key.data == key.data) = true; simp
  simp [Instr.sameBits, hb]

theorem seen_lookup_one {w0 : World} {mb : Nat} {key : ByteArray} (h : Seen w0 mb [key]) : ∃ v, ∀ w : World, w.heap[mb]? = w0.heap[mb]? → (Instr.lookup 138 (.map (some mb)) (.string key) true).run Tryz.prog w = .ok (.tuple #[v, .bool true]) w := by
  obtain ⟨e, c, h1, h2, -⟩ := seen_one h
  have hf := find_one key e h2
  have hk : IsKey .string (.string key) := trivial
  refine ⟨e.val, fun w hw => ?_⟩
  have h1 := hw.trans h1
  simp [Instr.lookup, run_underlying Tryz.underlying138, Go.MapKept.run_getObj_map h1, Go.MapKept.run_checkKey Tryz.underlying9 hk, Go.MapKept.run_findKey Tryz.underlying9 hf, Result.andThen]

theorem seen_entry_one {w : World} {mb : Nat} {key : ByteArray} (h : Seen w mb [key]) : ∃ (v : Value) (st : Int) (w1 : World), (Instr.mapEntry 138 (.map (some mb)) (.string key)).run Tryz.prog w = .ok (.tuple #[v, .int .i64 st]) w1 ∧ w.grownBy w1 (some mb) ∧
    ∀ (w2 : World) (x : Int), w2.heap[mb]? = w1.heap[mb]? → ∃ w3, (Instr.entryStore 138 (.map (some mb)) (.int .i64 st) (.int .i64 x)).run Tryz.prog w2 = .ok () w3 ∧ w2.grownBy w3 (some mb) ∧ Seen w3 mb [key] := by
  obtain ⟨e, c, h1, h2, h3⟩ := seen_one h
  have hf := find_one key e h2
  have hk : IsKey .string (.string key) := trivial
  refine ⟨e.val, (e.born : Int), { w with heap := w.heap.setIfInBounds mb (.map #[{ e with key := .string key }] c) }, ?_, ?_, ?_⟩
  · simp [Instr.mapEntry, run_underlying Tryz.underlying138, Go.MapKept.run_getObj_map h1, Go.MapKept.run_checkKey Tryz.underlying9 hk, Go.MapKept.run_findKey Tryz.underlying9 hf, Go.MapKept.run_setObj_map _ h1, Result.andThen, goInt, Instr.keyThatStays, h2, bits_one]
  · refine ⟨rfl, rfl, rfl, by simp, fun k _ hk => ?_⟩
    show (w.heap.setIfInBounds mb _)[k]? = _
    rw [Array.getElem?_setIfInBounds_ne (by intro e; exact hk (by rw [e]))]
  · intro w2 x hw
    have hmb : mb < w.heap.size := (Array.getElem?_eq_some_iff.1 h1).1
    have h4 : w2.heap[mb]? = some (.map #[{ e with key := .string key }] c) := by
      rw [hw]
      show (w.heap.setIfInBounds mb _)[mb]? = _
      simp [hmb]
    have hmb2 : mb < w2.heap.size := (Array.getElem?_eq_some_iff.1 h4).1
    refine ⟨{ w2 with heap := w2.heap.setIfInBounds mb (.map #[{ e with key := .string key, val := .int .i64 x }] c) }, ?_, ?_, ?_⟩
    · simp [Instr.entryStore, Go.MapKept.run_getObj_map h4, asInt, asIntOf, Go.MapKept.run_setObj_map _ h4, Result.andThen]
    · refine ⟨rfl, rfl, rfl, by simp, fun k _ hk => ?_⟩
      show (w2.heap.setIfInBounds mb _)[k]? = _
      rw [Array.getElem?_setIfInBounds_ne (by intro e; exact hk (by rw [e]))]
    · refine ⟨#[{ e with key := .string key, val := .int .i64 x }], c, ?_, rfl, fun e' he' => ?_⟩
      · show (w2.heap.setIfInBounds mb _)[mb]? = _
        simp [hmb2]
      · simp at he'
        subst he'
        exact h3
end Go.Proofs.YtmcjghhmcmkomaaGreatDoor

/- the outliner, with something open, is given a value's text; what a line adds to the last level. -/
namespace Go.Proofs.YtmcjghhmcmkomaaGreatDoor
open Go Go.RowKit

/-- This text is read as that tree. -/
def ValAt (s : ByteArray) (X : RT) : Prop := ∀ w : World, Calls Tryz.prog 131 #[.string s] w fun e w' => ∃ kx dx F, e = .returned (.tuple #[.agg #[.int .i64 X.k, .int .i64 X.n, .string X.s, kx, dx], .bool true]) ∧ Lies w' X kx dx F ∧ Fresh w w' F ∧ Below w.heap.size w w'

theorem OMid.due {w0 wa wr : World} {p : Nat} {du : Bool} {en : Nat} {ov : Value} {ls : List Ol} (h : OMid w0 wa wr p du en ov ls) (hp : p < w0.heap.size) (d : Bool) : OMid w0 wa (wr.setCell ⟨p, 1, none⟩ (.bool d)) p d en ov ls :=
  ⟨heap_set h.ob 1 _, h.stk.next (grw_set wr p 1 _) hp, h.kp.trans (Kp.of_grw (grw_set wr p 1 _) h.hs (.inl rfl)), by simpa [World.setCell] using h.hs⟩
theorem OMid.ent {w0 wa wr : World} {p : Nat} {du : Bool} {en : Nat} {ov : Value} {ls : List Ol} (h : OMid w0 wa wr p du en ov ls) (hp : p < w0.heap.size) (n : Nat) : OMid w0 wa (wr.setCell ⟨p, 2, none⟩ (.int .i64 n)) p du n ov ls :=
  ⟨heap_set h.ob 2 _, h.stk.next (grw_set wr p 2 _) hp, h.kp.trans (Kp.of_grw (grw_set wr p 2 _) h.hs (.inl rfl)), by simpa [World.setCell] using h.hs⟩
theorem OHand.setp {w0 wr : World} {ov : Value} {ls : List Ol} {X : RT} {kx dx : Value} {FX : List Nat} (h : OHand w0 wr ov ls X kx dx FX) {p : Nat} (hp : p < w0.heap.size) (o : Nat) (v : Value) : OHand w0 (wr.setCell ⟨p, o, none⟩ v) ov ls X kx dx FX := by
  have keep : ∀ x ∈ FX, (wr.setCell ⟨p, o, none⟩ v).heap[x]? = wr.heap[x]? := fun x hx => Below.heap_setCell _ _ _ _ (by show x ≠ p; have := h.fresh.old x hx; omega)
  exact ⟨h.lies.carry keep, h.fresh.carry keep, h.apart, h.mine⟩
/-- A tree that was just laid is in hand. -/
theorem OMid.hand {w0 wa wr w1 : World} {p : Nat} {du : Bool} {en : Nat} {ov : Value} {ls : List Ol} (h : OMid w0 wa wr p du en ov ls) {X : RT} {kx dx : Value} {FX : List Nat} (hl : Lies w1 X kx dx FX) (hf : Fresh wr w1 FX) : OHand w0 w1 ov ls X kx dx FX :=
  ⟨hl, hf.earlier h.hs, fun x hx hy => by have := hf.old x hx; have := (h.stk.blocks (.inl hy)).1; omega, fun x hx e => by have := hf.old x hx; have := (h.stk.blocks (.inr e)).1; omega⟩

set_option maxRecDepth 100000 in
set_option maxHeartbeats 4000000 in
theorem ogive {w0 wr : World} {p : Nat} {du : Bool} {en : Nat} {ls : List Ol} {l : Ol} {g cap : Nat} {st : ByteArray} {X : RT} (h : OMid w0 wr wr p du en (.slice (some ⟨g, 0, none⟩) (ls.length + 1) cap) (ls ++ [l])) (hp : p < w0.heap.size) (hf : l.pl.fits) (hen : en ≤ 200) (hv : ValAt st X) :
    Calls Tryz.prog 112 #[.pointer (some ⟨p, 0, none⟩), .string st] wr fun e w' => e = .returned (.bool true) ∧ ∃ l', OMid w0 wr w' p false en (.slice (some ⟨g, 0, none⟩) (ls.length + 1) cap) (ls ++ [l']) ∧ l'.pl = l.pl.put X := by
  have HV := Lib.hid hv
  have HP : Hid (∀ (wy : World) (o1 o2 : Option Addr) (q1 q2 : Nat) (FX : List Nat), OMid w0 wr wy p false en (.slice (some ⟨g, 0, none⟩) (ls.length + 1) cap) (ls ++ [l]) → OHand w0 wy (.slice (some ⟨g, 0, none⟩) (ls.length + 1) cap) (ls ++ [l]) X (.slice o1 X.keys.length q1) (.slice o2 X.kids.length q2) FX → Calls Tryz.prog 89 #[.pointer (some ⟨p, 0, none⟩), .agg #[.int .i64 X.k, .int .i64 X.n, .string X.s, .slice o1 X.keys.length q1, .slice o2 X.kids.length q2]] wy fun e w' => (∃ v, e = .returned v) ∧ ∃ l', OMid w0 wr w' p false en (.slice (some ⟨g, 0, none⟩) (ls.length + 1) cap) (ls ++ [l']) ∧ l'.pl = l.pl.put X) := fun wy o1 o2 q1 q2 FX h1 h2 => oput h1 hp hf hen h2
  have H := Lib.hid h
  clear hv h hf hen
  go_enter Tryz.func112, Tryz.ntmps112
  go_wp2_with fail
  refine (HV.out _).mono ?_
  rintro e w1 ⟨kx, dx, F, rfl, hl, hf, hb⟩
  obtain ⟨⟨o1, c1, rfl⟩, ⟨o2, c2, rfl⟩⟩ := hl.slices
  have hbx := (Below.refl _ w1).alloc (Nat.le_refl _) (.cells #[.int .i64 X.k, .int .i64 X.n, .string X.s, .slice o1 X.keys.length c1, .slice o2 X.kids.length c2] 27)
  have H1 := Lib.hid (H.out.below hb)
  have H2 := Lib.hid (H1.out.below hbx)
  have HH1 := Lib.hid (H.out.hand hl hf)
  have HH2 := Lib.hid (HH1.out.stay hbx)
  have HZ := Lib.hid (heap_last w1 (.cells #[.int .i64 X.k, .int .i64 X.n, .string X.s, .slice o1 X.keys.length c1, .slice o2 X.kids.length c2] 27))
  have HPW : Hid (p < w1.heap.size) := Nat.lt_of_lt_of_le hp H1.out.hs
  have hne : ¬ p = w1.heap.size := by have := HPW.out; omega
  have hne' : ¬ w1.heap.size = p := fun e => hne e.symm
  obtain ⟨x0, x1, x2, x3⟩ := H2.out.ob.eight
  clear hl hf hb hbx
  go_wp2_with fail
  refine (HP.out _ _ _ _ _ F (by first | exact H2.out.due hp false | exact (H1.out.due hp false).below ((Below.refl _ _).alloc (Nat.le_refl _) _)) (by first | exact HH2.out.setp hp _ _ | exact (HH1.out.setp hp _ _).stay ((Below.refl _ _).alloc (Nat.le_refl _) _))).mono ?_
  rintro e w3 ⟨⟨v, rfl⟩, l', hM, hl'⟩
  have HM := Lib.hid (And.intro hM hl')
  clear hM hl' x0 x1 x2 x3
  go_wp2
  go_ret
  exact ⟨rfl, l', HM.out⟩
end Go.Proofs.YtmcjghhmcmkomaaGreatDoor

/- the Key of a line is laid into the outliner's last level, and into the Keys that it has seen. -/
namespace Go.Proofs.YtmcjghhmcmkomaaGreatDoor
open Go Go.RowKit

/-- The Key is laid into the last level, and into the Keys that it has seen. -/
theorem OMid.key {w0 wr0 wr w2 w3 : World} {p : Nat} {du : Bool} {en : Nat} {ls : List Ol} {l : Ol} {g cap mb : Nat} {cur : Array Value} {key : ByteArray} (h : OMid w0 wr0 wr p du en (.slice (some ⟨g, 0, none⟩) (ls.length + 1) cap) (ls ++ [l])) (hp : p < w0.heap.size)
    (hg : wr.heap[g]? = some (.cells cur 140 (0, 0))) (hmv : l.mv = .map (some mb)) (hkey : key.size ≤ maxLen)
    (hg2 : (wr.setCell ⟨g, ls.length * 8 + 6, none⟩ (.string key)).grownBy w2 (some mb)) (hg3 : w2.grownBy w3 (some mb)) {ks2 : List ByteArray} (hseen : Seen w3 mb ks2) (hok : seenOk { l with key := key, ks := ks2 }) :
    OMid w0 wr0 w3 p du en (.slice (some ⟨g, 0, none⟩) (ls.length + 1) cap) (ls ++ [{ l with key := key, ks := ks2 }]) := by
  obtain ⟨g', cap', cur', e, k2, k3, k4, k5, ktop, kpre, k6, k7, k8, k9⟩ := h.stk.top
  injection e with e1 e2 e3
  injection e1 with e1
  injection e1 with e1
  subst e1 e3
  rw [hg] at k2
  injection k2 with k2
  injection k2 with k2
  subst k2
  have hl := h.stk.each l (by simp)
  obtain ⟨mb', m1, m2, m3, m4, m5, -⟩ := hl.kind
  rw [hmv] at m1
  injection m1 with m1
  injection m1 with m1
  subst m1
  have hmbl : mb ∈ l.blocks := List.mem_append_right _ (List.mem_append_right _ (by rw [m2]; simp))
  have hgm : g ≠ mb := fun e => k9 (by rw [e]; exact hmbl)
  have hmlt := m3.lt
  have hapl : (l.FK ++ (l.FD ++ l.FM)).Nodup := by
    have := h.stk.apart
    rw [List.flatMap_append] at this
    have := (List.nodup_append.1 this).2.1
    simpa [Ol.blocks] using this
  have keep : ∀ b, b < wr.heap.size → b ≠ g → b ≠ mb → w3.heap[b]? = wr.heap[b]? := fun b hb n1 n2 => by
    have hb2 : b < w2.heap.size := Nat.lt_of_lt_of_le (by simpa [World.setCell] using hb) hg2.size
    rw [hg3.block b hb2 (fun e => by injection e with e; exact n2 e), hg2.block b (by simpa [World.setCell] using hb) (fun e => by injection e with e; exact n2 e), Below.heap_setCell _ _ _ _ (by exact n1)]
  have hsize : wr.heap.size ≤ w3.heap.size := Nat.le_trans (by have := hg2.size; simpa [World.setCell] using this) hg3.size
  have hpg : p ≠ g := by omega
  have hpm : p ≠ mb := by omega
  have hgw3 : w3.heap[g]? = some (.cells (cur.setIfInBounds (ls.length * 8 + 6) (.string key)) 140 (0, 0)) := by
    have hb2 : g < w2.heap.size := Nat.lt_of_lt_of_le (by simpa [World.setCell] using k6) hg2.size
    rw [hg3.block g hb2 (fun e => by injection e with e; exact hgm e), hg2.block g (by simpa [World.setCell] using k6) (fun e => by injection e with e; exact hgm e)]
    exact heap_set hg _ _
  have hrest : ∀ b ∈ ls.flatMap Ol.blocks, b ≠ g ∧ b ≠ mb := fun b hb => by
    refine ⟨fun e => k8 (by rw [← e]; exact hb), fun e => ?_⟩
    have := h.stk.apart
    rw [List.flatMap_append] at this
    refine (List.nodup_append.1 this).2.2 b hb b ?_ rfl
    rw [e]
    simpa [List.flatMap_cons] using hmbl
  have hFKFD : ∀ b ∈ l.FK ++ l.FD, b ≠ g ∧ b ≠ mb ∧ b < wr.heap.size := fun b hb => by
    have hbl : b ∈ l.blocks := by
      rcases List.mem_append.1 hb with hb | hb
      · exact List.mem_append_left _ hb
      · exact List.mem_append_right _ (List.mem_append_left _ hb)
    refine ⟨fun e => k9 (by rw [← e]; exact hbl), fun e => ?_, hl.lt b hbl⟩
    rw [m2, ← List.append_assoc] at hapl
    exact (List.nodup_append.1 hapl).2.2 b hb mb (by simp) e
  have q1 : ∀ b ∈ l.FK, w3.heap[b]? = wr.heap[b]? := fun b hb => by obtain ⟨a, c, d⟩ := hFKFD b (List.mem_append_left _ hb); exact keep b d a c
  have q2 : ∀ b ∈ l.FD, w3.heap[b]? = wr.heap[b]? := fun b hb => by obtain ⟨a, c, d⟩ := hFKFD b (List.mem_append_right _ hb); exact keep b d a c
  refine ⟨(keep p (Array.getElem?_eq_some_iff.1 h.ob).1 hpg hpm).trans h.ob, ?_, h.kp.trans ⟨hg3.os.trans hg2.os, hg3.tape.trans hg2.tape, hg3.output.trans hg2.output, hsize, fun b hb _ => keep b (Nat.lt_of_lt_of_le hb h.hs) (by omega) (by omega)⟩, Nat.le_trans h.hs hsize⟩
  refine h.stk.turn (l' := { l with key := key, ks := ks2 }) (by simpa using k5) hgw3 ?_ (fun j hj => ?_) ⟨hl.keys.carry q1, hl.fk.carry q1, hl.kids.carry q2, hl.fd.carry q2, hkey, mb, hmv, m2, hseen, m4, m5, hok⟩ (fun b hb => ?_) ?_ k9
  · rw [Array.toList_setIfInBounds, List.take_set_of_le (by omega)]; exact kpre
  · by_cases e : j = 6
    · subst e
      rw [Array.getElem?_setIfInBounds_self_of_lt (by rw [k5]; omega)]
      rfl
    · rw [Array.getElem?_setIfInBounds_ne (by omega), ktop j hj]
      match j, hj, e with
      | 0, _, _ => rfl
      | 1, _, _ => rfl
      | 2, _, _ => rfl
      | 3, _, _ => rfl
      | 4, _, _ => rfl
      | 5, _, _ => rfl
      | 7, _, _ => rfl
  · obtain ⟨a, c⟩ := hrest b hb
    exact keep b (h.stk.blocks (.inl (by rw [List.flatMap_append]; exact List.mem_append_left _ hb))).1 a c
  · have := h.stk.apart
    rw [List.flatMap_append] at this
    simpa [Ol.blocks] using this
end Go.Proofs.YtmcjghhmcmkomaaGreatDoor

/- one operation of a region whose order Go leaves open may be taken first, whether its guard lets it run or not. -/
namespace Go.Proofs.YtmcjghhmcmkomaaGreatDoor
open Go

/-- One operation of a drawn region is taken first: what it leaves lies in the slot d. -/
theorem takeD {P : Program} {ops : Array Oper} {Q : Exit → Act → World → Prop} {md : Region.Mode} {S : World → Prop} (i d : Nat) (v : Value) {oi : Oper} {fuel : Nat} {listed : Array Bool} {a : Act} {w : World} (hi : ops[i]? = some oi) (hd : oi.dst = some d)
    (hs : Region.noSelect ops = true) (hf : Region.free md ops listed i = true) (hr : (Region.ready md ops listed).contains i = true)
    (hQ : ∀ c a w, Q (.panic c) (a.put (some d) v) w → Q (.panic c) a w) (hy : YieldsIf P ops S oi v a) (hS : S w)
    (h : wpAnyH P md ops Q S fuel (listed.setIfInBounds i true) (a.put (some d) v) w) : wpAnyH P md ops Q S (fuel + 1) listed a w :=
  wpAnyH_take hi hs hf hr (by rw [hd]; exact hQ) hy hS (by rw [hd]; exact h)
end Go.Proofs.YtmcjghhmcmkomaaGreatDoor
