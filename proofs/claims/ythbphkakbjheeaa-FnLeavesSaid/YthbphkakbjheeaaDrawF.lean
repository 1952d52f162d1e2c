/-
  What is proved: what the model draws for the leaves' law (a flag, an int, a text, a list of trees): it is small, and lies in memory of its own; nothing that was there turns.
-/
import Derived.Test.YthbphkakbjheeaaDrawA
namespace Go.Proofs.Ythbphkakbjheeaa
open Go Go.RowKit

/-- A cursor over the code, in the block behind all. -/
theorem cur_fresh {w : World} {a : Option Addr} {len cap : Nat} (h : CodeAt w a len) (x : Int) :
    Cur (w.alloc (.cells #[.slice a len cap, .int .i64 0, .int .i64 x] 82)) w.heap.size a len cap :=
  ⟨cur_new w a len cap x, h.on ((Below.refl _ w).alloc (Nat.le_refl _) _), h.apart (Nat.le_refl _)⟩

theorem below_fresh {w w' : World} {o : Obj} (hg : (w.alloc o).grownBy w' (some w.heap.size)) : Below w.heap.size w w' := by
  have hb := (Below.refl _ w).alloc (Nat.le_refl _) o
  refine ⟨hg.os.trans hb.os, hg.tape.trans hb.tape, hg.output.trans hb.output, Nat.le_trans hb.size hg.size, fun k hk => (hg.block k (Nat.lt_of_lt_of_le hk hb.size) (fun e => ?_)).trans (hb.block k hk)⟩
  injection e with e
  omega

set_option maxHeartbeats 1000000 in
theorem drawFlagOf_any (a : Option Addr) (len cap : Nat) (w : World) (hcode : CodeAt w a len) :
    Calls Try.prog 13 #[.slice a len cap] w fun e w' => ∃ b : Bool, e = .returned (.bool b) ∧ Below w.heap.size w w' := by
  have HC := Lib.hid hcode
  clear hcode
  go_enter Try.func13, Try.ntmps13
  go_wp2_with (first
    | (go_at_call 43; refine (new_any a len cap w HC.out).mono ?_; rintro e w1 ⟨rfl, x, rfl⟩)
    | (go_at_call 42; refine (once_any 2 (by omega) (by omega) a len cap w.heap.size _ (cur_fresh HC.out x)).mono ?_; rintro e w2 ⟨⟨b, rfl⟩, hc2, ho2⟩; have HB := Lib.hid (below_fresh ho2.grown); clear hc2 ho2)
    | fail)
  go_ret
  exact ⟨b, rfl, HB.out⟩

set_option maxHeartbeats 1000000 in
theorem drawIntOf_any (a : Option Addr) (len cap : Nat) (w : World) (hcode : CodeAt w a len) :
    Calls Try.prog 14 #[.slice a len cap] w fun e w' => ∃ n : Int, -10 ≤ n ∧ n ≤ 10 ∧ e = .returned (.int .i64 n) ∧ Below w.heap.size w w' := by
  have HC := Lib.hid hcode
  clear hcode
  go_enter Try.func14, Try.ntmps14
  go_wp2_with (first
    | (go_at_call 43; refine (new_any a len cap w HC.out).mono ?_; rintro e w1 ⟨rfl, x, rfl⟩)
    | (go_at_call 44; refine (below_any 9 (by omega) (by omega) a len cap w.heap.size _ (cur_fresh HC.out x).cur (cur_fresh (cap := cap) HC.out x).code (cur_fresh (cap := cap) HC.out x).apart).mono ?_; rintro e w2 ⟨⟨r, hr, rfl⟩, hc2, ho2⟩; have HB := Lib.hid (below_fresh ho2.grown); clear hc2 ho2)
    | fail)
  go_ret
  exact ⟨(r : Int) - 3, by omega, by omega, rfl, HB.out⟩

set_option maxHeartbeats 1000000 in
theorem drawTextOf_any (a : Option Addr) (len cap : Nat) (w : World) (hcode : CodeAt w a len) :
    Calls Try.prog 15 #[.slice a len cap] w fun e w' => ∃ s : ByteArray, s.size ≤ 12 ∧ e = .returned (.string s) ∧ Below w.heap.size w w' := by
  have HC := Lib.hid hcode
  clear hcode
  go_enter Try.func15, Try.ntmps15
  go_wp2_with (first
    | (go_at_call 43; refine (new_any a len cap w HC.out).mono ?_; rintro e w1 ⟨rfl, x, rfl⟩)
    | (go_at_call 45; refine (drawText_any a len cap w.heap.size _ (cur_fresh HC.out x)).mono ?_; rintro e w2 ⟨⟨s, hs, rfl⟩, hc2, hg2⟩; have HB := Lib.hid (below_fresh hg2); clear hc2 hg2)
    | fail)
  go_ret
  exact ⟨s, hs, rfl, HB.out⟩

/-- Where the drawing of a list of trees stands. -/
structure LD (w wr : World) (a : Option Addr) (len cap : Nat) (dv : Value) (kids : List RT) (F : List Nat) : Prop where
  cur : Cur wr w.heap.size a len cap
  below : Below w.heap.size w wr
  lt : w.heap.size < wr.heap.size
  lie : KidsLie wr dv kids F
  fresh : Fresh w wr F
  far : w.heap.size ∉ F

section
variable {w wr w1 : World} {a : Option Addr} {len cap : Nat} {dv : Value} {kids : List RT} {F : List Nat}

theorem LD.start (h : CodeAt w a len) (x : Int) (q : Option Addr) :
    LD w ((w.alloc (.cells #[.slice a len cap, .int .i64 0, .int .i64 x] 82)).alloc (.cells #[] 30)) a len cap (.slice q 0 0) [] [] := by
  have hb := (Below.refl _ (w.alloc (.cells #[.slice a len cap, .int .i64 0, .int .i64 x] 82))).alloc (Nat.le_refl _) (.cells #[] 30)
  have hb0 := (Below.refl _ w).alloc (Nat.le_refl _) (.cells #[.slice a len cap, .int .i64 0, .int .i64 x] 82)
  refine ⟨(cur_fresh h x).on hb, hb0.trans (hb.mono hb0.size), by simp; omega, ⟨q, 0, 0, 0, fun _ => [], fun _ => .bool true, fun _ => .bool true, rfl, Nat.le_refl _, Nat.zero_le _, fun h => absurd h (by omega), rfl, fun i hi => absurd hi (by simp), fun i hi => absurd hi (by simp), fun i hi => absurd hi (by omega)⟩, Fresh.nil _ _, by simp⟩

theorem LD.draw (h : LD w wr a len cap dv kids F) (hc : Cur w1 w.heap.size a len cap) (hg : wr.grownBy w1 (some w.heap.size)) : LD w w1 a len cap dv kids F := by
  have keep : ∀ y ∈ F, w1.heap[y]? = wr.heap[y]? := fun y hy => hg.block y (h.lie.lt y hy) (fun e => h.far (by injection e with e; exact e ▸ hy))
  refine ⟨hc, ⟨hg.os.trans h.below.os, hg.tape.trans h.below.tape, hg.output.trans h.below.output, Nat.le_trans h.below.size hg.size, fun k hk => (hg.block k (Nat.lt_of_lt_of_le hk h.below.size) (fun e => ?_)).trans (h.below.block k hk)⟩, Nat.lt_of_lt_of_le h.lt hg.size, h.lie.carry keep, h.fresh.carry keep, h.far⟩
  injection e with e
  omega

/-- One tree more: as the program's words run. -/
theorem LD.more (h : LD w wr a len cap dv kids F) (hcode : CodeAt w a len) (hc : Cur w1 w.heap.size a len cap) (hg : wr.grownBy w1 (some w.heap.size)) {X : RT} {kx dx : Value} {FX : List Nat} (hX : Lies w1 X kx dx FX) (hfX : Fresh wr w1 FX) (hn : kids.length ≤ 1048576) (ty : TypeId) :
    ∃ v' w', (Builtin.append_ #[26, 26] ty #[dv, .slice (some ⟨w1.heap.size, 0, none⟩) 1 1]).run Try.prog (w1.alloc (.cells #[.int .i64 X.k, .int .i64 X.n, .string X.s, kx, dx] 30)) = .ok v' w' ∧
      ∃ o' c' G, v' = .slice o' (kids.length + 1) c' ∧ LD w w' a len cap (.slice o' (kids.length + 1) c') (kids ++ [X]) G := by
  have h1 := h.draw hc hg
  have hba := (Below.refl _ w1).alloc (Nat.le_refl _) (.cells #[.int .i64 X.k, .int .i64 X.n, .string X.s, kx, dx] 30)
  have hs := hba.size
  have hlt := h1.lt
  have hd : ∀ x ∈ FX, x ∉ F := fun x hx hx' => by
    have := hfX.old x hx
    have := h.lie.lt x hx'
    omega
  obtain ⟨v', w', hr, o', c', rfl, hb, F2, k1, k2, k3⟩ := append_kid (w := w) (h1.lie.stay hba (Nat.le_refl _)) (h1.fresh.carry fun y hy => hba.block y (h1.lie.lt y hy)) (hX.stay hba (Nat.le_refl _)) ((hfX.earlier (Nat.le_of_lt h.lt)).carry fun y hy => hba.block y (hX.lt y hy)) hd (heap_last w1 _) hn (by omega) ty
  have hG : ∀ y ∈ F, w.heap.size ≤ y := fun y hy => h1.fresh.old y hy
  refine ⟨_, w', hr, o', c', F2, rfl, ?_, ?_, Nat.lt_of_lt_of_le h1.lt (Nat.le_trans hba.size hb.size), k1, k2, fun hx => ?_⟩
  · obtain ⟨i, x, hi, hcc⟩ := h1.cur.cur
    refine ⟨⟨i, x, hi, (hb.block _ (by omega) h1.far).trans ((hba.block _ hlt).trans hcc)⟩, ?_, h1.cur.apart⟩
    have hc2 := hcode.on (w' := w') ⟨hb.os.trans (hba.os.trans h1.below.os), hb.tape.trans (hba.tape.trans h1.below.tape), hb.output.trans (hba.output.trans h1.below.output), Nat.le_trans h1.below.size (Nat.le_trans hba.size hb.size), fun k hk => (hb.block k (by omega) (fun hx => by have := hG k hx; omega)).trans ((hba.block k (by omega)).trans (h1.below.block k hk))⟩
    exact hc2
  · exact ⟨hb.os.trans (hba.os.trans h1.below.os), hb.tape.trans (hba.tape.trans h1.below.tape), hb.output.trans (hba.output.trans h1.below.output), Nat.le_trans h1.below.size (Nat.le_trans hba.size hb.size), fun k hk => (hb.block k (by omega) (fun hx => by have := hG k hx; omega)).trans ((hba.block k (by omega)).trans (h1.below.block k hk))⟩
  · rcases k3 _ hx with e | e | e
    · exact h1.far e
    · have := hfX.old _ e; have := h.lt; omega
    · omega
end

set_option maxRecDepth 100000 in
set_option maxHeartbeats 2000000 in
theorem drawListOf_any (a : Option Addr) (len cap : Nat) (w : World) (hcode : CodeAt w a len) :
    Calls Try.prog 16 #[.slice a len cap] w fun e w' => ∃ dv kids F, e = .returned dv ∧ KidsLie w' dv kids F ∧ Fresh w w' F ∧ Below w.heap.size w w' ∧ kids.length + szAll kids ≤ 30000 := by
  have HC := Lib.hid hcode
  clear hcode
  go_enter Try.func16, Try.ntmps16
  go_wp2_with (first
    | (go_at_call 43; refine (new_any a len cap w HC.out).mono ?_; rintro e w1 ⟨rfl, x, rfl⟩)
    | fail)
  go_loopw [4, 5] (fun q i wr => ∃ (j : Nat) (o : Option Addr) (c : Nat) (kids : List RT) (F : List Nat), j ≤ 3 ∧ q = .slice o j c ∧ i = .int .i64 j ∧ kids.length = j ∧ Hid (LD w wr a len cap (.slice o j c) kids F ∧ szAll kids ≤ j * 6000)) (fun _ i _ => 4 - (intOf i).toNat)
  case atStart => exact ⟨0, _, _, [], [], by omega, rfl, rfl, rfl, LD.start HC.out x _, by simp [szAll]⟩
  case round =>
    obtain ⟨j, o, c, kids, F, hj, rfl, rfl, hk, hr⟩ := hrel
    subst hk
    go_wp2_with (first
      | (go_at_call 44; refine (below_any 4 (by omega) (by omega) a len cap w.heap.size _ hr.out.1.cur.cur hr.out.1.cur.code hr.out.1.cur.apart).mono ?_; rintro e w2 ⟨⟨r, hr2, rfl⟩, hc2, ho2⟩; have HR := Lib.hid (And.intro (hr.out.1.draw (hr.out.1.cur.only hc2 ho2) ho2.grown) hr.out.2); clear hc2 ho2)
      | (go_at_call 46; refine (draw_any a len cap w.heap.size _ HR.out.1.cur).mono ?_; rintro e w3 ⟨X, kx, dx, FX, rfl, hlX, hfX, hcX, hgX, hszX⟩; obtain ⟨⟨o1, q1, rfl⟩, ⟨o2, q2, rfl⟩⟩ := hlX.slices
         have HM := Lib.hid (HR.out.1.more HC.out hcX hgX hlX hfX (by omega))
         have HZ : Hid (szAll (kids ++ [X]) ≤ (kids.length + 1) * 6000) := by
           have h1 := HR.out.2
           show _ ≤ _
           rw [szAll_append, Nat.succ_mul]
           simp only [szAll]
           omega
         clear hlX hfX hcX hgX hszX)
      | (at_builtin; refine list_append_run rfl _ _ 26 rfl _ _ rfl rfl (HM.out _) ?_; rintro v4 w4 ⟨o4, c4, G, rfl, hL⟩; have H4 := Lib.hid hL; clear hL)
      | fail)
    · exact ⟨⟨kids.length + 1, o4, c4, kids ++ [X], G, by omega, rfl, by go_num, by simp, H4.out, HZ.out⟩, by simp [intOf]; omega⟩
    · have HE := Lib.hid (And.intro HR.out.1 (And.intro hj HR.out.2))
      go_ret
      exact ⟨_, _, _, rfl, HE.out.1.lie, HE.out.1.fresh, HE.out.1.below, by have h1 := HE.out.2.1; have h2 := HE.out.2.2; omega⟩
end Go.Proofs.Ythbphkakbjheeaa
