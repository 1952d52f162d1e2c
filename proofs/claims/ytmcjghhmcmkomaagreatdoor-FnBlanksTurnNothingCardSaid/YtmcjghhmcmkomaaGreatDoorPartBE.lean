/-
  What is proved: the program reads a tree that blanks stand ahead of.; the program's Unbraced of a right tree's Braced text, with blanks ahead of it and behind it, answers that tree and -1.; the law FnBlanksTurnNothing returns true at every code, and nothing that stood there turns; condition: the library's table of powers of ten, and its cell MaxLen holds a number.
-/
import Derived.Test.YtmcjghhmcmkomaaGreatDoorPartBD
import Derived.Test.YtmcjghhmcmkomaaGreatDoorPartAV
/- the program reads a tree that blanks stand ahead of. -/
namespace Go.Proofs.YtmcjghhmcmkomaaGreatDoor
open Go Go.RowKit

/-- A tree is to be begun, behind blanks or not. -/
structure AhdB (W wr : World) (p : Nat) (s : ByteArray) (T : RT) (R : List UInt8) (i0 i : Nat) (ov : Value) (fs : List Frm) (ls : List Lv) (X : RT) : Prop where
  mid : Mid W W wr p s i0 ov (begun fs) (-1) ls
  opn : Opn fs ls
  plug : plug fs X = T
  text : s.data.toList.drop i = X.brac ++ restText fs R
  lead : Lead s p i0 i
  le : i0 ≤ i

theorem brac_of {W wr : World} {p : Nat} {s : ByteArray} {T : RT} {R : List UInt8} {i : Nat} {ov : Value} {fs : List Frm} {ls : List Lv} {X : RT} (hT : T.right = true) (h : Ahd W wr p s T R i ov fs ls X) : i ≤ s.size ∧ blkB (nextB s i) = false := by
  obtain ⟨b, r, h1, h2⟩ := brac_head (plug_right fs X (by rw [h.plug]; exact hT))
  have ht := h.text
  rw [h1] at ht
  obtain ⟨n1, n2, -⟩ := nextB_drop (l := r ++ restText fs R) ht
  exact ⟨Nat.le_of_lt n2, by rw [n1]; exact h2.1⟩

theorem ahdB {W wr : World} {p : Nat} {s : ByteArray} {T : RT} {R : List UInt8} {i : Nat} {ov : Value} {fs : List Frm} {ls : List Lv} {X : RT} (h : Ahd W wr p s T R i ov fs ls X) (hb : i ≤ s.size ∧ blkB (nextB s i) = false) : AhdB W wr p s T R i i ov fs ls X :=
  ⟨h.mid, h.opn, h.plug, h.text, lead_none hb.1 hb.2, Nat.le_refl _⟩

set_option maxRecDepth 100000 in
set_option maxHeartbeats 4000000 in
theorem tree_anyb {w : World} {p : Nat} {s : ByteArray} (hs : s.size ≤ 1000000000) {T : RT} {R : List UInt8} {i0 i : Nat} (hLd : Lead s p i0 i) (hi0 : i0 ≤ i) (hR : isDig (R.headD 0) = false) (hT : T.right = true) (hz : T.size ≤ 200) (ht : s.data.toList.drop i = T.brac ++ R) (h : Rd w p s i0 (.slice none 0 0) 0 (-1)) :
    Calls Tryz.prog 58 #[.pointer (some ⟨p, 0, none⟩)] w fun e w' => ∃ kx dx F ov j, e = .returned (.tuple #[.agg #[.int .i64 T.k, .int .i64 T.n, .string T.s, kx, dx], .nilIface]) ∧ Lies w' T kx dx F ∧ Fresh w w' F ∧ Rd w' p s j ov T.size (-1) ∧ s.data.toList.drop j = R ∧ j ≤ s.size ∧ Kp w p w w' := by
  have hp : p < w.heap.size := h.lt
  have hb0 := (Below.refl _ w).alloc (Nat.le_refl _) (.cells #[.int .i64 0, .int .i64 0, .string ⟨#[]⟩, .slice none 0 0, .slice none 0 0] 27)
  have A0 : Hid (AhdB (w.alloc (.cells #[.int .i64 0, .int .i64 0, .string ⟨#[]⟩, .slice none 0 0, .slice none 0 0] 27)) (w.alloc (.cells #[.int .i64 0, .int .i64 0, .string ⟨#[]⟩, .slice none 0 0, .slice none 0 0] 27)) p s T R i0 i (.slice none 0 0) [] [] T) :=
    ⟨⟨h.same (hb0.block p hp), Stk.start _ _, Kp.refl _ _ _, Nat.le_refl _⟩, .nil, rfl, ht, hLd, hi0⟩
  have HZ0 : Hid ((w.alloc (.cells #[.int .i64 0, .int .i64 0, .string ⟨#[]⟩, .slice none 0 0, .slice none 0 0] 27)).heap[w.heap.size]? = some (.cells #[.int .i64 0, .int .i64 0, .string ⟨#[]⟩, .slice none 0 0, .slice none 0 0] 27 (0, 0)) ∧ (w.alloc (.cells #[.int .i64 0, .int .i64 0, .string ⟨#[]⟩, .slice none 0 0, .slice none 0 0] 27)).heap.size = w.heap.size + 1 ∧ Below w.heap.size w (w.alloc (.cells #[.int .i64 0, .int .i64 0, .string ⟨#[]⟩, .slice none 0 0, .slice none 0 0] 27))) := ⟨heap_last w _, by simp, hb0⟩
  have HTz : Hid (T.right = true ∧ T.size ≤ 200 ∧ isDig (R.headD 0) = false ∧ s.size ≤ 1000000000) := ⟨hT, hz, hR, hs⟩
  have HP : Hid (p < w.heap.size) := hp
  clear ht h hb0 hT hz hR hLd hi0
  go_enter Tryz.func58, Tryz.ntmps58
  go_wp2_with fail
  generalize (w.alloc (.cells #[.int .i64 0, .int .i64 0, .string ⟨#[]⟩, .slice none 0 0, .slice none 0 0] 27)) = W at *
  go_loopw [] (fun wr => ∃ i0 i ov fs ls X, Hid (AhdB W wr p s T R i0 i ov fs ls X)) (fun wr => s.size - rplace wr p)
  case atStart => exact ⟨_, _, _, _, _, _, A0.out⟩
  case round =>
    obtain ⟨i0, i, ov, fs, ls, X, hr⟩ := hrel
    have HBg := Lib.hid (begin_anyb HTz.out.2.2.2 hr.out.mid.renew hr.out.lead (by have := HZ0.out.2.1; have := HP.out; omega) hr.out.opn (by rw [hr.out.plug]; exact HTz.out.1) (by rw [hr.out.plug]; exact HTz.out.2.1) hr.out.text HTz.out.2.2.1)
    go_wp2_with fail
    refine HBg.out.mono ?_
    rintro e w1 ⟨hfr, hcase⟩
    have HC : Hid (∃ b j1 : Nat, b = j1) := ⟨0, 0, rfl⟩
    clear HC
    have hi0 : i < s.size := by
      obtain ⟨b, r, h1, -⟩ := brac_head (plug_right fs X (by rw [hr.out.plug]; exact HTz.out.1))
      have ht := hr.out.text
      rw [h1] at ht
      exact (nextB_drop (l := r ++ restText fs R) ht).2.1
    have HI0 : Hid (i < s.size ∧ rplace wr p = i0 ∧ i0 ≤ i) := ⟨hi0, hr.out.mid.rd.place, hr.out.le⟩
    clear hi0
    rcases hcase with ⟨kx, dx, F, j, rfl, hM1, hH1, ht1, hij, hle⟩ | ⟨f, x, l, ov1, j, rfl, hfx, ho1, hM1, ht1, hij⟩
    · have G1 := Lib.hid (And.intro (got_start (hr.out.mid.back hM1) hr.out.opn hH1 hr.out.plug ht1 hle) hij)
      obtain ⟨⟨o1, c1, rfl⟩, ⟨o2, c2, rfl⟩⟩ := hH1.lies.slices
      clear hfr hM1 hH1 ht1 HBg hij hle
      go_wp2_with fail
      go_loopw [5, 6] (fun a b wy => b = .nilIface ∧ ((a = .bool true ∧ ∃ i' ov fs ls X kx dx F, Hid (Got W wy p s T R w1.heap.size i' ov fs ls X kx dx F ∧ i < i')) ∨ (a = .bool false ∧ ∃ i' ov fs ls X, Hid (Ahd W wy p s T R i' ov fs ls X ∧ i < i')))) (fun a _ wy => match a with | .bool true => olen wy p + 1 | _ => 0)
      case atStart => exact ⟨rfl, .inl ⟨rfl, _, _, _, _, _, _, _, _, G1.out⟩⟩
      case round =>
        obtain ⟨rfl, ⟨rfl, i1, ov1, fs1, ls1, X1, kx1, dx1, F1, hg⟩ | ⟨rfl, i1, ov1, fs1, ls1, X1, hg⟩⟩ := hrel
        · cases fs1 with
          | nil =>
            have hls : ls1 = [] := List.length_eq_zero_iff.1 hg.out.1.opn.length
            subst hls
            obtain ⟨ol, cl, rfl⟩ := hg.out.1.mid.stk.lenv
            obtain ⟨p0, p1, p2, p3, p4, p5⟩ := hg.out.1.mid.rd.five
            obtain ⟨t0, t1, t2, t3, t4, t5⟩ := five hg.out.1.box
            obtain ⟨⟨o3, c3, rfl⟩, ⟨o4, c4, rfl⟩⟩ := hg.out.1.hand.lies.slices
            have hzr : wr.heap[w.heap.size]? = _ := (hg.out.1.mid.kp.block w.heap.size (by have := HZ0.out.2.1; omega) (by have := HP.out; omega)).trans HZ0.out.1
            have HZr := Lib.hid hzr
            obtain ⟨z0, z1, z2, z3, z4, z5⟩ := five hzr
            clear hzr
            have HG := hg.out.1
            have hpl : X1 = T := HG.plug
            subst hpl
            have hr1 : s.data.toList.drop i1 = R := HG.text
            go_wp2_with fail
            have hsz := HZ0.out.2.1
            have hpw := HP.out
            have keep : ∀ y ∈ F1, (set5 wr w.heap.size 0 (.int .i64 X1.k) (.int .i64 X1.n) (.string X1.s) (.slice o3 X1.keys.length c3) (.slice o4 X1.kids.length c4)).heap[y]? = wr.heap[y]? := fun y hy => set5_other _ _ _ _ _ _ _ _ _ (by have := HG.hand.fresh.old y hy; omega)
            have hk := HG.mid.kp
            have hb5 := set5_below (Below.refl w.heap.size wr) (Nat.le_refl _) 0 (.int .i64 X1.k) (.int .i64 X1.n) (.string X1.s) (.slice o3 X1.keys.length c3) (.slice o4 X1.kids.length c4)
            refine bodyPost_ret (ret_node2 Tryz.results58 rfl rfl (set5_end HZr.out _ _ _ _ _)) rfl ⟨_, _, F1, Value.slice ol ([] : List Lv).length cl, i1, rfl, HG.hand.lies.carry keep, (HG.hand.fresh.carry keep).earlier (by omega), ?_, hr1, HG.le, ?_⟩
            · have := HG.mid.rd.set5 (b := w.heap.size) (by omega) (.int .i64 X1.k) (.int .i64 X1.n) (.string X1.s) (.slice o3 X1.keys.length c3) (.slice o4 X1.kids.length c4)
              have e : begun [] + X1.size = X1.size := by simp [begun]
              rw [e] at this
              exact this
            · exact (Kp.of_below HZ0.out.2.2 (Nat.le_refl _)).trans ((Kp.mk hk.os hk.tape hk.output hk.size fun b hb hbp => hk.block b (by omega) hbp).trans ⟨hb5.os, hb5.tape, hb5.output, hb5.size, fun x hx _ => hb5.block x hx⟩)
          | cons f fs =>
            obtain ⟨ls, l, rfl, hol⟩ : ∃ ls l, ls1 = ls ++ [l] ∧ ls.length = fs.length := by
              cases hg.out.1.opn with
              | cons _ _ ls l ho _ _ _ => exact ⟨ls, l, rfl, ho.length⟩
            have HGo := Lib.hid (go_any HTz.out.2.2.2 hg.out.1.mid.renew (by have := HZ0.out.2.1; have := HP.out; omega) hg.out.1.opn hg.out.1.hand (by rw [hg.out.1.plug]; exact HTz.out.1) (by rw [hg.out.1.plug]; exact HTz.out.2.1) hg.out.1.text)
            have HOl := Lib.hid (olen_at hg.out.1.mid.rd hg.out.1.mid.stk)
            obtain ⟨ol, cl, rfl⟩ := hg.out.1.mid.stk.lenv
            obtain ⟨p0, p1, p2, p3, p4, p5⟩ := hg.out.1.mid.rd.five
            obtain ⟨t0, t1, t2, t3, t4, t5⟩ := five hg.out.1.box
            obtain ⟨⟨o3, c3, rfl⟩, ⟨o4, c4, rfl⟩⟩ := hg.out.1.hand.lies.slices
            have hl0 : (0 : Int) < ((ls ++ [l]).length : Int) := by simp
            go_wp2_with fail
            refine HGo.out.mono ?_
            rintro e w2 ⟨hfr, hcase⟩
            have hpW : p < W.heap.size := by have := HZ0.out.2.1; have := HP.out; omega
            have htb : w2.heap[w1.heap.size]? = _ := (hfr w1.heap.size (Array.getElem?_eq_some_iff.1 hg.out.1.box).1 (by have := hg.out.1.old; omega) (fun e => hg.out.1.row e.symm) hg.out.1.apart).trans hg.out.1.box
            clear t0 t1 t2 t3 t4 t5 p0 p1 p2 p3 p4 p5 HGo
            rcases hcase with ⟨kv, dv, F, ov', j, ls', l', hls', hov, rfl, ho, hM, hH, hpv, ht, hij, hle⟩ | ⟨f', x, ov', j, LS', rfl, hfx, ho, hM, hov, hpv, ht, hij⟩
            · obtain ⟨e1, e2⟩ := List.append_inj' hls' rfl
              injection e2 with e2
              subst e1 e2
              obtain ⟨⟨o5, c5, rfl⟩, ⟨o6, c6, rfl⟩⟩ := hH.lies.slices
              have G2 := Lib.hid (got_hand hg.out.1 hpW hfr hov ho hM hH hpv ht hle)
              have HM : Hid (i < j ∧ olen wr p = ls.length + 1) := ⟨by have := hg.out.2; omega, by rw [HOl.out]; simp⟩
              obtain ⟨t0, t1, t2, t3, t4, t5⟩ := five htb
              clear hfr hov hM hH hpv ht hij ho htb hle
              have HO2 := Lib.hid (olen_at G2.out.mid.rd G2.out.mid.stk)
              generalize f.fill X1 = X2 at *
              go_wp2_with fail
              refine ⟨⟨rfl, .inl ⟨rfl, j, _, _, _, _, _, _, _, G2.out, HM.out.1⟩⟩, ?_⟩
              have h1 := HM.out.2
              have h2 := HO2.out
              show olen (set5 w2 w1.heap.size 0 (.int .i64 X2.k) (.int .i64 X2.n) (.string X2.s) (.slice o5 X2.keys.length c5) (.slice o6 X2.kids.length c6)) p + 1 < olen wr p + 1
              omega
            · have G2 := Lib.hid (got_ahd hg.out.1 hpW hfx ho hM hov hpv ht (.int .i64 0) (.int .i64 0) (.string ⟨#[]⟩) (.slice none 0 0) (.slice none 0 0))
              have HM : Hid (i < j) := by have := hg.out.2; exact Nat.lt_trans this hij
              obtain ⟨t0, t1, t2, t3, t4, t5⟩ := five htb
              clear hfr hov hM hpv ht hij ho htb
              go_wp2_with fail
              refine ⟨⟨rfl, .inr ⟨rfl, j, _, _, _, _, G2.out, HM.out⟩⟩, ?_⟩
              show 0 < olen wr p + 1
              omega
        · have h1 := hg.out.1.mid.rd.place
          have h2 := hg.out.2
          clear h1 h2
          go_wp2_with fail
          refine ⟨⟨_, _, _, _, _, _, ahdB hg.out.1 (brac_of HTz.out.1 hg.out.1)⟩, ?_⟩
          have h1 := hg.out.1.mid.rd.place
          have h2 := hg.out.2
          have h3 := HI0.out
          omega
    · have G1 : Hid (Ahd W w1 p s T R j ov1 (f :: fs) (ls ++ [l]) x) := ⟨hr.out.mid.back hM1, ho1, by show plug fs (f.fill x) = T; rw [hfx]; exact hr.out.plug, ht1⟩
      have HJ : Hid (i < j) := hij
      clear hfr hM1 ht1 HBg hij
      go_wp2_with fail
      go_loopw [5, 6] (fun a b wy => b = .nilIface ∧ a = .bool false ∧ Hid (Ahd W wy p s T R j ov1 (f :: fs) (ls ++ [l]) x)) (fun _ _ _ => 0)
      case atStart => exact ⟨rfl, rfl, ahd_alloc G1.out _⟩
      case round =>
        obtain ⟨rfl, rfl, hg⟩ := hrel
        go_wp2_with fail
        refine ⟨⟨_, _, _, _, _, _, ahdB hg.out (brac_of HTz.out.1 hg.out)⟩, ?_⟩
        have h1 := hg.out.mid.rd.place
        have h2 := HJ.out
        have h3 := HI0.out
        omega
end Go.Proofs.YtmcjghhmcmkomaaGreatDoor

/- the program's Unbraced of a right tree's Braced text, with blanks ahead of it and behind it, answers that tree and -1. -/
namespace Go.Proofs.YtmcjghhmcmkomaaGreatDoor
open Go Go.RowKit

theorem lead_at {s : ByteArray} {p : Nat} {T : RT} {pl bl : List UInt8} (hs : s.size ≤ 6000) (hpl : ∀ b ∈ pl, blkB b = true) (hr : T.right = true) (ht : s.data.toList = pl ++ (T.brac ++ bl)) : Lead s p 0 pl.length := by
  obtain ⟨b, r, h1, h2⟩ := brac_head hr
  have := lead_some (s := s) (p := p) (i0 := 0) (by unfold maxLen; omega) (Nat.zero_le _) pl (T.brac ++ bl) hpl (by rw [List.drop_zero]; exact ht) (by rw [h1]; exact h2.1)
  rwa [Nat.zero_add] at this

set_option maxRecDepth 100000 in
set_option maxHeartbeats 4000000 in
theorem impl_treeOfb (T : RT) (hok : treeOk T = true) (s : ByteArray) (hs : s.size ≤ 6000) (pl : List UInt8) (hpl : ∀ b ∈ pl, blkB b = true) (bl : List UInt8) (hbl : ∀ b ∈ bl, blkB b = true) (ht : s.data.toList = pl ++ (T.brac ++ bl)) (w : World) :
    Calls Tryz.prog 31 #[.string s] w fun e w' => ∃ kx dx F, e = .returned (.tuple #[.agg #[.int .i64 T.k, .int .i64 T.n, .string T.s, kx, dx], .nilIface]) ∧ Lies w' T kx dx F ∧ Fresh w w' F ∧ Below w.heap.size w w' := by
  obtain ⟨hz, hr⟩ := treeOk_out hok
  have HTr := Lib.hid (fun (wx : World) (p : Nat) (h : Rd wx p s 0 (.slice none 0 0) 0 (-1)) => tree_anyb (w := wx) (i0 := 0) (i := pl.length) (by omega) (lead_at hs hpl hr ht) (Nat.zero_le _) (blank_head hbl) hr hz (by rw [ht, List.drop_left]) h)
  have HOk := Lib.hid (fun (wx : World) (kv dv : Value) (F : List Nat) (hl : Lies wx T kv dv F) => impl_treeOk T wx kv dv F hl)
  rw [hok] at HOk
  have hz' : (T.size : Int) ≤ 200 := by omega
  have hs' : (s.size : Int) ≤ 6000 := by omega
  have HE := Lib.hid (fun (wx : World) (p j : Nat) (ov : Value) (h : Rd wx p s j ov T.size (-1)) (hd : s.data.toList.drop j = bl) (hj : j ≤ s.size) => rd_end p s (by unfold maxLen; omega) j ov _ _ bl hbl hd hj wx h)
  have hb0 := ((Below.refl _ w).alloc (Nat.le_refl _) (.cells #[.int .i64 0, .int .i64 0, .string ⟨#[]⟩, .slice none 0 0, .slice none 0 0] 27)).alloc (by simp) (.cells #[.string s, .int .i64 0, .slice none 0 0, .int .i64 0, .int .i64 (-1)] 97)
  obtain ⟨hz1, hz2⟩ := zero_blocks2 w (.cells #[.int .i64 0, .int .i64 0, .string ⟨#[]⟩, .slice none 0 0, .slice none 0 0] 27) (.cells #[.string s, .int .i64 0, .slice none 0 0, .int .i64 0, .int .i64 (-1)] 97)
  have H0 : Hid (((w.alloc (.cells #[.int .i64 0, .int .i64 0, .string ⟨#[]⟩, .slice none 0 0, .slice none 0 0] 27)).alloc (.cells #[.string s, .int .i64 0, .slice none 0 0, .int .i64 0, .int .i64 (-1)] 97)).heap[w.heap.size]? = some (.cells #[.int .i64 0, .int .i64 0, .string ⟨#[]⟩, .slice none 0 0, .slice none 0 0] 27 (0, 0)) ∧ Rd ((w.alloc (.cells #[.int .i64 0, .int .i64 0, .string ⟨#[]⟩, .slice none 0 0, .slice none 0 0] 27)).alloc (.cells #[.string s, .int .i64 0, .slice none 0 0, .int .i64 0, .int .i64 (-1)] 97)) (w.heap.size + 1) s 0 (.slice none 0 0) 0 (-1) ∧ ((w.alloc (.cells #[.int .i64 0, .int .i64 0, .string ⟨#[]⟩, .slice none 0 0, .slice none 0 0] 27)).alloc (.cells #[.string s, .int .i64 0, .slice none 0 0, .int .i64 0, .int .i64 (-1)] 97)).heap.size = w.heap.size + 2 ∧ Below w.heap.size w ((w.alloc (.cells #[.int .i64 0, .int .i64 0, .string ⟨#[]⟩, .slice none 0 0, .slice none 0 0] 27)).alloc (.cells #[.string s, .int .i64 0, .slice none 0 0, .int .i64 0, .int .i64 (-1)] 97))) := ⟨hz1, hz2, by simp, hb0⟩
  clear hz1 hz2 hb0 ht hbl hpl
  go_enter Tryz.func31, Tryz.ntmps31
  go_wp2_with fail
  generalize (w.alloc (.cells #[.int .i64 0, .int .i64 0, .string ⟨#[]⟩, .slice none 0 0, .slice none 0 0] 27)).alloc (.cells #[.string s, .int .i64 0, .slice none 0 0, .int .i64 0, .int .i64 (-1)] 97) = W at *
  refine (HTr.out _ _ H0.out.2.1).mono ?_
  rintro e w2 ⟨kx, dx, F, ov, j, rfl, hl, hf, hrd, hdr, hj, hkp⟩
  obtain ⟨⟨o1, c1, rfl⟩, ⟨o2, c2, rfl⟩⟩ := hl.slices
  -- behind the tree: t's block
  have hb2 := (Below.refl _ w2).alloc (Nat.le_refl _) (.cells #[.int .i64 T.k, .int .i64 T.n, .string T.s, .slice o1 T.keys.length c1, .slice o2 T.kids.length c2] 27)
  have hsz := H0.out.2.2.1
  have hr2 : w2.heap[w.heap.size]? = _ := (hkp.block w.heap.size (by omega) (by omega)).trans H0.out.1
  have hlt2 : W.heap.size ≤ w2.heap.size := hkp.size
  have hT3 := heap_last w2 (.cells #[.int .i64 T.k, .int .i64 T.n, .string T.s, .slice o1 T.keys.length c1, .slice o2 T.kids.length c2] 27)
  have HEn := Lib.hid (HE.out _ _ j ov (hrd.same (hb2.block _ hrd.lt)) hdr hj)
  have hB2 : Below w.heap.size w w2 := H0.out.2.2.2.trans ⟨hkp.os, hkp.tape, hkp.output, hkp.size, fun b hb => hkp.block b (by omega) (by omega)⟩
  have H3 : Hid (Lies (w2.alloc (.cells #[.int .i64 T.k, .int .i64 T.n, .string T.s, .slice o1 T.keys.length c1, .slice o2 T.kids.length c2] 27)) T (.slice o1 T.keys.length c1) (.slice o2 T.kids.length c2) F ∧ Fresh W (w2.alloc (.cells #[.int .i64 T.k, .int .i64 T.n, .string T.s, .slice o1 T.keys.length c1, .slice o2 T.kids.length c2] 27)) F ∧ (w2.alloc (.cells #[.int .i64 T.k, .int .i64 T.n, .string T.s, .slice o1 T.keys.length c1, .slice o2 T.kids.length c2] 27)).heap[w.heap.size]? = some (.cells #[.int .i64 0, .int .i64 0, .string ⟨#[]⟩, .slice none 0 0, .slice none 0 0] 27 (0, 0)) ∧ (w2.alloc (.cells #[.int .i64 T.k, .int .i64 T.n, .string T.s, .slice o1 T.keys.length c1, .slice o2 T.kids.length c2] 27)).heap[w2.heap.size]? = some (.cells #[.int .i64 T.k, .int .i64 T.n, .string T.s, .slice o1 T.keys.length c1, .slice o2 T.kids.length c2] 27 (0, 0)) ∧ Below w.heap.size w (w2.alloc (.cells #[.int .i64 T.k, .int .i64 T.n, .string T.s, .slice o1 T.keys.length c1, .slice o2 T.kids.length c2] 27))) :=
    ⟨hl.stay hb2 (Nat.le_refl _), hf.carry fun y hy => hb2.block y (hl.lt y hy), (hb2.block _ (by omega)).trans hr2, hT3, hB2.trans (hb2.mono hB2.size)⟩
  have HSz : Hid (W.heap.size = w.heap.size + 2 ∧ W.heap.size ≤ w2.heap.size) := ⟨hsz, hlt2⟩
  clear hl hf hrd hdr hj hkp hb2 hr2 hT3 hB2 hsz hlt2
  go_wp2_with fail
  refine HEn.out.mono ?_
  rintro e w4 ⟨rfl, hrd4, hg4⟩
  have hl2 := HSz.out
  have keep : ∀ b, b < (w2.alloc (.cells #[.int .i64 T.k, .int .i64 T.n, .string T.s, .slice o1 T.keys.length c1, .slice o2 T.kids.length c2] 27)).heap.size → b ≠ w.heap.size + 1 → w4.heap[b]? = _ := fun b hb hne => hg4.block b hb (fun e => hne (by injection e with e))
  have hsz3 : (w2.alloc (.cells #[.int .i64 T.k, .int .i64 T.n, .string T.s, .slice o1 T.keys.length c1, .slice o2 T.kids.length c2] 27)).heap.size = w2.heap.size + 1 := by simp
  have H4 : Hid (Lies w4 T (.slice o1 T.keys.length c1) (.slice o2 T.kids.length c2) F ∧ Fresh W w4 F ∧ w4.heap[w.heap.size]? = some (.cells #[.int .i64 0, .int .i64 0, .string ⟨#[]⟩, .slice none 0 0, .slice none 0 0] 27 (0, 0)) ∧ w4.heap[w2.heap.size]? = some (.cells #[.int .i64 T.k, .int .i64 T.n, .string T.s, .slice o1 T.keys.length c1, .slice o2 T.kids.length c2] 27 (0, 0)) ∧ Below w.heap.size w w4) :=
    ⟨H3.out.1.carry fun y hy => keep y (H3.out.1.lt y hy) (by have := H3.out.2.1.old y hy; omega), H3.out.2.1.carry fun y hy => keep y (H3.out.1.lt y hy) (by have := H3.out.2.1.old y hy; omega), (keep _ (by omega) (by omega)).trans H3.out.2.2.1, (keep _ (by omega) (by omega)).trans H3.out.2.2.2.1, H3.out.2.2.2.2.grown hg4 (by omega) (fun k e => by injection e with e; omega)⟩
  obtain ⟨r0, r1, r2, r3, r4, r5⟩ := hrd4.five
  obtain ⟨t0, t1, t2, t3, t4, t5⟩ := five H4.out.2.2.2.1
  have HLs := Lib.hid H4.out.1
  clear keep hsz3 hg4 hrd4 H3 hl2
  go_wp2_with fail
  refine (HOk.out _ _ _ _ HLs.out).mono ?_
  rintro e w5 ⟨rfl, hb5⟩
  have H5 : Hid (Lies w5 T (.slice o1 T.keys.length c1) (.slice o2 T.kids.length c2) F ∧ Fresh W w5 F ∧ w5.heap[w.heap.size]? = some (.cells #[.int .i64 0, .int .i64 0, .string ⟨#[]⟩, .slice none 0 0, .slice none 0 0] 27 (0, 0)) ∧ Below w.heap.size w w5) :=
    ⟨H4.out.1.stay hb5 (Nat.le_refl _), H4.out.2.1.carry fun y hy => hb5.block y (H4.out.1.lt y hy), blk_nextR H4.out.2.2.1 hb5, H4.out.2.2.2.2.trans (hb5.mono H4.out.2.2.2.2.size)⟩
  have ht5 := blk_nextR H4.out.2.2.2.1 hb5
  clear r0 r1 r2 r3 r4 r5 t0 t1 t2 t3 t4 t5 H4 HLs hb5
  obtain ⟨t0, t1, t2, t3, t4, t5⟩ := five ht5
  obtain ⟨z0, z1, z2, z3, z4, z5⟩ := five H5.out.2.2.1
  clear ht5
  go_wp2_with fail
  have hs2 := HSz.out
  have keep : ∀ y ∈ F, (set5 w5 w.heap.size 0 (.int .i64 T.k) (.int .i64 T.n) (.string T.s) (.slice o1 T.keys.length c1) (.slice o2 T.kids.length c2)).heap[y]? = w5.heap[y]? := fun y hy => set5_other _ _ _ _ _ _ _ _ _ (by have := H5.out.2.1.old y hy; omega)
  exact bodyPost_ret (ret_node2 Tryz.results31 rfl rfl (set5_end H5.out.2.2.1 _ _ _ _ _)) rfl ⟨_, _, F, rfl, H5.out.1.carry keep, (H5.out.2.1.carry keep).earlier (by omega), set5_below H5.out.2.2.2 (Nat.le_refl _) _ _ _ _ _ _⟩

set_option maxRecDepth 100000 in
set_option maxHeartbeats 2000000 in
theorem impl_unbracedb (T : RT) (hok : treeOk T = true) (s : ByteArray) (hs : s.size ≤ 6000) (pl : List UInt8) (hpl : ∀ b ∈ pl, blkB b = true) (bl : List UInt8) (hbl : ∀ b ∈ bl, blkB b = true) (ht : s.data.toList = pl ++ (T.brac ++ bl)) (w : World) :
    Calls Tryz.prog 14 #[.string s] w fun e w' => ∃ kx dx F, e = .returned (.tuple #[.agg #[.int .i64 T.k, .int .i64 T.n, .string T.s, kx, dx], .int .i64 (-1)]) ∧ Lies w' T kx dx F ∧ Fresh w w' F ∧ Below w.heap.size w w' := by
  have HTr := Lib.hid (fun (wx : World) => impl_treeOfb T hok s hs pl hpl bl hbl ht wx)
  clear ht hbl hpl hs hok
  have hb0 := (Below.refl _ w).alloc (Nat.le_refl _) (.cells #[.int .i64 0, .int .i64 0, .string ⟨#[]⟩, .slice none 0 0, .slice none 0 0] 27)
  have HZ := Lib.hid (And.intro (heap_last w (.cells #[.int .i64 0, .int .i64 0, .string ⟨#[]⟩, .slice none 0 0, .slice none 0 0] 27)) hb0)
  clear hb0
  go_enter Tryz.func14, Tryz.ntmps14
  go_wp2_with fail
  refine (HTr.out _).mono ?_
  rintro e w1 ⟨kx, dx, F, rfl, hl, hf, hb⟩
  obtain ⟨⟨o1, c1, rfl⟩, ⟨o2, c2, rfl⟩⟩ := hl.slices
  go_wp2_with fail
  refine (impl_placed _ _ _ _ _ _ _ _ _ _).mono ?_
  rintro e w2 ⟨rfl, hb2⟩
  have hb12 := hb.trans (hb2.mono hb.size)
  have hz2 := blk_nextR HZ.out.1 hb12
  have HF : Hid (Lies w2 T (.slice o1 T.keys.length c1) (.slice o2 T.kids.length c2) F ∧ Fresh w w2 F ∧ (∀ y ∈ F, y ≠ w.heap.size) ∧ Below w.heap.size w w2) := ⟨hl.stay hb2 (Nat.le_refl _), (hf.carry fun y hy => hb2.block y (hl.lt y hy)).earlier (by simp), fun y hy e => by have := hf.old y hy; simp at this; omega, HZ.out.2.trans (hb12.mono HZ.out.2.size)⟩
  have HZ2 := Lib.hid hz2
  obtain ⟨z0, z1, z2, z3, z4, z5⟩ := five hz2
  clear hl hf hb hb2 hb12 hz2
  go_wp2_with fail
  have keep : ∀ y ∈ F, (set5 w2 w.heap.size 0 (.int .i64 T.k) (.int .i64 T.n) (.string T.s) (.slice o1 T.keys.length c1) (.slice o2 T.kids.length c2)).heap[y]? = w2.heap[y]? := fun y hy => set5_other _ _ _ _ _ _ _ _ _ (HF.out.2.2.1 y hy)
  exact bodyPost_ret (ret_node2 Tryz.results14 rfl rfl (set5_end HZ2.out _ _ _ _ _)) rfl ⟨_, _, F, rfl, HF.out.1.carry keep, HF.out.2.1.carry keep, set5_below HF.out.2.2.2 (Nat.le_refl _) _ _ _ _ _ _⟩
end Go.Proofs.YtmcjghhmcmkomaaGreatDoor

/- the law FnBlanksTurnNothing returns true at every code, and nothing that stood there turns; condition: the library's table of powers of ten, and its cell MaxLen holds a number. -/
namespace Go.Proofs.YtmcjghhmcmkomaaGreatDoor
open Go Go.RowKit

set_option maxRecDepth 100000 in
set_option maxHeartbeats 1000000 in
theorem drawInd_any (a : Option Addr) (len cap : Nat) (w : World) (hcode : CodeAt w a len) :
    Calls Tryz.prog 11 #[.slice a len cap] w fun e w' => ∃ T kv dv F, e = .returned (.agg #[.int .i64 T.k, .int .i64 T.n, .string T.s, kv, dv]) ∧ Lies w' T kv dv F ∧ Below w.heap.size w w' ∧ T.wz ≤ 3000 := by
  have hb0 := (Below.refl _ w).alloc (Nat.le_refl _) (.cells #[.int .i64 0, .int .i64 0, .string ⟨#[]⟩, .slice none 0 0, .slice none 0 0] 27)
  have HC := Lib.hid (hcode.on hb0)
  have HZ := Lib.hid (And.intro (heap_last w (.cells #[.int .i64 0, .int .i64 0, .string ⟨#[]⟩, .slice none 0 0, .slice none 0 0] 27)) hb0)
  clear hcode hb0
  go_enter Tryz.func11, Tryz.ntmps11
  go_wp2_with fail
  generalize w.alloc (.cells #[.int .i64 0, .int .i64 0, .string ⟨#[]⟩, .slice none 0 0, .slice none 0 0] 27) = w0 at *
  have HD : Hid (∀ x : Int, Calls Tryz.prog 15 #[.pointer (some ⟨w0.heap.size, 0, none⟩)] (w0.alloc (.cells #[.slice a len cap, .int .i64 0, .int .i64 x] 58)) fun e w' => ∃ T kv dv F, e = .returned (.agg #[.int .i64 T.k, .int .i64 T.n, .string T.s, kv, dv]) ∧ Lies w' T kv dv F ∧ (∀ y ∈ F, w0.heap.size ≤ y) ∧ Below w0.heap.size w0 w' ∧ T.wz ≤ 3000) := fun x => by
    refine (draw_all a len cap _ _ (cur_anew HC.out x)).mono ?_
    rintro e w2 ⟨T, kt, dt, FT, rfl, hl, hf, -, hg, hz⟩
    exact ⟨T, kt, dt, FT, rfl, hl, fun y hy => by have h1 := hf.old y hy; have h2 := ((Below.refl _ w0).alloc (Nat.le_refl _) (.cells #[.slice a len cap, .int .i64 0, .int .i64 x] 58)).size; omega, below_anew hg, hz⟩
  refine (new_any a len cap _ HC.out).mono ?_
  rintro e w1 ⟨rfl, x, rfl⟩
  have HD1 := Lib.hid (HD.out x)
  clear HD HC
  have hlt : w.heap.size < w0.heap.size := (Array.getElem?_eq_some_iff.1 HZ.out.1).1
  generalize w0.alloc (.cells #[.slice a len cap, .int .i64 0, .int .i64 x] 58) = w1 at *
  generalize hp : w0.heap.size = p at *
  go_wp2_with fail
  refine HD1.out.mono ?_
  rintro e w2 ⟨T, kt, dt, FT, rfl, hl, hf, hb2, hz⟩
  obtain ⟨⟨o1, c1, rfl⟩, ⟨o2, c2, rfl⟩⟩ := hl.slices
  have hz2 := blk_nextR HZ.out.1 (by rw [hp]; exact hb2)
  have HF : Hid (Lies w2 T (.slice o1 T.keys.length c1) (.slice o2 T.kids.length c2) FT ∧ (∀ y ∈ FT, y ≠ w.heap.size) ∧ Below w.heap.size w w2 ∧ T.wz ≤ 3000) := ⟨hl, fun y hy e => by have := hf y hy; omega, HZ.out.2.trans (hb2.mono (by omega)), hz⟩
  have HZ2 := Lib.hid hz2
  obtain ⟨z0, z1, z2, z3, z4, z5⟩ := five hz2
  clear hl hf hz hb2 hz2
  go_wp2_with fail
  have keep : ∀ y ∈ FT, (set5 w2 w.heap.size 0 (.int .i64 T.k) (.int .i64 T.n) (.string T.s) (.slice o1 T.keys.length c1) (.slice o2 T.kids.length c2)).heap[y]? = w2.heap[y]? := fun y hy => set5_other _ _ _ _ _ _ _ _ _ (HF.out.2.1 y hy)
  exact bodyPost_ret (ret_node Tryz.results11 rfl (set5_end HZ2.out _ _ _ _ _)) rfl ⟨T, _, _, FT, rfl, HF.out.1.carry keep, set5_below HF.out.2.2.1 (Nat.le_refl _) _ _ _ _ _ _, HF.out.2.2.2⟩

set_option maxRecDepth 100000 in
set_option maxHeartbeats 4000000 in
theorem blanks_walk (a : Option Addr) (len cap : Nat) (w : World) (hcode : CodeAt w a len) (ht : Tab w) (m : Int) (hm : MaxL w m) :
    Calls Tryz.prog 4 #[.slice a len cap] w fun e w' => e = .returned (.bool true) ∧ Below w.heap.size w w' := by
  have hs : ¬ (1048576 : Int) < len := by have := hcode.1; omega
  have HC := Lib.hid hcode
  have HT := Lib.hid (Lib.tabBelow_of_tabIs ht)
  have HM : Hid (∀ wr, Below w.heap.size w wr → MaxL wr m) := fun wr hb => hm.stay hb hm.lt
  clear hcode ht hm
  go_enter Tryz.func4, Tryz.ntmps4
  go_wp2_with fail
  refine (big_none a len cap (by omega) w).mono ?_
  rintro e w0 ⟨rfl, e0⟩
  subst w0
  go_wp2_with fail
  refine (drawInd_any a len cap _ HC.out).mono ?_
  rintro e w1 ⟨T, kt, dt, FT, rfl, hl1, hb1, hz1⟩
  obtain ⟨⟨o1, c1, rfl⟩, ⟨o2, c2, rfl⟩⟩ := hl1.slices
  have hbA := (Below.refl _ w1).alloc (Nat.le_refl _) (.cells #[.int .i64 T.k, .int .i64 T.n, .string T.s, .slice o1 T.keys.length c1, .slice o2 T.kids.length c2] 27)
  have HL1 := Lib.hid (And.intro (hl1.stay hbA (Nat.le_refl _)) (And.intro (hb1.trans (hbA.mono hb1.size)) (heap_last w1 (.cells #[.int .i64 T.k, .int .i64 T.n, .string T.s, .slice o1 T.keys.length c1, .slice o2 T.kids.length c2] 27))))
  have HZ := Lib.hid hz1
  have HSz : Hid (T.sz ≤ 1048576) := by have := wz_sz T; show _ ≤ _; omega
  clear hl1 hb1 hbA hz1
  go_wp2_with fail
  refine (impl_indented T _ _ _ _ HL1.out.1 (HT.out _ HL1.out.2.1)).mono ?_
  rintro e w2 ⟨rfl, hb2⟩
  have HL2 := Lib.hid (And.intro (HL1.out.1.stay hb2 (Nat.le_refl _)) (And.intro (HL1.out.2.1.trans (hb2.mono HL1.out.2.1.size)) (blk_nextR HL1.out.2.2 hb2)))
  clear hb2
  generalize hB1 : w1.heap.size = B1 at *
  clear hB1 HL1
  have HSp : Hid (∀ W kv dv F, Lies W T kv dv F → Calls Tryz.prog 13 #[.agg #[.int .i64 T.k, .int .i64 T.n, .string T.s, kv, dv]] W fun e w' => e = .returned (.string (indT T)) ∧ Below W.heap.size W w') := fun W kv dv F h => spec_indented T W kv dv F h HSz.out
  obtain ⟨x0, x1, x2, x3, x4, -⟩ := five HL2.out.2.2
  by_cases hcase : treeOk T = true ∧ (indT T).size ≤ 5000
  · obtain ⟨hok, hsz⟩ := hcase
    have hbr : Hid (bracT T = ⟨T.brac.toArray⟩) := if_pos hok
    have hr := (treeOk_out hok).2
    have hlen : T.brac.length ≤ 3000 := Nat.le_trans (brac_wz T hr) HZ.out
    have HO : Hid (∀ W, MaxL W m → Calls Tryz.prog 9 #[.string (⟨#[35, 32, 120, 10, 10]⟩ ++ indT T ++ ⟨#[32, 32, 32, 10, 32, 32, 35, 32, 121]⟩)] W fun e w' => ∃ kx dx F, e = .returned (.tuple #[.agg #[.int .i64 T.k, .int .i64 T.n, .string T.s, kx, dx], .int .i64 (-1)]) ∧ Lies w' T kx dx F ∧ Fresh W w' F ∧ Below W.heap.size W w') := fun W hW => impl_outline_tree T hok hsz m W hW
    have HBr : Hid (∀ W kv dv F, Lies W T kv dv F → Tab W → Calls Tryz.prog 7 #[.agg #[.int .i64 T.k, .int .i64 T.n, .string T.s, kv, dv]] W fun e w' => e = .returned (.string (bracT T)) ∧ Below W.heap.size W w') := fun W kv dv F h ht => impl_braced T W kv dv F h ht
    have HU : Hid (∀ W, Calls Tryz.prog 14 #[.string (⟨#[32, 9]⟩ ++ bracT T ++ ⟨#[13, 10, 32]⟩)] W fun e w' => ∃ kx dx F, e = .returned (.tuple #[.agg #[.int .i64 T.k, .int .i64 T.n, .string T.s, kx, dx], .int .i64 (-1)]) ∧ Lies w' T kx dx F ∧ Fresh W w' F ∧ Below W.heap.size W w') := fun W => by
      have e1 : (⟨#[32, 9]⟩ ++ bracT T ++ ⟨#[13, 10, 32]⟩ : ByteArray).data.toList = [32, 9] ++ (T.brac ++ [13, 10, 32]) := by rw [hbr.out]; simp
      exact impl_unbracedb T hok _ (by rw [bsize, e1]; simp; omega) [32, 9] (by decide) [13, 10, 32] (by decide) e1 W
    have hne : (indT T).toList.isEmpty = false := by
      obtain ⟨ls, s, h1, -, h3, h4⟩ := tree_lines T hok
      rw [Lib.toList_data, h1]
      cases h3 with
      | nil => rcases h4 with h4 | ⟨_, _, _, h4, _⟩ <;> simp at h4
      | cons _ _ => simp
    have hsz' : ¬ (5000 : Int) < (indT T).size := by omega
    have hbz : (bracT T).size ≤ 3000 := by rw [hbr.out]; show T.brac.toArray.size ≤ 3000; rw [List.size_toArray]; exact hlen
    clear hbr hr hlen hok HSz HZ hsz
    generalize indT T = ti at *
    generalize bracT T = tb at *
    go_wp2_with fail
    refine (HSp.out _ _ _ _ HL2.out.1).mono ?_
    rintro e w3 ⟨rfl, hb3⟩
    replace HL2 := Lib.hid (And.intro (HL2.out.1.stay hb3 (Nat.le_refl _)) (And.intro (HL2.out.2.1.trans (hb3.mono HL2.out.2.1.size)) (blk_nextR HL2.out.2.2 hb3)))
    clear hb3 x0 x1 x2 x3 x4
    obtain ⟨x0, x1, x2, x3, x4, -⟩ := five HL2.out.2.2
    go_wp2_with fail
    refine (HO.out _ (HM.out _ HL2.out.2.1)).mono ?_
    rintro e w4 ⟨k2, d2, F2, rfl, hl2, -, hb4⟩
    obtain ⟨⟨o3, c3, rfl⟩, ⟨o4, c4, rfl⟩⟩ := hl2.slices
    have hbB := (Below.refl _ w4).alloc (Nat.le_refl _) (.cells #[.int .i64 T.k, .int .i64 T.n, .string T.s, .slice o3 T.keys.length c3, .slice o4 T.kids.length c4] 27)
    have hb45 := hb4.trans (hbB.mono hb4.size)
    have HL3 := Lib.hid (And.intro (HL2.out.1.stay hb45 (Nat.le_refl _)) (And.intro (HL2.out.2.1.trans (hb45.mono HL2.out.2.1.size)) (And.intro (blk_nextR HL2.out.2.2 hb45) (And.intro (hl2.stay hbB (Nat.le_refl _)) (heap_last w4 (.cells #[.int .i64 T.k, .int .i64 T.n, .string T.s, .slice o3 T.keys.length c3, .slice o4 T.kids.length c4] 27))))))
    clear hl2 hb4 hbB hb45 HL2 HO HSp x0 x1 x2 x3 x4
    obtain ⟨x0, x1, x2, x3, x4, -⟩ := five HL3.out.2.2.1
    go_wp2_with fail
    refine (HBr.out _ _ _ _ HL3.out.1 (HT.out _ HL3.out.2.1)).mono ?_
    rintro e w5 ⟨rfl, hb5⟩
    replace HL3 := Lib.hid (And.intro (HL3.out.1.stay hb5 (Nat.le_refl _)) (And.intro (HL3.out.2.1.trans (hb5.mono HL3.out.2.1.size)) (And.intro (blk_nextR HL3.out.2.2.1 hb5) (And.intro (HL3.out.2.2.2.1.stay hb5 (Nat.le_refl _)) (blk_nextR HL3.out.2.2.2.2 hb5)))))
    generalize hB2 : w4.heap.size = B2 at *
    clear hb5 hB2 x0 x1 x2 x3 x4
    go_wp2_with fail
    refine (HU.out _).mono ?_
    rintro e w6 ⟨k3, d3, F3, rfl, hl3, -, hb6⟩
    obtain ⟨⟨o5, c5, rfl⟩, ⟨o6, c6, rfl⟩⟩ := hl3.slices
    have hbC := (Below.refl _ w6).alloc (Nat.le_refl _) (.cells #[.int .i64 T.k, .int .i64 T.n, .string T.s, .slice o5 T.keys.length c5, .slice o6 T.kids.length c6] 27)
    have hb67 := hb6.trans (hbC.mono hb6.size)
    have HS : Hid (TS w (w6.alloc (.cells #[.int .i64 T.k, .int .i64 T.n, .string T.s, .slice o5 T.keys.length c5, .slice o6 T.kids.length c6] 27)) m T B1 B2 w6.heap.size _ _ _ _ _ _ FT F2 F3) :=
      ⟨HL3.out.2.1.trans (hb67.mono HL3.out.2.1.size), blk_nextR HL3.out.2.2.1 hb67, blk_nextR HL3.out.2.2.2.2 hb67, heap_last w6 _, HL3.out.1.stay hb67 (Nat.le_refl _), HL3.out.2.2.2.1.stay hb67 (Nat.le_refl _), hl3.stay hbC (Nat.le_refl _)⟩
    clear hl3 hb6 hbC hb67 HL3 HU HBr
    have HSm : Hid (∀ W k1 d1 k2 d2 F1 F2, Lies W T k1 d1 F1 → Lies W T k2 d2 F2 → Calls Tryz.prog 10 #[.agg #[.int .i64 T.k, .int .i64 T.n, .string T.s, k1, d1], .agg #[.int .i64 T.k, .int .i64 T.n, .string T.s, k2, d2]] W fun e w' => e = .returned (.bool true) ∧ Below W.heap.size W w') := fun W k1 d1 k2 d2 F1 F2 h1 h2 => by
      refine (impl_same T W k1 d1 F1 h1 T k2 d2 F2 h2).mono ?_
      rintro e w' ⟨rfl, hb⟩
      rw [same_yes rfl]
      exact ⟨rfl, hb⟩
    obtain ⟨x0, x1, x2, x3, x4, -⟩ := five HS.out.c1
    obtain ⟨y0, y1, y2, y3, y4, -⟩ := five HS.out.c2
    obtain ⟨z0, z1, z2, z3, z4, -⟩ := five HS.out.c3
    have t1 : True := trivial
    have t2 : True := trivial
    go_wp2_with (first
      | (go_at_call 10; clear t1; with_reducible refine (HSm.out _ _ _ _ _ _ _ HS.out.l2 HS.out.l1).mono ?_; rintro e w' ⟨rfl, hb⟩; replace HS := Lib.hid (HS.out.next hb); clear hb; clear x0 x1 x2 x3 x4 y0 y1 y2 y3 y4 z0 z1 z2 z3 z4; obtain ⟨x0, x1, x2, x3, x4, -⟩ := five HS.out.c1; obtain ⟨y0, y1, y2, y3, y4, -⟩ := five HS.out.c2; obtain ⟨z0, z1, z2, z3, z4, -⟩ := five HS.out.c3)
      | (go_at_call 10; clear t2; with_reducible refine (HSm.out _ _ _ _ _ _ _ HS.out.l3 HS.out.l1).mono ?_; rintro e w' ⟨rfl, hb⟩; replace HS := Lib.hid (HS.out.next hb); clear hb; clear x0 x1 x2 x3 x4 y0 y1 y2 y3 y4 z0 z1 z2 z3 z4; obtain ⟨x0, x1, x2, x3, x4, -⟩ := five HS.out.c1; obtain ⟨y0, y1, y2, y3, y4, -⟩ := five HS.out.c2; obtain ⟨z0, z1, z2, z3, z4, -⟩ := five HS.out.c3)
      | fail)
    go_ret
    exact ⟨rfl, HS.out.below⟩
  · have hone : Hid ((indT T).toList.isEmpty = true ∨ (indT T).toList.isEmpty = false ∧ (5000 : Int) < (indT T).size) := by
      by_cases hok : treeOk T = true
      · have : ¬ (indT T).size ≤ 5000 := fun h => hcase ⟨hok, h⟩
        refine .inr ⟨?_, by omega⟩
        rw [Lib.toList_data]
        cases e : (indT T).data.toList with
        | nil => have h := bsize (indT T); rw [e, List.length_nil] at h; omega
        | cons _ _ => rfl
      · have e : indT T = ⟨#[]⟩ := if_neg hok
        rw [e, Lib.toList_data]
        exact .inl rfl
    clear hcase
    generalize indT T = ti at *
    rcases hone.out with he | ⟨he, hg⟩
    all_goals
      clear hone
      have t1 : True := trivial
      have t2 : True := trivial
      go_wp2_with (first
        | (go_at_call 13; clear t1; refine (HSp.out _ _ _ _ HL2.out.1).mono ?_; rintro e w3 ⟨rfl, hb3⟩; replace HL2 := Lib.hid (And.intro (HL2.out.1.stay hb3 (Nat.le_refl _)) (And.intro (HL2.out.2.1.trans (hb3.mono HL2.out.2.1.size)) (blk_nextR HL2.out.2.2 hb3))); clear hb3 x0 x1 x2 x3 x4; obtain ⟨x0, x1, x2, x3, x4, -⟩ := five HL2.out.2.2)
        | (go_at_call 13; clear t2; refine (HSp.out _ _ _ _ HL2.out.1).mono ?_; rintro e w3 ⟨rfl, hb3⟩; replace HL2 := Lib.hid (And.intro (HL2.out.1.stay hb3 (Nat.le_refl _)) (And.intro (HL2.out.2.1.trans (hb3.mono HL2.out.2.1.size)) (blk_nextR HL2.out.2.2 hb3))); clear hb3 x0 x1 x2 x3 x4; obtain ⟨x0, x1, x2, x3, x4, -⟩ := five HL2.out.2.2)
        | fail)
      go_ret
      exact ⟨rfl, HL2.out.2.1⟩
end Go.Proofs.YtmcjghhmcmkomaaGreatDoor
