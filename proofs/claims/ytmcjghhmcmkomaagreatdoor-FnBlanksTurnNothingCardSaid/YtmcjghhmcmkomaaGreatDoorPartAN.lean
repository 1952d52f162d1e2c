/-
  What is proved: the program's goOn with a tree in hand that stands in the last level, in one contract: what it is in is whole, and in hand, or its next Kid is ahead.; the program's tree at a text that opens with a right tree: that tree, in memory of its own, and the reader stands behind it.; the program passes blanks, and sees the end of a text.; the program's roomBehind tells how many of the nodes that there is room for are left behind a tree; its TreeOk whether a tree is right, not too deep and not too great.; for any tree the program's TreeOk answers as the model's TreeOk does, and the law returns true with its argument as it was; no condition.
-/
import Derived.Test.YtmcjghhmcmkomaaGreatDoorPartAM
import Derived.Test.YtmcjghhmcmkomaaGreatDoorRdT
import Derived.Test.YtmcjghhmcmkomaaGreatDoorPartAB
import Derived.Test.YtmcjghhmcmkomaaGreatDoorPartAF
import Derived.Test.YtmcjghhmcmkomaaGreatDoorPartAC
/- the program's goOn with a tree in hand that stands in the last level, in one contract: what it is in is whole, and in hand, or its next Kid is ahead. -/
namespace Go.Proofs.YtmcjghhmcmkomaaGreatDoor
open Go Go.RowKit

theorem sizeAll_length : (l : List RT) → l.length ≤ sizeAll l
  | [] => Nat.le_refl _
  | t :: l => by
    have := sizeAll_length l
    have : 1 ≤ t.size := by cases t; show 1 ≤ sizeAll _ + 1; omega
    simp only [sizeAll, List.length_cons]
    omega

theorem go_any {w0 wr : World} {p : Nat} {s : ByteArray} (hs : s.size ≤ 1000000000) {i : Nat} {ov : Value} {tw : Int} {LS : List Lv} {f : Frm} {fs : List Frm} {X : RT} {kx dx : Value} {FX : List Nat} {R : List UInt8} (hM : Mid w0 wr wr p s i ov (begun (f :: fs) + X.size) tw LS) (hp : p < w0.heap.size) (ho : Opn (f :: fs) LS)
    (hX : Hand w0 wr ov LS X kx dx FX) (hT : (plug (f :: fs) X).right = true) (hz : (plug (f :: fs) X).size ≤ 200) (ht : s.data.toList.drop i = restText (f :: fs) R) :
    Calls Tryz.prog 97 #[.pointer (some ⟨p, 0, none⟩), .agg #[.int .i64 X.k, .int .i64 X.n, .string X.s, kx, dx]] wr fun e w' => (∀ b, b < wr.heap.size → b ≠ p → some b ≠ ov.ownBlock → b ∉ LS.flatMap Lv.blocks → w'.heap[b]? = wr.heap[b]?) ∧
      ((∃ kv dv F ov' j ls l, LS = ls ++ [l] ∧ (∀ b, ov'.ownBlock = some b → ov.ownBlock = some b) ∧ e = .returned (.tuple #[.agg #[.int .i64 (f.fill X).k, .int .i64 (f.fill X).n, .string (f.fill X).s, kv, dv], .bool true, .nilIface]) ∧ Opn fs ls ∧ Mid w0 wr w' p s j ov' (begun fs + (f.fill X).size) tw ls ∧ Hand w0 w' ov' ls (f.fill X) kv dv F ∧ (∀ y ∈ F, y ∈ LS.flatMap Lv.blocks ∨ y ∈ FX ∨ wr.heap.size ≤ y) ∧ s.data.toList.drop j = restText fs R ∧ i < j ∧ j ≤ s.size) ∨
       (∃ f' x ov' j LS', e = .returned (.tuple #[.agg #[.int .i64 0, .int .i64 0, .string ⟨#[]⟩, .slice none 0 0, .slice none 0 0], .bool false, .nilIface]) ∧ Frm.fill f' x = f.fill X ∧ Opn (f' :: fs) LS' ∧ Mid w0 wr w' p s j ov' (begun (f' :: fs)) tw LS' ∧ (∀ b, ov'.ownBlock = some b → ov.ownBlock = some b) ∧ (∀ y ∈ LS'.flatMap Lv.blocks, y ∈ LS.flatMap Lv.blocks ∨ y ∈ FX ∨ wr.heap.size ≤ y) ∧ s.data.toList.drop j = x.brac ++ restText (f' :: fs) R ∧ i < j)) := by
  have hps := plug_size (f :: fs) X
  have hF : (f.fill X).right = true := plug_right fs (f.fill X) hT
  obtain ⟨k, dk, dd, key, rk, rr⟩ := f
  cases ho with
  | cons _ _ ls l ho hk hdd hkd =>
    obtain ⟨g, cap, cur, rfl, -⟩ := hM.stk.top
    have hk : l.k = k := hk
    have hdd : l.dd = dd := hdd
    have hb : begun (⟨k, dk, dd, key, rk, rr⟩ :: fs) = 1 + sizeAll dd + begun fs := rfl
    have hfl : (Frm.fill ⟨k, dk, dd, key, rk, rr⟩ X).size = sizeAll (dd ++ X :: rr) + 1 := rfl
    rw [sizeAll_append] at hfl
    have hsl := sizeAll_length dd
    have hlen : l.dd.length ≤ 1048576 := by rw [hdd]; omega
    have frame : ∀ (w' : World), (∀ b, b < wr.heap.size → b ≠ p → b ≠ g → b ∉ l.blocks → w'.heap[b]? = wr.heap[b]?) → (∀ b, b < wr.heap.size → b ≠ p → some b ≠ (Value.slice (some ⟨g, 0, none⟩) (ls.length + 1) cap).ownBlock → b ∉ (ls ++ [l]).flatMap Lv.blocks → w'.heap[b]? = wr.heap[b]?) := fun w' h b h1 h2 h3 h4 => by
      refine h b h1 h2 (fun e => h3 (by rw [e]; rfl)) (fun hx => h4 ?_)
      rw [List.flatMap_append]
      exact List.mem_append_right _ (by simpa using hx)
    have prov : ∀ F : List Nat, (∀ y ∈ F, y ∈ l.blocks ∨ y ∈ FX ∨ wr.heap.size ≤ y) → ∀ y ∈ F, y ∈ (ls ++ [l]).flatMap Lv.blocks ∨ y ∈ FX ∨ wr.heap.size ≤ y := fun F h y hy => by
      rcases h y hy with h | h
      · exact .inl (by rw [List.flatMap_append]; exact List.mem_append_right _ (by simpa using h))
      · exact .inr h
    have prov2 : ∀ (l' : Lv), (∀ y ∈ l'.blocks, y ∈ l.blocks ∨ y ∈ FX ∨ wr.heap.size ≤ y) → ∀ y ∈ (ls ++ [l']).flatMap Lv.blocks, y ∈ (ls ++ [l]).flatMap Lv.blocks ∨ y ∈ FX ∨ wr.heap.size ≤ y := fun l' h y hy => by
      rw [List.flatMap_append] at hy
      rcases List.mem_append.1 hy with hy | hy
      · exact .inl (by rw [List.flatMap_append]; exact List.mem_append_left _ hy)
      · rcases h y (by simpa using hy) with h | h
        · exact .inl (by rw [List.flatMap_append]; exact List.mem_append_right _ (by simpa using h))
        · exact .inr h
    rw [restText] at ht
    rcases hkd with ⟨q1, q2, q3⟩ | ⟨q1, q2, q3, q4⟩
    · have q1 : k = 4 := q1
      have q3 : dk = [] := q3
      subst q1 q3
      cases rr with
      | nil =>
        have ht : s.data.toList.drop i = 93 :: restText fs R := ht
        refine (goS4 hs hM hp hk hlen (by omega) hX (restText fs R) ht).mono ?_
        rintro e w' ⟨kv, dv, c', FT, rfl, hM', hH', hfr, hpv⟩
        rw [q2, hdd] at hH'
        refine ⟨frame w' hfr, .inl ⟨kv, dv, FT, .slice (some ⟨g, 0, none⟩) ls.length c', i + 1, ls, l, rfl, fun b h => h, rfl, ho, ?_, hH', prov FT hpv, ?_, ⟨by omega, (nextB_drop ht).2.1⟩⟩⟩
        · have en : begun (⟨4, [], dd, key, rk, []⟩ :: fs) + X.size = begun fs + (Frm.fill ⟨4, [], dd, key, rk, []⟩ X).size := by rw [hfl, hb]; simp only [sizeAll]; omega
          rw [← en]; exact hM'
        · exact (nextB_drop ht).2.2
      | cons t rr =>
        have ht : s.data.toList.drop i = 44 :: (t.brac ++ tailL 4 rk.tail rr ++ restText fs R) := ht
        refine (goC4 hs hM hp hk hlen (by omega) hX _ ht).mono ?_
        rintro e w' ⟨rfl, hfr, v', F, hM', hpv⟩
        refine ⟨frame w' hfr, .inr ⟨⟨4, [], dd ++ [X], key, rk.tail, rr⟩, t, .slice (some ⟨g, 0, none⟩) (ls.length + 1) cap, i + 1, _, rfl, ?_, .cons _ fs ls { l with dd := l.dd ++ [X], dv := v', FD := F } ho hk ?_ (.inl ⟨rfl, q2, rfl⟩), ?_, fun b h => h, prov2 _ (fun y hy => ?_), ?_, by omega⟩⟩
        · simp [Frm.fill]
        · show l.dd ++ [X] = dd ++ [X]; rw [hdd]
        · have en : begun (⟨4, [], dd, key, rk, t :: rr⟩ :: fs) + X.size = begun (⟨4, [], dd ++ [X], key, rk.tail, rr⟩ :: fs) := by simp only [begun, sizeAll_append, sizeAll]; omega
          rw [← en]; exact hM'
        · have hy : y ∈ l.FK ++ (F ++ l.FM) := hy
          rcases List.mem_append.1 hy with hy | hy
          · exact .inl (List.mem_append_left _ hy)
          · rcases List.mem_append.1 hy with hy | hy
            · exact hpv y hy
            · exact .inl (List.mem_append_right _ (List.mem_append_right _ hy))
        · rw [(nextB_drop ht).2.2, List.append_assoc]; rfl
    · have q1 : k = 5 := q1
      have q2 : l.dk = dk := q2
      have q3 : l.key = key := q3
      have q4 : l.ks = dk ++ [key] := q4
      subst q1
      obtain ⟨hl5, hk5⟩ := fill_frame hF rfl
      have hl5 : (dk ++ key :: rk).length = (dd ++ X :: rr).length := hl5
      have hk5 : keysOk (dk ++ key :: rk) = true := hk5
      have hdl : l.dk.length = l.dd.length := by
        obtain ⟨mb, -, -, -, -, e⟩ : ∃ mb, l.mv = .map (some mb) ∧ l.FM = [mb] ∧ Seen wr mb l.ks ∧ w0.heap.size ≤ mb ∧ l.dk.length = l.dd.length := by
          rcases (hM.stk.each l (by simp)).kind with ⟨e, _⟩ | ⟨_, q⟩
          · rw [hk] at e; exact absurd e (by decide)
          · exact q
        exact e
      rw [q2, hdd] at hdl
      have hdl : dk.length = dd.length := hdl
      have hrl : rk.length = rr.length := by simp only [List.length_append, List.length_cons] at hl5; omega
      have hkl : keysOk (l.dk ++ l.key :: rk) = true := by rw [q2, q3]; exact hk5
      cases rr with
      | nil =>
        have e5 : rk = [] := List.length_eq_zero_iff.1 hrl
        subst e5
        have ht : s.data.toList.drop i = 125 :: restText fs R := ht
        refine (goS5 hs hM hp hk hlen (by omega) hkl hX (restText fs R) ht).mono ?_
        rintro e w' ⟨kv, dv, c', FT, rfl, hM', hH', hfr, hpv⟩
        rw [q2, q3, hdd] at hH'
        refine ⟨frame w' hfr, .inl ⟨kv, dv, FT, .slice (some ⟨g, 0, none⟩) ls.length c', i + 1, ls, l, rfl, fun b h => h, rfl, ho, ?_, hH', prov FT hpv, ?_, ⟨by omega, (nextB_drop ht).2.1⟩⟩⟩
        · have en : begun (⟨5, dk, dd, key, [], []⟩ :: fs) + X.size = begun fs + (Frm.fill ⟨5, dk, dd, key, [], []⟩ X).size := by rw [hfl, hb]; simp only [sizeAll]; omega
          rw [← en]; exact hM'
        · exact (nextB_drop ht).2.2
      | cons t rr =>
        cases rk with
        | nil => simp at hrl
        | cons key' rk =>
          have ht : s.data.toList.drop i = 44 :: (((quoteT key').data.toList ++ 58 :: t.brac) ++ tailL 5 rk rr ++ restText fs R) := ht
          have ht2 : s.data.toList.drop i = 44 :: ((quoteT key').data.toList ++ 58 :: (t.brac ++ (tailL 5 rk rr ++ restText fs R))) := by rw [ht]; simp
          obtain ⟨-, -, b3, b4⟩ := keys_behind (dk := dk ++ [key]) (key := key') (rk := rk) (by simpa using hk5)
          refine (goC5 hs hM hp hk hlen (by omega) hkl hX key' b3 (by rw [q4]; exact b4) _ ht2).mono ?_
          rintro e w' ⟨rfl, hfr, u', v', FK, F, hM', hpv⟩
          obtain ⟨-, -, m3⟩ := nextB_drop ht2
          have m4 := drop_app m3
          obtain ⟨-, -, m5⟩ := nextB_drop m4
          refine ⟨frame w' hfr, .inr ⟨⟨5, dk ++ [key], dd ++ [X], key', rk, rr⟩, t, .slice (some ⟨g, 0, none⟩) (ls.length + 1) cap, i + 1 + (quoteT key').data.toList.length + 1, _, rfl, ?_, .cons _ fs ls { l with dk := l.dk ++ [l.key], dd := l.dd ++ [X], key := key', kv := u', dv := v', FK := FK, FD := F, ks := l.ks ++ [key'] } ho hk ?_ (.inr ⟨rfl, ?_, rfl, ?_⟩), ?_, fun b h => h, prov2 _ (fun y hy => ?_), m5, by omega⟩⟩
          · simp [Frm.fill]
          · show l.dd ++ [X] = dd ++ [X]; rw [hdd]
          · show l.dk ++ [l.key] = dk ++ [key]; rw [q2, q3]
          · show l.ks ++ [key'] = dk ++ [key] ++ [key']; rw [q4]
          · have en : begun (⟨5, dk, dd, key, key' :: rk, t :: rr⟩ :: fs) + X.size = begun (⟨5, dk ++ [key], dd ++ [X], key', rk, rr⟩ :: fs) := by simp only [begun, sizeAll_append, sizeAll]; omega
            rw [← en]; exact hM'
          · have hy : y ∈ FK ++ (F ++ l.FM) := hy
            rw [← List.append_assoc] at hy
            rcases List.mem_append.1 hy with hy | hy
            · exact hpv y hy
            · exact .inl (List.mem_append_right _ (List.mem_append_right _ hy))
end Go.Proofs.YtmcjghhmcmkomaaGreatDoor

/- the program's tree at a text that opens with a right tree: that tree, in memory of its own, and the reader stands behind it. -/
namespace Go.Proofs.YtmcjghhmcmkomaaGreatDoor
open Go Go.RowKit

theorem Mid.renew {w0 wr0 wr : World} {p : Nat} {s : ByteArray} {i : Nat} {ov : Value} {nd : Nat} {tw : Int} {ls : List Lv} (h : Mid w0 wr0 wr p s i ov nd tw ls) : Mid w0 wr wr p s i ov nd tw ls := ⟨h.rd, h.stk, Kp.refl _ _ _, h.hs⟩
theorem Mid.back {w0 wr0 wr w1 : World} {p : Nat} {s : ByteArray} {i i' : Nat} {ov ov' : Value} {nd nd' : Nat} {tw tw' : Int} {ls ls' : List Lv} (h : Mid w0 wr0 wr p s i ov nd tw ls) (h' : Mid w0 wr w1 p s i' ov' nd' tw' ls') : Mid w0 wr0 w1 p s i' ov' nd' tw' ls' := ⟨h'.rd, h'.stk, h.kp.trans h'.kp, h'.hs⟩

/-- How many levels are open, read off the world. -/
def olen (w : World) (p : Nat) : Nat := match w.cell? ⟨p, 2, none⟩ with | some v => lenV v | none => 0

theorem Stk.lenv {w0 wr : World} {ov : Value} {ls : List Lv} (h : Stk w0 wr ov ls) : ∃ o c, ov = .slice o ls.length c := by
  rcases h.row.2 with ⟨rfl, h0⟩ | ⟨g, cap, cur, rfl, _⟩
  · exact ⟨none, 0, by rw [h0]⟩
  · exact ⟨_, _, rfl⟩

/-- A tree is ahead. -/
structure Ahd (W wr : World) (p : Nat) (s : ByteArray) (T : RT) (R : List UInt8) (i : Nat) (ov : Value) (fs : List Frm) (ls : List Lv) (X : RT) : Prop where
  mid : Mid W W wr p s i ov (begun fs) (-1) ls
  opn : Opn fs ls
  plug : plug fs X = T
  text : s.data.toList.drop i = X.brac ++ restText fs R

/-- A tree is in hand, and in the block tb. -/
structure Got (W wr : World) (p : Nat) (s : ByteArray) (T : RT) (R : List UInt8) (tb i : Nat) (ov : Value) (fs : List Frm) (ls : List Lv) (X : RT) (kx dx : Value) (F : List Nat) : Prop where
  mid : Mid W W wr p s i ov (begun fs + X.size) (-1) ls
  opn : Opn fs ls
  hand : Hand W wr ov ls X kx dx F
  plug : plug fs X = T
  text : s.data.toList.drop i = restText fs R
  box : wr.heap[tb]? = some (.cells #[.int .i64 X.k, .int .i64 X.n, .string X.s, kx, dx] 27 (0, 0))
  apart : tb ∉ ls.flatMap Lv.blocks
  row : ¬ ov.ownBlock = some tb
  far : tb ∉ F
  old : W.heap.size ≤ tb
  le : i ≤ s.size

theorem got_start {W w1 : World} {p : Nat} {s : ByteArray} {T : RT} {R : List UInt8} {i : Nat} {ov : Value} {fs : List Frm} {ls : List Lv} {X : RT} {kx dx : Value} {F : List Nat} (hM : Mid W W w1 p s i ov (begun fs + X.size) (-1) ls) (ho : Opn fs ls) (hH : Hand W w1 ov ls X kx dx F) (hp : plug fs X = T) (ht : s.data.toList.drop i = restText fs R) (hle : i ≤ s.size) :
    Got W (w1.alloc (.cells #[.int .i64 X.k, .int .i64 X.n, .string X.s, kx, dx] 27)) p s T R w1.heap.size i ov fs ls X kx dx F := by
  have hb := (Below.refl _ w1).alloc (Nat.le_refl _) (.cells #[.int .i64 X.k, .int .i64 X.n, .string X.s, kx, dx] 27)
  exact ⟨hM.below hb, ho, hH.stay hb, hp, ht, heap_last w1 _, fun hx => by have := (hM.stk.blocks (.inl hx)).1; omega, fun e => by have := (hM.stk.blocks (.inr e)).1; omega, fun hx => by have := hH.lies.lt _ hx; omega, hM.hs, hle⟩

theorem ahd_alloc {W w1 : World} {p : Nat} {s : ByteArray} {T : RT} {R : List UInt8} {i : Nat} {ov : Value} {fs : List Frm} {ls : List Lv} {X : RT} (h : Ahd W w1 p s T R i ov fs ls X) (o : Obj) : Ahd W (w1.alloc o) p s T R i ov fs ls X :=
  ⟨h.mid.below ((Below.refl _ w1).alloc (Nat.le_refl _) o), h.opn, h.plug, h.text⟩

theorem olen_at {w : World} {p : Nat} {s : ByteArray} {i : Nat} {ov : Value} {nd : Nat} {tw : Int} {W : World} {ls : List Lv} (h : Rd w p s i ov nd tw) (hs : Stk W w ov ls) : olen w p = ls.length := by
  obtain ⟨o, c, rfl⟩ := hs.lenv
  obtain ⟨-, -, x2, -⟩ := h.five
  rw [olen, x2]
  rfl

/-- Behind goOn, the level's tree in hand: it is stored into t's block. -/
theorem got_hand {W wy w' : World} {p : Nat} {s : ByteArray} {T : RT} {R : List UInt8} {tb i j : Nat} {ov ov' : Value} {f : Frm} {fs : List Frm} {ls : List Lv} {l : Lv} {X : RT} {kx dx kv dv : Value} {FX F : List Nat} (h : Got W wy p s T R tb i ov (f :: fs) (ls ++ [l]) X kx dx FX) (hp : p < W.heap.size)
    (hfr : ∀ b, b < wy.heap.size → b ≠ p → some b ≠ ov.ownBlock → b ∉ (ls ++ [l]).flatMap Lv.blocks → w'.heap[b]? = wy.heap[b]?) (hov : ∀ b, ov'.ownBlock = some b → ov.ownBlock = some b) (ho : Opn fs ls) (hM : Mid W wy w' p s j ov' (begun fs + (f.fill X).size) (-1) ls) (hH : Hand W w' ov' ls (f.fill X) kv dv F)
    (hpv : ∀ y ∈ F, y ∈ (ls ++ [l]).flatMap Lv.blocks ∨ y ∈ FX ∨ wy.heap.size ≤ y) (ht : s.data.toList.drop j = restText fs R) (hle : j ≤ s.size) :
    Got W (Go.Proofs.YtmcjghhmcmkomaaGreatDoor.set5 w' tb 0 (.int .i64 (f.fill X).k) (.int .i64 (f.fill X).n) (.string (f.fill X).s) kv dv) p s T R tb j ov' fs ls (f.fill X) kv dv F := by
  have hold := h.old
  have htl := (Array.getElem?_eq_some_iff.1 h.box).1
  have hrow : ¬ ov'.ownBlock = some tb := fun e => h.row (hov tb e)
  have hap : tb ∉ ls.flatMap Lv.blocks := fun e => h.apart (by rw [List.flatMap_append]; exact List.mem_append_left _ e)
  have hF : tb ∉ F := fun e => by
    rcases hpv tb e with e | e | e
    · exact h.apart e
    · exact h.far e
    · omega
  have hbox : w'.heap[tb]? = _ := (hfr tb htl (by omega) (fun e => h.row e.symm) h.apart).trans h.box
  refine ⟨(h.mid.back hM).set5 h.old hp (fun x hx e => ?_) _ _ _ _ _, ho, hH.set5 (fun x hx e => hF (by rw [← e]; exact hx)) _ _ _ _ _, h.plug, ht, set5_end hbox _ _ _ _ _, hap, hrow, hF, h.old, hle⟩
  subst e
  rcases hx with hx | hx
  · exact hap hx
  · exact hrow hx

/-- Behind goOn, the next Kid ahead: the zero tree is stored into t's block. -/
theorem got_ahd {W wy w' : World} {p : Nat} {s : ByteArray} {T : RT} {R : List UInt8} {tb i j : Nat} {ov ov' : Value} {f f' : Frm} {fs : List Frm} {LS LS' : List Lv} {X x : RT} {kx dx : Value} {FX : List Nat} (h : Got W wy p s T R tb i ov (f :: fs) LS X kx dx FX) (hp : p < W.heap.size)
    (hfx : f'.fill x = f.fill X) (ho : Opn (f' :: fs) LS') (hM : Mid W wy w' p s j ov' (begun (f' :: fs)) (-1) LS') (hov : ∀ b, ov'.ownBlock = some b → ov.ownBlock = some b)
    (hpv : ∀ y ∈ LS'.flatMap Lv.blocks, y ∈ LS.flatMap Lv.blocks ∨ y ∈ FX ∨ wy.heap.size ≤ y) (ht : s.data.toList.drop j = x.brac ++ restText (f' :: fs) R) (v0 v1 v2 v3 v4 : Value) :
    Ahd W (Go.Proofs.YtmcjghhmcmkomaaGreatDoor.set5 w' tb 0 v0 v1 v2 v3 v4) p s T R j ov' (f' :: fs) LS' x := by
  have htl := (Array.getElem?_eq_some_iff.1 h.box).1
  refine ⟨(h.mid.back hM).set5 h.old hp (fun y hy e => ?_) _ _ _ _ _, ho, by show plug fs (f'.fill x) = T; rw [hfx]; exact h.plug, ht⟩
  subst e
  rcases hy with hy | hy
  · rcases hpv _ hy with e | e | e
    · exact h.apart e
    · exact h.far e
    · omega
  · exact h.row (hov _ hy)

theorem place_set5 {w : World} {p b : Nat} (h : p ≠ b) (v0 v1 v2 v3 v4 : Value) : rplace (Go.Proofs.YtmcjghhmcmkomaaGreatDoor.set5 w b 0 v0 v1 v2 v3 v4) p = rplace w p := by
  unfold rplace
  rw [World.cell?_of_block (w := w) (w' := Go.Proofs.YtmcjghhmcmkomaaGreatDoor.set5 w b 0 v0 v1 v2 v3 v4) (a := ⟨p, 1, none⟩) (set5_other _ _ _ _ _ _ _ _ _ h)]

set_option maxRecDepth 100000 in
set_option maxHeartbeats 4000000 in
theorem tree_any {w : World} {p : Nat} {s : ByteArray} (hs : s.size ≤ 1000000000) {T : RT} {R : List UInt8} {i : Nat} (hR : isDig (R.headD 0) = false) (hT : T.right = true) (hz : T.size ≤ 200) (ht : s.data.toList.drop i = T.brac ++ R) (h : Rd w p s i (.slice none 0 0) 0 (-1)) :
    Calls Tryz.prog 58 #[.pointer (some ⟨p, 0, none⟩)] w fun e w' => ∃ kx dx F ov j, e = .returned (.tuple #[.agg #[.int .i64 T.k, .int .i64 T.n, .string T.s, kx, dx], .nilIface]) ∧ Lies w' T kx dx F ∧ Fresh w w' F ∧ Rd w' p s j ov T.size (-1) ∧ s.data.toList.drop j = R ∧ j ≤ s.size ∧ Kp w p w w' := by
  have hp : p < w.heap.size := h.lt
  have hb0 := (Below.refl _ w).alloc (Nat.le_refl _) (.cells #[.int .i64 0, .int .i64 0, .string ⟨#[]⟩, .slice none 0 0, .slice none 0 0] 27)
  have A0 : Hid (Ahd (w.alloc (.cells #[.int .i64 0, .int .i64 0, .string ⟨#[]⟩, .slice none 0 0, .slice none 0 0] 27)) (w.alloc (.cells #[.int .i64 0, .int .i64 0, .string ⟨#[]⟩, .slice none 0 0, .slice none 0 0] 27)) p s T R i (.slice none 0 0) [] [] T) :=
    ⟨⟨h.same (hb0.block p hp), Stk.start _ _, Kp.refl _ _ _, Nat.le_refl _⟩, .nil, rfl, ht⟩
  have HZ0 : Hid ((w.alloc (.cells #[.int .i64 0, .int .i64 0, .string ⟨#[]⟩, .slice none 0 0, .slice none 0 0] 27)).heap[w.heap.size]? = some (.cells #[.int .i64 0, .int .i64 0, .string ⟨#[]⟩, .slice none 0 0, .slice none 0 0] 27 (0, 0)) ∧ (w.alloc (.cells #[.int .i64 0, .int .i64 0, .string ⟨#[]⟩, .slice none 0 0, .slice none 0 0] 27)).heap.size = w.heap.size + 1 ∧ Below w.heap.size w (w.alloc (.cells #[.int .i64 0, .int .i64 0, .string ⟨#[]⟩, .slice none 0 0, .slice none 0 0] 27))) := ⟨heap_last w _, by simp, hb0⟩
  have HTz : Hid (T.right = true ∧ T.size ≤ 200 ∧ isDig (R.headD 0) = false ∧ s.size ≤ 1000000000) := ⟨hT, hz, hR, hs⟩
  have HP : Hid (p < w.heap.size) := hp
  clear ht h hb0 hT hz hR
  go_enter Tryz.func58, Tryz.ntmps58
  go_wp2_with fail
  generalize (w.alloc (.cells #[.int .i64 0, .int .i64 0, .string ⟨#[]⟩, .slice none 0 0, .slice none 0 0] 27)) = W at *
  go_loopw [] (fun wr => ∃ i ov fs ls X, Hid (Ahd W wr p s T R i ov fs ls X)) (fun wr => s.size - rplace wr p)
  case atStart => exact ⟨_, _, _, _, _, A0.out⟩
  case round =>
    obtain ⟨i, ov, fs, ls, X, hr⟩ := hrel
    have HBg := Lib.hid (begin_any HTz.out.2.2.2 hr.out.mid.renew (by have := HZ0.out.2.1; have := HP.out; omega) hr.out.opn (by rw [hr.out.plug]; exact HTz.out.1) (by rw [hr.out.plug]; exact HTz.out.2.1) hr.out.text HTz.out.2.2.1)
    go_wp2_with fail
    refine HBg.out.mono ?_
    rintro e w1 ⟨hfr, hcase⟩
    have HC : Hid (∃ b j1 : Nat, b = j1) := ⟨0, 0, rfl⟩
    clear HC
    have hi0 : i < s.size := by
      obtain ⟨b, r, h1, -⟩ := brac_head (plug_right fs X (by rw [hr.out.plug]; exact HTz.out.1))
      have ht := hr.out.text
      rw [h1] at ht
      exact (nextB_drop (l := r ++ restText fs R) ht).2.1
    have HI0 : Hid (i < s.size ∧ rplace wr p = i) := ⟨hi0, hr.out.mid.rd.place⟩
    clear hi0
    rcases hcase with ⟨kx, dx, F, j, rfl, hM1, hH1, ht1, hij, hle⟩ | ⟨f, x, l, ov1, j, rfl, hfx, ho1, hM1, ht1, hij⟩
    · have G1 := Lib.hid (And.intro (got_start (hr.out.mid.back hM1) hr.out.opn hH1 hr.out.plug ht1 hle) hij)
      obtain ⟨⟨o1, c1, rfl⟩, ⟨o2, c2, rfl⟩⟩ := hH1.lies.slices
      clear hfr hM1 hH1 ht1 HBg hij hle
      go_wp2_with fail
      go_loopw [5, 6] (fun a b wy => b = .nilIface ∧ ((a = .bool true ∧ ∃ i' ov fs ls X kx dx F, Hid (Got W wy p s T R w1.heap.size i' ov fs ls X kx dx F ∧ i < i')) ∨ (a = .bool false ∧ ∃ i' ov fs ls X, Hid (Ahd W wy p s T R i' ov fs ls X ∧ i < i')))) (fun a _ wy => match a with | .bool true => olen wy p + 1 | _ => 0)
      case atStart => exact ⟨rfl, .inl ⟨rfl, _, _, _, _, _, _, _, _, G1.out⟩⟩
      case round =>
        obtain ⟨rfl, ⟨rfl, i1, ov1, fs1, ls1, X1, kx1, dx1, F1, hg⟩ | ⟨rfl, i1, ov1, fs1, ls1, X1, hg⟩⟩ := hrel
        · cases fs1 with
          | nil =>
            have hls : ls1 = [] := List.length_eq_zero_iff.1 hg.out.1.opn.length
            subst hls
            obtain ⟨ol, cl, rfl⟩ := hg.out.1.mid.stk.lenv
            obtain ⟨p0, p1, p2, p3, p4, p5⟩ := hg.out.1.mid.rd.five
            obtain ⟨t0, t1, t2, t3, t4, t5⟩ := five hg.out.1.box
            obtain ⟨⟨o3, c3, rfl⟩, ⟨o4, c4, rfl⟩⟩ := hg.out.1.hand.lies.slices
            have hzr : wr.heap[w.heap.size]? = _ := (hg.out.1.mid.kp.block w.heap.size (by have := HZ0.out.2.1; omega) (by have := HP.out; omega)).trans HZ0.out.1
            have HZr := Lib.hid hzr
            obtain ⟨z0, z1, z2, z3, z4, z5⟩ := five hzr
            clear hzr
            have HG := hg.out.1
            have hpl : X1 = T := HG.plug
            subst hpl
            have hr1 : s.data.toList.drop i1 = R := HG.text
            go_wp2_with fail
            have hsz := HZ0.out.2.1
            have hpw := HP.out
            have keep : ∀ y ∈ F1, (set5 wr w.heap.size 0 (.int .i64 X1.k) (.int .i64 X1.n) (.string X1.s) (.slice o3 X1.keys.length c3) (.slice o4 X1.kids.length c4)).heap[y]? = wr.heap[y]? := fun y hy => set5_other _ _ _ _ _ _ _ _ _ (by have := HG.hand.fresh.old y hy; omega)
            have hk := HG.mid.kp
            have hb5 := set5_below (Below.refl w.heap.size wr) (Nat.le_refl _) 0 (.int .i64 X1.k) (.int .i64 X1.n) (.string X1.s) (.slice o3 X1.keys.length c3) (.slice o4 X1.kids.length c4)
            refine bodyPost_ret (ret_node2 Tryz.results58 rfl rfl (set5_end HZr.out _ _ _ _ _)) rfl ⟨_, _, F1, Value.slice ol ([] : List Lv).length cl, i1, rfl, HG.hand.lies.carry keep, (HG.hand.fresh.carry keep).earlier (by omega), ?_, hr1, HG.le, ?_⟩
            · have := HG.mid.rd.set5 (b := w.heap.size) (by omega) (.int .i64 X1.k) (.int .i64 X1.n) (.string X1.s) (.slice o3 X1.keys.length c3) (.slice o4 X1.kids.length c4)
              have e : begun [] + X1.size = X1.size := by simp [begun]
              rw [e] at this
              exact this
            · exact (Kp.of_below HZ0.out.2.2 (Nat.le_refl _)).trans ((Kp.mk hk.os hk.tape hk.output hk.size fun b hb hbp => hk.block b (by omega) hbp).trans ⟨hb5.os, hb5.tape, hb5.output, hb5.size, fun x hx _ => hb5.block x hx⟩)
          | cons f fs =>
            obtain ⟨ls, l, rfl, hol⟩ : ∃ ls l, ls1 = ls ++ [l] ∧ ls.length = fs.length := by
              cases hg.out.1.opn with
              | cons _ _ ls l ho _ _ _ => exact ⟨ls, l, rfl, ho.length⟩
            have HGo := Lib.hid (go_any HTz.out.2.2.2 hg.out.1.mid.renew (by have := HZ0.out.2.1; have := HP.out; omega) hg.out.1.opn hg.out.1.hand (by rw [hg.out.1.plug]; exact HTz.out.1) (by rw [hg.out.1.plug]; exact HTz.out.2.1) hg.out.1.text)
            have HOl := Lib.hid (olen_at hg.out.1.mid.rd hg.out.1.mid.stk)
            obtain ⟨ol, cl, rfl⟩ := hg.out.1.mid.stk.lenv
            obtain ⟨p0, p1, p2, p3, p4, p5⟩ := hg.out.1.mid.rd.five
            obtain ⟨t0, t1, t2, t3, t4, t5⟩ := five hg.out.1.box
            obtain ⟨⟨o3, c3, rfl⟩, ⟨o4, c4, rfl⟩⟩ := hg.out.1.hand.lies.slices
            have hl0 : (0 : Int) < ((ls ++ [l]).length : Int) := by simp
            go_wp2_with fail
            refine HGo.out.mono ?_
            rintro e w2 ⟨hfr, hcase⟩
            have hpW : p < W.heap.size := by have := HZ0.out.2.1; have := HP.out; omega
            have htb : w2.heap[w1.heap.size]? = _ := (hfr w1.heap.size (Array.getElem?_eq_some_iff.1 hg.out.1.box).1 (by have := hg.out.1.old; omega) (fun e => hg.out.1.row e.symm) hg.out.1.apart).trans hg.out.1.box
            clear t0 t1 t2 t3 t4 t5 p0 p1 p2 p3 p4 p5 HGo
            rcases hcase with ⟨kv, dv, F, ov', j, ls', l', hls', hov, rfl, ho, hM, hH, hpv, ht, hij, hle⟩ | ⟨f', x, ov', j, LS', rfl, hfx, ho, hM, hov, hpv, ht, hij⟩
            · obtain ⟨e1, e2⟩ := List.append_inj' hls' rfl
              injection e2 with e2
              subst e1 e2
              obtain ⟨⟨o5, c5, rfl⟩, ⟨o6, c6, rfl⟩⟩ := hH.lies.slices
              have G2 := Lib.hid (got_hand hg.out.1 hpW hfr hov ho hM hH hpv ht hle)
              have HM : Hid (i < j ∧ olen wr p = ls.length + 1) := ⟨by have := hg.out.2; omega, by rw [HOl.out]; simp⟩
              obtain ⟨t0, t1, t2, t3, t4, t5⟩ := five htb
              clear hfr hov hM hH hpv ht hij ho htb hle
              have HO2 := Lib.hid (olen_at G2.out.mid.rd G2.out.mid.stk)
              generalize f.fill X1 = X2 at *
              go_wp2_with fail
              refine ⟨⟨rfl, .inl ⟨rfl, j, _, _, _, _, _, _, _, G2.out, HM.out.1⟩⟩, ?_⟩
              have h1 := HM.out.2
              have h2 := HO2.out
              show olen (set5 w2 w1.heap.size 0 (.int .i64 X2.k) (.int .i64 X2.n) (.string X2.s) (.slice o5 X2.keys.length c5) (.slice o6 X2.kids.length c6)) p + 1 < olen wr p + 1
              omega
            · have G2 := Lib.hid (got_ahd hg.out.1 hpW hfx ho hM hov hpv ht (.int .i64 0) (.int .i64 0) (.string ⟨#[]⟩) (.slice none 0 0) (.slice none 0 0))
              have HM : Hid (i < j) := by have := hg.out.2; exact Nat.lt_trans this hij
              obtain ⟨t0, t1, t2, t3, t4, t5⟩ := five htb
              clear hfr hov hM hpv ht hij ho htb
              go_wp2_with fail
              refine ⟨⟨rfl, .inr ⟨rfl, j, _, _, _, _, G2.out, HM.out⟩⟩, ?_⟩
              show 0 < olen wr p + 1
              omega
        · have h1 := hg.out.1.mid.rd.place
          have h2 := hg.out.2
          clear h1 h2
          go_wp2_with fail
          refine ⟨⟨_, _, _, _, _, hg.out.1⟩, ?_⟩
          have h1 := hg.out.1.mid.rd.place
          have h2 := hg.out.2
          have h3 := HI0.out
          omega
    · have G1 : Hid (Ahd W w1 p s T R j ov1 (f :: fs) (ls ++ [l]) x) := ⟨hr.out.mid.back hM1, ho1, by show plug fs (f.fill x) = T; rw [hfx]; exact hr.out.plug, ht1⟩
      have HJ : Hid (i < j) := hij
      clear hfr hM1 ht1 HBg hij
      go_wp2_with fail
      go_loopw [5, 6] (fun a b wy => b = .nilIface ∧ a = .bool false ∧ Hid (Ahd W wy p s T R j ov1 (f :: fs) (ls ++ [l]) x)) (fun _ _ _ => 0)
      case atStart => exact ⟨rfl, rfl, ahd_alloc G1.out _⟩
      case round =>
        obtain ⟨rfl, rfl, hg⟩ := hrel
        go_wp2_with fail
        refine ⟨⟨_, _, _, _, _, hg.out⟩, ?_⟩
        have h1 := hg.out.mid.rd.place
        have h2 := HJ.out
        have h3 := HI0.out
        omega
end Go.Proofs.YtmcjghhmcmkomaaGreatDoor

/- the program passes blanks, and sees the end of a text. -/
namespace Go.Proofs.YtmcjghhmcmkomaaGreatDoor
open Go Go.RowKit

set_option maxRecDepth 100000 in
set_option maxHeartbeats 1000000 in
theorem rd_blanks_all (p : Nat) (s : ByteArray) (hs : s.size ≤ maxLen) (i : Nat) (ov : Value) (nd : Nat) (tw : Int) (bl R : List UInt8) (hbl : ∀ b ∈ bl, blkB b = true) (ht : s.data.toList.drop i = bl ++ R) (hi : i ≤ s.size) (hR : blkB (R.headD 0) = false) (w : World) (h : Rd w p s i ov nd tw) :
    Calls Tryz.prog 98 #[.pointer (some ⟨p, 0, none⟩)] w fun e w' => (∃ v, e = .returned v) ∧ Rd w' p s (i + bl.length) ov nd tw ∧ w.grownBy w' (some p) := by
  have H := Lib.hid h
  have HT := Lib.hid ht
  have HB := Lib.hid hbl
  have hlen : i + bl.length ≤ s.size := by
    have := congrArg List.length ht
    simp only [List.length_drop, List.length_append] at this
    have e : s.data.toList.length = s.size := by simp
    omega
  have HL := Lib.hid hlen
  clear h ht hbl hlen
  go_enter Tryz.func98, Tryz.ntmps98
  go_wp2
  go_loopw [] (fun wr => ∃ k : Nat, k ≤ bl.length ∧ Hid (Rd wr p s (i + k) ov nd tw ∧ w.grownBy wr (some p))) (fun wr => s.size - rplace wr p)
  case atStart => exact ⟨0, Nat.zero_le _, H.out, grw_refl _ _⟩
  case round =>
    obtain ⟨k, hk, hr⟩ := hrel
    have HN := Lib.hid (rd_next p s (i + k) ov nd tw wr (by have := HL.out; omega) hr.out.1)
    have HBk := Lib.hid (rd_blank (nextB s (i + k)))
    have hPl := hr.out.1.place
    by_cases hlt : k < bl.length
    · have hd : s.data.toList.drop (i + k) = bl[k] :: (bl.drop (k + 1) ++ R) := by
        rw [← List.drop_drop, HT.out, List.drop_append_of_le_length (by omega), List.drop_eq_getElem_cons hlt]
        rfl
      obtain ⟨n1, n2, -⟩ := nextB_drop hd
      have hb : blkB (nextB s (i + k)) = true := by rw [n1]; exact HB.out _ (List.getElem_mem _)
      rw [hb] at HBk
      generalize nextB s (i + k) = b at *
      have HPl := Lib.hid hPl
      have HN2 := Lib.hid n2
      clear hd n1 hb hPl n2
      unfold maxLen at hs
      go_wp2_with (first
        | (go_at_call 124; refine HN.out.mono ?_; rintro e w1 ⟨rfl, hb⟩; have H1 := Lib.hid (And.intro (hr.out.1.same (hb.block p hr.out.1.lt)) (grw_trans hr.out.2 (grw_below hb))); clear hb)
        | (go_at_call 123; refine (HBk.out _).mono ?_; rintro e w2 ⟨rfl, e2⟩; subst e2; obtain ⟨x0, x1, x2, x3, x4, x5⟩ := H1.out.1.five; generalize hj : i + k = j at *; have hj2 : (j : Int) < (s.size : Int) := by have := HN2.out; omega)
        | fail)
      have H2 := H1.out.1.go1
      refine ⟨⟨k + 1, hlt, ?_, grw_trans H1.out.2 (grw_set _ _ _ _)⟩, ?_⟩
      · rw [show i + (k + 1) = j + 1 by omega]; exact H2
      · have h1 := H2.place
        have h2 := HPl.out
        have h3 := HN2.out
        omega
    · have e : k = bl.length := by omega
      subst e
      have hb : blkB (nextB s (i + bl.length)) = false := by
        have hd : s.data.toList.drop (i + bl.length) = R := by rw [← List.drop_drop, HT.out, List.drop_left]
        cases R with
        | nil => rw [nextB_nil hd]; decide
        | cons b R => rw [(nextB_drop hd).1]; exact hR
      rw [hb] at HBk
      generalize nextB s (i + bl.length) = b at *
      clear hb hPl
      go_wp2_with (first
        | (go_at_call 124; refine HN.out.mono ?_; rintro e w1 ⟨rfl, hb⟩; have H1 := Lib.hid (And.intro (hr.out.1.same (hb.block p hr.out.1.lt)) (grw_trans hr.out.2 (grw_below hb))); clear hb)
        | (go_at_call 123; refine (HBk.out _).mono ?_; rintro e w2 ⟨rfl, e2⟩; subst e2)
        | fail)
      go_end0
      exact ⟨⟨_, rfl⟩, H1.out⟩

set_option maxRecDepth 100000 in
set_option maxHeartbeats 1000000 in
/-- Nothing but blanks is left. -/
theorem rd_end (p : Nat) (s : ByteArray) (hs : s.size ≤ maxLen) (i : Nat) (ov : Value) (nd : Nat) (tw : Int) (bl : List UInt8) (hbl : ∀ b ∈ bl, blkB b = true) (ht : s.data.toList.drop i = bl) (hi : i ≤ s.size) (w : World) (h : Rd w p s i ov nd tw) :
    Calls Tryz.prog 59 #[.pointer (some ⟨p, 0, none⟩)] w fun e w' => e = .returned .nilIface ∧ Rd w' p s (i + bl.length) ov nd tw ∧ w.grownBy w' (some p) := by
  have HS := Lib.hid (rd_blanks_all p s hs i ov nd tw bl [] hbl (by simpa using ht) hi (by decide) w h)
  have hlen : i + bl.length = s.size := by
    have := congrArg List.length ht
    simp only [List.length_drop] at this
    have e : s.data.toList.length = s.size := by simp
    omega
  rw [hlen] at HS ⊢
  clear h ht hbl hlen
  go_enter Tryz.func59, Tryz.ntmps59
  go_wp2_with (first
    | (go_at_call 98; refine HS.out.mono ?_; rintro e w1 ⟨⟨v, rfl⟩, h1, h2⟩; have H1 := Lib.hid (And.intro h1 h2); obtain ⟨x0, x1, x2, x3, x4, x5⟩ := h1.five; clear h1 h2)
    | fail)
  have g0 : ¬ (s.size : Int) < (s.size : Int) := by omega
  go_quiet (fail)
  go_wp2
  go_ret
  exact ⟨rfl, H1.out.1.drewN _, grw_N H1.out.2 _⟩
end Go.Proofs.YtmcjghhmcmkomaaGreatDoor

/- the program's roomBehind tells how many of the nodes that there is room for are left behind a tree; its TreeOk whether a tree is right, not too deep and not too great. -/
namespace Go.Proofs.YtmcjghhmcmkomaaGreatDoor
open Go Go.RowKit

/-- A tree fits: right, so deep at most, so many nodes at most. -/
def FitsK (T : RT) (d r : Nat) : Prop := T.deep ≤ d ∧ T.size ≤ r ∧ T.right = true

def RoomAt (T : RT) : Prop := ∀ (w : World) (kv dv : Value) (F : List Nat), Lies w T kv dv F → ∀ d r : Nat, d ≤ 8 → r ≤ 200 →
  Calls Tryz.prog 37 #[T.val kv dv, .int .i64 d, .int .i64 r] w fun e w' => ((FitsK T d r ∧ e = .returned (.tuple #[.int .i64 (r - T.size : Nat), .bool true])) ∨ (¬ FitsK T d r ∧ e = .returned (.tuple #[.int .i64 0, .bool false]))) ∧ Below w.heap.size w w'

theorem fits_head {T : RT} {d r : Nat} (h : FitsK T d r) : 0 < d ∧ 0 < r ∧ headOk T = true := by
  obtain ⟨h1, h2, h3⟩ := h
  obtain ⟨k, n, s, keys, kids⟩ := T
  rw [RT.deep] at h1
  rw [RT.size] at h2
  rw [RT.right, Bool.and_eq_true] at h3
  exact ⟨by omega, by omega, h3.1⟩

theorem fits_kid {k n : Int} {s : ByteArray} {keys : List ByteArray} {kids : List RT} {d r j : Nat} (h : FitsK (.node k n s keys kids) d r) (hj : j < kids.length) : FitsK kids[j] (d - 1) (r - 1 - sizeAll (kids.take j)) := by
  obtain ⟨h1, h2, h3⟩ := h
  rw [RT.deep] at h1
  rw [RT.size] at h2
  rw [RT.right, Bool.and_eq_true, rightAll_iff] at h3
  have e1 := deepAll_take kids j hj
  have e2 := deepAll_take_le kids (j + 1)
  have e3 := sizeAll_take kids j hj
  have e4 := sizeAll_take_le kids (j + 1)
  exact ⟨by omega, by omega, h3.2 j hj⟩

theorem fits_all {k n : Int} {s : ByteArray} {keys : List ByteArray} {kids : List RT} {d r : Nat} (h0 : 0 < d) (h1 : 0 < r) (hh : headOk (.node k n s keys kids) = true) (hd : deepAll kids ≤ d - 1) (hs : sizeAll kids ≤ r - 1) (hr : ∀ i (h : i < kids.length), kids[i].right = true) : FitsK (.node k n s keys kids) d r := by
  refine ⟨by rw [RT.deep]; omega, by rw [RT.size]; omega, ?_⟩
  rw [RT.right, hh, Bool.true_and, rightAll_iff]
  exact hr

set_option maxRecDepth 100000 in
set_option maxHeartbeats 1600000 in
theorem impl_room (T : RT) : RoomAt T := by
  induction T using RT.ind with
  | h k n s keys kids ih =>
    intro w kv dv F hl d r hd hr
    have HN := Lib.hid fun (wr : World) (hb : Below w.heap.size w wr) => impl_nodeOk (.node k n s keys kids) wr kv dv F (hl.stay hb (Nat.le_refl _))
    obtain ⟨-, -, -, FK, FD, -, hD, -⟩ := hl.outn
    obtain ⟨o, cap, b, off, FF, KV, DV, rfl, hlc, hcm, ho, -, hcell, hlies, -⟩ := hD
    have HX := Lib.hid (Box.start w (.int .i64 k) (.int .i64 n) (.string s) kv (.slice o kids.length cap) 27)
    have HC := Lib.hid hcell
    have HL := Lib.hid hlies
    have HO := Lib.hid ho
    clear hcell hlies ho hl
    unfold maxLen at hcm
    show Calls Tryz.prog 37 #[.agg #[.int .i64 k, .int .i64 n, .string s, kv, .slice o kids.length cap], .int .i64 d, .int .i64 r] w _
    by_cases d0 : d = 0
    · have hnf : Hid (¬ FitsK (.node k n s keys kids) d r) := fun h => by have := (fits_head h).1; omega
      subst d0
      go_enter Tryz.func37, Tryz.ntmps37
      go_wp2
      go_ret2
      exact ⟨.inr ⟨hnf.out, rfl⟩, (Below.refl _ w).alloc (Nat.le_refl _) _⟩
    by_cases r0 : r = 0
    · have hnf : Hid (¬ FitsK (.node k n s keys kids) d r) := fun h => by have := (fits_head h).2.1; omega
      have d1 : ¬ (d : Int) = 0 := by omega
      subst r0
      go_enter Tryz.func37, Tryz.ntmps37
      go_wp2
      go_ret2
      exact ⟨.inr ⟨hnf.out, rfl⟩, (Below.refl _ w).alloc (Nat.le_refl _) _⟩
    have d1 : ((d : Int) == 0) = false := by simp; omega
    have r1 : ((r : Int) == 0) = false := by simp; omega
    by_cases hh : headOk (.node k n s keys kids) = true
    · rw [hh] at HN
      go_enter Tryz.func37, Tryz.ntmps37
      go_wp2_with (first
        | (go_at_call 67; refine (HN.out _ HX.out.below).mono ?_; rintro e w1 ⟨rfl, hb1⟩; have HX1 := Lib.hid (HX.out.next hb1); obtain ⟨-, -, x0, x1, x2, x3, x4⟩ := HX1.out; clear hb1)
        | fail)
      go_loopw [2, 28] (fun m i wr => ∃ j : Nat, j ≤ kids.length ∧ i = .int .i64 j ∧ m = .int .i64 (r - 1 - sizeAll (kids.take j) : Nat) ∧ Hid (deepAll (kids.take j) ≤ d - 1 ∧ sizeAll (kids.take j) ≤ r - 1 ∧ ∀ i (h : i < kids.length), i < j → kids[i].right = true) ∧ Hid (Below w.heap.size w wr)) (fun _ i _ => kids.length - (intOf i).toNat)
      case atStart => exact ⟨0, Nat.zero_le _, rfl, by simp [sizeAll]; omega, ⟨by simp [deepAll], by simp [sizeAll], fun i _ h => absurd h (by omega)⟩, HX1.out.below⟩
      case round =>
        obtain ⟨j, hj, rfl, rfl, hr, hb⟩ := hrel
        by_cases hlt : j < kids.length
        · have ho := HO.out (by omega)
          subst ho
          obtain ⟨c0, c1, c2, c3, c4⟩ := kid_cells (HC.out j hlt) hb.out
          obtain ⟨⟨o1, q1, s1⟩, ⟨o2, q2, s2⟩⟩ := (HL.out j hlt).slices
          have HI := Lib.hid (fun (w1 : World) (hb1 : Below w.heap.size w w1) => ih _ (List.getElem_mem hlt) w1 _ _ _ ((HL.out j hlt).stay hb1 (Nat.le_refl _)) (d - 1) (r - 1 - sizeAll (kids.take j)) (by omega) (by omega))
          have HE := Lib.hid (And.intro (deepAll_take kids j hlt) (sizeAll_take kids j hlt))
          have HF := Lib.hid (fun h : FitsK (.node k n s keys kids) d r => fits_kid h hlt)
          have HY : Hid (kids[j].right = true → ∀ i (h : i < kids.length), i < j + 1 → kids[i].right = true) := fun h i hi hij => by
            by_cases e : i = j
            · subst e; exact h
            · exact hr.out.2.2 i hi (by omega)
          have hB1 : Hid (∀ ob, Below w.heap.size w (wr.alloc ob)) := fun ob => hb.out.alloc hb.out.size _
          have ed : ((d : Int) - 1) = ((d - 1 : Nat) : Int) := by omega
          generalize kids[j] = x at *
          generalize KV j = v1 at *
          generalize DV j = v2 at *
          subst s1 s2
          generalize hq : r - 1 - sizeAll (kids.take j) = q at *
          have HQ := Lib.hid hq
          clear hq
          go_wp2_with fail
          refine (HI.out _ (hB1.out _)).mono ?_
          rintro e w2 ⟨hor, hb2⟩
          have HB2 := Lib.hid ((hB1.out _).trans (hb2.mono (hB1.out _).size))
          clear hb2
          rcases hor with ⟨hf, rfl⟩ | ⟨hf, rfl⟩
          · have HFt := Lib.hid hf
            clear hf
            go_wp2
            obtain ⟨f1, f2, f3⟩ := HFt.out
            obtain ⟨g1, g2⟩ := HE.out
            obtain ⟨u1, u2, -⟩ := hr.out
            have := HQ.out
            refine ⟨⟨j + 1, by omega, by go_num, ?_, ⟨by omega, by omega, HY.out f3⟩, HB2.out⟩, by simp [intOf]; omega⟩
            congr 1; omega
          · have HFt := Lib.hid (fun h => hf (HF.out h))
            clear hf
            go_wp2
            go_ret2
            exact ⟨.inr ⟨HFt.out, rfl⟩, HB2.out⟩
        · have e : kids.take j = kids := List.take_of_length_le (by omega)
          have HFt : Hid (FitsK (.node k n s keys kids) d r) := by
            have := hr.out
            rw [e] at this
            exact fits_all (by omega) (by omega) hh this.1 this.2.1 (fun i h => this.2.2 i h (by omega))
          rw [e]
          go_wp2
          go_ret2
          refine ⟨.inl ⟨HFt.out, ?_⟩, hb.out⟩
          rw [RT.size]
          exact congrArg (fun z => Ending.returned (.tuple #[.int .i64 z, .bool true])) (by omega)
    · have hh' : headOk (.node k n s keys kids) = false := by simpa using hh
      have hnf : Hid (¬ FitsK (.node k n s keys kids) d r) := fun h => hh (fits_head h).2.2
      rw [hh'] at HN
      go_enter Tryz.func37, Tryz.ntmps37
      go_wp2_with (first
        | (go_at_call 67; refine (HN.out _ HX.out.below).mono ?_; rintro e w1 ⟨rfl, hb1⟩; have HB := Lib.hid (HX.out.next hb1).below; clear hb1)
        | fail)
      go_ret2
      exact ⟨.inr ⟨hnf.out, rfl⟩, HB.out⟩
end Go.Proofs.YtmcjghhmcmkomaaGreatDoor

/- for any tree the program's TreeOk answers as the model's TreeOk does, and the law returns true with its argument as it was; no condition. -/
namespace Go.Proofs.YtmcjghhmcmkomaaGreatDoor
open Go Go.RowKit

theorem treeOk_fits (T : RT) : treeOk T = true ↔ FitsK T 8 200 := by
  unfold treeOk FitsK
  simp [Bool.and_eq_true, and_assoc]

set_option maxRecDepth 100000 in
set_option maxHeartbeats 400000 in
theorem impl_treeOk (T : RT) (w : World) (kv dv : Value) (F : List Nat) (hl : Lies w T kv dv F) :
    Calls Tryz.prog 17 #[.agg #[.int .i64 T.k, .int .i64 T.n, .string T.s, kv, dv]] w fun e w' => e = .returned (.bool (treeOk T)) ∧ Below w.heap.size w w' := by
  have HX := Lib.hid (Box.start w (.int .i64 T.k) (.int .i64 T.n) (.string T.s) kv dv 27)
  have HR := Lib.hid (impl_room T _ _ _ _ (hl.stay HX.out.below (Nat.le_refl _)) 8 200 (by omega) (by omega))
  clear hl
  go_enter Tryz.func17, Tryz.ntmps17
  go_wp2_with fail
  refine HR.out.mono ?_
  rintro e w1 ⟨hor, hb1⟩
  have HB := Lib.hid (HX.out.next hb1).below
  clear hb1
  rcases hor with ⟨hf, rfl⟩ | ⟨hf, rfl⟩
  · have HF := Lib.hid ((treeOk_fits T).2 hf)
    clear hf
    go_wp2
    go_ret
    exact ⟨by rw [HF.out]; rfl, HB.out⟩
  · have HF : Hid (treeOk T = false) := by
      show treeOk T = false
      rw [← Bool.not_eq_true, treeOk_fits]
      exact hf
    clear hf
    go_wp2
    go_ret
    exact ⟨by rw [HF.out]; rfl, HB.out⟩

end Go.Proofs.YtmcjghhmcmkomaaGreatDoor
