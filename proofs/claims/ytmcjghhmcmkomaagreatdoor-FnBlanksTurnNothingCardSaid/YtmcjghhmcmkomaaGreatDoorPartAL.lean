/-
  What is proved: in a map the program reads the Key ahead of a Kid, and what parts it from the Kid.; the program begins a list or a map: an empty one is whole at once; of another one a level is laid behind all that is open.; the program's enter: an empty list or map is whole at once; of another one a level is laid behind all that is open, and of a map the first Key is read.; the program's enter of a list or a map that is not empty: a level is laid behind all that is open, and of a map the first Key is read.
-/
import Derived.Test.YtmcjghhmcmkomaaGreatDoorPartAK
/- in a map the program reads the Key ahead of a Kid, and what parts it from the Kid. -/
namespace Go.Proofs.YtmcjghhmcmkomaaGreatDoor
open Go Go.RowKit

set_option maxRecDepth 100000 in
set_option maxHeartbeats 4000000 in
theorem ahead5 {w0 wr : World} {p : Nat} {s : ByteArray} (hs : s.size ≤ 1000000000) {i : Nat} {ov : Value} {nd : Nat} {tw : Int} {ls : List Lv} {l : Lv} (hM : Mid w0 wr wr p s i ov nd tw (ls ++ [l])) (hp : p < w0.heap.size) (hk : l.k = 5)
    (key : ByteArray) (hok : textOk key = true) (hn : key ∉ l.ks) (R : List UInt8) (ht : s.data.toList.drop i = (quoteT key).data.toList ++ 58 :: R) :
    Calls Tryz.prog 122 #[.pointer (some ⟨p, 0, none⟩)] wr fun e w' => e = .returned .nilIface ∧ Mid w0 wr w' p s (i + (quoteT key).data.toList.length + 1) ov nd tw (ls ++ [{ l with key := key, ks := l.ks ++ [key] }]) ∧ ∀ b, b < wr.heap.size → b ≠ p → ¬ ov.ownBlock = some b → b ∉ l.FM → w'.heap[b]? = wr.heap[b]? := by
  obtain ⟨g, cap, cur, rfl, hg, h1, h2, h3, htop, -, hglt, hg0, -, hgl⟩ := hM.stk.top
  obtain ⟨mb, m1, m2, m3, m4, m5⟩ : ∃ mb', l.mv = .map (some mb') ∧ l.FM = [mb'] ∧ Seen wr mb' l.ks ∧ w0.heap.size ≤ mb' ∧ l.dk.length = l.dd.length := by
    rcases (hM.stk.each l (by simp)).kind with ⟨q, _⟩ | ⟨_, mb', q⟩
    · rw [hk] at q; exact absurd q (by decide)
    · exact ⟨mb', q⟩
  have hq : (quoteT key).data.toList = quoteL key.data.toList := by unfold quoteT; rw [if_pos hok]
  have hx2 : key.data.toList.all okByte = true := by
    unfold textOk at hok
    simp only [Bool.and_eq_true] at hok
    exact hok.2
  have hksz : key.size ≤ maxLen := by
    unfold textOk at hok
    simp only [Bool.and_eq_true, decide_eq_true_eq] at hok
    unfold maxLen; omega
  have hs' : s.size ≤ maxLen := by unfold maxLen; omega
  rw [hq] at ht ⊢
  have ht' : s.data.toList.drop i = 34 :: (escAll key.data.toList ++ 34 :: (58 :: R)) := by rw [ht]; simp [quoteL]
  have ht2 : s.data.toList.drop (i + (quoteL key.data.toList).length) = 58 :: R := by
    rw [← List.drop_drop, ht, List.drop_left]
  obtain ⟨n1, n2, -⟩ := nextB_drop ht'
  obtain ⟨n3, n4, -⟩ := nextB_drop ht2
  have A1 := Lib.hid (fun (wx : World) (hx : Rd wx p s i (.slice (some ⟨g, 0, none⟩) (ls.length + 1) cap) nd tw) => rd_blanks_no p s i _ nd tw wx (Nat.le_of_lt n2) (by rw [n1]; decide) hx)
  have A2 : Hid (∀ wx, Rd wx p s i (.slice (some ⟨g, 0, none⟩) (ls.length + 1) cap) nd tw → Calls Tryz.prog 114 #[.pointer (some ⟨p, 0, none⟩)] wx fun e w' => e = .returned (.tuple #[.string key, .nilIface]) ∧ Rd w' p s (i + (quoteL key.data.toList).length) (.slice (some ⟨g, 0, none⟩) (ls.length + 1) cap) nd tw ∧ wx.grownBy w' (some p)) := fun wx hx => rd_quoted p s hs i _ nd tw key.data.toList (58 :: R) hx2 ht' wx hx
  have A3 := Lib.hid (fun (wx : World) (hx : Rd wx p s (i + (quoteL key.data.toList).length) (.slice (some ⟨g, 0, none⟩) (ls.length + 1) cap) nd tw) => rd_blanks_no p s (i + (quoteL key.data.toList).length) _ nd tw wx (Nat.le_of_lt n4) (by rw [n3]; decide) hx)
  have A4 := Lib.hid (fun (wx : World) (hx : Rd wx p s (i + (quoteL key.data.toList).length) (.slice (some ⟨g, 0, none⟩) (ls.length + 1) cap) nd tw) => rd_word p s hs' (i + (quoteL key.data.toList).length) _ nd tw ⟨#[58]⟩ (by decide) R ht2 wx hx)
  have HG : Hid (∀ wx, Mid w0 wr wx p s i (.slice (some ⟨g, 0, none⟩) (ls.length + 1) cap) nd tw (ls ++ [l]) ∨ Mid w0 wr wx p s (i + (quoteL key.data.toList).length) (.slice (some ⟨g, 0, none⟩) (ls.length + 1) cap) nd tw (ls ++ [l]) →
      ∃ cur, wx.heap[g]? = some (.cells cur 140 (0, 0)) ∧ (∀ j, j < 8 → cur[ls.length * 8 + j]? = l.cells[j]?) ∧ Seen wx mb l.ks) := fun wx h => by
    have hst : Stk w0 wx (.slice (some ⟨g, 0, none⟩) (ls.length + 1) cap) (ls ++ [l]) := by rcases h with h | h <;> exact h.stk
    obtain ⟨g', cap', cur', e, k2, -, -, -, ktop, -⟩ := hst.top
    injection e with e1 e2 e3
    injection e1 with e1
    injection e1 with e1
    subst e1
    refine ⟨cur', k2, ktop, ?_⟩
    rcases (hst.each l (by simp)).kind with ⟨q, _⟩ | ⟨_, mb', q1, _, q2, _⟩
    · rw [hk] at q; exact absurd q (by decide)
    · rw [m1] at q1
      injection q1 with q1
      injection q1 with q1
      subst q1
      exact q2
  have HM := Lib.hid hM
  have HFM := Lib.hid m2
  have HKey := Lib.hid (And.intro hp (And.intro hk (And.intro m1 (And.intro hksz (And.intro hn hgl)))))
  obtain ⟨x0, x1, x2, x3, x4, x5⟩ := hM.rd.five
  have c0 : wr.cell? ⟨g, ls.length * 8, none⟩ = some (.int .i64 5) := by
    have := htop 0 (by decide)
    rw [cell_of hg, show ls.length * 8 = ls.length * 8 + 0 by omega, this]
    show some (Value.int .i64 l.k) = _
    rw [hk]
  unfold maxLen at h2
  clear hM htop hg h3 hq hx2 hksz hs' ht ht' ht2 n1 n2 n3 n4 hok hn m2 m3 m4 m5 hk hglt hg0
  go_enter Tryz.func122, Tryz.ntmps122
  generalize hln : ls.length = n at *
  have g0 : (0 : Int) ≤ (n : Int) := by omega
  have g1 : (n : Int) < (n : Int) + 1 := by omega
  have g2 : ¬ (n : Int) < 0 := by omega
  have g3 : IntKind.i64.wrap (n : Int) = n := by rw [IntKind.wrap_i64]; omega
  go_wp2
  go_quiet (fail)
  replace HM := Lib.hid (HM.out.below (blw_drewN (Below.refl _ _) nq))
  clear x0 x1 x2 x3 x4 x5
  go_wp2_with fail
  refine (A1.out _ HM.out.rd).mono ?_
  rintro e w1 ⟨⟨v1, rfl⟩, hb1⟩
  have HF : Hid (∀ b, b < wr.heap.size → b ≠ p → b ≠ g → b ≠ mb → w1.heap[b]? = wr.heap[b]?) := fun b h1 _ _ _ => hb1.block b h1
  replace HM := Lib.hid (HM.out.below hb1)
  clear hb1 c0
  obtain ⟨x0, x1, x2, x3, x4, x5⟩ := HM.out.rd.five
  go_wp2_with fail
  refine (A2.out _ HM.out.rd).mono ?_
  rintro e w2 ⟨rfl, h2', hg2⟩
  replace HF : Hid (∀ b, b < wr.heap.size → b ≠ p → b ≠ g → b ≠ mb → w2.heap[b]? = wr.heap[b]?) := fun b h1 h2 h3 h4 => (hg2.block b (Nat.lt_of_lt_of_le h1 HM.out.kp.size) (fun e => by injection e with e; exact h2 e)).trans (HF.out b h1 h2 h3 h4)
  replace HM := Lib.hid (HM.out.grw HKey.out.1 h2' hg2)
  clear h2' hg2 x0 x1 x2 x3 x4 x5
  obtain ⟨cur2, k2, ktop, kseen⟩ := HG.out w2 (.inr HM.out)
  have c7 : w2.cell? ⟨g, n * 8 + 7, none⟩ = some (.map (some mb)) := by
    have := ktop 7 (by decide)
    rw [cell_of k2, this]
    show some l.mv = _
    rw [HKey.out.2.2.1]
  have c6 : w2.cell? ⟨g, n * 8 + 6, none⟩ = some (.string l.key) := by
    have := ktop 6 (by decide)
    rw [cell_of k2, this]
    rfl
  have f6 : ∀ o, w2.frozen? ⟨g, o, none⟩ = false := fun o => by simp [World.frozen?, k2]
  have hlk := seen_lookup kseen HKey.out.2.2.2.2.1
  have hgm : g ≠ mb := fun e => HKey.out.2.2.2.2.2 (by
    rcases (HM.out.stk.each l (by simp)).kind with ⟨q, _⟩ | ⟨_, mb', q1, q2, _⟩
    · rw [HKey.out.2.1] at q; exact absurd q (by decide)
    · rw [HKey.out.2.2.1] at q1
      injection q1 with q1
      injection q1 with q1
      subst q1
      rw [e]
      exact List.mem_append_right _ (List.mem_append_right _ (by rw [q2]; simp)))
  have kseen2 : Seen (w2.setCell ⟨g, n * 8 + 6, none⟩ (.string key)) mb l.ks := kseen.same (Below.heap_setCell _ _ _ _ (by exact fun e => hgm e.symm))
  obtain ⟨st, w3, hen, hg3, hst⟩ := seen_entry kseen2 HKey.out.2.2.2.2.1
  obtain ⟨w4, hes, hg4, hsn⟩ := hst w3 ((i : Int)) rfl
  have HM4 : Hid (Mid w0 wr w4 p s (i + (quoteL key.data.toList).length) (.slice (some ⟨g, 0, none⟩) (n + 1) cap) nd tw (ls ++ [{ l with key := key, ks := l.ks ++ [key] }])) := by
    have hm := HM.out
    rw [← hln] at hm hg3 ⊢
    exact hm.key HKey.out.1 k2 HKey.out.2.1 HKey.out.2.2.1 HKey.out.2.2.2.1 hg3 hg4 hsn
  have hsz3 : wr.heap.size ≤ w3.heap.size := Nat.le_trans HM.out.kp.size (by have := hg3.size; simpa [World.setCell] using this)
  replace HF : Hid (∀ b, b < wr.heap.size → b ≠ p → b ≠ g → b ≠ mb → w4.heap[b]? = wr.heap[b]?) := fun b h1 h2 h3 h4 => by
    rw [hg4.block b (Nat.lt_of_lt_of_le h1 hsz3) (fun e => by injection e with e; exact h4 e), hg3.block b (by have := HM.out.kp.size; simp [World.setCell]; omega) (fun e => by injection e with e; exact h4 e), Below.heap_setCell _ _ _ _ (by exact h3)]
    exact HF.out b h1 h2 h3 h4
  clear kseen kseen2 hg3 hst hg4 hsn ktop k2 hsz3
  go_wp2_with fail
  refine (A3.out _ HM4.out.rd).mono ?_
  rintro e w5 ⟨⟨v5, rfl⟩, hb5⟩
  replace HF : Hid (∀ b, b < wr.heap.size → b ≠ p → b ≠ g → b ≠ mb → w5.heap[b]? = wr.heap[b]?) := fun b h1 h2 h3 h4 => (hb5.block b (Nat.lt_of_lt_of_le h1 HM4.out.kp.size)).trans (HF.out b h1 h2 h3 h4)
  replace HM4 := Lib.hid (HM4.out.below hb5)
  clear hb5 hlk hen hes c6 c7 f6
  go_wp2_with fail
  refine (A4.out _ HM4.out.rd).mono ?_
  rintro e w6 ⟨rfl, h6, hg6⟩
  replace HF : Hid (∀ b, b < wr.heap.size → b ≠ p → b ≠ g → b ≠ mb → w6.heap[b]? = wr.heap[b]?) := fun b h1 h2 h3 h4 => (hg6.block b (Nat.lt_of_lt_of_le h1 HM4.out.kp.size) (fun e => by injection e with e; exact h2 e)).trans (HF.out b h1 h2 h3 h4)
  replace HM4 := Lib.hid (HM4.out.grw HKey.out.1 h6 hg6)
  clear h6 hg6
  go_wp2
  go_ret
  exact ⟨rfl, HM4.out, fun b h1 h2 h3 h4 => HF.out b h1 h2 (fun e => h3 (by rw [e]; rfl)) (fun e => h4 (by rw [HFM.out, e]; simp))⟩
end Go.Proofs.YtmcjghhmcmkomaaGreatDoor

/- the program begins a list or a map: an empty one is whole at once; of another one a level is laid behind all that is open. -/
namespace Go.Proofs.YtmcjghhmcmkomaaGreatDoor
open Go Go.RowKit

/-- A level that is new. -/
def newLv (k : Int) (mv : Value) (FM : List Nat) : Lv := ⟨k, [], [], ⟨#[]⟩, .slice none 0 0, .slice none 0 0, mv, [], [], FM, []⟩

theorem info_level : (Tryz.prog.info? 140).map (fun i => (i.zero, i.size, i.bytes)) = some (some (.agg #[.int .i64 0, .int .i64 0, .string ⟨#[]⟩, .slice none 0 0, .slice none 0 0, .int .u8 0, .string ⟨#[]⟩, .map none]), 8, 112) := by kernel_rfl

theorem newLv_ok {w0 wr : World} {k : Int} {mv : Value} {FM : List Nat} (h : (k = 4 ∧ mv = .map none ∧ FM = []) ∨ (k = 5 ∧ ∃ mb, mv = .map (some mb) ∧ FM = [mb] ∧ Seen wr mb [] ∧ w0.heap.size ≤ mb)) : LvOk w0 wr (newLv k mv FM) := by
  refine ⟨⟨none, 0, 0, 0, rfl, Nat.le_refl _, Nat.zero_le _, fun h => absurd h (by simp), rfl, fun i hi => absurd hi (by simp [newLv]), Room.nil _ _ _⟩, Fresh.nil _ _, ⟨none, 0, 0, 0, fun _ => [], fun _ => .bool true, fun _ => .bool true, rfl, Nat.le_refl _, Nat.zero_le _, fun h => absurd h (by simp), rfl, fun i hi => absurd hi (by simp [newLv]), fun i hi => absurd hi (by simp [newLv]), Room.nil _ _ _⟩, Fresh.nil _ _, by show (0 : Nat) ≤ _; exact Nat.zero_le _, ?_⟩
  rcases h with h | ⟨h1, mb, h2, h3, h4, h5⟩
  · exact .inl h
  · exact .inr ⟨h1, mb, h2, h3, h4, h5, rfl⟩

/-- One level more, laid by append. -/
theorem Stk.push {w0 wr : World} {ov : Value} {ls : List Lv} (h : Stk w0 wr ov ls) (hs : w0.heap.size ≤ wr.heap.size) (hl : ls.length ≤ 1048575) {l : Lv} (hok : LvOk w0 wr l) (hap : (ls.flatMap Lv.blocks ++ l.blocks).Nodup) (hnew : ∀ g, ov.ownBlock = some g → g ∉ l.blocks)
    (h1 : ∀ u ∈ l.cells, u.oneCell' = true) {xb : Nat} {t : TypeId} (hxb : wr.heap[xb]? = some (.cells l.cells.toArray t (0, 0))) (ty : TypeId) :
    ∃ g c w', (Builtin.append_ #[80, 80] ty #[ov, .slice (some ⟨xb, 0, none⟩) 1 1]).run Tryz.prog wr = .ok (.slice (some ⟨g, 0, none⟩) (ls.length + 1) c) w' ∧ Stk w0 w' (.slice (some ⟨g, 0, none⟩) (ls.length + 1) c) (ls ++ [l]) ∧ w0.heap.size ≤ g ∧ wr.grownBy w' ov.ownBlock := by
  obtain ⟨i0, hi0, hz0, hz1, hz2⟩ := info_parts info_level
  obtain ⟨v', w', hr, hown, hgr, -, hown'⟩ := run_append_own_at (P := Tryz.prog) wr w0.heap.size 80 ty 140 i0 _ 8 112 Tryz.underlying80 hi0 hz0 hz1 hz2 rfl (by decide) ov ls.length (ls.flatMap Lv.cells) h.row ⟨xb, 0, none⟩ 1 1 l.cells (by simp [cells_len]) (World.news_of_block hxb) h1 (by unfold maxLen; omega) (by omega) hs
  rcases hown.2 with ⟨e, h0⟩ | ⟨g, cap, cur, rfl, k1, k2, k3, k4, k5, k6⟩
  · omega
  have hkeep : ∀ b ∈ ls.flatMap Lv.blocks ++ l.blocks, w'.heap[b]? = wr.heap[b]? := fun b hb => by
    rcases List.mem_append.1 hb with hb | hb
    · exact hgr.block b (h.blocks (.inl hb)).1 (fun e => h.mine b e.symm hb)
    · exact hgr.block b (hok.lt b hb) (fun e => hnew b e.symm hb)
  have hgnot : g ∉ ls.flatMap Lv.blocks ++ l.blocks := by
    intro hb
    rcases hown' with e | e
    · rcases List.mem_append.1 hb with hb | hb
      · exact h.mine g e.symm hb
      · exact hnew g e.symm hb
    · injection e with e
      have e : g = wr.heap.size := e
      rcases List.mem_append.1 hb with hb | hb
      · have := (h.blocks (.inl hb)).1; omega
      · have := hok.lt g hb; omega
  refine ⟨g, cap, w', hr, ⟨⟨by rw [flat_len], .inr ⟨g, cap, cur, by simp, k1, k2, by simpa using k3, k4, k5, ?_⟩⟩, fun x hx => ?_, by rw [List.flatMap_append]; simpa using hap, fun q hq => ?_⟩, k1, hgr⟩
  · rw [List.flatMap_append]
    simpa using k6
  · rcases List.mem_append.1 hx with hx | hx
    · exact (h.each x hx).carry fun b hb => hkeep b (List.mem_append_left _ (List.mem_flatMap.2 ⟨x, hx, hb⟩))
    · simp at hx; subst hx
      exact hok.carry fun b hb => hkeep b (List.mem_append_right _ hb)
  · simp [Value.ownBlock] at hq
    subst hq
    rw [List.flatMap_append]
    simpa using hgnot

/-- What is laid behind all that is open, and stored into the reader. -/
theorem Mid.push {w0 wr0 wr wx : World} {p : Nat} {s : ByteArray} {i : Nat} {ov : Value} {nd : Nat} {tw : Int} {ls : List Lv} (h : Mid w0 wr0 wr p s i ov nd tw ls) (hp : p < w0.heap.size) (hb : Below wr.heap.size wr wx) (hl : ls.length ≤ 1048575) {l : Lv} (hok : LvOk w0 wr l) (hap : (ls.flatMap Lv.blocks ++ l.blocks).Nodup) (hnew : ∀ g, ov.ownBlock = some g → g ∉ l.blocks)
    (h1 : ∀ u ∈ l.cells, u.oneCell' = true) {xb : Nat} {t : TypeId} (hxb : wx.heap[xb]? = some (.cells l.cells.toArray t (0, 0))) (ty : TypeId) :
    ∃ g c w', (Builtin.append_ #[80, 80] ty #[ov, .slice (some ⟨xb, 0, none⟩) 1 1]).run Tryz.prog wx = .ok (.slice (some ⟨g, 0, none⟩) (ls.length + 1) c) w' ∧ w'.heap[p]? = wr.heap[p]? ∧ wr.heap.size ≤ w'.heap.size ∧ wx.grownBy w' ov.ownBlock ∧
      Mid w0 wr0 (w'.setCell ⟨p, 2, none⟩ (.slice (some ⟨g, 0, none⟩) (ls.length + 1) c)) p s i (.slice (some ⟨g, 0, none⟩) (ls.length + 1) c) nd tw (ls ++ [l]) := by
  have hx := h.below hb
  have hok' : LvOk w0 wx l := hok.carry fun b hbl => hb.block b (hok.lt b hbl)
  obtain ⟨g, c, w', hr, hst, hg, hgr⟩ := hx.stk.push hx.hs hl hok' hap hnew h1 hxb ty
  have hold : ∀ b, b < w0.heap.size → w'.heap[b]? = wr.heap[b]? := fun b hbl => by
    rw [hgr.block b (Nat.lt_of_lt_of_le hbl hx.hs) (fun e => by have := (hx.stk.own e.symm).2; omega), hb.block b (Nat.lt_of_lt_of_le hbl h.hs)]
  have hpw : w'.heap[p]? = wr.heap[p]? := hold p hp
  have hsz : wr.heap.size ≤ w'.heap.size := Nat.le_trans hb.size hgr.size
  have hrd : Rd w' p s i ov nd tw := h.rd.same hpw
  refine ⟨g, c, w', hr, hpw, hsz, hgr, hrd.opn _, ?_, ?_, ?_⟩
  · refine hst.next (p := p) (grw_set w' p 2 _) hp
  · refine h.kp.trans ⟨hgr.os.trans hb.os, hgr.tape.trans hb.tape, hgr.output.trans hb.output, by simpa [World.setCell] using hsz, fun b hb1 hb2 => ?_⟩
    rw [Below.heap_setCell _ _ _ _ (by exact hb2)]
    exact hold b hb1
  · have : w0.heap.size ≤ w'.heap.size := Nat.le_trans h.hs hsz
    simpa [World.setCell] using this
end Go.Proofs.YtmcjghhmcmkomaaGreatDoor

/- the program's enter: an empty list or map is whole at once; of another one a level is laid behind all that is open, and of a map the first Key is read. -/
namespace Go.Proofs.YtmcjghhmcmkomaaGreatDoor
open Go Go.RowKit

theorem Mid.old {w0 wr0 wr : World} {p : Nat} {s : ByteArray} {i : Nat} {ov : Value} {nd : Nat} {tw : Int} {ls : List Lv} (h : Mid w0 wr0 wr p s i ov nd tw ls) (o : Obj) : Mid w0 wr0 (wr.alloc o) p s i ov nd tw ls := h.below ((Below.refl _ wr).alloc (Nat.le_refl _) o)

/-- A node is stored into a block of the function's own. -/
theorem Mid.set5 {w0 wr0 wr : World} {p : Nat} {s : ByteArray} {i : Nat} {ov : Value} {nd : Nat} {tw : Int} {ls : List Lv} (h : Mid w0 wr0 wr p s i ov nd tw ls) {b : Nat} (hb : w0.heap.size ≤ b) (hp : p < w0.heap.size) (hn : ∀ x, (x ∈ ls.flatMap Lv.blocks ∨ ov.ownBlock = some x) → x ≠ b) (v0 v1 v2 v3 v4 : Value) : Mid w0 wr0 (set5 wr b 0 v0 v1 v2 v3 v4) p s i ov nd tw ls := by
  have hsz : (Go.Proofs.YtmcjghhmcmkomaaGreatDoor.set5 wr b 0 v0 v1 v2 v3 v4).heap.size = wr.heap.size := by simp [Go.Proofs.YtmcjghhmcmkomaaGreatDoor.set5, World.setCell]
  have hg := set5_below (Below.refl w0.heap.size wr) hb 0 v0 v1 v2 v3 v4
  exact ⟨h.rd.set5 (by omega) _ _ _ _ _, h.stk.carry fun x hx => set5_other _ _ _ _ _ _ _ _ _ (hn x hx), h.kp.trans ⟨hg.os, hg.tape, hg.output, hg.size, fun x hx _ => hg.block x hx⟩, by rw [hsz]; exact h.hs⟩

theorem zero_blocks2 (w : World) (a b : Obj) : ((w.alloc a).alloc b).heap[w.heap.size]? = some a ∧ ((w.alloc a).alloc b).heap[w.heap.size + 1]? = some b := by
  have e1 : (w.alloc a).heap.size = w.heap.size + 1 := by simp
  refine ⟨?_, ?_⟩
  · rw [Below.heap_alloc _ _ _ (by simp), heap_last]
  · rw [← e1, heap_last]


set_option maxRecDepth 100000 in
set_option maxHeartbeats 2000000 in
theorem enterE4 {w0 wr : World} {p : Nat} {s : ByteArray} (hs : s.size ≤ 1000000000) {i : Nat} {ov : Value} {nd : Nat} {tw : Int} {ls : List Lv} (hM : Mid w0 wr wr p s i ov nd tw ls) (hp : p < w0.heap.size) (R : List UInt8) (ht : s.data.toList.drop i = 93 :: R) :
    Calls Tryz.prog 120 #[.pointer (some ⟨p, 0, none⟩), .agg #[.int .i64 4, .int .i64 0, .string ⟨#[]⟩, .slice none 0 0, .slice none 0 0, .int .u8 93, .string ⟨#[]⟩, .map none]] wr fun e w' => e = .returned (.tuple #[.agg #[.int .i64 4, .int .i64 0, .string ⟨#[]⟩, .slice none 0 0, .slice none 0 0], .bool true, .nilIface]) ∧ Mid w0 wr w' p s (i + 1) ov nd tw ls ∧ ∀ b, b < wr.heap.size → b ≠ p → w'.heap[b]? = wr.heap[b]? := by
  have hs' : s.size ≤ maxLen := by unfold maxLen; omega
  obtain ⟨n1, n2, -⟩ := nextB_drop ht
  have A1 := Lib.hid (fun (wx : World) (hx : Rd wx p s i ov nd tw) => rd_blanks_no p s i ov nd tw wx (Nat.le_of_lt n2) (by rw [n1]; decide) hx)
  have A2 := Lib.hid (fun (wx : World) (hx : Rd wx p s i ov nd tw) => rd_take_yes p s i ov nd tw wx hs' n2 93 n1 hx)
  have HM := Lib.hid ((hM.old (.cells #[.int .i64 4, .int .i64 0, .string ⟨#[]⟩, .slice none 0 0, .slice none 0 0, .int .u8 93, .string ⟨#[]⟩, .map none] 140)).old (.cells #[.int .i64 0, .int .i64 0, .string ⟨#[]⟩, .slice none 0 0, .slice none 0 0] 27))
  have HL : Hid (w0.heap.size ≤ wr.heap.size ∧ ∀ x, (x ∈ ls.flatMap Lv.blocks ∨ ov.ownBlock = some x) → x < wr.heap.size) := ⟨hM.hs, fun x hx => (hM.stk.blocks hx).1⟩
  have Z0 := Lib.hid (zero_blocks2 wr (.cells #[.int .i64 4, .int .i64 0, .string ⟨#[]⟩, .slice none 0 0, .slice none 0 0, .int .u8 93, .string ⟨#[]⟩, .map none] 140) (.cells #[.int .i64 0, .int .i64 0, .string ⟨#[]⟩, .slice none 0 0, .slice none 0 0] 27))
  have HF : Hid (∀ b, b < wr.heap.size → b ≠ p → ((wr.alloc (.cells #[.int .i64 4, .int .i64 0, .string ⟨#[]⟩, .slice none 0 0, .slice none 0 0, .int .u8 93, .string ⟨#[]⟩, .map none] 140)).alloc (.cells #[.int .i64 0, .int .i64 0, .string ⟨#[]⟩, .slice none 0 0, .slice none 0 0] 27)).heap[b]? = wr.heap[b]?) := fun b hb _ => (((Below.refl _ wr).alloc (Nat.le_refl _) _).alloc (by simp) _).block b hb
  clear hM ht n1 n2
  go_enter Tryz.func120, Tryz.ntmps120
  go_wp2_with fail
  refine (A1.out _ HM.out.rd).mono ?_
  rintro e w1 ⟨⟨v1, rfl⟩, hb1⟩
  replace HM := Lib.hid (HM.out.below hb1)
  replace Z0 := Lib.hid (And.intro ((hb1.block _ (by simp; omega)).trans Z0.out.1) ((hb1.block _ (by simp)).trans Z0.out.2))
  have HF1 : Hid (∀ b, b < wr.heap.size → b ≠ p → w1.heap[b]? = wr.heap[b]?) := fun b hb hn => (hb1.block b (by simp; omega)).trans (HF.out b hb hn)
  clear hb1 HF
  have c5 := cell_of Z0.out.1 5
  go_wp2_with fail
  refine (A2.out _ HM.out.rd).mono ?_
  rintro e w2 ⟨rfl, h2, g2⟩
  have hp2 : p < wr.heap.size := Nat.lt_of_lt_of_le hp HL.out.1
  have HF2 : Hid (∀ b, b < wr.heap.size → b ≠ p → w2.heap[b]? = wr.heap[b]?) := fun b hb hn => (g2.block b (Nat.lt_trans hb (Array.getElem?_eq_some_iff.1 Z0.out.1).1) (fun e => hn (Option.some.inj e))).trans (HF1.out b hb hn)
  clear HF1
  replace Z0 := Lib.hid (And.intro (grw_block Z0.out.1 (by omega) g2) (grw_block Z0.out.2 (by omega) g2))
  replace HM := Lib.hid (HM.out.grw hp h2 g2)
  clear h2 g2 c5
  have c0 := cell_of Z0.out.1 0; have c1 := cell_of Z0.out.1 1; have c2 := cell_of Z0.out.1 2; have c3 := cell_of Z0.out.1 3; have c4 := cell_of Z0.out.1 4
  obtain ⟨z0, z1, z2, z3, z4, z5⟩ := five Z0.out.2
  go_wp2
  exact bodyPost_ret (ret_node3 Tryz.results120 rfl rfl rfl (set5_end Z0.out.2 _ _ _ _ _)) rfl ⟨rfl, HM.out.set5 (by have := HL.out.1; omega) hp (fun x hx e => by have := HL.out.2 x hx; omega) _ _ _ _ _, fun b hb hn => (set5_other _ _ _ _ _ _ _ _ _ (by omega)).trans (HF2.out b hb hn)⟩


set_option maxRecDepth 100000 in
set_option maxHeartbeats 2000000 in
theorem enterE5 (mb : Nat) {w0 wr : World} {p : Nat} {s : ByteArray} (hs : s.size ≤ 1000000000) {i : Nat} {ov : Value} {nd : Nat} {tw : Int} {ls : List Lv} (hM : Mid w0 wr wr p s i ov nd tw ls) (hp : p < w0.heap.size) (R : List UInt8) (ht : s.data.toList.drop i = 125 :: R) :
    Calls Tryz.prog 120 #[.pointer (some ⟨p, 0, none⟩), .agg #[.int .i64 5, .int .i64 0, .string ⟨#[]⟩, .slice none 0 0, .slice none 0 0, .int .u8 125, .string ⟨#[]⟩, .map (some mb)]] wr fun e w' => e = .returned (.tuple #[.agg #[.int .i64 5, .int .i64 0, .string ⟨#[]⟩, .slice none 0 0, .slice none 0 0], .bool true, .nilIface]) ∧ Mid w0 wr w' p s (i + 1) ov nd tw ls ∧ ∀ b, b < wr.heap.size → b ≠ p → w'.heap[b]? = wr.heap[b]? := by
  have hs' : s.size ≤ maxLen := by unfold maxLen; omega
  obtain ⟨n1, n2, -⟩ := nextB_drop ht
  have A1 := Lib.hid (fun (wx : World) (hx : Rd wx p s i ov nd tw) => rd_blanks_no p s i ov nd tw wx (Nat.le_of_lt n2) (by rw [n1]; decide) hx)
  have A2 := Lib.hid (fun (wx : World) (hx : Rd wx p s i ov nd tw) => rd_take_yes p s i ov nd tw wx hs' n2 125 n1 hx)
  have HM := Lib.hid ((hM.old (.cells #[.int .i64 5, .int .i64 0, .string ⟨#[]⟩, .slice none 0 0, .slice none 0 0, .int .u8 125, .string ⟨#[]⟩, .map (some mb)] 140)).old (.cells #[.int .i64 0, .int .i64 0, .string ⟨#[]⟩, .slice none 0 0, .slice none 0 0] 27))
  have HL : Hid (w0.heap.size ≤ wr.heap.size ∧ ∀ x, (x ∈ ls.flatMap Lv.blocks ∨ ov.ownBlock = some x) → x < wr.heap.size) := ⟨hM.hs, fun x hx => (hM.stk.blocks hx).1⟩
  have Z0 := Lib.hid (zero_blocks2 wr (.cells #[.int .i64 5, .int .i64 0, .string ⟨#[]⟩, .slice none 0 0, .slice none 0 0, .int .u8 125, .string ⟨#[]⟩, .map (some mb)] 140) (.cells #[.int .i64 0, .int .i64 0, .string ⟨#[]⟩, .slice none 0 0, .slice none 0 0] 27))
  have HF : Hid (∀ b, b < wr.heap.size → b ≠ p → ((wr.alloc (.cells #[.int .i64 5, .int .i64 0, .string ⟨#[]⟩, .slice none 0 0, .slice none 0 0, .int .u8 125, .string ⟨#[]⟩, .map (some mb)] 140)).alloc (.cells #[.int .i64 0, .int .i64 0, .string ⟨#[]⟩, .slice none 0 0, .slice none 0 0] 27)).heap[b]? = wr.heap[b]?) := fun b hb _ => (((Below.refl _ wr).alloc (Nat.le_refl _) _).alloc (by simp) _).block b hb
  clear hM ht n1 n2
  go_enter Tryz.func120, Tryz.ntmps120
  go_wp2_with fail
  refine (A1.out _ HM.out.rd).mono ?_
  rintro e w1 ⟨⟨v1, rfl⟩, hb1⟩
  replace HM := Lib.hid (HM.out.below hb1)
  replace Z0 := Lib.hid (And.intro ((hb1.block _ (by simp; omega)).trans Z0.out.1) ((hb1.block _ (by simp)).trans Z0.out.2))
  have HF1 : Hid (∀ b, b < wr.heap.size → b ≠ p → w1.heap[b]? = wr.heap[b]?) := fun b hb hn => (hb1.block b (by simp; omega)).trans (HF.out b hb hn)
  clear hb1 HF
  have c5 := cell_of Z0.out.1 5
  go_wp2_with fail
  refine (A2.out _ HM.out.rd).mono ?_
  rintro e w2 ⟨rfl, h2, g2⟩
  have hp2 : p < wr.heap.size := Nat.lt_of_lt_of_le hp HL.out.1
  have HF2 : Hid (∀ b, b < wr.heap.size → b ≠ p → w2.heap[b]? = wr.heap[b]?) := fun b hb hn => (g2.block b (Nat.lt_trans hb (Array.getElem?_eq_some_iff.1 Z0.out.1).1) (fun e => hn (Option.some.inj e))).trans (HF1.out b hb hn)
  clear HF1
  replace Z0 := Lib.hid (And.intro (grw_block Z0.out.1 (by omega) g2) (grw_block Z0.out.2 (by omega) g2))
  replace HM := Lib.hid (HM.out.grw hp h2 g2)
  clear h2 g2 c5
  have c0 := cell_of Z0.out.1 0; have c1 := cell_of Z0.out.1 1; have c2 := cell_of Z0.out.1 2; have c3 := cell_of Z0.out.1 3; have c4 := cell_of Z0.out.1 4
  obtain ⟨z0, z1, z2, z3, z4, z5⟩ := five Z0.out.2
  go_wp2
  exact bodyPost_ret (ret_node3 Tryz.results120 rfl rfl rfl (set5_end Z0.out.2 _ _ _ _ _)) rfl ⟨rfl, HM.out.set5 (by have := HL.out.1; omega) hp (fun x hx e => by have := HL.out.2 x hx; omega) _ _ _ _ _, fun b hb hn => (set5_other _ _ _ _ _ _ _ _ _ (by omega)).trans (HF2.out b hb hn)⟩

end Go.Proofs.YtmcjghhmcmkomaaGreatDoor

/- the program's enter of a list or a map that is not empty: a level is laid behind all that is open, and of a map the first Key is read. -/
namespace Go.Proofs.YtmcjghhmcmkomaaGreatDoor
open Go Go.RowKit

/-- An append, at a step of a region that draws its order. -/
theorem stepA {P : Program} {w : World} {ops : Array Oper} {o : Oper} {a : Act} {K : Act → World → Prop} {Q : Exit → Act → World → Prop} {E : Prop} (hgd : o.guard = none) (s x : Operand) (t : TypeId) (ho : o.op = .call { callee := .builtin .append, args := #[s, x], argTypes := #[t, t] }) (v u : Value) (hs : a.eval s = v) (hx : a.eval x = u)
    {R : Value → World → Prop} (hr : ∃ v' w', (Builtin.append_ #[t, t] o.type #[v, u]).run P w = .ok v' w' ∧ R v' w') (h : ∀ v' w', R v' w' → K (a.put o.dst v') w') : if Region.wanted o (yielded ops a.tmps) = true then Oper.wp P o a w K Q else E := by
  have hw : Region.wanted o (yielded ops a.tmps) = true := by simp [Region.wanted, hgd]
  rw [if_pos hw]
  obtain ⟨v', w', hr, hR⟩ := hr
  unfold Oper.wp execOp
  simp only [ho, resolve, invoke, builtin, Sem.run_bind, Sem.run_pure, Result.andThen_ok, List.map_toArray, List.map_cons, List.map_nil, hs, hx, hr]
  exact h v' w' hR

/-- The block of a node is none of what is open. -/
theorem Mid.node_apart {w0 wr0 wr : World} {p : Nat} {s : ByteArray} {i : Nat} {ov : Value} {nd : Nat} {tw : Int} {ls : List Lv} {l : Lv} (h : Mid w0 wr0 wr p s i ov nd tw (ls ++ [l])) {b : Nat} {cs : Array Value} (hN : wr.heap[b]? = some (.cells cs 27 (0, 0))) (h1 : ∀ x ∈ ls.flatMap Lv.blocks, x ≠ b) (h2 : ∀ x ∈ l.blocks, x ≠ b) :
    ∀ x, (x ∈ (ls ++ [l]).flatMap Lv.blocks ∨ ov.ownBlock = some x) → x ≠ b := by
  rintro x (hx | hx) e
  · rw [List.flatMap_append, List.mem_append] at hx
    rcases hx with hx | hx
    · exact h1 x hx e
    · exact h2 x (by simpa using hx) e
  · obtain ⟨g, cap, cur, rfl, hg, -⟩ := h.stk.top
    simp [Value.ownBlock] at hx
    subst hx e
    rw [hN] at hg
    injection hg with hg
    injection hg with _ hg
    exact absurd hg (by decide)


set_option maxRecDepth 100000 in
set_option maxHeartbeats 4000000 in
theorem enterN4 {w0 wr : World} {p : Nat} {s : ByteArray} {i : Nat} {ov : Value} {nd : Nat} {tw : Int} {ls : List Lv} (hM : Mid w0 wr wr p s i ov nd tw ls) (hp : p < w0.heap.size) (hll : ls.length ≤ 1048575) (hb0 : blkB (nextB s i) = false) (hne0 : ¬ nextB s i = 93) (hi0 : i ≤ s.size) :
    Calls Tryz.prog 120 #[.pointer (some ⟨p, 0, none⟩), .agg #[.int .i64 4, .int .i64 0, .string ⟨#[]⟩, .slice none 0 0, .slice none 0 0, .int .u8 93, .string ⟨#[]⟩, .map none]] wr fun e w' => e = .returned (.tuple #[.agg #[.int .i64 0, .int .i64 0, .string ⟨#[]⟩, .slice none 0 0, .slice none 0 0], .bool false, .nilIface]) ∧ ∃ ov', Mid w0 wr w' p s i ov' nd tw (ls ++ [newLv 4 (.map none) []]) ∧ ∀ b, b < wr.heap.size → b ≠ p → some b ≠ ov.ownBlock → w'.heap[b]? = wr.heap[b]? := by
  have A1 := Lib.hid (fun (wx : World) (hx : Rd wx p s i ov nd tw) => rd_blanks_no p s i ov nd tw wx hi0 hb0 hx)
  have A2 := Lib.hid (fun (wx : World) (hx : Rd wx p s i ov nd tw) => rd_take_no p s i ov nd tw wx hi0 93 hne0 hx)
  have HP := Lib.hid (fun (wx : World) (hb : Below wr.heap.size wr wx) (xb : Nat) (hxb : wx.heap[xb]? = some (.cells #[.int .i64 4, .int .i64 0, .string ⟨#[]⟩, .slice none 0 0, .slice none 0 0, .int .u8 93, .string ⟨#[]⟩, .map none] 140 (0, 0))) (ty : TypeId) => hM.push hp hb hll (l := newLv 4 (.map none) []) (newLv_ok (.inl ⟨rfl, rfl, rfl⟩)) (by simpa [newLv, Lv.blocks] using hM.stk.apart) (fun g _ => by simp [newLv, Lv.blocks]) (fun u hu => by simp [newLv, Lv.cells] at hu; rcases hu with rfl | rfl | rfl | rfl | rfl | rfl | rfl <;> rfl) hxb ty)
  have HM := Lib.hid ((hM.old (.cells #[.int .i64 4, .int .i64 0, .string ⟨#[]⟩, .slice none 0 0, .slice none 0 0, .int .u8 93, .string ⟨#[]⟩, .map none] 140)).old (.cells #[.int .i64 0, .int .i64 0, .string ⟨#[]⟩, .slice none 0 0, .slice none 0 0] 27))
  have HBl : Hid (Below wr.heap.size wr ((wr.alloc (.cells #[.int .i64 4, .int .i64 0, .string ⟨#[]⟩, .slice none 0 0, .slice none 0 0, .int .u8 93, .string ⟨#[]⟩, .map none] 140)).alloc (.cells #[.int .i64 0, .int .i64 0, .string ⟨#[]⟩, .slice none 0 0, .slice none 0 0] 27))) := ((Below.refl _ wr).alloc (Nat.le_refl _) _).alloc (by simp) _
  have HL : Hid (w0.heap.size ≤ wr.heap.size ∧ ∀ x, (x ∈ ls.flatMap Lv.blocks ∨ ov.ownBlock = some x) → x < wr.heap.size) := ⟨hM.hs, fun x hx => (hM.stk.blocks hx).1⟩
  have Z0 := Lib.hid (zero_blocks2 wr (.cells #[.int .i64 4, .int .i64 0, .string ⟨#[]⟩, .slice none 0 0, .slice none 0 0, .int .u8 93, .string ⟨#[]⟩, .map none] 140) (.cells #[.int .i64 0, .int .i64 0, .string ⟨#[]⟩, .slice none 0 0, .slice none 0 0] 27))
  have hp2 : p < wr.heap.size := Nat.lt_of_lt_of_le hp hM.hs
  obtain ⟨oo, cc, hov⟩ : ∃ oo cc, ov = .slice oo ls.length cc := owns_shape hM.stk.row
  subst hov
  clear hM hb0 hne0 hi0
  go_enter Tryz.func120, Tryz.ntmps120
  go_wp2_with fail
  refine (A1.out _ HM.out.rd).mono ?_
  rintro e w1 ⟨⟨v1, rfl⟩, hb1⟩
  replace HM := Lib.hid (HM.out.below hb1)
  replace HBl := Lib.hid (HBl.out.trans (hb1.mono HBl.out.size))
  replace Z0 := Lib.hid (And.intro ((hb1.block _ (by simp; omega)).trans Z0.out.1) ((hb1.block _ (by simp)).trans Z0.out.2))
  clear hb1
  have c5 := cell_of Z0.out.1 5
  go_wp2_with fail
  refine (A2.out _ HM.out.rd).mono ?_
  rintro e w2 ⟨rfl, hb2⟩
  have hz2 : wr.heap.size + 1 < w1.heap.size := (Array.getElem?_eq_some_iff.1 Z0.out.2).1
  replace HM := Lib.hid (HM.out.below hb2)
  replace HBl := Lib.hid (HBl.out.trans (hb2.mono HBl.out.size))
  replace Z0 := Lib.hid (And.intro ((hb2.block _ (by omega)).trans Z0.out.1) ((hb2.block _ (by omega)).trans Z0.out.2))
  clear hb2 c5 hz2
  have c0 := cell_of Z0.out.1 0; have c1 := cell_of Z0.out.1 1; have c2 := cell_of Z0.out.1 2; have c3 := cell_of Z0.out.1 3; have c4 := cell_of Z0.out.1 4; have c5 := cell_of Z0.out.1 5; have c6 := cell_of Z0.out.1 6; have c7 := cell_of Z0.out.1 7
  obtain ⟨x0, x1, x2, x3, x4, x5⟩ := HM.out.rd.five
  go_wp2
  have HQ : Hid (∃ v' w', (Builtin.append_ #[80, 80] 80 #[.slice oo ls.length cc, .slice (some ⟨w2.heap.size, 0, none⟩) 1 1]).run Tryz.prog (w2.alloc (.cells #[.int .i64 4, .int .i64 0, .string ⟨#[]⟩, .slice none 0 0, .slice none 0 0, .int .u8 93, .string ⟨#[]⟩, .map none] 140)).drew = .ok v' w' ∧ ∃ g c, v' = .slice (some ⟨g, 0, none⟩) (ls.length + 1) c ∧ w'.heap[p]? = w2.heap[p]? ∧ w'.heap[wr.heap.size + 1]? = w2.heap[wr.heap.size + 1]? ∧ wr.heap.size ≤ w'.heap.size ∧ (∀ b, b < wr.heap.size → some b ≠ (Value.slice oo ls.length cc).ownBlock → w'.heap[b]? = wr.heap[b]?) ∧
      Mid w0 wr (w'.setCell ⟨p, 2, none⟩ (.slice (some ⟨g, 0, none⟩) (ls.length + 1) c)) p s i (.slice (some ⟨g, 0, none⟩) (ls.length + 1) c) nd tw (ls ++ [newLv 4 (.map none) []])) := by
    obtain ⟨g, c, w4, hap, hpw, hsz4, hgr4, hM4⟩ := HP.out (w2.alloc (.cells #[.int .i64 4, .int .i64 0, .string ⟨#[]⟩, .slice none 0 0, .slice none 0 0, .int .u8 93, .string ⟨#[]⟩, .map none] 140)).drew (blw_drewN ((HBl.out).trans (((Below.refl _ w2).alloc (Nat.le_refl _) _).mono HBl.out.size)) 1) w2.heap.size (heap_last w2 _) 80
    have hz2 : wr.heap.size + 1 < w2.heap.size := (Array.getElem?_eq_some_iff.1 Z0.out.2).1
    refine ⟨_, w4, hap, g, c, rfl, hpw.trans (HBl.out.block p hp2).symm, ?_, hsz4, fun b hb hn => (hgr4.block b (by show _ < (w2.alloc _).heap.size; simp; omega) hn).trans ((Below.heap_alloc _ _ _ (by omega)).trans (HBl.out.block b hb)), hM4⟩
    rw [hgr4.block (wr.heap.size + 1) (by show _ < (w2.alloc _).heap.size; simp; omega) (fun e => by have := HL.out.2 _ (.inr e.symm); omega)]
    exact Below.heap_alloc _ _ _ (by omega)
  have e2 : (w2.alloc (.cells #[.int .i64 4, .int .i64 0, .string ⟨#[]⟩, .slice none 0 0, .slice none 0 0, .int .u8 93, .string ⟨#[]⟩, .map none] 140)).cell? ⟨p, 2, none⟩ = some (.slice oo ls.length cc) := by
    rw [World.cell?_alloc_lt _ _ _ HM.out.rd.lt]; exact x2
  go_region_law (first
    | (refine stepA (by rfl) _ _ 80 (by rfl) (.slice oo ls.length cc) (.slice (some ⟨w2.heap.size, 0, none⟩) 1 1) (by rfl) (by rfl) HQ.out ?_
       rintro v4 w4 ⟨g, c, rfl, hpw, hzw, hsz4, hfw, hM4⟩
       have hrd4 := HM.out.rd.same (w1 := w4) hpw
       obtain ⟨y0, y1, y2, y3, y4, y5⟩ := hrd4.five
       have HM4 := Lib.hid hM4
       have ZN := Lib.hid ((Below.heap_setCell w4 ⟨p, 2, none⟩ (.slice (some ⟨g, 0, none⟩) (ls.length + 1) c) (wr.heap.size + 1) (by show wr.heap.size + 1 ≠ p; omega)).trans (hzw.trans Z0.out.2))
       have HF6 := Lib.hid (fun (b : Nat) (hb : b < wr.heap.size) (hn : b ≠ p) (hq : some b ≠ (Value.slice oo ls.length cc).ownBlock) => (Below.heap_setCell w4 ⟨p, 2, none⟩ (.slice (some ⟨g, 0, none⟩) (ls.length + 1) c) b (by show b ≠ p; exact hn)).trans (hfw b hb hq))
       clear hM4 hrd4 hpw hzw hsz4 hfw)
    | fail)
  all_goals
    clear HQ e2 x0 x1 x2 x3 x4 x5 y0 y1 y2 y3 y4 y5 c0 c1 c2 c3 c4 c5 c6 c7
    generalize w4.setCell ⟨p, 2, none⟩ (.slice (some ⟨g, 0, none⟩) (ls.length + 1) c) = w6 at *
    go_wp2_with fail
    refine (ahead4 HM4.out.rd HM4.out.stk rfl).mono ?_
    rintro e w5 ⟨rfl, q5, rfl⟩
    have HM5 := Lib.hid (HM4.out.below (blw_drewN (Below.refl _ _) q5))
    have ZN5 : Hid ((w6.drewN q5).heap[wr.heap.size + 1]? = some (.cells #[.int .i64 0, .int .i64 0, .string ⟨#[]⟩, .slice none 0 0, .slice none 0 0] 27 (0, 0))) := ZN.out
    obtain ⟨z0, z1, z2, z3, z4, z5⟩ := five ZN5.out
    go_wp2
    exact bodyPost_ret (ret_node3 Tryz.results120 rfl rfl rfl (set5_end ZN5.out _ _ _ _ _)) rfl ⟨rfl, _, HM5.out.set5 (by have := HL.out.1; omega) hp (HM5.out.node_apart ZN5.out (fun x hx e => by have := HL.out.2 x (.inl hx); omega) (fun x hx => by simp [newLv, Lv.blocks] at hx)) _ _ _ _ _, fun b hb hn hq => (set5_other _ _ _ _ _ _ _ _ _ (by omega)).trans (HF6.out b hb hn hq)⟩


set_option maxRecDepth 100000 in
set_option maxHeartbeats 4000000 in
theorem enterN5 {w0 wr : World} {p : Nat} {s : ByteArray} (hs : s.size ≤ 1000000000) {i : Nat} {ov : Value} {nd : Nat} {tw : Int} {ls : List Lv} (hM : Mid w0 wr wr p s i ov nd tw ls) (hp : p < w0.heap.size) (hll : ls.length ≤ 1048575) (mb : Nat) (hsn : Seen wr mb []) (hmb : w0.heap.size ≤ mb) (hmn : ∀ x, (x ∈ ls.flatMap Lv.blocks ∨ ov.ownBlock = some x) → x ≠ mb) (key : ByteArray) (hok : textOk key = true) (R : List UInt8) (ht : s.data.toList.drop i = (quoteT key).data.toList ++ 58 :: R) :
    Calls Tryz.prog 120 #[.pointer (some ⟨p, 0, none⟩), .agg #[.int .i64 5, .int .i64 0, .string ⟨#[]⟩, .slice none 0 0, .slice none 0 0, .int .u8 125, .string ⟨#[]⟩, .map (some mb)]] wr fun e w' => e = .returned (.tuple #[.agg #[.int .i64 0, .int .i64 0, .string ⟨#[]⟩, .slice none 0 0, .slice none 0 0], .bool false, .nilIface]) ∧ ∃ ov', Mid w0 wr w' p s (i + (quoteT key).data.toList.length + 1) ov' nd tw (ls ++ [{ newLv 5 (.map (some mb)) [mb] with key := key, ks := [key] }]) ∧ ∀ b cs, b < wr.heap.size → b ≠ p → some b ≠ ov.ownBlock → b ∉ ls.flatMap Lv.blocks → b ≠ mb → wr.heap[b]? = some (.cells cs 27 (0, 0)) → w'.heap[b]? = wr.heap[b]? := by
  have hq : (quoteT key).data.toList = quoteL key.data.toList := by unfold quoteT; rw [if_pos hok]
  have ht' : s.data.toList.drop i = 34 :: (escAll key.data.toList ++ 34 :: (58 :: R)) := by rw [ht, hq]; simp [quoteL]
  obtain ⟨n1, n2, -⟩ := nextB_drop ht'
  have hb0 : blkB (nextB s i) = false := by rw [n1]; decide
  have hne0 : ¬ nextB s i = 125 := by rw [n1]; decide
  have hi0 : i ≤ s.size := Nat.le_of_lt n2
  have A1 := Lib.hid (fun (wx : World) (hx : Rd wx p s i ov nd tw) => rd_blanks_no p s i ov nd tw wx hi0 hb0 hx)
  have A2 := Lib.hid (fun (wx : World) (hx : Rd wx p s i ov nd tw) => rd_take_no p s i ov nd tw wx hi0 125 hne0 hx)
  have HP := Lib.hid (fun (wx : World) (hb : Below wr.heap.size wr wx) (xb : Nat) (hxb : wx.heap[xb]? = some (.cells #[.int .i64 5, .int .i64 0, .string ⟨#[]⟩, .slice none 0 0, .slice none 0 0, .int .u8 125, .string ⟨#[]⟩, .map (some mb)] 140 (0, 0))) (ty : TypeId) => hM.push hp hb hll (l := newLv 5 (.map (some mb)) [mb]) (newLv_ok (.inr ⟨rfl, mb, rfl, rfl, hsn, hmb⟩)) (by rw [List.nodup_append]; refine ⟨hM.stk.apart, by simp [newLv, Lv.blocks], fun a ha b hb e => ?_⟩; simp [newLv, Lv.blocks] at hb; subst hb; exact hmn a (.inl ha) e) (fun g hg hin => by simp [newLv, Lv.blocks] at hin; exact hmn g (.inr hg) hin) (fun u hu => by simp [newLv, Lv.cells] at hu; rcases hu with rfl | rfl | rfl | rfl | rfl | rfl | rfl <;> rfl) hxb ty)
  have HM := Lib.hid ((hM.old (.cells #[.int .i64 5, .int .i64 0, .string ⟨#[]⟩, .slice none 0 0, .slice none 0 0, .int .u8 125, .string ⟨#[]⟩, .map (some mb)] 140)).old (.cells #[.int .i64 0, .int .i64 0, .string ⟨#[]⟩, .slice none 0 0, .slice none 0 0] 27))
  have HBl : Hid (Below wr.heap.size wr ((wr.alloc (.cells #[.int .i64 5, .int .i64 0, .string ⟨#[]⟩, .slice none 0 0, .slice none 0 0, .int .u8 125, .string ⟨#[]⟩, .map (some mb)] 140)).alloc (.cells #[.int .i64 0, .int .i64 0, .string ⟨#[]⟩, .slice none 0 0, .slice none 0 0] 27))) := ((Below.refl _ wr).alloc (Nat.le_refl _) _).alloc (by simp) _
  have HL : Hid (w0.heap.size ≤ wr.heap.size ∧ ∀ x, (x ∈ ls.flatMap Lv.blocks ∨ ov.ownBlock = some x) → x < wr.heap.size) := ⟨hM.hs, fun x hx => (hM.stk.blocks hx).1⟩
  have Z0 := Lib.hid (zero_blocks2 wr (.cells #[.int .i64 5, .int .i64 0, .string ⟨#[]⟩, .slice none 0 0, .slice none 0 0, .int .u8 125, .string ⟨#[]⟩, .map (some mb)] 140) (.cells #[.int .i64 0, .int .i64 0, .string ⟨#[]⟩, .slice none 0 0, .slice none 0 0] 27))
  have hp2 : p < wr.heap.size := Nat.lt_of_lt_of_le hp hM.hs
  obtain ⟨oo, cc, hov⟩ : ∃ oo cc, ov = .slice oo ls.length cc := owns_shape hM.stk.row
  subst hov
  clear hM hb0 hne0 hi0
  go_enter Tryz.func120, Tryz.ntmps120
  go_wp2_with fail
  refine (A1.out _ HM.out.rd).mono ?_
  rintro e w1 ⟨⟨v1, rfl⟩, hb1⟩
  replace HM := Lib.hid (HM.out.below hb1)
  replace HBl := Lib.hid (HBl.out.trans (hb1.mono HBl.out.size))
  replace Z0 := Lib.hid (And.intro ((hb1.block _ (by simp; omega)).trans Z0.out.1) ((hb1.block _ (by simp)).trans Z0.out.2))
  clear hb1
  have c5 := cell_of Z0.out.1 5
  go_wp2_with fail
  refine (A2.out _ HM.out.rd).mono ?_
  rintro e w2 ⟨rfl, hb2⟩
  have hz2 : wr.heap.size + 1 < w1.heap.size := (Array.getElem?_eq_some_iff.1 Z0.out.2).1
  replace HM := Lib.hid (HM.out.below hb2)
  replace HBl := Lib.hid (HBl.out.trans (hb2.mono HBl.out.size))
  replace Z0 := Lib.hid (And.intro ((hb2.block _ (by omega)).trans Z0.out.1) ((hb2.block _ (by omega)).trans Z0.out.2))
  clear hb2 c5 hz2
  have c0 := cell_of Z0.out.1 0; have c1 := cell_of Z0.out.1 1; have c2 := cell_of Z0.out.1 2; have c3 := cell_of Z0.out.1 3; have c4 := cell_of Z0.out.1 4; have c5 := cell_of Z0.out.1 5; have c6 := cell_of Z0.out.1 6; have c7 := cell_of Z0.out.1 7
  obtain ⟨x0, x1, x2, x3, x4, x5⟩ := HM.out.rd.five
  go_wp2
  have HQ : Hid (∃ v' w', (Builtin.append_ #[80, 80] 80 #[.slice oo ls.length cc, .slice (some ⟨w2.heap.size, 0, none⟩) 1 1]).run Tryz.prog (w2.alloc (.cells #[.int .i64 5, .int .i64 0, .string ⟨#[]⟩, .slice none 0 0, .slice none 0 0, .int .u8 125, .string ⟨#[]⟩, .map (some mb)] 140)).drew = .ok v' w' ∧ ∃ g c, v' = .slice (some ⟨g, 0, none⟩) (ls.length + 1) c ∧ w'.heap[p]? = w2.heap[p]? ∧ w'.heap[wr.heap.size + 1]? = w2.heap[wr.heap.size + 1]? ∧ wr.heap.size ≤ w'.heap.size ∧ (∀ b, b < wr.heap.size → some b ≠ (Value.slice oo ls.length cc).ownBlock → w'.heap[b]? = wr.heap[b]?) ∧
      Mid w0 wr (w'.setCell ⟨p, 2, none⟩ (.slice (some ⟨g, 0, none⟩) (ls.length + 1) c)) p s i (.slice (some ⟨g, 0, none⟩) (ls.length + 1) c) nd tw (ls ++ [newLv 5 (.map (some mb)) [mb]])) := by
    obtain ⟨g, c, w4, hap, hpw, hsz4, hgr4, hM4⟩ := HP.out (w2.alloc (.cells #[.int .i64 5, .int .i64 0, .string ⟨#[]⟩, .slice none 0 0, .slice none 0 0, .int .u8 125, .string ⟨#[]⟩, .map (some mb)] 140)).drew (blw_drewN ((HBl.out).trans (((Below.refl _ w2).alloc (Nat.le_refl _) _).mono HBl.out.size)) 1) w2.heap.size (heap_last w2 _) 80
    have hz2 : wr.heap.size + 1 < w2.heap.size := (Array.getElem?_eq_some_iff.1 Z0.out.2).1
    refine ⟨_, w4, hap, g, c, rfl, hpw.trans (HBl.out.block p hp2).symm, ?_, hsz4, fun b hb hn => (hgr4.block b (by show _ < (w2.alloc _).heap.size; simp; omega) hn).trans ((Below.heap_alloc _ _ _ (by omega)).trans (HBl.out.block b hb)), hM4⟩
    rw [hgr4.block (wr.heap.size + 1) (by show _ < (w2.alloc _).heap.size; simp; omega) (fun e => by have := HL.out.2 _ (.inr e.symm); omega)]
    exact Below.heap_alloc _ _ _ (by omega)
  have e2 : (w2.alloc (.cells #[.int .i64 5, .int .i64 0, .string ⟨#[]⟩, .slice none 0 0, .slice none 0 0, .int .u8 125, .string ⟨#[]⟩, .map (some mb)] 140)).cell? ⟨p, 2, none⟩ = some (.slice oo ls.length cc) := by
    rw [World.cell?_alloc_lt _ _ _ HM.out.rd.lt]; exact x2
  go_region_law (first
    | (refine stepA (by rfl) _ _ 80 (by rfl) (.slice oo ls.length cc) (.slice (some ⟨w2.heap.size, 0, none⟩) 1 1) (by rfl) (by rfl) HQ.out ?_
       rintro v4 w4 ⟨g, c, rfl, hpw, hzw, hsz4, hfw, hM4⟩
       have hrd4 := HM.out.rd.same (w1 := w4) hpw
       obtain ⟨y0, y1, y2, y3, y4, y5⟩ := hrd4.five
       have HM4 := Lib.hid hM4
       have ZN := Lib.hid ((Below.heap_setCell w4 ⟨p, 2, none⟩ (.slice (some ⟨g, 0, none⟩) (ls.length + 1) c) (wr.heap.size + 1) (by show wr.heap.size + 1 ≠ p; omega)).trans (hzw.trans Z0.out.2))
       have HF6 := Lib.hid (fun (b : Nat) (hb : b < wr.heap.size) (hn : b ≠ p) (hq : some b ≠ (Value.slice oo ls.length cc).ownBlock) => (Below.heap_setCell w4 ⟨p, 2, none⟩ (.slice (some ⟨g, 0, none⟩) (ls.length + 1) c) b (by show b ≠ p; exact hn)).trans (hfw b hb hq))
       clear hM4 hrd4 hpw hzw hsz4 hfw)
    | fail)
  all_goals
    clear HQ e2 x0 x1 x2 x3 x4 x5 y0 y1 y2 y3 y4 y5 c0 c1 c2 c3 c4 c5 c6 c7
    generalize w4.setCell ⟨p, 2, none⟩ (.slice (some ⟨g, 0, none⟩) (ls.length + 1) c) = w6 at *
    go_wp2_with fail
    have hm7 : Mid w0 w6 w6 p s i (.slice (some ⟨g, 0, none⟩) (ls.length + 1) c) nd tw (ls ++ [newLv 5 (.map (some mb)) [mb]]) := ⟨HM4.out.rd, HM4.out.stk, Kp.refl _ _ _, HM4.out.hs⟩
    refine (ahead5 hs hm7 hp rfl key hok (by simp [newLv]) R ht).mono ?_
    rintro e w5 ⟨rfl, hm5, hf5⟩
    have HM5 : Hid (Mid w0 wr w5 p s (i + (quoteT key).data.toList.length + 1) (.slice (some ⟨g, 0, none⟩) (ls.length + 1) c) nd tw (ls ++ [{ newLv 5 (.map (some mb)) [mb] with key := key, ks := [key] }])) := ⟨hm5.rd, hm5.stk, HM4.out.kp.trans hm5.kp, hm5.hs⟩
    have ZN5 : Hid (w5.heap[wr.heap.size + 1]? = some (.cells #[.int .i64 0, .int .i64 0, .string ⟨#[]⟩, .slice none 0 0, .slice none 0 0] 27 (0, 0))) := by
      show _ = _
      rw [hf5 (wr.heap.size + 1) (Array.getElem?_eq_some_iff.1 ZN.out).1 (by omega) (fun e => (HM4.out.node_apart ZN.out (fun x hx e => by have := HL.out.2 x (.inl hx); omega) (fun x hx e => by simp [newLv, Lv.blocks] at hx; have := hsn.lt; omega)) _ (.inr e) rfl) (fun hin => by simp [newLv] at hin; have := hsn.lt; omega)]
      exact ZN.out
    have HF7 : Hid (∀ (b : Nat) (cs : Array Value), b < wr.heap.size → b ≠ p → some b ≠ (Value.slice oo ls.length cc).ownBlock → b ∉ ls.flatMap Lv.blocks → b ≠ mb → wr.heap[b]? = some (.cells cs 27 (0, 0)) → w5.heap[b]? = wr.heap[b]?) := fun b cs hb hn hq hbl hmb' hc => by
      have h6 := HF6.out b hb hn hq
      have hz := (Array.getElem?_eq_some_iff.1 ZN.out).1
      exact (hf5 b (by omega) hn (fun e => (HM4.out.node_apart (h6.trans hc) (fun x hx e => hbl (e ▸ hx)) (fun x hx e => by simp [newLv, Lv.blocks] at hx; omega)) _ (.inr e) rfl) (fun hin => by simp [newLv] at hin; omega)).trans h6
    clear hm5 hm7 hf5
    obtain ⟨z0, z1, z2, z3, z4, z5⟩ := five ZN5.out
    go_wp2
    exact bodyPost_ret (ret_node3 Tryz.results120 rfl rfl rfl (set5_end ZN5.out _ _ _ _ _)) rfl ⟨rfl, _, HM5.out.set5 (by have := HL.out.1; omega) hp (HM5.out.node_apart ZN5.out (fun x hx e => by have := HL.out.2 x (.inl hx); omega) (fun x hx e => by simp [newLv, Lv.blocks] at hx; have := hsn.lt; omega)) _ _ _ _ _, fun b cs hb hn hq hbl hmb' hc => (set5_other _ _ _ _ _ _ _ _ _ (by omega)).trans (HF7.out b cs hb hn hq hbl hmb' hc)⟩

end Go.Proofs.YtmcjghhmcmkomaaGreatDoor
