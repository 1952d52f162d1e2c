/-
  What is proved: the program goes on behind a Kid: it is put where it belongs, and the next one, or the end of what it is in, is read.
-/
import Derived.Test.YtmcjghhmcmkomaaGreatDoorRdH
namespace Go.Proofs.YtmcjghhmcmkomaaGreatDoor
open Go Go.RowKit

theorem Hand.stay {w0 wr w1 : World} {ov : Value} {ls : List Lv} {X : RT} {kx dx : Value} {FX : List Nat} (h : Hand w0 wr ov ls X kx dx FX) (hb : Below wr.heap.size wr w1) : Hand w0 w1 ov ls X kx dx FX :=
  ⟨h.lies.stay hb (Nat.le_refl _), h.fresh.carry fun b hx => hb.block b (h.lies.lt b hx), h.apart, h.mine⟩

/-- One level less: what it was is a tree in hand. -/
theorem Mid.pop {w0 wr0 wr : World} {p : Nat} {s : ByteArray} {i : Nat} {nd : Nat} {tw : Int} {ls : List Lv} {l : Lv} {g cap : Nat} (h : Mid w0 wr0 wr p s i (.slice (some ⟨g, 0, none⟩) (ls.length + 1) cap) nd tw (ls ++ [l])) (hp : p < w0.heap.size) (hk : Fit l.k) :
    Mid w0 wr0 (wr.setCell ⟨p, 2, none⟩ (.slice (some ⟨g, 0, none⟩) ls.length cap)) p s i (.slice (some ⟨g, 0, none⟩) ls.length cap) nd tw ls ∧ Hand w0 (wr.setCell ⟨p, 2, none⟩ (.slice (some ⟨g, 0, none⟩) ls.length cap)) (.slice (some ⟨g, 0, none⟩) ls.length cap) ls (.node l.k 0 ⟨#[]⟩ l.dk l.dd) l.kv l.dv (l.FK ++ l.FD) := by
  obtain ⟨cur, k2, k3, k4, k5, ktop, kpre, k6, k7, k8, k9, hl, a1, a2, a3⟩ := h.parts
  have hgr := grw_set wr p 2 (.slice (some ⟨g, 0, none⟩) ls.length cap)
  have hpop := h.stk.pop
  have hin : ∀ x ∈ l.FK ++ l.FD, x ∈ l.blocks := fun x hx => by
    rcases List.mem_append.1 hx with hx | hx
    · exact List.mem_append_left _ hx
    · exact List.mem_append_right _ (List.mem_append_left _ hx)
  have keep : ∀ x ∈ l.FK ++ l.FD, (wr.setCell ⟨p, 2, none⟩ (.slice (some ⟨g, 0, none⟩) ls.length cap)).heap[x]? = wr.heap[x]? := fun x hx => Below.heap_setCell _ _ _ _ (by show x ≠ p; have := hl.old x (hin x hx); omega)
  have a2' : (l.FK ++ (l.FD ++ l.FM)).Nodup := a2
  rw [← List.append_assoc] at a2'
  refine ⟨⟨h.rd.opn _, hpop.next hgr hp, h.kp.trans (Kp.of_grw hgr h.hs (.inl rfl)), by simpa [World.setCell] using h.hs⟩, ⟨?_, ⟨(List.nodup_append.1 a2').1, fun x hx => hl.old x (hin x hx), fun x hx o => ?_⟩, fun x hx hy => a3 x hy (hin x hx), fun x hx e => ?_⟩⟩
  · exact (Lies.into hk ⟨by decide, by decide⟩ (by show (0 : Nat) ≤ _; exact Nat.zero_le _) hl.keys hl.kids).carry keep
  · rw [World.frozen?_of_block (w := wr) (keep x hx)]
    rcases List.mem_append.1 hx with hx | hx
    · exact hl.fk.free x hx o
    · exact hl.fd.free x hx o
  · simp [Value.ownBlock] at e
    subst e
    exact k9 (hin _ hx)

theorem Hand.set5 {w0 wr : World} {ov : Value} {ls : List Lv} {X : RT} {kx dx : Value} {FX : List Nat} (h : Hand w0 wr ov ls X kx dx FX) {b : Nat} (hb : ∀ x ∈ FX, x ≠ b) (v0 v1 v2 v3 v4 : Value) : Hand w0 (set5 wr b 0 v0 v1 v2 v3 v4) ov ls X kx dx FX :=
  ⟨h.lies.carry fun x hx => set5_other _ _ _ _ _ _ _ _ _ (hb x hx), h.fresh.carry fun x hx => set5_other _ _ _ _ _ _ _ _ _ (hb x hx), h.apart, h.mine⟩


set_option maxRecDepth 100000 in
set_option maxHeartbeats 4000000 in
theorem goC4 {w0 wr : World} {p : Nat} {s : ByteArray} (hs : s.size ≤ 1000000000) {i : Nat} {nd : Nat} {tw : Int} {ls : List Lv} {l : Lv} {g cap : Nat} (hM : Mid w0 wr wr p s i (.slice (some ⟨g, 0, none⟩) (ls.length + 1) cap) nd tw (ls ++ [l])) (hp : p < w0.heap.size) (hk : l.k = 4) (hlen : l.dd.length ≤ 1048576) (hnd : nd ≤ 200)
    {X : RT} {kx dx : Value} {FX : List Nat} (hX : Hand w0 wr (.slice (some ⟨g, 0, none⟩) (ls.length + 1) cap) (ls ++ [l]) X kx dx FX)  (R : List UInt8) (ht : s.data.toList.drop i = 44 :: R) :
    Calls Tryz.prog 97 #[.pointer (some ⟨p, 0, none⟩), .agg #[.int .i64 X.k, .int .i64 X.n, .string X.s, kx, dx]] wr fun e w' => e = .returned (.tuple #[.agg #[.int .i64 0, .int .i64 0, .string ⟨#[]⟩, .slice none 0 0, .slice none 0 0], .bool false, .nilIface]) ∧ (∀ b, b < wr.heap.size → b ≠ p → b ≠ g → b ∉ l.blocks → w'.heap[b]? = wr.heap[b]?) ∧ ∃ v' F, Mid w0 wr w' p s (i + 1) (.slice (some ⟨g, 0, none⟩) (ls.length + 1) cap) nd tw (ls ++ [{ l with dd := l.dd ++ [X], dv := v', FD := F }]) ∧ ∀ y ∈ F, y ∈ l.blocks ∨ y ∈ FX ∨ wr.heap.size ≤ y := by
  have hs' : s.size ≤ maxLen := by unfold maxLen; omega
  obtain ⟨n1, n2, -⟩ := nextB_drop ht
  have A1 := Lib.hid (fun (wx : World) (hx : Rd wx p s i (.slice (some ⟨g, 0, none⟩) (ls.length + 1) cap) nd tw) => rd_blanks_no p s i _ nd tw wx (Nat.le_of_lt n2) (by rw [n1]; decide) hx)
  have A2 := Lib.hid (fun (wx : World) (hx : Rd wx p s i (.slice (some ⟨g, 0, none⟩) (ls.length + 1) cap) nd tw) => rd_take_yes p s i _ nd tw wx hs' n2 44 n1 hx)
  obtain ⟨⟨o1, q1, rfl⟩, ⟨o2, q2, rfl⟩⟩ := hX.lies.slices
  obtain ⟨cur, k2, k3, k4, -⟩ := hM.parts
  have HP : Hid (∀ wx, Below wr.heap.size wr wx → Calls Tryz.prog 116 #[.pointer (some ⟨g, ls.length * 8, none⟩), .agg #[.int .i64 X.k, .int .i64 X.n, .string X.s, .slice o1 X.keys.length q1, .slice o2 X.kids.length q2]] wx fun e w' => (∃ v, e = .returned v) ∧ ∃ v' F, Mid w0 wr w' p s i (.slice (some ⟨g, 0, none⟩) (ls.length + 1) cap) nd tw (ls ++ [{ l with dd := l.dd ++ [X], dv := v', FD := F }]) ∧ But (g :: l.FD) wx w' ∧ ∀ y ∈ F, y ∈ l.blocks ∨ y ∈ FX ∨ wx.heap.size ≤ y) := fun wx hb => by
    have hM := hM.below hb
    have hX := hX.stay hb
    exact hM.put4 hp hk hlen hX
  have HBl : Hid (Below wr.heap.size wr ((wr.alloc (.cells #[.int .i64 X.k, .int .i64 X.n, .string X.s, .slice o1 X.keys.length q1, .slice o2 X.kids.length q2] 27)).alloc (.cells #[.int .i64 0, .int .i64 0, .string ⟨#[]⟩, .slice none 0 0, .slice none 0 0] 27))) := ((Below.refl _ wr).alloc (Nat.le_refl _) _).alloc (by simp) _
  have HL : Hid (w0.heap.size ≤ wr.heap.size ∧ g < wr.heap.size ∧ (∀ x ∈ l.blocks, x < wr.heap.size) ∧ ∀ x ∈ ls.flatMap Lv.blocks, x < wr.heap.size) := by
    obtain ⟨_, _, _, _, _, _, _, a, _, _, _, hl, _⟩ := hM.parts
    exact ⟨hM.hs, a, hl.lt, fun x hx => (hM.stk.blocks (.inl (by rw [List.flatMap_append]; exact List.mem_append_left _ hx))).1⟩
  have Z0 := Lib.hid (zero_blocks2 wr (.cells #[.int .i64 X.k, .int .i64 X.n, .string X.s, .slice o1 X.keys.length q1, .slice o2 X.kids.length q2] 27) (.cells #[.int .i64 0, .int .i64 0, .string ⟨#[]⟩, .slice none 0 0, .slice none 0 0] 27))
  have hp2 : p < wr.heap.size := Nat.lt_of_lt_of_le hp hM.hs
  obtain ⟨x0, x1, x2, x3, x4, x5⟩ := (hM.below HBl.out).rd.five
  obtain ⟨b0, b1, b2, b3, b4, -⟩ := five Z0.out.1
  unfold maxLen at k4
  have hnd' : (nd : Int) ≤ 200 := by omega
  have HK := Lib.hid hk
  have HFX := Lib.hid hX.lies.lt
  clear hM hX ht n1 n2 k2 hk
  go_enter Tryz.func97, Tryz.ntmps97
  generalize hln : ls.length = n at *
  have g0 : (0 : Int) ≤ (n : Int) := by omega
  have g1 : (n : Int) < (n : Int) + 1 := by omega
  have g2 : ¬ (n : Int) < 0 := by omega
  have g3 : IntKind.i64.wrap (n : Int) = n := by rw [IntKind.wrap_i64]; omega
  go_wp2
  go_quiet (fail)
  replace HBl := Lib.hid (blw_drewN HBl.out nq)
  go_wp2_with fail
  refine (HP.out _ HBl.out).mono ?_
  rintro e w2 ⟨⟨v2, rfl⟩, v', F, hM2, hbut, hnewb⟩
  have HNB : Hid (∀ y ∈ F, y ≠ wr.heap.size + 1) := fun y hy e => by
    have hl := HL.out
    have hx := HFX.out
    rcases hnewb y hy with h | h | h
    · have := hl.2.2.1 y h; omega
    · have := hx y h; omega
    · have : wr.heap.size + 2 ≤ y := by have h : ((wr.alloc _).alloc _).heap.size ≤ y := h; simpa using h
      omega
  have HNP : Hid (∀ y ∈ F, y ∈ l.blocks ∨ y ∈ FX ∨ wr.heap.size ≤ y) := fun y hy => by
    rcases hnewb y hy with h | h | h
    · exact .inl h
    · exact .inr (.inl h)
    · have : wr.heap.size + 2 ≤ y := by have h : ((wr.alloc _).alloc _).heap.size ≤ y := h; simpa using h
      exact .inr (.inr (by omega))
  clear hnewb
  have ZN : Hid (w2.heap[wr.heap.size + 1]? = some (.cells #[.int .i64 0, .int .i64 0, .string ⟨#[]⟩, .slice none 0 0, .slice none 0 0] 27 (0, 0))) := by
    show _ = _
    have hl := HL.out
    rw [hbut.block (wr.heap.size + 1) (by show _ < ((wr.alloc _).alloc _).heap.size; simp) (fun hin => by
      rcases List.mem_cons.1 hin with e | e
      · omega
      · have := hl.2.2.1 (wr.heap.size + 1) (List.mem_append_right _ (List.mem_append_left _ e)); omega)]
    exact Z0.out.2
  have HF : Hid (∀ b, b < wr.heap.size → b ≠ p → b ≠ g → b ∉ l.blocks → w2.heap[b]? = wr.heap[b]?) := fun b f1 f2 f3 f4 => (hbut.block b (by show _ < ((wr.alloc _).alloc _).heap.size; simp; omega) (fun hin => by
    rcases List.mem_cons.1 hin with e | e
    · exact f3 e
    · exact f4 (List.mem_append_right _ (List.mem_append_left _ e)))).trans (HBl.out.block b f1)
  have HM2 := Lib.hid hM2
  clear hM2 hbut x0 x1 x2 x3 x4 x5 b0 b1 b2 b3 b4
  go_wp2_with fail
  refine (A1.out _ HM2.out.rd).mono ?_
  rintro e w3 ⟨⟨v3, rfl⟩, hb3⟩
  replace HF : Hid (∀ b, b < wr.heap.size → b ≠ p → b ≠ g → b ∉ l.blocks → w3.heap[b]? = wr.heap[b]?) := fun b f1 f2 f3 f4 => (hb3.block b (by have := (Array.getElem?_eq_some_iff.1 ZN.out).1; omega)).trans (HF.out b f1 f2 f3 f4)
  replace ZN := Lib.hid ((hb3.block _ (Array.getElem?_eq_some_iff.1 ZN.out).1).trans ZN.out)
  replace HM2 := Lib.hid (HM2.out.below hb3)
  clear hb3
  go_wp2_with fail
  refine (A2.out _ HM2.out.rd).mono ?_
  rintro e w4 ⟨rfl, h4, hg4⟩
  replace HF : Hid (∀ b, b < wr.heap.size → b ≠ p → b ≠ g → b ∉ l.blocks → w4.heap[b]? = wr.heap[b]?) := fun b f1 f2 f3 f4 => (hg4.block b (by have := (Array.getElem?_eq_some_iff.1 ZN.out).1; omega) (fun e => f2 (Option.some.inj e))).trans (HF.out b f1 f2 f3 f4)
  replace ZN := Lib.hid (grw_block ZN.out (by omega) hg4)
  replace HM2 := Lib.hid (HM2.out.grw hp h4 hg4)
  clear h4 hg4
  go_wp2_with fail
  have hM4 := HM2.out
  rw [← hln] at hM4
  refine (ahead4 hM4.rd hM4.stk HK.out).mono ?_
  rintro e w5 ⟨rfl, q5, rfl⟩
  have HM5 := Lib.hid (hM4.below (blw_drewN (Below.refl _ _) q5))
  have ZN5 : Hid ((w4.drewN q5).heap[wr.heap.size + 1]? = some (.cells #[.int .i64 0, .int .i64 0, .string ⟨#[]⟩, .slice none 0 0, .slice none 0 0] 27 (0, 0))) := ZN.out
  clear hM4
  obtain ⟨z0, z1, z2, z3, z4, z5⟩ := five ZN5.out
  go_wp2
  rw [hln] at HM5
  exact bodyPost_ret (ret_node3 Tryz.results97 rfl rfl rfl (set5_end ZN5.out _ _ _ _ _)) rfl ⟨rfl, fun b f1 f2 f3 f4 => (set5_other _ _ _ _ _ _ _ _ _ (by omega)).trans (HF.out b f1 f2 f3 f4), _, _, HM5.out.set5 (by have := HL.out.1; omega) hp (HM5.out.node_apart ZN5.out (fun x hx e => by have := HL.out.2.2.2 x hx; omega) (fun x hx e => by
    have hx : x ∈ l.FK ++ (F ++ l.FM) := hx
    have hl := HL.out
    rcases List.mem_append.1 hx with hx | hx
    · have := hl.2.2.1 x (List.mem_append_left _ hx); omega
    · rcases List.mem_append.1 hx with hx | hx
      · exact HNB.out x hx e
      · have := hl.2.2.1 x (List.mem_append_right _ (List.mem_append_right _ hx)); omega)) _ _ _ _ _, HNP.out⟩


set_option maxRecDepth 100000 in
set_option maxHeartbeats 4000000 in
theorem goC5 {w0 wr : World} {p : Nat} {s : ByteArray} (hs : s.size ≤ 1000000000) {i : Nat} {nd : Nat} {tw : Int} {ls : List Lv} {l : Lv} {g cap : Nat} (hM : Mid w0 wr wr p s i (.slice (some ⟨g, 0, none⟩) (ls.length + 1) cap) nd tw (ls ++ [l])) (hp : p < w0.heap.size) (hk : l.k = 5) (hlen : l.dd.length ≤ 1048576) (hnd : nd ≤ 200) {rk : List ByteArray} (hkeys : keysOk (l.dk ++ l.key :: rk) = true)
    {X : RT} {kx dx : Value} {FX : List Nat} (hX : Hand w0 wr (.slice (some ⟨g, 0, none⟩) (ls.length + 1) cap) (ls ++ [l]) X kx dx FX)  (key' : ByteArray) (hok : textOk key' = true) (hn' : key' ∉ l.ks) (R : List UInt8) (ht : s.data.toList.drop i = 44 :: ((quoteT key').data.toList ++ 58 :: R)) :
    Calls Tryz.prog 97 #[.pointer (some ⟨p, 0, none⟩), .agg #[.int .i64 X.k, .int .i64 X.n, .string X.s, kx, dx]] wr fun e w' => e = .returned (.tuple #[.agg #[.int .i64 0, .int .i64 0, .string ⟨#[]⟩, .slice none 0 0, .slice none 0 0], .bool false, .nilIface]) ∧ (∀ b, b < wr.heap.size → b ≠ p → b ≠ g → b ∉ l.blocks → w'.heap[b]? = wr.heap[b]?) ∧ ∃ u' v' FK F, Mid w0 wr w' p s (i + 1 + (quoteT key').data.toList.length + 1) (.slice (some ⟨g, 0, none⟩) (ls.length + 1) cap) nd tw (ls ++ [{ l with dk := l.dk ++ [l.key], dd := l.dd ++ [X], key := key', kv := u', dv := v', FK := FK, FD := F, ks := l.ks ++ [key'] }]) ∧ ∀ y ∈ FK ++ F, y ∈ l.blocks ∨ y ∈ FX ∨ wr.heap.size ≤ y := by
  have hs' : s.size ≤ maxLen := by unfold maxLen; omega
  obtain ⟨n1, n2, -⟩ := nextB_drop ht
  have A1 := Lib.hid (fun (wx : World) (hx : Rd wx p s i (.slice (some ⟨g, 0, none⟩) (ls.length + 1) cap) nd tw) => rd_blanks_no p s i _ nd tw wx (Nat.le_of_lt n2) (by rw [n1]; decide) hx)
  have A2 := Lib.hid (fun (wx : World) (hx : Rd wx p s i (.slice (some ⟨g, 0, none⟩) (ls.length + 1) cap) nd tw) => rd_take_yes p s i _ nd tw wx hs' n2 44 n1 hx)
  have HT2 : Hid (s.data.toList.drop (i + 1) = (quoteT key').data.toList ++ 58 :: R) := (nextB_drop ht).2.2
  obtain ⟨⟨o1, q1, rfl⟩, ⟨o2, q2, rfl⟩⟩ := hX.lies.slices
  obtain ⟨cur, k2, k3, k4, -⟩ := hM.parts
  have HP : Hid (∀ wx, Below wr.heap.size wr wx → Calls Tryz.prog 116 #[.pointer (some ⟨g, ls.length * 8, none⟩), .agg #[.int .i64 X.k, .int .i64 X.n, .string X.s, .slice o1 X.keys.length q1, .slice o2 X.kids.length q2]] wx fun e w' => (∃ v, e = .returned v) ∧ ∃ u' v' FK F, Mid w0 wr w' p s i (.slice (some ⟨g, 0, none⟩) (ls.length + 1) cap) nd tw (ls ++ [{ l with dk := l.dk ++ [l.key], dd := l.dd ++ [X], kv := u', dv := v', FK := FK, FD := F }]) ∧ But (g :: (l.FK ++ l.FD)) wx w' ∧ ∀ y ∈ FK ++ F, y ∈ l.blocks ∨ y ∈ FX ∨ wx.heap.size ≤ y) := fun wx hb => by
    have hM := hM.below hb
    have hX := hX.stay hb
    exact hM.put5 hp hk hlen hkeys hX
  have HBl : Hid (Below wr.heap.size wr ((wr.alloc (.cells #[.int .i64 X.k, .int .i64 X.n, .string X.s, .slice o1 X.keys.length q1, .slice o2 X.kids.length q2] 27)).alloc (.cells #[.int .i64 0, .int .i64 0, .string ⟨#[]⟩, .slice none 0 0, .slice none 0 0] 27))) := ((Below.refl _ wr).alloc (Nat.le_refl _) _).alloc (by simp) _
  have HL : Hid (w0.heap.size ≤ wr.heap.size ∧ g < wr.heap.size ∧ (∀ x ∈ l.blocks, x < wr.heap.size) ∧ ∀ x ∈ ls.flatMap Lv.blocks, x < wr.heap.size) := by
    obtain ⟨_, _, _, _, _, _, _, a, _, _, _, hl, _⟩ := hM.parts
    exact ⟨hM.hs, a, hl.lt, fun x hx => (hM.stk.blocks (.inl (by rw [List.flatMap_append]; exact List.mem_append_left _ hx))).1⟩
  have Z0 := Lib.hid (zero_blocks2 wr (.cells #[.int .i64 X.k, .int .i64 X.n, .string X.s, .slice o1 X.keys.length q1, .slice o2 X.kids.length q2] 27) (.cells #[.int .i64 0, .int .i64 0, .string ⟨#[]⟩, .slice none 0 0, .slice none 0 0] 27))
  have hp2 : p < wr.heap.size := Nat.lt_of_lt_of_le hp hM.hs
  obtain ⟨x0, x1, x2, x3, x4, x5⟩ := (hM.below HBl.out).rd.five
  obtain ⟨b0, b1, b2, b3, b4, -⟩ := five Z0.out.1
  unfold maxLen at k4
  have hnd' : (nd : Int) ≤ 200 := by omega
  have HK := Lib.hid hk
  have HFX := Lib.hid hX.lies.lt
  clear hM hX ht n1 n2 k2 hk
  go_enter Tryz.func97, Tryz.ntmps97
  generalize hln : ls.length = n at *
  have g0 : (0 : Int) ≤ (n : Int) := by omega
  have g1 : (n : Int) < (n : Int) + 1 := by omega
  have g2 : ¬ (n : Int) < 0 := by omega
  have g3 : IntKind.i64.wrap (n : Int) = n := by rw [IntKind.wrap_i64]; omega
  go_wp2
  go_quiet (fail)
  replace HBl := Lib.hid (blw_drewN HBl.out nq)
  go_wp2_with fail
  refine (HP.out _ HBl.out).mono ?_
  rintro e w2 ⟨⟨v2, rfl⟩, u', v', FK, F, hM2, hbut, hnewb⟩
  have HNB : Hid (∀ y ∈ FK ++ F, y ≠ wr.heap.size + 1) := fun y hy e => by
    have hl := HL.out
    have hx := HFX.out
    rcases hnewb y hy with h | h | h
    · have := hl.2.2.1 y h; omega
    · have := hx y h; omega
    · have : wr.heap.size + 2 ≤ y := by have h : ((wr.alloc _).alloc _).heap.size ≤ y := h; simpa using h
      omega
  have HNP : Hid (∀ y ∈ FK ++ F, y ∈ l.blocks ∨ y ∈ FX ∨ wr.heap.size ≤ y) := fun y hy => by
    rcases hnewb y hy with h | h | h
    · exact .inl h
    · exact .inr (.inl h)
    · have : wr.heap.size + 2 ≤ y := by have h : ((wr.alloc _).alloc _).heap.size ≤ y := h; simpa using h
      exact .inr (.inr (by omega))
  clear hnewb
  have ZN : Hid (w2.heap[wr.heap.size + 1]? = some (.cells #[.int .i64 0, .int .i64 0, .string ⟨#[]⟩, .slice none 0 0, .slice none 0 0] 27 (0, 0))) := by
    show _ = _
    have hl := HL.out
    rw [hbut.block (wr.heap.size + 1) (by show _ < ((wr.alloc _).alloc _).heap.size; simp) (fun hin => by
      rcases List.mem_cons.1 hin with e | e
      · omega
      · have := hl.2.2.1 (wr.heap.size + 1) (by rcases List.mem_append.1 e with e | e; exact List.mem_append_left _ e; exact List.mem_append_right _ (List.mem_append_left _ e)); omega)]
    exact Z0.out.2
  have HF : Hid (∀ b, b < wr.heap.size → b ≠ p → b ≠ g → b ∉ l.blocks → w2.heap[b]? = wr.heap[b]?) := fun b f1 f2 f3 f4 => (hbut.block b (by show _ < ((wr.alloc _).alloc _).heap.size; simp; omega) (fun hin => by
    rcases List.mem_cons.1 hin with e | e
    · exact f3 e
    · exact f4 (by rcases List.mem_append.1 e with e | e; exact List.mem_append_left _ e; exact List.mem_append_right _ (List.mem_append_left _ e)))).trans (HBl.out.block b f1)
  have HM2 := Lib.hid hM2
  clear hM2 hbut x0 x1 x2 x3 x4 x5 b0 b1 b2 b3 b4
  go_wp2_with fail
  refine (A1.out _ HM2.out.rd).mono ?_
  rintro e w3 ⟨⟨v3, rfl⟩, hb3⟩
  replace HF : Hid (∀ b, b < wr.heap.size → b ≠ p → b ≠ g → b ∉ l.blocks → w3.heap[b]? = wr.heap[b]?) := fun b f1 f2 f3 f4 => (hb3.block b (by have := (Array.getElem?_eq_some_iff.1 ZN.out).1; omega)).trans (HF.out b f1 f2 f3 f4)
  replace ZN := Lib.hid ((hb3.block _ (Array.getElem?_eq_some_iff.1 ZN.out).1).trans ZN.out)
  replace HM2 := Lib.hid (HM2.out.below hb3)
  clear hb3
  go_wp2_with fail
  refine (A2.out _ HM2.out.rd).mono ?_
  rintro e w4 ⟨rfl, h4, hg4⟩
  replace HF : Hid (∀ b, b < wr.heap.size → b ≠ p → b ≠ g → b ∉ l.blocks → w4.heap[b]? = wr.heap[b]?) := fun b f1 f2 f3 f4 => (hg4.block b (by have := (Array.getElem?_eq_some_iff.1 ZN.out).1; omega) (fun e => f2 (Option.some.inj e))).trans (HF.out b f1 f2 f3 f4)
  replace ZN := Lib.hid (grw_block ZN.out (by omega) hg4)
  replace HM2 := Lib.hid (HM2.out.grw hp h4 hg4)
  clear h4 hg4
  go_wp2_with fail
  have hM4 := HM2.out
  rw [← hln] at hM4
  have hm7 := Mid.mk hM4.rd hM4.stk (Kp.refl w0 p w4) hM4.hs
  refine (ahead5 hs hm7 hp HK.out key' hok hn' R HT2.out).mono ?_
  rintro e w5 ⟨rfl, hm5, hf5⟩
  have HM5 := Lib.hid (Mid.mk hm5.rd hm5.stk (hM4.kp.trans hm5.kp) hm5.hs)
  have hNA := hM4.node_apart ZN.out (fun x hx e => by have := HL.out.2.2.2 x hx; omega) (fun x hx e => by
    have hx : x ∈ FK ++ (F ++ l.FM) := hx
    have hl := HL.out
    rcases List.mem_append.1 hx with hx | hx
    · exact HNB.out x (List.mem_append_left _ hx) e
    · rcases List.mem_append.1 hx with hx | hx
      · exact HNB.out x (List.mem_append_right _ hx) e
      · have := hl.2.2.1 x (List.mem_append_right _ (List.mem_append_right _ hx)); omega)
  have ZN5 : Hid (w5.heap[wr.heap.size + 1]? = some (.cells #[.int .i64 0, .int .i64 0, .string ⟨#[]⟩, .slice none 0 0, .slice none 0 0] 27 (0, 0))) := by
    show _ = _
    rw [hf5 (wr.heap.size + 1) (Array.getElem?_eq_some_iff.1 ZN.out).1 (by omega) (fun e => hNA _ (.inr e) rfl) (fun hin => by have hin : wr.heap.size + 1 ∈ l.FM := hin; have := HL.out.2.2.1 _ (List.mem_append_right _ (List.mem_append_right _ hin)); omega)]
    exact ZN.out
  have HF5 : Hid (∀ b, b < wr.heap.size → b ≠ p → b ≠ g → b ∉ l.blocks → w5.heap[b]? = wr.heap[b]?) := fun b f1 f2 f3 f4 => (hf5 b (by have := (Array.getElem?_eq_some_iff.1 ZN.out).1; omega) f2 (fun e => f3 (by simp [Value.ownBlock] at e; exact e.symm)) (fun hin => f4 (List.mem_append_right _ (List.mem_append_right _ hin)))).trans (HF.out b f1 f2 f3 f4)
  clear hM4 hm7 hm5 hf5 hNA
  obtain ⟨z0, z1, z2, z3, z4, z5⟩ := five ZN5.out
  go_wp2
  rw [hln] at HM5
  exact bodyPost_ret (ret_node3 Tryz.results97 rfl rfl rfl (set5_end ZN5.out _ _ _ _ _)) rfl ⟨rfl, fun b f1 f2 f3 f4 => (set5_other _ _ _ _ _ _ _ _ _ (by omega)).trans (HF5.out b f1 f2 f3 f4), _, _, _, _, HM5.out.set5 (by have := HL.out.1; omega) hp (HM5.out.node_apart ZN5.out (fun x hx e => by have := HL.out.2.2.2 x hx; omega) (fun x hx e => by
    have hx : x ∈ FK ++ (F ++ l.FM) := hx
    have hl := HL.out
    rcases List.mem_append.1 hx with hx | hx
    · exact HNB.out x (List.mem_append_left _ hx) e
    · rcases List.mem_append.1 hx with hx | hx
      · exact HNB.out x (List.mem_append_right _ hx) e
      · have := hl.2.2.1 x (List.mem_append_right _ (List.mem_append_right _ hx)); omega)) _ _ _ _ _, HNP.out⟩


set_option maxRecDepth 100000 in
set_option maxHeartbeats 4000000 in
theorem goS4 {w0 wr : World} {p : Nat} {s : ByteArray} (hs : s.size ≤ 1000000000) {i : Nat} {nd : Nat} {tw : Int} {ls : List Lv} {l : Lv} {g cap : Nat} (hM : Mid w0 wr wr p s i (.slice (some ⟨g, 0, none⟩) (ls.length + 1) cap) nd tw (ls ++ [l])) (hp : p < w0.heap.size) (hk : l.k = 4) (hlen : l.dd.length ≤ 1048576) (hnd : nd ≤ 200)
    {X : RT} {kx dx : Value} {FX : List Nat} (hX : Hand w0 wr (.slice (some ⟨g, 0, none⟩) (ls.length + 1) cap) (ls ++ [l]) X kx dx FX)  (R : List UInt8) (ht : s.data.toList.drop i = 93 :: R) :
    Calls Tryz.prog 97 #[.pointer (some ⟨p, 0, none⟩), .agg #[.int .i64 X.k, .int .i64 X.n, .string X.s, kx, dx]] wr fun e w' => ∃ kv dv c' FT, e = .returned (.tuple #[.agg #[.int .i64 4, .int .i64 0, .string ⟨#[]⟩, kv, dv], .bool true, .nilIface]) ∧ Mid w0 wr w' p s (i + 1) (.slice (some ⟨g, 0, none⟩) ls.length c') nd tw ls ∧ Hand w0 w' (.slice (some ⟨g, 0, none⟩) ls.length c') ls (.node 4 0 ⟨#[]⟩ l.dk (l.dd ++ [X])) kv dv FT ∧ (∀ b, b < wr.heap.size → b ≠ p → b ≠ g → b ∉ l.blocks → w'.heap[b]? = wr.heap[b]?) ∧ ∀ y ∈ FT, y ∈ l.blocks ∨ y ∈ FX ∨ wr.heap.size ≤ y := by
  have hs' : s.size ≤ maxLen := by unfold maxLen; omega
  obtain ⟨n1, n2, -⟩ := nextB_drop ht
  have A1 := Lib.hid (fun (wx : World) (hx : Rd wx p s i (.slice (some ⟨g, 0, none⟩) (ls.length + 1) cap) nd tw) => rd_blanks_no p s i _ nd tw wx (Nat.le_of_lt n2) (by rw [n1]; decide) hx)
  have A2 := Lib.hid (fun (wx : World) (hx : Rd wx p s i (.slice (some ⟨g, 0, none⟩) (ls.length + 1) cap) nd tw) => rd_take_yes p s i _ nd tw wx hs' n2 93 n1 hx)
  have A3 := Lib.hid (fun (wx : World) (hx : Rd wx p s i (.slice (some ⟨g, 0, none⟩) (ls.length + 1) cap) nd tw) => rd_take_no p s i _ nd tw wx (Nat.le_of_lt n2) 44 (by rw [n1]; decide) hx)
  obtain ⟨⟨o1, q1, rfl⟩, ⟨o2, q2, rfl⟩⟩ := hX.lies.slices
  obtain ⟨cur, k2, k3, k4, -⟩ := hM.parts
  have HP : Hid (∀ wx, Below wr.heap.size wr wx → Calls Tryz.prog 116 #[.pointer (some ⟨g, ls.length * 8, none⟩), .agg #[.int .i64 X.k, .int .i64 X.n, .string X.s, .slice o1 X.keys.length q1, .slice o2 X.kids.length q2]] wx fun e w' => (∃ v, e = .returned v) ∧ ∃ v' F, Mid w0 wr w' p s i (.slice (some ⟨g, 0, none⟩) (ls.length + 1) cap) nd tw (ls ++ [{ l with dd := l.dd ++ [X], dv := v', FD := F }]) ∧ But (g :: l.FD) wx w' ∧ ∀ y ∈ F, y ∈ l.blocks ∨ y ∈ FX ∨ wx.heap.size ≤ y) := fun wx hb => by
    have hM := hM.below hb
    have hX := hX.stay hb
    exact hM.put4 hp hk hlen hX
  have HBl : Hid (Below wr.heap.size wr ((wr.alloc (.cells #[.int .i64 X.k, .int .i64 X.n, .string X.s, .slice o1 X.keys.length q1, .slice o2 X.kids.length q2] 27)).alloc (.cells #[.int .i64 0, .int .i64 0, .string ⟨#[]⟩, .slice none 0 0, .slice none 0 0] 27))) := ((Below.refl _ wr).alloc (Nat.le_refl _) _).alloc (by simp) _
  have HL : Hid (w0.heap.size ≤ wr.heap.size ∧ g < wr.heap.size ∧ (∀ x ∈ l.blocks, x < wr.heap.size) ∧ ∀ x ∈ ls.flatMap Lv.blocks, x < wr.heap.size) := by
    obtain ⟨_, _, _, _, _, _, _, a, _, _, _, hl, _⟩ := hM.parts
    exact ⟨hM.hs, a, hl.lt, fun x hx => (hM.stk.blocks (.inl (by rw [List.flatMap_append]; exact List.mem_append_left _ hx))).1⟩
  have Z0 := Lib.hid (zero_blocks2 wr (.cells #[.int .i64 X.k, .int .i64 X.n, .string X.s, .slice o1 X.keys.length q1, .slice o2 X.kids.length q2] 27) (.cells #[.int .i64 0, .int .i64 0, .string ⟨#[]⟩, .slice none 0 0, .slice none 0 0] 27))
  have hp2 : p < wr.heap.size := Nat.lt_of_lt_of_le hp hM.hs
  obtain ⟨x0, x1, x2, x3, x4, x5⟩ := (hM.below HBl.out).rd.five
  obtain ⟨b0, b1, b2, b3, b4, -⟩ := five Z0.out.1
  unfold maxLen at k4
  have hnd' : (nd : Int) ≤ 200 := by omega
  have HK := Lib.hid hk
  have HFX := Lib.hid hX.lies.lt
  clear hM hX ht n1 n2 k2 hk
  go_enter Tryz.func97, Tryz.ntmps97
  generalize hln : ls.length = n at *
  have g0 : (0 : Int) ≤ (n : Int) := by omega
  have g1 : (n : Int) < (n : Int) + 1 := by omega
  have g2 : ¬ (n : Int) < 0 := by omega
  have g3 : IntKind.i64.wrap (n : Int) = n := by rw [IntKind.wrap_i64]; omega
  go_wp2
  go_quiet (fail)
  replace HBl := Lib.hid (blw_drewN HBl.out nq)
  go_wp2_with fail
  refine (HP.out _ HBl.out).mono ?_
  rintro e w2 ⟨⟨v2, rfl⟩, v', F, hM2, hbut, hnewb⟩
  have HNB : Hid (∀ y ∈ F, y ≠ wr.heap.size + 1) := fun y hy e => by
    have hl := HL.out
    have hx := HFX.out
    rcases hnewb y hy with h | h | h
    · have := hl.2.2.1 y h; omega
    · have := hx y h; omega
    · have : wr.heap.size + 2 ≤ y := by have h : ((wr.alloc _).alloc _).heap.size ≤ y := h; simpa using h
      omega
  have HNP : Hid (∀ y ∈ F, y ∈ l.blocks ∨ y ∈ FX ∨ wr.heap.size ≤ y) := fun y hy => by
    rcases hnewb y hy with h | h | h
    · exact .inl h
    · exact .inr (.inl h)
    · have : wr.heap.size + 2 ≤ y := by have h : ((wr.alloc _).alloc _).heap.size ≤ y := h; simpa using h
      exact .inr (.inr (by omega))
  clear hnewb
  have ZN : Hid (w2.heap[wr.heap.size + 1]? = some (.cells #[.int .i64 0, .int .i64 0, .string ⟨#[]⟩, .slice none 0 0, .slice none 0 0] 27 (0, 0))) := by
    show _ = _
    have hl := HL.out
    rw [hbut.block (wr.heap.size + 1) (by show _ < ((wr.alloc _).alloc _).heap.size; simp) (fun hin => by
      rcases List.mem_cons.1 hin with e | e
      · omega
      · have := hl.2.2.1 (wr.heap.size + 1) (List.mem_append_right _ (List.mem_append_left _ e)); omega)]
    exact Z0.out.2
  have HF : Hid (∀ b, b < wr.heap.size → b ≠ p → b ≠ g → b ∉ l.blocks → w2.heap[b]? = wr.heap[b]?) := fun b f1 f2 f3 f4 => (hbut.block b (by show _ < ((wr.alloc _).alloc _).heap.size; simp; omega) (fun hin => by
    rcases List.mem_cons.1 hin with e | e
    · exact f3 e
    · exact f4 (List.mem_append_right _ (List.mem_append_left _ e)))).trans (HBl.out.block b f1)
  have HM2 := Lib.hid hM2
  clear hM2 hbut x0 x1 x2 x3 x4 x5 b0 b1 b2 b3 b4
  go_wp2_with fail
  refine (A1.out _ HM2.out.rd).mono ?_
  rintro e w3 ⟨⟨v3, rfl⟩, hb3⟩
  replace HF : Hid (∀ b, b < wr.heap.size → b ≠ p → b ≠ g → b ∉ l.blocks → w3.heap[b]? = wr.heap[b]?) := fun b f1 f2 f3 f4 => (hb3.block b (by have := (Array.getElem?_eq_some_iff.1 ZN.out).1; omega)).trans (HF.out b f1 f2 f3 f4)
  replace ZN := Lib.hid ((hb3.block _ (Array.getElem?_eq_some_iff.1 ZN.out).1).trans ZN.out)
  replace HM2 := Lib.hid (HM2.out.below hb3)
  clear hb3
  go_wp2_with fail
  refine (A3.out _ HM2.out.rd).mono ?_
  rintro e w4 ⟨rfl, hb4⟩
  replace HF : Hid (∀ b, b < wr.heap.size → b ≠ p → b ≠ g → b ∉ l.blocks → w4.heap[b]? = wr.heap[b]?) := fun b f1 f2 f3 f4 => (hb4.block b (by have := (Array.getElem?_eq_some_iff.1 ZN.out).1; omega)).trans (HF.out b f1 f2 f3 f4)
  replace ZN := Lib.hid ((hb4.block _ (Array.getElem?_eq_some_iff.1 ZN.out).1).trans ZN.out)
  replace HM2 := Lib.hid (HM2.out.below hb4)
  clear hb4
  have hM4 := HM2.out
  rw [← hln] at hM4
  obtain ⟨cur4, kk2, -, -, -, ktop4, -⟩ := hM4.parts
  have c5 : w4.cell? ⟨g, n * 8 + 5, none⟩ = some (.int .u8 93) := by
    have := ktop4 5 (by decide)
    rw [hln] at this
    rw [cell_of kk2, this]
    show some (Value.int .u8 (if l.k = 5 then 125 else 93)) = _
    rw [HK.out]
    rfl
  clear ktop4 kk2 hM4
  go_wp2_with fail
  refine (A2.out _ HM2.out.rd).mono ?_
  rintro e w5 ⟨rfl, h5, hg5⟩
  replace HF : Hid (∀ b, b < wr.heap.size → b ≠ p → b ≠ g → b ∉ l.blocks → w5.heap[b]? = wr.heap[b]?) := fun b f1 f2 f3 f4 => (hg5.block b (by have := (Array.getElem?_eq_some_iff.1 ZN.out).1; omega) (fun e => f2 (Option.some.inj e))).trans (HF.out b f1 f2 f3 f4)
  replace ZN := Lib.hid (grw_block ZN.out (by omega) hg5)
  replace HM2 := Lib.hid (HM2.out.grw hp h5 hg5)
  clear h5 hg5 c5
  obtain ⟨x0, x1, x2, x3, x4, x5⟩ := HM2.out.rd.five
  have hM5 := HM2.out
  rw [← hln] at hM5
  obtain ⟨cur5, kk2, -, -, -, ktop5, -, -, kg7, -, -, hl5, -⟩ := hM5.parts
  rw [hln] at ktop5
  have t0 : w5.cell? ⟨g, n * 8, none⟩ = some (.int .i64 4) := by
    have := ktop5 0 (by decide)
    rw [Nat.add_zero] at this
    rw [cell_of kk2, this]
    show some (Value.int .i64 l.k) = _
    rw [HK.out]
  have t1 : w5.cell? ⟨g, n * 8 + 1, none⟩ = some (.int .i64 0) := by rw [cell_of kk2, ktop5 1 (by decide)]; rfl
  have t2 : w5.cell? ⟨g, n * 8 + 2, none⟩ = some (.string ⟨#[]⟩) := by rw [cell_of kk2, ktop5 2 (by decide)]; rfl
  obtain ⟨o3, q3, hk3⟩ := hl5.keys.slice
  obtain ⟨o4, q4, hk4⟩ := hl5.kids.slice
  have e4 : (l.dd ++ [X]).length = l.dd.length + 1 := by simp
  replace hk4 := hk4.trans (congrArg (fun n => Value.slice o4 n q4) e4)
  have t3 : w5.cell? ⟨g, n * 8 + 3, none⟩ = some (.slice o3 l.dk.length q3) := by rw [cell_of kk2, ktop5 3 (by decide)]; exact congrArg some hk3
  have t4 : w5.cell? ⟨g, n * 8 + 4, none⟩ = some (.slice o4 (l.dd.length + 1) q4) := by rw [cell_of kk2, ktop5 4 (by decide)]; exact congrArg some hk4
  have HPop : Hid (Mid w0 wr (w5.setCell ⟨p, 2, none⟩ (.slice (some ⟨g, 0, none⟩) n cap)) p s (i + 1) (.slice (some ⟨g, 0, none⟩) n cap) nd tw ls ∧ Hand w0 (w5.setCell ⟨p, 2, none⟩ (.slice (some ⟨g, 0, none⟩) n cap)) (.slice (some ⟨g, 0, none⟩) n cap) ls (.node 4 0 ⟨#[]⟩ l.dk (l.dd ++ [X])) (.slice o3 l.dk.length q3) (.slice o4 (l.dd.length + 1) q4) (l.FK ++ F)) := by
    have h := hM5.pop hp (by show Fit l.k; rw [HK.out]; exact ⟨by decide, by decide⟩)
    rw [hln] at h
    have hk3 : _ = Value.slice o3 l.dk.length q3 := hk3
    have hk4 : _ = Value.slice o4 (l.dd.length + 1) q4 := hk4
    dsimp only at h hk3 hk4
    rw [hk3, hk4, HK.out] at h
    exact h
  have hgp : ¬ (p = g) := by omega
  have hgp' : ¬ (g = p) := fun e => hgp e.symm
  have ZN6 := Lib.hid ((Below.heap_setCell w5 ⟨p, 2, none⟩ (.slice (some ⟨g, 0, none⟩) n cap) (wr.heap.size + 1) (by show wr.heap.size + 1 ≠ p; omega)).trans ZN.out)
  clear hM5 kk2 ktop5 hl5 hk3 hk4 kg7
  have g4 : (n : Int) ≤ cap := by omega
  have g5 : ¬ (cap : Int) < n := by omega
  go_wp2
  go_region
  have HM7 : Hid (Mid w0 wr (w5.setCell ⟨p, 2, none⟩ (.slice (some ⟨g, 0, none⟩) n cap)).drew p s (i + 1) (.slice (some ⟨g, 0, none⟩) n cap) nd tw ls) := HPop.out.1.below (blw_drewN (Below.refl _ _) 1)
  have HH7 : Hid (Hand w0 (w5.setCell ⟨p, 2, none⟩ (.slice (some ⟨g, 0, none⟩) n cap)).drew (.slice (some ⟨g, 0, none⟩) n cap) ls (.node 4 0 ⟨#[]⟩ l.dk (l.dd ++ [X])) (.slice o3 l.dk.length q3) (.slice o4 (l.dd.length + 1) q4) (l.FK ++ F)) := HPop.out.2.stay (blw_drewN (Below.refl _ _) 1)
  have HF7 : Hid (∀ b, b < wr.heap.size → b ≠ p → b ≠ g → b ∉ l.blocks → (w5.setCell ⟨p, 2, none⟩ (.slice (some ⟨g, 0, none⟩) n cap)).drew.heap[b]? = wr.heap[b]?) := fun b f1 f2 f3 f4 => (Below.heap_setCell w5 ⟨p, 2, none⟩ (.slice (some ⟨g, 0, none⟩) n cap) b (by show b ≠ p; exact f2)).trans (HF.out b f1 f2 f3 f4)
  have ZN7 : Hid ((w5.setCell ⟨p, 2, none⟩ (.slice (some ⟨g, 0, none⟩) n cap)).drew.heap[wr.heap.size + 1]? = some (.cells #[.int .i64 0, .int .i64 0, .string ⟨#[]⟩, .slice none 0 0, .slice none 0 0] 27 (0, 0))) := ZN6.out
  have hgz : ¬ (g = wr.heap.size + 1) := by have := HL.out.2.1; omega
  have r0 : (w5.setCell ⟨p, 2, none⟩ (.slice (some ⟨g, 0, none⟩) n cap)).drew.cell? ⟨g, n * 8, none⟩ = some (.int .i64 4) := (World.cell?_setCell_far w5 ⟨p, 2, none⟩ ⟨g, n * 8, none⟩ _ (by exact hgp)).trans t0
  have r1 : (w5.setCell ⟨p, 2, none⟩ (.slice (some ⟨g, 0, none⟩) n cap)).drew.cell? ⟨g, n * 8 + 1, none⟩ = some (.int .i64 0) := (World.cell?_setCell_far w5 ⟨p, 2, none⟩ ⟨g, n * 8 + 1, none⟩ _ (by exact hgp)).trans t1
  have r2 : (w5.setCell ⟨p, 2, none⟩ (.slice (some ⟨g, 0, none⟩) n cap)).drew.cell? ⟨g, n * 8 + 2, none⟩ = some (.string ⟨#[]⟩) := (World.cell?_setCell_far w5 ⟨p, 2, none⟩ ⟨g, n * 8 + 2, none⟩ _ (by exact hgp)).trans t2
  have r3 : (w5.setCell ⟨p, 2, none⟩ (.slice (some ⟨g, 0, none⟩) n cap)).drew.cell? ⟨g, n * 8 + 3, none⟩ = some (.slice o3 l.dk.length q3) := (World.cell?_setCell_far w5 ⟨p, 2, none⟩ ⟨g, n * 8 + 3, none⟩ _ (by exact hgp)).trans t3
  have r4 : (w5.setCell ⟨p, 2, none⟩ (.slice (some ⟨g, 0, none⟩) n cap)).drew.cell? ⟨g, n * 8 + 4, none⟩ = some (.slice o4 (l.dd.length + 1) q4) := (World.cell?_setCell_far w5 ⟨p, 2, none⟩ ⟨g, n * 8 + 4, none⟩ _ (by exact hgp)).trans t4
  clear HPop ZN6 t0 t1 t2 t3 t4 x0 x1 x2 x3 x4 x5
  generalize (w5.setCell ⟨p, 2, none⟩ (.slice (some ⟨g, 0, none⟩) n cap)).drew = w7 at *
  obtain ⟨z0, z1, z2, z3, z4, z5⟩ := five ZN7.out
  go_wp2
  refine bodyPost_ret (ret_node3 Tryz.results97 rfl rfl rfl (set5_end ZN7.out _ _ _ _ _)) rfl ⟨_, _, cap, l.FK ++ F, rfl, HM7.out.set5 (by have := HL.out.1; omega) hp (fun x hx e => ?_) _ _ _ _ _, HH7.out.set5 (fun x hx e => ?_) _ _ _ _ _, fun b f1 f2 f3 f4 => (set5_other _ _ _ _ _ _ _ _ _ (by omega)).trans (HF7.out b f1 f2 f3 f4), fun y hy => (by rcases List.mem_append.1 hy with h | h; exact .inl (List.mem_append_left _ h); exact HNP.out y h)⟩
  · rcases hx with hx | hx
    · have := HL.out.2.2.2 x hx; omega
    · simp [Value.ownBlock] at hx
      subst hx
      exact hgz e
  · rcases List.mem_append.1 hx with hx | hx
    · have := HL.out.2.2.1 x (List.mem_append_left _ hx); omega
    · exact HNB.out x (hx) e


set_option maxRecDepth 100000 in
set_option maxHeartbeats 4000000 in
theorem goS5 {w0 wr : World} {p : Nat} {s : ByteArray} (hs : s.size ≤ 1000000000) {i : Nat} {nd : Nat} {tw : Int} {ls : List Lv} {l : Lv} {g cap : Nat} (hM : Mid w0 wr wr p s i (.slice (some ⟨g, 0, none⟩) (ls.length + 1) cap) nd tw (ls ++ [l])) (hp : p < w0.heap.size) (hk : l.k = 5) (hlen : l.dd.length ≤ 1048576) (hnd : nd ≤ 200) {rk : List ByteArray} (hkeys : keysOk (l.dk ++ l.key :: rk) = true)
    {X : RT} {kx dx : Value} {FX : List Nat} (hX : Hand w0 wr (.slice (some ⟨g, 0, none⟩) (ls.length + 1) cap) (ls ++ [l]) X kx dx FX)  (R : List UInt8) (ht : s.data.toList.drop i = 125 :: R) :
    Calls Tryz.prog 97 #[.pointer (some ⟨p, 0, none⟩), .agg #[.int .i64 X.k, .int .i64 X.n, .string X.s, kx, dx]] wr fun e w' => ∃ kv dv c' FT, e = .returned (.tuple #[.agg #[.int .i64 5, .int .i64 0, .string ⟨#[]⟩, kv, dv], .bool true, .nilIface]) ∧ Mid w0 wr w' p s (i + 1) (.slice (some ⟨g, 0, none⟩) ls.length c') nd tw ls ∧ Hand w0 w' (.slice (some ⟨g, 0, none⟩) ls.length c') ls (.node 5 0 ⟨#[]⟩ (l.dk ++ [l.key]) (l.dd ++ [X])) kv dv FT ∧ (∀ b, b < wr.heap.size → b ≠ p → b ≠ g → b ∉ l.blocks → w'.heap[b]? = wr.heap[b]?) ∧ ∀ y ∈ FT, y ∈ l.blocks ∨ y ∈ FX ∨ wr.heap.size ≤ y := by
  have hs' : s.size ≤ maxLen := by unfold maxLen; omega
  obtain ⟨n1, n2, -⟩ := nextB_drop ht
  have A1 := Lib.hid (fun (wx : World) (hx : Rd wx p s i (.slice (some ⟨g, 0, none⟩) (ls.length + 1) cap) nd tw) => rd_blanks_no p s i _ nd tw wx (Nat.le_of_lt n2) (by rw [n1]; decide) hx)
  have A2 := Lib.hid (fun (wx : World) (hx : Rd wx p s i (.slice (some ⟨g, 0, none⟩) (ls.length + 1) cap) nd tw) => rd_take_yes p s i _ nd tw wx hs' n2 125 n1 hx)
  have A3 := Lib.hid (fun (wx : World) (hx : Rd wx p s i (.slice (some ⟨g, 0, none⟩) (ls.length + 1) cap) nd tw) => rd_take_no p s i _ nd tw wx (Nat.le_of_lt n2) 44 (by rw [n1]; decide) hx)
  obtain ⟨⟨o1, q1, rfl⟩, ⟨o2, q2, rfl⟩⟩ := hX.lies.slices
  obtain ⟨cur, k2, k3, k4, -⟩ := hM.parts
  have HP : Hid (∀ wx, Below wr.heap.size wr wx → Calls Tryz.prog 116 #[.pointer (some ⟨g, ls.length * 8, none⟩), .agg #[.int .i64 X.k, .int .i64 X.n, .string X.s, .slice o1 X.keys.length q1, .slice o2 X.kids.length q2]] wx fun e w' => (∃ v, e = .returned v) ∧ ∃ u' v' FK F, Mid w0 wr w' p s i (.slice (some ⟨g, 0, none⟩) (ls.length + 1) cap) nd tw (ls ++ [{ l with dk := l.dk ++ [l.key], dd := l.dd ++ [X], kv := u', dv := v', FK := FK, FD := F }]) ∧ But (g :: (l.FK ++ l.FD)) wx w' ∧ ∀ y ∈ FK ++ F, y ∈ l.blocks ∨ y ∈ FX ∨ wx.heap.size ≤ y) := fun wx hb => by
    have hM := hM.below hb
    have hX := hX.stay hb
    exact hM.put5 hp hk hlen hkeys hX
  have HBl : Hid (Below wr.heap.size wr ((wr.alloc (.cells #[.int .i64 X.k, .int .i64 X.n, .string X.s, .slice o1 X.keys.length q1, .slice o2 X.kids.length q2] 27)).alloc (.cells #[.int .i64 0, .int .i64 0, .string ⟨#[]⟩, .slice none 0 0, .slice none 0 0] 27))) := ((Below.refl _ wr).alloc (Nat.le_refl _) _).alloc (by simp) _
  have HL : Hid (w0.heap.size ≤ wr.heap.size ∧ g < wr.heap.size ∧ (∀ x ∈ l.blocks, x < wr.heap.size) ∧ ∀ x ∈ ls.flatMap Lv.blocks, x < wr.heap.size) := by
    obtain ⟨_, _, _, _, _, _, _, a, _, _, _, hl, _⟩ := hM.parts
    exact ⟨hM.hs, a, hl.lt, fun x hx => (hM.stk.blocks (.inl (by rw [List.flatMap_append]; exact List.mem_append_left _ hx))).1⟩
  have Z0 := Lib.hid (zero_blocks2 wr (.cells #[.int .i64 X.k, .int .i64 X.n, .string X.s, .slice o1 X.keys.length q1, .slice o2 X.kids.length q2] 27) (.cells #[.int .i64 0, .int .i64 0, .string ⟨#[]⟩, .slice none 0 0, .slice none 0 0] 27))
  have hp2 : p < wr.heap.size := Nat.lt_of_lt_of_le hp hM.hs
  obtain ⟨x0, x1, x2, x3, x4, x5⟩ := (hM.below HBl.out).rd.five
  obtain ⟨b0, b1, b2, b3, b4, -⟩ := five Z0.out.1
  unfold maxLen at k4
  have hnd' : (nd : Int) ≤ 200 := by omega
  have HK := Lib.hid hk
  have HFX := Lib.hid hX.lies.lt
  clear hM hX ht n1 n2 k2 hk
  go_enter Tryz.func97, Tryz.ntmps97
  generalize hln : ls.length = n at *
  have g0 : (0 : Int) ≤ (n : Int) := by omega
  have g1 : (n : Int) < (n : Int) + 1 := by omega
  have g2 : ¬ (n : Int) < 0 := by omega
  have g3 : IntKind.i64.wrap (n : Int) = n := by rw [IntKind.wrap_i64]; omega
  go_wp2
  go_quiet (fail)
  replace HBl := Lib.hid (blw_drewN HBl.out nq)
  go_wp2_with fail
  refine (HP.out _ HBl.out).mono ?_
  rintro e w2 ⟨⟨v2, rfl⟩, u', v', FK, F, hM2, hbut, hnewb⟩
  have HNB : Hid (∀ y ∈ FK ++ F, y ≠ wr.heap.size + 1) := fun y hy e => by
    have hl := HL.out
    have hx := HFX.out
    rcases hnewb y hy with h | h | h
    · have := hl.2.2.1 y h; omega
    · have := hx y h; omega
    · have : wr.heap.size + 2 ≤ y := by have h : ((wr.alloc _).alloc _).heap.size ≤ y := h; simpa using h
      omega
  have HNP : Hid (∀ y ∈ FK ++ F, y ∈ l.blocks ∨ y ∈ FX ∨ wr.heap.size ≤ y) := fun y hy => by
    rcases hnewb y hy with h | h | h
    · exact .inl h
    · exact .inr (.inl h)
    · have : wr.heap.size + 2 ≤ y := by have h : ((wr.alloc _).alloc _).heap.size ≤ y := h; simpa using h
      exact .inr (.inr (by omega))
  clear hnewb
  have ZN : Hid (w2.heap[wr.heap.size + 1]? = some (.cells #[.int .i64 0, .int .i64 0, .string ⟨#[]⟩, .slice none 0 0, .slice none 0 0] 27 (0, 0))) := by
    show _ = _
    have hl := HL.out
    rw [hbut.block (wr.heap.size + 1) (by show _ < ((wr.alloc _).alloc _).heap.size; simp) (fun hin => by
      rcases List.mem_cons.1 hin with e | e
      · omega
      · have := hl.2.2.1 (wr.heap.size + 1) (by rcases List.mem_append.1 e with e | e; exact List.mem_append_left _ e; exact List.mem_append_right _ (List.mem_append_left _ e)); omega)]
    exact Z0.out.2
  have HF : Hid (∀ b, b < wr.heap.size → b ≠ p → b ≠ g → b ∉ l.blocks → w2.heap[b]? = wr.heap[b]?) := fun b f1 f2 f3 f4 => (hbut.block b (by show _ < ((wr.alloc _).alloc _).heap.size; simp; omega) (fun hin => by
    rcases List.mem_cons.1 hin with e | e
    · exact f3 e
    · exact f4 (by rcases List.mem_append.1 e with e | e; exact List.mem_append_left _ e; exact List.mem_append_right _ (List.mem_append_left _ e)))).trans (HBl.out.block b f1)
  have HM2 := Lib.hid hM2
  clear hM2 hbut x0 x1 x2 x3 x4 x5 b0 b1 b2 b3 b4
  go_wp2_with fail
  refine (A1.out _ HM2.out.rd).mono ?_
  rintro e w3 ⟨⟨v3, rfl⟩, hb3⟩
  replace HF : Hid (∀ b, b < wr.heap.size → b ≠ p → b ≠ g → b ∉ l.blocks → w3.heap[b]? = wr.heap[b]?) := fun b f1 f2 f3 f4 => (hb3.block b (by have := (Array.getElem?_eq_some_iff.1 ZN.out).1; omega)).trans (HF.out b f1 f2 f3 f4)
  replace ZN := Lib.hid ((hb3.block _ (Array.getElem?_eq_some_iff.1 ZN.out).1).trans ZN.out)
  replace HM2 := Lib.hid (HM2.out.below hb3)
  clear hb3
  go_wp2_with fail
  refine (A3.out _ HM2.out.rd).mono ?_
  rintro e w4 ⟨rfl, hb4⟩
  replace HF : Hid (∀ b, b < wr.heap.size → b ≠ p → b ≠ g → b ∉ l.blocks → w4.heap[b]? = wr.heap[b]?) := fun b f1 f2 f3 f4 => (hb4.block b (by have := (Array.getElem?_eq_some_iff.1 ZN.out).1; omega)).trans (HF.out b f1 f2 f3 f4)
  replace ZN := Lib.hid ((hb4.block _ (Array.getElem?_eq_some_iff.1 ZN.out).1).trans ZN.out)
  replace HM2 := Lib.hid (HM2.out.below hb4)
  clear hb4
  have hM4 := HM2.out
  rw [← hln] at hM4
  obtain ⟨cur4, kk2, -, -, -, ktop4, -⟩ := hM4.parts
  have c5 : w4.cell? ⟨g, n * 8 + 5, none⟩ = some (.int .u8 125) := by
    have := ktop4 5 (by decide)
    rw [hln] at this
    rw [cell_of kk2, this]
    show some (Value.int .u8 (if l.k = 5 then 125 else 93)) = _
    rw [HK.out]
    rfl
  clear ktop4 kk2 hM4
  go_wp2_with fail
  refine (A2.out _ HM2.out.rd).mono ?_
  rintro e w5 ⟨rfl, h5, hg5⟩
  replace HF : Hid (∀ b, b < wr.heap.size → b ≠ p → b ≠ g → b ∉ l.blocks → w5.heap[b]? = wr.heap[b]?) := fun b f1 f2 f3 f4 => (hg5.block b (by have := (Array.getElem?_eq_some_iff.1 ZN.out).1; omega) (fun e => f2 (Option.some.inj e))).trans (HF.out b f1 f2 f3 f4)
  replace ZN := Lib.hid (grw_block ZN.out (by omega) hg5)
  replace HM2 := Lib.hid (HM2.out.grw hp h5 hg5)
  clear h5 hg5 c5
  obtain ⟨x0, x1, x2, x3, x4, x5⟩ := HM2.out.rd.five
  have hM5 := HM2.out
  rw [← hln] at hM5
  obtain ⟨cur5, kk2, -, -, -, ktop5, -, -, kg7, -, -, hl5, -⟩ := hM5.parts
  rw [hln] at ktop5
  have t0 : w5.cell? ⟨g, n * 8, none⟩ = some (.int .i64 5) := by
    have := ktop5 0 (by decide)
    rw [Nat.add_zero] at this
    rw [cell_of kk2, this]
    show some (Value.int .i64 l.k) = _
    rw [HK.out]
  have t1 : w5.cell? ⟨g, n * 8 + 1, none⟩ = some (.int .i64 0) := by rw [cell_of kk2, ktop5 1 (by decide)]; rfl
  have t2 : w5.cell? ⟨g, n * 8 + 2, none⟩ = some (.string ⟨#[]⟩) := by rw [cell_of kk2, ktop5 2 (by decide)]; rfl
  obtain ⟨o3, q3, hk3⟩ := hl5.keys.slice
  obtain ⟨o4, q4, hk4⟩ := hl5.kids.slice
  have e4 : (l.dd ++ [X]).length = l.dd.length + 1 := by simp
  replace hk4 := hk4.trans (congrArg (fun n => Value.slice o4 n q4) e4)
  have e3 : (l.dk ++ [l.key]).length = l.dk.length + 1 := by simp
  replace hk3 := hk3.trans (congrArg (fun n => Value.slice o3 n q3) e3)
  have t3 : w5.cell? ⟨g, n * 8 + 3, none⟩ = some (.slice o3 (l.dk.length + 1) q3) := by rw [cell_of kk2, ktop5 3 (by decide)]; exact congrArg some hk3
  have t4 : w5.cell? ⟨g, n * 8 + 4, none⟩ = some (.slice o4 (l.dd.length + 1) q4) := by rw [cell_of kk2, ktop5 4 (by decide)]; exact congrArg some hk4
  have HPop : Hid (Mid w0 wr (w5.setCell ⟨p, 2, none⟩ (.slice (some ⟨g, 0, none⟩) n cap)) p s (i + 1) (.slice (some ⟨g, 0, none⟩) n cap) nd tw ls ∧ Hand w0 (w5.setCell ⟨p, 2, none⟩ (.slice (some ⟨g, 0, none⟩) n cap)) (.slice (some ⟨g, 0, none⟩) n cap) ls (.node 5 0 ⟨#[]⟩ (l.dk ++ [l.key]) (l.dd ++ [X])) (.slice o3 (l.dk.length + 1) q3) (.slice o4 (l.dd.length + 1) q4) (FK ++ F)) := by
    have h := hM5.pop hp (by show Fit l.k; rw [HK.out]; exact ⟨by decide, by decide⟩)
    rw [hln] at h
    have hk3 : _ = Value.slice o3 (l.dk.length + 1) q3 := hk3
    have hk4 : _ = Value.slice o4 (l.dd.length + 1) q4 := hk4
    dsimp only at h hk3 hk4
    rw [hk3, hk4, HK.out] at h
    exact h
  have hgp : ¬ (p = g) := by omega
  have hgp' : ¬ (g = p) := fun e => hgp e.symm
  have ZN6 := Lib.hid ((Below.heap_setCell w5 ⟨p, 2, none⟩ (.slice (some ⟨g, 0, none⟩) n cap) (wr.heap.size + 1) (by show wr.heap.size + 1 ≠ p; omega)).trans ZN.out)
  clear hM5 kk2 ktop5 hl5 hk3 hk4 kg7
  have g4 : (n : Int) ≤ cap := by omega
  have g5 : ¬ (cap : Int) < n := by omega
  go_wp2
  go_region
  have HM7 : Hid (Mid w0 wr (w5.setCell ⟨p, 2, none⟩ (.slice (some ⟨g, 0, none⟩) n cap)).drew p s (i + 1) (.slice (some ⟨g, 0, none⟩) n cap) nd tw ls) := HPop.out.1.below (blw_drewN (Below.refl _ _) 1)
  have HH7 : Hid (Hand w0 (w5.setCell ⟨p, 2, none⟩ (.slice (some ⟨g, 0, none⟩) n cap)).drew (.slice (some ⟨g, 0, none⟩) n cap) ls (.node 5 0 ⟨#[]⟩ (l.dk ++ [l.key]) (l.dd ++ [X])) (.slice o3 (l.dk.length + 1) q3) (.slice o4 (l.dd.length + 1) q4) (FK ++ F)) := HPop.out.2.stay (blw_drewN (Below.refl _ _) 1)
  have HF7 : Hid (∀ b, b < wr.heap.size → b ≠ p → b ≠ g → b ∉ l.blocks → (w5.setCell ⟨p, 2, none⟩ (.slice (some ⟨g, 0, none⟩) n cap)).drew.heap[b]? = wr.heap[b]?) := fun b f1 f2 f3 f4 => (Below.heap_setCell w5 ⟨p, 2, none⟩ (.slice (some ⟨g, 0, none⟩) n cap) b (by show b ≠ p; exact f2)).trans (HF.out b f1 f2 f3 f4)
  have ZN7 : Hid ((w5.setCell ⟨p, 2, none⟩ (.slice (some ⟨g, 0, none⟩) n cap)).drew.heap[wr.heap.size + 1]? = some (.cells #[.int .i64 0, .int .i64 0, .string ⟨#[]⟩, .slice none 0 0, .slice none 0 0] 27 (0, 0))) := ZN6.out
  have hgz : ¬ (g = wr.heap.size + 1) := by have := HL.out.2.1; omega
  have r0 : (w5.setCell ⟨p, 2, none⟩ (.slice (some ⟨g, 0, none⟩) n cap)).drew.cell? ⟨g, n * 8, none⟩ = some (.int .i64 5) := (World.cell?_setCell_far w5 ⟨p, 2, none⟩ ⟨g, n * 8, none⟩ _ (by exact hgp)).trans t0
  have r1 : (w5.setCell ⟨p, 2, none⟩ (.slice (some ⟨g, 0, none⟩) n cap)).drew.cell? ⟨g, n * 8 + 1, none⟩ = some (.int .i64 0) := (World.cell?_setCell_far w5 ⟨p, 2, none⟩ ⟨g, n * 8 + 1, none⟩ _ (by exact hgp)).trans t1
  have r2 : (w5.setCell ⟨p, 2, none⟩ (.slice (some ⟨g, 0, none⟩) n cap)).drew.cell? ⟨g, n * 8 + 2, none⟩ = some (.string ⟨#[]⟩) := (World.cell?_setCell_far w5 ⟨p, 2, none⟩ ⟨g, n * 8 + 2, none⟩ _ (by exact hgp)).trans t2
  have r3 : (w5.setCell ⟨p, 2, none⟩ (.slice (some ⟨g, 0, none⟩) n cap)).drew.cell? ⟨g, n * 8 + 3, none⟩ = some (.slice o3 (l.dk.length + 1) q3) := (World.cell?_setCell_far w5 ⟨p, 2, none⟩ ⟨g, n * 8 + 3, none⟩ _ (by exact hgp)).trans t3
  have r4 : (w5.setCell ⟨p, 2, none⟩ (.slice (some ⟨g, 0, none⟩) n cap)).drew.cell? ⟨g, n * 8 + 4, none⟩ = some (.slice o4 (l.dd.length + 1) q4) := (World.cell?_setCell_far w5 ⟨p, 2, none⟩ ⟨g, n * 8 + 4, none⟩ _ (by exact hgp)).trans t4
  clear HPop ZN6 t0 t1 t2 t3 t4 x0 x1 x2 x3 x4 x5
  generalize (w5.setCell ⟨p, 2, none⟩ (.slice (some ⟨g, 0, none⟩) n cap)).drew = w7 at *
  obtain ⟨z0, z1, z2, z3, z4, z5⟩ := five ZN7.out
  go_wp2
  refine bodyPost_ret (ret_node3 Tryz.results97 rfl rfl rfl (set5_end ZN7.out _ _ _ _ _)) rfl ⟨_, _, cap, FK ++ F, rfl, HM7.out.set5 (by have := HL.out.1; omega) hp (fun x hx e => ?_) _ _ _ _ _, HH7.out.set5 (fun x hx e => ?_) _ _ _ _ _, fun b f1 f2 f3 f4 => (set5_other _ _ _ _ _ _ _ _ _ (by omega)).trans (HF7.out b f1 f2 f3 f4), fun y hy => HNP.out y hy⟩
  · rcases hx with hx | hx
    · have := HL.out.2.2.2 x hx; omega
    · simp [Value.ownBlock] at hx
      subst hx
      exact hgz e
  · rcases List.mem_append.1 hx with hx | hx
    · exact HNB.out x (List.mem_append_left _ hx) e
    · exact HNB.out x (List.mem_append_right _ hx) e

end Go.Proofs.YtmcjghhmcmkomaaGreatDoor
