/-
  What is proved: the outliner lays one level more behind all that is open.; the outliner begins a list or a map with its first line.
-/
import Derived.Test.YtmcjghhmcmkomaaGreatDoorOutD
import Derived.Test.YtmcjghhmcmkomaaGreatDoorPartAL
/- the outliner lays one level more behind all that is open. -/
namespace Go.Proofs.YtmcjghhmcmkomaaGreatDoor
open Go Go.RowKit

/-- A level that is new. -/
def newOl (k : Int) (mb : Nat) : Ol := ⟨k, [], [], ⟨#[]⟩, .slice none 0 0, .slice none 0 0, .map (some mb), [], [], [mb], []⟩

theorem newOl_ok {w0 wr : World} {k : Int} {mb : Nat} (hk : k = 4 ∨ k = 5) (h : Seen wr mb []) (h0 : w0.heap.size ≤ mb) : OlOk w0 wr (newOl k mb) := by
  refine ⟨⟨none, 0, 0, 0, rfl, Nat.le_refl _, Nat.zero_le _, fun h => absurd h (by simp), rfl, fun i hi => absurd hi (by simp [newOl]), Room.nil _ _ _⟩, Fresh.nil _ _, ⟨none, 0, 0, 0, fun _ => [], fun _ => .bool true, fun _ => .bool true, rfl, Nat.le_refl _, Nat.zero_le _, fun h => absurd h (by simp), rfl, fun i hi => absurd hi (by simp [newOl]), fun i hi => absurd hi (by simp [newOl]), Room.nil _ _ _⟩, Fresh.nil _ _, by show (0 : Nat) ≤ _; exact Nat.zero_le _, mb, rfl, rfl, h, h0, hk.elim .inl fun h => .inr ⟨h, rfl⟩, fun _ => .inl rfl, fun _ x hx => absurd hx (by simp [newOl])⟩

/-- One level more, laid by append. -/
theorem OStk.push {w0 wr : World} {ov : Value} {ls : List Ol} (h : OStk w0 wr ov ls) (hs : w0.heap.size ≤ wr.heap.size) (hl : ls.length ≤ 1048575) {l : Ol} (hok : OlOk w0 wr l) (hap : (ls.flatMap Ol.blocks ++ l.blocks).Nodup) (hnew : ∀ g, ov.ownBlock = some g → g ∉ l.blocks)
    (h1 : ∀ u ∈ l.cells, u.oneCell' = true) {xb : Nat} {t : TypeId} (hxb : wr.heap[xb]? = some (.cells l.cells.toArray t (0, 0))) (ty : TypeId) :
    ∃ g c w', (Builtin.append_ #[80, 80] ty #[ov, .slice (some ⟨xb, 0, none⟩) 1 1]).run Tryz.prog wr = .ok (.slice (some ⟨g, 0, none⟩) (ls.length + 1) c) w' ∧ OStk w0 w' (.slice (some ⟨g, 0, none⟩) (ls.length + 1) c) (ls ++ [l]) ∧ w0.heap.size ≤ g ∧ wr.grownBy w' ov.ownBlock := by
  obtain ⟨i0, hi0, hz0, hz1, hz2⟩ := info_parts info_level
  obtain ⟨v', w', hr, hown, hgr, -, hown'⟩ := run_append_own_at (P := Tryz.prog) wr w0.heap.size 80 ty 140 i0 _ 8 112 Tryz.underlying80 hi0 hz0 hz1 hz2 rfl (by decide) ov ls.length (ls.flatMap Ol.cells) h.row ⟨xb, 0, none⟩ 1 1 l.cells (by simp [ocells_len]) (World.news_of_block hxb) h1 (by unfold maxLen; omega) (by omega) hs
  rcases hown.2 with ⟨e, h0⟩ | ⟨g, cap, cur, rfl, k1, k2, k3, k4, k5, k6⟩
  · omega
  have hkeep : ∀ b ∈ ls.flatMap Ol.blocks ++ l.blocks, w'.heap[b]? = wr.heap[b]? := fun b hb => by
    rcases List.mem_append.1 hb with hb | hb
    · exact hgr.block b (h.blocks (.inl hb)).1 (fun e => h.mine b e.symm hb)
    · exact hgr.block b (hok.lt b hb) (fun e => hnew b e.symm hb)
  have hgnot : g ∉ ls.flatMap Ol.blocks ++ l.blocks := by
    intro hb
    rcases hown' with e | e
    · rcases List.mem_append.1 hb with hb | hb
      · exact h.mine g e.symm hb
      · exact hnew g e.symm hb
    · injection e with e
      have e : g = wr.heap.size := e
      rcases List.mem_append.1 hb with hb | hb
      · have := (h.blocks (.inl hb)).1; omega
      · have := hok.lt g hb; omega
  refine ⟨g, cap, w', hr, ⟨⟨by rw [oflat_len], .inr ⟨g, cap, cur, by simp, k1, k2, by simpa using k3, k4, k5, ?_⟩⟩, fun x hx => ?_, by rw [List.flatMap_append]; simpa using hap, fun q hq => ?_⟩, k1, hgr⟩
  · rw [List.flatMap_append]
    simpa using k6
  · rcases List.mem_append.1 hx with hx | hx
    · exact (h.each x hx).carry fun b hb => hkeep b (List.mem_append_left _ (List.mem_flatMap.2 ⟨x, hx, hb⟩))
    · simp at hx; subst hx
      exact hok.carry fun b hb => hkeep b (List.mem_append_right _ hb)
  · simp [Value.ownBlock] at hq
    subst hq
    rw [List.flatMap_append]
    simpa using hgnot

/-- What is laid behind all that is open, and stored into the reader. -/
theorem OMid.push {w0 wr0 wr wx : World} {p : Nat} {du : Bool} {en : Nat} {ov : Value} {ls : List Ol} (h : OMid w0 wr0 wr p du en ov ls) (hp : p < w0.heap.size) (hb : Below wr.heap.size wr wx) (hl : ls.length ≤ 1048575) {l : Ol} (hok : OlOk w0 wr l) (hap : (ls.flatMap Ol.blocks ++ l.blocks).Nodup) (hnew : ∀ g, ov.ownBlock = some g → g ∉ l.blocks)
    (h1 : ∀ u ∈ l.cells, u.oneCell' = true) {xb : Nat} {t : TypeId} (hxb : wx.heap[xb]? = some (.cells l.cells.toArray t (0, 0))) (ty : TypeId) :
    ∃ g c w', (Builtin.append_ #[80, 80] ty #[ov, .slice (some ⟨xb, 0, none⟩) 1 1]).run Tryz.prog wx = .ok (.slice (some ⟨g, 0, none⟩) (ls.length + 1) c) w' ∧ w'.heap[p]? = wr.heap[p]? ∧ wr.heap.size ≤ w'.heap.size ∧ wx.grownBy w' ov.ownBlock ∧
      OMid w0 wr0 (w'.setCell ⟨p, 0, none⟩ (.slice (some ⟨g, 0, none⟩) (ls.length + 1) c)) p du en (.slice (some ⟨g, 0, none⟩) (ls.length + 1) c) (ls ++ [l]) := by
  have hx := h.below hb
  have hok' : OlOk w0 wx l := hok.carry fun b hbl => hb.block b (hok.lt b hbl)
  obtain ⟨g, c, w', hr, hst, hg, hgr⟩ := hx.stk.push hx.hs hl hok' hap hnew h1 hxb ty
  have hold : ∀ b, b < w0.heap.size → w'.heap[b]? = wr.heap[b]? := fun b hbl => by
    rw [hgr.block b (Nat.lt_of_lt_of_le hbl hx.hs) (fun e => by have := (hx.stk.own e.symm).2; omega), hb.block b (Nat.lt_of_lt_of_le hbl h.hs)]
  have hpw : w'.heap[p]? = wr.heap[p]? := hold p hp
  have hsz : wr.heap.size ≤ w'.heap.size := Nat.le_trans hb.size hgr.size
  have hrd : OB w' p ov du en := hpw.trans h.ob
  refine ⟨g, c, w', hr, hpw, hsz, hgr, heap_set hrd 0 _, ?_, ?_, ?_⟩
  · refine hst.next (p := p) (grw_set w' p 0 _) hp
  · refine h.kp.trans ⟨hgr.os.trans hb.os, hgr.tape.trans hb.tape, hgr.output.trans hb.output, by simpa [World.setCell] using hsz, fun b hb1 hb2 => ?_⟩
    rw [Below.heap_setCell _ _ _ _ (by exact hb2)]
    exact hold b hb1
  · have : w0.heap.size ≤ w'.heap.size := Nat.le_trans h.hs hsz
    simpa [World.setCell] using this
theorem oaddA {w0 wr : World} {p : Nat} {du : Bool} {en : Nat} {ls : List Ol} {l : Ol} {g cap : Nat} {key value : ByteArray} (h : OMid w0 wr wr p du en (.slice (some ⟨g, 0, none⟩) (ls.length + 1) cap) (ls ++ [l])) (hp : p < w0.heap.size) (hen : en < 200) (hkey : key.size ≤ maxLen)
    (hk : l.k = 4 ∧ key = ⟨#[]⟩ ∨ l.k = 5 ∧ key ∉ l.dk) (hk2 : l.k = 5 → l.key ∈ l.dk ∨ l.ks = []) :
    Calls Tryz.prog 86 #[.pointer (some ⟨p, 0, none⟩), .agg #[.int .i64 l.k, .string key, .string value, .bool true]] wr fun e w' => e = .returned (.bool true) ∧ ∃ l', OMid w0 wr w' p true (en + 1) (.slice (some ⟨g, 0, none⟩) (ls.length + 1) cap) (ls ++ [l']) ∧ l'.pl = { l.pl with key := key } := by
  obtain ⟨mb, ks2, b, m1, m2, mt, mb4, mok⟩ := takes_of (h.stk.each l (by simp)) key hk hk2
  cases b
  · exact oaddFT h hp hen hkey m1 m2 mt mok
  · exact oaddTT h hp hen hkey m1 m2 mt (mb4 rfl) mok

theorem oaddV {w0 wr : World} {p : Nat} {du : Bool} {en : Nat} {ls : List Ol} {l : Ol} {g cap : Nat} {key value : ByteArray} (h : OMid w0 wr wr p du en (.slice (some ⟨g, 0, none⟩) (ls.length + 1) cap) (ls ++ [l])) (hp : p < w0.heap.size) (hen : en < 200) (hkey : key.size ≤ maxLen)
    (hk : l.k = 4 ∧ key = ⟨#[]⟩ ∨ l.k = 5 ∧ key ∉ l.dk) (hk2 : l.k = 5 → l.key ∈ l.dk ∨ l.ks = []) {X : RT} (hv : ValAt value X) (hfit : PL.fits { l.pl with key := key }) :
    Calls Tryz.prog 86 #[.pointer (some ⟨p, 0, none⟩), .agg #[.int .i64 l.k, .string key, .string value, .bool false]] wr fun e w' => e = .returned (.bool true) ∧ ∃ l', OMid w0 wr w' p false (en + 1) (.slice (some ⟨g, 0, none⟩) (ls.length + 1) cap) (ls ++ [l']) ∧ l'.pl = PL.put { l.pl with key := key } X := by
  obtain ⟨mb, ks2, b, m1, m2, mt, mb4, mok⟩ := takes_of (h.stk.each l (by simp)) key hk hk2
  cases b
  · exact oaddFF h hp hen hkey m1 m2 mt mok hv hfit
  · exact oaddTF h hp hen hkey m1 m2 mt (mb4 rfl) mok hv hfit

end Go.Proofs.YtmcjghhmcmkomaaGreatDoor

/- the outliner begins a list or a map with its first line. -/
set_option linter.unusedSimpArgs false
namespace Go.Proofs.YtmcjghhmcmkomaaGreatDoor
open Go Go.RowKit

/-- An append, by what it does. -/
theorem wp_apd {P : Program} {w : World} {o : Oper} {a : Act} {K : Act → World → Prop} {Q : Exit → Act → World → Prop} (s x : Operand) (t : TypeId) (ho : o.op = .call { callee := .builtin .append, args := #[s, x], argTypes := #[t, t] }) (v u : Value) (hs : a.eval s = v) (hx : a.eval x = u)
    {R : Value → World → Prop} (hr : ∃ v' w', (Builtin.append_ #[t, t] o.type #[v, u]).run P w = .ok v' w' ∧ R v' w') (h : ∀ v' w', R v' w' → K (a.put o.dst v') w') : o.wp P a w K Q := by
  obtain ⟨v', w', hr, hR⟩ := hr
  unfold Oper.wp execOp
  simp only [ho, resolve, invoke, builtin, Sem.run_bind, Sem.run_pure, Result.andThen_ok, List.map_toArray, List.map_cons, List.map_nil, hs, hx, hr]
  exact h _ _ hR

set_option maxRecDepth 100000 in
set_option maxHeartbeats 8000000 in
theorem obegA {w0 wr : World} {p : Nat} {en : Nat} {ov : Value} {ls : List Ol} {k : Int} {key value : ByteArray} (h : OMid w0 wr wr p true en ov ls) (hp : p < w0.heap.size) (hen : en < 200) (hll : ls.length ≤ 1048575) (hkey : key.size ≤ maxLen) (hk : k = 4 ∧ key = ⟨#[]⟩ ∨ k = 5) :
    Calls Tryz.prog 85 #[.pointer (some ⟨p, 0, none⟩), .agg #[.int .i64 k, .string key, .string value, .bool true]] wr fun e w' => e = .returned (.bool true) ∧ ∃ ov' l', OMid w0 wr w' p true (en + 1) ov' (ls ++ [l']) ∧ l'.pl = ⟨k, [], [], key⟩ := by
  obtain ⟨oo, cc, hov⟩ := h.lenv
  subst hov
  have hk45 : k = 4 ∨ k = 5 := hk.elim (fun h => .inl h.1) .inr
  have hk0 : (k == 0) = false := by rcases hk45 with h | h <;> rw [h] <;> decide
  have HBl : Hid (Below wr.heap.size wr (wr.alloc (.cells #[.int .i64 k, .string key, .string value, .bool true] 89))) := (Below.refl _ wr).alloc (Nat.le_refl _) _
  have Z0 := Lib.hid (heap_last wr (.cells #[.int .i64 k, .string key, .string value, .bool true] 89))
  have HM := Lib.hid h
  have HK : Hid ((newOl k (wr.heap.size + 1)).k = 4 ∧ key = ⟨#[]⟩ ∨ (newOl k (wr.heap.size + 1)).k = 5 ∧ key ∉ (newOl k (wr.heap.size + 1)).dk) := Lib.hid (hk.imp (fun h => h) (fun h => ⟨h, by simp [newOl]⟩))
  have HQ : Hid (∀ ty, ∃ v' w', (Builtin.append_ #[80, 80] ty #[.slice oo ls.length cc, .slice (some ⟨wr.heap.size + 2, 0, none⟩) 1 1]).run Tryz.prog (((wr.alloc (.cells #[.int .i64 k, .string key, .string value, .bool true] 89)).alloc (.map #[] 0)).alloc (.cells #[.int .i64 k, .int .i64 0, .string ⟨#[]⟩, .slice none 0 0, .slice none 0 0, .int .u8 0, .string ⟨#[]⟩, .map (some (wr.heap.size + 1))] 140)).drew = .ok v' w' ∧
      ∃ g c, v' = .slice (some ⟨g, 0, none⟩) (ls.length + 1) c ∧ w'.heap[wr.heap.size]? = some (.cells #[.int .i64 k, .string key, .string value, .bool true] 89 (0, 0)) ∧ OMid w0 wr (w'.setCell ⟨p, 0, none⟩ (.slice (some ⟨g, 0, none⟩) (ls.length + 1) c)) p true en (.slice (some ⟨g, 0, none⟩) (ls.length + 1) c) (ls ++ [newOl k (wr.heap.size + 1)]) ∧ OB w' p (.slice oo ls.length cc) true en) := fun ty => by
    have hs1 : (wr.alloc (.cells #[.int .i64 k, .string key, .string value, .bool true] 89)).heap.size = wr.heap.size + 1 := by simp
    have hb2 := (Below.refl _ (wr.alloc (.cells #[.int .i64 k, .string key, .string value, .bool true] 89))).alloc (Nat.le_refl _) (.map #[] 0)
    have h1 : OMid w0 wr ((wr.alloc (.cells #[.int .i64 k, .string key, .string value, .bool true] 89)).alloc (.map #[] 0)) p true en (.slice oo ls.length cc) ls := (h.below HBl.out).below hb2
    have hsn : Seen ((wr.alloc (.cells #[.int .i64 k, .string key, .string value, .bool true] 89)).alloc (.map #[] 0)) (wr.heap.size + 1) [] := by have := Seen.start (wr.alloc (.cells #[.int .i64 k, .string key, .string value, .bool true] 89)); rwa [hs1] at this
    have hsz2 : ((wr.alloc (.cells #[.int .i64 k, .string key, .string value, .bool true] 89)).alloc (.map #[] 0)).heap.size = wr.heap.size + 2 := by simp
    have hb3 : Below ((wr.alloc (.cells #[.int .i64 k, .string key, .string value, .bool true] 89)).alloc (.map #[] 0)).heap.size ((wr.alloc (.cells #[.int .i64 k, .string key, .string value, .bool true] 89)).alloc (.map #[] 0)) (((wr.alloc (.cells #[.int .i64 k, .string key, .string value, .bool true] 89)).alloc (.map #[] 0)).alloc (.cells #[.int .i64 k, .int .i64 0, .string ⟨#[]⟩, .slice none 0 0, .slice none 0 0, .int .u8 0, .string ⟨#[]⟩, .map (some (wr.heap.size + 1))] 140)).drew := blw_drewN ((Below.refl _ _).alloc (Nat.le_refl _) _) 1
    obtain ⟨g, c, w', hr, hpw, hsz, hgr, hM⟩ := h1.push hp hb3 hll (l := newOl k (wr.heap.size + 1)) (newOl_ok hk45 hsn (by have := h.hs; omega)) (by
      refine nodup_two h.stk.apart (by simp [newOl, Ol.blocks]) fun x hx hy => ?_
      have hy : x = wr.heap.size + 1 := by simpa [newOl, Ol.blocks] using hy
      have := (h.stk.blocks (.inl hx)).1; omega) (fun g hg hin => by
      have hin : g = wr.heap.size + 1 := by simpa [newOl, Ol.blocks] using hin
      have := (h.stk.blocks (.inr hg)).1; omega) (fun u hu => by simp [newOl, Ol.cells] at hu; rcases hu with rfl | rfl | rfl | rfl | rfl | rfl | rfl <;> rfl) (xb := wr.heap.size + 2) (t := 140) (by have := heap_last ((wr.alloc (.cells #[.int .i64 k, .string key, .string value, .bool true] 89)).alloc (.map #[] 0)) (.cells #[.int .i64 k, .int .i64 0, .string ⟨#[]⟩, .slice none 0 0, .slice none 0 0, .int .u8 0, .string ⟨#[]⟩, .map (some (wr.heap.size + 1))] 140); rw [hsz2] at this; exact this) ty
    refine ⟨_, w', hr, g, c, rfl, ?_, hM, hpw.trans h1.ob⟩
    rw [hgr.block wr.heap.size (by show _ < (((wr.alloc _).alloc _).alloc _).heap.size; simp; omega) (fun e => by have := (h.stk.blocks (.inr e.symm)).1; omega)]
    exact (Below.heap_alloc _ _ _ (by simp; omega)).trans ((Below.heap_alloc _ _ _ (by simp)).trans (heap_last wr _))
  obtain ⟨x0, x1, x2, x3⟩ := (h.below HBl.out).ob.eight
  have hpw : p < wr.heap.size := Nat.lt_of_lt_of_le hp h.hs
  have hne : wr.heap.size ≠ p := by omega
  have hne2 : p ≠ wr.heap.size := by omega
  have y0 : ((wr.alloc (.cells #[.int .i64 k, .string key, .string value, .bool true] 89)).alloc (.map #[] 0)).cell? ⟨p, 0, none⟩ = some (.slice oo ls.length cc) := (((Below.refl _ (wr.alloc (.cells #[.int .i64 k, .string key, .string value, .bool true] 89))).alloc (Nat.le_refl _) (.map #[] 0)).cell (p := ⟨p, 0, none⟩) (by simp; omega)).trans x0
  have y1 : (((wr.alloc (.cells #[.int .i64 k, .string key, .string value, .bool true] 89)).alloc (.map #[] 0)).alloc (.cells #[.int .i64 k, .int .i64 0, .string ⟨#[]⟩, .slice none 0 0, .slice none 0 0, .int .u8 0, .string ⟨#[]⟩, .map (some (wr.heap.size + 1))] 140)).cell? ⟨p, 0, none⟩ = some (.slice oo ls.length cc) := (((Below.refl _ ((wr.alloc (.cells #[.int .i64 k, .string key, .string value, .bool true] 89)).alloc (.map #[] 0))).alloc (Nat.le_refl _) (.cells #[.int .i64 k, .int .i64 0, .string ⟨#[]⟩, .slice none 0 0, .slice none 0 0, .int .u8 0, .string ⟨#[]⟩, .map (some (wr.heap.size + 1))] 140)).cell (p := ⟨p, 0, none⟩) (by simp; omega)).trans y0
  clear h
  go_enter Tryz.func85, Tryz.ntmps85
  obtain ⟨z0, z1, z2, z3, z4⟩ := four Z0.out
  have hmk : ∀ wx : World, (Instr.makeMap 138 none).run Tryz.prog wx = .ok (.map (some wx.heap.size)) (wx.alloc (.map #[] 0)) := fun _ => rfl
  go_wp2_with fail
  refine wp_region_held_drew (S := (fun w' => w'.cell? ⟨wr.heap.size, 0, none⟩ = some (.int .i64 k))) (by kernel_rfl) ?_ (fun hHeld => ?_)
  · go_keep
  refine takeD 0 20 (.pointer (some ⟨p, 0, none⟩)) rfl rfl (by kernel_rfl) (by kernel_rfl) (by kernel_rfl) (fun _ _ _ h => h) (Or.inl ⟨by rfl, ?_⟩) (by assumption) ?_
  · intro w hSw
    go_simp
  simp only [Act.put, List.setIfInBounds_toArray, List.set_cons_zero, List.set_cons_succ]
  refine takeD 1 21 (.pointer (some ⟨p, 0, none⟩)) rfl rfl (by kernel_rfl) (by kernel_rfl) (by kernel_rfl) (fun _ _ _ h => h) (Or.inl ⟨by rfl, ?_⟩) (by assumption) ?_
  · intro w hSw
    go_simp
  simp only [Act.put, List.setIfInBounds_toArray, List.set_cons_zero, List.set_cons_succ]
  refine takeD 2 22 (.pointer (some ⟨p, 0, none⟩)) rfl rfl (by kernel_rfl) (by kernel_rfl) (by kernel_rfl) (fun _ _ _ h => h) (Or.inl ⟨by rfl, ?_⟩) (by assumption) ?_
  · intro w hSw
    go_simp
  simp only [Act.put, List.setIfInBounds_toArray, List.set_cons_zero, List.set_cons_succ]
  refine takeD 3 23 (.pointer (some ⟨p, 0, none⟩)) rfl rfl (by kernel_rfl) (by kernel_rfl) (by kernel_rfl) (fun _ _ _ h => h) (Or.inl ⟨by rfl, ?_⟩) (by assumption) ?_
  · intro w hSw
    go_simp
  simp only [Act.put, List.setIfInBounds_toArray, List.set_cons_zero, List.set_cons_succ]
  refine takeD 5 25 (.pointer (some ⟨wr.heap.size, 0, none⟩)) rfl rfl (by kernel_rfl) (by kernel_rfl) (by kernel_rfl) (fun _ _ _ h => h) (Or.inl ⟨by rfl, ?_⟩) (by assumption) ?_
  · intro w hSw
    go_simp
  simp only [Act.put, List.setIfInBounds_toArray, List.set_cons_zero, List.set_cons_succ]
  refine takeD 6 26 (.int .i64 k) rfl rfl (by kernel_rfl) (by kernel_rfl) (by kernel_rfl) (fun _ _ _ h => h) (Or.inl ⟨by rfl, ?_⟩) (by assumption) ?_
  · intro w hSw
    go_simp
  simp only [Act.put, List.setIfInBounds_toArray, List.set_cons_zero, List.set_cons_succ]
  refine takeD 7 27 (.agg #[.int .i64 k, .int .i64 0, .string ⟨#[]⟩, .slice none 0 0, .slice none 0 0]) rfl rfl (by kernel_rfl) (by kernel_rfl) (by kernel_rfl) (fun _ _ _ h => h) (Or.inl ⟨by rfl, ?_⟩) (by assumption) ?_
  · intro w hSw
    go_simp
  simp only [Act.put, List.setIfInBounds_toArray, List.set_cons_zero, List.set_cons_succ]
  refine wpAnyH_ready (rs := [4, 8]) (by kernel_rfl) (by simp) ?_
  refine AllReadyH.cons (o := _) rfl (fun K hK => ?_) (AllReadyH.cons (o := _) rfl (fun K hK => ?_) AllReadyH.nil)
  · go_simp
    refine hK.out _ _ ?_ (fun hHeld => ?_)
    · go_keep
    clear hK K
    refine wpAnyH_ready (rs := [8]) (by kernel_rfl) (by simp) ?_
    refine AllReadyH.cons (o := _) rfl (fun K hK => ?_) AllReadyH.nil
    go_simp
    refine hK.out _ _ ?_ (fun hHeld => ?_)
    · go_keep
    clear hK K
    refine takeD 9 29 (.agg #[.int .i64 k, .int .i64 0, .string ⟨#[]⟩, .slice none 0 0, .slice none 0 0, .int .u8 0, .string ⟨#[]⟩, .map (some (wr.heap.size + 1))]) rfl rfl (by kernel_rfl) (by kernel_rfl) (by kernel_rfl) (fun _ _ _ h => h) (Or.inl ⟨by rfl, ?_⟩) (by assumption) ?_
    · intro w hSw
      go_simp
    simp only [Act.put, List.setIfInBounds_toArray, List.set_cons_zero, List.set_cons_succ]
    refine wpAnyH_ready (rs := [10]) (by kernel_rfl) (by simp) ?_
    refine AllReadyH.cons (o := _) rfl (fun K hK => ?_) AllReadyH.nil
    go_simp
    refine hK.out _ _ ?_ (fun hHeld => ?_)
    · go_keep
    clear hK K
    refine wpAnyH_ready (rs := [11]) (by kernel_rfl) (by simp) ?_
    refine AllReadyH.cons (o := _) rfl (fun K hK => ?_) AllReadyH.nil
    refine wp_apd _ _ 80 (by rfl) (.slice oo ls.length cc) (.slice (some ⟨wr.heap.size + 2, 0, none⟩) 1 1) (by rfl) (by rfl) (HQ.out _) ?_
    rintro v' w' ⟨g, c, rfl, hz, hM, ho⟩
    have HM2 := Lib.hid hM
    have HZ2 := Lib.hid hz
    have HO2 := Lib.hid ho
    obtain ⟨x0, x1, x2, x3⟩ := OB.eight ho
    obtain ⟨z0, z1, z2, z3, z4⟩ := four hz
    clear hM hz ho
    refine hK.out _ _ ?_ (fun hHeld => ?_)
    · exact z0
    clear hK K
    simp only [Act.put, List.setIfInBounds_toArray, List.set_cons_zero, List.set_cons_succ]
    refine takeD 12 32 (.pointer (some ⟨p, 0, none⟩)) rfl rfl (by kernel_rfl) (by kernel_rfl) (by kernel_rfl) (fun _ _ _ h => h) (Or.inl ⟨by rfl, ?_⟩) (by assumption) ?_
    · intro w hSw
      go_simp
    simp only [Act.put, List.setIfInBounds_toArray, List.set_cons_zero, List.set_cons_succ]
    refine takeD 13 33 (.pointer (some ⟨p, 0, none⟩)) rfl rfl (by kernel_rfl) (by kernel_rfl) (by kernel_rfl) (fun _ _ _ h => h) (Or.inl ⟨by rfl, ?_⟩) (by assumption) ?_
    · intro w hSw
      go_simp
    simp only [Act.put, List.setIfInBounds_toArray, List.set_cons_zero, List.set_cons_succ]
    refine wpAnyH_ready (rs := [14]) (by kernel_rfl) (by simp) ?_
    refine AllReadyH.cons (o := _) rfl (fun K hK => ?_) AllReadyH.nil
    go_simp
    refine hK.out _ _ ?_ (fun hHeld => ?_)
    · exact (World.cell?_setCell_far w' ⟨p, 0, none⟩ ⟨wr.heap.size, 0, none⟩ _ hne2).trans z0
    clear hK K
    refine wpAnyH_done (by kernel_rfl) ?_ _
    have zz : (w'.setCell ⟨p, 0, none⟩ (.slice (some ⟨g, 0, none⟩) (ls.length + 1) c)).heap[wr.heap.size]? = some (.cells #[.int .i64 k, .string key, .string value, .bool true] 89 (0, 0)) := (Below.heap_setCell _ _ _ _ (by exact hne)).trans HZ2.out
    clear x0 x1 x2 x3 z0 z1 z2 z3 z4 hHeld HQ
    obtain ⟨z0, z1, z2, z3, z4⟩ := four zz
    obtain ⟨x0, x1, x2, x3⟩ := HM2.out.ob.eight
    clear zz
    go_wp2_with fail
    refine (oaddA (HM2.out.here) hp hen hkey (l := newOl k (wr.heap.size + 1)) (HK.out) (fun _ => .inr rfl)).mono ?_
    rintro e w7 ⟨rfl, l', hM, hl'⟩
    have HM7 := Lib.hid (And.intro (hM.later HM2.out.kp) hl')
    clear hM hl' x0 x1 x2 x3 z0 z1 z2 z3 z4
    go_wp2
    go_ret
    exact ⟨rfl, _, l', HM7.out.1, HM7.out.2⟩
  · go_simp
    refine hK.out _ _ ?_ (fun hHeld => ?_)
    · go_keep
    clear hK K
    refine takeD 9 29 (.agg #[.int .i64 k, .int .i64 0, .string ⟨#[]⟩, .slice none 0 0, .slice none 0 0, .int .u8 0, .string ⟨#[]⟩, .map (some (wr.heap.size + 1))]) rfl rfl (by kernel_rfl) (by kernel_rfl) (by kernel_rfl) (fun _ _ _ h => h) (Or.inl ⟨by rfl, ?_⟩) (by assumption) ?_
    · intro w hSw
      go_simp
    simp only [Act.put, List.setIfInBounds_toArray, List.set_cons_zero, List.set_cons_succ]
    refine wpAnyH_ready (rs := [4, 10]) (by kernel_rfl) (by simp) ?_
    refine AllReadyH.cons (o := _) rfl (fun K hK => ?_) (AllReadyH.cons (o := _) rfl (fun K hK => ?_) AllReadyH.nil)
    · go_simp
      refine hK.out _ _ ?_ (fun hHeld => ?_)
      · go_keep
      clear hK K
      refine wpAnyH_ready (rs := [10]) (by kernel_rfl) (by simp) ?_
      refine AllReadyH.cons (o := _) rfl (fun K hK => ?_) AllReadyH.nil
      go_simp
      refine hK.out _ _ ?_ (fun hHeld => ?_)
      · go_keep
      clear hK K
      refine wpAnyH_ready (rs := [11]) (by kernel_rfl) (by simp) ?_
      refine AllReadyH.cons (o := _) rfl (fun K hK => ?_) AllReadyH.nil
      refine wp_apd _ _ 80 (by rfl) (.slice oo ls.length cc) (.slice (some ⟨wr.heap.size + 2, 0, none⟩) 1 1) (by rfl) (by rfl) (HQ.out _) ?_
      rintro v' w' ⟨g, c, rfl, hz, hM, ho⟩
      have HM2 := Lib.hid hM
      have HZ2 := Lib.hid hz
      have HO2 := Lib.hid ho
      obtain ⟨x0, x1, x2, x3⟩ := OB.eight ho
      obtain ⟨z0, z1, z2, z3, z4⟩ := four hz
      clear hM hz ho
      refine hK.out _ _ ?_ (fun hHeld => ?_)
      · exact z0
      clear hK K
      simp only [Act.put, List.setIfInBounds_toArray, List.set_cons_zero, List.set_cons_succ]
      refine takeD 12 32 (.pointer (some ⟨p, 0, none⟩)) rfl rfl (by kernel_rfl) (by kernel_rfl) (by kernel_rfl) (fun _ _ _ h => h) (Or.inl ⟨by rfl, ?_⟩) (by assumption) ?_
      · intro w hSw
        go_simp
      simp only [Act.put, List.setIfInBounds_toArray, List.set_cons_zero, List.set_cons_succ]
      refine takeD 13 33 (.pointer (some ⟨p, 0, none⟩)) rfl rfl (by kernel_rfl) (by kernel_rfl) (by kernel_rfl) (fun _ _ _ h => h) (Or.inl ⟨by rfl, ?_⟩) (by assumption) ?_
      · intro w hSw
        go_simp
      simp only [Act.put, List.setIfInBounds_toArray, List.set_cons_zero, List.set_cons_succ]
      refine wpAnyH_ready (rs := [14]) (by kernel_rfl) (by simp) ?_
      refine AllReadyH.cons (o := _) rfl (fun K hK => ?_) AllReadyH.nil
      go_simp
      refine hK.out _ _ ?_ (fun hHeld => ?_)
      · exact (World.cell?_setCell_far w' ⟨p, 0, none⟩ ⟨wr.heap.size, 0, none⟩ _ hne2).trans z0
      clear hK K
      refine wpAnyH_done (by kernel_rfl) ?_ _
      have zz : (w'.setCell ⟨p, 0, none⟩ (.slice (some ⟨g, 0, none⟩) (ls.length + 1) c)).heap[wr.heap.size]? = some (.cells #[.int .i64 k, .string key, .string value, .bool true] 89 (0, 0)) := (Below.heap_setCell _ _ _ _ (by exact hne)).trans HZ2.out
      clear x0 x1 x2 x3 z0 z1 z2 z3 z4 hHeld HQ
      obtain ⟨z0, z1, z2, z3, z4⟩ := four zz
      obtain ⟨x0, x1, x2, x3⟩ := HM2.out.ob.eight
      clear zz
      go_wp2_with fail
      refine (oaddA (HM2.out.here) hp hen hkey (l := newOl k (wr.heap.size + 1)) (HK.out) (fun _ => .inr rfl)).mono ?_
      rintro e w7 ⟨rfl, l', hM, hl'⟩
      have HM7 := Lib.hid (And.intro (hM.later HM2.out.kp) hl')
      clear hM hl' x0 x1 x2 x3 z0 z1 z2 z3 z4
      go_wp2
      go_ret
      exact ⟨rfl, _, l', HM7.out.1, HM7.out.2⟩
    · go_simp
      refine hK.out _ _ ?_ (fun hHeld => ?_)
      · go_keep
      clear hK K
      refine wpAnyH_ready (rs := [4]) (by kernel_rfl) (by simp) ?_
      refine AllReadyH.cons (o := _) rfl (fun K hK => ?_) AllReadyH.nil
      go_simp
      refine hK.out _ _ ?_ (fun hHeld => ?_)
      · go_keep
      clear hK K
      refine wpAnyH_ready (rs := [11]) (by kernel_rfl) (by simp) ?_
      refine AllReadyH.cons (o := _) rfl (fun K hK => ?_) AllReadyH.nil
      refine wp_apd _ _ 80 (by rfl) (.slice oo ls.length cc) (.slice (some ⟨wr.heap.size + 2, 0, none⟩) 1 1) (by rfl) (by rfl) (HQ.out _) ?_
      rintro v' w' ⟨g, c, rfl, hz, hM, ho⟩
      have HM2 := Lib.hid hM
      have HZ2 := Lib.hid hz
      have HO2 := Lib.hid ho
      obtain ⟨x0, x1, x2, x3⟩ := OB.eight ho
      obtain ⟨z0, z1, z2, z3, z4⟩ := four hz
      clear hM hz ho
      refine hK.out _ _ ?_ (fun hHeld => ?_)
      · exact z0
      clear hK K
      simp only [Act.put, List.setIfInBounds_toArray, List.set_cons_zero, List.set_cons_succ]
      refine takeD 12 32 (.pointer (some ⟨p, 0, none⟩)) rfl rfl (by kernel_rfl) (by kernel_rfl) (by kernel_rfl) (fun _ _ _ h => h) (Or.inl ⟨by rfl, ?_⟩) (by assumption) ?_
      · intro w hSw
        go_simp
      simp only [Act.put, List.setIfInBounds_toArray, List.set_cons_zero, List.set_cons_succ]
      refine takeD 13 33 (.pointer (some ⟨p, 0, none⟩)) rfl rfl (by kernel_rfl) (by kernel_rfl) (by kernel_rfl) (fun _ _ _ h => h) (Or.inl ⟨by rfl, ?_⟩) (by assumption) ?_
      · intro w hSw
        go_simp
      simp only [Act.put, List.setIfInBounds_toArray, List.set_cons_zero, List.set_cons_succ]
      refine wpAnyH_ready (rs := [14]) (by kernel_rfl) (by simp) ?_
      refine AllReadyH.cons (o := _) rfl (fun K hK => ?_) AllReadyH.nil
      go_simp
      refine hK.out _ _ ?_ (fun hHeld => ?_)
      · exact (World.cell?_setCell_far w' ⟨p, 0, none⟩ ⟨wr.heap.size, 0, none⟩ _ hne2).trans z0
      clear hK K
      refine wpAnyH_done (by kernel_rfl) ?_ _
      have zz : (w'.setCell ⟨p, 0, none⟩ (.slice (some ⟨g, 0, none⟩) (ls.length + 1) c)).heap[wr.heap.size]? = some (.cells #[.int .i64 k, .string key, .string value, .bool true] 89 (0, 0)) := (Below.heap_setCell _ _ _ _ (by exact hne)).trans HZ2.out
      clear x0 x1 x2 x3 z0 z1 z2 z3 z4 hHeld HQ
      obtain ⟨z0, z1, z2, z3, z4⟩ := four zz
      obtain ⟨x0, x1, x2, x3⟩ := HM2.out.ob.eight
      clear zz
      go_wp2_with fail
      refine (oaddA (HM2.out.here) hp hen hkey (l := newOl k (wr.heap.size + 1)) (HK.out) (fun _ => .inr rfl)).mono ?_
      rintro e w7 ⟨rfl, l', hM, hl'⟩
      have HM7 := Lib.hid (And.intro (hM.later HM2.out.kp) hl')
      clear hM hl' x0 x1 x2 x3 z0 z1 z2 z3 z4
      go_wp2
      go_ret
      exact ⟨rfl, _, l', HM7.out.1, HM7.out.2⟩

set_option maxRecDepth 100000 in
set_option maxHeartbeats 8000000 in
theorem obegV {w0 wr : World} {p : Nat} {en : Nat} {ov : Value} {ls : List Ol} {k : Int} {key value : ByteArray} (h : OMid w0 wr wr p true en ov ls) (hp : p < w0.heap.size) (hen : en < 200) (hll : ls.length ≤ 1048575) (hkey : key.size ≤ maxLen) (hk : k = 4 ∧ key = ⟨#[]⟩ ∨ k = 5) {X : RT} (hv : ValAt value X) (hfit : PL.fits ⟨k, [], [], key⟩) :
    Calls Tryz.prog 85 #[.pointer (some ⟨p, 0, none⟩), .agg #[.int .i64 k, .string key, .string value, .bool false]] wr fun e w' => e = .returned (.bool true) ∧ ∃ ov' l', OMid w0 wr w' p false (en + 1) ov' (ls ++ [l']) ∧ l'.pl = PL.put ⟨k, [], [], key⟩ X := by
  have HV := Lib.hid (And.intro hv hfit)
  clear hv hfit
  obtain ⟨oo, cc, hov⟩ := h.lenv
  subst hov
  have hk45 : k = 4 ∨ k = 5 := hk.elim (fun h => .inl h.1) .inr
  have hk0 : (k == 0) = false := by rcases hk45 with h | h <;> rw [h] <;> decide
  have HBl : Hid (Below wr.heap.size wr (wr.alloc (.cells #[.int .i64 k, .string key, .string value, .bool false] 89))) := (Below.refl _ wr).alloc (Nat.le_refl _) _
  have Z0 := Lib.hid (heap_last wr (.cells #[.int .i64 k, .string key, .string value, .bool false] 89))
  have HM := Lib.hid h
  have HK : Hid ((newOl k (wr.heap.size + 1)).k = 4 ∧ key = ⟨#[]⟩ ∨ (newOl k (wr.heap.size + 1)).k = 5 ∧ key ∉ (newOl k (wr.heap.size + 1)).dk) := Lib.hid (hk.imp (fun h => h) (fun h => ⟨h, by simp [newOl]⟩))
  have HQ : Hid (∀ ty, ∃ v' w', (Builtin.append_ #[80, 80] ty #[.slice oo ls.length cc, .slice (some ⟨wr.heap.size + 2, 0, none⟩) 1 1]).run Tryz.prog (((wr.alloc (.cells #[.int .i64 k, .string key, .string value, .bool false] 89)).alloc (.map #[] 0)).alloc (.cells #[.int .i64 k, .int .i64 0, .string ⟨#[]⟩, .slice none 0 0, .slice none 0 0, .int .u8 0, .string ⟨#[]⟩, .map (some (wr.heap.size + 1))] 140)).drew = .ok v' w' ∧
      ∃ g c, v' = .slice (some ⟨g, 0, none⟩) (ls.length + 1) c ∧ w'.heap[wr.heap.size]? = some (.cells #[.int .i64 k, .string key, .string value, .bool false] 89 (0, 0)) ∧ OMid w0 wr (w'.setCell ⟨p, 0, none⟩ (.slice (some ⟨g, 0, none⟩) (ls.length + 1) c)) p true en (.slice (some ⟨g, 0, none⟩) (ls.length + 1) c) (ls ++ [newOl k (wr.heap.size + 1)]) ∧ OB w' p (.slice oo ls.length cc) true en) := fun ty => by
    have hs1 : (wr.alloc (.cells #[.int .i64 k, .string key, .string value, .bool false] 89)).heap.size = wr.heap.size + 1 := by simp
    have hb2 := (Below.refl _ (wr.alloc (.cells #[.int .i64 k, .string key, .string value, .bool false] 89))).alloc (Nat.le_refl _) (.map #[] 0)
    have h1 : OMid w0 wr ((wr.alloc (.cells #[.int .i64 k, .string key, .string value, .bool false] 89)).alloc (.map #[] 0)) p true en (.slice oo ls.length cc) ls := (h.below HBl.out).below hb2
    have hsn : Seen ((wr.alloc (.cells #[.int .i64 k, .string key, .string value, .bool false] 89)).alloc (.map #[] 0)) (wr.heap.size + 1) [] := by have := Seen.start (wr.alloc (.cells #[.int .i64 k, .string key, .string value, .bool false] 89)); rwa [hs1] at this
    have hsz2 : ((wr.alloc (.cells #[.int .i64 k, .string key, .string value, .bool false] 89)).alloc (.map #[] 0)).heap.size = wr.heap.size + 2 := by simp
    have hb3 : Below ((wr.alloc (.cells #[.int .i64 k, .string key, .string value, .bool false] 89)).alloc (.map #[] 0)).heap.size ((wr.alloc (.cells #[.int .i64 k, .string key, .string value, .bool false] 89)).alloc (.map #[] 0)) (((wr.alloc (.cells #[.int .i64 k, .string key, .string value, .bool false] 89)).alloc (.map #[] 0)).alloc (.cells #[.int .i64 k, .int .i64 0, .string ⟨#[]⟩, .slice none 0 0, .slice none 0 0, .int .u8 0, .string ⟨#[]⟩, .map (some (wr.heap.size + 1))] 140)).drew := blw_drewN ((Below.refl _ _).alloc (Nat.le_refl _) _) 1
    obtain ⟨g, c, w', hr, hpw, hsz, hgr, hM⟩ := h1.push hp hb3 hll (l := newOl k (wr.heap.size + 1)) (newOl_ok hk45 hsn (by have := h.hs; omega)) (by
      refine nodup_two h.stk.apart (by simp [newOl, Ol.blocks]) fun x hx hy => ?_
      have hy : x = wr.heap.size + 1 := by simpa [newOl, Ol.blocks] using hy
      have := (h.stk.blocks (.inl hx)).1; omega) (fun g hg hin => by
      have hin : g = wr.heap.size + 1 := by simpa [newOl, Ol.blocks] using hin
      have := (h.stk.blocks (.inr hg)).1; omega) (fun u hu => by simp [newOl, Ol.cells] at hu; rcases hu with rfl | rfl | rfl | rfl | rfl | rfl | rfl <;> rfl) (xb := wr.heap.size + 2) (t := 140) (by have := heap_last ((wr.alloc (.cells #[.int .i64 k, .string key, .string value, .bool false] 89)).alloc (.map #[] 0)) (.cells #[.int .i64 k, .int .i64 0, .string ⟨#[]⟩, .slice none 0 0, .slice none 0 0, .int .u8 0, .string ⟨#[]⟩, .map (some (wr.heap.size + 1))] 140); rw [hsz2] at this; exact this) ty
    refine ⟨_, w', hr, g, c, rfl, ?_, hM, hpw.trans h1.ob⟩
    rw [hgr.block wr.heap.size (by show _ < (((wr.alloc _).alloc _).alloc _).heap.size; simp; omega) (fun e => by have := (h.stk.blocks (.inr e.symm)).1; omega)]
    exact (Below.heap_alloc _ _ _ (by simp; omega)).trans ((Below.heap_alloc _ _ _ (by simp)).trans (heap_last wr _))
  obtain ⟨x0, x1, x2, x3⟩ := (h.below HBl.out).ob.eight
  have hpw : p < wr.heap.size := Nat.lt_of_lt_of_le hp h.hs
  have hne : wr.heap.size ≠ p := by omega
  have hne2 : p ≠ wr.heap.size := by omega
  have y0 : ((wr.alloc (.cells #[.int .i64 k, .string key, .string value, .bool false] 89)).alloc (.map #[] 0)).cell? ⟨p, 0, none⟩ = some (.slice oo ls.length cc) := (((Below.refl _ (wr.alloc (.cells #[.int .i64 k, .string key, .string value, .bool false] 89))).alloc (Nat.le_refl _) (.map #[] 0)).cell (p := ⟨p, 0, none⟩) (by simp; omega)).trans x0
  have y1 : (((wr.alloc (.cells #[.int .i64 k, .string key, .string value, .bool false] 89)).alloc (.map #[] 0)).alloc (.cells #[.int .i64 k, .int .i64 0, .string ⟨#[]⟩, .slice none 0 0, .slice none 0 0, .int .u8 0, .string ⟨#[]⟩, .map (some (wr.heap.size + 1))] 140)).cell? ⟨p, 0, none⟩ = some (.slice oo ls.length cc) := (((Below.refl _ ((wr.alloc (.cells #[.int .i64 k, .string key, .string value, .bool false] 89)).alloc (.map #[] 0))).alloc (Nat.le_refl _) (.cells #[.int .i64 k, .int .i64 0, .string ⟨#[]⟩, .slice none 0 0, .slice none 0 0, .int .u8 0, .string ⟨#[]⟩, .map (some (wr.heap.size + 1))] 140)).cell (p := ⟨p, 0, none⟩) (by simp; omega)).trans y0
  clear h
  go_enter Tryz.func85, Tryz.ntmps85
  obtain ⟨z0, z1, z2, z3, z4⟩ := four Z0.out
  have hmk : ∀ wx : World, (Instr.makeMap 138 none).run Tryz.prog wx = .ok (.map (some wx.heap.size)) (wx.alloc (.map #[] 0)) := fun _ => rfl
  go_wp2_with fail
  refine wp_region_held_drew (S := (fun w' => w'.cell? ⟨wr.heap.size, 0, none⟩ = some (.int .i64 k))) (by kernel_rfl) ?_ (fun hHeld => ?_)
  · go_keep
  refine takeD 0 20 (.pointer (some ⟨p, 0, none⟩)) rfl rfl (by kernel_rfl) (by kernel_rfl) (by kernel_rfl) (fun _ _ _ h => h) (Or.inl ⟨by rfl, ?_⟩) (by assumption) ?_
  · intro w hSw
    go_simp
  simp only [Act.put, List.setIfInBounds_toArray, List.set_cons_zero, List.set_cons_succ]
  refine takeD 1 21 (.pointer (some ⟨p, 0, none⟩)) rfl rfl (by kernel_rfl) (by kernel_rfl) (by kernel_rfl) (fun _ _ _ h => h) (Or.inl ⟨by rfl, ?_⟩) (by assumption) ?_
  · intro w hSw
    go_simp
  simp only [Act.put, List.setIfInBounds_toArray, List.set_cons_zero, List.set_cons_succ]
  refine takeD 2 22 (.pointer (some ⟨p, 0, none⟩)) rfl rfl (by kernel_rfl) (by kernel_rfl) (by kernel_rfl) (fun _ _ _ h => h) (Or.inl ⟨by rfl, ?_⟩) (by assumption) ?_
  · intro w hSw
    go_simp
  simp only [Act.put, List.setIfInBounds_toArray, List.set_cons_zero, List.set_cons_succ]
  refine takeD 3 23 (.pointer (some ⟨p, 0, none⟩)) rfl rfl (by kernel_rfl) (by kernel_rfl) (by kernel_rfl) (fun _ _ _ h => h) (Or.inl ⟨by rfl, ?_⟩) (by assumption) ?_
  · intro w hSw
    go_simp
  simp only [Act.put, List.setIfInBounds_toArray, List.set_cons_zero, List.set_cons_succ]
  refine takeD 5 25 (.pointer (some ⟨wr.heap.size, 0, none⟩)) rfl rfl (by kernel_rfl) (by kernel_rfl) (by kernel_rfl) (fun _ _ _ h => h) (Or.inl ⟨by rfl, ?_⟩) (by assumption) ?_
  · intro w hSw
    go_simp
  simp only [Act.put, List.setIfInBounds_toArray, List.set_cons_zero, List.set_cons_succ]
  refine takeD 6 26 (.int .i64 k) rfl rfl (by kernel_rfl) (by kernel_rfl) (by kernel_rfl) (fun _ _ _ h => h) (Or.inl ⟨by rfl, ?_⟩) (by assumption) ?_
  · intro w hSw
    go_simp
  simp only [Act.put, List.setIfInBounds_toArray, List.set_cons_zero, List.set_cons_succ]
  refine takeD 7 27 (.agg #[.int .i64 k, .int .i64 0, .string ⟨#[]⟩, .slice none 0 0, .slice none 0 0]) rfl rfl (by kernel_rfl) (by kernel_rfl) (by kernel_rfl) (fun _ _ _ h => h) (Or.inl ⟨by rfl, ?_⟩) (by assumption) ?_
  · intro w hSw
    go_simp
  simp only [Act.put, List.setIfInBounds_toArray, List.set_cons_zero, List.set_cons_succ]
  refine wpAnyH_ready (rs := [4, 8]) (by kernel_rfl) (by simp) ?_
  refine AllReadyH.cons (o := _) rfl (fun K hK => ?_) (AllReadyH.cons (o := _) rfl (fun K hK => ?_) AllReadyH.nil)
  · go_simp
    refine hK.out _ _ ?_ (fun hHeld => ?_)
    · go_keep
    clear hK K
    refine wpAnyH_ready (rs := [8]) (by kernel_rfl) (by simp) ?_
    refine AllReadyH.cons (o := _) rfl (fun K hK => ?_) AllReadyH.nil
    go_simp
    refine hK.out _ _ ?_ (fun hHeld => ?_)
    · go_keep
    clear hK K
    refine takeD 9 29 (.agg #[.int .i64 k, .int .i64 0, .string ⟨#[]⟩, .slice none 0 0, .slice none 0 0, .int .u8 0, .string ⟨#[]⟩, .map (some (wr.heap.size + 1))]) rfl rfl (by kernel_rfl) (by kernel_rfl) (by kernel_rfl) (fun _ _ _ h => h) (Or.inl ⟨by rfl, ?_⟩) (by assumption) ?_
    · intro w hSw
      go_simp
    simp only [Act.put, List.setIfInBounds_toArray, List.set_cons_zero, List.set_cons_succ]
    refine wpAnyH_ready (rs := [10]) (by kernel_rfl) (by simp) ?_
    refine AllReadyH.cons (o := _) rfl (fun K hK => ?_) AllReadyH.nil
    go_simp
    refine hK.out _ _ ?_ (fun hHeld => ?_)
    · go_keep
    clear hK K
    refine wpAnyH_ready (rs := [11]) (by kernel_rfl) (by simp) ?_
    refine AllReadyH.cons (o := _) rfl (fun K hK => ?_) AllReadyH.nil
    refine wp_apd _ _ 80 (by rfl) (.slice oo ls.length cc) (.slice (some ⟨wr.heap.size + 2, 0, none⟩) 1 1) (by rfl) (by rfl) (HQ.out _) ?_
    rintro v' w' ⟨g, c, rfl, hz, hM, ho⟩
    have HM2 := Lib.hid hM
    have HZ2 := Lib.hid hz
    have HO2 := Lib.hid ho
    obtain ⟨x0, x1, x2, x3⟩ := OB.eight ho
    obtain ⟨z0, z1, z2, z3, z4⟩ := four hz
    clear hM hz ho
    refine hK.out _ _ ?_ (fun hHeld => ?_)
    · exact z0
    clear hK K
    simp only [Act.put, List.setIfInBounds_toArray, List.set_cons_zero, List.set_cons_succ]
    refine takeD 12 32 (.pointer (some ⟨p, 0, none⟩)) rfl rfl (by kernel_rfl) (by kernel_rfl) (by kernel_rfl) (fun _ _ _ h => h) (Or.inl ⟨by rfl, ?_⟩) (by assumption) ?_
    · intro w hSw
      go_simp
    simp only [Act.put, List.setIfInBounds_toArray, List.set_cons_zero, List.set_cons_succ]
    refine takeD 13 33 (.pointer (some ⟨p, 0, none⟩)) rfl rfl (by kernel_rfl) (by kernel_rfl) (by kernel_rfl) (fun _ _ _ h => h) (Or.inl ⟨by rfl, ?_⟩) (by assumption) ?_
    · intro w hSw
      go_simp
    simp only [Act.put, List.setIfInBounds_toArray, List.set_cons_zero, List.set_cons_succ]
    refine wpAnyH_ready (rs := [14]) (by kernel_rfl) (by simp) ?_
    refine AllReadyH.cons (o := _) rfl (fun K hK => ?_) AllReadyH.nil
    go_simp
    refine hK.out _ _ ?_ (fun hHeld => ?_)
    · exact (World.cell?_setCell_far w' ⟨p, 0, none⟩ ⟨wr.heap.size, 0, none⟩ _ hne2).trans z0
    clear hK K
    refine wpAnyH_done (by kernel_rfl) ?_ _
    have zz : (w'.setCell ⟨p, 0, none⟩ (.slice (some ⟨g, 0, none⟩) (ls.length + 1) c)).heap[wr.heap.size]? = some (.cells #[.int .i64 k, .string key, .string value, .bool false] 89 (0, 0)) := (Below.heap_setCell _ _ _ _ (by exact hne)).trans HZ2.out
    clear x0 x1 x2 x3 z0 z1 z2 z3 z4 hHeld HQ
    obtain ⟨z0, z1, z2, z3, z4⟩ := four zz
    obtain ⟨x0, x1, x2, x3⟩ := HM2.out.ob.eight
    clear zz
    go_wp2_with fail
    refine (oaddV (HM2.out.here) hp hen hkey (l := newOl k (wr.heap.size + 1)) (HK.out) (fun _ => .inr rfl) HV.out.1 HV.out.2).mono ?_
    rintro e w7 ⟨rfl, l', hM, hl'⟩
    have HM7 := Lib.hid (And.intro (hM.later HM2.out.kp) hl')
    clear hM hl' x0 x1 x2 x3 z0 z1 z2 z3 z4
    go_wp2
    go_ret
    exact ⟨rfl, _, l', HM7.out.1, HM7.out.2⟩
  · go_simp
    refine hK.out _ _ ?_ (fun hHeld => ?_)
    · go_keep
    clear hK K
    refine takeD 9 29 (.agg #[.int .i64 k, .int .i64 0, .string ⟨#[]⟩, .slice none 0 0, .slice none 0 0, .int .u8 0, .string ⟨#[]⟩, .map (some (wr.heap.size + 1))]) rfl rfl (by kernel_rfl) (by kernel_rfl) (by kernel_rfl) (fun _ _ _ h => h) (Or.inl ⟨by rfl, ?_⟩) (by assumption) ?_
    · intro w hSw
      go_simp
    simp only [Act.put, List.setIfInBounds_toArray, List.set_cons_zero, List.set_cons_succ]
    refine wpAnyH_ready (rs := [4, 10]) (by kernel_rfl) (by simp) ?_
    refine AllReadyH.cons (o := _) rfl (fun K hK => ?_) (AllReadyH.cons (o := _) rfl (fun K hK => ?_) AllReadyH.nil)
    · go_simp
      refine hK.out _ _ ?_ (fun hHeld => ?_)
      · go_keep
      clear hK K
      refine wpAnyH_ready (rs := [10]) (by kernel_rfl) (by simp) ?_
      refine AllReadyH.cons (o := _) rfl (fun K hK => ?_) AllReadyH.nil
      go_simp
      refine hK.out _ _ ?_ (fun hHeld => ?_)
      · go_keep
      clear hK K
      refine wpAnyH_ready (rs := [11]) (by kernel_rfl) (by simp) ?_
      refine AllReadyH.cons (o := _) rfl (fun K hK => ?_) AllReadyH.nil
      refine wp_apd _ _ 80 (by rfl) (.slice oo ls.length cc) (.slice (some ⟨wr.heap.size + 2, 0, none⟩) 1 1) (by rfl) (by rfl) (HQ.out _) ?_
      rintro v' w' ⟨g, c, rfl, hz, hM, ho⟩
      have HM2 := Lib.hid hM
      have HZ2 := Lib.hid hz
      have HO2 := Lib.hid ho
      obtain ⟨x0, x1, x2, x3⟩ := OB.eight ho
      obtain ⟨z0, z1, z2, z3, z4⟩ := four hz
      clear hM hz ho
      refine hK.out _ _ ?_ (fun hHeld => ?_)
      · exact z0
      clear hK K
      simp only [Act.put, List.setIfInBounds_toArray, List.set_cons_zero, List.set_cons_succ]
      refine takeD 12 32 (.pointer (some ⟨p, 0, none⟩)) rfl rfl (by kernel_rfl) (by kernel_rfl) (by kernel_rfl) (fun _ _ _ h => h) (Or.inl ⟨by rfl, ?_⟩) (by assumption) ?_
      · intro w hSw
        go_simp
      simp only [Act.put, List.setIfInBounds_toArray, List.set_cons_zero, List.set_cons_succ]
      refine takeD 13 33 (.pointer (some ⟨p, 0, none⟩)) rfl rfl (by kernel_rfl) (by kernel_rfl) (by kernel_rfl) (fun _ _ _ h => h) (Or.inl ⟨by rfl, ?_⟩) (by assumption) ?_
      · intro w hSw
        go_simp
      simp only [Act.put, List.setIfInBounds_toArray, List.set_cons_zero, List.set_cons_succ]
      refine wpAnyH_ready (rs := [14]) (by kernel_rfl) (by simp) ?_
      refine AllReadyH.cons (o := _) rfl (fun K hK => ?_) AllReadyH.nil
      go_simp
      refine hK.out _ _ ?_ (fun hHeld => ?_)
      · exact (World.cell?_setCell_far w' ⟨p, 0, none⟩ ⟨wr.heap.size, 0, none⟩ _ hne2).trans z0
      clear hK K
      refine wpAnyH_done (by kernel_rfl) ?_ _
      have zz : (w'.setCell ⟨p, 0, none⟩ (.slice (some ⟨g, 0, none⟩) (ls.length + 1) c)).heap[wr.heap.size]? = some (.cells #[.int .i64 k, .string key, .string value, .bool false] 89 (0, 0)) := (Below.heap_setCell _ _ _ _ (by exact hne)).trans HZ2.out
      clear x0 x1 x2 x3 z0 z1 z2 z3 z4 hHeld HQ
      obtain ⟨z0, z1, z2, z3, z4⟩ := four zz
      obtain ⟨x0, x1, x2, x3⟩ := HM2.out.ob.eight
      clear zz
      go_wp2_with fail
      refine (oaddV (HM2.out.here) hp hen hkey (l := newOl k (wr.heap.size + 1)) (HK.out) (fun _ => .inr rfl) HV.out.1 HV.out.2).mono ?_
      rintro e w7 ⟨rfl, l', hM, hl'⟩
      have HM7 := Lib.hid (And.intro (hM.later HM2.out.kp) hl')
      clear hM hl' x0 x1 x2 x3 z0 z1 z2 z3 z4
      go_wp2
      go_ret
      exact ⟨rfl, _, l', HM7.out.1, HM7.out.2⟩
    · go_simp
      refine hK.out _ _ ?_ (fun hHeld => ?_)
      · go_keep
      clear hK K
      refine wpAnyH_ready (rs := [4]) (by kernel_rfl) (by simp) ?_
      refine AllReadyH.cons (o := _) rfl (fun K hK => ?_) AllReadyH.nil
      go_simp
      refine hK.out _ _ ?_ (fun hHeld => ?_)
      · go_keep
      clear hK K
      refine wpAnyH_ready (rs := [11]) (by kernel_rfl) (by simp) ?_
      refine AllReadyH.cons (o := _) rfl (fun K hK => ?_) AllReadyH.nil
      refine wp_apd _ _ 80 (by rfl) (.slice oo ls.length cc) (.slice (some ⟨wr.heap.size + 2, 0, none⟩) 1 1) (by rfl) (by rfl) (HQ.out _) ?_
      rintro v' w' ⟨g, c, rfl, hz, hM, ho⟩
      have HM2 := Lib.hid hM
      have HZ2 := Lib.hid hz
      have HO2 := Lib.hid ho
      obtain ⟨x0, x1, x2, x3⟩ := OB.eight ho
      obtain ⟨z0, z1, z2, z3, z4⟩ := four hz
      clear hM hz ho
      refine hK.out _ _ ?_ (fun hHeld => ?_)
      · exact z0
      clear hK K
      simp only [Act.put, List.setIfInBounds_toArray, List.set_cons_zero, List.set_cons_succ]
      refine takeD 12 32 (.pointer (some ⟨p, 0, none⟩)) rfl rfl (by kernel_rfl) (by kernel_rfl) (by kernel_rfl) (fun _ _ _ h => h) (Or.inl ⟨by rfl, ?_⟩) (by assumption) ?_
      · intro w hSw
        go_simp
      simp only [Act.put, List.setIfInBounds_toArray, List.set_cons_zero, List.set_cons_succ]
      refine takeD 13 33 (.pointer (some ⟨p, 0, none⟩)) rfl rfl (by kernel_rfl) (by kernel_rfl) (by kernel_rfl) (fun _ _ _ h => h) (Or.inl ⟨by rfl, ?_⟩) (by assumption) ?_
      · intro w hSw
        go_simp
      simp only [Act.put, List.setIfInBounds_toArray, List.set_cons_zero, List.set_cons_succ]
      refine wpAnyH_ready (rs := [14]) (by kernel_rfl) (by simp) ?_
      refine AllReadyH.cons (o := _) rfl (fun K hK => ?_) AllReadyH.nil
      go_simp
      refine hK.out _ _ ?_ (fun hHeld => ?_)
      · exact (World.cell?_setCell_far w' ⟨p, 0, none⟩ ⟨wr.heap.size, 0, none⟩ _ hne2).trans z0
      clear hK K
      refine wpAnyH_done (by kernel_rfl) ?_ _
      have zz : (w'.setCell ⟨p, 0, none⟩ (.slice (some ⟨g, 0, none⟩) (ls.length + 1) c)).heap[wr.heap.size]? = some (.cells #[.int .i64 k, .string key, .string value, .bool false] 89 (0, 0)) := (Below.heap_setCell _ _ _ _ (by exact hne)).trans HZ2.out
      clear x0 x1 x2 x3 z0 z1 z2 z3 z4 hHeld HQ
      obtain ⟨z0, z1, z2, z3, z4⟩ := four zz
      obtain ⟨x0, x1, x2, x3⟩ := HM2.out.ob.eight
      clear zz
      go_wp2_with fail
      refine (oaddV (HM2.out.here) hp hen hkey (l := newOl k (wr.heap.size + 1)) (HK.out) (fun _ => .inr rfl) HV.out.1 HV.out.2).mono ?_
      rintro e w7 ⟨rfl, l', hM, hl'⟩
      have HM7 := Lib.hid (And.intro (hM.later HM2.out.kp) hl')
      clear hM hl' x0 x1 x2 x3 z0 z1 z2 z3 z4
      go_wp2
      go_ret
      exact ⟨rfl, _, l', HM7.out.1, HM7.out.2⟩

end Go.Proofs.YtmcjghhmcmkomaaGreatDoor
