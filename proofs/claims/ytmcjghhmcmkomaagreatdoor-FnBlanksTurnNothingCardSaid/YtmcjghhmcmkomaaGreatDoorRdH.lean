/-
  What is proved: a Kid is put into the last level of what is open: a list's, or a map's under the Key that was read.
-/
import Derived.Test.YtmcjghhmcmkomaaGreatDoorPartAL
namespace Go.Proofs.YtmcjghhmcmkomaaGreatDoor
open Go Go.RowKit

section
variable {w0 wr0 wr : World} {p : Nat} {s : ByteArray} {i : Nat} {nd : Nat} {tw : Int} {ls : List Lv} {l : Lv} {g cap : Nat}

/-- A tree in hand: it lies in memory that is none of what is open. -/
structure Hand (w0 wr : World) (ov : Value) (ls : List Lv) (X : RT) (kx dx : Value) (FX : List Nat) : Prop where
  lies : Lies wr X kx dx FX
  fresh : Fresh w0 wr FX
  apart : ∀ x ∈ FX, x ∉ ls.flatMap Lv.blocks
  mine : ∀ x ∈ FX, ¬ ov.ownBlock = some x

theorem nodup_two {A B : List Nat} (h1 : A.Nodup) (h2 : B.Nodup) (h : ∀ x ∈ A, x ∉ B) : (A ++ B).Nodup := List.nodup_append.2 ⟨h1, h2, fun a ha _ hb e => h a ha (e ▸ hb)⟩

/-- What the last level's cells are, and that its blocks are apart from the others. -/
theorem Mid.parts (h : Mid w0 wr0 wr p s i (.slice (some ⟨g, 0, none⟩) (ls.length + 1) cap) nd tw (ls ++ [l])) : ∃ cur, wr.heap[g]? = some (.cells cur 140 (0, 0)) ∧ ls.length + 1 ≤ cap ∧ cap ≤ maxLen ∧ cur.size = cap * 8 ∧ (∀ j, j < 8 → cur[ls.length * 8 + j]? = l.cells[j]?) ∧ cur.toList.take (ls.length * 8) = ls.flatMap Lv.cells ∧
    g < wr.heap.size ∧ w0.heap.size ≤ g ∧ g ∉ ls.flatMap Lv.blocks ∧ g ∉ l.blocks ∧ LvOk w0 wr l ∧ (ls.flatMap Lv.blocks).Nodup ∧ l.blocks.Nodup ∧ ∀ x ∈ ls.flatMap Lv.blocks, x ∉ l.blocks := by
  obtain ⟨g', cap', cur, e, k2, k3, k4, k5, ktop, kpre, k6, k7, k8, k9⟩ := h.stk.top
  injection e with e1 e2 e3
  injection e1 with e1
  injection e1 with e1
  subst e1 e3
  have hap := h.stk.apart
  rw [List.flatMap_append] at hap
  obtain ⟨a1, a2, a3⟩ := List.nodup_append.1 hap
  simp only [List.flatMap_cons, List.flatMap_nil, List.append_nil] at a2 a3
  exact ⟨cur, k2, k3, k4, k5, ktop, kpre, k6, k7, k8, k9, h.stk.each l (by simp), a1, a2, fun x hx hy => a3 x hx x hy rfl⟩

/-- What is left of a level's cells when one of them is set. -/
theorem top_set {cur : Array Value} {n cap : Nat} {cs cs' : List Value} (hsz : cur.size = cap * 8) (hn : n + 1 ≤ cap) (h : ∀ j, j < 8 → cur[n * 8 + j]? = cs[j]?) (q : Nat) (hq : q < 8) (v : Value) (h' : ∀ j, j < 8 → cs'[j]? = if j = q then some v else cs[j]?) :
    ∀ j, j < 8 → (cur.setIfInBounds (n * 8 + q) v)[n * 8 + j]? = cs'[j]? := fun j hj => by
  rw [h' j hj]
  by_cases e : j = q
  · subst e
    rw [if_pos rfl, Array.getElem?_setIfInBounds_self_of_lt (by rw [hsz]; omega)]
  · rw [if_neg e, Array.getElem?_setIfInBounds_ne (by omega), h j hj]

theorem pre_set {cur : Array Value} {n q : Nat} {xs : List Value} (h : cur.toList.take (n * 8) = xs) (v : Value) : (cur.setIfInBounds (n * 8 + q) v).toList.take (n * 8) = xs := by
  rw [Array.toList_setIfInBounds, List.take_set_of_le (by omega)]; exact h

/-- The last level has turned; all else is as it was. -/
theorem Mid.turned (h : Mid w0 wr0 wr p s i (.slice (some ⟨g, 0, none⟩) (ls.length + 1) cap) nd tw (ls ++ [l])) (hp : p < w0.heap.size) {w2 : World} {G : List Nat} (hbut : But (g :: G) wr w2) (hG : ∀ x ∈ G, x ∈ l.blocks) {l' : Lv} {cur' : Array Value} (hsz : cur'.size = cap * 8) (hg : w2.heap[g]? = some (.cells cur' 140 (0, 0)))
    (hpre : cur'.toList.take (ls.length * 8) = ls.flatMap Lv.cells) (htop : ∀ j, j < 8 → cur'[ls.length * 8 + j]? = l'.cells[j]?) (hok : LvOk w0 w2 l') (hn : l'.blocks.Nodup) (hap : ∀ x ∈ l'.blocks, x ∉ ls.flatMap Lv.blocks) (hgl : g ∉ l'.blocks) :
    Mid w0 wr0 w2 p s i (.slice (some ⟨g, 0, none⟩) (ls.length + 1) cap) nd tw (ls ++ [l']) := by
  obtain ⟨cur, k2, k3, k4, k5, ktop, kpre, k6, k7, k8, k9, hl, a1, a2, a3⟩ := h.parts
  have hold : ∀ b, b < w0.heap.size → w2.heap[b]? = wr.heap[b]? := fun b hb => hbut.block b (Nat.lt_of_lt_of_le hb h.hs) (fun hin => by
    rcases List.mem_cons.1 hin with e | e
    · omega
    · have := hl.old b (hG b e); omega)
  refine ⟨h.rd.same (hold p hp), h.stk.turn hsz hg hpre htop hok (fun b hb => hbut.block b (h.stk.blocks (.inl (by rw [List.flatMap_append]; exact List.mem_append_left _ hb))).1 (fun hin => ?_)) (nodup_two a1 hn fun x hx hy => hap x hy hx) hgl, h.kp.trans ⟨hbut.os, hbut.tape, hbut.output, hbut.size, fun b hb _ => hold b hb⟩, Nat.le_trans h.hs hbut.size⟩
  rcases List.mem_cons.1 hin with e | e
  · exact k8 (by rw [← e]; exact hb)
  · exact a3 b hb (hG b e)

/-- A Kid is put into a list. -/
theorem Mid.put4 (h : Mid w0 wr0 wr p s i (.slice (some ⟨g, 0, none⟩) (ls.length + 1) cap) nd tw (ls ++ [l])) (hp : p < w0.heap.size) (hk : l.k = 4) (hlen : l.dd.length ≤ 1048576) {X : RT} {kx dx : Value} {FX : List Nat} (hX : Hand w0 wr (.slice (some ⟨g, 0, none⟩) (ls.length + 1) cap) (ls ++ [l]) X kx dx FX) :
    Calls Tryz.prog 116 #[.pointer (some ⟨g, ls.length * 8, none⟩), .agg #[.int .i64 X.k, .int .i64 X.n, .string X.s, kx, dx]] wr fun e w' => (∃ v, e = .returned v) ∧ ∃ v' F, Mid w0 wr0 w' p s i (.slice (some ⟨g, 0, none⟩) (ls.length + 1) cap) nd tw (ls ++ [{ l with dd := l.dd ++ [X], dv := v', FD := F }]) ∧ But (g :: l.FD) wr w' ∧ ∀ y ∈ F, y ∈ l.blocks ∨ y ∈ FX ∨ wr.heap.size ≤ y := by
  obtain ⟨cur, k2, k3, k4, k5, ktop, kpre, k6, k7, k8, k9, hl, a1, a2, a3⟩ := h.parts
  have hgX : g ∉ FX := fun hin => hX.mine g hin rfl
  have hXl : ∀ x ∈ FX, x ∉ ls.flatMap Lv.blocks ∧ x ∉ l.blocks := fun x hx => by
    have := hX.apart x hx
    rw [List.flatMap_append, List.mem_append, not_or] at this
    exact ⟨this.1, by simpa using this.2⟩
  have hFD : ∀ x ∈ l.FD, x ∈ l.blocks := fun x hx => List.mem_append_right _ (List.mem_append_left _ hx)
  have hFK : ∀ x ∈ l.FK, x ∈ l.blocks := fun x hx => List.mem_append_left _ hx
  have c0 : cur[ls.length * 8]? = some (.int .i64 4) := by have := ktop 0 (by decide); rw [Nat.add_zero] at this; rw [this]; show some (Value.int .i64 l.k) = _; rw [hk]
  have c4 : cur[ls.length * 8 + 4]? = some l.dv := ktop 4 (by decide)
  obtain ⟨hm0, hFM⟩ : l.mv = .map none ∧ l.FM = [] := by
    rcases hl.kind with ⟨_, q⟩ | ⟨q, _⟩
    · exact q
    · rw [hk] at q; exact absurd q (by decide)
  refine (Go.Proofs.YtmcjghhmcmkomaaGreatDoor.put4 (w := w0) k2 c0 c4 hl.kids hl.fd hX.lies hX.fresh (fun x hx hy => (hXl x hx).2 (hFD x hy)) hlen h.hs (fun hin => k9 (hFD g hin)) hgX).mono ?_
  rintro e w' ⟨hv, o', c', F, hg', hkids, hfr, hF, hbut⟩
  have hFnot : ∀ x ∈ F, x ∉ ls.flatMap Lv.blocks ∧ x ∉ l.FK ∧ x ≠ g := fun x hx => by
    rcases hF x hx with hy | hy | hy
    · have a2' := a2
      unfold Lv.blocks at a2'
      refine ⟨fun hin => a3 x hin (hFD x hy), fun hin => (List.nodup_append.1 a2').2.2 x hin x (List.mem_append_left _ hy) rfl, fun e => k9 (by rw [← e]; exact hFD x hy)⟩
    · exact ⟨(hXl x hy).1, fun hin => (hXl x hy).2 (hFK x hin), fun e => hgX (by rw [← e]; exact hy)⟩
    · refine ⟨fun hin => ?_, fun hin => ?_, fun e => ?_⟩
      · have := (h.stk.blocks (.inl (by rw [List.flatMap_append]; exact List.mem_append_left _ hin))).1; omega
      · have := hl.lt x (hFK x hin); omega
      · omega
  have hkeepK : ∀ b ∈ l.FK, w'.heap[b]? = wr.heap[b]? := fun b hb => hbut.block b (hl.lt b (hFK b hb)) (fun hin => by
    rcases List.mem_cons.1 hin with e | e
    · exact k9 (by rw [← e]; exact hFK b hb)
    · have a2' := a2
      unfold Lv.blocks at a2'
      exact (List.nodup_append.1 a2').2.2 b hb b (List.mem_append_left _ e) rfl)
  have hnk : l.FK.Nodup := hl.fk.nodup
  refine ⟨hv, .slice o' (l.dd.length + 1) c', F, h.turned hp hbut hFD (by rw [Array.size_setIfInBounds]; exact k5) hg' (pre_set kpre _) (top_set k5 k3 ktop 4 (by decide) _ fun j hj => ?_) ⟨hl.keys.carry hkeepK, hl.fk.carry hkeepK, ?_, hfr, hl.keyl, .inl ⟨hk, hm0, hFM⟩⟩ ?_ ?_ ?_, hbut, fun y hy => (hF y hy).elim (fun h => Or.inl (hFD y h)) Or.inr⟩
  · match j, hj with
    | 0, _ => rfl
    | 1, _ => rfl
    | 2, _ => rfl
    | 3, _ => rfl
    | 4, _ => rfl
    | 5, _ => rfl
    | 6, _ => rfl
    | 7, _ => rfl
  · show KidsLie w' _ (l.dd ++ [X]) F
    exact hkids
  · show (l.FK ++ (F ++ l.FM)).Nodup
    rw [hFM, List.append_nil]
    exact nodup_two hnk hfr.nodup fun x hx hy => (hFnot x hy).2.1 hx
  · intro x hx
    have hx : x ∈ l.FK ++ (F ++ l.FM) := hx
    rw [hFM, List.append_nil] at hx
    rcases List.mem_append.1 hx with hx | hx
    · exact fun hin => a3 x hin (hFK x hx)
    · exact (hFnot x hx).1
  · intro hx
    have hx : g ∈ l.FK ++ (F ++ l.FM) := hx
    rw [hFM, List.append_nil] at hx
    rcases List.mem_append.1 hx with hx | hx
    · exact k9 (hFK g hx)
    · exact (hFnot g hx).2.2 rfl

/-- A Kid is put into a map, under the Key that was read. -/
theorem Mid.put5 (h : Mid w0 wr0 wr p s i (.slice (some ⟨g, 0, none⟩) (ls.length + 1) cap) nd tw (ls ++ [l])) (hp : p < w0.heap.size) (hk : l.k = 5) (hlen : l.dd.length ≤ 1048576) {rk : List ByteArray} (hkeys : keysOk (l.dk ++ l.key :: rk) = true) {X : RT} {kx dx : Value} {FX : List Nat} (hX : Hand w0 wr (.slice (some ⟨g, 0, none⟩) (ls.length + 1) cap) (ls ++ [l]) X kx dx FX) :
    Calls Tryz.prog 116 #[.pointer (some ⟨g, ls.length * 8, none⟩), .agg #[.int .i64 X.k, .int .i64 X.n, .string X.s, kx, dx]] wr fun e w' => (∃ v, e = .returned v) ∧ ∃ u' v' FK F, Mid w0 wr0 w' p s i (.slice (some ⟨g, 0, none⟩) (ls.length + 1) cap) nd tw (ls ++ [{ l with dk := l.dk ++ [l.key], dd := l.dd ++ [X], kv := u', dv := v', FK := FK, FD := F }]) ∧ But (g :: (l.FK ++ l.FD)) wr w' ∧ ∀ y ∈ FK ++ F, y ∈ l.blocks ∨ y ∈ FX ∨ wr.heap.size ≤ y := by
  obtain ⟨cur, k2, k3, k4, k5, ktop, kpre, k6, k7, k8, k9, hl, a1, a2, a3⟩ := h.parts
  have hgX : g ∉ FX := fun hin => hX.mine g hin rfl
  have hXl : ∀ x ∈ FX, x ∉ ls.flatMap Lv.blocks ∧ x ∉ l.blocks := fun x hx => by
    have := hX.apart x hx
    rw [List.flatMap_append, List.mem_append, not_or] at this
    exact ⟨this.1, by simpa using this.2⟩
  have hFD : ∀ x ∈ l.FD, x ∈ l.blocks := fun x hx => List.mem_append_right _ (List.mem_append_left _ hx)
  have hFK : ∀ x ∈ l.FK, x ∈ l.blocks := fun x hx => List.mem_append_left _ hx
  have hFM : ∀ x ∈ l.FM, x ∈ l.blocks := fun x hx => List.mem_append_right _ (List.mem_append_right _ hx)
  have hall : ∀ x ∈ l.FK ++ l.FD, x ∈ l.blocks := fun x hx => by
    rcases List.mem_append.1 hx with hx | hx
    · exact hFK x hx
    · exact hFD x hx
  have a2' := a2
  unfold Lv.blocks at a2'
  obtain ⟨n1, n2, n3⟩ := List.nodup_append.1 a2'
  obtain ⟨m1, m2, m3⟩ := List.nodup_append.1 n2
  have c0 : cur[ls.length * 8]? = some (.int .i64 5) := by have := ktop 0 (by decide); rw [Nat.add_zero] at this; rw [this]; show some (Value.int .i64 l.k) = _; rw [hk]
  have c3 : cur[ls.length * 8 + 3]? = some l.kv := ktop 3 (by decide)
  have c4 : cur[ls.length * 8 + 4]? = some l.dv := ktop 4 (by decide)
  have c6 : cur[ls.length * 8 + 6]? = some (.string l.key) := ktop 6 (by decide)
  obtain ⟨mb, e1, e2, e3, e4, e5⟩ : ∃ mb', l.mv = .map (some mb') ∧ l.FM = [mb'] ∧ Seen wr mb' l.ks ∧ w0.heap.size ≤ mb' ∧ l.dk.length = l.dd.length := by
    rcases hl.kind with ⟨q, _⟩ | ⟨_, mb', q⟩
    · rw [hk] at q; exact absurd q (by decide)
    · exact ⟨mb', q⟩
  obtain ⟨hab, hpl, -, -⟩ := keys_behind hkeys
  refine (Go.Proofs.YtmcjghhmcmkomaaGreatDoor.put5 (w := w0) k2 c0 c3 c4 c6 hl.keys hl.fk hl.kids hl.fd hX.lies hX.fresh (fun x hx hy => (hXl x hx).2 (hFD x hy)) (fun x hx hy => (hXl x hx).2 (hFK x hy)) (fun x hx hy => n3 x hx x (List.mem_append_left _ hy) rfl) e5 hlen h.hs (fun hin => k9 (hFK g hin)) (fun hin => k9 (hFD g hin)) hgX hl.keyl hab hpl).mono ?_
  rintro e w' ⟨hv, o3, q3, o4, q4, FK', F, hg', hks, hfk, hK', hkids, hfr, hF, hKF, hbut⟩
  have hout : ∀ x, (x ∈ l.FK ∨ x ∈ l.FD ∨ x ∈ FX ∨ wr.heap.size ≤ x) → x ∉ ls.flatMap Lv.blocks ∧ x ≠ mb ∧ x ≠ g := fun x hx => by
    have hmbl : mb ∈ l.blocks := hFM mb (by rw [e2]; simp)
    rcases hx with hy | hy | hy | hy
    · exact ⟨fun hin => a3 x hin (hFK x hy), fun e => n3 x hy mb (List.mem_append_right _ (by rw [e2]; simp)) e, fun e => k9 (by rw [← e]; exact hFK x hy)⟩
    · exact ⟨fun hin => a3 x hin (hFD x hy), fun e => m3 x hy mb (by rw [e2]; simp) e, fun e => k9 (by rw [← e]; exact hFD x hy)⟩
    · exact ⟨(hXl x hy).1, fun e => (hXl x hy).2 (by rw [e]; exact hmbl), fun e => hgX (by rw [← e]; exact hy)⟩
    · refine ⟨fun hin => ?_, fun e => ?_, fun e => ?_⟩
      · have := (h.stk.blocks (.inl (by rw [List.flatMap_append]; exact List.mem_append_left _ hin))).1; omega
      · have := e3.lt; omega
      · omega
  have hoK : ∀ x ∈ FK', x ∉ ls.flatMap Lv.blocks ∧ x ≠ mb ∧ x ≠ g := fun x hx => hout x ((hK' x hx).elim Or.inl fun h => Or.inr (Or.inr (Or.inr h)))
  have hoD : ∀ x ∈ F, x ∉ ls.flatMap Lv.blocks ∧ x ≠ mb ∧ x ≠ g := fun x hx => hout x ((hF x hx).elim (fun h => Or.inr (Or.inl h)) fun h => h.elim (fun h => Or.inr (Or.inr (Or.inl h))) fun h => Or.inr (Or.inr (Or.inr h)))
  have hseen : Seen w' mb l.ks := e3.same (hbut.block mb e3.lt (fun hin => by
    rcases List.mem_cons.1 hin with e | e
    · exact k9 (by rw [← e]; exact hFM mb (by rw [e2]; simp))
    · rcases List.mem_append.1 e with e | e
      · exact n3 mb e mb (List.mem_append_right _ (by rw [e2]; simp)) rfl
      · exact m3 mb e mb (by rw [e2]; simp) rfl))
  have htop' := top_set (cs' := [Value.int .i64 l.k, .int .i64 0, .string ⟨#[]⟩, .slice o3 (l.dd.length + 1) q3, l.dv, .int .u8 (if l.k = 5 then 125 else 93), .string l.key, l.mv]) k5 k3 ktop 3 (by decide) (.slice o3 (l.dd.length + 1) q3) fun j hj => by
    match j, hj with
    | 0, _ => rfl
    | 1, _ => rfl
    | 2, _ => rfl
    | 3, _ => rfl
    | 4, _ => rfl
    | 5, _ => rfl
    | 6, _ => rfl
    | 7, _ => rfl
  refine ⟨hv, .slice o3 (l.dd.length + 1) q3, .slice o4 (l.dd.length + 1) q4, FK', F, h.turned hp hbut hall (by rw [Array.size_setIfInBounds, Array.size_setIfInBounds]; exact k5) hg' (pre_set (pre_set kpre _) _) (top_set (by rw [Array.size_setIfInBounds]; exact k5) k3 htop' 4 (by decide) _ fun j hj => ?_) ⟨?_, hfk, ?_, hfr, hl.keyl, .inr ⟨hk, mb, e1, e2, hseen, e4, ?_⟩⟩ ?_ ?_ ?_, hbut, fun y hy => (List.mem_append.1 hy).elim (fun h => (hK' y h).elim (fun h => Or.inl (hFK y h)) fun h => Or.inr (Or.inr h)) fun h => (hF y h).elim (fun h => Or.inl (hFD y h)) Or.inr⟩
  · match j, hj with
    | 0, _ => rfl
    | 1, _ => rfl
    | 2, _ => rfl
    | 3, _ => rfl
    | 4, _ => rfl
    | 5, _ => rfl
    | 6, _ => rfl
    | 7, _ => rfl
  · exact hks
  · exact hkids
  · show (l.dk ++ [l.key]).length = (l.dd ++ [X]).length
    simp [e5]
  · show (FK' ++ (F ++ l.FM)).Nodup
    rw [e2]
    refine nodup_two hfk.nodup (nodup_two hfr.nodup (by simp) fun x hx hy => ?_) fun x hx hy => ?_
    · simp at hy; exact (hoD x hx).2.1 hy
    · rcases List.mem_append.1 hy with hy | hy
      · exact hKF x hx hy
      · simp at hy; exact (hoK x hx).2.1 hy
  · intro x hx
    have hx : x ∈ FK' ++ (F ++ l.FM) := hx
    rcases List.mem_append.1 hx with hx | hx
    · exact (hoK x hx).1
    · rcases List.mem_append.1 hx with hx | hx
      · exact (hoD x hx).1
      · exact fun hin => a3 x hin (hFM x hx)
  · intro hx
    have hx : g ∈ FK' ++ (F ++ l.FM) := hx
    rcases List.mem_append.1 hx with hx | hx
    · exact (hoK g hx).2.2 rfl
    · rcases List.mem_append.1 hx with hx | hx
      · exact (hoD g hx).2.2 rfl
      · exact k9 (hFM g hx)
end
end Go.Proofs.YtmcjghhmcmkomaaGreatDoor
