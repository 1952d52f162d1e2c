/-
  What is proved: append of one text to a list of texts, and of one tree to a list of trees, that lie in memory of their own with their room: in place, or in a new block.
-/
import Derived.Test.YthbphkakbjheeaaSetI
import Derived.Test.YthbphkakbjheeaaTreeMark
import Derived.ArgAppend
import Derived.Deep.MidRow
namespace Go.Proofs.Ythbphkakbjheeaa
open Go Go.RowKit

theorem setCells_other (b : Nat) : ∀ (vs : List Value) (o : Nat) (w : World) (y : Nat), y ≠ b → (w.setCells b o vs).heap[y]? = w.heap[y]?
  | [], _, _, _, _ => rfl
  | v :: r, o, w, y, h => by
    rw [World.setCells, setCells_other b r (o + 1) _ y h]
    exact Below.heap_setCell _ _ _ _ h

theorem setCells_but (b : Nat) : ∀ (vs : List Value) (o : Nat) (w : World) (F : List Nat), b ∈ F → But F w (w.setCells b o vs)
  | [], _, w, F, _ => But.refl F w
  | v :: r, o, w, F, h => by
    rw [World.setCells]
    exact ((But.refl F w).set (p := ⟨b, o, none⟩) h v).trans (setCells_but b r (o + 1) _ F h)

theorem Room.setCells {w : World} {b off n : Nat} (h : Room w b off n) (b' o : Nat) (vs : List Value) : Room (w.setCells b' o vs) b off n := fun i hi => World.isSome_setCells b' vs o w _ (h i hi)

/-- The elements that are appended to a list that has no room come to stand in a new block. -/
theorem run_append_out {P : Program} (w : World) (t ty e : TypeId) (i : TypeInfo) (z : Value) (size bytes : Nat) (ht : P.underlying t = some (.slice e)) (hi : P.info? e = some i) (hz : i.zero = some z)
    (hsize : i.size = size) (hby : i.bytes = bytes) (hzs : z.cells.size = size) (hsz : 0 < size) (o : Option Addr) (n cap : Nat) (hcap : cap < n + 1) (olds : List Value) (hlo : olds.length = n * size) (ho : 0 < n → ∃ b, o = some b)
    (holds : ∀ j u, olds[j]? = some u → ∀ b, o = some b → w.cell? (b.add j) = some u) (hn : n ≤ cap) (a : Addr) (news : List Value) (hl : news.length = 1 * size) (hnews : ∀ j u, news[j]? = some u → w.cell? (a.add j) = some u) (h1 : ∀ u ∈ news, u.oneCell' = true) (hc0 : o = none → cap = 0)
    (h63 : n + 1 ≤ maxLen) (hbytes : (n + 1) * bytes ≤ 140737488355328) :
    ∃ v' w', (Builtin.append_ #[t, t] ty #[.slice o n cap, .slice (some a) 1 1]).run P w = .ok v' w' ∧ w'.ownsRow w.heap.size e size v' (n + 1) (olds ++ news) ∧ w.grownBy w' none := by
  cases o with
  | some b =>
    exact run_append_arg_grows w t ty e i z size bytes ht hi hz hsize hby hzs hsz b n cap olds hlo (fun j u hu => holds j u hu b rfl) a 1 1 news hl hnews hcap h63 hbytes
  | none =>
    have hcz := hc0 rfl
    subst hcz
    obtain rfl : n = 0 := by omega
    have hol : olds = [] := List.length_eq_zero_iff.1 (by omega)
    subst hol
    obtain ⟨v', w', hr, h2, h3, -, -⟩ := run_append_own_at (P := P) w w.heap.size t ty e i z size bytes ht hi hz hsize hby hzs hsz (.slice none 0 0) 0 [] (World.ownsRow_nil _ _ _ _) a 1 1 news hl hnews h1 h63 hbytes (Nat.le_refl _)
    exact ⟨v', w', hr, h2, h3⟩

theorem owns_shape {w : World} {base : Nat} {e : TypeId} {q : Nat} {v : Value} {n : Nat} {xs : List Value} (h : w.ownsRow base e q v n xs) : ∃ o c, v = .slice o n c := by
  rcases h.2 with ⟨rfl, h0⟩ | ⟨g, cap, cur, rfl, _⟩
  · exact ⟨none, 0, by rw [h0]⟩
  · exact ⟨_, _, rfl⟩

theorem but_grown {F : List Nat} {w w' : World} (h : w.grownBy w' none) : But F w w' := But.of_below (below_of_grown h)

/-- One tree more behind a list of trees. -/
theorem append_kid {w wr : World} {dv : Value} {kids : List RT} {FD : List Nat} (h : KidsLie wr dv kids FD) (hf : Fresh w wr FD) {X : RT} {kx dx : Value} {FX : List Nat} (hX : Lies wr X kx dx FX) (hfX : Fresh w wr FX) (hd : ∀ x ∈ FX, x ∉ FD)
    {xb : Nat} {t : TypeId} (hxb : wr.heap[xb]? = some (.cells #[.int .i64 X.k, .int .i64 X.n, .string X.s, kx, dx] t (0, 0))) (hn : kids.length ≤ 1048576) (hs : w.heap.size ≤ wr.heap.size) (ty : TypeId) :
    ∃ v' w', (Builtin.append_ #[26, 26] ty #[dv, .slice (some ⟨xb, 0, none⟩) 1 1]).run Try.prog wr = .ok v' w' ∧
      ∃ o' c', v' = .slice o' (kids.length + 1) c' ∧ But FD wr w' ∧ ∃ F, KidsLie w' (.slice o' (kids.length + 1) c') (kids ++ [X]) F ∧ Fresh w w' F ∧ ∀ y ∈ F, y ∈ FD ∨ y ∈ FX ∨ wr.heap.size ≤ y := by
  obtain ⟨i0, hi0, hz0, hz1, hz2⟩ := info_parts info_node
  have hone : ∀ u ∈ X.row kx dx, u.oneCell' = true := by
    obtain ⟨⟨o1, q1, rfl⟩, ⟨o2, q2, rfl⟩⟩ := hX.slices
    exact row_one X _ _ _ _ _ _
  have hnews : ∀ j u, (X.row kx dx)[j]? = some u → wr.cell? ((⟨xb, 0, none⟩ : Addr).add j) = some u := World.news_of_block hxb
  obtain ⟨o, cap, b, off, FF, KV, DV, rfl, h1, h2, h3, hFD, h4, h5, h6⟩ := h
  have hsubF : ∀ y ∈ (List.range kids.length).flatMap FF, y ∈ FD := fun y hy => by rw [hFD]; exact List.mem_append_right _ hy
  have hfF : Fresh w wr ((List.range kids.length).flatMap FF) := by
    refine ⟨?_, fun y hy => hf.old y (hsubF y hy), fun y hy => hf.free y (hsubF y hy)⟩
    have := hf.nodup
    rw [hFD] at this
    exact (List.nodup_append.1 this).2.1
  by_cases hc : kids.length + 1 ≤ cap
  · have ho := h3 (by omega)
    subst ho
    rw [if_neg (by omega)] at hFD
    have hbF : b ∈ FD := by rw [hFD]; simp
    have hbn : b ∉ (List.range kids.length).flatMap FF := by
      have := hf.nodup
      rw [hFD] at this
      exact (List.nodup_cons.1 this).1
    have hbX : b ∉ FX := fun hx => hd b hx hbF
    have hrun := run_append_room_cells (P := Try.prog) wr 26 ty 30 i0 Try.underlying26 hi0 b off kids.length cap ⟨xb, 0, none⟩ 1 1 (X.row kx dx) (by rw [hz1]; rfl) hnews hone hc
      (fun j hj => by rw [hz1, Nat.add_assoc]; exact h6 _ (by have : j < 5 := hj; omega)) (fun j _ => hf.free b hbF _)
    rw [hz1] at hrun
    have keep : ∀ y, y ≠ b → (wr.setCells b (off + kids.length * 5) (X.row kx dx)).heap[y]? = wr.heap[y]? := fun y hy => setCells_other b _ _ wr y hy
    have hroom : ∀ j, j < (X.row kx dx).length → (wr.cell? ⟨b, off + kids.length * 5 + j, none⟩).isSome = true := fun j hj => by rw [Nat.add_assoc]; exact h6 _ (by have : j < 5 := hj; omega)
    have hflat := flat_succ FF kids.length FX
    have hmem : ∀ y ∈ (List.range (kids.length + 1)).flatMap (fun j => if j = kids.length then FX else FF j), y ∈ (List.range kids.length).flatMap FF ∨ y ∈ FX := fun y hy => by
      rw [hflat] at hy; exact List.mem_append.1 hy
    refine ⟨_, _, hrun, _, _, rfl, setCells_but b _ _ wr FD hbF, [b] ++ (List.range (kids.length + 1)).flatMap (fun j => if j = kids.length then FX else FF j), ?_, ⟨?_, fun y hy => ?_, fun y hy o => ?_⟩, fun y hy => ?_⟩
    · refine ⟨_, cap, b, off, (fun j => if j = kids.length then FX else FF j), (fun j => if j = kids.length then kx else KV j), (fun j => if j = kids.length then dx else DV j), by simp, by simpa using hc, h2, fun _ => rfl, by rw [if_neg (by omega)]; simp, fun j hj c hcc => ?_, fun j hj => ?_, h6.setCells _ _ _⟩
      · rw [List.length_append, List.length_singleton] at hj
        by_cases e : j = kids.length
        · subst e
          simp only [if_true, List.getElem_concat_length]
          rw [World.cell?_setCells_in b (X.row kx dx) _ wr hroom c hcc, List.getElem?_eq_getElem (by exact hcc)]
        · simp only [e, if_false]
          rw [World.cell?_setCells_out b _ _ wr _ (fun _ _ => .inl (by show off + j * 5 + c < _; omega)), List.getElem_append_left (by omega)]
          exact h4 j (by omega) c hcc
      · rw [List.length_append, List.length_singleton] at hj
        by_cases e : j = kids.length
        · subst e
          simp only [if_true, List.getElem_concat_length]
          exact hX.carry fun y hy => keep y (fun ee => hbX (ee ▸ hy))
        · simp only [e, if_false]
          rw [List.getElem_append_left (by omega)]
          exact (h5 j (by omega)).carry fun y hy => keep y (fun ee => hbn (List.mem_flatMap.2 ⟨j, List.mem_range.2 (by omega), ee ▸ hy⟩))
    · rw [hflat]
      simp only [List.singleton_append, List.nodup_cons]
      refine ⟨fun hy => ?_, List.nodup_append.2 ⟨hfF.nodup, hfX.nodup, fun x hx y hy e => hd y hy (hsubF y (e ▸ hx))⟩⟩
      rcases List.mem_append.1 hy with hy | hy
      · exact hbn hy
      · exact hbX hy
    · rcases List.mem_append.1 hy with hy | hy
      · simp at hy; subst hy; exact hf.old y hbF
      · rcases hmem y hy with hy | hy
        · exact hfF.old y hy
        · exact hfX.old y hy
    · rw [World.frozen?_setCells]
      rcases List.mem_append.1 hy with hy | hy
      · simp at hy; subst hy; exact hf.free y hbF o
      · rcases hmem y hy with hy | hy
        · exact hfF.free y hy o
        · exact hfX.free y hy o
    · rcases List.mem_append.1 hy with hy | hy
      · simp at hy; subst hy; exact .inl hbF
      · rcases hmem y hy with hy | hy
        · exact .inl (hsubF y hy)
        · exact .inr (.inl hy)
  · have hrows : ∀ j u, (rowsOf kids KV DV kids.length)[j]? = some u → ∀ b', o = some b' → wr.cell? (b'.add j) = some u := fun j u hu b' hb' => by
      have hj : j < kids.length * 5 := by
        have := (List.getElem?_eq_some_iff.1 hu).1
        rwa [rowsOf_length] at this
      have ho := h3 (by omega)
      rw [hb'] at ho
      have hbe : b' = ⟨b, off, none⟩ := Option.some.inj ho
      subst hbe
      have hj5 : j / 5 < kids.length := by omega
      have hr := rowsOf_get kids KV DV kids.length (j / 5) (j % 5) hj5 (by omega)
      have e : j / 5 * 5 + j % 5 = j := by omega
      rw [e, hu] at hr
      have hcc := h4 (j / 5) hj5 (j % 5) (by omega)
      rw [Nat.add_assoc, e] at hcc
      rw [Go.WideShapes.add_plain, hcc, hr]
      have e2 : kids.getD (j / 5) default = kids[j / 5] := by simp [List.getD, List.getElem?_eq_getElem hj5]
      rw [e2]
    obtain ⟨v', w', hr, hown, hg⟩ := run_append_out (P := Try.prog) wr 26 ty 30 i0 _ 5 80 Try.underlying26 hi0 hz0 hz1 hz2 rfl (by decide) o kids.length cap (by omega) (rowsOf kids KV DV kids.length) (rowsOf_length _ _ _ _) (fun h0 => ⟨_, h3 (by omega)⟩)
      hrows h1 ⟨xb, 0, none⟩ (X.row kx dx) rfl hnews hone (fun e => by
        rcases Nat.eq_zero_or_pos cap with h0 | h0
        · exact h0
        · rw [h3 h0] at e; cases e) (by unfold maxLen; omega) (by omega)
    obtain ⟨o', c', rfl⟩ := owns_shape hown
    have hb := below_of_grown hg
    have hins : insAt kids kids.length X = kids ++ [X] := by simp [insAt]
    obtain ⟨F, k1, k2, k3⟩ := kids_ins (w := w) (wf := w') (base := wr.heap.size) (KV := KV) (DV := DV) (FF := FF) (Nat.le_refl kids.length) (by
        rw [List.take_of_length_le (by rw [rowsOf_length]; exact Nat.le_refl _), List.drop_eq_nil_of_le (by rw [rowsOf_length]; exact Nat.le_refl _), List.append_nil]
        exact hown) (fun j hj => (h5 j hj).stay hb (Nat.le_refl _)) (hX.stay hb (Nat.le_refl _)) (hfF.carry fun y hy => hb.block y (by
          obtain ⟨j, hj, hy⟩ := List.mem_flatMap.1 hy
          exact (h5 j (List.mem_range.1 hj)).lt y hy)) (hfX.carry fun y hy => hb.block y (hX.lt y hy)) (fun y hy hy' => hd y hy (hsubF y hy')) (fun g hgo => by
          have hge := (hown.lt g hgo).1
          refine ⟨fun hy => ?_, fun hy => ?_⟩
          · obtain ⟨j, hj, hy⟩ := List.mem_flatMap.1 hy
            have := (h5 j (List.mem_range.1 hj)).lt g hy
            omega
          · have := hX.lt g hy
            omega) hs
    rw [hins] at k1
    refine ⟨_, w', hr, o', c', rfl, but_grown hg, F, k1, k2, fun y hy => ?_⟩
    rcases k3 y hy with e | e | e
    · exact .inr (.inr (hown.lt y e).1)
    · exact .inl (hsubF y e)
    · exact .inr (.inl e)

/-- One text more behind a list of texts. -/
theorem append_str {w wr : World} {kv : Value} {ks : List ByteArray} {FK : List Nat} (h : StrsAt wr kv ks FK) (hf : Fresh w wr FK) (key : ByteArray) (hkey : key.size ≤ maxLen) {xb : Nat} {t : TypeId} (hxb : wr.heap[xb]? = some (.cells #[.string key] t (0, 0))) (hn : ks.length ≤ 1048576) (hs : w.heap.size ≤ wr.heap.size) (ty : TypeId) :
    ∃ v' w', (Builtin.append_ #[28, 28] ty #[kv, .slice (some ⟨xb, 0, none⟩) 1 1]).run Try.prog wr = .ok v' w' ∧
      ∃ o' c', v' = .slice o' (ks.length + 1) c' ∧ But FK wr w' ∧ ∃ F, StrsAt w' (.slice o' (ks.length + 1) c') (ks ++ [key]) F ∧ Fresh w w' F ∧ ∀ y ∈ F, y ∈ FK ∨ wr.heap.size ≤ y := by
  obtain ⟨i0, hi0, hz0, hz1, hz2⟩ := info_parts info_string
  have hone : ∀ u ∈ [Value.string key], u.oneCell' = true := by simp [Value.oneCell']
  have hnews : ∀ j u, [Value.string key][j]? = some u → wr.cell? ((⟨xb, 0, none⟩ : Addr).add j) = some u := World.news_of_block hxb
  obtain ⟨o, cap, b, off, rfl, h1, h2, h3, hFK, h4, h6⟩ := h
  have hsz : ∀ i (hi : i < (ks ++ [key]).length), (ks ++ [key])[i].size ≤ maxLen := fun i hi => by
    rcases List.mem_append.1 (List.getElem_mem hi) with e | e
    · obtain ⟨m, hm, e⟩ := List.getElem_of_mem e
      rw [← e]; exact (h4 m hm).2
    · simp at e; rw [e]; exact hkey
  by_cases hc : ks.length + 1 ≤ cap
  · have ho := h3 (by omega)
    subst ho
    rw [if_neg (by omega)] at hFK
    subst hFK
    have hrun := run_append_room_cells (P := Try.prog) wr 28 ty 9 i0 Try.underlying28 hi0 b off ks.length cap ⟨xb, 0, none⟩ 1 1 [.string key] (by rw [hz1]; rfl) hnews hone hc
      (fun j hj => by rw [hz1, Nat.add_assoc]; exact h6 _ (by have : j < 1 := hj; omega)) (fun j _ => hf.free b (by simp) _)
    rw [hz1] at hrun
    have hroom : ∀ j, j < [Value.string key].length → (wr.cell? ⟨b, off + ks.length * 1 + j, none⟩).isSome = true := fun j hj => by rw [Nat.add_assoc]; exact h6 _ (by have : j < 1 := hj; omega)
    refine ⟨_, _, hrun, _, _, rfl, setCells_but b _ _ wr [b] (by simp), [b], ⟨_, cap, b, off, by simp, by simpa using hc, h2, fun _ => rfl, by rw [if_neg (by omega)], fun j hj => ⟨?_, hsz j hj⟩, h6.setCells _ _ _⟩, ⟨by simp, hf.old, fun y hy o => by rw [World.frozen?_setCells]; exact hf.free y hy o⟩, fun y hy => .inl hy⟩
    rw [List.length_append, List.length_singleton] at hj
    by_cases e : j = ks.length
    · subst e
      have := World.cell?_setCells_in b [Value.string key] _ wr hroom 0 (by simp)
      simpa using this
    · rw [World.cell?_setCells_out b _ _ wr _ (fun _ _ => .inl (by show off + j < _; omega)), List.getElem_append_left (by omega)]
      exact (h4 j (by omega)).1
  · have hrows : ∀ j u, (ks.map Value.string)[j]? = some u → ∀ b', o = some b' → wr.cell? (b'.add j) = some u := fun j u hu b' hb' => by
      have hj : j < ks.length := by
        have := (List.getElem?_eq_some_iff.1 hu).1
        simpa using this
      have ho := h3 (by omega)
      rw [hb'] at ho
      have hbe : b' = ⟨b, off, none⟩ := Option.some.inj ho
      subst hbe
      rw [List.getElem?_map, List.getElem?_eq_getElem hj] at hu
      have hu' : Value.string ks[j] = u := by simpa using hu
      rw [Go.WideShapes.add_plain, ← hu']
      exact (h4 j hj).1
    obtain ⟨v', w', hr, hown, hg⟩ := run_append_out (P := Try.prog) wr 28 ty 9 i0 _ 1 16 Try.underlying28 hi0 hz0 hz1 hz2 rfl (by decide) o ks.length cap (by omega) (ks.map .string) (by simp) (fun h0 => ⟨_, h3 (by omega)⟩)
      hrows h1 ⟨xb, 0, none⟩ [.string key] rfl hnews hone (fun e => by
        rcases Nat.eq_zero_or_pos cap with h0 | h0
        · exact h0
        · rw [h3 h0] at e; cases e) (by unfold maxLen; omega) (by omega)
    obtain ⟨o', c', rfl⟩ := owns_shape hown
    obtain ⟨F, f1, f2, f3⟩ := strs_owned (w := w) (wf := w') (base := wr.heap.size) (t := 9) (v := .slice o' (ks.length + 1) c') (ks := ks ++ [key]) (by simpa using hown) hsz hs
    exact ⟨_, w', hr, o', c', rfl, but_grown hg, F, f1, f2, fun y hy => .inr (hown.lt y (f3 y hy)).1⟩
end Go.Proofs.Ythbphkakbjheeaa
