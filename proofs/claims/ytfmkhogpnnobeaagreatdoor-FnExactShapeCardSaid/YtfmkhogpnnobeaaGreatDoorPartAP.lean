/-
  What is proved: append of one text to a list of texts, and of one tree to a list of trees, that lie in memory of their own with their room: in place, or in a new block.; a list of small structs that was laid by append lies as such lists do; no condition.; which metric is the share, told alike by the program and the model of a list in which at most one is named cpu; the metrics besides it; no condition.; the share of a list in which at most one is named cpu, told alike by the program and the model; no condition.
-/
import Derived.Test.YtfmkhogpnnobeaaGreatDoorSetI
import Derived.Test.YtfmkhogpnnobeaaGreatDoorPartAB
import Derived.ArgAppend
import Derived.Deep.MidRow
import Derived.Test.YtfmkhogpnnobeaaGreatDoorPartAD
import Derived.Test.YtfmkhogpnnobeaaGreatDoorPartAC
import Derived.Test.YtfmkhogpnnobeaaGreatDoorPartAO
import Derived.Test.YtfmkhogpnnobeaaGreatDoorSetSP
import Derived.Test.YtfmkhogpnnobeaaGreatDoorPartAI
import Derived.Test.YtfmkhogpnnobeaaGreatDoorPartAJ
/- append of one text to a list of texts, and of one tree to a list of trees, that lie in memory of their own with their room: in place, or in a new block. -/
namespace Go.Proofs.YtfmkhogpnnobeaaGreatDoor
open Go Go.RowKit

theorem setCells_other (b : Nat) : ∀ (vs : List Value) (o : Nat) (w : World) (y : Nat), y ≠ b → (w.setCells b o vs).heap[y]? = w.heap[y]?
  | [], _, _, _, _ => rfl
  | v :: r, o, w, y, h => by
    rw [World.setCells, setCells_other b r (o + 1) _ y h]
    exact Below.heap_setCell _ _ _ _ h

theorem setCells_but (b : Nat) : ∀ (vs : List Value) (o : Nat) (w : World) (F : List Nat), b ∈ F → But F w (w.setCells b o vs)
  | [], _, w, F, _ => But.refl F w
  | v :: r, o, w, F, h => by
    rw [World.setCells]
    exact ((But.refl F w).set (p := ⟨b, o, none⟩) h v).trans (setCells_but b r (o + 1) _ F h)

theorem Room.setCells {w : World} {b off n : Nat} (h : Room w b off n) (b' o : Nat) (vs : List Value) : Room (w.setCells b' o vs) b off n := fun i hi => World.isSome_setCells b' vs o w _ (h i hi)

/-- The elements that are appended to a list that has no room come to stand in a new block. -/
theorem run_append_out {P : Program} (w : World) (t ty e : TypeId) (i : TypeInfo) (z : Value) (size bytes : Nat) (ht : P.underlying t = some (.slice e)) (hi : P.info? e = some i) (hz : i.zero = some z)
    (hsize : i.size = size) (hby : i.bytes = bytes) (hzs : z.cells.size = size) (hsz : 0 < size) (o : Option Addr) (n cap : Nat) (hcap : cap < n + 1) (olds : List Value) (hlo : olds.length = n * size) (ho : 0 < n → ∃ b, o = some b)
    (holds : ∀ j u, olds[j]? = some u → ∀ b, o = some b → w.cell? (b.add j) = some u) (hn : n ≤ cap) (a : Addr) (news : List Value) (hl : news.length = 1 * size) (hnews : ∀ j u, news[j]? = some u → w.cell? (a.add j) = some u) (h1 : ∀ u ∈ news, u.oneCell' = true) (hc0 : o = none → cap = 0)
    (h63 : n + 1 ≤ maxLen) (hbytes : (n + 1) * bytes ≤ 140737488355328) :
    ∃ v' w', (Builtin.append_ #[t, t] ty #[.slice o n cap, .slice (some a) 1 1]).run P w = .ok v' w' ∧ w'.ownsRow w.heap.size e size v' (n + 1) (olds ++ news) ∧ w.grownBy w' none := by
  cases o with
  | some b =>
    exact run_append_arg_grows w t ty e i z size bytes ht hi hz hsize hby hzs hsz b n cap olds hlo (fun j u hu => holds j u hu b rfl) a 1 1 news hl hnews hcap h63 hbytes
  | none =>
    have hcz := hc0 rfl
    subst hcz
    obtain rfl : n = 0 := by omega
    have hol : olds = [] := List.length_eq_zero_iff.1 (by omega)
    subst hol
    obtain ⟨v', w', hr, h2, h3, -, -⟩ := run_append_own_at (P := P) w w.heap.size t ty e i z size bytes ht hi hz hsize hby hzs hsz (.slice none 0 0) 0 [] (World.ownsRow_nil _ _ _ _) a 1 1 news hl hnews h1 h63 hbytes (Nat.le_refl _)
    exact ⟨v', w', hr, h2, h3⟩

theorem owns_shape {w : World} {base : Nat} {e : TypeId} {q : Nat} {v : Value} {n : Nat} {xs : List Value} (h : w.ownsRow base e q v n xs) : ∃ o c, v = .slice o n c := by
  rcases h.2 with ⟨rfl, h0⟩ | ⟨g, cap, cur, rfl, _⟩
  · exact ⟨none, 0, by rw [h0]⟩
  · exact ⟨_, _, rfl⟩

theorem but_grown {F : List Nat} {w w' : World} (h : w.grownBy w' none) : But F w w' := But.of_below (below_of_grown h)

/-- One tree more behind a list of trees. -/
theorem append_kid {w wr : World} {dv : Value} {kids : List RT} {FD : List Nat} (h : KidsLie wr dv kids FD) (hf : Fresh w wr FD) {X : RT} {kx dx : Value} {FX : List Nat} (hX : Lies wr X kx dx FX) (hfX : Fresh w wr FX) (hd : ∀ x ∈ FX, x ∉ FD)
    {xb : Nat} {t : TypeId} (hxb : wr.heap[xb]? = some (.cells #[.int .i64 X.k, .int .i64 X.n, .string X.s, kx, dx] t (0, 0))) (hn : kids.length ≤ 1048576) (hs : w.heap.size ≤ wr.heap.size) (ty : TypeId) :
    ∃ v' w', (Builtin.append_ #[30, 30] ty #[dv, .slice (some ⟨xb, 0, none⟩) 1 1]).run Tryz.prog wr = .ok v' w' ∧
      ∃ o' c', v' = .slice o' (kids.length + 1) c' ∧ But FD wr w' ∧ ∃ F, KidsLie w' (.slice o' (kids.length + 1) c') (kids ++ [X]) F ∧ Fresh w w' F ∧ ∀ y ∈ F, y ∈ FD ∨ y ∈ FX ∨ wr.heap.size ≤ y := by
  obtain ⟨i0, hi0, hz0, hz1, hz2⟩ := info_parts info_node
  have hone : ∀ u ∈ X.row kx dx, u.oneCell' = true := by
    obtain ⟨⟨o1, q1, rfl⟩, ⟨o2, q2, rfl⟩⟩ := hX.slices
    exact row_one X _ _ _ _ _ _
  have hnews : ∀ j u, (X.row kx dx)[j]? = some u → wr.cell? ((⟨xb, 0, none⟩ : Addr).add j) = some u := World.news_of_block hxb
  obtain ⟨o, cap, b, off, FF, KV, DV, rfl, h1, h2, h3, hFD, h4, h5, h6⟩ := h
  have hsubF : ∀ y ∈ (List.range kids.length).flatMap FF, y ∈ FD := fun y hy => by rw [hFD]; exact List.mem_append_right _ hy
  have hfF : Fresh w wr ((List.range kids.length).flatMap FF) := by
    refine ⟨?_, fun y hy => hf.old y (hsubF y hy), fun y hy => hf.free y (hsubF y hy)⟩
    have := hf.nodup
    rw [hFD] at this
    exact (List.nodup_append.1 this).2.1
  by_cases hc : kids.length + 1 ≤ cap
  · have ho := h3 (by omega)
    subst ho
    rw [if_neg (by omega)] at hFD
    have hbF : b ∈ FD := by rw [hFD]; simp
    have hbn : b ∉ (List.range kids.length).flatMap FF := by
      have := hf.nodup
      rw [hFD] at this
      exact (List.nodup_cons.1 this).1
    have hbX : b ∉ FX := fun hx => hd b hx hbF
    have hrun := run_append_room_cells (P := Tryz.prog) wr 30 ty 32 i0 Tryz.underlying30 hi0 b off kids.length cap ⟨xb, 0, none⟩ 1 1 (X.row kx dx) (by rw [hz1]; rfl) hnews hone hc
      (fun j hj => by rw [hz1, Nat.add_assoc]; exact h6 _ (by have : j < 5 := hj; omega)) (fun j _ => hf.free b hbF _)
    rw [hz1] at hrun
    have keep : ∀ y, y ≠ b → (wr.setCells b (off + kids.length * 5) (X.row kx dx)).heap[y]? = wr.heap[y]? := fun y hy => setCells_other b _ _ wr y hy
    have hroom : ∀ j, j < (X.row kx dx).length → (wr.cell? ⟨b, off + kids.length * 5 + j, none⟩).isSome = true := fun j hj => by rw [Nat.add_assoc]; exact h6 _ (by have : j < 5 := hj; omega)
    have hflat := flat_succ FF kids.length FX
    have hmem : ∀ y ∈ (List.range (kids.length + 1)).flatMap (fun j => if j = kids.length then FX else FF j), y ∈ (List.range kids.length).flatMap FF ∨ y ∈ FX := fun y hy => by
      rw [hflat] at hy; exact List.mem_append.1 hy
    refine ⟨_, _, hrun, _, _, rfl, setCells_but b _ _ wr FD hbF, [b] ++ (List.range (kids.length + 1)).flatMap (fun j => if j = kids.length then FX else FF j), ?_, ⟨?_, fun y hy => ?_, fun y hy o => ?_⟩, fun y hy => ?_⟩
    · refine ⟨_, cap, b, off, (fun j => if j = kids.length then FX else FF j), (fun j => if j = kids.length then kx else KV j), (fun j => if j = kids.length then dx else DV j), by simp, by simpa using hc, h2, fun _ => rfl, by rw [if_neg (by omega)]; simp, fun j hj c hcc => ?_, fun j hj => ?_, h6.setCells _ _ _⟩
      · rw [List.length_append, List.length_singleton] at hj
        by_cases e : j = kids.length
        · subst e
          simp only [if_true, List.getElem_concat_length]
          rw [World.cell?_setCells_in b (X.row kx dx) _ wr hroom c hcc, List.getElem?_eq_getElem (by exact hcc)]
        · simp only [e, if_false]
          rw [World.cell?_setCells_out b _ _ wr _ (fun _ _ => .inl (by show off + j * 5 + c < _; omega)), List.getElem_append_left (by omega)]
          exact h4 j (by omega) c hcc
      · rw [List.length_append, List.length_singleton] at hj
        by_cases e : j = kids.length
        · subst e
          simp only [if_true, List.getElem_concat_length]
          exact hX.carry fun y hy => keep y (fun ee => hbX (ee ▸ hy))
        · simp only [e, if_false]
          rw [List.getElem_append_left (by omega)]
          exact (h5 j (by omega)).carry fun y hy => keep y (fun ee => hbn (List.mem_flatMap.2 ⟨j, List.mem_range.2 (by omega), ee ▸ hy⟩))
    · rw [hflat]
      simp only [List.singleton_append, List.nodup_cons]
      refine ⟨fun hy => ?_, List.nodup_append.2 ⟨hfF.nodup, hfX.nodup, fun x hx y hy e => hd y hy (hsubF y (e ▸ hx))⟩⟩
      rcases List.mem_append.1 hy with hy | hy
      · exact hbn hy
      · exact hbX hy
    · rcases List.mem_append.1 hy with hy | hy
      · simp at hy; subst hy; exact hf.old y hbF
      · rcases hmem y hy with hy | hy
        · exact hfF.old y hy
        · exact hfX.old y hy
    · rw [World.frozen?_setCells]
      rcases List.mem_append.1 hy with hy | hy
      · simp at hy; subst hy; exact hf.free y hbF o
      · rcases hmem y hy with hy | hy
        · exact hfF.free y hy o
        · exact hfX.free y hy o
    · rcases List.mem_append.1 hy with hy | hy
      · simp at hy; subst hy; exact .inl hbF
      · rcases hmem y hy with hy | hy
        · exact .inl (hsubF y hy)
        · exact .inr (.inl hy)
  · have hrows : ∀ j u, (rowsOf kids KV DV kids.length)[j]? = some u → ∀ b', o = some b' → wr.cell? (b'.add j) = some u := fun j u hu b' hb' => by
      have hj : j < kids.length * 5 := by
        have := (List.getElem?_eq_some_iff.1 hu).1
        rwa [rowsOf_length] at this
      have ho := h3 (by omega)
      rw [hb'] at ho
      have hbe : b' = ⟨b, off, none⟩ := Option.some.inj ho
      subst hbe
      have hj5 : j / 5 < kids.length := by omega
      have hr := rowsOf_get kids KV DV kids.length (j / 5) (j % 5) hj5 (by omega)
      have e : j / 5 * 5 + j % 5 = j := by omega
      rw [e, hu] at hr
      have hcc := h4 (j / 5) hj5 (j % 5) (by omega)
      rw [Nat.add_assoc, e] at hcc
      rw [Go.WideShapes.add_plain, hcc, hr]
      have e2 : kids.getD (j / 5) default = kids[j / 5] := by simp [List.getD, List.getElem?_eq_getElem hj5]
      rw [e2]
    obtain ⟨v', w', hr, hown, hg⟩ := run_append_out (P := Tryz.prog) wr 30 ty 32 i0 _ 5 80 Tryz.underlying30 hi0 hz0 hz1 hz2 rfl (by decide) o kids.length cap (by omega) (rowsOf kids KV DV kids.length) (rowsOf_length _ _ _ _) (fun h0 => ⟨_, h3 (by omega)⟩)
      hrows h1 ⟨xb, 0, none⟩ (X.row kx dx) rfl hnews hone (fun e => by
        rcases Nat.eq_zero_or_pos cap with h0 | h0
        · exact h0
        · rw [h3 h0] at e; cases e) (by unfold maxLen; omega) (by omega)
    obtain ⟨o', c', rfl⟩ := owns_shape hown
    have hb := below_of_grown hg
    have hins : insAt kids kids.length X = kids ++ [X] := by simp [insAt]
    obtain ⟨F, k1, k2, k3⟩ := kids_ins (w := w) (wf := w') (base := wr.heap.size) (KV := KV) (DV := DV) (FF := FF) (Nat.le_refl kids.length) (by
        rw [List.take_of_length_le (by rw [rowsOf_length]; exact Nat.le_refl _), List.drop_eq_nil_of_le (by rw [rowsOf_length]; exact Nat.le_refl _), List.append_nil]
        exact hown) (fun j hj => (h5 j hj).stay hb (Nat.le_refl _)) (hX.stay hb (Nat.le_refl _)) (hfF.carry fun y hy => hb.block y (by
          obtain ⟨j, hj, hy⟩ := List.mem_flatMap.1 hy
          exact (h5 j (List.mem_range.1 hj)).lt y hy)) (hfX.carry fun y hy => hb.block y (hX.lt y hy)) (fun y hy hy' => hd y hy (hsubF y hy')) (fun g hgo => by
          have hge := (hown.lt g hgo).1
          refine ⟨fun hy => ?_, fun hy => ?_⟩
          · obtain ⟨j, hj, hy⟩ := List.mem_flatMap.1 hy
            have := (h5 j (List.mem_range.1 hj)).lt g hy
            omega
          · have := hX.lt g hy
            omega) hs
    rw [hins] at k1
    refine ⟨_, w', hr, o', c', rfl, but_grown hg, F, k1, k2, fun y hy => ?_⟩
    rcases k3 y hy with e | e | e
    · exact .inr (.inr (hown.lt y e).1)
    · exact .inl (hsubF y e)
    · exact .inr (.inl e)

/-- One text more behind a list of texts. -/
theorem append_str {w wr : World} {kv : Value} {ks : List ByteArray} {FK : List Nat} (h : StrsAt wr kv ks FK) (hf : Fresh w wr FK) (key : ByteArray) (hkey : key.size ≤ maxLen) {xb : Nat} {t : TypeId} (hxb : wr.heap[xb]? = some (.cells #[.string key] t (0, 0))) (hn : ks.length ≤ 1048576) (hs : w.heap.size ≤ wr.heap.size) (ty : TypeId) :
    ∃ v' w', (Builtin.append_ #[29, 29] ty #[kv, .slice (some ⟨xb, 0, none⟩) 1 1]).run Tryz.prog wr = .ok v' w' ∧
      ∃ o' c', v' = .slice o' (ks.length + 1) c' ∧ But FK wr w' ∧ ∃ F, StrsAt w' (.slice o' (ks.length + 1) c') (ks ++ [key]) F ∧ Fresh w w' F ∧ ∀ y ∈ F, y ∈ FK ∨ wr.heap.size ≤ y := by
  obtain ⟨i0, hi0, hz0, hz1, hz2⟩ := info_parts info_string
  have hone : ∀ u ∈ [Value.string key], u.oneCell' = true := by simp [Value.oneCell']
  have hnews : ∀ j u, [Value.string key][j]? = some u → wr.cell? ((⟨xb, 0, none⟩ : Addr).add j) = some u := World.news_of_block hxb
  obtain ⟨o, cap, b, off, rfl, h1, h2, h3, hFK, h4, h6⟩ := h
  have hsz : ∀ i (hi : i < (ks ++ [key]).length), (ks ++ [key])[i].size ≤ maxLen := fun i hi => by
    rcases List.mem_append.1 (List.getElem_mem hi) with e | e
    · obtain ⟨m, hm, e⟩ := List.getElem_of_mem e
      rw [← e]; exact (h4 m hm).2
    · simp at e; rw [e]; exact hkey
  by_cases hc : ks.length + 1 ≤ cap
  · have ho := h3 (by omega)
    subst ho
    rw [if_neg (by omega)] at hFK
    subst hFK
    have hrun := run_append_room_cells (P := Tryz.prog) wr 29 ty 9 i0 Tryz.underlying29 hi0 b off ks.length cap ⟨xb, 0, none⟩ 1 1 [.string key] (by rw [hz1]; rfl) hnews hone hc
      (fun j hj => by rw [hz1, Nat.add_assoc]; exact h6 _ (by have : j < 1 := hj; omega)) (fun j _ => hf.free b (by simp) _)
    rw [hz1] at hrun
    have hroom : ∀ j, j < [Value.string key].length → (wr.cell? ⟨b, off + ks.length * 1 + j, none⟩).isSome = true := fun j hj => by rw [Nat.add_assoc]; exact h6 _ (by have : j < 1 := hj; omega)
    refine ⟨_, _, hrun, _, _, rfl, setCells_but b _ _ wr [b] (by simp), [b], ⟨_, cap, b, off, by simp, by simpa using hc, h2, fun _ => rfl, by rw [if_neg (by omega)], fun j hj => ⟨?_, hsz j hj⟩, h6.setCells _ _ _⟩, ⟨by simp, hf.old, fun y hy o => by rw [World.frozen?_setCells]; exact hf.free y hy o⟩, fun y hy => .inl hy⟩
    rw [List.length_append, List.length_singleton] at hj
    by_cases e : j = ks.length
    · subst e
      have := World.cell?_setCells_in b [Value.string key] _ wr hroom 0 (by simp)
      simpa using this
    · rw [World.cell?_setCells_out b _ _ wr _ (fun _ _ => .inl (by show off + j < _; omega)), List.getElem_append_left (by omega)]
      exact (h4 j (by omega)).1
  · have hrows : ∀ j u, (ks.map Value.string)[j]? = some u → ∀ b', o = some b' → wr.cell? (b'.add j) = some u := fun j u hu b' hb' => by
      have hj : j < ks.length := by
        have := (List.getElem?_eq_some_iff.1 hu).1
        simpa using this
      have ho := h3 (by omega)
      rw [hb'] at ho
      have hbe : b' = ⟨b, off, none⟩ := Option.some.inj ho
      subst hbe
      rw [List.getElem?_map, List.getElem?_eq_getElem hj] at hu
      have hu' : Value.string ks[j] = u := by simpa using hu
      rw [Go.WideShapes.add_plain, ← hu']
      exact (h4 j hj).1
    obtain ⟨v', w', hr, hown, hg⟩ := run_append_out (P := Tryz.prog) wr 29 ty 9 i0 _ 1 16 Tryz.underlying29 hi0 hz0 hz1 hz2 rfl (by decide) o ks.length cap (by omega) (ks.map .string) (by simp) (fun h0 => ⟨_, h3 (by omega)⟩)
      hrows h1 ⟨xb, 0, none⟩ [.string key] rfl hnews hone (fun e => by
        rcases Nat.eq_zero_or_pos cap with h0 | h0
        · exact h0
        · rw [h3 h0] at e; cases e) (by unfold maxLen; omega) (by omega)
    obtain ⟨o', c', rfl⟩ := owns_shape hown
    obtain ⟨F, f1, f2, f3⟩ := strs_owned (w := w) (wf := w') (base := wr.heap.size) (t := 9) (v := .slice o' (ks.length + 1) c') (ks := ks ++ [key]) (by simpa using hown) hsz hs
    exact ⟨_, w', hr, o', c', rfl, but_grown hg, F, f1, f2, fun y hy => .inr (hown.lt y (f3 y hy)).1⟩
end Go.Proofs.YtfmkhogpnnobeaaGreatDoor

/- a list of small structs that was laid by append lies as such lists do; no condition. -/
namespace Go.Proofs.YtfmkhogpnnobeaaGreatDoor
open Go Go.RowKit

theorem flat_at {α : Type} {enc : α → List Value} {k : Nat} (hk : ∀ a, (enc a).length = k) : (xs : List α) → (i : Nat) → (h : i < xs.length) → (j : Nat) → (hj : j < k) → (xs.flatMap enc)[i * k + j]? = (enc xs[i])[j]?
  | x :: xs, 0, _, j, hj => by
    rw [List.flatMap_cons, Nat.zero_mul, Nat.zero_add, List.getElem?_append_left (by rw [hk]; exact hj)]
    rfl
  | x :: xs, i + 1, h, j, hj => by
    have e : (i + 1) * k + j = (enc x).length + (i * k + j) := by rw [hk, Nat.add_mul]; omega
    rw [List.flatMap_cons, e, List.getElem?_append_right (by omega), Nat.add_sub_cancel_left]
    exact flat_at hk xs i (by simpa using h) j hj

theorem row_of_owns {α : Type} {enc : α → List Value} {ok : α → Prop} {k : Nat} {w : World} {base : Nat} {e : TypeId} {v : Value} {xs : List α} (hk : ∀ a, (enc a).length = k) (h : w.ownsRow base e k v xs.length (xs.flatMap enc)) (hok : ∀ x ∈ xs, ok x) : ∃ F, RowAt enc ok k w v xs F := by
  rcases h.2 with ⟨rfl, h0⟩ | ⟨g, cap, cur, rfl, hb, hg, hn, hc, hs, ht⟩
  · have e : xs = [] := List.eq_nil_of_length_eq_zero h0
    subst e
    exact ⟨[], none, 0, 0, 0, rfl, Nat.le_refl _, by decide, fun h => absurd h (by omega), by simp, fun i hi => absurd hi (by simp), fun i hi => absurd hi (by simp)⟩
  · refine ⟨_, some ⟨g, 0, none⟩, cap, g, 0, rfl, hn, hc, fun _ => rfl, rfl, fun i hi => ⟨hok _ (List.getElem_mem hi), fun j hj => ?_⟩, fun i hi => ?_⟩
    · have hlt : i * k + j < xs.length * k := by
        have : (i + 1) * k ≤ xs.length * k := Nat.mul_le_mul_right k (by omega)
        rw [Nat.add_mul] at this
        omega
      have e1 : cur[i * k + j]? = (xs.flatMap enc)[i * k + j]? := by rw [← ht, List.getElem?_take_of_lt hlt, Array.getElem?_toList]
      rw [← flat_at hk xs i hi j hj, ← e1]
      simp [World.cell?, hg]
    · have hi' : i < cur.size := by rw [hs]; exact hi
      simp [World.cell?, hg, Array.getElem?_eq_getElem hi']

/-- The elements that pass, of the first j. -/
theorem filter_take {α : Type} (q : α → Bool) (xs : List α) {j : Nat} (hj : j < xs.length) : (xs.take (j + 1)).filter q = (xs.take j).filter q ++ (if q xs[j] = true then [xs[j]] else []) := by
  rw [List.take_succ_eq_append_getElem hj, List.filter_append, List.filter_cons, List.filter_nil]

theorem flat_cells {α : Type} {enc : α → List Value} {k : Nat} (hk : ∀ a, (enc a).length = k) (h0 : 0 < k) {w : World} {b off : Nat} (xs : List α) (hc : ∀ i (h : i < xs.length), ∀ j, j < k → w.cell? ⟨b, off + i * k + j, none⟩ = (enc xs[i])[j]?) :
    ∀ j u, (xs.flatMap enc)[j]? = some u → w.cell? ⟨b, off + j, none⟩ = some u := by
  intro j u hu
  have hl : (xs.flatMap enc).length = xs.length * k := by
    rw [List.length_flatMap]
    have : xs.map (fun a => (enc a).length) = List.replicate xs.length k := by
      rw [List.eq_replicate_iff]
      refine ⟨by simp, fun x hx => ?_⟩
      obtain ⟨a, -, rfl⟩ := List.mem_map.1 hx
      exact hk a
    rw [this, List.sum_replicate_nat]
  have hj : j < xs.length * k := by rw [← hl]; exact (List.getElem?_eq_some_iff.1 hu).1
  have hi : j / k < xs.length := Nat.div_lt_of_lt_mul (by rw [Nat.mul_comm]; exact hj)
  have e : j = j / k * k + j % k := by rw [Nat.mul_comm]; exact (Nat.div_add_mod j k).symm
  have h1 := flat_at hk xs (j / k) hi (j % k) (Nat.mod_lt _ h0)
  rw [← e, hu] at h1
  have h2 := hc (j / k) hi (j % k) (Nat.mod_lt _ h0)
  rw [Nat.add_assoc, ← e] at h2
  rw [h2, ← h1]
theorem flat_len {α : Type} {enc : α → List Value} {k : Nat} (hk : ∀ a, (enc a).length = k) (xs : List α) : (xs.flatMap enc).length = xs.length * k := by
  rw [List.length_flatMap]
  have : xs.map (fun a => (enc a).length) = List.replicate xs.length k := by
    rw [List.eq_replicate_iff]
    refine ⟨by simp, fun x hx => ?_⟩
    obtain ⟨a, -, rfl⟩ := List.mem_map.1 hx
    exact hk a
  rw [this, List.sum_replicate_nat]

theorem met_row (m : Met) : m.row.length = 3 := rfl
theorem info_met : (Tryz.prog.info? 93).map (fun i => (i.zero, i.size, i.bytes)) = some (some (.agg #[.string ⟨#[]⟩, .int .i64 0, .int .i64 0]), 3, 32) := by kernel_rfl

set_option maxRecDepth 100000 in
/-- A list of metrics without its i-th, by append behind what stands ahead of it. -/
theorem append_cut {w : World} {b off cap : Nat} {xs : List Met} (i : Nat) (hi : i < xs.length) (hl : xs.length ≤ 1000000) (hlc : xs.length ≤ cap) (hcm : cap ≤ maxLen)
    (hc : ∀ i (h : i < xs.length), Met.ok xs[i] ∧ ∀ j, j < 3 → w.cell? ⟨b, off + i * 3 + j, none⟩ = (Met.row xs[i])[j]?) (hr : Room w b off (cap * 3)) (a : Addr) (n c : Nat) (hn : n = xs.length - (i + 1)) (ha : 0 < n → a = ⟨b, off + (i + 1) * 3, none⟩) (ty : TypeId) :
    ∃ v' w', (Builtin.append_ #[34, 34] ty #[.slice (some ⟨b, off, none⟩) i i, .slice (some a) n c]).run Tryz.prog w = .ok v' w' ∧ (∃ F', MetsAt w' v' (xs.take i ++ xs.drop (i + 1)) F') ∧ Below w.heap.size w w' := by
  obtain ⟨i0, hi0, hz0, hz1, hz2⟩ := info_parts info_met
  have hok : ∀ m ∈ xs.take i ++ xs.drop (i + 1), Met.ok m := by
    intro m hm
    have hm' : m ∈ xs := by
      rcases List.mem_append.1 hm with h | h
      · exact List.mem_of_mem_take h
      · exact List.mem_of_mem_drop h
    obtain ⟨j, hj, rfl⟩ := List.getElem_of_mem hm'
    exact (hc j hj).1
  have lt1 : (xs.take i).length = i := by rw [List.length_take]; omega
  have ld1 : (xs.drop (i + 1)).length = n := by rw [List.length_drop]; omega
  rcases Nat.eq_zero_or_pos n with e | e
  · subst e
    have hdn : xs.drop (i + 1) = [] := List.eq_nil_of_length_eq_zero ld1
    have hrun := run_append_room_cells (P := Tryz.prog) w 34 ty 93 i0 Tryz.underlying34 hi0 b off i i a 0 c [] (by simp) (fun j u h => by simp at h) (fun u h => by simp at h) (by omega) (fun j h => by simp at h) (fun j h => by simp at h)
    refine ⟨_, _, hrun, ?_, Below.refl _ _⟩
    rw [hdn, List.append_nil]
    show ∃ F', RowAt Met.row Met.ok 3 w (.slice (some ⟨b, off, none⟩) (i + 0) i) (xs.take i) F'
    refine ⟨_, some ⟨b, off, none⟩, i, b, off, by rw [lt1]; rfl, by omega, by omega, fun _ => rfl, rfl, fun j hj => ?_, fun j hj => hr j (by have : i * 3 ≤ cap * 3 := Nat.mul_le_mul_right 3 (by omega); omega)⟩
    have hj' : j < xs.length := by omega
    rw [List.getElem_take]
    exact hc j hj'
  · have ha := ha e
    subst ha
    have e1 := flat_cells met_row (by decide) (w := w) (b := b) (off := off) (xs.take i) (fun j hj c hc' => by
      have hj' : j < xs.length := by omega
      rw [List.getElem_take]
      exact (hc j hj').2 c hc')
    have e2 := flat_cells met_row (by decide) (w := w) (b := b) (off := off + (i + 1) * 3) (xs.drop (i + 1)) (fun j hj c hc' => by
      have hj' : i + 1 + j < xs.length := by omega
      rw [List.getElem_drop]
      have := (hc (i + 1 + j) hj').2 c hc'
      rw [← this]
      congr 2
      omega)
    have f1 := flat_len met_row (xs.take i)
    have f2 := flat_len met_row (xs.drop (i + 1))
    rw [lt1] at f1
    rw [ld1] at f2
    obtain ⟨v', w', h1, h2, h3⟩ := run_append_arg_grows (P := Tryz.prog) w 34 ty 93 i0 _ 3 32 Tryz.underlying34 hi0 hz0 hz1 hz2 rfl (by decide) ⟨b, off, none⟩ i i _ f1 (fun j u h => by rw [Addr.add_lit]; exact e1 j u h) ⟨b, off + (i + 1) * 3, none⟩ n c _ f2 (fun j u h => by rw [Addr.add_lit]; exact e2 j u h) (by omega) (by unfold maxLen; omega) (by omega)
    refine ⟨v', w', h1, ?_, below_of_grown h3⟩
    have hlen : i + n = (xs.take i ++ xs.drop (i + 1)).length := by rw [List.length_append, lt1, ld1]
    rw [hlen, ← List.flatMap_append] at h2
    exact row_of_owns met_row h2 hok
end Go.Proofs.YtfmkhogpnnobeaaGreatDoor

/- which metric is the share, told alike by the program and the model of a list in which at most one is named cpu; the metrics besides it; no condition. -/
namespace Go.Proofs.YtfmkhogpnnobeaaGreatDoor
open Go Go.RowKit

set_option maxHeartbeats 1000000 in
theorem clo_cpu (x : Met) (w : World) : Calls Tryz.prog 124 #[.agg #[.string x.name, .int .i64 x.kind, .int .i64 x.goal]] w fun e w' => e = .returned (.bool (isCpu x)) ∧ Below w.heap.size w w' := by
  have HB : Hid (∀ o, Below w.heap.size w (w.alloc o)) := fun o => (Below.refl _ w).alloc (Nat.le_refl _) o
  go_enter Tryz.func124, Tryz.ntmps124
  go_wp2
  go_ret
  exact ⟨rfl, HB.out _⟩

/-- Where cpu stands, or -1. -/
def cpuI (xs : List Met) : Int := if cpuN xs < xs.length then (cpuN xs : Int) else -1

theorem cpuI_at {xs : List Met} {k : Nat} (hk : k < xs.length) (h : isCpu xs[k] = true) (hb : ∀ i (hi : i < xs.length), i < k → isCpu xs[i] = false) : cpuI xs = (k : Int) := by
  have e : cpuN xs = k := by
    unfold cpuN
    rw [List.findIdx_eq hk]
    exact ⟨h, fun j hj => hb j (by omega) hj⟩
  unfold cpuI
  rw [e, if_pos hk]
theorem cpuI_no {xs : List Met} (hb : ∀ i (hi : i < xs.length), isCpu xs[i] = false) : cpuI xs = -1 := by
  unfold cpuI cpuN
  rw [if_neg]
  intro h
  have := List.findIdx_getElem (p := isCpu) (w := h)
  rw [hb _ h] at this
  cases this

set_option maxRecDepth 100000 in
set_option maxHeartbeats 4000000 in
theorem idx_cpu {v : Value} {xs : List Met} {F : List Nat} (w : World) (hs : MetsAt w v xs F) (h1 : xs.length ≤ 1000000) :
    Calls Tryz.prog 123 #[v, .func (.func 124) #[] #[]] w fun e w' => e = .returned (.int .i64 (cpuI xs)) ∧ Below w.heap.size w w' := by
  obtain ⟨o, cap, b, off, rfl, hlc, hcm, ho, -, hcell, -⟩ := hs
  have HC := Lib.hid hcell
  have HO := Lib.hid ho
  clear hcell ho
  go_enter Tryz.func123, Tryz.ntmps123
  go_wp2
  go_loopw [5, 8] (fun _ i wr => ∃ k : Nat, k ≤ xs.length ∧ i = .int .i64 k ∧ Hid (∀ j (h : j < xs.length), j < k → isCpu xs[j] = false) ∧ Hid (Below w.heap.size w wr)) (fun _ i _ => xs.length - (intOf i).toNat)
  case atStart => exact ⟨0, Nat.zero_le _, rfl, fun _ _ h => absurd h (by omega), Below.refl _ _⟩
  case round =>
    obtain ⟨k, hk, rfl, hr, hb⟩ := hrel
    by_cases hlt : k < xs.length
    · have hbel := hb.out
      have c0 : wr.cell? ⟨b, off + k * 3, none⟩ = some (.string xs[k].name) := by
        have := (HC.out k hlt).2 0 (by decide)
        rw [hbel.cell (by exact World.block_lt_of_cell? _ _ this)]; exact this
      have c1 : wr.cell? ⟨b, off + k * 3 + 1, none⟩ = some (.int .i64 xs[k].kind) := by
        have := (HC.out k hlt).2 1 (by decide)
        rw [hbel.cell (by exact World.block_lt_of_cell? _ _ this)]; exact this
      have c2 : wr.cell? ⟨b, off + k * 3 + 2, none⟩ = some (.int .i64 xs[k].goal) := by
        have := (HC.out k hlt).2 2 (by decide)
        rw [hbel.cell (by exact World.block_lt_of_cell? _ _ this)]; exact this
      have ho := HO.out (by omega)
      subst ho
      have hcl := clo_cpu xs[k]
      have HN : Hid (isCpu xs[k] = false → ∀ j (h : j < xs.length), j < k + 1 → isCpu xs[j] = false) := fun h0 j hj hjk => by
        rcases Nat.lt_or_ge j k with h2 | h2
        · exact hr.out j hj h2
        · obtain rfl : j = k := by omega
          exact h0
      have HY : Hid (isCpu xs[k] = true → cpuI xs = (k : Int)) := fun h0 => cpuI_at hlt h0 hr.out
      generalize xs[k] = x at *
      have hb2 := hb.out
      clear hr hbel
      cases hq : isCpu x
      · rw [hq] at hcl
        have HCL := Lib.hid hcl
        have HQ := Lib.hid hq
        clear hcl hq
        go_wp2_with fail
        refine (HCL.out _).mono ?_
        rintro e w1 ⟨rfl, hb1⟩
        have HB1 := Lib.hid hb1
        clear hb1
        go_wp2
        exact ⟨⟨k + 1, by omega, by go_num, HN.out HQ.out, hb2.trans (HB1.out.mono hb2.size)⟩, by simp [intOf]; omega⟩
      · rw [hq] at hcl
        have HCL := Lib.hid hcl
        have HQ := Lib.hid hq
        clear hcl hq
        go_wp2_with fail
        refine (HCL.out _).mono ?_
        rintro e w1 ⟨rfl, hb1⟩
        have HB1 := Lib.hid hb1
        clear hb1
        go_wp2
        go_ret
        exact ⟨by rw [HY.out HQ.out]; rfl, hb2.trans (HB1.out.mono hb2.size)⟩
    · have e : k = xs.length := by omega
      subst e
      have hy := cpuI_no fun j hj => hr.out j hj hj
      have hb2 := hb.out
      go_wp2
      go_ret
      exact ⟨by rw [hy]; rfl, hb2⟩

set_option maxHeartbeats 1000000 in
theorem impl_cpuAt {v : Value} {xs : List Met} {F : List Nat} (w : World) (hs : MetsAt w v xs F) (h1 : xs.length ≤ 1000000) :
    Calls Tryz.prog 87 #[v] w fun e w' => e = .returned (.int .i64 (cpuI xs)) ∧ Below w.heap.size w w' := by
  have HI := Lib.hid (idx_cpu w hs h1)
  go_enter Tryz.func87, Tryz.ntmps87
  go_wp2_with (first
    | (go_at_call 123; refine HI.out.mono ?_; rintro e w1 ⟨rfl, hb1⟩)
    | fail)
  go_ret
  exact ⟨rfl, hb1⟩
end Go.Proofs.YtfmkhogpnnobeaaGreatDoor

/- the share of a list in which at most one is named cpu, told alike by the program and the model; no condition. -/
namespace Go.Proofs.YtfmkhogpnnobeaaGreatDoor
open Go Go.RowKit

theorem impl_shareMetric (n : Int) (w : World) (hn : wrap64 (10 * n) = 10 * n) : Calls Tryz.prog 121 #[.int .i64 n] w fun e w' => e = .returned (.agg #[.string ⟨#[99, 112, 117]⟩, .int .i64 1, .int .i64 (10 * n)]) ∧ Below w.heap.size w w' := by
  have HB : Hid (∀ o, Below w.heap.size w (w.alloc o)) := fun o => (Below.refl _ w).alloc (Nat.le_refl _) o
  have HL : Hid (∀ o, (w.alloc o).heap[w.heap.size]? = some o) := fun o => by
    show (w.heap.push o)[w.heap.size]? = _
    simp
  go_enter Tryz.func121, Tryz.ntmps121
  go_wp2
  exact bodyPost_ret (ret_met Tryz.results121 rfl (HL.out _)) rfl ⟨rfl, HB.out _⟩

set_option maxRecDepth 100000 in
set_option maxHeartbeats 4000000 in
theorem impl_shareOf {v : Value} {xs : List Met} {F : List Nat} (w : World) (hs : MetsAt w v xs F) (h1 : xs.length ≤ 1000000) (hone : OneCpu xs) (hg : ∀ m ∈ xs, 0 ≤ m.goal) :
    Calls Tryz.prog 84 #[v] w fun e w' => e = .returned (.tuple #[.int .i64 (shareN xs), .bool (shareB xs)]) ∧ Below w.heap.size w w' := by
  have HI := Lib.hid (impl_cpuAt w hs h1)
  obtain ⟨o, cap, b, off, rfl, hlc, hcm, ho, -, hcell, -⟩ := hs
  by_cases hlt : cpuN xs < xs.length
  case neg =>
    have e1 : cpuI xs = -1 := by unfold cpuI; rw [if_neg hlt]
    have hno : ∀ i (hi : i < xs.length), isCpu xs[i] = false := fun i hi => by
      have h2 : xs.findIdx isCpu = xs.length := by have := List.findIdx_le_length (p := isCpu) (xs := xs); unfold cpuN at hlt; omega
      have := List.findIdx_eq_length.1 h2 _ (List.getElem_mem hi)
      simpa using this
    obtain ⟨s1, s2, -⟩ := share_none hno
    rw [s1, s2]
    rw [e1] at HI
    clear hcell ho hone hlt e1 hno s1 s2
    go_enter Tryz.func84, Tryz.ntmps84
    go_wp2_with fail
    refine HI.out.mono ?_
    rintro e w1 ⟨rfl, hb⟩
    have HB := Lib.hid hb
    clear hb
    go_wp2
    go_ret2
    exact ⟨rfl, HB.out⟩
  have hcpu : isCpu xs[cpuN xs] = true := List.findIdx_getElem (p := isCpu) (w := hlt)
  have e1 : cpuI xs = ((cpuN xs : Nat) : Int) := by unfold cpuI; rw [if_pos hlt]
  obtain ⟨s1, s2, s3⟩ := share_at hone hlt hcpu
  rw [e1] at HI
  rw [s1]
  have hc := hcell _ hlt
  have ho := ho (by omega)
  subst ho
  generalize hi : cpuN xs = i at *
  clear hcell hone e1 hi s1
  have HC : Hid (∀ w1, Below w.heap.size w w1 → (w1.cell? ⟨b, off + i * 3, none⟩ = some (.string xs[i].name) ∧ w1.cell? ⟨b, off + i * 3 + 1, none⟩ = some (.int .i64 xs[i].kind)) ∧ w1.cell? ⟨b, off + i * 3 + 2, none⟩ = some (.int .i64 xs[i].goal)) := fun w1 hb => by
    have c0 := hc.2 0 (by decide)
    have c1 := hc.2 1 (by decide)
    have c2 := hc.2 2 (by decide)
    refine ⟨⟨?_, ?_⟩, ?_⟩
    · exact (hb.cell (p := ⟨b, off + i * 3, none⟩) (by exact World.block_lt_of_cell? _ _ c0)).trans c0
    · exact (hb.cell (p := ⟨b, off + i * 3 + 1, none⟩) (by exact World.block_lt_of_cell? _ _ c1)).trans c1
    · exact (hb.cell (p := ⟨b, off + i * 3 + 2, none⟩) (by exact World.block_lt_of_cell? _ _ c2)).trans c2
  have hname := isCpu_name hcpu
  have hfit := hc.1.2.2
  have hg0 := hg _ (List.getElem_mem hlt)
  generalize xs[i] = x at *
  clear hc
  have hd : x.goal.tdiv 10 = x.goal / 10 := Int.tdiv_eq_ediv_of_nonneg hg0
  have hm : x.goal.tmod 10 = x.goal % 10 := Int.tmod_eq_emod_of_nonneg hg0
  have hq0 : wrap64 (x.goal.tdiv 10) = x.goal.tdiv 10 := IntWalk.wrap64_in _ (by have := hfit.1; have := hfit.2; rw [hd]; omega)
  have hF : (fitsB x = (sameO x ⟨⟨#[99, 112, 117]⟩, 1, 10 * x.goal.tdiv 10⟩ && inB (x.goal.tdiv 10) 1 1000)) := by
    unfold fitsB
    rw [hcpu, Bool.true_and]
    by_cases hx : x = ⟨⟨#[99, 112, 117]⟩, 1, 10 * x.goal.tdiv 10⟩
    · rw [sameO_yes hx]
      have h1 : x.kind = 1 := by rw [hx]
      have h2 : x.goal = 10 * x.goal.tdiv 10 := by conv => lhs; rw [hx]
      have h3 : x.goal.tmod 10 = 0 := by rw [hm]; rw [hd] at h2; omega
      simp [h1, h3]
    · rw [sameO_no hx, Bool.false_and]
      by_cases h1 : x.kind = 1
      · by_cases h3 : x.goal.tmod 10 = 0
        · exact absurd (by
            have h2 : x.goal = 10 * x.goal.tdiv 10 := by rw [hd]; rw [hm] at h3; omega
            cases x
            simp only [Met.mk.injEq] at *
            exact ⟨hname, h1, h2⟩) hx
        · simp [h3]
      · simp [h1]
  have HF := Lib.hid hF
  clear hF
  have hneq := neq_met x ⟨⟨#[99, 112, 117]⟩, 1, 10 * x.goal.tdiv 10⟩
  have HW : Hid (inB (x.goal.tdiv 10) 1 1000 = true → wrap64 (10 * x.goal.tdiv 10) = 10 * x.goal.tdiv 10) := fun h => by
    unfold inB at h
    simp only [Bool.and_eq_true, decide_eq_true_eq] at h
    exact IntWalk.wrap64_in _ (by omega)
  rw [HF.out] at s2 s3 ⊢
  clear hname hfit hcpu HF hd hm hg0 hg
  generalize sameO x ⟨⟨#[99, 112, 117]⟩, 1, 10 * x.goal.tdiv 10⟩ = sm at *
  generalize hqq : x.goal.tdiv 10 = q at *
  have HSh : Hid (((sm && inB q 1 1000) = true → shareN xs = q) ∧ ((sm && inB q 1 1000) = false → shareN xs = 0)) := ⟨s2, s3⟩
  clear s2 s3
  have hi0 : ¬ ((i : Int) < 0) := by omega
  generalize hsn : shareN xs = sn at *
  cases hin : inB q 1 1000
  · have e1 : sn = 0 := HSh.out.2 (by rw [hin, Bool.and_false])
    subst e1
    rw [Bool.and_false]
    clear hneq HW HSh hsn
    go_enter Tryz.func84, Tryz.ntmps84
    go_wp2_with fail
    refine HI.out.mono ?_
    rintro e w1 ⟨rfl, hb⟩
    have HB := Lib.hid (below_drewO hb 1)
    obtain ⟨⟨c0, c1⟩, c2⟩ := HC.out w1 hb
    clear hb
    go_wp2_with fail
    refine wp_region_held_drew (S := (fun w' => w'.cell? ⟨b, off + i * 3, none⟩ = some (.string x.name) ∧ w'.cell? ⟨b, off + i * 3 + 1, none⟩ = some (.int .i64 x.kind) ∧ w'.cell? ⟨b, off + i * 3 + 2, none⟩ = some (.int .i64 x.goal))) (by kernel_rfl) ?_ (fun hHeld => ?_)
    · go_keep
    refine takeD 0 16 (.int .i64 q) rfl rfl (by kernel_rfl) (by kernel_rfl) (by kernel_rfl) (fun _ _ _ h => h) (Or.inl ⟨by rfl, ?_⟩) (by assumption) ?_
    · intro w hSw
      go_simp
    simp only [Act.put, List.setIfInBounds_toArray, List.set_cons_zero, List.set_cons_succ]
    refine wpAnyH_ready (rs := [1]) (by kernel_rfl) (by simp) ?_
    refine AllReadyH.cons (o := { dst := some 17, op := Op.call { callee := Callee.value (Operand.func 67), args := #[Operand.tmp 16, Operand.const (Value.int IntKind.i64 1), Operand.const (Value.int IntKind.i64 1000)], argTypes := #[3, 3, 3] }, type := 4, pos := "l09_plain.go:29", after := #[{ on := 0, ground := Ground.data }], guard := none }) rfl (fun K hK => ?_) AllReadyH.nil
    go_simp
    refine (impl_inB _ _ _ _).mono ?_
    rintro e w2 ⟨rfl, e1⟩
    subst e1
    rw [hin]
    go_wp2_with fail
    refine hK.out _ _ ?_ (fun hHeld => ?_)
    · go_keep
    clear hK K
    refine takeD 2 18 (.bool true) rfl rfl (by kernel_rfl) (by kernel_rfl) (by kernel_rfl) (fun _ _ _ h => h) (Or.inl ⟨by rfl, ?_⟩) (by assumption) ?_
    · intro w hSw
      go_simp
    simp only [Act.put, List.setIfInBounds_toArray, List.set_cons_zero, List.set_cons_succ]
    refine takeD 3 19 (.bool true) rfl rfl (by kernel_rfl) (by kernel_rfl) (by kernel_rfl) (fun _ _ _ h => h) (Or.inl ⟨by rfl, ?_⟩) (by assumption) ?_
    · intro w hSw
      go_simp
    simp only [Act.put, List.setIfInBounds_toArray, List.set_cons_zero, List.set_cons_succ]
    refine takeD 4 20 undef rfl rfl (by kernel_rfl) (by kernel_rfl) (by kernel_rfl) (fun _ _ _ h => h) (Or.inr ⟨by rfl, rfl⟩) (by assumption) ?_
    simp only [Act.put, List.setIfInBounds_toArray, List.set_cons_zero, List.set_cons_succ]
    refine takeD 5 21 undef rfl rfl (by kernel_rfl) (by kernel_rfl) (by kernel_rfl) (fun _ _ _ h => h) (Or.inr ⟨by rfl, rfl⟩) (by assumption) ?_
    simp only [Act.put, List.setIfInBounds_toArray, List.set_cons_zero, List.set_cons_succ]
    refine takeD 6 22 undef rfl rfl (by kernel_rfl) (by kernel_rfl) (by kernel_rfl) (fun _ _ _ h => h) (Or.inr ⟨by rfl, rfl⟩) (by assumption) ?_
    simp only [Act.put, List.setIfInBounds_toArray, List.set_cons_zero, List.set_cons_succ]
    refine takeD 7 23 undef rfl rfl (by kernel_rfl) (by kernel_rfl) (by kernel_rfl) (fun _ _ _ h => h) (Or.inr ⟨by rfl, rfl⟩) (by assumption) ?_
    simp only [Act.put, List.setIfInBounds_toArray, List.set_cons_zero, List.set_cons_succ]
    refine takeD 8 24 undef rfl rfl (by kernel_rfl) (by kernel_rfl) (by kernel_rfl) (fun _ _ _ h => h) (Or.inr ⟨by rfl, rfl⟩) (by assumption) ?_
    simp only [Act.put, List.setIfInBounds_toArray, List.set_cons_zero, List.set_cons_succ]
    refine takeD 9 25 undef rfl rfl (by kernel_rfl) (by kernel_rfl) (by kernel_rfl) (fun _ _ _ h => h) (Or.inr ⟨by rfl, rfl⟩) (by assumption) ?_
    simp only [Act.put, List.setIfInBounds_toArray, List.set_cons_zero, List.set_cons_succ]
    refine takeD 10 26 undef rfl rfl (by kernel_rfl) (by kernel_rfl) (by kernel_rfl) (fun _ _ _ h => h) (Or.inr ⟨by rfl, rfl⟩) (by assumption) ?_
    simp only [Act.put, List.setIfInBounds_toArray, List.set_cons_zero, List.set_cons_succ]
    refine takeD 11 27 (.bool true) rfl rfl (by kernel_rfl) (by kernel_rfl) (by kernel_rfl) (fun _ _ _ h => h) (Or.inl ⟨by rfl, ?_⟩) (by assumption) ?_
    · intro w hSw
      go_simp
    simp only [Act.put, List.setIfInBounds_toArray, List.set_cons_zero, List.set_cons_succ]
    refine wpAnyH_done (by kernel_rfl) ?_ _
    go_wp2
    go_ret2
    exact ⟨rfl, HB.out⟩
  · have HSm : Hid (∀ W, Calls Tryz.prog 121 #[.int .i64 q] W fun e w' => e = .returned (.agg #[.string ⟨#[99, 112, 117]⟩, .int .i64 1, .int .i64 (10 * q)]) ∧ Below W.heap.size W w') := fun W => impl_shareMetric q W (HW.out hin)
    have HSh2 : Hid (sn = if sm = true then q else 0) := by
      rw [hin] at HSh
      cases sm
      · exact HSh.out.2 rfl
      · exact HSh.out.1 rfl
    rw [Bool.and_true]
    clear HW HSh
    go_enter Tryz.func84, Tryz.ntmps84
    go_wp2_with fail
    refine HI.out.mono ?_
    rintro e w1 ⟨rfl, hb⟩
    have HB := Lib.hid (below_drewO hb 1)
    obtain ⟨⟨c0, c1⟩, c2⟩ := HC.out w1 hb
    clear hb
    go_wp2_with fail
    refine wp_region_held_drew (S := (fun w' => w'.cell? ⟨b, off + i * 3, none⟩ = some (.string x.name) ∧ w'.cell? ⟨b, off + i * 3 + 1, none⟩ = some (.int .i64 x.kind) ∧ w'.cell? ⟨b, off + i * 3 + 2, none⟩ = some (.int .i64 x.goal))) (by kernel_rfl) ?_ (fun hHeld => ?_)
    · go_keep
    refine takeD 0 16 (.int .i64 q) rfl rfl (by kernel_rfl) (by kernel_rfl) (by kernel_rfl) (fun _ _ _ h => h) (Or.inl ⟨by rfl, ?_⟩) (by assumption) ?_
    · intro w hSw
      go_simp
    simp only [Act.put, List.setIfInBounds_toArray, List.set_cons_zero, List.set_cons_succ]
    refine wpAnyH_ready (rs := [1]) (by kernel_rfl) (by simp) ?_
    refine AllReadyH.cons (o := { dst := some 17, op := Op.call { callee := Callee.value (Operand.func 67), args := #[Operand.tmp 16, Operand.const (Value.int IntKind.i64 1), Operand.const (Value.int IntKind.i64 1000)], argTypes := #[3, 3, 3] }, type := 4, pos := "l09_plain.go:29", after := #[{ on := 0, ground := Ground.data }], guard := none }) rfl (fun K hK => ?_) AllReadyH.nil
    go_simp
    refine (impl_inB _ _ _ _).mono ?_
    rintro e w2 ⟨rfl, e1⟩
    subst e1
    rw [hin]
    go_wp2_with fail
    refine hK.out _ _ ?_ (fun hHeld => ?_)
    · go_keep
    clear hK K
    refine takeD 2 18 (.bool false) rfl rfl (by kernel_rfl) (by kernel_rfl) (by kernel_rfl) (fun _ _ _ h => h) (Or.inl ⟨by rfl, ?_⟩) (by assumption) ?_
    · intro w hSw
      go_simp
    simp only [Act.put, List.setIfInBounds_toArray, List.set_cons_zero, List.set_cons_succ]
    refine takeD 3 19 (.bool false) rfl rfl (by kernel_rfl) (by kernel_rfl) (by kernel_rfl) (fun _ _ _ h => h) (Or.inl ⟨by rfl, ?_⟩) (by assumption) ?_
    · intro w hSw
      go_simp
    simp only [Act.put, List.setIfInBounds_toArray, List.set_cons_zero, List.set_cons_succ]
    refine takeD 4 20 (.slice (some ⟨b, off, none⟩) xs.length cap) rfl rfl (by kernel_rfl) (by kernel_rfl) (by kernel_rfl) (fun _ _ _ h => h) (Or.inl ⟨by rfl, ?_⟩) (by assumption) ?_
    · intro w hSw
      go_simp
    simp only [Act.put, List.setIfInBounds_toArray, List.set_cons_zero, List.set_cons_succ]
    refine takeD 5 21 (.int .i64 i) rfl rfl (by kernel_rfl) (by kernel_rfl) (by kernel_rfl) (fun _ _ _ h => h) (Or.inl ⟨by rfl, ?_⟩) (by assumption) ?_
    · intro w hSw
      go_simp
    simp only [Act.put, List.setIfInBounds_toArray, List.set_cons_zero, List.set_cons_succ]
    refine takeD 6 22 (.pointer (some ⟨b, off + i * 3, none⟩)) rfl rfl (by kernel_rfl) (by kernel_rfl) (by kernel_rfl) (fun _ _ _ h => h) (Or.inl ⟨by rfl, ?_⟩) (by assumption) ?_
    · intro w hSw
      go_simp
    simp only [Act.put, List.setIfInBounds_toArray, List.set_cons_zero, List.set_cons_succ]
    refine takeD 7 23 (.agg #[.string x.name, .int .i64 x.kind, .int .i64 x.goal]) rfl rfl (by kernel_rfl) (by kernel_rfl) (by kernel_rfl) (fun _ _ _ h => h) (Or.inl ⟨by rfl, ?_⟩) (by assumption) ?_
    · intro w hSw
      go_simp
    simp only [Act.put, List.setIfInBounds_toArray, List.set_cons_zero, List.set_cons_succ]
    refine takeD 8 24 (.int .i64 q) rfl rfl (by kernel_rfl) (by kernel_rfl) (by kernel_rfl) (fun _ _ _ h => h) (Or.inl ⟨by rfl, ?_⟩) (by assumption) ?_
    · intro w hSw
      go_simp
    simp only [Act.put, List.setIfInBounds_toArray, List.set_cons_zero, List.set_cons_succ]
    refine wpAnyH_ready (rs := [9]) (by kernel_rfl) (by simp) ?_
    refine AllReadyH.cons (o := { dst := some 25, op := Op.call { callee := Callee.value (Operand.func 121), args := #[Operand.tmp 24], argTypes := #[3] }, type := 93, pos := "l09_plain.go:29", after := #[{ on := 8, ground := Ground.data }, { on := 3, ground := Ground.chain }, { on := 3, ground := Ground.guard }], guard := some (3, false) }) rfl (fun K hK => ?_) AllReadyH.nil
    go_simp
    refine (HSm.out _).mono ?_
    rintro e w3 ⟨rfl, hb3⟩
    have HB3 := Lib.hid (HB.out.trans (hb3.mono HB.out.size))
    clear hb3
    obtain ⟨⟨f0, f1⟩, f2⟩ := HC.out w3 HB3.out
    go_wp2_with fail
    refine hK.out _ _ ?_ (fun hHeld => ?_)
    · go_keep
    clear hK K
    refine takeD 10 26 (.bool (!sm)) rfl rfl (by kernel_rfl) (by kernel_rfl) (by kernel_rfl) (fun _ _ _ h => h) (Or.inl ⟨by rfl, ?_⟩) (by assumption) ?_
    · intro w hSw
      go_simp
    simp only [Act.put, List.setIfInBounds_toArray, List.set_cons_zero, List.set_cons_succ]
    refine takeD 11 27 (.bool (!sm)) rfl rfl (by kernel_rfl) (by kernel_rfl) (by kernel_rfl) (fun _ _ _ h => h) (Or.inl ⟨by rfl, ?_⟩) (by assumption) ?_
    · intro w hSw
      go_simp
    simp only [Act.put, List.setIfInBounds_toArray, List.set_cons_zero, List.set_cons_succ]
    refine wpAnyH_done (by kernel_rfl) ?_ _
    cases sm
    · go_wp2
      go_ret2
      exact ⟨by rw [HSh2.out]; rfl, HB3.out⟩
    · go_wp2
      go_ret2
      exact ⟨by rw [HSh2.out]; rfl, HB3.out⟩
end Go.Proofs.YtfmkhogpnnobeaaGreatDoor
