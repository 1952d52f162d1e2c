/-
  What is proved: append of one text to a list of texts, and of one tree to a list of trees, that lie in memory of their own with their room: in place, or in a new block.; the model's Digits hands back the decimal numeral of any int; it makes memory and turns none that was there.; the model's Braced, at every tree: empty when it is not right; else what its parts are written as.; plain facts on the lines that a tree is written as, and how long they are at most.
-/
import Derived.Test.YtmcjghhmcmkomaaGreatDoorPartAI
import Derived.Test.YtmcjghhmcmkomaaGreatDoorPartAC
import Derived.ArgAppend
import Derived.Deep.MidRow
import Derived.Test.YtmcjghhmcmkomaaGreatDoorPartAA
import Derived.Test.YtmcjghhmcmkomaaGreatDoorRows
import Derived.WalkKit
import Derived.WalkLawsBesides
import Derived.ProofKit
import Derived.Laws.IdiomStrings
import Derived.Outline
import Derived.Test.YtmcjghhmcmkomaaGreatDoorPartAF
/- append of one text to a list of texts, and of one tree to a list of trees, that lie in memory of their own with their room: in place, or in a new block. -/
namespace Go.Proofs.YtmcjghhmcmkomaaGreatDoor
open Go Go.RowKit

theorem setCells_other (b : Nat) : ∀ (vs : List Value) (o : Nat) (w : World) (y : Nat), y ≠ b → (w.setCells b o vs).heap[y]? = w.heap[y]?
  | [], _, _, _, _ => rfl
  | v :: r, o, w, y, h => by
    rw [World.setCells, setCells_other b r (o + 1) _ y h]
    exact Below.heap_setCell _ _ _ _ h

theorem setCells_but (b : Nat) : ∀ (vs : List Value) (o : Nat) (w : World) (F : List Nat), b ∈ F → But F w (w.setCells b o vs)
  | [], _, w, F, _ => But.refl F w
  | v :: r, o, w, F, h => by
    rw [World.setCells]
    exact ((But.refl F w).set (p := ⟨b, o, none⟩) h v).trans (setCells_but b r (o + 1) _ F h)

theorem Room.setCells {w : World} {b off n : Nat} (h : Room w b off n) (b' o : Nat) (vs : List Value) : Room (w.setCells b' o vs) b off n := fun i hi => World.isSome_setCells b' vs o w _ (h i hi)

/-- The elements that are appended to a list that has no room come to stand in a new block. -/
theorem run_append_out {P : Program} (w : World) (t ty e : TypeId) (i : TypeInfo) (z : Value) (size bytes : Nat) (ht : P.underlying t = some (.slice e)) (hi : P.info? e = some i) (hz : i.zero = some z)
    (hsize : i.size = size) (hby : i.bytes = bytes) (hzs : z.cells.size = size) (hsz : 0 < size) (o : Option Addr) (n cap : Nat) (hcap : cap < n + 1) (olds : List Value) (hlo : olds.length = n * size) (ho : 0 < n → ∃ b, o = some b)
    (holds : ∀ j u, olds[j]? = some u → ∀ b, o = some b → w.cell? (b.add j) = some u) (hn : n ≤ cap) (a : Addr) (news : List Value) (hl : news.length = 1 * size) (hnews : ∀ j u, news[j]? = some u → w.cell? (a.add j) = some u) (h1 : ∀ u ∈ news, u.oneCell' = true) (hc0 : o = none → cap = 0)
    (h63 : n + 1 ≤ maxLen) (hbytes : (n + 1) * bytes ≤ 140737488355328) :
    ∃ v' w', (Builtin.append_ #[t, t] ty #[.slice o n cap, .slice (some a) 1 1]).run P w = .ok v' w' ∧ w'.ownsRow w.heap.size e size v' (n + 1) (olds ++ news) ∧ w.grownBy w' none := by
  cases o with
  | some b =>
    exact run_append_arg_grows w t ty e i z size bytes ht hi hz hsize hby hzs hsz b n cap olds hlo (fun j u hu => holds j u hu b rfl) a 1 1 news hl hnews hcap h63 hbytes
  | none =>
    have hcz := hc0 rfl
    subst hcz
    obtain rfl : n = 0 := by omega
    have hol : olds = [] := List.length_eq_zero_iff.1 (by omega)
    subst hol
    obtain ⟨v', w', hr, h2, h3, -, -⟩ := run_append_own_at (P := P) w w.heap.size t ty e i z size bytes ht hi hz hsize hby hzs hsz (.slice none 0 0) 0 [] (World.ownsRow_nil _ _ _ _) a 1 1 news hl hnews h1 h63 hbytes (Nat.le_refl _)
    exact ⟨v', w', hr, h2, h3⟩

theorem owns_shape {w : World} {base : Nat} {e : TypeId} {q : Nat} {v : Value} {n : Nat} {xs : List Value} (h : w.ownsRow base e q v n xs) : ∃ o c, v = .slice o n c := by
  rcases h.2 with ⟨rfl, h0⟩ | ⟨g, cap, cur, rfl, _⟩
  · exact ⟨none, 0, by rw [h0]⟩
  · exact ⟨_, _, rfl⟩

theorem but_grown {F : List Nat} {w w' : World} (h : w.grownBy w' none) : But F w w' := But.of_below (below_of_grown h)

/-- One tree more behind a list of trees. -/
theorem append_kid {w wr : World} {dv : Value} {kids : List RT} {FD : List Nat} (h : KidsLie wr dv kids FD) (hf : Fresh w wr FD) {X : RT} {kx dx : Value} {FX : List Nat} (hX : Lies wr X kx dx FX) (hfX : Fresh w wr FX) (hd : ∀ x ∈ FX, x ∉ FD)
    {xb : Nat} {t : TypeId} (hxb : wr.heap[xb]? = some (.cells #[.int .i64 X.k, .int .i64 X.n, .string X.s, kx, dx] t (0, 0))) (hn : kids.length ≤ 1048576) (hs : w.heap.size ≤ wr.heap.size) (ty : TypeId) :
    ∃ v' w', (Builtin.append_ #[25, 25] ty #[dv, .slice (some ⟨xb, 0, none⟩) 1 1]).run Tryz.prog wr = .ok v' w' ∧
      ∃ o' c', v' = .slice o' (kids.length + 1) c' ∧ But FD wr w' ∧ ∃ F, KidsLie w' (.slice o' (kids.length + 1) c') (kids ++ [X]) F ∧ Fresh w w' F ∧ ∀ y ∈ F, y ∈ FD ∨ y ∈ FX ∨ wr.heap.size ≤ y := by
  obtain ⟨i0, hi0, hz0, hz1, hz2⟩ := info_parts info_node
  have hone : ∀ u ∈ X.row kx dx, u.oneCell' = true := by
    obtain ⟨⟨o1, q1, rfl⟩, ⟨o2, q2, rfl⟩⟩ := hX.slices
    exact row_one X _ _ _ _ _ _
  have hnews : ∀ j u, (X.row kx dx)[j]? = some u → wr.cell? ((⟨xb, 0, none⟩ : Addr).add j) = some u := World.news_of_block hxb
  obtain ⟨o, cap, b, off, FF, KV, DV, rfl, h1, h2, h3, hFD, h4, h5, h6⟩ := h
  have hsubF : ∀ y ∈ (List.range kids.length).flatMap FF, y ∈ FD := fun y hy => by rw [hFD]; exact List.mem_append_right _ hy
  have hfF : Fresh w wr ((List.range kids.length).flatMap FF) := by
    refine ⟨?_, fun y hy => hf.old y (hsubF y hy), fun y hy => hf.free y (hsubF y hy)⟩
    have := hf.nodup
    rw [hFD] at this
    exact (List.nodup_append.1 this).2.1
  by_cases hc : kids.length + 1 ≤ cap
  · have ho := h3 (by omega)
    subst ho
    rw [if_neg (by omega)] at hFD
    have hbF : b ∈ FD := by rw [hFD]; simp
    have hbn : b ∉ (List.range kids.length).flatMap FF := by
      have := hf.nodup
      rw [hFD] at this
      exact (List.nodup_cons.1 this).1
    have hbX : b ∉ FX := fun hx => hd b hx hbF
    have hrun := run_append_room_cells (P := Tryz.prog) wr 25 ty 27 i0 Tryz.underlying25 hi0 b off kids.length cap ⟨xb, 0, none⟩ 1 1 (X.row kx dx) (by rw [hz1]; rfl) hnews hone hc
      (fun j hj => by rw [hz1, Nat.add_assoc]; exact h6 _ (by have : j < 5 := hj; omega)) (fun j _ => hf.free b hbF _)
    rw [hz1] at hrun
    have keep : ∀ y, y ≠ b → (wr.setCells b (off + kids.length * 5) (X.row kx dx)).heap[y]? = wr.heap[y]? := fun y hy => setCells_other b _ _ wr y hy
    have hroom : ∀ j, j < (X.row kx dx).length → (wr.cell? ⟨b, off + kids.length * 5 + j, none⟩).isSome = true := fun j hj => by rw [Nat.add_assoc]; exact h6 _ (by have : j < 5 := hj; omega)
    have hflat := flat_succ FF kids.length FX
    have hmem : ∀ y ∈ (List.range (kids.length + 1)).flatMap (fun j => if j = kids.length then FX else FF j), y ∈ (List.range kids.length).flatMap FF ∨ y ∈ FX := fun y hy => by
      rw [hflat] at hy; exact List.mem_append.1 hy
    refine ⟨_, _, hrun, _, _, rfl, setCells_but b _ _ wr FD hbF, [b] ++ (List.range (kids.length + 1)).flatMap (fun j => if j = kids.length then FX else FF j), ?_, ⟨?_, fun y hy => ?_, fun y hy o => ?_⟩, fun y hy => ?_⟩
    · refine ⟨_, cap, b, off, (fun j => if j = kids.length then FX else FF j), (fun j => if j = kids.length then kx else KV j), (fun j => if j = kids.length then dx else DV j), by simp, by simpa using hc, h2, fun _ => rfl, by rw [if_neg (by omega)]; simp, fun j hj c hcc => ?_, fun j hj => ?_, h6.setCells _ _ _⟩
      · rw [List.length_append, List.length_singleton] at hj
        by_cases e : j = kids.length
        · subst e
          simp only [if_true, List.getElem_concat_length]
          rw [World.cell?_setCells_in b (X.row kx dx) _ wr hroom c hcc, List.getElem?_eq_getElem (by exact hcc)]
        · simp only [e, if_false]
          rw [World.cell?_setCells_out b _ _ wr _ (fun _ _ => .inl (by show off + j * 5 + c < _; omega)), List.getElem_append_left (by omega)]
          exact h4 j (by omega) c hcc
      · rw [List.length_append, List.length_singleton] at hj
        by_cases e : j = kids.length
        · subst e
          simp only [if_true, List.getElem_concat_length]
          exact hX.carry fun y hy => keep y (fun ee => hbX (ee ▸ hy))
        · simp only [e, if_false]
          rw [List.getElem_append_left (by omega)]
          exact (h5 j (by omega)).carry fun y hy => keep y (fun ee => hbn (List.mem_flatMap.2 ⟨j, List.mem_range.2 (by omega), ee ▸ hy⟩))
    · rw [hflat]
      simp only [List.singleton_append, List.nodup_cons]
      refine ⟨fun hy => ?_, List.nodup_append.2 ⟨hfF.nodup, hfX.nodup, fun x hx y hy e => hd y hy (hsubF y (e ▸ hx))⟩⟩
      rcases List.mem_append.1 hy with hy | hy
      · exact hbn hy
      · exact hbX hy
    · rcases List.mem_append.1 hy with hy | hy
      · simp at hy; subst hy; exact hf.old y hbF
      · rcases hmem y hy with hy | hy
        · exact hfF.old y hy
        · exact hfX.old y hy
    · rw [World.frozen?_setCells]
      rcases List.mem_append.1 hy with hy | hy
      · simp at hy; subst hy; exact hf.free y hbF o
      · rcases hmem y hy with hy | hy
        · exact hfF.free y hy o
        · exact hfX.free y hy o
    · rcases List.mem_append.1 hy with hy | hy
      · simp at hy; subst hy; exact .inl hbF
      · rcases hmem y hy with hy | hy
        · exact .inl (hsubF y hy)
        · exact .inr (.inl hy)
  · have hrows : ∀ j u, (rowsOf kids KV DV kids.length)[j]? = some u → ∀ b', o = some b' → wr.cell? (b'.add j) = some u := fun j u hu b' hb' => by
      have hj : j < kids.length * 5 := by
        have := (List.getElem?_eq_some_iff.1 hu).1
        rwa [rowsOf_length] at this
      have ho := h3 (by omega)
      rw [hb'] at ho
      have hbe : b' = ⟨b, off, none⟩ := Option.some.inj ho
      subst hbe
      have hj5 : j / 5 < kids.length := by omega
      have hr := rowsOf_get kids KV DV kids.length (j / 5) (j % 5) hj5 (by omega)
      have e : j / 5 * 5 + j % 5 = j := by omega
      rw [e, hu] at hr
      have hcc := h4 (j / 5) hj5 (j % 5) (by omega)
      rw [Nat.add_assoc, e] at hcc
      rw [Go.WideShapes.add_plain, hcc, hr]
      have e2 : kids.getD (j / 5) default = kids[j / 5] := by simp [List.getD, List.getElem?_eq_getElem hj5]
      rw [e2]
    obtain ⟨v', w', hr, hown, hg⟩ := run_append_out (P := Tryz.prog) wr 25 ty 27 i0 _ 5 80 Tryz.underlying25 hi0 hz0 hz1 hz2 rfl (by decide) o kids.length cap (by omega) (rowsOf kids KV DV kids.length) (rowsOf_length _ _ _ _) (fun h0 => ⟨_, h3 (by omega)⟩)
      hrows h1 ⟨xb, 0, none⟩ (X.row kx dx) rfl hnews hone (fun e => by
        rcases Nat.eq_zero_or_pos cap with h0 | h0
        · exact h0
        · rw [h3 h0] at e; cases e) (by unfold maxLen; omega) (by omega)
    obtain ⟨o', c', rfl⟩ := owns_shape hown
    have hb := below_of_grown hg
    have hins : insAt kids kids.length X = kids ++ [X] := by simp [insAt]
    obtain ⟨F, k1, k2, k3⟩ := kids_ins (w := w) (wf := w') (base := wr.heap.size) (KV := KV) (DV := DV) (FF := FF) (Nat.le_refl kids.length) (by
        rw [List.take_of_length_le (by rw [rowsOf_length]; exact Nat.le_refl _), List.drop_eq_nil_of_le (by rw [rowsOf_length]; exact Nat.le_refl _), List.append_nil]
        exact hown) (fun j hj => (h5 j hj).stay hb (Nat.le_refl _)) (hX.stay hb (Nat.le_refl _)) (hfF.carry fun y hy => hb.block y (by
          obtain ⟨j, hj, hy⟩ := List.mem_flatMap.1 hy
          exact (h5 j (List.mem_range.1 hj)).lt y hy)) (hfX.carry fun y hy => hb.block y (hX.lt y hy)) (fun y hy hy' => hd y hy (hsubF y hy')) (fun g hgo => by
          have hge := (hown.lt g hgo).1
          refine ⟨fun hy => ?_, fun hy => ?_⟩
          · obtain ⟨j, hj, hy⟩ := List.mem_flatMap.1 hy
            have := (h5 j (List.mem_range.1 hj)).lt g hy
            omega
          · have := hX.lt g hy
            omega) hs
    rw [hins] at k1
    refine ⟨_, w', hr, o', c', rfl, but_grown hg, F, k1, k2, fun y hy => ?_⟩
    rcases k3 y hy with e | e | e
    · exact .inr (.inr (hown.lt y e).1)
    · exact .inl (hsubF y e)
    · exact .inr (.inl e)

/-- One text more behind a list of texts. -/
theorem append_str {w wr : World} {kv : Value} {ks : List ByteArray} {FK : List Nat} (h : StrsAt wr kv ks FK) (hf : Fresh w wr FK) (key : ByteArray) (hkey : key.size ≤ maxLen) {xb : Nat} {t : TypeId} (hxb : wr.heap[xb]? = some (.cells #[.string key] t (0, 0))) (hn : ks.length ≤ 1048576) (hs : w.heap.size ≤ wr.heap.size) (ty : TypeId) :
    ∃ v' w', (Builtin.append_ #[24, 24] ty #[kv, .slice (some ⟨xb, 0, none⟩) 1 1]).run Tryz.prog wr = .ok v' w' ∧
      ∃ o' c', v' = .slice o' (ks.length + 1) c' ∧ But FK wr w' ∧ ∃ F, StrsAt w' (.slice o' (ks.length + 1) c') (ks ++ [key]) F ∧ Fresh w w' F ∧ ∀ y ∈ F, y ∈ FK ∨ wr.heap.size ≤ y := by
  obtain ⟨i0, hi0, hz0, hz1, hz2⟩ := info_parts info_string
  have hone : ∀ u ∈ [Value.string key], u.oneCell' = true := by simp [Value.oneCell']
  have hnews : ∀ j u, [Value.string key][j]? = some u → wr.cell? ((⟨xb, 0, none⟩ : Addr).add j) = some u := World.news_of_block hxb
  obtain ⟨o, cap, b, off, rfl, h1, h2, h3, hFK, h4, h6⟩ := h
  have hsz : ∀ i (hi : i < (ks ++ [key]).length), (ks ++ [key])[i].size ≤ maxLen := fun i hi => by
    rcases List.mem_append.1 (List.getElem_mem hi) with e | e
    · obtain ⟨m, hm, e⟩ := List.getElem_of_mem e
      rw [← e]; exact (h4 m hm).2
    · simp at e; rw [e]; exact hkey
  by_cases hc : ks.length + 1 ≤ cap
  · have ho := h3 (by omega)
    subst ho
    rw [if_neg (by omega)] at hFK
    subst hFK
    have hrun := run_append_room_cells (P := Tryz.prog) wr 24 ty 9 i0 Tryz.underlying24 hi0 b off ks.length cap ⟨xb, 0, none⟩ 1 1 [.string key] (by rw [hz1]; rfl) hnews hone hc
      (fun j hj => by rw [hz1, Nat.add_assoc]; exact h6 _ (by have : j < 1 := hj; omega)) (fun j _ => hf.free b (by simp) _)
    rw [hz1] at hrun
    have hroom : ∀ j, j < [Value.string key].length → (wr.cell? ⟨b, off + ks.length * 1 + j, none⟩).isSome = true := fun j hj => by rw [Nat.add_assoc]; exact h6 _ (by have : j < 1 := hj; omega)
    refine ⟨_, _, hrun, _, _, rfl, setCells_but b _ _ wr [b] (by simp), [b], ⟨_, cap, b, off, by simp, by simpa using hc, h2, fun _ => rfl, by rw [if_neg (by omega)], fun j hj => ⟨?_, hsz j hj⟩, h6.setCells _ _ _⟩, ⟨by simp, hf.old, fun y hy o => by rw [World.frozen?_setCells]; exact hf.free y hy o⟩, fun y hy => .inl hy⟩
    rw [List.length_append, List.length_singleton] at hj
    by_cases e : j = ks.length
    · subst e
      have := World.cell?_setCells_in b [Value.string key] _ wr hroom 0 (by simp)
      simpa using this
    · rw [World.cell?_setCells_out b _ _ wr _ (fun _ _ => .inl (by show off + j < _; omega)), List.getElem_append_left (by omega)]
      exact (h4 j (by omega)).1
  · have hrows : ∀ j u, (ks.map Value.string)[j]? = some u → ∀ b', o = some b' → wr.cell? (b'.add j) = some u := fun j u hu b' hb' => by
      have hj : j < ks.length := by
        have := (List.getElem?_eq_some_iff.1 hu).1
        simpa using this
      have ho := h3 (by omega)
      rw [hb'] at ho
      have hbe : b' = ⟨b, off, none⟩ := Option.some.inj ho
      subst hbe
      rw [List.getElem?_map, List.getElem?_eq_getElem hj] at hu
      have hu' : Value.string ks[j] = u := by simpa using hu
      rw [Go.WideShapes.add_plain, ← hu']
      exact (h4 j hj).1
    obtain ⟨v', w', hr, hown, hg⟩ := run_append_out (P := Tryz.prog) wr 24 ty 9 i0 _ 1 16 Tryz.underlying24 hi0 hz0 hz1 hz2 rfl (by decide) o ks.length cap (by omega) (ks.map .string) (by simp) (fun h0 => ⟨_, h3 (by omega)⟩)
      hrows h1 ⟨xb, 0, none⟩ [.string key] rfl hnews hone (fun e => by
        rcases Nat.eq_zero_or_pos cap with h0 | h0
        · exact h0
        · rw [h3 h0] at e; cases e) (by unfold maxLen; omega) (by omega)
    obtain ⟨o', c', rfl⟩ := owns_shape hown
    obtain ⟨F, f1, f2, f3⟩ := strs_owned (w := w) (wf := w') (base := wr.heap.size) (t := 9) (v := .slice o' (ks.length + 1) c') (ks := ks ++ [key]) (by simpa using hown) hsz hs
    exact ⟨_, w', hr, o', c', rfl, but_grown hg, F, f1, f2, fun y hy => .inr (hown.lt y (f3 y hy)).1⟩
end Go.Proofs.YtmcjghhmcmkomaaGreatDoor

/- the model's Digits hands back the decimal numeral of any int; it makes memory and turns none that was there. -/
namespace Go.Proofs.YtmcjghhmcmkomaaGreatDoor
open Go Go.RowKit

/-- 'string([]byte{x})' in the world in which that row has just been laid. -/
theorem conv_one (w : World) (x : Int) : (convert 22 9 (.slice (some ⟨w.heap.size, 0, none⟩) 1 1)).run Tryz.prog (w.alloc (.cells #[.int .u8 x] 5)) = .ok (.string ⟨#[UInt8.ofNat x.toNat]⟩) (w.alloc (.cells #[.int .u8 x] 5)) := by
  rw [run_convert_bytes_string _ 22 9 5 _ 1 1 Tryz.underlying22 Tryz.underlying5 Tryz.underlying9]
  have hl := run_loadCells_list (P := Tryz.prog) (w.alloc (.cells #[.int .u8 x] 5)) ⟨w.heap.size, 0, none⟩ [Value.int .u8 x] (fun j v hj => by
    have h := World.cell?_alloc_mark w #[.int .u8 x] 5 (0, 0) j
    cases j with
    | zero => simp at hj; subst hj; simp [Addr.add]
    | succ j => simp at hj)
  rw [run_bytesToString _ _ 1 1 [x] hl]
  rfl

theorem ret_str {a b : List UInt8} (h : a = b) : Ending.returned (.string ⟨a.toArray⟩) = .returned (.string ⟨b.toArray⟩) := by rw [h]

theorem step_end {m : Nat} (hm : ¬ m = 0) {out fin : List UInt8} (hr : Num.rest m out = fin) (x : UInt8) (hx : x = UInt8.ofNat (48 + m % 10)) :
    Value.string ({ data := #[x] } ++ { data := out.toArray }) = Value.string { data := (x :: out).toArray } ∧ Num.rest (m / 10) (x :: out) = fin := by
  refine ⟨?_, ?_⟩
  · rw [ByteArray.mk_append_mk]; simp
  · rw [hx, Num.rest_step hm, hr]

theorem neg_end {n : Int} (h : n < 0) {out : List UInt8} (hr : out = Num.rest n.natAbs []) : Ending.returned (Value.string ({ data := #[45] } ++ { data := out.toArray })) = .returned (.string ⟨(Lib.itoa n).toArray⟩) := by
  rw [Num.itoa_neg h, hr, ByteArray.mk_append_mk]; simp

set_option maxHeartbeats 400000 in
theorem spec_digits_pos (n : Int) (h : 0 < n) (hn : n ≤ 9223372036854775807) (w : World) :
    Calls Tryz.prog 46 #[.int .i64 n] w fun e w' => e = .returned (.string ⟨(Lib.itoa n).toArray⟩) ∧ Below w.heap.size w w' := by
  have hz : (n == 0) = false := by simp; omega
  have hl : ¬ n < 0 := by omega
  go_enter Tryz.func46, Tryz.ntmps46
  go_wp2
  go_loopw [0, 4] (fun t o wr => ∃ (m : Nat) (out : List UInt8), t = .int .i64 m ∧ m ≤ n ∧ o = .string ⟨out.toArray⟩ ∧ Num.rest m out = Num.rest n.natAbs [] ∧ Below w.heap.size w wr) (fun t _ _ => (intOf t).toNat)
  case atStart => exact ⟨n.natAbs, [], by congr 1; omega, by omega, rfl, rfl, Below.refl _ _⟩
  case round =>
    obtain ⟨m, out, rfl, hm, rfl, hr, hb⟩ := hrel
    have hol : out.length ≤ 21 := by
      have h1 := Num.rest_length m out
      rw [hr, ← Num.itoa_pos h] at h1
      have h2 := Num.itoa_length n (by omega) hn
      omega
    have HR : Hid (Num.rest m out = Num.rest n.natAbs []) := hr
    clear hr
    by_cases hm0 : m = 0
    · subst hm0
      go_wp2
      go_ret
      have hr := HR.out
      rw [Num.rest_zero, ← Num.itoa_pos h] at hr
      exact ⟨ret_str hr, hb⟩
    · have hne : ((m : Int) == 0) = false := by simp; omega
      have kc := conv_one wr
      go_wp2
      go_roundw
      case rel =>
        have hs := step_end hm0 HR.out (48 + UInt8.ofNat (m % 10)) (by simp)
        exact ⟨m / 10, _, by go_num, by omega, hs.1, hs.2, hb.alloc hb.size _⟩
      case measure => simp [intOf]; omega

set_option maxHeartbeats 400000 in
theorem spec_digits_neg (n : Int) (h : n < 0) (hn : -9223372036854775808 ≤ n) (w : World) :
    Calls Tryz.prog 46 #[.int .i64 n] w fun e w' => e = .returned (.string ⟨(Lib.itoa n).toArray⟩) ∧ Below w.heap.size w w' := by
  have hz : (n == 0) = false := by simp; omega
  go_enter Tryz.func46, Tryz.ntmps46
  go_wp2
  go_loopw [0, 4] (fun t o wr => ∃ (m : Nat) (out : List UInt8), t = .int .i64 (-m) ∧ n ≤ -m ∧ o = .string ⟨out.toArray⟩ ∧ Num.rest m out = Num.rest n.natAbs [] ∧ Below w.heap.size w wr) (fun t _ _ => (intOf t).natAbs)
  case atStart => exact ⟨n.natAbs, [], by congr 1; omega, by omega, rfl, rfl, Below.refl _ _⟩
  case round =>
    obtain ⟨m, out, rfl, hm, rfl, hr, hb⟩ := hrel
    have hol : out.length ≤ 21 := by
      have h1 := Num.rest_length m out
      have h2 := Num.itoa_length n hn (by omega)
      rw [hr] at h1
      rw [Num.itoa_neg h] at h2
      simp at h2
      omega
    have HR : Hid (Num.rest m out = Num.rest n.natAbs []) := hr
    clear hr
    by_cases hm0 : m = 0
    · subst hm0
      go_wp2
      go_ret
      have hr := HR.out
      rw [Num.rest_zero] at hr
      exact ⟨neg_end h hr, hb⟩
    · have hne : ((-(m : Int)) == 0) = false := by simp; omega
      have kc := conv_one wr
      go_wp2
      · go_roundw
        case rel =>
          have hs := step_end hm0 HR.out (48 + UInt8.ofNat (m % 10)) (by simp)
          exact ⟨m / 10, _, by go_num, by omega, hs.1, hs.2, hb.alloc hb.size _⟩
        case measure => simp [intOf]; omega
      · go_roundw
        case rel =>
          have hs := step_end hm0 HR.out (UInt8.ofNat (48 + -((m : Int) % 10)).toNat) (by congr 1; omega)
          exact ⟨m / 10, _, by go_num, by omega, hs.1, hs.2, hb.alloc hb.size _⟩
        case measure => simp [intOf]; omega

theorem spec_digits_zero (w : World) :
    Calls Tryz.prog 46 #[.int .i64 0] w fun e w' => e = .returned (.string ⟨(Lib.itoa 0).toArray⟩) ∧ Below w.heap.size w w' := by
  go_enter Tryz.func46, Tryz.ntmps46
  go_wp2
  go_ret
  exact ⟨ret_str (a := [48]) Num.itoa_zero.symm, Below.refl _ _⟩

/-- The model's Digits, at every int. -/
theorem spec_digits (n : Int) (h0 : -9223372036854775808 ≤ n) (h1 : n ≤ 9223372036854775807) (w : World) :
    Calls Tryz.prog 46 #[.int .i64 n] w fun e w' => e = .returned (.string ⟨(Lib.itoa n).toArray⟩) ∧ Below w.heap.size w w' := by
  rcases Int.lt_trichotomy n 0 with h | h | h
  · exact spec_digits_neg n h h0 w
  · subst h; exact spec_digits_zero w
  · exact spec_digits_pos n h h1 w
end Go.Proofs.YtmcjghhmcmkomaaGreatDoor

/- the model's Braced, at every tree: empty when it is not right; else what its parts are written as. -/
namespace Go.Proofs.YtmcjghhmcmkomaaGreatDoor
open Go Go.RowKit

/-- A text of these bytes. -/
def txt (l : List UInt8) : Value := .string ⟨l.toArray⟩

def TextAt (T : RT) : Prop := ∀ (w : World) (kv dv : Value) (F : List Nat), Lies w T kv dv F → T.right = true → T.size ≤ 200 →
  Calls Tryz.prog 20 #[.agg #[.int .i64 T.k, .int .i64 T.n, .string T.s, kv, dv]] w fun e w' => e = .returned (.string ⟨T.brac.toArray⟩) ∧ Below w.heap.size w w'

section
variable (n : Int) (s : ByteArray) (kv dv : Value) (w : World)

set_option maxHeartbeats 400000 in
theorem text0 : Calls Tryz.prog 20 #[.agg #[.int .i64 0, .int .i64 n, .string s, kv, dv]] w fun e w' => e = .returned (.string ⟨#[110, 117, 108, 108]⟩) ∧ Below w.heap.size w w' := by
  go_enter Tryz.func20, Tryz.ntmps20
  go_wp2
  go_ret
  exact ⟨rfl, (Below.refl _ w).alloc (Nat.le_refl _) _⟩

set_option maxHeartbeats 400000 in
theorem text1 : Calls Tryz.prog 20 #[.agg #[.int .i64 1, .int .i64 n, .string s, kv, dv]] w fun e w' => e = .returned (.string ⟨(if n = 1 then [116, 114, 117, 101] else [102, 97, 108, 115, 101] : List UInt8).toArray⟩) ∧ Below w.heap.size w w' := by
  by_cases h : n = 1
  · rw [if_pos h]
    subst h
    go_enter Tryz.func20, Tryz.ntmps20
    go_wp2
    go_ret
    exact ⟨rfl, (Below.refl _ w).alloc (Nat.le_refl _) _⟩
  · rw [if_neg h]
    go_enter Tryz.func20, Tryz.ntmps20
    go_wp2
    go_ret
    exact ⟨rfl, (Below.refl _ w).alloc (Nat.le_refl _) _⟩

set_option maxHeartbeats 400000 in
theorem text2 (h0 : -1000000000000 ≤ n) (h1 : n ≤ 1000000000000) : Calls Tryz.prog 20 #[.agg #[.int .i64 2, .int .i64 n, .string s, kv, dv]] w fun e w' => e = .returned (.string ⟨(Lib.itoa n).toArray⟩) ∧ Below w.heap.size w w' := by
  have HX := Lib.hid (Box.start w (.int .i64 2) (.int .i64 n) (.string s) kv dv 27)
  have HD := Lib.hid (spec_digits n (by omega) (by omega))
  clear h0 h1
  go_enter Tryz.func20, Tryz.ntmps20
  go_wp2_with (first
    | (go_at_call 46; refine (HD.out _).mono ?_; rintro e w1 ⟨rfl, hb1⟩; have HB := Lib.hid (HX.out.next hb1).below; clear hb1)
    | fail)
  go_ret
  exact ⟨rfl, HB.out⟩

set_option maxHeartbeats 400000 in
theorem text3 (hs : s.size ≤ maxLen) : Calls Tryz.prog 20 #[.agg #[.int .i64 3, .int .i64 n, .string s, kv, dv]] w fun e w' => e = .returned (.string (quoteT s)) ∧ Below w.heap.size w w' := by
  have HX := Lib.hid (Box.start w (.int .i64 3) (.int .i64 n) (.string s) kv dv 27)
  have HD := Lib.hid (spec_quote s hs)
  go_enter Tryz.func20, Tryz.ntmps20
  go_wp2_with (first
    | (go_at_call 47; refine (HD.out _).mono ?_; rintro e w1 ⟨rfl, hb1⟩; have HB := Lib.hid (HX.out.next hb1).below; clear hb1)
    | fail)
  go_ret
  exact ⟨rfl, HB.out⟩
end

theorem cat_list (A B : ByteArray) : (A ++ B).data.toList = A.data.toList ++ B.data.toList := by simp
theorem ext_list {A : ByteArray} {l : List UInt8} (h : A.data.toList = l) : A = ⟨l.toArray⟩ := by rw [← h]
theorem mk_size (l : List UInt8) : (⟨l.toArray⟩ : ByteArray).size = l.length := rfl
theorem size_of_list {S : ByteArray} {l : List UInt8} (h : S.data.toList = l) : S.size = l.length := by rw [← h]; simp

set_option maxRecDepth 100000 in
set_option maxHeartbeats 1000000 in
theorem text4 (n : Int) (s : ByteArray) (keys : List ByteArray) (kids : List RT) (ih : ∀ t ∈ kids, TextAt t) (w : World) (kv dv : Value) (FD : List Nat) (hD : KidsLie w dv kids FD) (hr : (RT.node 4 n s keys kids).right = true) (hz : (RT.node 4 n s keys kids).size ≤ 200) :
    Calls Tryz.prog 20 #[.agg #[.int .i64 4, .int .i64 n, .string s, kv, dv]] w fun e w' => e = .returned (.string ⟨((RT.node 4 n s keys kids).brac).toArray⟩) ∧ Below w.heap.size w w' := by
  have hz' : sizeAll kids + 1 ≤ 200 := hz
  have HT := Lib.hid (fun i => parts_take_le hr (.inl rfl) i)
  have HK : Hid (∀ i (h : i < kids.length), kids[i].right = true) := (right_out hr).2
  have HBR : Hid ((RT.node 4 n s keys kids).brac = [91] ++ (Lib.join (partsOf 4 keys kids) [44] ++ [93])) := brac4
  generalize (RT.node 4 n s keys kids).brac = BR at *
  clear hr hz
  obtain ⟨o, cap, b, off, FF, KV, DV, rfl, hlc, hcm, ho, -, hcell, hlies, -⟩ := hD
  have HX := Lib.hid (Box.start w (.int .i64 4) (.int .i64 n) (.string s) kv (.slice o kids.length cap) 27)
  have HC := Lib.hid hcell
  have HL := Lib.hid hlies
  have HO := Lib.hid ho
  clear hcell hlies ho
  unfold maxLen at hcm
  go_enter Tryz.func20, Tryz.ntmps20
  go_wp2
  go_loopw [5, 6] (fun v q wr => ∃ (j : Nat) (S : ByteArray), j ≤ kids.length ∧ v = .string S ∧ q = .int .i64 j ∧ Hid (S.data.toList = [91] ++ Lib.join ((partsOf 4 keys kids).take j) [44] ∧ Box w wr (.int .i64 4) (.int .i64 n) (.string s) kv (.slice o kids.length cap))) (fun _ q _ => kids.length - (intOf q).toNat)
  case atStart => exact ⟨0, _, Nat.zero_le _, rfl, rfl, by simp [Lib.join_nil], HX.out⟩
  case round =>
    obtain ⟨j, S, hj, rfl, rfl, hr⟩ := hrel
    have HS : Hid (S.data.toList = [91] ++ Lib.join ((partsOf 4 keys kids).take j) [44]) := hr.out.1
    have HB := Lib.hid hr.out.2
    clear hr
    obtain ⟨-, -, x0, x1, x2, x3, x4⟩ := HB.out
    have hSz : S.size ≤ 341000 := by
      have h1 := HT.out j
      rw [size_of_list HS.out]
      simp only [List.length_append, List.length_cons, List.length_nil]
      omega
    by_cases hlt : j < kids.length
    · have ho := HO.out (by omega)
      subst ho
      have hlt' : (j : Int) < kids.length := by omega
      obtain ⟨c0, c1, c2, c3, c4⟩ := kid_cells (HC.out j hlt) HB.out.below
      obtain ⟨⟨o1, q1, s1⟩, ⟨o2, q2, s2⟩⟩ := (HL.out j hlt).slices
      have HI := Lib.hid (fun (w1 : World) (hb1 : Below w.heap.size w w1) (hz : kids[j].size ≤ 200) => ih _ (List.getElem_mem hlt) w1 _ _ _ ((HL.out j hlt).stay hb1 (Nat.le_refl _)) (HK.out j hlt) hz)
      have hzj : kids[j].size ≤ 200 := by
        have e1 := sizeAll_take kids j hlt
        have e2 := sizeAll_take_le kids (j + 1)
        omega
      have HN : Hid (Lib.join ((partsOf 4 keys kids).take (j + 1)) [44] = Lib.join ((partsOf 4 keys kids).take j) [44] ++ ((if j = 0 then [] else [44]) ++ kids[j].brac)) := join_take_succ _ _ _ _ (partsOf_list j hlt)
      have HZ : Hid (kids[j].brac.length ≤ 341000) := by
        have := brac_le _ (HK.out j hlt)
        show kids[j].brac.length ≤ 341000
        omega
      have hB1 : Hid (∀ ob, Below wr.heap.size wr (wr.alloc ob)) := fun ob => (Below.refl _ _).alloc (Nat.le_refl _) _
      generalize kids[j] = x at *
      generalize KV j = v1 at *
      generalize DV j = v2 at *
      subst s1 s2
      by_cases hj0 : j = 0
      · have hj1 : ¬ (0 : Int) < (j : Int) := by omega
        have HJ : Hid (Lib.join ((partsOf 4 keys kids).take (j + 1)) [44] = Lib.join ((partsOf 4 keys kids).take j) [44] ++ x.brac) := by
          have := HN.out
          rw [if_pos hj0] at this
          show _ = _
          simpa using this
        clear hj0 HN
        go_wp2_with fail
        refine (HI.out _ HB.out.below hzj).mono ?_
        rintro e w2 ⟨rfl, hb2⟩
        have HB2 := Lib.hid (HB.out.next hb2)
        clear hb2 x0 x1 x2 x3 x4 c0 c1 c2 c3 c4
        obtain ⟨-, -, x0, x1, x2, x3, x4⟩ := HB2.out
        generalize hX : (⟨x.brac.toArray⟩ : ByteArray) = X at *
        have hXz : X.size ≤ 341000 := by rw [← hX, mk_size]; exact HZ.out
        have HXX : Hid (X.data.toList = x.brac) := by show _ = _; rw [← hX]
        clear hX
        go_wp2
        refine ⟨⟨j + 1, S ++ X, hlt, rfl, by go_num, ?_, HB2.out⟩, by simp [intOf]; omega⟩
        rw [cat_list, HS.out, HXX.out, HJ.out, List.append_assoc]
      · have hj1 : (0 : Int) < (j : Int) := by omega
        have HJ : Hid (Lib.join ((partsOf 4 keys kids).take (j + 1)) [44] = Lib.join ((partsOf 4 keys kids).take j) [44] ++ ([44] ++ x.brac)) := by
          have := HN.out
          rw [if_neg hj0] at this
          exact this
        clear hj0 HN
        go_wp2_with fail
        refine (HI.out _ HB.out.below hzj).mono ?_
        rintro e w2 ⟨rfl, hb2⟩
        have HB2 := Lib.hid (HB.out.next hb2)
        clear hb2 x0 x1 x2 x3 x4 c0 c1 c2 c3 c4
        obtain ⟨-, -, x0, x1, x2, x3, x4⟩ := HB2.out
        generalize hX : (⟨x.brac.toArray⟩ : ByteArray) = X at *
        have hXz : X.size ≤ 341000 := by rw [← hX, mk_size]; exact HZ.out
        have HXX : Hid (X.data.toList = x.brac) := by show _ = _; rw [← hX]
        clear hX
        go_wp2
        refine ⟨⟨j + 1, S ++ ⟨#[44]⟩ ++ X, hlt, rfl, by go_num, ?_, HB2.out⟩, by simp [intOf]; omega⟩
        rw [cat_list, cat_list, HS.out, HXX.out, HJ.out]
        simp
    · have HE : Hid (S ++ ⟨#[93]⟩ = ⟨BR.toArray⟩) := by
        show _ = _
        refine ext_list ?_
        rw [cat_list, HS.out, HBR.out, join_take_end _ _ _ (by rw [partsOf_length (.inl rfl)]; omega)]
        simp
      go_wp2
      go_ret
      exact ⟨by rw [← HE.out]; rfl, HB.out.below⟩

set_option maxRecDepth 100000 in
set_option maxHeartbeats 1000000 in
theorem text5 (n : Int) (s : ByteArray) (keys : List ByteArray) (kids : List RT) (ih : ∀ t ∈ kids, TextAt t) (w : World) (kv dv : Value) (FK FD : List Nat) (hK : StrsAt w kv keys FK) (hD : KidsLie w dv kids FD) (hr : (RT.node 5 n s keys kids).right = true) (hz : (RT.node 5 n s keys kids).size ≤ 200) :
    Calls Tryz.prog 20 #[.agg #[.int .i64 5, .int .i64 n, .string s, kv, dv]] w fun e w' => e = .returned (.string ⟨((RT.node 5 n s keys kids).brac).toArray⟩) ∧ Below w.heap.size w w' := by
  have hz' : sizeAll kids + 1 ≤ 200 := hz
  have HT := Lib.hid (fun i => parts_take_le hr (.inr rfl) i)
  have HK : Hid (∀ i (h : i < kids.length), kids[i].right = true) := (right_out hr).2
  have HBR : Hid ((RT.node 5 n s keys kids).brac = [123] ++ (Lib.join (partsOf 5 keys kids) [44] ++ [125])) := brac5
  have hkl : keys.length = kids.length := by
    have := (right_out hr).1
    simp only [HeadOk, RT.k, RT.n, RT.s, RT.keys, RT.kids] at this
    omega
  generalize (RT.node 5 n s keys kids).brac = BR at *
  clear hr hz
  obtain ⟨o, cap, b, off, FF, KV, DV, rfl, hlc, hcm, ho, -, hcell, hlies, -⟩ := hD
  obtain ⟨ko, kcap, kb, koff, rfl, hklc, hkcm, hko, -, hkcell, -⟩ := hK
  have HKC := Lib.hid hkcell
  have HKO := Lib.hid hko
  clear hkcell hko
  rw [hkl] at hklc ⊢
  have HX := Lib.hid (Box.start w (.int .i64 5) (.int .i64 n) (.string s) (.slice ko kids.length kcap) (.slice o kids.length cap) 27)
  have HC := Lib.hid hcell
  have HL := Lib.hid hlies
  have HO := Lib.hid ho
  clear hcell hlies ho
  unfold maxLen at hcm hkcm
  have HP : Hid ((partsOf 5 keys kids).length = kids.length) := partsOf_length (.inr hkl)
  have HKL : Hid (keys.length = kids.length) := hkl
  clear hkl
  go_enter Tryz.func20, Tryz.ntmps20
  go_wp2
  go_loopw [5, 6] (fun v q wr => ∃ (j : Nat) (S : ByteArray), j ≤ kids.length ∧ v = .string S ∧ q = .int .i64 j ∧ Hid (S.data.toList = [123] ++ Lib.join ((partsOf 5 keys kids).take j) [44] ∧ Box w wr (.int .i64 5) (.int .i64 n) (.string s) (.slice ko kids.length kcap) (.slice o kids.length cap))) (fun _ q _ => kids.length - (intOf q).toNat)
  case atStart => exact ⟨0, _, Nat.zero_le _, rfl, rfl, by simp [Lib.join_nil], HX.out⟩
  case round =>
    obtain ⟨j, S, hj, rfl, rfl, hr⟩ := hrel
    have HS : Hid (S.data.toList = [123] ++ Lib.join ((partsOf 5 keys kids).take j) [44]) := hr.out.1
    have HB := Lib.hid hr.out.2
    clear hr
    obtain ⟨-, -, x0, x1, x2, x3, x4⟩ := HB.out
    have hSz : S.size ≤ 341000 := by
      have h1 := HT.out j
      rw [size_of_list HS.out]
      simp only [List.length_append, List.length_cons, List.length_nil]
      omega
    by_cases hlt : j < kids.length
    · have ho := HO.out (by omega)
      subst ho
      have hko := HKO.out (by omega)
      subst hko
      have hlt' : (j : Int) < kids.length := by omega
      have HCJ := Lib.hid (HC.out j hlt)
      obtain ⟨⟨o1, q1, s1⟩, ⟨o2, q2, s2⟩⟩ := (HL.out j hlt).slices
      have HI := Lib.hid (fun (w1 : World) (hb1 : Below w.heap.size w w1) (hz : kids[j].size ≤ 200) => ih _ (List.getElem_mem hlt) w1 _ _ _ ((HL.out j hlt).stay hb1 (Nat.le_refl _)) (HK.out j hlt) hz)
      have hzj : kids[j].size ≤ 200 := by
        have e1 := sizeAll_take kids j hlt
        have e2 := sizeAll_take_le kids (j + 1)
        omega
      have hkj : j < keys.length := by rw [HKL.out]; exact hlt
      obtain ⟨d0, dz⟩ := HKC.out j hkj
      have HN : Hid (Lib.join ((partsOf 5 keys kids).take (j + 1)) [44] = Lib.join ((partsOf 5 keys kids).take j) [44] ++ ((if j = 0 then [] else [44]) ++ keyed keys[j] kids[j].brac)) := join_take_succ _ _ _ _ (partsOf_map j hlt hkj)
      have HQ := Lib.hid (spec_quote keys[j] dz)
      have HQZ := Lib.hid (quoteT_length keys[j])
      have d1 : wr.cell? ⟨kb, koff + j, none⟩ = some (.string keys[j]) := by
        rw [HB.out.below.cell (by exact World.block_lt_of_cell? _ _ d0)]; exact d0
      clear d0 dz
      have HZ : Hid (kids[j].brac.length ≤ 341000) := by
        have := brac_le _ (HK.out j hlt)
        show kids[j].brac.length ≤ 341000
        omega
      have hB1 : Hid (∀ ob, Below wr.heap.size wr (wr.alloc ob)) := fun ob => (Below.refl _ _).alloc (Nat.le_refl _) _
      generalize kids[j] = x at *
      generalize keys[j] = y at *
      clear hkj
      generalize KV j = v1 at *
      generalize DV j = v2 at *
      subst s1 s2
      by_cases hj0 : j = 0
      · have hj1 : ¬ (0 : Int) < (j : Int) := by omega
        have HJ : Hid (Lib.join ((partsOf 5 keys kids).take (j + 1)) [44] = Lib.join ((partsOf 5 keys kids).take j) [44] ++ keyed y x.brac) := by
          have := HN.out
          rw [if_pos hj0] at this
          show _ = _
          simpa using this
        clear hj0 HN
        go_wp2_with fail
        refine (HQ.out _).mono ?_
        rintro e w1 ⟨rfl, hb1⟩
        have HB1 := Lib.hid (HB.out.next hb1)
        obtain ⟨c0, c1, c2, c3, c4⟩ := kid_cells HCJ.out HB1.out.below
        clear hb1 x0 x1 x2 x3 x4 d1
        obtain ⟨-, -, x0, x1, x2, x3, x4⟩ := HB1.out
        generalize hY : quoteT y = Y at *
        have hYz : Y.size ≤ 802 := by have := HQZ.out; simpa using this
        have HYY : Hid (Y = quoteT y) := hY.symm
        clear hY
        go_wp2_with fail
        refine (HI.out _ HB1.out.below hzj).mono ?_
        rintro e w2 ⟨rfl, hb2⟩
        have HB2 := Lib.hid (HB1.out.next hb2)
        clear hb2 x0 x1 x2 x3 x4 c0 c1 c2 c3 c4
        obtain ⟨-, -, x0, x1, x2, x3, x4⟩ := HB2.out
        generalize hX : (⟨x.brac.toArray⟩ : ByteArray) = X at *
        have hXz : X.size ≤ 341000 := by rw [← hX, mk_size]; exact HZ.out
        have HXX : Hid (X.data.toList = x.brac) := by show _ = _; rw [← hX]
        clear hX
        go_wp2
        refine ⟨⟨j + 1, S ++ Y ++ ⟨#[58]⟩ ++ X, hlt, rfl, by go_num, ?_, HB2.out⟩, by simp [intOf]; omega⟩
        rw [cat_list, cat_list, cat_list, HS.out, HXX.out, HJ.out, HYY.out]
        simp [keyed]
      · have hj1 : (0 : Int) < (j : Int) := by omega
        have HJ : Hid (Lib.join ((partsOf 5 keys kids).take (j + 1)) [44] = Lib.join ((partsOf 5 keys kids).take j) [44] ++ ([44] ++ keyed y x.brac)) := by
          have := HN.out
          rw [if_neg hj0] at this
          exact this
        clear hj0 HN
        go_wp2_with fail
        refine (HQ.out _).mono ?_
        rintro e w1 ⟨rfl, hb1⟩
        have HB1 := Lib.hid (HB.out.next hb1)
        obtain ⟨c0, c1, c2, c3, c4⟩ := kid_cells HCJ.out HB1.out.below
        clear hb1 x0 x1 x2 x3 x4 d1
        obtain ⟨-, -, x0, x1, x2, x3, x4⟩ := HB1.out
        generalize hY : quoteT y = Y at *
        have hYz : Y.size ≤ 802 := by have := HQZ.out; simpa using this
        have HYY : Hid (Y = quoteT y) := hY.symm
        clear hY
        go_wp2_with fail
        refine (HI.out _ HB1.out.below hzj).mono ?_
        rintro e w2 ⟨rfl, hb2⟩
        have HB2 := Lib.hid (HB1.out.next hb2)
        clear hb2 x0 x1 x2 x3 x4 c0 c1 c2 c3 c4
        obtain ⟨-, -, x0, x1, x2, x3, x4⟩ := HB2.out
        generalize hX : (⟨x.brac.toArray⟩ : ByteArray) = X at *
        have hXz : X.size ≤ 341000 := by rw [← hX, mk_size]; exact HZ.out
        have HXX : Hid (X.data.toList = x.brac) := by show _ = _; rw [← hX]
        clear hX
        go_wp2
        refine ⟨⟨j + 1, S ++ ⟨#[44]⟩ ++ Y ++ ⟨#[58]⟩ ++ X, hlt, rfl, by go_num, ?_, HB2.out⟩, by simp [intOf]; omega⟩
        rw [cat_list, cat_list, cat_list, cat_list, HS.out, HXX.out, HJ.out, HYY.out]
        simp [keyed]
    · have HE : Hid (S ++ ⟨#[125]⟩ = ⟨BR.toArray⟩) := by
        show _ = _
        refine ext_list ?_
        rw [cat_list, HS.out, HBR.out, join_take_end _ _ _ (by rw [HP.out]; omega)]
        simp
      go_wp2
      go_ret
      exact ⟨by rw [← HE.out]; rfl, HB.out.below⟩

theorem spec_text (T : RT) : TextAt T := by
  induction T using RT.ind with
  | h k n s keys kids ih =>
    intro w kv dv F hl hr hz
    obtain ⟨hh, -⟩ := right_out hr
    obtain ⟨-, -, hs, FK, FD, hK, hD, -⟩ := hl.outn
    show Calls Tryz.prog 20 #[.agg #[.int .i64 k, .int .i64 n, .string s, kv, dv]] w _
    simp only [HeadOk, RT.k, RT.n, RT.s, RT.keys, RT.kids] at hh
    rcases hh with ⟨rfl, h⟩ | ⟨rfl, h⟩ | ⟨rfl, h, -⟩ | ⟨rfl, h⟩ | ⟨rfl, h⟩ | ⟨rfl, h⟩
    · rw [brac0]; exact text0 n s kv dv w
    · rw [brac1]; exact text1 n s kv dv w
    · rw [brac2]; exact text2 n s kv dv w h.1 h.2
    · rw [brac3]; exact text3 n s kv dv w hs
    · exact text4 n s keys kids ih w kv dv FD hD hr hz
    · exact text5 n s keys kids ih w kv dv FK FD hK hD hr hz

/-- What Braced answers. -/
noncomputable def bracT (T : RT) : ByteArray := if treeOk T = true then ⟨T.brac.toArray⟩ else ⟨#[]⟩

theorem treeOk_out {T : RT} (h : treeOk T = true) : T.size ≤ 200 ∧ T.right = true := by
  unfold treeOk at h
  simp only [Bool.and_eq_true, decide_eq_true_eq] at h
  exact ⟨h.1.2, h.2⟩

set_option maxRecDepth 100000 in
set_option maxHeartbeats 400000 in
theorem spec_braced (T : RT) (w : World) (kv dv : Value) (F : List Nat) (hl : Lies w T kv dv F) (hsz : T.sz ≤ 1048576) :
    Calls Tryz.prog 8 #[.agg #[.int .i64 T.k, .int .i64 T.n, .string T.s, kv, dv]] w fun e w' => e = .returned (.string (bracT T)) ∧ Below w.heap.size w w' := by
  have HX := Lib.hid (Box.start w (.int .i64 T.k) (.int .i64 T.n) (.string T.s) kv dv 27)
  have HR := Lib.hid (fun wr hb => spec_treeOk T wr kv dv F (hl.stay hb (Nat.le_refl _)) hsz)
  have HT := Lib.hid (fun wr hb => spec_text T wr kv dv F (hl.stay hb (Nat.le_refl _)))
  obtain ⟨⟨o1, c1, rfl⟩, ⟨o2, c2, rfl⟩⟩ := hl.slices
  clear hl hsz
  by_cases hok : treeOk T = true
  · have HO := Lib.hid (treeOk_out hok)
    have HE : Hid (bracT T = ⟨T.brac.toArray⟩) := if_pos hok
    rw [hok] at HR
    clear hok
    go_enter Tryz.func8, Tryz.ntmps8
    go_wp2_with (first
      | (go_at_call 19; refine (HR.out _ HX.out.below).mono ?_; rintro e w1 ⟨rfl, hb1⟩; have HX1 := Lib.hid (HX.out.next hb1); obtain ⟨-, -, x0, x1, x2, x3, x4⟩ := HX1.out; clear hb1)
      | (go_at_call 20; refine (HT.out _ HX1.out.below HO.out.2 HO.out.1).mono ?_; rintro e w2 ⟨rfl, hb2⟩; have HX2 := Lib.hid (HX1.out.next hb2); clear hb2)
      | fail)
    go_ret
    exact ⟨by rw [HE.out]; rfl, HX2.out.below⟩
  · have HE : Hid (bracT T = ⟨#[]⟩) := if_neg hok
    have hok' : treeOk T = false := by simpa using hok
    rw [hok'] at HR
    clear hok hok'
    go_enter Tryz.func8, Tryz.ntmps8
    go_wp2_with (first
      | (go_at_call 19; refine (HR.out _ HX.out.below).mono ?_; rintro e w1 ⟨rfl, hb1⟩; have HX1 := Lib.hid (HX.out.next hb1); clear hb1)
      | fail)
    go_ret
    exact ⟨by rw [HE.out]; rfl, HX1.out.below⟩
end Go.Proofs.YtmcjghhmcmkomaaGreatDoor

/- plain facts on the lines that a tree is written as, and how long they are at most. -/
namespace Go.Proofs.YtmcjghhmcmkomaaGreatDoor
open Go Go.RowKit

/-- What Inline writes of a right tree. -/
def inlL (T : RT) : List UInt8 := if T.k = 3 ∧ plainB T.s = true then T.s.data.toList else T.brac
/-- What a Key is written as in lines. -/
def keyL (s : ByteArray) : List UInt8 := if plainB s = true then s.data.toList else (quoteT s).data.toList
/-- What stands ahead of a kid, behind the blanks. -/
def headL (k : Int) (key : ByteArray) : List UInt8 := if k = 5 then keyL key ++ [58] else [45]

mutual
/-- A block's lines, so many blanks in. -/
def RT.lines : RT → Nat → List UInt8
  | .node k _ _ keys kids, d => linesAll k keys kids d
def linesAll : Int → List ByteArray → List RT → Nat → List UInt8
  | _, _, [], _ => []
  | k, keys, t :: ts, d => (List.replicate d 32 ++ (headL k (keys.headD ⟨#[]⟩) ++ (if t.kids.length = 0 then [32] ++ (inlL t ++ [10]) else [10] ++ t.lines (d + 2)))) ++ linesAll k keys.tail ts d
end

/-- A kid's line, or its lines. -/
def lineOf (k : Int) (key : ByteArray) (t : RT) (d : Nat) : List UInt8 := List.replicate d 32 ++ (headL k key ++ (if t.kids.length = 0 then [32] ++ (inlL t ++ [10]) else [10] ++ t.lines (d + 2)))

theorem linesAll_take (k : Int) (d : Nat) : (keys : List ByteArray) → (kids : List RT) → (j : Nat) → (h : j < kids.length) → linesAll k keys (kids.take (j + 1)) d = linesAll k keys (kids.take j) d ++ lineOf k ((keys.drop j).headD ⟨#[]⟩) kids[j] d
  | keys, [], j, h => absurd h (by simp)
  | keys, t :: kids, 0, _ => by simp [linesAll, lineOf]
  | keys, t :: kids, j + 1, h => by
    have h1 := linesAll_take k d keys.tail kids j (by simpa using h)
    simp only [List.take_succ_cons, linesAll] at h1 ⊢
    rw [h1, List.append_assoc]
    simp

theorem key_at {keys : List ByteArray} {j : Nat} (h : j < keys.length) : (keys.drop j).headD ⟨#[]⟩ = keys[j] := by
  rw [List.drop_eq_getElem_cons h]; rfl

theorem lineOf_list (key key' : ByteArray) (t : RT) (d : Nat) : lineOf 4 key t d = lineOf 4 key' t d := rfl

theorem plainB_le {s : ByteArray} (h : plainB s = true) : s.size ≤ 60 := by
  unfold plainB at h
  simp only [Bool.and_eq_true, decide_eq_true_eq] at h
  exact h.1.1.2

theorem keyL_length (s : ByteArray) : (keyL s).length ≤ 802 := by
  unfold keyL
  split
  · rename_i h
    have := plainB_le h
    have e : s.data.toList.length = s.size := by simp
    omega
  · exact quoteT_length s

theorem headL_length (k : Int) (s : ByteArray) : (headL k s).length ≤ 803 := by
  unfold headL
  have := keyL_length s
  split
  · simp only [List.length_append, List.length_cons, List.length_nil]; omega
  · simp

theorem size_leaf {t : RT} (h : t.kids.length = 0) : t.size = 1 := by
  obtain ⟨k, n, s, keys, kids⟩ := t
  have : kids = [] := List.length_eq_zero_iff.1 h
  subst this
  rfl

theorem inlL_length {t : RT} (hr : t.right = true) : (inlL t).length + 804 ≤ 1700 * t.size := by
  unfold inlL
  split
  · rename_i h
    have h1 := plainB_le h.2
    have e : t.s.data.toList.length = t.s.size := by simp
    have : 1 ≤ t.size := by cases t; rw [RT.size]; omega
    omega
  · exact brac_le t hr

theorem linesAll_le (k : Int) (d : Nat) (hd : d ≤ 1000) : (keys : List ByteArray) → (kids : List RT) → (∀ t ∈ kids, t.right = true ∧ (t.lines (d + 2)).length + 4000 ≤ 4000 * t.size) → (linesAll k keys kids d).length ≤ 4000 * sizeAll kids
  | _, [], _ => by simp [linesAll]
  | keys, t :: kids, h => by
    have h1 := linesAll_le k d hd keys.tail kids (fun x hx => h x (List.mem_cons_of_mem _ hx))
    obtain ⟨hr, h2⟩ := h t (List.mem_cons_self ..)
    have h3 := headL_length k (keys.headD ⟨#[]⟩)
    have h4 := inlL_length hr
    simp only [linesAll, List.length_append, List.length_replicate, sizeAll, Nat.mul_add]
    split
    · rename_i hz
      have := size_leaf hz
      simp only [List.length_append, List.length_cons, List.length_nil]
      omega
    · simp only [List.length_append, List.length_cons, List.length_nil]
      omega

theorem kid_size_le {kids : List RT} {t : RT} (h : t ∈ kids) : t.size ≤ sizeAll kids := by
  induction kids with
  | nil => simp at h
  | cons x kids ih =>
    simp only [sizeAll]
    rcases List.mem_cons.1 h with rfl | h
    · omega
    · have := ih h; omega

theorem kid_deep_le {kids : List RT} {t : RT} (h : t ∈ kids) : t.deep ≤ deepAll kids := by
  induction kids with
  | nil => simp at h
  | cons x kids ih =>
    simp only [deepAll]
    rcases List.mem_cons.1 h with rfl | h
    · omega
    · have := ih h; omega

theorem kid_sz_le {kids : List RT} {t : RT} (h : t ∈ kids) : t.sz ≤ szAll kids := by
  rw [szAll_sum]
  induction kids with
  | nil => simp at h
  | cons x kids ih =>
    simp only [List.map_cons, List.sum_cons]
    rcases List.mem_cons.1 h with rfl | h
    · omega
    · have := ih h; omega

theorem right_kid {T t : RT} (hr : T.right = true) (h : t ∈ T.kids) : t.right = true := by
  obtain ⟨i, hi, rfl⟩ := List.getElem_of_mem h
  exact (right_out hr).2 i hi

theorem lines_le (T : RT) : ∀ d, T.right = true → d + 2 * T.size ≤ 1000 → (T.lines d).length + 4000 ≤ 4000 * T.size := by
  induction T using RT.ind with
  | h k n s keys kids ih =>
    intro d hr hd
    have hs : (RT.node k n s keys kids).size = sizeAll kids + 1 := rfl
    rw [hs] at hd ⊢
    have := linesAll_le k d (by omega) keys kids (fun t ht => by
      have hrt := right_kid hr (show t ∈ (RT.node k n s keys kids).kids from ht)
      have := kid_size_le ht
      exact ⟨hrt, ih t ht (d + 2) hrt (by omega)⟩)
    rw [RT.lines]
    omega

theorem lines_take_le {k n : Int} {s : ByteArray} {keys : List ByteArray} {kids : List RT} {d : Nat} (hr : (RT.node k n s keys kids).right = true) (hd : d + 2 * (RT.node k n s keys kids).size ≤ 1000) (j : Nat) : (linesAll k keys (kids.take j) d).length ≤ 4000 * sizeAll kids := by
  have hs : (RT.node k n s keys kids).size = sizeAll kids + 1 := rfl
  rw [hs] at hd
  refine Nat.le_trans (linesAll_le k d (by omega) keys (kids.take j) fun t ht => ?_) ?_
  · have ht' := List.mem_of_mem_take ht
    have hrt := right_kid hr (show t ∈ (RT.node k n s keys kids).kids from ht')
    have := kid_size_le ht'
    exact ⟨hrt, lines_le t (d + 2) hrt (by omega)⟩
  · have := sizeAll_take_le kids j
    omega

theorem treeOk_parts {T : RT} (h : treeOk T = true) : T.deep ≤ 8 ∧ T.size ≤ 200 ∧ T.right = true := by
  unfold treeOk at h
  simp only [Bool.and_eq_true, decide_eq_true_eq] at h
  exact ⟨h.1.1, h.1.2, h.2⟩

theorem treeOk_kid {T t : RT} (h : treeOk T = true) (ht : t ∈ T.kids) : treeOk t = true := by
  obtain ⟨h1, h2, h3⟩ := treeOk_parts h
  obtain ⟨k, n, s, keys, kids⟩ := T
  have e1 : (RT.node k n s keys kids).deep = deepAll kids + 1 := rfl
  have e2 : (RT.node k n s keys kids).size = sizeAll kids + 1 := rfl
  have k1 := kid_deep_le (show t ∈ kids from ht)
  have k2 := kid_size_le (show t ∈ kids from ht)
  unfold treeOk
  simp only [Bool.and_eq_true, decide_eq_true_eq]
  exact ⟨⟨by omega, by omega⟩, right_kid h3 ht⟩

theorem sz_kid {T t : RT} (ht : t ∈ T.kids) : t.sz ≤ T.sz := by
  obtain ⟨k, n, s, keys, kids⟩ := T
  have := kid_sz_le (show t ∈ kids from ht)
  rw [RT.sz]
  omega

/-- What has kids, and is right, is a list or a map. -/
theorem kind_of_kids {T : RT} (h : T.right = true) (h0 : T.kids.length ≠ 0) : T.k = 4 ∨ T.k = 5 := by
  obtain ⟨hh, -⟩ := right_out h
  unfold HeadOk at hh
  omega
end Go.Proofs.YtmcjghhmcmkomaaGreatDoor
