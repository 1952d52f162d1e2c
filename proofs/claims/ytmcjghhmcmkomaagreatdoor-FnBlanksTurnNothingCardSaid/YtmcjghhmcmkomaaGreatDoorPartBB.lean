/-
  What is proved: the program's Outline of a text whose lines say a tree answers that tree and -1; condition: the library's MaxLen is a number.; the model's Indented, at every tree: empty when it is not right; else the lines that it is written as.
-/
import Derived.Test.YtmcjghhmcmkomaaGreatDoorPartBA
import Derived.Test.YtmcjghhmcmkomaaGreatDoorPartAJ
import Derived.Test.YtmcjghhmcmkomaaGreatDoorPartAB
/- the program's Outline of a text whose lines say a tree answers that tree and -1; condition: the library's MaxLen is a number. -/
namespace Go.Proofs.YtmcjghhmcmkomaaGreatDoor
open Go Go.RowKit Go.Shelf

attribute [local go_sem] Oper.semAt_some

/-- What outlined holds between its rounds. -/
structure ON (w wB : World) (m : Int) (S : OS) (W : World) : Prop where
  res : W.heap[w.heap.size]? = some (.cells #[.int .i64 0, .int .i64 0, .string ⟨#[]⟩, .slice none 0 0, .slice none 0 0] 27 (0, 0))
  err : W.heap[w.heap.size + 1]? = some (.cells #[.nilIface] 39 (0, 0))
  lines : ∃ v : Int, W.heap[w.heap.size + 1 + 1 + 1]? = some (.cells #[.int .i64 v] 3 (0, 0))
  max : MaxL W m
  below : Below w.heap.size w W
  st : OState wB W (w.heap.size + 1 + 1) S

/-- A step that turns one block, which is none of these, or none at all. -/
theorem ON.step {w wB W W' : World} {m : Int} {S : OS} {row : Option Nat} (h : ON w wB m S W) (hm0 : 2 < w.heap.size) (hB : w.heap.size + 5 ≤ wB.heap.size) (hg : W.grownBy W' row) (hr : ∀ r, row = some r → w.heap.size + 3 < r ∧ r < wB.heap.size) : ON w wB m S W' := by
  have keep : ∀ k, k ≤ w.heap.size + 3 → k < W.heap.size → W'.heap[k]? = W.heap[k]? := fun k hk ho => hg.block k ho (fun e => by have := (hr k e.symm).1; omega)
  obtain ⟨v, hv⟩ := h.lines
  have hlt := (Array.getElem?_eq_some_iff.1 hv).1
  refine ⟨(keep _ (by omega) (by omega)).trans h.res, (keep _ (by omega) (by omega)).trans h.err, ⟨v, (keep _ (by omega) (by omega)).trans hv⟩, ?_, h.below.grown hg h.below.size (fun k e => by have := (hr k e).1; omega), h.st.ride (by omega) hg fun r e => ⟨(hr r e).2, by have := (hr r e).1; omega⟩⟩
  exact (World.cell?_of_block (a := ⟨2, 0, none⟩) (keep 2 (by omega) (by omega))).trans h.max

theorem ON.below' {w wB W W' : World} {m : Int} {S : OS} (h : ON w wB m S W) (hm0 : 2 < w.heap.size) (hB : w.heap.size + 5 ≤ wB.heap.size) (hb : Below W.heap.size W W') : ON w wB m S W' :=
  h.step hm0 hB (grw_below (r := none) hb) (fun r e => by cases e)

theorem ON.line {w wB W : World} {m : Int} {S : OS} (h : ON w wB m S W) (hm0 : 2 < w.heap.size) (hB : w.heap.size + 5 ≤ wB.heap.size) (v : Int) : ON w wB m S (W.setCell ⟨w.heap.size + 1 + 1 + 1, 0, none⟩ (.int .i64 v)) := by
  have keep : ∀ y, y ≠ w.heap.size + 1 + 1 + 1 → (W.setCell ⟨w.heap.size + 1 + 1 + 1, 0, none⟩ (.int .i64 v)).heap[y]? = W.heap[y]? := fun y hy => Below.heap_setCell _ _ _ _ hy
  obtain ⟨v0, hv⟩ := h.lines
  refine ⟨(keep _ (by omega)).trans h.res, (keep _ (by omega)).trans h.err, ⟨v, heap_set hv 0 _⟩, (World.cell?_of_block (a := ⟨2, 0, none⟩) (keep 2 (by omega))).trans h.max, h.below.setCell (p := ⟨w.heap.size + 1 + 1 + 1, 0, none⟩) (by show w.heap.size ≤ w.heap.size + 1 + 1 + 1; omega) _, ?_⟩
  exact h.st.ride (by omega) (grw_set W (w.heap.size + 1 + 1 + 1) 0 _) fun r e => by injection e with e; omega

theorem ON.take {w wB W W' : World} {m : Int} {S S' : OS} (h : ON w wB m S W) (hm0 : 2 < w.heap.size) (hB : w.heap.size + 5 ≤ wB.heap.size) (hO : OState wB W' (w.heap.size + 1 + 1) S') (hk : Kp wB (w.heap.size + 1 + 1) W W') : ON w wB m S' W' := by
  obtain ⟨v0, hv⟩ := h.lines
  have keep : ∀ y, y < w.heap.size + 5 → y ≠ w.heap.size + 1 + 1 → W'.heap[y]? = W.heap[y]? := fun y h1 h2 => hk.block y (by omega) h2
  refine ⟨(keep _ (by omega) (by omega)).trans h.res, (keep _ (by omega) (by omega)).trans h.err, ⟨v0, (keep _ (by omega) (by omega)).trans hv⟩, (World.cell?_of_block (a := ⟨2, 0, none⟩) (keep 2 (by omega) (by omega))).trans h.max, ?_, hO⟩
  exact h.below.trans ⟨hk.os, hk.tape, hk.output, hk.size, fun b hb => keep b (by omega) (by omega)⟩

set_option maxRecDepth 100000 in
set_option maxHeartbeats 8000000 in
theorem outlined_lines (T : RT) (hok : treeOk T = true) {N : Nat} {line rest : Nat → ByteArray} (hL : Lined N line rest) (S : Nat → OS) (hS0 : S 0 = .lv ⟨[], true, 0⟩) (hmv : ∀ i, i < N → Move (S i) (line i).data.toList (S (i + 1))) (hen : Ends (S N) T) (hls : ∀ i, i < N → (line i).size ≤ 6001) (m : Int) (w : World) (hm : MaxL w m) (hsz : (rest 0).size ≤ 6000) :
    Calls Tryz.prog 22 #[.string (rest 0)] w fun e w' => ∃ kx dx F, e = .returned (.tuple #[.agg #[.int .i64 T.k, .int .i64 T.n, .string T.s, kx, dx], .nilIface]) ∧ Lies w' T kx dx F ∧ Fresh w w' F ∧ Below w.heap.size w w' := by
  have HMv := Lib.hid hmv
  have HEn := Lib.hid hen
  have HLs := Lib.hid hls
  have HTr := Lib.hid (fun (wx : World) (i : Nat) => Tryz.strings_TrimLeft_one (line i) 32 (by decide) wx)
  have HTO := Lib.hid (fun (wx : World) (kv dv : Value) (F : List Nat) (hl : Lies wx T kv dv F) => impl_treeOk T wx kv dv F hl)
  rw [hok] at HTO
  have hfew := hL.few
  have hst := fun (n : Nat) (hn : 2 ≤ n) (W : World) (B : Nat) (hB : B < W.heap.size) (hx : MaxL W m) (hbox : W.cell? ⟨B, 0, none⟩ = some (.string (rest 0))) => lines_rows n hn hL m B W hB hx hbox
  clear hok hL hmv hen hls
  generalize hs : rest 0 = s at *
  refine (callsIn_wide (n := 6)).1 ?_
  refine callsIn_of_wp_marks Tryz.func22 rfl trivial ?_ rfl
  simp only [Tryz.ntmps22, List.size_toArray, List.length_cons, List.length_nil, Nat.reduceAdd, Nat.reduceSub, Array.replicate_succ, Array.replicate_zero, List.push_toArray, List.append_toArray, List.nil_append, List.cons_append]
  gi_wp2
  refine ⟨trivial, ?_⟩
  refine (callsIn_wide.2 (impl_linesOf s _)).mono ?_
  rintro e w1 ⟨rfl, rfl⟩
  gi_wp2
  have H0 := five_blks w (.cells #[.int .i64 0, .int .i64 0, .string ⟨#[]⟩, .slice none 0 0, .slice none 0 0] 27) (.cells #[.nilIface] 39) (.cells #[.slice none 0 0, .bool true, .int .i64 0, .int .i64 0, .int .i64 0, .string ⟨#[]⟩, .slice none 0 0, .slice none 0 0] 82) (.cells #[.int .i64 0] 3) (.cells #[.string s] 9)
  generalize ((((w.alloc (.cells #[.int .i64 0, .int .i64 0, .string ⟨#[]⟩, .slice none 0 0, .slice none 0 0] 27)).alloc (.cells #[.nilIface] 39)).alloc (.cells #[.slice none 0 0, .bool true, .int .i64 0, .int .i64 0, .int .i64 0, .string ⟨#[]⟩, .slice none 0 0, .slice none 0 0] 82)).alloc (.cells #[.int .i64 0] 3)).alloc (.cells #[.string s] 9) = W0 at *
  obtain ⟨e0, e1, e2, e3, e4, esz, ebl⟩ := H0
  have hmW : MaxL W0 m := hm.stay ebl hm.lt
  obtain ⟨wB, hwB⟩ : ∃ wB : World, wB.heap.size = w.heap.size + 7 := ⟨(W0.alloc (.map #[] 0)).alloc (.map #[] 0), by simp; omega⟩
  have hm0 := hm.lt
  refine wpIn_rowed rfl (by omega) (gf := 79) (lb := #[.pointer (some ⟨w.heap.size + 1 + 1 + 1 + 1, 0, none⟩)]) rfl trivial (enters_of Tryz.func79 (by kernel_rfl) rfl)
    (hst 5 (by omega) W0 (w.heap.size + 1 + 1 + 1 + 1) (by omega) hmW (cell_of e4 0)) (Below.refl _ _) (fun _ => rfl)
    (fun i W => ON w wB m (S i) W) (fun i W W' row h hg hr => h.step hm0 (by omega) hg fun r e => by have := hr r e; rw [esz] at this; omega) (fun i W h => h.max)
    (fun o1 o2 => ?_)
    (fun i => { tmps := #[.string s, undef, .pointer (some ⟨w.heap.size, 0, none⟩), .pointer (some ⟨w.heap.size + 1, 0, none⟩), .pointer (some ⟨w.heap.size + 1 + 1, 0, none⟩), .pointer (some ⟨w.heap.size + 1 + 1 + 1, 0, none⟩), .int .i64 (i : Int), .string (line i), undef, .agg #[.slice none 0 0, .bool true, .int .i64 0, .int .i64 0, .int .i64 0, .string ⟨#[]⟩, .slice none 0 0, .slice none 0 0], .string s, .func (.func 79) #[] #[.pointer (some ⟨w.heap.size + 1 + 1 + 1 + 1, 0, none⟩)], .int .i64 (i : Int), .string (line i), undef, undef, undef, undef, undef, undef, undef, undef, undef, undef, undef, undef, undef, undef, undef, undef, undef, undef, undef, undef, undef, undef, undef, undef, undef, undef, undef, undef, undef, undef, undef, undef, undef, undef, undef, undef, undef, undef, undef, undef, undef, undef, undef, undef, undef, undef, undef, undef, undef], defers := [] }) ?assign ?body ?done
  · have hb := ((Below.refl _ W0).alloc (Nat.le_refl _) o1).alloc (by simp) o2
    show ON w wB m (S 0) _
    rw [hS0]
    have e2' : OB ((W0.alloc o1).alloc o2) (w.heap.size + 1 + 1) (.slice none 0 0) true 0 := blk_nextR e2 hb
    exact ⟨blk_nextR e0 hb, blk_nextR e1 hb, ⟨0, blk_nextR e3 hb⟩, hmW.stay hb hmW.lt, ebl.trans (hb.mono ebl.size), .slice none 0 0, [], ⟨e2', OStk.start _ _, Kp.refl _ _ _, by simp; omega⟩, rfl, Nat.le_refl _⟩
  case assign =>
    intro l i W K hK
    simp only [encN]
    gi_wp2
    exact hK
  case body =>
    intro l i W hi hI hsW
    have hw : IntKind.i64.wrap ((i : Int) + 1) = (i : Int) + 1 := by rw [IntKind.wrap_i64]; omega
    have HK1 : Hid (W.heap.size ≤ (W.setCell ⟨w.heap.size + 1 + 1 + 1, 0, none⟩ (.int .i64 ((i : Int) + 1))).heap.size ∧ (W.setCell ⟨w.heap.size + 1 + 1 + 1, 0, none⟩ (.int .i64 ((i : Int) + 1))).heap[w.heap.size + 5]? = W.heap[w.heap.size + 5]? ∧ (W.setCell ⟨w.heap.size + 1 + 1 + 1, 0, none⟩ (.int .i64 ((i : Int) + 1))).heap[w.heap.size + 5 + 1]? = W.heap[w.heap.size + 5 + 1]?) :=
      ⟨by simp [World.setCell], Below.heap_setCell _ _ _ _ (by show w.heap.size + 5 ≠ w.heap.size + 1 + 1 + 1; omega), Below.heap_setCell _ _ _ _ (by show w.heap.size + 5 + 1 ≠ w.heap.size + 1 + 1 + 1; omega)⟩
    have HI1 := Lib.hid (hI.line hm0 (by omega) ((i : Int) + 1))
    obtain ⟨v, hv⟩ := hI.lines
    have ln0 := cell_of hv 0
    have ln1 : W.frozen? ⟨w.heap.size + 1 + 1 + 1, 0, none⟩ = false := by simp [World.frozen?, hv]
    simp only [List.getElem?_toArray, List.getElem?_cons_zero] at ln0
    have hnx : IntKind.i64.wrap ((i : Int) + 1) = (i : Int) + 1 := hw
    clear hst
    rcases (HMv.out i hi).cases with ⟨hsk, he⟩ | ⟨inn, text, ek, key, val, al, hT⟩
    · rw [← he] at HI1
      obtain ⟨text, htr, hsk2⟩ : ∃ text : ByteArray, (⟨(Lib.trimLeftB (line i).data.toList 32).toArray⟩ : ByteArray) = text ∧ (text = ⟨#[]⟩ ∨ ∃ r, text.data.toList = 35 :: r) := ⟨_, rfl, hsk.imp (fun h => by rw [h]) (fun ⟨r, h⟩ => ⟨r, h⟩)⟩
      have HT2 : Hid (∀ wx, Calls Tryz.prog 50 #[.string (line i), .string ⟨#[32]⟩] wx fun e w' => e = .returned (.string text) ∧ w' = wx) := fun wx => by
        have := HTr.out wx i
        rwa [htr] at this
      clear htr hsk he
      rcases hsk2 with rfl | ⟨r, eb⟩
      · have hz1 : ((⟨#[]⟩ : ByteArray).toList == []) = true := by rw [ByteArray.toList_eq]; rfl
        gi_wp2
        refine ⟨trivial, ?_⟩
        refine (CallsIn.inRound l (callsIn_wide.2 (HT2.out _))).mono ?_
        rintro e w2 ⟨rfl, e2⟩
        subst w2
        gi_wp2
        exact ⟨HI1.out, HK1.out.2⟩
      · have hz1 : (text.toList == []) = false := by rw [toList_of eb]; rfl
        have hz2 := list_size eb
        obtain ⟨hl0, hl1⟩ : ∃ h : 0 < text.size, text[0] = 35 := by
          refine ⟨by rw [hz2]; simp, ?_⟩
          have h1 : text.data.toList[0]? = some 35 := by rw [eb]; rfl
          obtain ⟨h2, h3⟩ := List.getElem?_eq_some_iff.1 h1
          exact h3
        clear eb hz2
        gi_wp2
        refine ⟨trivial, ?_⟩
        refine (CallsIn.inRound l (callsIn_wide.2 (HT2.out _))).mono ?_
        rintro e w2 ⟨rfl, e2⟩
        subst w2
        gi_wp2
        exact ⟨HI1.out, HK1.out.2⟩
    · have HT2 : Hid (∀ wx, Calls Tryz.prog 50 #[.string (line i), .string ⟨#[32]⟩] wx fun e w' => e = .returned (.string text) ∧ w' = wx) := fun wx => by
        have := HTr.out wx i
        rw [hT.trim] at this
        simp only [Array.toArray_toList] at this
        exact this
      obtain ⟨b0, r, eb, hb35⟩ := hT.head
      have hz1 : (text.toList == []) = false := by rw [toList_of eb]; rfl
      have hz2 := list_size eb
      obtain ⟨hl0, hl1⟩ : ∃ h : 0 < text.size, text[0] = b0 := by
        refine ⟨by rw [hz2]; simp, ?_⟩
        have h1 : text.data.toList[0]? = some b0 := by rw [eb]; rfl
        obtain ⟨h2, h3⟩ := List.getElem?_eq_some_iff.1 h1
        exact h3
      have hq : ((b0.toNat : Int) == 35) = false := by simpa using u8_int_ne hb35
      have hlen : (line i).size = inn + text.size := by have := hT.len; simpa using this
      have hls := HLs.out i hi
      have hsub : ((line i).size : Int) - (text.size : Int) = (inn : Int) := by omega
      have HT := Lib.hid hT
      clear hT eb hz2 hb35
      gi_wp2
      refine ⟨trivial, ?_⟩
      refine (CallsIn.inRound l (callsIn_wide.2 (HT2.out _))).mono ?_
      rintro e w2 ⟨rfl, e2⟩
      subst w2
      gi_wp2
      refine ⟨trivial, ?_⟩
      refine (CallsIn.inRound l (callsIn_wide.2 (HT.out.entry m _ HI1.out.max))).mono ?_
      rintro e w3 ⟨rfl, hb3⟩
      have HI3 := Lib.hid (HI1.out.below' hm0 (by omega) hb3)
      have HK3 : Hid (W.heap.size ≤ w3.heap.size ∧ w3.heap[w.heap.size + 5]? = W.heap[w.heap.size + 5]? ∧ w3.heap[w.heap.size + 5 + 1]? = W.heap[w.heap.size + 5 + 1]?) :=
        ⟨Nat.le_trans HK1.out.1 hb3.size, (hb3.block _ (by have := HK1.out.1; omega)).trans HK1.out.2.1, (hb3.block _ (by have := HK1.out.1; omega)).trans HK1.out.2.2⟩
      clear hb3 HI1 ln0 ln1 hv HK1
      gi_wp2
      refine ⟨trivial, ?_⟩
      refine (CallsIn.inRound l (callsIn_wide.2 (HT.out.take wB w3 (w.heap.size + 1 + 1) (by omega) HI3.out.st))).mono ?_
      rintro e w4 ⟨rfl, hO4, hk4⟩
      have HI4 := Lib.hid (HI3.out.take hm0 (by omega) hO4 hk4)
      have HK4 : Hid (W.heap.size ≤ w4.heap.size ∧ w4.heap[w.heap.size + 5]? = W.heap[w.heap.size + 5]? ∧ w4.heap[w.heap.size + 5 + 1]? = W.heap[w.heap.size + 5 + 1]?) :=
        ⟨Nat.le_trans HK3.out.1 hk4.size, (hk4.block _ (by omega) (by omega)).trans HK3.out.2.1, (hk4.block _ (by omega) (by omega)).trans HK3.out.2.2⟩
      clear hO4 hk4 HI3 HK3
      gi_wp2
      exact ⟨HI4.out, HK4.out⟩
  case done =>
    intro W hI hK
    rw [esz] at hK
    have x1 := ends_due hI.st HEn.out
    have HSh := Lib.hid (ends_shut hI.st HEn.out (by omega))
    have hs' : ¬ (6000 : Int) < (s.size : Int) := by omega
    clear hst HTr HMv HLs e0 e1 e2 e3 e4
    gi_wp2
    refine ⟨trivial, ?_⟩
    refine (callsIn_wide.2 HSh.out).mono ?_
    rintro e w5 ⟨⟨v5, rfl⟩, en, hen, o, c, o1, c1, o2, c2, F, hO, hl, hf, hkp⟩
    have hr5 : w5.heap[w.heap.size]? = _ := (hkp.block _ (by omega) (by omega)).trans hI.res
    have he5 : w5.heap[w.heap.size + 1]? = _ := (hkp.block _ (by omega) (by omega)).trans hI.err
    have hK5 : w5.heap[w.heap.size + 5]? = _ := (hkp.block _ (by omega) (by omega)).trans hK
    have hB5 : Below w.heap.size w w5 := hI.below.trans ⟨hkp.os, hkp.tape, hkp.output, hkp.size, fun b hb => hkp.block b (by omega) (by omega)⟩
    have HO5 := Lib.hid hO
    have HL5 := Lib.hid hl
    clear x1 hI hK hkp hO hl HSh
    obtain ⟨x0, x1, x2, x3, x4, x5, x6, x7, x8⟩ := HO5.out.eight
    have hen' : ¬ (200 : Int) < (en : Int) := by omega
    gi_wp2
    refine ⟨trivial, ?_⟩
    refine (callsIn_wide.2 (HTO.out _ _ _ _ HL5.out)).mono ?_
    rintro e w6 ⟨rfl, hb6⟩
    have HO6 := Lib.hid (HO5.out.next hb6)
    have HL6 := Lib.hid (HL5.out.stay hb6 (Nat.le_refl _))
    have hf6 : Fresh wB w6 F := hf.carry fun y hy => hb6.block y (HL5.out.lt y hy)
    have hr6 := blk_nextR hr5 hb6
    have he6 := blk_nextR he5 hb6
    have hK6 := blk_nextR hK5 hb6
    have hB6 : Below w.heap.size w w6 := hB5.trans (hb6.mono hB5.size)
    clear x0 x1 x2 x3 x4 x5 x6 x7 x8 hr5 he5 hK5 hf hB5 hb6 HO5 HL5
    obtain ⟨x0, x1, x2, x3, x4, x5, x6, x7, x8⟩ := HO6.out.eight
    obtain ⟨z0, z1, z2, z3, z4, z5⟩ := five hr6
    have q0 := cell_of he6 0
    have q1 : w6.frozen? ⟨w.heap.size + 1, 0, none⟩ = false := by simp [World.frozen?, he6]
    simp only [List.getElem?_toArray, List.getElem?_cons_zero] at q0
    gi_wp2
    have hfar : ∀ y ∈ F, w.heap.size + 7 ≤ y := fun y hy => by have := hf6.old y hy; omega
    have hKf : ((set5 w6 w.heap.size 0 (.int .i64 T.k) (.int .i64 T.n) (.string T.s) (.slice o1 T.keys.length c1) (.slice o2 T.kids.length c2)).setCell ⟨w.heap.size + 1, 0, none⟩ .nilIface).heap[w.heap.size + 5]? = some (.deferred (some [])) := by
      rw [Below.heap_setCell _ _ _ _ (by show w.heap.size + 5 ≠ w.heap.size + 1; omega), set5_other _ _ _ _ _ _ _ _ _ (by omega)]
      exact hK6
    refine ⟨by simp, .inl ⟨_, _, rfl, run_takeDeferred hKf, ?_⟩⟩
    have keep : ∀ y, y ≠ w.heap.size + 5 → (((set5 w6 w.heap.size 0 (.int .i64 T.k) (.int .i64 T.n) (.string T.s) (.slice o1 T.keys.length c1) (.slice o2 T.kids.length c2)).setCell ⟨w.heap.size + 1, 0, none⟩ .nilIface).putObj (w.heap.size + 5) (.deferred none)).heap[y]? = ((set5 w6 w.heap.size 0 (.int .i64 T.k) (.int .i64 T.n) (.string T.s) (.slice o1 T.keys.length c1) (.slice o2 T.kids.length c2)).setCell ⟨w.heap.size + 1, 0, none⟩ .nilIface).heap[y]? := fun y hy => World.putObj_heap_other (fun e => hy e)
    have keepF : ∀ y ∈ F, (((set5 w6 w.heap.size 0 (.int .i64 T.k) (.int .i64 T.n) (.string T.s) (.slice o1 T.keys.length c1) (.slice o2 T.kids.length c2)).setCell ⟨w.heap.size + 1, 0, none⟩ .nilIface).putObj (w.heap.size + 5) (.deferred none)).heap[y]? = w6.heap[y]? := fun y hy => by
      have h4 := hfar y hy
      rw [keep y (by omega), Below.heap_setCell _ _ _ _ (by show y ≠ w.heap.size + 1; omega), set5_other _ _ _ _ _ _ _ _ _ (by omega)]
    have hB7 : Below w.heap.size w ((set5 w6 w.heap.size 0 (.int .i64 T.k) (.int .i64 T.n) (.string T.s) (.slice o1 T.keys.length c1) (.slice o2 T.kids.length c2)).setCell ⟨w.heap.size + 1, 0, none⟩ .nilIface) := (set5_below hB6 (Nat.le_refl _) _ _ _ _ _ _).setCell (p := ⟨w.heap.size + 1, 0, none⟩) (by show w.heap.size ≤ w.heap.size + 1; omega) _
    refine ⟨_, ret_node_err Tryz.results22 rfl rfl ((keep _ (by omega)).trans ((Below.heap_setCell _ _ _ _ (by show w.heap.size ≠ w.heap.size + 1; omega)).trans (set5_end hr6 _ _ _ _ _))) ((keep _ (by omega)).trans (heap_set ((set5_other _ _ _ _ _ _ _ _ _ (by omega)).trans he6) 0 _)), _, _, F, rfl, HL6.out.carry keepF, (hf6.earlier (by omega)).carry keepF, hB7.trans (belowK_b (w := w) (Nat.le_refl _) _ (w.heap.size + 5) _ _ (by omega) hKf rfl rfl)⟩
end Go.Proofs.YtmcjghhmcmkomaaGreatDoor

/- the model's Indented, at every tree: empty when it is not right; else the lines that it is written as. -/
namespace Go.Proofs.YtmcjghhmcmkomaaGreatDoor
open Go Go.RowKit

set_option maxHeartbeats 400000 in
theorem spec_block_no (k n : Int) (s : ByteArray) (kv : Value) (ov : Option Addr) (c : Nat) (w : World) :
    Calls Tryz.prog 28 #[.agg #[.int .i64 k, .int .i64 n, .string s, kv, .slice ov 0 c]] w fun e w' => e = .returned (.bool false) ∧ Below w.heap.size w w' := by
  have HB := Lib.hid ((Below.refl _ w).alloc (Nat.le_refl _) (.cells #[.int .i64 k, .int .i64 n, .string s, kv, .slice ov 0 c] 27))
  cases e4 : (k == 4) <;> cases e5 : (k == 5)
  all_goals
    go_enter Tryz.func28, Tryz.ntmps28
    go_wp2
    go_ret
    exact ⟨rfl, HB.out⟩

set_option maxHeartbeats 400000 in
theorem spec_block_yes (k n : Int) (hk : k = 4 ∨ k = 5) (s : ByteArray) (kv : Value) (ov : Option Addr) (len c : Nat) (h0 : len ≠ 0) (w : World) :
    Calls Tryz.prog 28 #[.agg #[.int .i64 k, .int .i64 n, .string s, kv, .slice ov len c]] w fun e w' => e = .returned (.bool true) ∧ Below w.heap.size w w' := by
  have h1 : (0 : Int) < (len : Int) := by omega
  have HB := Lib.hid ((Below.refl _ w).alloc (Nat.le_refl _) (.cells #[.int .i64 k, .int .i64 n, .string s, kv, .slice ov len c] 27))
  have h2 : 0 < len := by omega
  clear h0
  rcases hk with rfl | rfl
  all_goals
    go_enter Tryz.func28, Tryz.ntmps28
    go_wp2
    go_ret
    exact ⟨rfl, HB.out⟩

/-- What Inline answers of a right tree. -/
def inlT (T : RT) : ByteArray := ⟨(inlL T).toArray⟩

set_option maxRecDepth 100000 in
set_option maxHeartbeats 400000 in
theorem spec_inline (T : RT) (w : World) (kv dv : Value) (F : List Nat) (hl : Lies w T kv dv F) (hok : treeOk T = true) (hsz : T.sz ≤ 1048576) :
    Calls Tryz.prog 30 #[.agg #[.int .i64 T.k, .int .i64 T.n, .string T.s, kv, dv]] w fun e w' => e = .returned (.string (inlT T)) ∧ Below w.heap.size w w' := by
  have HX := Lib.hid (Box.start w (.int .i64 T.k) (.int .i64 T.n) (.string T.s) kv dv 27)
  have HR := Lib.hid (fun wr hb => spec_treeOk T wr kv dv F (hl.stay hb (Nat.le_refl _)) hsz)
  have HT := Lib.hid (fun wr hb => spec_braced T wr kv dv F (hl.stay hb (Nat.le_refl _)) hsz)
  have HP := Lib.hid (spec_plainOk T.s hl.out.2.2.1)
  obtain ⟨⟨o1, c1, rfl⟩, ⟨o2, c2, rfl⟩⟩ := hl.slices
  have HBT : Hid (bracT T = ⟨T.brac.toArray⟩) := if_pos hok
  rw [hok] at HR
  clear hl hsz hok
  by_cases hk : T.k = 3
  · have e3 : (T.k == 3) = true := by simp [hk]
    by_cases hp : plainB T.s = true
    · have HE : Hid (inlT T = T.s) := by
        show _ = _
        unfold inlT inlL
        rw [if_pos ⟨hk, hp⟩]
      rw [hp] at HP
      clear hk hp
      go_enter Tryz.func30, Tryz.ntmps30
      go_wp2_with (first
        | (go_at_call 19; refine (HR.out _ HX.out.below).mono ?_; rintro e w1 ⟨rfl, hb1⟩; have HX1 := Lib.hid (HX.out.next hb1); obtain ⟨-, -, x0, x1, x2, x3, x4⟩ := HX1.out; clear hb1)
        | (go_at_call 57; refine (HP.out _).mono ?_; rintro e w2 ⟨rfl, e2⟩; subst e2)
        | fail)
      go_ret
      exact ⟨by rw [HE.out]; rfl, HX1.out.below⟩
    · have hp' : plainB T.s = false := by simpa using hp
      have HE : Hid (inlT T = bracT T) := by
        show _ = _
        unfold inlT inlL
        rw [if_neg (fun h => hp h.2), HBT.out]
      rw [hp'] at HP
      rw [← HE.out] at HT
      clear hk hp hp' HBT HE
      go_enter Tryz.func30, Tryz.ntmps30
      go_wp2_with (first
        | (go_at_call 19; refine (HR.out _ HX.out.below).mono ?_; rintro e w1 ⟨rfl, hb1⟩; have HX1 := Lib.hid (HX.out.next hb1); obtain ⟨-, -, x0, x1, x2, x3, x4⟩ := HX1.out; clear hb1)
        | (go_at_call 57; refine (HP.out _).mono ?_; rintro e w2 ⟨rfl, e2⟩; subst e2)
        | (go_at_call 8; refine (HT.out _ HX1.out.below).mono ?_; rintro e w3 ⟨rfl, hb3⟩; have HX3 := Lib.hid (HX1.out.next hb3); clear hb3)
        | fail)
      go_ret
      exact ⟨rfl, HX3.out.below⟩
  · have e3 : (T.k == 3) = false := by simp [hk]
    have HE : Hid (inlT T = bracT T) := by
      show _ = _
      unfold inlT inlL
      rw [if_neg (fun h => hk h.1), HBT.out]
    rw [← HE.out] at HT
    clear hk HBT HE
    go_enter Tryz.func30, Tryz.ntmps30
    go_wp2_with (first
      | (go_at_call 8; refine (HT.out _ HX.out.below).mono ?_; rintro e w3 ⟨rfl, hb3⟩; have HX3 := Lib.hid (HX.out.next hb3); clear hb3)
      | fail)
    go_ret
    exact ⟨rfl, HX3.out.below⟩

/-- So many blanks. -/
def Bl (bl : ByteArray) (d : Nat) : Prop := bl.data.toList = List.replicate d 32

theorem Bl.size {bl : ByteArray} {d : Nat} (h : Bl bl d) : bl.size = d := by
  have : bl.size = bl.data.toList.length := by simp
  rw [this, h]; simp

theorem Bl.more {bl : ByteArray} {d : Nat} (h : Bl bl d) : Bl (bl ++ ⟨#[32, 32]⟩) (d + 2) := by
  unfold Bl at *
  rw [cat_list, h, List.replicate_succ', List.replicate_succ']
  simp

def WrAt (T : RT) : Prop := ∀ (w : World) (kv dv : Value) (F : List Nat) (bl : ByteArray) (d : Nat), Lies w T kv dv F → treeOk T = true → T.sz ≤ 1048576 → Bl bl d → d + 2 * T.size ≤ 1000 → T.k = 4 ∨ T.k = 5 →
  Calls Tryz.prog 29 #[.agg #[.int .i64 T.k, .int .i64 T.n, .string T.s, kv, dv], .string bl] w fun e w' => e = .returned (.string ⟨(T.lines d).toArray⟩) ∧ Below w.heap.size w w'

set_option maxRecDepth 100000 in
set_option maxHeartbeats 2000000 in
theorem write4 (n : Int) (s : ByteArray) (keys : List ByteArray) (kids : List RT) (ih : ∀ t ∈ kids, WrAt t) (w : World) (kv dv : Value) (FD : List Nat) (hD : KidsLie w dv kids FD) (bl : ByteArray) (d : Nat) (hok0 : treeOk (RT.node 4 n s keys kids) = true) (hsz0 : (RT.node 4 n s keys kids).sz ≤ 1048576) (hbl0 : Bl bl d) (hd0 : d + 2 * (RT.node 4 n s keys kids).size ≤ 1000) :
    Calls Tryz.prog 29 #[.agg #[.int .i64 4, .int .i64 n, .string s, kv, dv], .string bl] w fun e w' => e = .returned (.string ⟨((RT.node 4 n s keys kids).lines d).toArray⟩) ∧ Below w.heap.size w w' := by
  have hok := Lib.hid hok0
  have hsz := Lib.hid hsz0
  have hbl := Lib.hid hbl0
  have HBL : Hid (bl.data.toList = List.replicate d 32) := hbl0
  have hr := (treeOk_parts hok0).2.2
  have HT := Lib.hid (fun i => lines_take_le hr hd0 i)
  have hd : d + 2 * (sizeAll kids + 1) ≤ 1000 := hd0
  have hbz : bl.size ≤ 1000 := by rw [hbl0.size]; omega
  have hsz200 : sizeAll kids + 1 ≤ 200 := (treeOk_parts hok0).2.1
  have HLN : Hid ((RT.node 4 n s keys kids).lines d = linesAll 4 keys kids d) := by show _ = _; rw [RT.lines]
  generalize (RT.node 4 n s keys kids).lines d = LN at *
  clear hok0 hsz0 hbl0 hd0 hr
  obtain ⟨o, cap, b, off, FF, KV, DV, rfl, hlc, hcm, ho, -, hcell, hlies, -⟩ := hD
  have HX := Lib.hid (Box.start w (.int .i64 4) (.int .i64 n) (.string s) kv (.slice o kids.length cap) 27)
  have HC := Lib.hid hcell
  have HL := Lib.hid hlies
  have HO := Lib.hid ho
  clear hcell hlies ho
  unfold maxLen at hcm
  go_enter Tryz.func29, Tryz.ntmps29
  go_wp2
  go_loopw [5, 6] (fun v q wr => ∃ (j : Nat) (S : ByteArray), j ≤ kids.length ∧ v = .string S ∧ q = .int .i64 j ∧ Hid (S.data.toList = linesAll 4 keys (kids.take j) d ∧ Box w wr (.int .i64 4) (.int .i64 n) (.string s) kv (.slice o kids.length cap))) (fun _ q _ => kids.length - (intOf q).toNat)
  case atStart => exact ⟨0, _, Nat.zero_le _, rfl, rfl, by simp [linesAll], HX.out⟩
  case round =>
    obtain ⟨j, S, hj, rfl, rfl, hr⟩ := hrel
    have HS : Hid (S.data.toList = linesAll 4 keys (kids.take j) d) := hr.out.1
    have HB := Lib.hid hr.out.2
    clear hr
    obtain ⟨-, -, x0, x1, x2, x3, x4⟩ := HB.out
    have hSz : S.size ≤ 800000 := by
      have h1 := HT.out j
      rw [size_of_list HS.out]
      omega
    by_cases hlt : j < kids.length
    · have ho := HO.out (by omega)
      subst ho
      have hlt' : (j : Int) < kids.length := by omega
      obtain ⟨c0, c1, c2, c3, c4⟩ := kid_cells (HC.out j hlt) HB.out.below
      have HN : Hid (linesAll 4 keys (kids.take (j + 1)) d = linesAll 4 keys (kids.take j) d ++ lineOf 4 ⟨#[]⟩ kids[j] d) := linesAll_take 4 d keys kids j hlt
      have HCJ := Lib.hid (HC.out j hlt)
      obtain ⟨⟨o1, q1, s1⟩, ⟨o2, q2, s2⟩⟩ := (HL.out j hlt).slices
      have hmem : kids[j] ∈ kids := List.getElem_mem hlt
      have HOk : Hid (treeOk kids[j] = true) := treeOk_kid hok.out (show kids[j] ∈ (RT.node 4 n s keys kids).kids from hmem)
      have HSz : Hid (kids[j].sz ≤ 1048576) := Nat.le_trans (sz_kid (show kids[j] ∈ (RT.node 4 n s keys kids).kids from hmem)) hsz.out
      have hzj := kid_size_le hmem
      have HKk : Hid (kids[j].kids.length ≠ 0 → kids[j].k = 4 ∨ kids[j].k = 5) := kind_of_kids (treeOk_parts HOk.out).2.2
      have HWr : Hid (kids[j].kids.length ≠ 0 → ∀ w1 : World, Below w.heap.size w w1 → Calls Tryz.prog 29 #[.agg #[.int .i64 kids[j].k, .int .i64 kids[j].n, .string kids[j].s, KV j, DV j], .string (bl ++ ⟨#[32, 32]⟩)] w1 fun e w' => e = .returned (.string ⟨(kids[j].lines (d + 2)).toArray⟩) ∧ Below w1.heap.size w1 w') := fun h0 w1 hb1 => ih _ hmem w1 _ _ _ _ _ ((HL.out j hlt).stay hb1 (Nat.le_refl _)) HOk.out HSz.out hbl.out.more (by omega) (HKk.out h0)
      have HInl : Hid (∀ w1 : World, Below w.heap.size w w1 → Calls Tryz.prog 30 #[.agg #[.int .i64 kids[j].k, .int .i64 kids[j].n, .string kids[j].s, KV j, DV j]] w1 fun e w' => e = .returned (.string (inlT kids[j])) ∧ Below w1.heap.size w1 w') := fun w1 hb1 => spec_inline _ w1 _ _ _ ((HL.out j hlt).stay hb1 (Nat.le_refl _)) HOk.out HSz.out
      have HLz : Hid ((kids[j].lines (d + 2)).length ≤ 800000 ∧ (inlL kids[j]).length ≤ 800000) := by
        have h1 := lines_le kids[j] (d + 2) (treeOk_parts HOk.out).2.2 (by omega)
        have h2 := inlL_length (treeOk_parts HOk.out).2.2
        refine ⟨by omega, by omega⟩
      clear hzj hmem HOk HSz
      generalize kids[j] = x at *
      generalize KV j = v1 at *
      generalize DV j = v2 at *
      subst s1 s2
      by_cases hx0 : x.kids.length = 0
      · have HBk := Lib.hid (spec_block_no x.k x.n x.s (.slice o1 x.keys.length q1) o2 q2)
        have HIn := HInl
        have HZ : Hid ((inlT x).size ≤ 800000) := HLz.out.2
        have HX0 := Lib.hid hx0
        rw [hx0] at HInl HIn HCJ c4
        clear hx0 HKk HWr HLz
        go_wp2_with fail
        refine (HBk.out _).mono ?_
        rintro e w2 ⟨rfl, hb2⟩
        have HB2 := Lib.hid (HB.out.next hb2)
        clear hb2 x0 x1 x2 x3 x4 c0 c1 c2 c3 c4
        obtain ⟨-, -, x0, x1, x2, x3, x4⟩ := HB2.out
        obtain ⟨c0, c1, c2, c3, c4⟩ := kid_cells HCJ.out HB2.out.below
        go_wp2_with fail
        refine (HIn.out _ HB2.out.below).mono ?_
        rintro e w3 ⟨rfl, hb3⟩
        have HB3 := Lib.hid (HB2.out.next hb3)
        clear hb3 x0 x1 x2 x3 x4 c0 c1 c2 c3 c4
        obtain ⟨-, -, x0, x1, x2, x3, x4⟩ := HB3.out
        generalize hX : inlT x = X at *
        have hXz : X.size ≤ 800000 := HZ.out
        have HXX : Hid (X.data.toList = inlL x) := by show _ = _; subst hX; rfl
        clear hX
        go_wp2
        refine ⟨⟨j + 1, _, hlt, rfl, by go_num, ?_, HB3.out⟩, by simp [intOf]; omega⟩
        rw [HN.out]
        simp only [cat_list, HS.out, HXX.out, HBL.out, lineOf, headL]
        rw [if_pos HX0.out]
        simp
      · have HBk := Lib.hid (spec_block_yes x.k x.n (HKk.out hx0) x.s (.slice o1 x.keys.length q1) o2 x.kids.length q2 hx0)
        have HIn := Lib.hid (HWr.out hx0)
        have HZ : Hid ((⟨(x.lines (d + 2)).toArray⟩ : ByteArray).size ≤ 800000) := HLz.out.1
        have HX0 := Lib.hid hx0
        clear hx0 HKk HInl HLz
        go_wp2_with fail
        refine (HBk.out _).mono ?_
        rintro e w2 ⟨rfl, hb2⟩
        have HB2 := Lib.hid (HB.out.next hb2)
        clear hb2 x0 x1 x2 x3 x4 c0 c1 c2 c3 c4
        obtain ⟨-, -, x0, x1, x2, x3, x4⟩ := HB2.out
        obtain ⟨c0, c1, c2, c3, c4⟩ := kid_cells HCJ.out HB2.out.below
        go_wp2_with fail
        refine (HIn.out _ HB2.out.below).mono ?_
        rintro e w3 ⟨rfl, hb3⟩
        have HB3 := Lib.hid (HB2.out.next hb3)
        clear hb3 x0 x1 x2 x3 x4 c0 c1 c2 c3 c4
        obtain ⟨-, -, x0, x1, x2, x3, x4⟩ := HB3.out
        generalize hX : (⟨(x.lines (d + 2)).toArray⟩ : ByteArray) = X at *
        have hXz : X.size ≤ 800000 := HZ.out
        have HXX : Hid (X.data.toList = x.lines (d + 2)) := by show _ = _; subst hX; rfl
        clear hX
        go_wp2
        refine ⟨⟨j + 1, _, hlt, rfl, by go_num, ?_, HB3.out⟩, by simp [intOf]; omega⟩
        rw [HN.out]
        simp only [cat_list, HS.out, HXX.out, HBL.out, lineOf, headL]
        rw [if_neg HX0.out]
        simp
    · have HE : Hid (S = (⟨LN.toArray⟩ : ByteArray)) := by
        show _ = _
        refine ext_list ?_
        rw [HS.out, HLN.out, List.take_of_length_le (by omega)]
      go_wp2
      go_ret
      exact ⟨by rw [← HE.out]; rfl, HB.out.below⟩

set_option maxRecDepth 100000 in
set_option maxHeartbeats 2000000 in
theorem write5 (n : Int) (s : ByteArray) (keys : List ByteArray) (kids : List RT) (ih : ∀ t ∈ kids, WrAt t) (w : World) (kv dv : Value) (FK FD : List Nat) (hK : StrsAt w kv keys FK) (hD : KidsLie w dv kids FD) (bl : ByteArray) (d : Nat) (hok0 : treeOk (RT.node 5 n s keys kids) = true) (hsz0 : (RT.node 5 n s keys kids).sz ≤ 1048576) (hbl0 : Bl bl d) (hd0 : d + 2 * (RT.node 5 n s keys kids).size ≤ 1000) :
    Calls Tryz.prog 29 #[.agg #[.int .i64 5, .int .i64 n, .string s, kv, dv], .string bl] w fun e w' => e = .returned (.string ⟨((RT.node 5 n s keys kids).lines d).toArray⟩) ∧ Below w.heap.size w w' := by
  have hok := Lib.hid hok0
  have hsz := Lib.hid hsz0
  have hbl := Lib.hid hbl0
  have HBL : Hid (bl.data.toList = List.replicate d 32) := hbl0
  have hr := (treeOk_parts hok0).2.2
  have HT := Lib.hid (fun i => lines_take_le hr hd0 i)
  have hd : d + 2 * (sizeAll kids + 1) ≤ 1000 := hd0
  have hbz : bl.size ≤ 1000 := by rw [hbl0.size]; omega
  have hsz200 : sizeAll kids + 1 ≤ 200 := (treeOk_parts hok0).2.1
  have hkl : keys.length = kids.length := by
    have := (right_out hr).1
    simp only [HeadOk, RT.k, RT.n, RT.s, RT.keys, RT.kids] at this
    omega
  have HLN : Hid ((RT.node 5 n s keys kids).lines d = linesAll 5 keys kids d) := by show _ = _; rw [RT.lines]
  generalize (RT.node 5 n s keys kids).lines d = LN at *
  clear hok0 hsz0 hbl0 hd0 hr
  obtain ⟨o, cap, b, off, FF, KV, DV, rfl, hlc, hcm, ho, -, hcell, hlies, -⟩ := hD
  obtain ⟨ko, kcap, kb, koff, rfl, hklc, hkcm, hko, -, hkcell, -⟩ := hK
  have HKC := Lib.hid hkcell
  have HKO := Lib.hid hko
  clear hkcell hko
  rw [hkl] at hklc ⊢
  have HX := Lib.hid (Box.start w (.int .i64 5) (.int .i64 n) (.string s) (.slice ko kids.length kcap) (.slice o kids.length cap) 27)
  unfold maxLen at hkcm
  have HKL : Hid (keys.length = kids.length) := hkl
  clear hkl
  have HC := Lib.hid hcell
  have HL := Lib.hid hlies
  have HO := Lib.hid ho
  clear hcell hlies ho
  unfold maxLen at hcm
  go_enter Tryz.func29, Tryz.ntmps29
  go_wp2
  go_loopw [5, 6] (fun v q wr => ∃ (j : Nat) (S : ByteArray), j ≤ kids.length ∧ v = .string S ∧ q = .int .i64 j ∧ Hid (S.data.toList = linesAll 5 keys (kids.take j) d ∧ Box w wr (.int .i64 5) (.int .i64 n) (.string s) (.slice ko kids.length kcap) (.slice o kids.length cap))) (fun _ q _ => kids.length - (intOf q).toNat)
  case atStart => exact ⟨0, _, Nat.zero_le _, rfl, rfl, by simp [linesAll], HX.out⟩
  case round =>
    obtain ⟨j, S, hj, rfl, rfl, hr⟩ := hrel
    have HS : Hid (S.data.toList = linesAll 5 keys (kids.take j) d) := hr.out.1
    have HB := Lib.hid hr.out.2
    clear hr
    obtain ⟨-, -, x0, x1, x2, x3, x4⟩ := HB.out
    have hSz : S.size ≤ 800000 := by
      have h1 := HT.out j
      rw [size_of_list HS.out]
      omega
    by_cases hlt : j < kids.length
    · have ho := HO.out (by omega)
      subst ho
      have hlt' : (j : Int) < kids.length := by omega
      obtain ⟨c0, c1, c2, c3, c4⟩ := kid_cells (HC.out j hlt) HB.out.below
      have hkj : j < keys.length := by rw [HKL.out]; exact hlt
      have HN : Hid (linesAll 5 keys (kids.take (j + 1)) d = linesAll 5 keys (kids.take j) d ++ lineOf 5 keys[j] kids[j] d) := by
        have := linesAll_take 5 d keys kids j hlt
        rw [key_at hkj] at this
        exact this
      obtain ⟨d0, dz⟩ := HKC.out j hkj
      have d1 : wr.cell? ⟨kb, koff + j, none⟩ = some (.string keys[j]) := by
        rw [HB.out.below.cell (by exact World.block_lt_of_cell? _ _ d0)]; exact d0
      have HD0 : Hid (∀ w2 : World, Below w.heap.size w w2 → w2.cell? ⟨kb, koff + j, none⟩ = some (.string keys[j])) := fun w2 hb => by
        rw [hb.cell (by exact World.block_lt_of_cell? _ _ d0)]; exact d0
      have HQ := Lib.hid (spec_quote keys[j] dz)
      have HQZ := Lib.hid (quoteT_length keys[j])
      have HPl := Lib.hid (spec_plainOk keys[j] dz)
      have hko := HKO.out (by omega)
      subst hko
      clear d0 dz
      have HCJ := Lib.hid (HC.out j hlt)
      obtain ⟨⟨o1, q1, s1⟩, ⟨o2, q2, s2⟩⟩ := (HL.out j hlt).slices
      have hmem : kids[j] ∈ kids := List.getElem_mem hlt
      have HOk : Hid (treeOk kids[j] = true) := treeOk_kid hok.out (show kids[j] ∈ (RT.node 5 n s keys kids).kids from hmem)
      have HSz : Hid (kids[j].sz ≤ 1048576) := Nat.le_trans (sz_kid (show kids[j] ∈ (RT.node 5 n s keys kids).kids from hmem)) hsz.out
      have hzj := kid_size_le hmem
      have HKk : Hid (kids[j].kids.length ≠ 0 → kids[j].k = 4 ∨ kids[j].k = 5) := kind_of_kids (treeOk_parts HOk.out).2.2
      have HWr : Hid (kids[j].kids.length ≠ 0 → ∀ w1 : World, Below w.heap.size w w1 → Calls Tryz.prog 29 #[.agg #[.int .i64 kids[j].k, .int .i64 kids[j].n, .string kids[j].s, KV j, DV j], .string (bl ++ ⟨#[32, 32]⟩)] w1 fun e w' => e = .returned (.string ⟨(kids[j].lines (d + 2)).toArray⟩) ∧ Below w1.heap.size w1 w') := fun h0 w1 hb1 => ih _ hmem w1 _ _ _ _ _ ((HL.out j hlt).stay hb1 (Nat.le_refl _)) HOk.out HSz.out hbl.out.more (by omega) (HKk.out h0)
      have HInl : Hid (∀ w1 : World, Below w.heap.size w w1 → Calls Tryz.prog 30 #[.agg #[.int .i64 kids[j].k, .int .i64 kids[j].n, .string kids[j].s, KV j, DV j]] w1 fun e w' => e = .returned (.string (inlT kids[j])) ∧ Below w1.heap.size w1 w') := fun w1 hb1 => spec_inline _ w1 _ _ _ ((HL.out j hlt).stay hb1 (Nat.le_refl _)) HOk.out HSz.out
      have HLz : Hid ((kids[j].lines (d + 2)).length ≤ 800000 ∧ (inlL kids[j]).length ≤ 800000) := by
        have h1 := lines_le kids[j] (d + 2) (treeOk_parts HOk.out).2.2 (by omega)
        have h2 := inlL_length (treeOk_parts HOk.out).2.2
        refine ⟨by omega, by omega⟩
      clear hzj hmem HOk HSz
      generalize kids[j] = x at *
      generalize KV j = v1 at *
      generalize DV j = v2 at *
      subst s1 s2
      generalize keys[j] = y at *
      clear hkj
      by_cases hx0 : x.kids.length = 0
      · have HBk := Lib.hid (spec_block_no x.k x.n x.s (.slice o1 x.keys.length q1) o2 q2)
        have HIn := HInl
        have HZ : Hid ((inlT x).size ≤ 800000) := HLz.out.2
        have HX0 := Lib.hid hx0
        rw [hx0] at HInl HIn HCJ c4
        clear hx0 HKk HWr HLz
        go_wp2_with fail
        refine (HQ.out _).mono ?_
        rintro e w1 ⟨rfl, hb1⟩
        have HBq := Lib.hid (HB.out.next hb1)
        clear hb1 x0 x1 x2 x3 x4 c0 c1 c2 c3 c4 d1
        obtain ⟨-, -, x0, x1, x2, x3, x4⟩ := HBq.out
        have d1 := HD0.out _ HBq.out.below
        obtain ⟨c0, c1, c2, c3, c4⟩ := kid_cells HCJ.out HBq.out.below
        generalize hY : quoteT y = Y at *
        have hYz : Y.size ≤ 802 := by have := HQZ.out; simpa using this
        have HYY : Hid (Y = quoteT y) := hY.symm
        clear hY
        by_cases hp : plainB y = true
        · have HH : Hid (headL 5 y = y.data.toList ++ [58]) := by show _ = _; simp [headL, keyL, hp]
          have hyz : y.size ≤ 60 := plainB_le hp
          rw [hp] at HPl
          clear hp
          go_wp2_with (first
            | (go_at_call 57; refine (HPl.out _).mono ?_; rintro e w9 ⟨rfl, e9⟩; subst e9; refine Hid.out ?_)
            | fail)
          refine Lib.hid ?_
          go_wp2_with fail
          refine (HBk.out _).mono ?_
          rintro e w2 ⟨rfl, hb2⟩
          have HB2 := Lib.hid (HBq.out.next hb2)
          clear hb2 x0 x1 x2 x3 x4 c0 c1 c2 c3 c4
          obtain ⟨-, -, x0, x1, x2, x3, x4⟩ := HB2.out
          obtain ⟨c0, c1, c2, c3, c4⟩ := kid_cells HCJ.out HB2.out.below
          go_wp2_with fail
          refine (HIn.out _ HB2.out.below).mono ?_
          rintro e w3 ⟨rfl, hb3⟩
          have HB3 := Lib.hid (HB2.out.next hb3)
          clear hb3 x0 x1 x2 x3 x4 c0 c1 c2 c3 c4
          obtain ⟨-, -, x0, x1, x2, x3, x4⟩ := HB3.out
          generalize hX : inlT x = X at *
          have hXz : X.size ≤ 800000 := HZ.out
          have HXX : Hid (X.data.toList = inlL x) := by show _ = _; subst hX; rfl
          clear hX
          go_wp2
          refine ⟨⟨j + 1, _, hlt, rfl, by go_num, ?_, HB3.out⟩, by simp [intOf]; omega⟩
          rw [HN.out]
          simp only [cat_list, HS.out, HXX.out, HBL.out, lineOf, HH.out]
          rw [if_pos HX0.out]
          simp
        · have hp' : plainB y = false := by simpa using hp
          have HH : Hid (headL 5 y = Y.data.toList ++ [58]) := by show _ = _; rw [HYY.out]; simp [headL, keyL, hp]
          rw [hp'] at HPl
          clear hp hp'
          go_wp2_with (first
            | (go_at_call 57; refine (HPl.out _).mono ?_; rintro e w9 ⟨rfl, e9⟩; subst e9; refine Hid.out ?_)
            | fail)
          refine Lib.hid ?_
          go_wp2_with fail
          refine (HBk.out _).mono ?_
          rintro e w2 ⟨rfl, hb2⟩
          have HB2 := Lib.hid (HBq.out.next hb2)
          clear hb2 x0 x1 x2 x3 x4 c0 c1 c2 c3 c4
          obtain ⟨-, -, x0, x1, x2, x3, x4⟩ := HB2.out
          obtain ⟨c0, c1, c2, c3, c4⟩ := kid_cells HCJ.out HB2.out.below
          go_wp2_with fail
          refine (HIn.out _ HB2.out.below).mono ?_
          rintro e w3 ⟨rfl, hb3⟩
          have HB3 := Lib.hid (HB2.out.next hb3)
          clear hb3 x0 x1 x2 x3 x4 c0 c1 c2 c3 c4
          obtain ⟨-, -, x0, x1, x2, x3, x4⟩ := HB3.out
          generalize hX : inlT x = X at *
          have hXz : X.size ≤ 800000 := HZ.out
          have HXX : Hid (X.data.toList = inlL x) := by show _ = _; subst hX; rfl
          clear hX
          go_wp2
          refine ⟨⟨j + 1, _, hlt, rfl, by go_num, ?_, HB3.out⟩, by simp [intOf]; omega⟩
          rw [HN.out]
          simp only [cat_list, HS.out, HXX.out, HBL.out, lineOf, HH.out]
          rw [if_pos HX0.out]
          simp
      · have HBk := Lib.hid (spec_block_yes x.k x.n (HKk.out hx0) x.s (.slice o1 x.keys.length q1) o2 x.kids.length q2 hx0)
        have HIn := Lib.hid (HWr.out hx0)
        have HZ : Hid ((⟨(x.lines (d + 2)).toArray⟩ : ByteArray).size ≤ 800000) := HLz.out.1
        have HX0 := Lib.hid hx0
        clear hx0 HKk HInl HLz
        go_wp2_with fail
        refine (HQ.out _).mono ?_
        rintro e w1 ⟨rfl, hb1⟩
        have HBq := Lib.hid (HB.out.next hb1)
        clear hb1 x0 x1 x2 x3 x4 c0 c1 c2 c3 c4 d1
        obtain ⟨-, -, x0, x1, x2, x3, x4⟩ := HBq.out
        have d1 := HD0.out _ HBq.out.below
        obtain ⟨c0, c1, c2, c3, c4⟩ := kid_cells HCJ.out HBq.out.below
        generalize hY : quoteT y = Y at *
        have hYz : Y.size ≤ 802 := by have := HQZ.out; simpa using this
        have HYY : Hid (Y = quoteT y) := hY.symm
        clear hY
        by_cases hp : plainB y = true
        · have HH : Hid (headL 5 y = y.data.toList ++ [58]) := by show _ = _; simp [headL, keyL, hp]
          have hyz : y.size ≤ 60 := plainB_le hp
          rw [hp] at HPl
          clear hp
          go_wp2_with (first
            | (go_at_call 57; refine (HPl.out _).mono ?_; rintro e w9 ⟨rfl, e9⟩; subst e9; refine Hid.out ?_)
            | fail)
          refine Lib.hid ?_
          go_wp2_with fail
          refine (HBk.out _).mono ?_
          rintro e w2 ⟨rfl, hb2⟩
          have HB2 := Lib.hid (HBq.out.next hb2)
          clear hb2 x0 x1 x2 x3 x4 c0 c1 c2 c3 c4
          obtain ⟨-, -, x0, x1, x2, x3, x4⟩ := HB2.out
          obtain ⟨c0, c1, c2, c3, c4⟩ := kid_cells HCJ.out HB2.out.below
          go_wp2_with fail
          refine (HIn.out _ HB2.out.below).mono ?_
          rintro e w3 ⟨rfl, hb3⟩
          have HB3 := Lib.hid (HB2.out.next hb3)
          clear hb3 x0 x1 x2 x3 x4 c0 c1 c2 c3 c4
          obtain ⟨-, -, x0, x1, x2, x3, x4⟩ := HB3.out
          generalize hX : (⟨(x.lines (d + 2)).toArray⟩ : ByteArray) = X at *
          have hXz : X.size ≤ 800000 := HZ.out
          have HXX : Hid (X.data.toList = x.lines (d + 2)) := by show _ = _; subst hX; rfl
          clear hX
          go_wp2
          refine ⟨⟨j + 1, _, hlt, rfl, by go_num, ?_, HB3.out⟩, by simp [intOf]; omega⟩
          rw [HN.out]
          simp only [cat_list, HS.out, HXX.out, HBL.out, lineOf, HH.out]
          rw [if_neg HX0.out]
          simp
        · have hp' : plainB y = false := by simpa using hp
          have HH : Hid (headL 5 y = Y.data.toList ++ [58]) := by show _ = _; rw [HYY.out]; simp [headL, keyL, hp]
          rw [hp'] at HPl
          clear hp hp'
          go_wp2_with (first
            | (go_at_call 57; refine (HPl.out _).mono ?_; rintro e w9 ⟨rfl, e9⟩; subst e9; refine Hid.out ?_)
            | fail)
          refine Lib.hid ?_
          go_wp2_with fail
          refine (HBk.out _).mono ?_
          rintro e w2 ⟨rfl, hb2⟩
          have HB2 := Lib.hid (HBq.out.next hb2)
          clear hb2 x0 x1 x2 x3 x4 c0 c1 c2 c3 c4
          obtain ⟨-, -, x0, x1, x2, x3, x4⟩ := HB2.out
          obtain ⟨c0, c1, c2, c3, c4⟩ := kid_cells HCJ.out HB2.out.below
          go_wp2_with fail
          refine (HIn.out _ HB2.out.below).mono ?_
          rintro e w3 ⟨rfl, hb3⟩
          have HB3 := Lib.hid (HB2.out.next hb3)
          clear hb3 x0 x1 x2 x3 x4 c0 c1 c2 c3 c4
          obtain ⟨-, -, x0, x1, x2, x3, x4⟩ := HB3.out
          generalize hX : (⟨(x.lines (d + 2)).toArray⟩ : ByteArray) = X at *
          have hXz : X.size ≤ 800000 := HZ.out
          have HXX : Hid (X.data.toList = x.lines (d + 2)) := by show _ = _; subst hX; rfl
          clear hX
          go_wp2
          refine ⟨⟨j + 1, _, hlt, rfl, by go_num, ?_, HB3.out⟩, by simp [intOf]; omega⟩
          rw [HN.out]
          simp only [cat_list, HS.out, HXX.out, HBL.out, lineOf, HH.out]
          rw [if_neg HX0.out]
          simp
    · have HE : Hid (S = (⟨LN.toArray⟩ : ByteArray)) := by
        show _ = _
        refine ext_list ?_
        rw [HS.out, HLN.out, List.take_of_length_le (by omega)]
      go_wp2
      go_ret
      exact ⟨by rw [← HE.out]; rfl, HB.out.below⟩

theorem spec_write (T : RT) : WrAt T := by
  induction T using RT.ind with
  | h k n s keys kids ih =>
    intro w kv dv F bl d hl hok hsz hbl hd hk
    obtain ⟨-, -, hs, FK, FD, hK, hD, -⟩ := hl.outn
    rcases hk with hk | hk
    · have hk' : k = 4 := hk
      subst hk'
      exact write4 n s keys kids ih w kv dv FD hD bl d hok hsz hbl hd
    · have hk' : k = 5 := hk
      subst hk'
      exact write5 n s keys kids ih w kv dv FK FD hK hD bl d hok hsz hbl hd

/-- What Indented answers. -/
noncomputable def indT (T : RT) : ByteArray := if treeOk T = true then (if T.kids.length = 0 then ⟨(inlL T ++ [10]).toArray⟩ else ⟨(T.lines 0).toArray⟩) else ⟨#[]⟩

set_option maxRecDepth 100000 in
set_option maxHeartbeats 400000 in
theorem spec_indented (T : RT) (w : World) (kv dv : Value) (F : List Nat) (hl : Lies w T kv dv F) (hsz : T.sz ≤ 1048576) :
    Calls Tryz.prog 13 #[.agg #[.int .i64 T.k, .int .i64 T.n, .string T.s, kv, dv]] w fun e w' => e = .returned (.string (indT T)) ∧ Below w.heap.size w w' := by
  have HX := Lib.hid (Box.start w (.int .i64 T.k) (.int .i64 T.n) (.string T.s) kv dv 27)
  have HR := Lib.hid (fun wr hb => spec_treeOk T wr kv dv F (hl.stay hb (Nat.le_refl _)) hsz)
  have HI := Lib.hid (fun wr hb hok => spec_inline T wr kv dv F (hl.stay hb (Nat.le_refl _)) hok hsz)
  have HW := Lib.hid (fun wr hb hok hd hk => spec_write T wr kv dv F ⟨#[]⟩ 0 (hl.stay hb (Nat.le_refl _)) hok hsz rfl hd hk)
  obtain ⟨⟨o1, c1, rfl⟩, ⟨o2, c2, rfl⟩⟩ := hl.slices
  clear hl hsz
  by_cases hok : treeOk T = true
  · have HO := Lib.hid hok
    have HP := Lib.hid (treeOk_parts hok)
    rw [hok] at HR
    by_cases h0 : T.kids.length = 0
    · have HE : Hid (indT T = inlT T ++ ⟨#[10]⟩) := by
        show _ = _
        unfold indT inlT
        rw [if_pos hok, if_pos h0]
        symm
        refine ext_list ?_
        rw [cat_list]
      have hz : (inlT T).size ≤ 800000 := by
        have := inlL_length HP.out.2.2
        have h2 := HP.out.2.1
        show (inlL T).length ≤ _
        omega
      rw [h0] at HX HR HI
      have HBk := Lib.hid (spec_block_no T.k T.n T.s (.slice o1 T.keys.length c1) o2 c2)
      clear hok HW
      rw [h0]
      clear h0
      generalize inlT T = X at *
      go_enter Tryz.func13, Tryz.ntmps13
      go_wp2_with (first
        | (go_at_call 19; refine (HR.out _ HX.out.below).mono ?_; rintro e w1 ⟨rfl, hb1⟩; have HX1 := Lib.hid (HX.out.next hb1); obtain ⟨-, -, x0, x1, x2, x3, x4⟩ := HX1.out; clear hb1)
        | (go_at_call 28; refine (HBk.out _).mono ?_; rintro e w2 ⟨rfl, hb2⟩; have HX2 := Lib.hid (HX1.out.next hb2); clear hb2 x0 x1 x2 x3 x4; obtain ⟨-, -, x0, x1, x2, x3, x4⟩ := HX2.out)
        | (go_at_call 30; refine (HI.out _ HX2.out.below HO.out).mono ?_; rintro e w3 ⟨rfl, hb3⟩; have HX3 := Lib.hid (HX2.out.next hb3); clear hb3)
        | fail)
      go_ret
      exact ⟨by rw [HE.out]; rfl, HX3.out.below⟩
    · have HE : Hid (indT T = ⟨(T.lines 0).toArray⟩) := by
        show _ = _
        unfold indT
        rw [if_pos hok, if_neg h0]
      have HBk := Lib.hid (spec_block_yes T.k T.n (kind_of_kids HP.out.2.2 h0) T.s (.slice o1 T.keys.length c1) o2 T.kids.length c2 h0)
      have HWr := Lib.hid (fun wr hb => HW.out wr hb hok (by have := HP.out.2.1; omega) (kind_of_kids HP.out.2.2 h0))
      clear hok h0 HW HI
      go_enter Tryz.func13, Tryz.ntmps13
      go_wp2_with (first
        | (go_at_call 19; refine (HR.out _ HX.out.below).mono ?_; rintro e w1 ⟨rfl, hb1⟩; have HX1 := Lib.hid (HX.out.next hb1); obtain ⟨-, -, x0, x1, x2, x3, x4⟩ := HX1.out; clear hb1)
        | (go_at_call 28; refine (HBk.out _).mono ?_; rintro e w2 ⟨rfl, hb2⟩; have HX2 := Lib.hid (HX1.out.next hb2); clear hb2 x0 x1 x2 x3 x4; obtain ⟨-, -, x0, x1, x2, x3, x4⟩ := HX2.out)
        | (go_at_call 29; refine (HWr.out _ HX2.out.below).mono ?_; rintro e w3 ⟨rfl, hb3⟩; have HX3 := Lib.hid (HX2.out.next hb3); clear hb3)
        | fail)
      go_ret
      exact ⟨by rw [HE.out]; rfl, HX3.out.below⟩
  · have HE : Hid (indT T = ⟨#[]⟩) := if_neg hok
    have hok' : treeOk T = false := by simpa using hok
    rw [hok'] at HR
    clear hok hok'
    go_enter Tryz.func13, Tryz.ntmps13
    go_wp2_with (first
      | (go_at_call 19; refine (HR.out _ HX.out.below).mono ?_; rintro e w1 ⟨rfl, hb1⟩; have HX1 := Lib.hid (HX.out.next hb1); clear hb1)
      | fail)
    go_ret
    exact ⟨by rw [HE.out]; rfl, HX1.out.below⟩
end Go.Proofs.YtmcjghhmcmkomaaGreatDoor
