/-
  What is proved: mergeMaps as far as its loop.; mergeMaps and mergeSpots of every tree, by the trees' make.; the program's Merge of three right maps: what it answers keeps what the one left as it was.
-/
import Derived.Test.YtelpkcbbipianaaGreatPartBA
import Derived.Test.YtelpkcbbipianaaGreatPartBD
import Derived.ScopeJumps
import Derived.WalkMore
import Derived.Deep.CutRange
import Derived.Deep.RegionHeld3
import Derived.Test.YtelpkcbbipianaaGreatPartAB
/- mergeMaps as far as its loop. -/
namespace Go.Proofs.YtelpkcbbipianaaGreat
open Go Go.RowKit Go.Maps

/-- mergeMaps' own boxes. -/
structure R0 (w wr : World) (A B C : RT) (k1 d1 k2 d2 k3 d3 : Value) : Prop where
  below : Below w.heap.size w wr
  size : w.heap.size + 4 ≤ wr.heap.size
  b0 : wr.heap[w.heap.size]? = some (.cells #[.int .i64 A.k, .int .i64 A.n, .string A.s, k1, d1] 27 (0, 0))
  b1 : wr.heap[w.heap.size + 1]? = some (.cells #[.int .i64 B.k, .int .i64 B.n, .string B.s, k2, d2] 27 (0, 0))
  b2 : wr.heap[w.heap.size + 1 + 1]? = some (.cells #[.int .i64 C.k, .int .i64 C.n, .string C.s, k3, d3] 27 (0, 0))
  b3 : wr.heap[w.heap.size + 1 + 1 + 1]? = some (.cells #[.int .i64 0, .int .i64 0, .string ⟨#[]⟩, .slice none 0 0, .slice none 0 0] 27 (0, 0))

theorem R0.next {w wr w' : World} {A B C : RT} {k1 d1 k2 d2 k3 d3 : Value} (h : R0 w wr A B C k1 d1 k2 d2 k3 d3) (hb : Below wr.heap.size wr w') : R0 w w' A B C k1 d1 k2 d2 k3 d3 := by
  have hs := h.size
  exact ⟨h.below.trans (hb.mono (by omega)), Nat.le_trans hs hb.size, (hb.block _ (by omega)).trans h.b0, (hb.block _ (by omega)).trans h.b1, (hb.block _ (by omega)).trans h.b2, (hb.block _ (by omega)).trans h.b3⟩

theorem R0.start (w : World) (A B C : RT) (k1 d1 k2 d2 k3 d3 : Value) :
    R0 w ((((w.alloc (.cells #[.int .i64 A.k, .int .i64 A.n, .string A.s, k1, d1] 27)).alloc (.cells #[.int .i64 B.k, .int .i64 B.n, .string B.s, k2, d2] 27)).alloc (.cells #[.int .i64 C.k, .int .i64 C.n, .string C.s, k3, d3] 27)).alloc (.cells #[.int .i64 0, .int .i64 0, .string ⟨#[]⟩, .slice none 0 0, .slice none 0 0] 27)) A B C k1 d1 k2 d2 k3 d3 := by
  have e (w : World) (o o' : Obj) (i : Nat) (h : i < w.heap.size) : (w.alloc o).heap[i]? = w.heap[i]? := Below.heap_alloc _ _ _ h
  refine ⟨((((Below.refl _ w).alloc (Nat.le_refl _) _).alloc (by simp) _).alloc (by simp; omega) _).alloc (by simp; omega) _, by simp, ?_, ?_, ?_, ?_⟩
  · rw [Below.heap_alloc _ _ _ (by simp; omega), Below.heap_alloc _ _ _ (by simp; omega), Below.heap_alloc _ _ _ (by simp)]
    exact heap_last _ _
  · rw [Below.heap_alloc _ _ _ (by simp), Below.heap_alloc _ _ _ (by simp)]
    have := heap_last (w.alloc (.cells #[.int .i64 A.k, .int .i64 A.n, .string A.s, k1, d1] 27)) (.cells #[.int .i64 B.k, .int .i64 B.n, .string B.s, k2, d2] 27)
    simpa using this
  · rw [Below.heap_alloc _ _ _ (by simp)]
    have := heap_last ((w.alloc (.cells #[.int .i64 A.k, .int .i64 A.n, .string A.s, k1, d1] 27)).alloc (.cells #[.int .i64 B.k, .int .i64 B.n, .string B.s, k2, d2] 27)) (.cells #[.int .i64 C.k, .int .i64 C.n, .string C.s, k3, d3] 27)
    simpa using this
  · have := heap_last (((w.alloc (.cells #[.int .i64 A.k, .int .i64 A.n, .string A.s, k1, d1] 27)).alloc (.cells #[.int .i64 B.k, .int .i64 B.n, .string B.s, k2, d2] 27)).alloc (.cells #[.int .i64 C.k, .int .i64 C.n, .string C.s, k3, d3] 27)) (.cells #[.int .i64 0, .int .i64 0, .string ⟨#[]⟩, .slice none 0 0, .slice none 0 0] 27)
    simpa using this


/-- A map of the Kids of one tree. -/
structure M1 (w wr : World) (b : Nat) (A : RT) (F : List Nat) : Prop where
  ge : w.heap.size + 4 ≤ b
  own : ∃ (n : Nat) (D : DV), wr.ownsMap Tryz.prog 9 heldV b n D ∧ MapIs wr D A.at fun y => (y ∈ F ∨ w.heap.size + 4 ≤ y) ∧ y < wr.heap.size

theorem M1.next {w wr w' : World} {b : Nat} {A : RT} {F : List Nat} (h : M1 w wr b A F) (hb : Below wr.heap.size wr w') : M1 w w' b A F := by
  obtain ⟨n, D, h1, h2⟩ := h.own
  exact ⟨h.ge, n, D, owns_map_below h1 hb, h2.carry fun y hy hl => ⟨hb.block y hl, hy.1, Nat.lt_of_lt_of_le hl hb.size⟩⟩

theorem m1_start {w W w' : World} {A : RT} {F : List Nat} {k n : Nat} {D : DV} (hW : w.heap.size + 4 ≤ W.heap.size) (hk : w.heap.size + 4 ≤ k) (hown : w'.ownsMap Tryz.prog 9 heldV W.heap.size n D) (his : MapIs W D A.at (· ∈ k :: F)) (hb : Below W.heap.size W w') : M1 w w' W.heap.size A F :=
  ⟨hW, n, D, hown, his.carry fun y hy hl => ⟨hb.block y hl, by
    rcases List.mem_cons.1 hy with rfl | hy
    · exact .inr hk
    · exact .inl hy, Nat.lt_of_lt_of_le hl hb.size⟩⟩

theorem bel_drew {B : Nat} {a w : World} (h : Below B a w) : Below B a w.drew := below_drewN h 1
theorem bel_alloc {B : Nat} {a w : World} (h : Below B a w) (hB : B ≤ w.heap.size) (o : Obj) : Below B a (w.alloc o) := h.alloc hB o

theorem heap_at {w : World} {o : Obj} {k : Nat} (h : k = w.heap.size) : (w.alloc o).heap[k]? = some o := h ▸ heap_last w o

theorem R0.s15 {w W : World} {A B C : RT} {k1 d1 k2 d2 k3 d3 : Value} (h : R0 w W A B C k1 d1 k2 d2 k3 d3) :
    W.cell? ⟨w.heap.size, 0, none⟩ = some (.int .i64 A.k) ∧ W.cell? ⟨w.heap.size, 1, none⟩ = some (.int .i64 A.n) ∧ W.cell? ⟨w.heap.size, 2, none⟩ = some (.string A.s) ∧ W.cell? ⟨w.heap.size, 3, none⟩ = some k1 ∧ W.cell? ⟨w.heap.size, 4, none⟩ = some d1 ∧ W.cell? ⟨w.heap.size + 1, 0, none⟩ = some (.int .i64 B.k) ∧ W.cell? ⟨w.heap.size + 1, 1, none⟩ = some (.int .i64 B.n) ∧ W.cell? ⟨w.heap.size + 1, 2, none⟩ = some (.string B.s) ∧ W.cell? ⟨w.heap.size + 1, 3, none⟩ = some k2 ∧ W.cell? ⟨w.heap.size + 1, 4, none⟩ = some d2 ∧ W.cell? ⟨w.heap.size + 1 + 1, 0, none⟩ = some (.int .i64 C.k) ∧ W.cell? ⟨w.heap.size + 1 + 1, 1, none⟩ = some (.int .i64 C.n) ∧ W.cell? ⟨w.heap.size + 1 + 1, 2, none⟩ = some (.string C.s) ∧ W.cell? ⟨w.heap.size + 1 + 1, 3, none⟩ = some k3 ∧ W.cell? ⟨w.heap.size + 1 + 1, 4, none⟩ = some d3 := by
  obtain ⟨p0, p1, p2, p3, p4, -⟩ := five h.b0
  obtain ⟨q0, q1, q2, q3, q4, -⟩ := five h.b1
  obtain ⟨r0, r1, r2, r3, r4, -⟩ := five h.b2
  exact ⟨p0, p1, p2, p3, p4, q0, q1, q2, q3, q4, r0, r1, r2, r3, r4⟩

theorem kids_step {w w0 W : World} {A B C X : RT} {k1 d1 k2 d2 k3 d3 kv dv : Value} {F : List Nat} {k : Nat} (HR : R0 w w0 A B C k1 d1 k2 d2 k3 d3) (hW : Below w0.heap.size w0 W) (hm : X.isMap) (hs : X.sz ≤ 1000000) (hl : ∀ w', Below w.heap.size w w' → Lies w' X kv dv F)
    (hb : W.heap[k]? = some (.cells #[.int .i64 X.k, .int .i64 X.n, .string X.s, kv, dv] 27 (0, 0))) (hk : w.heap.size + 4 ≤ k) :
    Calls Tryz.prog 49 #[.slice (some ⟨k, 0, none⟩) 1 1] W fun e w' => e = .returned (.map (some W.heap.size)) ∧ Below w0.heap.size w0 w' ∧ Below W.heap.size W w' ∧ M1 w w' W.heap.size X F := by
  have hz := HR.size
  have hzW := hW.size
  refine (kids_of_one hm hs hb (hl W (HR.below.trans (hW.mono (by omega))))).mono ?_
  rintro e w' ⟨n, D, rfl, hown, his, hb', hlt⟩
  exact ⟨rfl, hW.trans (hb'.mono hzW), hb', m1_start (by omega) hk hown his hb'⟩

theorem kids_all {w wc W : World} {A B C : RT} {k1 d1 k2 d2 k3 d3 : Value} {F1 F2 F3 : List Nat} {k : Nat} (HR : R0 w wc A B C k1 d1 k2 d2 k3 d3) (hW : Below wc.heap.size wc W) (hA : A.isMap) (hB : B.isMap) (hC : C.isMap) (hs : A.sz + B.sz + C.sz ≤ 1000000)
    (hl : ∀ w', Below w.heap.size w w' → Lies w' A k1 d1 F1 ∧ Lies w' B k2 d2 F2 ∧ Lies w' C k3 d3 F3)
    (hb : W.heap[k]? = some (.cells #[.int .i64 A.k, .int .i64 A.n, .string A.s, k1, d1, .int .i64 B.k, .int .i64 B.n, .string B.s, k2, d2, .int .i64 C.k, .int .i64 C.n, .string C.s, k3, d3] 27 (0, 0))) (hk : w.heap.size + 4 ≤ k) :
    Calls Tryz.prog 49 #[.slice (some ⟨k, 0, none⟩) 3 3] W fun e w' => e = .returned (.map (some W.heap.size)) ∧ Below W.heap.size W w' ∧ ∃ (n : Nat) (D : DV), w'.ownsMap Tryz.prog 9 heldV W.heap.size n D ∧ n ≤ 1000000 ∧ MapIs w' D (firstAt [A, B, C]) (PP w F1 F2 F3 W.heap.size) := by
  have hz := HR.size
  have hzW := hW.size
  obtain ⟨l1, l2, l3⟩ := hl W (HR.below.trans (hW.mono (by omega)))
  refine (impl_kidsOf [A, B, C] W _ _ (kids_three hb l1 l2 l3) (fun T hT => by simp at hT; rcases hT with rfl | rfl | rfl <;> assumption) (by simp [szAll]; omega)).mono ?_
  rintro e w' ⟨n, D, rfl, hown, hn, his, hb', hlt⟩
  refine ⟨rfl, hb', n, D, hown, by simp [szAll] at hn; omega, his.carry fun y hy hl => ⟨hb'.block y hl, ?_, by omega⟩⟩
  have hy : y = k ∨ y ∈ F1 ∨ y ∈ F2 ∨ y ∈ F3 := by simpa [or_assoc] using hy
  rcases hy with rfl | h | h | h
  · exact .inr (.inr (.inr hk))
  · exact .inl h
  · exact .inr (.inl h)
  · exact .inr (.inr (.inl h))

theorem M1.ms {w wc w1 : World} {b bM : Nat} {A : RT} {F : List Nat} (h : M1 w wc b A F) (hb : Below wc.heap.size wc w1) (hM : wc.heap.size ≤ bM) : b ≠ bM ∧ ∃ (n : Nat) (D : DV), w1.ownsMap Tryz.prog 9 heldV b n D ∧ MapIs w1 D A.at fun y => (y ∈ F ∨ w.heap.size + 4 ≤ y) ∧ y ≠ bM := by
  obtain ⟨n, D, h1, h2⟩ := h.own
  have h3 := h1.lt
  exact ⟨by omega, n, D, owns_map_below h1 hb, h2.carry fun y hy hl => ⟨hb.block y hl, hy.1, by omega⟩⟩

theorem ms_of {w wc W w1 : World} {A B C : RT} {k1 d1 k2 d2 k3 d3 : Value} {F1 F2 F3 : List Nat} {bA bB bC : Nat} (HR : R0 w wc A B C k1 d1 k2 d2 k3 d3) (hA : M1 w wc bA A F1) (hB : M1 w wc bB B F2) (hC : M1 w wc bC C F3) (mA : A.isMap) (mB : B.isMap) (mC : C.isMap) (hz : A.sz + B.sz + C.sz ≤ 1000000)
    (hW : Below wc.heap.size wc W) {w2 : World} {nM : Nat} {DM : DV} (hM : w2.ownsMap Tryz.prog 9 heldV W.heap.size nM DM) (hn : nM ≤ 1000000) (isM : MapIs w2 DM (firstAt [A, B, C]) (PP w F1 F2 F3 W.heap.size)) (h2 : Below W.heap.size W w2) {ks : List ByteArray} {so : Option Addr} {scap : Nat} {FK : List Nat}
    (hS : StrsAt w1 (.slice so ks.length scap) ks FK) (hFK : ∀ y ∈ FK, w2.heap.size ≤ y) (hnd : ks.Nodup) (hmem : ∀ key, key ∈ ks ↔ (firstAt [A, B, C] key).isSome = true) (hlen : ks.length ≤ nM) (h3 : Below w2.heap.size w2 w1) :
    ∃ (nA nB nC : Nat) (DA DB DC : DV) (kb koff : Nat), MS w w1 A B C F1 F2 F3 bA bB bC W.heap.size nA nB nC nM DA DB DC DM ks kb koff scap ∧ (0 < ks.length → so = some ⟨kb, koff, none⟩) ∧ ks.length ≤ scap ∧ scap ≤ maxLen := by
  have hs := HR.size
  have hsW := hW.size
  have hs2 := h2.size
  have hs3 := h3.size
  have hbM := hM.lt
  have hbl : Below wc.heap.size wc w1 := (hW.trans (h2.mono hsW)).trans (h3.mono (by omega))
  obtain ⟨eA, nA, DA, oA, iA⟩ := hA.ms hbl hsW
  obtain ⟨eB, nB, DB, oB, iB⟩ := hB.ms hbl hsW
  obtain ⟨eC, nC, DC, oC, iC⟩ := hC.ms hbl hsW
  obtain ⟨so', cap', kb, koff, e, s1, s2, s3, s4, s5, -⟩ := id hS
  injection e with e1 e2 e3
  subst e1 e3
  have hR1 := HR.next hbl
  refine ⟨nA, nB, nC, DA, DB, DC, kb, koff, ⟨hR1.below, hR1.size, hR1.b3, oA, iA.carry fun y hy _ => ⟨rfl, ?_, hy.2⟩, eA, oB, iB.carry fun y hy _ => ⟨rfl, ?_, hy.2⟩, eB, oC, iC.carry fun y hy _ => ⟨rfl, ?_, hy.2⟩, eC, owns_map_below hM h3, isM.carry fun y hy hl => ⟨h3.block y hl, hy⟩, by omega, hn, s5, ⟨s1, s2⟩, fun i hi => ?_, hlen, hnd, hmem, mA, mB, mC, hz⟩, fun h => s3 (by omega), s1, s2⟩
  · rcases hy.1 with h | h
    · exact .inl h
    · exact .inr (.inr (.inr h))
  · rcases hy.1 with h | h
    · exact .inr (.inl h)
    · exact .inr (.inr (.inr h))
  · rcases hy.1 with h | h
    · exact .inr (.inr (.inl h))
    · exact .inr (.inr (.inr h))
  · have := hFK kb (by rw [s4, if_neg (by omega)]; simp)
    omega

/-- What holds at the loop's label. -/
def MJJ (w : World) (A B C : RT) (F1 F2 F3 : List Nat) (T0 T1 T2 T3 T4 T5 : Value) (a' : Act) (w' : World) : Prop :=
  ∃ (w1 : World) (bA bB bC bM nA nB nC nM : Nat) (DA DB DC DM : DV) (ks : List ByteArray) (kb koff kc : Nat), Hid (MS w w1 A B C F1 F2 F3 bA bB bC bM nA nB nC nM DA DB DC DM ks kb koff kc) ∧ MJ w w1 A B C F1 F2 F3 bA bB bC bM nM ks kb koff T0 T1 T2 T3 T4 T5 a' w'

set_option maxRecDepth 100000 in
set_option maxHeartbeats 4000000 in
theorem maps_of {A : RT} (HI : Hid (∀ key, SpotsAt (A.at key))) : MapsAt A := by
  intro B C w x1 c1 y1 d1 F1 x2 c2 y2 d2 F2 x3 c3 y3 d3 F3 lA lB lC mA mB mC hz
  have HF : Hid (∀ y, (y ∈ F1 ∨ y ∈ F2 ∨ y ∈ F3) → y < w.heap.size) := fun y hy => by
    rcases hy with h | h | h
    · exact lA.lt y h
    · exact lB.lt y h
    · exact lC.lt y h
  go_enter Tryz.func32, Tryz.ntmps32
  go_wp2
  refine wp_scope_jumps 0 (MJJ w A B C F1 F2 F3 (.agg #[.int .i64 A.k, .int .i64 A.n, .string A.s, .slice x1 A.keys.length c1, .slice y1 A.kids.length d1]) (.agg #[.int .i64 B.k, .int .i64 B.n, .string B.s, .slice x2 B.keys.length c2, .slice y2 B.kids.length d2]) (.agg #[.int .i64 C.k, .int .i64 C.n, .string C.s, .slice x3 C.keys.length c3, .slice y3 C.kids.length d3]) (.pointer (some ⟨w.heap.size, 0, none⟩)) (.pointer (some ⟨w.heap.size + 1, 0, none⟩)) (.pointer (some ⟨w.heap.size + 1 + 1, 0, none⟩))) (fun a _ => mmMu a) rfl ?first ?pass
  case pass =>
    rintro a' w' ⟨w1, bA, bB, bC, bM, nA, nB, nC, nM, DA, DB, DC, DM, ks, kb, koff, kc, HMS, i, n, D, G, vo, vc, wl, ko', cc, hML, hi, hcc, hcm, hko, hU⟩
    obtain ⟨u14, hU⟩ := hU
    obtain ⟨u15, hU⟩ := hU
    obtain ⟨u16, hU⟩ := hU
    obtain ⟨u17, hU⟩ := hU
    obtain ⟨u18, hU⟩ := hU
    obtain ⟨u19, hU⟩ := hU
    obtain ⟨u20, hU⟩ := hU
    obtain ⟨u21, hU⟩ := hU
    obtain ⟨u22, hU⟩ := hU
    obtain ⟨u23, hU⟩ := hU
    obtain ⟨u24, hU⟩ := hU
    obtain ⟨u25, hU⟩ := hU
    obtain ⟨u26, hU⟩ := hU
    obtain ⟨u27, hU⟩ := hU
    obtain ⟨u28, hU⟩ := hU
    obtain ⟨u29, hU⟩ := hU
    obtain ⟨u30, hU⟩ := hU
    obtain ⟨u31, hU⟩ := hU
    obtain ⟨u32, hU⟩ := hU
    obtain ⟨u33, hU⟩ := hU
    obtain ⟨u34, hU⟩ := hU
    obtain ⟨u35, hU⟩ := hU
    obtain ⟨u36, hU⟩ := hU
    obtain ⟨u37, hU⟩ := hU
    obtain ⟨u38, hU⟩ := hU
    obtain ⟨u39, hU⟩ := hU
    obtain ⟨u40, hU⟩ := hU
    obtain ⟨u41, hU⟩ := hU
    obtain ⟨u42, hU⟩ := hU
    obtain ⟨u43, hU⟩ := hU
    obtain ⟨u44, hU⟩ := hU
    obtain ⟨u45, hU⟩ := hU
    obtain ⟨u46, hU⟩ := hU
    obtain ⟨u47, hU⟩ := hU
    obtain ⟨u48, hU⟩ := hU
    obtain ⟨u49, hU⟩ := hU
    obtain ⟨u50, hU⟩ := hU
    obtain ⟨u51, hU⟩ := hU
    obtain ⟨u52, hU⟩ := hU
    obtain ⟨u53, hU⟩ := hU
    obtain ⟨u54, hU⟩ := hU
    obtain ⟨u55, hU⟩ := hU
    obtain ⟨u56, hU⟩ := hU
    obtain ⟨u57, hU⟩ := hU
    obtain ⟨u58, hU⟩ := hU
    obtain ⟨u59, hU⟩ := hU
    obtain ⟨u60, hU⟩ := hU
    obtain ⟨u61, hU⟩ := hU
    obtain ⟨u62, hU⟩ := hU
    obtain ⟨u63, hU⟩ := hU
    obtain ⟨u64, hU⟩ := hU
    obtain ⟨u65, hU⟩ := hU
    obtain ⟨u66, hU⟩ := hU
    obtain ⟨u67, hU⟩ := hU
    obtain ⟨u68, hU⟩ := hU
    obtain ⟨u69, hU⟩ := hU
    obtain ⟨u70, hU⟩ := hU
    obtain ⟨u71, hU⟩ := hU
    obtain ⟨u72, hU⟩ := hU
    obtain ⟨u73, hU⟩ := hU
    obtain ⟨u74, hU⟩ := hU
    obtain ⟨u75, hU⟩ := hU
    obtain ⟨u76, hU⟩ := hU
    obtain ⟨u77, hU⟩ := hU
    obtain ⟨u78, hU⟩ := hU
    obtain ⟨u79, hU⟩ := hU
    subst hU
    refine wp_seq (wp_skip ?_)
    refine wp_mono (mm_rest w w1 A B C F1 F2 F3 bA bB bC bM nA nB nC nM DA DB DC DM ks kb koff kc (.agg #[.int .i64 A.k, .int .i64 A.n, .string A.s, .slice x1 A.keys.length c1, .slice y1 A.kids.length d1]) (.agg #[.int .i64 B.k, .int .i64 B.n, .string B.s, .slice x2 B.keys.length c2, .slice y2 B.kids.length d2]) (.agg #[.int .i64 C.k, .int .i64 C.n, .string C.s, .slice x3 C.keys.length c3, .slice y3 C.kids.length d3]) (.pointer (some ⟨w.heap.size, 0, none⟩)) (.pointer (some ⟨w.heap.size + 1, 0, none⟩)) (.pointer (some ⟨w.heap.size + 1 + 1, 0, none⟩)) HMS HI HF w' i n D G vo vc wl ko' cc hML hi hcc hcm hko u14 u15 u16 u17 u18 u19 u20 u21 u22 u23 u24 u25 u26 u27 u28 u29 u30 u31 u32 u33 u34 u35 u36 u37 u38 u39 u40 u41 u42 u43 u44 u45 u46 u47 u48 u49 u50 u51 u52 u53 u54 u55 u56 u57 u58 u59 u60 u61 u62 u63 u64 u65 u66 u67 u68 u69 u70 u71 u72 u73 u74 u75 u76 u77 u78 u79) ?_
    intro e a' w' h
    cases e with
    | goto l => exact ⟨h.1, ⟨w1, bA, bB, bC, bM, nA, nB, nC, nM, DA, DB, DC, DM, ks, kb, koff, kc, HMS, h.2.1⟩, h.2.2⟩
    | _ => exact h
  go_upto_region 1 with fail
  have HR := Lib.hid (R0.start w A B C (.slice x1 A.keys.length c1) (.slice y1 A.kids.length d1) (.slice x2 B.keys.length c2) (.slice y2 B.kids.length d2) (.slice x3 C.keys.length c3) (.slice y3 C.kids.length d3))
  have HL := Lib.hid (fun (w' : World) (hb : Below w.heap.size w w') => And.intro (lA.stay hb (Nat.le_refl _)) (And.intro (lB.stay hb (Nat.le_refl _)) (lC.stay hb (Nat.le_refl _))))
  have HM := Lib.hid (And.intro mA (And.intro mB (And.intro mC hz)))
  clear lA lB lC mA mB mC hz
  have hz0 := HR.out.size
  have tk1 : True := trivial
  have tk2 : True := trivial
  have tk3 : True := trivial
  generalize ((((w.alloc (.cells #[.int .i64 A.k, .int .i64 A.n, .string A.s, .slice x1 A.keys.length c1, .slice y1 A.kids.length d1] 27)).alloc (.cells #[.int .i64 B.k, .int .i64 B.n, .string B.s, .slice x2 B.keys.length c2, .slice y2 B.kids.length d2] 27)).alloc (.cells #[.int .i64 C.k, .int .i64 C.n, .string C.s, .slice x3 C.keys.length c3, .slice y3 C.kids.length d3] 27)).alloc (.cells #[.int .i64 0, .int .i64 0, .string ⟨#[]⟩, .slice none 0 0, .slice none 0 0] 27)) = w0 at *
  obtain ⟨p0, p1, p2, p3, p4, -⟩ := five HR.out.b0
  obtain ⟨q0, q1, q2, q3, q4, -⟩ := five HR.out.b1
  obtain ⟨r0, r1, r2, r3, r4, -⟩ := five HR.out.b2
  go_cut [8, 9, 10] from 19 to 27 (fun vA vB vC wc => ∃ (bA bB bC : Nat), vA = .map (some bA) ∧ vB = .map (some bB) ∧ vC = .map (some bC) ∧ Hid (R0 w wc A B C (.slice x1 A.keys.length c1) (.slice y1 A.kids.length d1) (.slice x2 B.keys.length c2) (.slice y2 B.kids.length d2) (.slice x3 C.keys.length c3) (.slice y3 C.kids.length d3) ∧ M1 w wc bA A F1 ∧ M1 w wc bB B F2 ∧ M1 w wc bC C F3))
  case first =>
    go_region_held3 (fun w' => w'.cell? ⟨w.heap.size, 0, none⟩ = some (.int .i64 A.k) ∧ w'.cell? ⟨w.heap.size, 1, none⟩ = some (.int .i64 A.n) ∧ w'.cell? ⟨w.heap.size, 2, none⟩ = some (.string A.s) ∧ w'.cell? ⟨w.heap.size, 3, none⟩ = some (.slice x1 A.keys.length c1) ∧ w'.cell? ⟨w.heap.size, 4, none⟩ = some (.slice y1 A.kids.length d1) ∧ w'.cell? ⟨w.heap.size + 1, 0, none⟩ = some (.int .i64 B.k) ∧ w'.cell? ⟨w.heap.size + 1, 1, none⟩ = some (.int .i64 B.n) ∧ w'.cell? ⟨w.heap.size + 1, 2, none⟩ = some (.string B.s) ∧ w'.cell? ⟨w.heap.size + 1, 3, none⟩ = some (.slice x2 B.keys.length c2) ∧ w'.cell? ⟨w.heap.size + 1, 4, none⟩ = some (.slice y2 B.kids.length d2) ∧ w'.cell? ⟨w.heap.size + 1 + 1, 0, none⟩ = some (.int .i64 C.k) ∧ w'.cell? ⟨w.heap.size + 1 + 1, 1, none⟩ = some (.int .i64 C.n) ∧ w'.cell? ⟨w.heap.size + 1 + 1, 2, none⟩ = some (.string C.s) ∧ w'.cell? ⟨w.heap.size + 1 + 1, 3, none⟩ = some (.slice x3 C.keys.length c3) ∧ w'.cell? ⟨w.heap.size + 1 + 1, 4, none⟩ = some (.slice y3 C.kids.length d3)) (first | exact R0.s15 (HR.out.next (by repeat' (first | exact Below.refl _ _ | refine bel_drew ?_ | refine bel_alloc ?_ ?_ _ | (simp; done) | (simp; omega)))) | go_keep)
      (first
        | (go_at_call 49; have _t := tk1; refine (kids_step (X := A) (kv := .slice x1 A.keys.length c1) (dv := .slice y1 A.kids.length d1) (F := F1) HR.out (by repeat' (first | exact Below.refl _ _ | refine bel_drew ?_ | refine bel_alloc ?_ ?_ _ | (simp; done) | (simp; omega))) HM.out.1 (by have := HM.out.2.2.2; omega) (fun w' h => (HL.out w' h).1) ?_ ?_).mono ?_; (repeat' (first | exact heap_at (by first | rfl | (simp; done)) | (refine (Below.heap_alloc _ _ _ (by first | omega | (simp; done) | (simp; omega))).trans ?_))); (first | omega | (simp; omega)); (rintro e w4 ⟨rfl, hsh, hq, hm⟩; have hz4 := Nat.le_trans HR.out.size hsh.size; have H1 := Lib.hid hm; have HQ1 := Lib.hid hq; replace HR := Lib.hid (HR.out.next hsh); clear hsh hm hq tk1; clear p0 p1 p2 p3 p4 q0 q1 q2 q3 q4 r0 r1 r2 r3 r4; obtain ⟨p0, p1, p2, p3, p4, -⟩ := five HR.out.b0; obtain ⟨q0, q1, q2, q3, q4, -⟩ := five HR.out.b1; obtain ⟨r0, r1, r2, r3, r4, -⟩ := five HR.out.b2))
        | (go_at_call 49; have _t := tk2; refine (kids_step (X := B) (kv := .slice x2 B.keys.length c2) (dv := .slice y2 B.kids.length d2) (F := F2) HR.out (by repeat' (first | exact Below.refl _ _ | refine bel_drew ?_ | refine bel_alloc ?_ ?_ _ | (simp; done) | (simp; omega))) HM.out.2.1 (by have := HM.out.2.2.2; omega) (fun w' h => (HL.out w' h).2.1) ?_ ?_).mono ?_; (repeat' (first | exact heap_at (by first | rfl | (simp; done)) | (refine (Below.heap_alloc _ _ _ (by have h1 := HQ1.out.size; (try simp at h1); first | omega | (simp; done) | (simp; omega))).trans ?_) | (refine (HQ1.out.block _ (by have h1 := HQ1.out.size; (try simp at h1); first | omega | (simp; done) | (simp; omega))).trans ?_))); (first | omega | (simp; omega)); (rintro e w5 ⟨rfl, hsh, hq, hm⟩; have hz5 := Nat.le_trans HR.out.size hsh.size; have H2 := Lib.hid hm; have HQ2 := Lib.hid hq; replace H1 := Lib.hid (H1.out.next hsh); replace HR := Lib.hid (HR.out.next hsh); clear hsh hm hq tk2; clear p0 p1 p2 p3 p4 q0 q1 q2 q3 q4 r0 r1 r2 r3 r4; obtain ⟨p0, p1, p2, p3, p4, -⟩ := five HR.out.b0; obtain ⟨q0, q1, q2, q3, q4, -⟩ := five HR.out.b1; obtain ⟨r0, r1, r2, r3, r4, -⟩ := five HR.out.b2))
        | (go_at_call 49; have _t := tk3; refine (kids_step (X := C) (kv := .slice x3 C.keys.length c3) (dv := .slice y3 C.kids.length d3) (F := F3) HR.out (by repeat' (first | exact Below.refl _ _ | refine bel_drew ?_ | refine bel_alloc ?_ ?_ _ | (simp; done) | (simp; omega))) HM.out.2.2.1 (by have := HM.out.2.2.2; omega) (fun w' h => (HL.out w' h).2.2) ?_ ?_).mono ?_; (repeat' (first | exact heap_at (by first | rfl | (simp; done)) | (refine (Below.heap_alloc _ _ _ (by have h1 := HQ1.out.size; (try simp at h1); have h2 := HQ2.out.size; (try simp at h2); first | omega | (simp; done) | (simp; omega))).trans ?_) | (refine (HQ2.out.block _ (by have h1 := HQ1.out.size; (try simp at h1); have h2 := HQ2.out.size; (try simp at h2); first | omega | (simp; done) | (simp; omega))).trans ?_) | (refine (HQ1.out.block _ (by have h1 := HQ1.out.size; (try simp at h1); have h2 := HQ2.out.size; (try simp at h2); first | omega | (simp; done) | (simp; omega))).trans ?_))); (first | omega | (simp; omega)); (rintro e w6 ⟨rfl, hsh, hq, hm⟩; have hz6 := Nat.le_trans HR.out.size hsh.size; have H3 := Lib.hid hm; have HQ3 := Lib.hid hq; replace H1 := Lib.hid (H1.out.next hsh); replace H2 := Lib.hid (H2.out.next hsh); replace HR := Lib.hid (HR.out.next hsh); clear hsh hm hq tk3; clear p0 p1 p2 p3 p4 q0 q1 q2 q3 q4 r0 r1 r2 r3 r4; obtain ⟨p0, p1, p2, p3, p4, -⟩ := five HR.out.b0; obtain ⟨q0, q1, q2, q3, q4, -⟩ := five HR.out.b1; obtain ⟨r0, r1, r2, r3, r4, -⟩ := five HR.out.b2)))
    all_goals
      go_wp2_with fail
      go_meet
      exact ⟨_, _, _, rfl, rfl, rfl, HR.out, (by first | exact H1.out | simpa using H1.out), (by first | exact H2.out | simpa using H2.out), (by first | exact H3.out | simpa using H3.out)⟩
  case rest =>
    obtain ⟨bA, bB, bC, rfl, rfl, rfl, hC⟩ := hcut
    clear HR p0 p1 p2 p3 p4 q0 q1 q2 q3 q4 r0 r1 r2 r3 r4
    obtain ⟨p0, p1, p2, p3, p4, -⟩ := five hC.out.1.b0
    obtain ⟨q0, q1, q2, q3, q4, -⟩ := five hC.out.1.b1
    obtain ⟨r0, r1, r2, r3, r4, -⟩ := five hC.out.1.b2
    have hkd : w.heap.size + 4 ≤ wc.heap.size := hC.out.1.size
    go_upto_region 4 with (first
      | (go_at_call 49; refine (kids_all hC.out.1 ((Below.refl _ wc).alloc (Nat.le_refl _) _) HM.out.1 HM.out.2.1 HM.out.2.2.1 HM.out.2.2.2 HL.out (heap_last wc _) hkd).mono ?_; rintro e w2 ⟨rfl, hb2, nM, DM, hown, hn, his⟩; have H2 := Lib.hid (And.intro hb2 (And.intro hown (And.intro hn his))); clear hb2 hown hn his)
      | go_in)
    obtain ⟨wb, hwb⟩ : ∃ wb, wb = wc := ⟨_, rfl⟩
    subst hwb
    go_cut [13] from 33 to 34 (fun v w1 => ∃ (ks : List ByteArray) (so : Option Addr) (scap : Nat), v = .slice so ks.length scap ∧ Hid (∃ FK, StrsAt w1 (.slice so ks.length scap) ks FK ∧ (∀ y ∈ FK, w2.heap.size ≤ y) ∧ ks.Nodup ∧ (∀ key, key ∈ ks ↔ (firstAt [A, B, C] key).isSome = true) ∧ ks.length ≤ nM ∧ Below w2.heap.size w2 w1))
    case first =>
      go_wp2_with (first
        | (go_at_call 50; refine (impl_inOrder (by simpa using H2.out.2.1) H2.out.2.2.2 (Nat.le_trans H2.out.2.2.1 (by decide))).mono ?_; rintro e w3 ⟨v, ks, FK, rfl, hS, hFK, hnd, hmem, hlen, hb3⟩; obtain ⟨so, scap, sb, soff, ev, -⟩ := id hS; subst ev; have H3 := Lib.hid (And.intro hS (And.intro hFK (And.intro hnd (And.intro hmem (And.intro hlen hb3))))); clear hS hFK hnd hmem hlen hb3)
        | fail)
      go_meet
      exact ⟨ks, so, scap, rfl, FK, H3.out⟩
    case rest =>
      obtain ⟨ks, so, scap, rfl, hK⟩ := hcut
      obtain ⟨FK, hS, hFK, hnd, hmem, hlen, hb3⟩ := hK.out
      obtain ⟨nA, nB, nC, DA, DB, DC, kb, koff, hMS, hso, hsc, hsm⟩ := ms_of hC.out.1 hC.out.2.1 hC.out.2.2.1 hC.out.2.2.2 HM.out.1 HM.out.2.1 HM.out.2.2.1 HM.out.2.2.2 ((Below.refl _ wb).alloc (Nat.le_refl _) _) H2.out.2.1 H2.out.2.2.1 H2.out.2.2.2 H2.out.1 hS hFK hnd hmem hlen hb3
      have hMS2 : MS w wc A B C F1 F2 F3 bA bB bC (wb.heap.size + 1) nA nB nC nM DA DB DC DM ks kb koff scap := by simpa using hMS
      have HMS := Lib.hid hMS2
      clear hS hFK hnd hmem hlen hb3 hMS hMS2
      rename_i K1 hK1
      refine hK1 _ _ ?_
      refine wp_seq (wp_label ?_)
      refine wp_mono (mm_rest w wc A B C F1 F2 F3 bA bB bC (wb.heap.size + 1) nA nB nC nM DA DB DC DM ks kb koff scap (.agg #[.int .i64 A.k, .int .i64 A.n, .string A.s, .slice x1 A.keys.length c1, .slice y1 A.kids.length d1]) (.agg #[.int .i64 B.k, .int .i64 B.n, .string B.s, .slice x2 B.keys.length c2, .slice y2 B.kids.length d2]) (.agg #[.int .i64 C.k, .int .i64 C.n, .string C.s, .slice x3 C.keys.length c3, .slice y3 C.kids.length d3]) (.pointer (some ⟨w.heap.size, 0, none⟩)) (.pointer (some ⟨w.heap.size + 1, 0, none⟩)) (.pointer (some ⟨w.heap.size + 1 + 1, 0, none⟩)) HMS HI HF wc 0 nM DM (firstAt [A, B, C]) none 0 [] so scap (MS.start HMS.out) (Nat.zero_le _) hsc hsm hso _ _ _ _ _ _ _ _ _ _ _ _ _ _ _ _ _ _ _ _ _ _ _ _ _ _ _ _ _ _ _ _ _ _ _ _ _ _ _ _ _ _ _ _ _ _ _ _ _ _ _ _ _ _ _ _ _ _ _ _ _ _ _ _ _ _) ?_
      intro e a' w' h
      cases e with
      | goto l => exact ⟨h.1, wc, bA, bB, bC, wb.heap.size + 1, nA, nB, nC, nM, DA, DB, DC, DM, ks, kb, koff, scap, HMS, h.2.1⟩
      | _ => exact h
end Go.Proofs.YtelpkcbbipianaaGreat

/- mergeMaps and mergeSpots of every tree, by the trees' make. -/
namespace Go.Proofs.YtelpkcbbipianaaGreat
open Go Go.RowKit Go.Maps

theorem at_in {T X : RT} {key : ByteArray} (h : T.at key = some X) : X ∈ T.kids := by
  unfold RT.at at h
  split at h
  · cases hf : (T.keys.zip T.kids).find? fun x => decide (x.1 = key) with
    | none => rw [hf] at h; exact absurd h (by simp)
    | some p =>
      rw [hf] at h
      have hp := List.mem_of_find?_eq_some hf
      have e : p.2 = X := by simpa using h
      rw [← e]
      exact (List.of_mem_zip hp).2
  · exact absurd h (by simp)

theorem maps_all (A : RT) : MapsAt A := by
  induction A using RT.ind with
  | h k n s keys kids ih => exact maps_of (Lib.hid fun key => spots_any fun X hX => ih X (at_in hX))

theorem spots_all (o : Option RT) : SpotsAt o := spots_any fun A _ => maps_all A
end Go.Proofs.YtelpkcbbipianaaGreat

/- the program's Merge of three right maps: what it answers keeps what the one left as it was. -/
namespace Go.Proofs.YtelpkcbbipianaaGreat
open Go Go.RowKit Go.Maps

def MergeIs : Prop := ∀ (A B C : RT) (w : World) (kA dA kB dB kC dC : Value) (FA FB FC : List Nat), Lies w A kA dA FA → Lies w B kB dB FB → Lies w C kC dC FC → treeOk A = true → treeOk B = true → treeOk C = true → A.k = 5 → B.k = 5 → C.k = 5 →
  Calls Tryz.prog 8 #[.agg #[.int .i64 A.k, .int .i64 A.n, .string A.s, kA, dA], .agg #[.int .i64 B.k, .int .i64 B.n, .string B.s, kB, dB], .agg #[.int .i64 C.k, .int .i64 C.n, .string C.s, kC, dC]] w fun e w' => ∃ (M : RT) (kM dM : Value) (FM : List Nat) (o : Option Addr) (n c : Nat), e = .returned (.tuple #[.agg #[.int .i64 M.k, .int .i64 M.n, .string M.s, kM, dM], .slice o n c]) ∧ Lies w' M kM dM FM ∧ Below w.heap.size w w' ∧ Keeps A B C M ∧ M.sz ≤ 1048576

set_option maxRecDepth 100000 in
set_option maxHeartbeats 1600000 in
theorem merge_is : MergeIs := by
  intro A B C w kA dA kB dB kC dC FA FB FC lA lB lC tA tB tC hA hB hC
  obtain ⟨⟨o1, q1, rfl⟩, ⟨o2, q2, rfl⟩⟩ := lA.slices
  obtain ⟨⟨o3, q3, rfl⟩, ⟨o4, q4, rfl⟩⟩ := lB.slices
  obtain ⟨⟨o5, q5, rfl⟩, ⟨o6, q6, rfl⟩⟩ := lC.slices
  have mA := ok_map tA hA
  have mB := ok_map tB hB
  have mC := ok_map tC hC
  have zA := ok_sz tA
  have zB := ok_sz tB
  have zC := ok_sz tC
  have HM := Lib.hid (And.intro mA (And.intro mB (And.intro mC (And.intro zA (And.intro zB zC)))))
  have HS := Lib.hid (fun (w' : World) (hb : Below w.heap.size w w') => spots_all (some A) (some B) (some C) w' o1 q1 o2 q2 FA o3 q3 o4 q4 FB o5 q5 o6 q6 FC ⟨lA.stay hb (Nat.le_refl _)⟩ ⟨lB.stay hb (Nat.le_refl _)⟩ ⟨lC.stay hb (Nat.le_refl _)⟩ (by simp only [osz]; omega))
  clear lA lB lC tA tB tC hA hB hC mA mB mC zA zB zC
  go_enter Tryz.func8, Tryz.ntmps8
  go_wp2_with (first
    | (go_at_call 16; refine (HS.out _ (R0.start w A B C (.slice o1 A.keys.length q1) (.slice o2 A.kids.length q2) (.slice o3 B.keys.length q3) (.slice o4 B.kids.length q4) (.slice o5 C.keys.length q5) (.slice o6 C.kids.length q6)).below).mono ?_; rintro e w2 ⟨o, y1, d1, y2, d2, F, va, vn, vc, rfl, hsp, hF, hways, hspec, hb2⟩; obtain ⟨M, rfl, hK⟩ := hspec.maps A B C rfl rfl rfl HM.out.1 HM.out.2.1 HM.out.2.2.1; have hz : M.sz ≤ 1048576 := (by have h1 := hspec.size; have h2 := HM.out.2.2.2; simp only [osz] at h1; omega); have HR := Lib.hid ((R0.start w A B C (.slice o1 A.keys.length q1) (.slice o2 A.kids.length q2) (.slice o3 B.keys.length q3) (.slice o4 B.kids.length q4) (.slice o5 C.keys.length q5) (.slice o6 C.kids.length q6)).next hb2); have HP := Lib.hid (And.intro hsp.lies (And.intro hK hz)); clear hsp hF hways hspec hb2 hK hz)
    | (go_at_call 17; refine (copy_node M _ _ _ _ (HP.out.1.stay ((Below.refl _ w2).alloc (Nat.le_refl _) _) (Nat.le_refl _)) HP.out.2.2).mono ?_; rintro e w3 ⟨kv', dv', F', rfl, hl, hf, hb3, -, -⟩; obtain ⟨⟨o7, q7, rfl⟩, ⟨o8, q8, rfl⟩⟩ := hl.slices; have HR3 := Lib.hid (HR.out.next (Below.trans ((Below.refl _ w2).alloc (Nat.le_refl _) _) (hb3.mono (by simp)))); obtain ⟨x0, x1, x2, x3, x4, xf⟩ := five HR3.out.b3; have HL := Lib.hid (And.intro hl fun y hy => hf.old y hy); clear hl hf hb3)
    | fail)
  refine bodyPost_ret (ret_nodeB Tryz.results8 rfl rfl (set5_end HR3.out.b3 _ _ _ _ _)) rfl ⟨M, _, _, F', va, vn, vc, rfl, HL.out.1.carry fun y hy => set5_other _ _ _ _ _ _ _ _ _ ?_, set5_below HR3.out.below (by omega) _ _ _ _ _ _, HP.out.2⟩
  have h1 := HL.out.2 y hy
  have h2 := HR.out.size
  simp at h1
  omega
end Go.Proofs.YtelpkcbbipianaaGreat
