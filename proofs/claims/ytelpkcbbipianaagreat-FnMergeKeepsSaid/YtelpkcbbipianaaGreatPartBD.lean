/-
  What is proved: the state of mergeMaps while it goes through the Keys, and how each of its steps keeps it.; mergeMaps' loop: from a state at its label it comes back to it nearer the end, or answers.
-/
import Derived.Test.YtelpkcbbipianaaGreatPartBC
import Derived.Test.YtelpkcbbipianaaGreatPartBA
import Derived.ScopeJumps
import Derived.WalkMore
/- the state of mergeMaps while it goes through the Keys, and how each of its steps keeps it. -/
namespace Go.Proofs.YtelpkcbbipianaaGreat
open Go Go.RowKit Go.Maps

theorem grown_under {a b c : World} {row : Option Nat} (h : a.grownBy b row) (hb : Below b.heap.size b c) : a.grownBy c row :=
  ⟨hb.os.trans h.os, hb.tape.trans h.tape, hb.output.trans h.output, Nat.le_trans h.size hb.size, fun i hi hne => (hb.block i (Nat.lt_of_lt_of_le hi h.size)).trans (h.block i hi hne)⟩

/-- Which blocks a Kid may lie in. -/
def PP (w : World) (F1 F2 F3 : List Nat) (bM : Nat) (y : Nat) : Prop := (y ∈ F1 ∨ y ∈ F2 ∨ y ∈ F3 ∨ w.heap.size + 4 ≤ y) ∧ y ≠ bM

/-- What stands ahead of the loop. -/
structure MS (w w1 : World) (A B C : RT) (F1 F2 F3 : List Nat) (bA bB bC bM nA nB nC nM : Nat) (DA DB DC DM : DV) (ks : List ByteArray) (kb koff kc : Nat) : Prop where
  below : Below w.heap.size w w1
  size : w.heap.size + 4 ≤ w1.heap.size
  res : w1.heap[w.heap.size + 1 + 1 + 1]? = some (.cells #[.int .i64 0, .int .i64 0, .string ⟨#[]⟩, .slice none 0 0, .slice none 0 0] 27 (0, 0))
  ownA : w1.ownsMap Tryz.prog 9 heldV bA nA DA
  isA : MapIs w1 DA A.at (PP w F1 F2 F3 bM)
  neA : bA ≠ bM
  ownB : w1.ownsMap Tryz.prog 9 heldV bB nB DB
  isB : MapIs w1 DB B.at (PP w F1 F2 F3 bM)
  neB : bB ≠ bM
  ownC : w1.ownsMap Tryz.prog 9 heldV bC nC DC
  isC : MapIs w1 DC C.at (PP w F1 F2 F3 bM)
  neC : bC ≠ bM
  ownM : w1.ownsMap Tryz.prog 9 heldV bM nM DM
  isM : MapIs w1 DM (firstAt [A, B, C]) (PP w F1 F2 F3 bM)
  geM : w.heap.size + 4 ≤ bM
  leM : nM ≤ 1000000
  key : ∀ i (h : i < ks.length), w1.cell? ⟨kb, koff + i, none⟩ = some (.string ks[i]) ∧ ks[i].size ≤ maxLen
  room : ks.length ≤ kc ∧ kc ≤ maxLen
  keyNe : ∀ i, i < ks.length → kb ≠ bM
  few : ks.length ≤ nM
  nodup : ks.Nodup
  mem : ∀ key, key ∈ ks ↔ (firstAt [A, B, C] key).isSome = true
  mapA : A.isMap
  mapB : B.isMap
  mapC : C.isMap
  sz : A.sz + B.sz + C.sz ≤ 1000000

/-- Which blocks a merged Kid may lie in. -/
def PM (w : World) (F1 F2 F3 : List Nat) (bM : Nat) (v : Value) (y : Nat) : Prop := PP w F1 F2 F3 bM y ∧ some y ≠ v.ownBlock

/-- The loop: so many Keys have been gone through. -/
structure ML (w w1 wr : World) (A B C : RT) (F1 F2 F3 : List Nat) (bM nM : Nat) (ks : List ByteArray) (i n : Nat) (D : DV) (G : ByteArray → Option RT) (v : Value) (wl : List ByteArray) : Prop where
  grown : w1.grownBy wr (some bM)
  own : wr.ownsMap Tryz.prog 9 heldV bM n D
  le : n ≤ nM + i
  is : MapIs wr D G (PM w F1 F2 F3 bM v)
  done : ∀ key ∈ ks.take i, MSpec (A.at key) (B.at key) (C.at key) (G key)
  rest : ∀ key, key ∉ ks.take i → G key = firstAt [A, B, C] key
  row : wr.ownsRow w1.heap.size 9 1 v wl.length (wl.map Value.string)
  cnt : wl.length ≤ ((ks.take i).map (wt3 A B C)).sum
  len : ∀ x ∈ wl, x.size ≤ A.sz + B.sz + C.sz
  nil : wl = [] → v = .slice none 0 0

section
variable {w w1 wr : World} {A B C : RT} {F1 F2 F3 : List Nat} {bA bB bC bM nA nB nC nM : Nat} {DA DB DC DM : DV} {ks : List ByteArray} {kb koff kc : Nat}

theorem MS.start (H : MS w w1 A B C F1 F2 F3 bA bB bC bM nA nB nC nM DA DB DC DM ks kb koff kc) : ML w w1 w1 A B C F1 F2 F3 bM nM ks 0 nM DM (firstAt [A, B, C]) (.slice none 0 0) [] :=
  ⟨World.grownBy.refl _ _, H.ownM, by omega, H.isM.carry fun y hy _ => ⟨rfl, hy, by simp [Value.ownBlock]⟩, fun key h => absurd h (by simp), fun _ _ => rfl, ⟨rfl, .inl ⟨rfl, rfl⟩⟩, Nat.zero_le _, fun x h => absurd h (by simp), fun _ => rfl⟩

/-- A Kid as it lies now. -/
theorem kid_now {o : Option RT} {x1 x2 : Option Addr} {c1 c2 : Nat} {F : List Nat} (h : Kid w1 (PP w F1 F2 F3 bM) o x1 c1 x2 c2 F) (hg : w1.grownBy wr (some bM)) : Spot wr o x1 c1 x2 c2 F :=
  ⟨h.lies.carry fun y hy => hg.block y (h.lies.lt y hy) (by have := (h.off y hy).2; intro e; injection e with e; exact this e)⟩

theorem osz_wt {T : RT} (hm : T.isMap) (key : ByteArray) : osz (T.at key) ≤ T.sz := by
  have h := wt_sum hm (ks := [key]) (by simp)
  simp only [List.map_cons, List.map_nil, List.sum_cons, List.sum_nil] at h
  unfold wt at h
  cases ha : T.at key with
  | none => simp [osz]
  | some X =>
    rw [ha] at h
    simp only [osz]
    have h : key.size + 2 + X.sz + 0 ≤ T.sz := h
    omega

theorem MS.here (H : MS w w1 A B C F1 F2 F3 bA bB bC bM nA nB nC nM DA DB DC DM ks kb koff kc) {i : Nat} (hi : i < ks.length) : (A.at ks[i]).isSome = true ∨ (B.at ks[i]).isSome = true ∨ (C.at ks[i]).isSome = true := by
  have h := (H.mem ks[i]).1 (List.getElem_mem hi)
  unfold firstAt firstAt firstAt firstAt at h
  cases ha : A.at ks[i] <;> cases hb : B.at ks[i] <;> cases hc : C.at ks[i] <;> simp [ha, hb, hc] at h ⊢

/-- The ways of one Key, laid behind the others. -/
structure IL (w1 w5 wi : World) (v0 v : Value) (n m S : Nat) : Prop where
  row : ∃ wl : List ByteArray, wl.length = n + m ∧ (∀ x ∈ wl, x.size ≤ S) ∧ wi.ownsRow w1.heap.size 9 1 v (n + m) (wl.map Value.string)
  grown : w5.grownBy wi v0.ownBlock
  off : ∀ y, y < w5.heap.size → some y ≠ v0.ownBlock → some y ≠ v.ownBlock
  nil : n + m = 0 → v = .slice none 0 0

/-- One way more. -/
theorem IL.step {w5 wi w6 : World} {v0 v : Value} {n m S : Nat} {ob : Obj} {wl : List ByteArray} {s : ByteArray} (h : IL w1 w5 wi v0 v n m S) (hl : wl.length = n + m) (hs : ∀ x ∈ wl, x.size ≤ S) (hsz : s.size ≤ S) {g cap : Nat}
    (hown : w6.ownsRow w1.heap.size 9 1 (.slice (some ⟨g, 0, none⟩) (n + m + 1) cap) (n + m + 1) (wl.map Value.string ++ [.string s])) (hgrow : (wi.alloc ob).grownBy w6 v.ownBlock) (hat : v.ownBlock = some g ∨ g = wi.heap.size + 1) :
    IL w1 w5 w6 v0 (.slice (some ⟨g, 0, none⟩) (n + (m + 1)) cap) n (m + 1) S := by
  have hw5 := h.grown.size
  refine ⟨⟨wl ++ [s], by simp [hl]; omega, fun x hx => ?_, by rw [List.map_append]; exact hown⟩, ⟨hgrow.os.trans h.grown.os, hgrow.tape.trans h.grown.tape, hgrow.output.trans h.grown.output, ?_, fun y hy hne => ?_⟩, fun y hy hne e => ?_, fun h0 => absurd h0 (by omega)⟩
  · rcases List.mem_append.1 hx with hx | hx
    · exact hs x hx
    · simp at hx; subst hx; exact hsz
  · have := hgrow.size; simp at this; omega
  · rw [hgrow.block y (by simp; omega) (h.off y hy hne), Below.heap_alloc _ _ _ (by omega)]
    exact h.grown.block y hy hne
  · have e' : y = g := by simpa [Value.ownBlock] using e
    rcases hat with h1 | h1
    · exact h.off y hy hne (by rw [e', h1])
    · omega

/-- What is known behind the ways of a Key. -/
structure MA (w w1 wi : World) (F1 F2 F3 : List Nat) (bM n : Nat) (D : DV) (G : ByteArray → Option RT) (v' : Value) (o : Option RT) (y1 : Option Addr) (d1 : Nat) (y2 : Option Addr) (d2 : Nat) (F : List Nat) : Prop where
  grown : w1.grownBy wi (some bM)
  own : wi.ownsMap Tryz.prog 9 heldV bM n D
  is : MapIs wi D G (PM w F1 F2 F3 bM v')
  lies : Lies wi (o.getD zeroT) (.slice y1 (o.getD zeroT).keys.length d1) (.slice y2 (o.getD zeroT).kids.length d2) F
  off : ∀ y ∈ F, PM w F1 F2 F3 bM v' y

theorem ML.after (H : MS w w1 A B C F1 F2 F3 bA bB bC bM nA nB nC nM DA DB DC DM ks kb koff kc) {i n : Nat} {D : DV} {G : ByteArray → Option RT} {v v' : Value} {wl : List ByteArray} (h : ML w w1 wr A B C F1 F2 F3 bM nM ks i n D G v wl)
    {wr3 w4 wi : World} {ob : Obj} (hb3 : Below wr.heap.size wr wr3) (hb4 : Below wr3.heap.size wr3 w4) {o : Option RT} {y1 y2 : Option Addr} {d1 d2 : Nat} {F : List Nat} (hs : Spot w4 o y1 d1 y2 d2 F) (hF : ∀ y ∈ F, (PP w F1 F2 F3 bM y ∧ y < w1.heap.size) ∨ wr3.heap.size ≤ y)
    {m S : Nat} (hI : IL w1 (w4.alloc ob) wi v v' wl.length m S) : MA w w1 wi F1 F2 F3 bM n D G v' o y1 d1 y2 d2 F := by
  have hbM : bM < w1.heap.size := H.ownM.lt
  have h1 : w1.grownBy w4 (some bM) := grown_under (grown_under h.grown hb3) hb4
  have hv : ∀ j, v.ownBlock = some j → w1.heap.size ≤ j ∧ j < wr.heap.size := fun j hj => h.row.lt j hj
  have hz1 := h.grown.size
  have hz3 := hb3.size
  have hz4 := hb4.size
  have hne : some bM ≠ v.ownBlock := fun e => by have := (hv _ e.symm).1; omega
  have hkeep : ∀ y, y < w4.heap.size → some y ≠ v.ownBlock → wi.heap[y]? = w4.heap[y]? := fun y hy hn => (hI.grown.block y (by simp; omega) hn).trans (Below.heap_alloc _ _ _ hy)
  have hkeepr : ∀ y, y < wr.heap.size → some y ≠ v.ownBlock → wi.heap[y]? = wr.heap[y]? := fun y hy hn => (hkeep y (by omega) hn).trans ((hb4.block y (by omega)).trans (hb3.block y hy))
  have hFv : ∀ y ∈ F, some y ≠ v.ownBlock ∧ PP w F1 F2 F3 bM y := fun y hy => by
    rcases hF y hy with h' | h'
    · exact ⟨fun e => by have := (hv _ e.symm).1; omega, h'.1⟩
    · exact ⟨fun e => by have := (hv _ e.symm).2; omega, .inr (.inr (.inr (by have := H.size; omega))), by omega⟩
  refine ⟨?_, ?_, ?_, ?_, ?_⟩
  · refine h1.andThen (row' := v.ownBlock) ⟨hI.grown.os, hI.grown.tape, hI.grown.output, by have := hI.grown.size; simp at this; omega, fun y hy hn => hkeep y hy hn⟩ fun j hj => .inl (hv j hj).1
  · have e := owns_map_below (owns_map_below h.own hb3) hb4
    exact (e.alloc ob).kept hI.grown hne
  · refine h.is.carry fun y hy hl => ⟨hkeepr y hl hy.2, hy.1, hI.off y (by simp; omega) hy.2⟩
  · exact hs.lies.carry fun y hy => hkeep y (hs.lies.lt y hy) (hFv y hy).1
  · exact fun y hy => ⟨(hFv y hy).2, hI.off y (by have := hs.lies.lt y hy; simp; omega) (hFv y hy).1⟩

/-- The next state, whatever has been done to the map at this Key. -/
theorem ML.turn (H : MS w w1 A B C F1 F2 F3 bA bB bC bM nA nB nC nM DA DB DC DM ks kb koff kc) {i n n' : Nat} {D D' : DV} {G G' : ByteArray → Option RT} {v v' : Value} {wl : List ByteArray} (h : ML w w1 wr A B C F1 F2 F3 bM nM ks i n D G v wl) (hi : i < ks.length)
    {w5 wi w6 : World} {m : Nat} (hI : IL w1 w5 wi v v' wl.length m (A.sz + B.sz + C.sz)) (hm : m ≤ osz (A.at ks[i]) + osz (B.at ks[i]) + osz (C.at ks[i]) + 1)
    (hg : w1.grownBy w6 (some bM)) (hgi : wi.grownBy w6 (some bM)) (hown : w6.ownsMap Tryz.prog 9 heldV bM n' D') (hn : n' ≤ n + 1) (his : MapIs w6 D' G' (PM w F1 F2 F3 bM v'))
    (hsame : ∀ key, key ≠ ks[i] → G' key = G key) (hspec : MSpec (A.at ks[i]) (B.at ks[i]) (C.at ks[i]) (G' ks[i])) :
    ∃ wl', wl'.length = wl.length + m ∧ ML w w1 w6 A B C F1 F2 F3 bM nM ks (i + 1) n' D' G' v' wl' := by
  obtain ⟨wl', hl, hs, hr⟩ := hI.row
  have ht : ks.take (i + 1) = ks.take i ++ [ks[i]] := List.take_succ_eq_append_getElem hi
  have hni : ks[i] ∉ ks.take i := fun hmem => by
    have hnd := H.nodup
    rw [← List.take_append_drop (i + 1) ks, ht] at hnd
    have := (List.nodup_append.1 (List.nodup_append.1 hnd).1).2.2
    exact this _ hmem _ (by simp) rfl
  have hbM : bM < w1.heap.size := H.ownM.lt
  refine ⟨wl', hl, hg, hown, by have := h.le; omega, his, fun key hk => ?_, fun key hk => ?_, ?_, ?_, hs, fun h0 => ?_⟩
  · rw [ht] at hk
    by_cases e : key = ks[i]
    · rw [e]; exact hspec
    · rw [hsame key e]
      rcases List.mem_append.1 hk with hk | hk
      · exact h.done key hk
      · simp at hk; exact absurd hk e
  · rw [ht] at hk
    rw [hsame key fun e => hk (List.mem_append_right _ (by simp [e]))]
    exact h.rest key fun hk' => hk (List.mem_append_left _ hk')
  · rw [hl]
    exact hr.kept hgi (Or.inr fun e => by have := (hr.lt _ e).1; omega)
  · rw [ht, List.map_append, List.sum_append, hl]
    have h1 := h.cnt
    have h2 := wt3_key (H.here hi)
    simp only [List.map_cons, List.map_nil, List.sum_cons, List.sum_nil]
    omega
  · exact hI.nil (by rw [← hl, h0]; rfl)

theorem ML.put (H : MS w w1 A B C F1 F2 F3 bA bB bC bM nA nB nC nM DA DB DC DM ks kb koff kc) {i n : Nat} {D : DV} {G : ByteArray → Option RT} {v v' : Value} {wl : List ByteArray} (h : ML w w1 wr A B C F1 F2 F3 bM nM ks i n D G v wl) (hi : i < ks.length)
    {w5 wi w6 : World} {m : Nat} (hI : IL w1 w5 wi v v' wl.length m (A.sz + B.sz + C.sz)) (hm : m ≤ osz (A.at ks[i]) + osz (B.at ks[i]) + osz (C.at ks[i]) + 1)
    {X : RT} {y1 y2 : Option Addr} {d1 d2 : Nat} {F : List Nat} (hA : MA w w1 wi F1 F2 F3 bM n D G v' (some X) y1 d1 y2 d2 F) (hspec : MSpec (A.at ks[i]) (B.at ks[i]) (C.at ks[i]) (some X))
    (hown : w6.ownsMap Tryz.prog 9 heldV bM (n + 1) (D.put (keyL ks[i]) (.held (.agg #[.int .i64 X.k, .int .i64 X.n, .string X.s, .slice y1 X.keys.length d1, .slice y2 X.kids.length d2])))) (hg : wi.grownBy w6 (some bM)) :
    ∃ wl', wl'.length = wl.length + m ∧ ML w w1 w6 A B C F1 F2 F3 bM nM ks (i + 1) (n + 1) (D.put (keyL ks[i]) (.held (.agg #[.int .i64 X.k, .int .i64 X.n, .string X.s, .slice y1 X.keys.length d1, .slice y2 X.kids.length d2]))) (fun k' => if k' = ks[i] then some X else G k') v' wl' := by
  refine ML.turn H h hi hI hm (hA.grown.andThen hg fun j hj => by cases hj; exact .inr rfl) hg hown (Nat.le_refl _) ?_ (fun key e => by simp [e]) (by simpa using hspec)
  refine (hA.is.put hA.own.isMap ks[i] hA.lies hA.off).carry fun y hy hl => ⟨hg.block y hl fun e => ?_, hy⟩
  injection e with e
  exact hy.1.2 e

theorem ML.drop (H : MS w w1 A B C F1 F2 F3 bA bB bC bM nA nB nC nM DA DB DC DM ks kb koff kc) {i n : Nat} {D : DV} {G : ByteArray → Option RT} {v v' : Value} {wl : List ByteArray} (h : ML w w1 wr A B C F1 F2 F3 bM nM ks i n D G v wl) (hi : i < ks.length)
    {w5 wi w6 : World} {m : Nat} (hI : IL w1 w5 wi v v' wl.length m (A.sz + B.sz + C.sz)) (hm : m ≤ osz (A.at ks[i]) + osz (B.at ks[i]) + osz (C.at ks[i]) + 1)
    {o : Option RT} {y1 y2 : Option Addr} {d1 d2 : Nat} {F : List Nat} (hA : MA w w1 wi F1 F2 F3 bM n D G v' o y1 d1 y2 d2 F) (hspec : MSpec (A.at ks[i]) (B.at ks[i]) (C.at ks[i]) none)
    (hown : w6.ownsMap Tryz.prog 9 heldV bM n (D.del (keyL ks[i]))) (hg : wi.grownBy w6 (some bM)) :
    ∃ wl', wl'.length = wl.length + m ∧ ML w w1 w6 A B C F1 F2 F3 bM nM ks (i + 1) n (D.del (keyL ks[i])) (fun k' => if k' = ks[i] then none else G k') v' wl' := by
  refine ML.turn H h hi hI hm (hA.grown.andThen hg fun j hj => by cases hj; exact .inr rfl) hg hown (Nat.le_succ _) ?_ (fun key e => by simp [e]) (by simpa using hspec)
  refine (hA.is.del ks[i]).carry fun y hy hl => ⟨hg.block y hl fun e => ?_, hy⟩
  injection e with e
  exact hy.1.2 e
end
end Go.Proofs.YtelpkcbbipianaaGreat

/- mergeMaps' loop: from a state at its label it comes back to it nearer the end, or answers. -/
namespace Go.Proofs.YtelpkcbbipianaaGreat
open Go Go.RowKit Go.Maps

noncomputable def mmRest : Code := ((Tryz.f32.body.bind fun c => match c with | .seq _ (.scope c) => (match findLabel c 0 with | some (.seq _ x) => some x | _ => none) | _ => none).getD .skip)

/-- How many Keys are left: read off the frame. -/
def lenV : Value → Nat
  | .slice _ n _ => n
  | _ => 0

def mmMu (a : Act) : Nat := lenV (a.tmps.getD 13 undef)

set_option maxRecDepth 100000 in
/-- The state at the label, over the whole frame. -/
def MJ (w w1 : World) (A B C : RT) (F1 F2 F3 : List Nat) (bA bB bC bM nM : Nat) (ks : List ByteArray) (kb koff : Nat) (T0 T1 T2 T3 T4 T5 : Value) (a' : Act) (w' : World) : Prop :=
  ∃ (i n : Nat) (D : DV) (G : ByteArray → Option RT) (vo : Option Addr) (vc : Nat) (wl : List ByteArray) (ko' : Option Addr) (cc : Nat), ML w w1 w' A B C F1 F2 F3 bM nM ks i n D G (.slice vo wl.length vc) wl ∧ i ≤ ks.length ∧ ks.length - i ≤ cc ∧ cc ≤ maxLen ∧ (i < ks.length → ko' = some ⟨kb, koff + i, none⟩) ∧
    ∃ u14 u15 u16 u17 u18 u19 u20 u21 u22 u23 u24 u25 u26 u27 u28 u29 u30 u31 u32 u33 u34 u35 u36 u37 u38 u39 u40 u41 u42 u43 u44 u45 u46 u47 u48 u49 u50 u51 u52 u53 u54 u55 u56 u57 u58 u59 u60 u61 u62 u63 u64 u65 u66 u67 u68 u69 u70 u71 u72 u73 u74 u75 u76 u77 u78 u79 : Value, a' = ⟨#[T0, T1, T2, T3, T4, T5, .pointer (some ⟨w.heap.size + 1 + 1 + 1, 0, none⟩), .slice none 0 0, .map (some bA), .map (some bB), .map (some bC), .map (some bM), .slice vo wl.length vc, .slice ko' (ks.length - i) cc, u14, u15, u16, u17, u18, u19, u20, u21, u22, u23, u24, u25, u26, u27, u28, u29, u30, u31, u32, u33, u34, u35, u36, u37, u38, u39, u40, u41, u42, u43, u44, u45, u46, u47, u48, u49, u50, u51, u52, u53, u54, u55, u56, u57, u58, u59, u60, u61, u62, u63, u64, u65, u66, u67, u68, u69, u70, u71, u72, u73, u74, u75, u76, u77, u78, u79], []⟩

/-- The loop's end. -/
theorem ML.fin {w w1 wr : World} {A B C : RT} {F1 F2 F3 : List Nat} {bA bB bC bM nA nB nC nM : Nat} {DA DB DC DM : DV} {ks : List ByteArray} {kb koff kc : Nat} (H : MS w w1 A B C F1 F2 F3 bA bB bC bM nA nB nC nM DA DB DC DM ks kb koff kc) (hF : ∀ y, (y ∈ F1 ∨ y ∈ F2 ∨ y ∈ F3) → y < w.heap.size)
    {n : Nat} {D : DV} {G : ByteArray → Option RT} {vo : Option Addr} {vc : Nat} {wl : List ByteArray} (h : ML w w1 wr A B C F1 F2 F3 bM nM ks ks.length n D G (.slice vo wl.length vc) wl)
    {wn : World} {kn : List ByteArray} {o1 o2 : Option Addr} {q1 q2 : Nat} {F : List Nat} (hl : Lies wn (.node 5 0 ⟨#[]⟩ kn (kidsT G kn)) (.slice o1 (RT.node 5 0 ⟨#[]⟩ kn (kidsT G kn)).keys.length q1) (.slice o2 (RT.node 5 0 ⟨#[]⟩ kn (kidsT G kn)).kids.length q2) F) (hFn : ∀ y ∈ F, PM w F1 F2 F3 bM (.slice vo wl.length vc) y ∨ wr.heap.size ≤ y)
    (hnd : kn.Nodup) (hmem : ∀ key, key ∈ kn ↔ (G key).isSome = true) (hb : Below wr.heap.size wr wn) :
    MapsPost w A B C F1 F2 F3 (.returned (.tuple #[.agg #[.int .i64 5, .int .i64 0, .string ⟨#[]⟩, .slice o1 (RT.node 5 0 ⟨#[]⟩ kn (kidsT G kn)).keys.length q1, .slice o2 (RT.node 5 0 ⟨#[]⟩ kn (kidsT G kn)).kids.length q2], .slice vo wl.length vc]))
      (set5 wn (w.heap.size + 1 + 1 + 1) 0 (.int .i64 5) (.int .i64 0) (.string ⟨#[]⟩) (.slice o1 (RT.node 5 0 ⟨#[]⟩ kn (kidsT G kn)).keys.length q1) (.slice o2 (RT.node 5 0 ⟨#[]⟩ kn (kidsT G kn)).kids.length q2)) := by
  have hs1 := H.size
  have hsr := h.grown.size
  have hsn := hb.size
  have ht : ks.take ks.length = ks := List.take_length
  have hspec : ∀ key, MSpec (A.at key) (B.at key) (C.at key) (G key) := fun key => by
    by_cases hk : key ∈ ks
    · exact h.done key (by rw [ht]; exact hk)
    · have e := h.rest key (by rw [ht]; exact hk)
      have hn : ¬ (firstAt [A, B, C] key).isSome = true := fun h' => hk ((H.mem key).2 h')
      rw [e]
      unfold firstAt firstAt firstAt firstAt at hn ⊢
      cases ha : A.at key <;> cases hb : B.at key <;> cases hc : C.at key <;> simp [ha, hb, hc] at hn ⊢
      exact mspec_a (.inl rfl)
  have hcnt : wl.length ≤ A.sz + B.sz + C.sz := Nat.le_trans h.cnt (wt3_sum H.mapA H.mapB H.mapC (by rw [ht]; exact H.nodup))
  obtain ⟨FW, hS, hFW⟩ := strs_of_row h.row h.nil fun k hk => Nat.le_trans (h.len k hk) (Nat.le_trans H.sz (by decide))
  have keep : ∀ y, y ≠ w.heap.size + 1 + 1 + 1 → (set5 wn (w.heap.size + 1 + 1 + 1) 0 (.int .i64 5) (.int .i64 0) (.string ⟨#[]⟩) (.slice o1 (RT.node 5 0 ⟨#[]⟩ kn (kidsT G kn)).keys.length q1) (.slice o2 (RT.node 5 0 ⟨#[]⟩ kn (kidsT G kn)).kids.length q2)).heap[y]? = wn.heap[y]? := fun y hy => set5_other _ _ _ _ _ _ _ _ _ hy
  have hfar : ∀ y ∈ F, (y ∈ F1 ∨ y ∈ F2 ∨ y ∈ F3 ∨ w.heap.size + 4 ≤ y) := fun y hy => by
    rcases hFn y hy with h' | h'
    · exact h'.1.1
    · exact .inr (.inr (.inr (by omega)))
  refine ⟨_, _, _, _, _, F, _, _, _, rfl, hl.carry fun y hy => keep y ?_, fun y hy => ?_, ⟨wl, FW, (hS.carry fun y hy => (keep y ?_).trans (hb.block y (hS.lt y hy))), fun y hy => ?_, hcnt, h.len⟩, ⟨rfl, by simp [RT.keys, RT.kids, kidsT]⟩, fun key => ?_, node_sz H.mapA H.mapB H.mapC hnd hmem hspec, ?_⟩
  · have h1 := hfar y hy
    have h2 := hF y
    intro e
    subst e
    rcases h1 with h | h | h | h
    · have := h2 (.inl h); omega
    · have := h2 (.inr (.inl h)); omega
    · have := h2 (.inr (.inr h)); omega
    · omega
  · rcases hfar y hy with h | h | h | h
    · exact .inl h
    · exact .inr (.inl h)
    · exact .inr (.inr (.inl h))
    · exact .inr (.inr (.inr (by omega)))
  · have := hFW y hy
    omega
  · have := hFW y hy
    omega
  · rw [node_at hmem key]
    exact hspec key
  · exact set5_below ((H.below.grown h.grown (by omega) fun k hk => by cases hk; have := H.geM; omega).trans (hb.mono (by omega))) (by omega) _ _ _ _ _ _

set_option maxRecDepth 100000 in
set_option maxHeartbeats 4000000 in
theorem mm_rest (w w1 : World) (A B C : RT) (F1 F2 F3 : List Nat) (bA bB bC bM nA nB nC nM : Nat) (DA DB DC DM : DV) (ks : List ByteArray) (kb koff kc : Nat) (T0 T1 T2 T3 T4 T5 : Value) (H : Hid (MS w w1 A B C F1 F2 F3 bA bB bC bM nA nB nC nM DA DB DC DM ks kb koff kc)) (HI : Hid (∀ key, SpotsAt (A.at key))) (HF : Hid (∀ y, (y ∈ F1 ∨ y ∈ F2 ∨ y ∈ F3) → y < w.heap.size))
    (wr : World) (i n : Nat) (D : DV) (G : ByteArray → Option RT) (vo : Option Addr) (vc : Nat) (wl : List ByteArray) (ko' : Option Addr) (cc : Nat) (hML : Hid (ML w w1 wr A B C F1 F2 F3 bM nM ks i n D G (.slice vo wl.length vc) wl)) (hi : i ≤ ks.length) (hcc : ks.length - i ≤ cc) (hcm : cc ≤ maxLen) (hko : i < ks.length → ko' = some ⟨kb, koff + i, none⟩) (u14 u15 u16 u17 u18 u19 u20 u21 u22 u23 u24 u25 u26 u27 u28 u29 u30 u31 u32 u33 u34 u35 u36 u37 u38 u39 u40 u41 u42 u43 u44 u45 u46 u47 u48 u49 u50 u51 u52 u53 u54 u55 u56 u57 u58 u59 u60 u61 u62 u63 u64 u65 u66 u67 u68 u69 u70 u71 u72 u73 u74 u75 u76 u77 u78 u79 : Value) :
    Code.wp Tryz.prog mmRest (Exit.jump 0 (fun a' w' => MJ w w1 A B C F1 F2 F3 bA bB bC bM nM ks kb koff T0 T1 T2 T3 T4 T5 a' w' ∧ mmMu a' < ks.length - i) (bodyPost Tryz.prog Tryz.f32 (MapsPost w A B C F1 F2 F3))) ⟨#[T0, T1, T2, T3, T4, T5, .pointer (some ⟨w.heap.size + 1 + 1 + 1, 0, none⟩), .slice none 0 0, .map (some bA), .map (some bB), .map (some bC), .map (some bM), .slice vo wl.length vc, .slice ko' (ks.length - i) cc, u14, u15, u16, u17, u18, u19, u20, u21, u22, u23, u24, u25, u26, u27, u28, u29, u30, u31, u32, u33, u34, u35, u36, u37, u38, u39, u40, u41, u42, u43, u44, u45, u46, u47, u48, u49, u50, u51, u52, u53, u54, u55, u56, u57, u58, u59, u60, u61, u62, u63, u64, u65, u66, u67, u68, u69, u70, u71, u72, u73, u74, u75, u76, u77, u78, u79], []⟩ wr := by
  conv => arg 2; whnf
  go_wp2
  go_loopw [12, 13] (fun v kv wr => ∃ (j n : Nat) (D : DV) (G : ByteArray → Option RT) (vo : Option Addr) (vc : Nat) (wl : List ByteArray) (ko' : Option Addr) (cc : Nat), i ≤ j ∧ j ≤ ks.length ∧ v = .slice vo wl.length vc ∧ kv = .slice ko' (ks.length - j) cc ∧ ks.length - j ≤ cc ∧ cc ≤ maxLen ∧ (j < ks.length → ko' = some ⟨kb, koff + j, none⟩) ∧ Hid (ML w w1 wr A B C F1 F2 F3 bM nM ks j n D G v wl)) (fun _ kv _ => lenV kv)
  case atStart => exact ⟨i, n, D, G, vo, vc, wl, ko', cc, Nat.le_refl _, hi, rfl, rfl, hcc, hcm, hko, hML⟩
  case round =>
    clear hML hi hcc hcm hko
    obtain ⟨j, n, D, G, vo, vc, wl, ko', cc, hij, hj, rfl, rfl, hcc, hcm, hko, hr⟩ := hrel
    by_cases hlt : j < ks.length
    · have hko := hko hlt
      subst hko
      have hkc := (H.out.key j hlt).1
      have hks := (H.out.key j hlt).2
      have hkc := (World.cell?_of_block (w := w1) (w' := wr) (a := ⟨kb, koff + j, none⟩) (hr.out.grown.block kb (World.block_lt_of_cell? _ _ hkc) (by have := H.out.keyNe j hlt; intro e; injection e with e; exact this e))).trans hkc
      have HG := Lib.hid hr.out.grown
      have hneA : some bA ≠ some bM := by have := H.out.neA; intro e; injection e with e; exact this e
      have hneB : some bB ≠ some bM := by have := H.out.neB; intro e; injection e with e; exact this e
      have hneC : some bC ≠ some bM := by have := H.out.neC; intro e; injection e with e; exact this e
      have HSum : Hid (∀ key, osz (A.at key) + osz (B.at key) + osz (C.at key) ≤ 1000000) := fun key => by
        have h1 := osz_wt H.out.mapA key
        have h2 := osz_wt H.out.mapB key
        have h3 := osz_wt H.out.mapC key
        have h4 := H.out.sz
        omega
      have tk1 : True := trivial
      have tk2 : True := trivial
      have tk3 : True := trivial
      have tk4 : True := trivial
      have HKey : Hid (∃ key, ks[j] = key) := ⟨_, rfl⟩
      obtain ⟨key, hkey⟩ := HKey.out
      rw [hkey] at hkc hks
      have HKey := Lib.hid hkey
      clear hkey
      go_wp2_with (first
        | (go_at_call 51; have _t := tk1; refine (impl_kidsAt (H.out.ownA.kept HG.out hneA) H.out.isA key hks).mono ?_; rintro e wa ⟨p1, q1, p2, q2, FA, rfl, hkA, hbA⟩; have HkA := Lib.hid hkA; replace HG := Lib.hid (grown_under HG.out hbA); have HbA := Lib.hid hbA; clear hkA hbA tk1)
        | (go_at_call 51; have _t := tk2; refine (impl_kidsAt (H.out.ownB.kept HG.out hneB) H.out.isB key hks).mono ?_; rintro e wb ⟨p3, q3, p4, q4, FB, rfl, hkB, hbB⟩; have HkB := Lib.hid hkB; replace HG := Lib.hid (grown_under HG.out hbB); have HbB := Lib.hid hbB; clear hkB hbB tk2)
        | (go_at_call 51; have _t := tk3; refine (impl_kidsAt (H.out.ownC.kept HG.out hneC) H.out.isC key hks).mono ?_; rintro e wc ⟨p5, q5, p6, q6, FC, rfl, hkC, hbC⟩; have HkC := Lib.hid hkC; replace HG := Lib.hid (grown_under HG.out hbC); have HbC := Lib.hid hbC; clear hkC hbC tk3)
        | (go_at_call 16; have _t := tk4; refine (HI.out key _ _ _ _ _ _ _ _ _ _ _ _ _ _ _ _ _ _ (kid_now HkA.out HG.out) (kid_now HkB.out HG.out) (kid_now HkC.out HG.out) (HSum.out key)).mono ?_; rintro e w4 ⟨o, y1, d1, y2, d2, FR, va, vn, vcc, rfl, hsp, hF, hways, hspec, hb4⟩; have H4 := Lib.hid (And.intro hsp (And.intro hF (And.intro hways (And.intro hspec hb4)))); clear hsp hF hways hspec hb4 tk4)
        | go_in)
      ·
        obtain ⟨hsp, hF, ⟨wbl, FW, hS, hFW, hwn, hwx⟩, hspec, hb4⟩ := H4.out
        obtain ⟨so, scap, sb, soff, es, s1, s2, s3, s4, s5, -⟩ := id hS
        injection es with es1 es2 es3
        subst es1 es2 es3
        have hb3 : Below wr.heap.size wr wc := (HbA.out.trans (HbB.out.mono HbA.out.size)).trans (HbC.out.mono (Nat.le_trans HbA.out.size HbB.out.size))
        have hFR : ∀ y ∈ FR, (PP w F1 F2 F3 bM y ∧ y < w1.heap.size) ∨ wc.heap.size ≤ y := fun y hy => by
          rcases hF y hy with h | h | h | h
          · exact .inl ⟨HkA.out.off y h, HkA.out.lies.lt y h⟩
          · exact .inl ⟨HkB.out.off y h, HkB.out.lies.lt y h⟩
          · exact .inl ⟨HkC.out.off y h, HkC.out.lies.lt y h⟩
          · exact .inr h
        have HP := Lib.hid (And.intro hb3 (And.intro hb4 (And.intro hsp (And.intro hFR hspec))))
        have hkk := wt3_key (H.out.here hlt)
        rw [HKey.out] at hkk
        have hk1 := wt3_one H.out.mapA H.out.mapB H.out.mapC key
        have hz := H.out.sz
        have hcnt := Nat.le_trans hr.out.cnt (wt3_sum H.out.mapA H.out.mapB H.out.mapC ((List.take_sublist j ks).nodup H.out.nodup))
        have HN : Hid (wbl.length ≤ osz (A.at key) + osz (B.at key) + osz (C.at key) + 1 ∧ (∀ x ∈ wbl, x.size ≤ osz (A.at key) + osz (B.at key) + osz (C.at key) + 1) ∧ key.size + 2 + (osz (A.at key) + osz (B.at key) + osz (C.at key)) ≤ A.sz + B.sz + C.sz ∧ A.sz + B.sz + C.sz ≤ 1000000 ∧ wl.length ≤ A.sz + B.sz + C.sz) := ⟨hwn, hwx, by omega, hz, hcnt⟩
        have hz1 := hr.out.grown.size
        have hz3 := hb3.size
        have hz4 := hb4.size
        have hv0 : ∀ y, (Value.slice vo wl.length vc).ownBlock = some y → w1.heap.size ≤ y ∧ y < wr.heap.size := fun y hy => hr.out.row.lt y hy
        have HV := Lib.hid hv0
        have HSz : Hid (w1.heap.size ≤ wr.heap.size ∧ wr.heap.size ≤ wc.heap.size ∧ wc.heap.size ≤ w4.heap.size) := ⟨hz1, hz3, hz4⟩
        have HC : Hid (∀ m (h : m < wbl.length), w4.cell? ⟨sb, soff + m, none⟩ = some (.string wbl[m]) ∧ va = some ⟨sb, soff, none⟩ ∧ some sb ≠ (Value.slice vo wl.length vc).ownBlock ∧ sb < w4.heap.size) := fun m hm => by
          have hc := (s5 m hm).1
          have hlt4 : sb < w4.heap.size := World.block_lt_of_cell? _ _ hc
          have hmem : sb ∈ FW := by rw [s4, if_neg (by omega)]; simp
          exact ⟨hc, s3 (by omega), fun e => by have := (hv0 _ e.symm).2; have := hFW sb hmem; omega, hlt4⟩
        have HIL : Hid (IL w1 (w4.alloc (.cells #[.int .i64 (o.getD zeroT).k, .int .i64 (o.getD zeroT).n, .string (o.getD zeroT).s, .slice y1 (o.getD zeroT).keys.length d1, .slice y2 (o.getD zeroT).kids.length d2, .bool o.isSome] 40)) (w4.alloc (.cells #[.int .i64 (o.getD zeroT).k, .int .i64 (o.getD zeroT).n, .string (o.getD zeroT).s, .slice y1 (o.getD zeroT).keys.length d1, .slice y2 (o.getD zeroT).kids.length d2, .bool o.isSome] 40)) (.slice vo wl.length vc) (.slice vo wl.length vc) wl.length 0 (A.sz + B.sz + C.sz)) :=
          ⟨⟨wl, rfl, hr.out.len, owns_below (owns_below (owns_below hr.out.row hb3) hb4) ((Below.refl _ w4).alloc (Nat.le_refl _) _)⟩, World.grownBy.refl _ _, fun _ _ h => h, fun h0 => hr.out.nil (List.length_eq_zero_iff.1 h0)⟩
        have HIb : Hid ((w4.alloc (.cells #[.int .i64 (o.getD zeroT).k, .int .i64 (o.getD zeroT).n, .string (o.getD zeroT).s, .slice y1 (o.getD zeroT).keys.length d1, .slice y2 (o.getD zeroT).kids.length d2, .bool o.isSome] 40)).heap[w4.heap.size]? = some (.cells #[.int .i64 (o.getD zeroT).k, .int .i64 (o.getD zeroT).n, .string (o.getD zeroT).s, .slice y1 (o.getD zeroT).keys.length d1, .slice y2 (o.getD zeroT).kids.length d2, .bool o.isSome] 40)) := heap_last _ _
        have hw5 : Hid ((w4.alloc (.cells #[.int .i64 (o.getD zeroT).k, .int .i64 (o.getD zeroT).n, .string (o.getD zeroT).s, .slice y1 (o.getD zeroT).keys.length d1, .slice y2 (o.getD zeroT).kids.length d2, .bool o.isSome] 40)).heap.size = w4.heap.size + 1) := by show _ = _; simp
        have HAf := Lib.hid (fun (wi : World) (v' : Value) (m : Nat) (hI : IL w1 (w4.alloc (.cells #[.int .i64 (o.getD zeroT).k, .int .i64 (o.getD zeroT).n, .string (o.getD zeroT).s, .slice y1 (o.getD zeroT).keys.length d1, .slice y2 (o.getD zeroT).kids.length d2, .bool o.isSome] 40)) wi (.slice vo wl.length vc) v' wl.length m (A.sz + B.sz + C.sz)) => hr.out.after H.out hb3 hb4 hsp hFR hI)
        clear hsp hF hS hFW hwn hwx hspec hb4 hb3 hFR hkk hk1 hz hcnt hz1 hz3 hz4 hv0 s1 s3 s4 s5 H4
        obtain ⟨wq, hwq⟩ : ∃ wq, wq = wr := ⟨_, rfl⟩
        subst hwq
        obtain ⟨i0, hi0, hz0, hz1, hz2⟩ := info_parts info_string
        go_loopw [12, 58] (fun v j2 wi => ∃ (m : Nat) (vo' : Option Addr) (vc' : Nat), m ≤ wbl.length ∧ v = .slice vo' (wl.length + m) vc' ∧ j2 = .int .i64 m ∧ Hid (IL w1 (w4.alloc (.cells #[.int .i64 (o.getD zeroT).k, .int .i64 (o.getD zeroT).n, .string (o.getD zeroT).s, .slice y1 (o.getD zeroT).keys.length d1, .slice y2 (o.getD zeroT).kids.length d2, .bool o.isSome] 40)) wi (.slice vo wl.length vc) v wl.length m (A.sz + B.sz + C.sz))) (fun _ j2 _ => wbl.length - (intOf j2).toNat)
        case atStart => exact ⟨0, vo, vc, Nat.zero_le _, rfl, rfl, HIL⟩
        case round =>
          obtain ⟨m, vo', vc', hm, rfl, rfl, hI⟩ := hrel
          by_cases hml : m < wbl.length
          · obtain ⟨hc, hso, hsb, hsl⟩ := HC.out m hml
            subst hso
            have hcell := (World.cell?_of_block (w := w4) (w' := wr) (a := ⟨sb, soff + m, none⟩) ((hI.out.grown.block sb (by rw [hw5.out]; omega) hsb).trans (Below.heap_alloc w4 _ _ hsl))).trans hc
            have hway := HN.out.2.1 _ (List.getElem_mem hml)
            have HRowE := Lib.hid hI.out.row
            have HE : Hid (wrap64 ((m : Int) + 1) = ((m + 1 : Nat) : Int)) := by
              have h1 := HN.out.1
              have h2 := HN.out.2.2.1
              have h3 := HN.out.2.2.2.1
              show wrap64 _ = _
              unfold wrap64; omega
            have hI5 : Hid ((w4.alloc (.cells #[.int .i64 (o.getD zeroT).k, .int .i64 (o.getD zeroT).n, .string (o.getD zeroT).s, .slice y1 (o.getD zeroT).keys.length d1, .slice y2 (o.getD zeroT).kids.length d2, .bool o.isSome] 40)).heap.size ≤ wr.heap.size) := hI.out.grown.size
            clear hc hsb
            generalize wbl[m] = way at *
            have HB : Hid (key.size + way.size + 1 ≤ A.sz + B.sz + C.sz ∧ A.sz + B.sz + C.sz ≤ 1000000 ∧ wl.length + m ≤ 4000000 ∧ w1.heap.size ≤ wr.heap.size + 1) := by
              have h1 := HN.out.1
              have h2 := HN.out.2.2.1
              have h3 := HN.out.2.2.2.1
              have h4 := HN.out.2.2.2.2
              have h5 := HSz.out
              have h6 := hI5.out
              rw [hw5.out] at h6
              refine ⟨by omega, h3, by omega, by omega⟩
            obtain ⟨wlm, hwl1, hwl2, hwl3⟩ := HRowE.out
            have HRow := Lib.hid (fun ob' => owns_below hwl3 ((Below.refl _ wr).alloc (Nat.le_refl _) ob'))
            have HW := Lib.hid (And.intro hwl1 hwl2)
            have hbd : key.size + way.size + 1 ≤ 140737488355328 := by have := HB.out; omega
            clear hwl1 hwl2 hwl3 hway
            go_wp2_with (first
              | (go_at_call 52; refine (impl_wayBelow key way _ hbd).mono ?_; rintro e w6 ⟨s, rfl, hss, e6⟩; subst w6; have HSS := Lib.hid hss; clear hss)
              | (at_builtin; refine wpList_append_lies _ rfl (.tmp 62) (.tmp 66) 24 rfl w1.heap.size 9 i0 _ 1 16 Tryz.underlying24 hi0 hz0 hz1 hz2 rfl (by decide) (.slice vo' (wl.length + m) vc') (wl.length + m) _ rfl (HRow.out _) ⟨wr.heap.size, 0, none⟩ 1 1 [.string s] rfl rfl (World.news_of_block (cs := #[.string s]) (t := 9) (fr := (0, 0)) (heap_last wr _)) (by simp [Value.oneCell']) (by omega) (by have := HB.out; unfold maxLen; omega) (by have := HB.out; omega) (by simp; have := HB.out; omega) (wr.heap.size + 1) (by simp) ?_; intro g cap' w7 hown7 hgrow hat hltg; have H7 := Lib.hid (And.intro hown7 (And.intro hgrow hat)); clear hown7 hgrow hat hltg)
              | go_in)
            have hst := hI.out.step HW.out.1 HW.out.2 (s := s) (by have := HSS.out; have := HB.out; omega) H7.out.1 H7.out.2.1 H7.out.2.2
            exact ⟨⟨m + 1, _, _, by omega, rfl, by rw [HE.out], hst⟩, by rw [HE.out]; simp [intOf]; omega⟩
          · have em : m = wbl.length := by omega
            subst em
            have hA := HAf.out wr _ _ hI.out
            have hbx := (hI.out.grown.block w4.heap.size (by rw [hw5.out]; omega) (fun e => by have := (HV.out _ e.symm).2; have := HSz.out; omega)).trans HIb.out
            obtain ⟨c0, c1, c2, c3, c4, c5, cf⟩ := six hbx
            have hn : n < maxLen := by have h1 := hr.out.le; have h2 := H.out.leM; have h3 := H.out.few; unfold maxLen; omega
            clear hbx
            cases o with
            | none =>
              have c5 : wr.cell? ⟨w4.heap.size, 5, none⟩ = some (.bool false) := c5
              go_wp2_with (first
                | (at_delete; refine wpList_delete_own _ rfl _ _ 84 9 rfl 27 strK Tryz.underlying84 heldV bM n D rfl hA.own _ _ rfl (keyOf_key hks) ?_; intro w8 hown hturn; have H8 := Lib.hid (And.intro hown hturn); clear hown hturn; go_frame)
                | go_in)
              have hk := HKey.out
              subst hk
              obtain ⟨wl', hwl, hML'⟩ := ML.drop H.out hr.out hlt hI.out HN.out.1 hA HP.out.2.2.2.2 H8.out.1 H8.out.2.grown
              exact ⟨⟨j + 1, n, _, _, vo', vc', wl', _, _, by omega, by omega, by rw [hwl], rfl, by omega, by omega, fun h' => absurd h' (by omega), hML'⟩, by show ks.length - j - 1 < ks.length - j; omega⟩
            | some X =>
              have c5 : wr.cell? ⟨w4.heap.size, 5, none⟩ = some (.bool true) := c5
              go_wp2_with (first
                | (at_mapUpdate; refine wpList_put_kid _ rfl _ _ _ rfl bM n D rfl hA.own hn key rfl hks (.agg #[.int .i64 X.k, .int .i64 X.n, .string X.s, .slice y1 X.keys.length d1, .slice y2 X.kids.length d2]) rfl ?_; intro w8 hown hturn; have H8 := Lib.hid (And.intro hown hturn); clear hown hturn; go_frame)
                | go_in)
              have hk := HKey.out
              subst hk
              obtain ⟨wl', hwl, hML'⟩ := ML.put H.out hr.out hlt hI.out HN.out.1 hA HP.out.2.2.2.2 H8.out.1 H8.out.2
              go_step3
              exact ⟨rfl, ⟨j + 1, n + 1, _, _, vo', vc', wl', some ⟨kb, koff + j, none⟩, 0, by rw [hwl]; exact hML', by omega, by omega, by omega, fun h' => absurd h' (by omega), by rw [hwl]; exact ⟨_, _, _, _, _, _, _, _, _, _, _, _, _, _, _, _, _, _, _, _, _, _, _, _, _, _, _, _, _, _, _, _, _, _, _, _, _, _, _, _, _, _, _, _, _, _, _, _, _, _, _, _, _, _, _, _, _, _, _, _, _, _, _, _, _, _, rfl⟩⟩, by show ks.length - j - 1 < ks.length - i; omega⟩
      ·
        obtain ⟨hsp, hF, ⟨wbl, FW, hS, hFW, hwn, hwx⟩, hspec, hb4⟩ := H4.out
        obtain ⟨so, scap, sb, soff, es, s1, s2, s3, s4, s5, -⟩ := id hS
        injection es with es1 es2 es3
        subst es1 es2 es3
        have hb3 : Below wr.heap.size wr wc := (HbA.out.trans (HbB.out.mono HbA.out.size)).trans (HbC.out.mono (Nat.le_trans HbA.out.size HbB.out.size))
        have hFR : ∀ y ∈ FR, (PP w F1 F2 F3 bM y ∧ y < w1.heap.size) ∨ wc.heap.size ≤ y := fun y hy => by
          rcases hF y hy with h | h | h | h
          · exact .inl ⟨HkA.out.off y h, HkA.out.lies.lt y h⟩
          · exact .inl ⟨HkB.out.off y h, HkB.out.lies.lt y h⟩
          · exact .inl ⟨HkC.out.off y h, HkC.out.lies.lt y h⟩
          · exact .inr h
        have HP := Lib.hid (And.intro hb3 (And.intro hb4 (And.intro hsp (And.intro hFR hspec))))
        have hkk := wt3_key (H.out.here hlt)
        rw [HKey.out] at hkk
        have hk1 := wt3_one H.out.mapA H.out.mapB H.out.mapC key
        have hz := H.out.sz
        have hcnt := Nat.le_trans hr.out.cnt (wt3_sum H.out.mapA H.out.mapB H.out.mapC ((List.take_sublist j ks).nodup H.out.nodup))
        have HN : Hid (wbl.length ≤ osz (A.at key) + osz (B.at key) + osz (C.at key) + 1 ∧ (∀ x ∈ wbl, x.size ≤ osz (A.at key) + osz (B.at key) + osz (C.at key) + 1) ∧ key.size + 2 + (osz (A.at key) + osz (B.at key) + osz (C.at key)) ≤ A.sz + B.sz + C.sz ∧ A.sz + B.sz + C.sz ≤ 1000000 ∧ wl.length ≤ A.sz + B.sz + C.sz) := ⟨hwn, hwx, by omega, hz, hcnt⟩
        have hz1 := hr.out.grown.size
        have hz3 := hb3.size
        have hz4 := hb4.size
        have hv0 : ∀ y, (Value.slice vo wl.length vc).ownBlock = some y → w1.heap.size ≤ y ∧ y < wr.heap.size := fun y hy => hr.out.row.lt y hy
        have HV := Lib.hid hv0
        have HSz : Hid (w1.heap.size ≤ wr.heap.size ∧ wr.heap.size ≤ wc.heap.size ∧ wc.heap.size ≤ w4.heap.size) := ⟨hz1, hz3, hz4⟩
        have HC : Hid (∀ m (h : m < wbl.length), w4.cell? ⟨sb, soff + m, none⟩ = some (.string wbl[m]) ∧ va = some ⟨sb, soff, none⟩ ∧ some sb ≠ (Value.slice vo wl.length vc).ownBlock ∧ sb < w4.heap.size) := fun m hm => by
          have hc := (s5 m hm).1
          have hlt4 : sb < w4.heap.size := World.block_lt_of_cell? _ _ hc
          have hmem : sb ∈ FW := by rw [s4, if_neg (by omega)]; simp
          exact ⟨hc, s3 (by omega), fun e => by have := (hv0 _ e.symm).2; have := hFW sb hmem; omega, hlt4⟩
        have HIL : Hid (IL w1 (w4.alloc (.cells #[.int .i64 (o.getD zeroT).k, .int .i64 (o.getD zeroT).n, .string (o.getD zeroT).s, .slice y1 (o.getD zeroT).keys.length d1, .slice y2 (o.getD zeroT).kids.length d2, .bool o.isSome] 40)) (w4.alloc (.cells #[.int .i64 (o.getD zeroT).k, .int .i64 (o.getD zeroT).n, .string (o.getD zeroT).s, .slice y1 (o.getD zeroT).keys.length d1, .slice y2 (o.getD zeroT).kids.length d2, .bool o.isSome] 40)) (.slice vo wl.length vc) (.slice vo wl.length vc) wl.length 0 (A.sz + B.sz + C.sz)) :=
          ⟨⟨wl, rfl, hr.out.len, owns_below (owns_below (owns_below hr.out.row hb3) hb4) ((Below.refl _ w4).alloc (Nat.le_refl _) _)⟩, World.grownBy.refl _ _, fun _ _ h => h, fun h0 => hr.out.nil (List.length_eq_zero_iff.1 h0)⟩
        have HIb : Hid ((w4.alloc (.cells #[.int .i64 (o.getD zeroT).k, .int .i64 (o.getD zeroT).n, .string (o.getD zeroT).s, .slice y1 (o.getD zeroT).keys.length d1, .slice y2 (o.getD zeroT).kids.length d2, .bool o.isSome] 40)).heap[w4.heap.size]? = some (.cells #[.int .i64 (o.getD zeroT).k, .int .i64 (o.getD zeroT).n, .string (o.getD zeroT).s, .slice y1 (o.getD zeroT).keys.length d1, .slice y2 (o.getD zeroT).kids.length d2, .bool o.isSome] 40)) := heap_last _ _
        have hw5 : Hid ((w4.alloc (.cells #[.int .i64 (o.getD zeroT).k, .int .i64 (o.getD zeroT).n, .string (o.getD zeroT).s, .slice y1 (o.getD zeroT).keys.length d1, .slice y2 (o.getD zeroT).kids.length d2, .bool o.isSome] 40)).heap.size = w4.heap.size + 1) := by show _ = _; simp
        have HAf := Lib.hid (fun (wi : World) (v' : Value) (m : Nat) (hI : IL w1 (w4.alloc (.cells #[.int .i64 (o.getD zeroT).k, .int .i64 (o.getD zeroT).n, .string (o.getD zeroT).s, .slice y1 (o.getD zeroT).keys.length d1, .slice y2 (o.getD zeroT).kids.length d2, .bool o.isSome] 40)) wi (.slice vo wl.length vc) v' wl.length m (A.sz + B.sz + C.sz)) => hr.out.after H.out hb3 hb4 hsp hFR hI)
        clear hsp hF hS hFW hwn hwx hspec hb4 hb3 hFR hkk hk1 hz hcnt hz1 hz3 hz4 hv0 s1 s3 s4 s5 H4
        obtain ⟨wq, hwq⟩ : ∃ wq, wq = wr := ⟨_, rfl⟩
        subst hwq
        obtain ⟨i0, hi0, hz0, hz1, hz2⟩ := info_parts info_string
        go_loopw [12, 58] (fun v j2 wi => ∃ (m : Nat) (vo' : Option Addr) (vc' : Nat), m ≤ wbl.length ∧ v = .slice vo' (wl.length + m) vc' ∧ j2 = .int .i64 m ∧ Hid (IL w1 (w4.alloc (.cells #[.int .i64 (o.getD zeroT).k, .int .i64 (o.getD zeroT).n, .string (o.getD zeroT).s, .slice y1 (o.getD zeroT).keys.length d1, .slice y2 (o.getD zeroT).kids.length d2, .bool o.isSome] 40)) wi (.slice vo wl.length vc) v wl.length m (A.sz + B.sz + C.sz))) (fun _ j2 _ => wbl.length - (intOf j2).toNat)
        case atStart => exact ⟨0, vo, vc, Nat.zero_le _, rfl, rfl, HIL⟩
        case round =>
          obtain ⟨m, vo', vc', hm, rfl, rfl, hI⟩ := hrel
          by_cases hml : m < wbl.length
          · obtain ⟨hc, hso, hsb, hsl⟩ := HC.out m hml
            subst hso
            have hcell := (World.cell?_of_block (w := w4) (w' := wr) (a := ⟨sb, soff + m, none⟩) ((hI.out.grown.block sb (by rw [hw5.out]; omega) hsb).trans (Below.heap_alloc w4 _ _ hsl))).trans hc
            have hway := HN.out.2.1 _ (List.getElem_mem hml)
            have HRowE := Lib.hid hI.out.row
            have HE : Hid (wrap64 ((m : Int) + 1) = ((m + 1 : Nat) : Int)) := by
              have h1 := HN.out.1
              have h2 := HN.out.2.2.1
              have h3 := HN.out.2.2.2.1
              show wrap64 _ = _
              unfold wrap64; omega
            have hI5 : Hid ((w4.alloc (.cells #[.int .i64 (o.getD zeroT).k, .int .i64 (o.getD zeroT).n, .string (o.getD zeroT).s, .slice y1 (o.getD zeroT).keys.length d1, .slice y2 (o.getD zeroT).kids.length d2, .bool o.isSome] 40)).heap.size ≤ wr.heap.size) := hI.out.grown.size
            clear hc hsb
            generalize wbl[m] = way at *
            have HB : Hid (key.size + way.size + 1 ≤ A.sz + B.sz + C.sz ∧ A.sz + B.sz + C.sz ≤ 1000000 ∧ wl.length + m ≤ 4000000 ∧ w1.heap.size ≤ wr.heap.size + 1) := by
              have h1 := HN.out.1
              have h2 := HN.out.2.2.1
              have h3 := HN.out.2.2.2.1
              have h4 := HN.out.2.2.2.2
              have h5 := HSz.out
              have h6 := hI5.out
              rw [hw5.out] at h6
              refine ⟨by omega, h3, by omega, by omega⟩
            obtain ⟨wlm, hwl1, hwl2, hwl3⟩ := HRowE.out
            have HRow := Lib.hid (fun ob' => owns_below hwl3 ((Below.refl _ wr).alloc (Nat.le_refl _) ob'))
            have HW := Lib.hid (And.intro hwl1 hwl2)
            have hbd : key.size + way.size + 1 ≤ 140737488355328 := by have := HB.out; omega
            clear hwl1 hwl2 hwl3 hway
            go_wp2_with (first
              | (go_at_call 52; refine (impl_wayBelow key way _ hbd).mono ?_; rintro e w6 ⟨s, rfl, hss, e6⟩; subst w6; have HSS := Lib.hid hss; clear hss)
              | (at_builtin; refine wpList_append_lies _ rfl (.tmp 62) (.tmp 66) 24 rfl w1.heap.size 9 i0 _ 1 16 Tryz.underlying24 hi0 hz0 hz1 hz2 rfl (by decide) (.slice vo' (wl.length + m) vc') (wl.length + m) _ rfl (HRow.out _) ⟨wr.heap.size, 0, none⟩ 1 1 [.string s] rfl rfl (World.news_of_block (cs := #[.string s]) (t := 9) (fr := (0, 0)) (heap_last wr _)) (by simp [Value.oneCell']) (by omega) (by have := HB.out; unfold maxLen; omega) (by have := HB.out; omega) (by simp; have := HB.out; omega) (wr.heap.size + 1) (by simp) ?_; intro g cap' w7 hown7 hgrow hat hltg; have H7 := Lib.hid (And.intro hown7 (And.intro hgrow hat)); clear hown7 hgrow hat hltg)
              | go_in)
            have hst := hI.out.step HW.out.1 HW.out.2 (s := s) (by have := HSS.out; have := HB.out; omega) H7.out.1 H7.out.2.1 H7.out.2.2
            exact ⟨⟨m + 1, _, _, by omega, rfl, by rw [HE.out], hst⟩, by rw [HE.out]; simp [intOf]; omega⟩
          · have em : m = wbl.length := by omega
            subst em
            have hA := HAf.out wr _ _ hI.out
            have hbx := (hI.out.grown.block w4.heap.size (by rw [hw5.out]; omega) (fun e => by have := (HV.out _ e.symm).2; have := HSz.out; omega)).trans HIb.out
            obtain ⟨c0, c1, c2, c3, c4, c5, cf⟩ := six hbx
            have hn : n < maxLen := by have h1 := hr.out.le; have h2 := H.out.leM; have h3 := H.out.few; unfold maxLen; omega
            clear hbx
            cases o with
            | none =>
              have c5 : wr.cell? ⟨w4.heap.size, 5, none⟩ = some (.bool false) := c5
              go_wp2_with (first
                | (at_delete; refine wpList_delete_own _ rfl _ _ 84 9 rfl 27 strK Tryz.underlying84 heldV bM n D rfl hA.own _ _ rfl (keyOf_key hks) ?_; intro w8 hown hturn; have H8 := Lib.hid (And.intro hown hturn); clear hown hturn; go_frame)
                | go_in)
              have hk := HKey.out
              subst hk
              obtain ⟨wl', hwl, hML'⟩ := ML.drop H.out hr.out hlt hI.out HN.out.1 hA HP.out.2.2.2.2 H8.out.1 H8.out.2.grown
              exact ⟨⟨j + 1, n, _, _, vo', vc', wl', _, _, by omega, by omega, by rw [hwl], rfl, by omega, by omega, fun _ => rfl, hML'⟩, by show ks.length - j - 1 < ks.length - j; omega⟩
            | some X =>
              have c5 : wr.cell? ⟨w4.heap.size, 5, none⟩ = some (.bool true) := c5
              go_wp2_with (first
                | (at_mapUpdate; refine wpList_put_kid _ rfl _ _ _ rfl bM n D rfl hA.own hn key rfl hks (.agg #[.int .i64 X.k, .int .i64 X.n, .string X.s, .slice y1 X.keys.length d1, .slice y2 X.kids.length d2]) rfl ?_; intro w8 hown hturn; have H8 := Lib.hid (And.intro hown hturn); clear hown hturn; go_frame)
                | go_in)
              have hk := HKey.out
              subst hk
              obtain ⟨wl', hwl, hML'⟩ := ML.put H.out hr.out hlt hI.out HN.out.1 hA HP.out.2.2.2.2 H8.out.1 H8.out.2
              go_step3
              exact ⟨rfl, ⟨j + 1, n + 1, _, _, vo', vc', wl', some ⟨kb, koff + (j + 1), none⟩, cc - 1, by rw [hwl]; exact hML', by omega, by omega, by omega, fun _ => rfl, by rw [hwl]; exact ⟨_, _, _, _, _, _, _, _, _, _, _, _, _, _, _, _, _, _, _, _, _, _, _, _, _, _, _, _, _, _, _, _, _, _, _, _, _, _, _, _, _, _, _, _, _, _, _, _, _, _, _, _, _, _, _, _, _, _, _, _, _, _, _, _, _, _, rfl⟩⟩, by show ks.length - j - 1 < ks.length - i; omega⟩
    · have e : j = ks.length := by omega
      subst e
      have e0 : ks.length - ks.length = 0 := Nat.sub_self _
      rw [e0]
      have hle : n ≤ 4000000 := by have h1 := hr.out.le; have h2 := H.out.leM; have h3 := H.out.few; omega
      have hres : wr.heap[w.heap.size + 1 + 1 + 1]? = some (.cells #[.int .i64 0, .int .i64 0, .string ⟨#[]⟩, .slice none 0 0, .slice none 0 0] 27 (0, 0)) := (hr.out.grown.block _ (by have := H.out.size; omega) (fun e => by injection e with e; have := H.out.geM; omega)).trans H.out.res
      have hlr : w.heap.size + 1 + 1 + 1 < wr.heap.size := by have h1 := H.out.size; have h2 := hr.out.grown.size; omega
      have HT := Lib.hid (impl_kidsNode hr.out.own hr.out.is hle)
      go_wp2_with (first
        | (go_at_call 53; refine HT.out.mono ?_; rintro e wn ⟨kn, kv, dv, F, rfl, hl, hFn, hnd, hmem, hbn⟩; obtain ⟨⟨o1, q1, rfl⟩, ⟨o2, q2, rfl⟩⟩ := hl.slices; have hresn := (hbn.block _ hlr).trans hres; obtain ⟨x0, x1, x2, x3, x4, xf⟩ := five hresn; have HN := Lib.hid (And.intro hl (And.intro hFn (And.intro hnd (And.intro hmem hbn)))); clear hl hFn hnd hmem hbn)
        | go_in)
      exact bodyPost_ret (ret_nodeB Tryz.results32 rfl rfl (set5_end hresn _ _ _ _ _)) rfl (ML.fin H.out HF.out hr.out HN.out.1 HN.out.2.1 HN.out.2.2.1 HN.out.2.2.2.1 HN.out.2.2.2.2)
end Go.Proofs.YtelpkcbbipianaaGreat
