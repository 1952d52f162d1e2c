/-
  What is proved: the model's dent in a tree: a Key taken away, another one set, or a Kid's Kid stored over: what it answers lies in memory that no cursor is in; nothing turns but the cursor.
-/
import Derived.Test.YtelpkcbbipianaaGreatPartAX
import Derived.Test.YtelpkcbbipianaaGreatPartAY
import Derived.Test.YtelpkcbbipianaaGreatDrawA
import Derived.Test.YtelpkcbbipianaaGreatPartAD
import Derived.Deep.DeepCutAuto
namespace Go.Proofs.YtelpkcbbipianaaGreat
open Go Go.RowKit

/-- Where the dent stands: the cursor; the block of the tree that was handed in and that of what is answered. -/
structure DN (w wr : World) (p : Nat) (a : Option Addr) (len cap : Nat) (v0 v1 v2 v3 v4 : Value) : Prop where
  cur : Cur wr p a len cap
  grown : w.grownBy wr (some p)
  box : wr.heap[w.heap.size]? = some (.cells #[v0, v1, v2, v3, v4] 27 (0, 0))
  res : wr.heap[w.heap.size + 1]? = some (.cells #[.int .i64 0, .int .i64 0, .string ⟨#[]⟩, .slice none 0 0, .slice none 0 0] 27 (0, 0))

section
variable {w wr w1 : World} {p : Nat} {a : Option Addr} {len cap : Nat} {v0 v1 v2 v3 v4 : Value}

theorem DN.start (h : Cur w p a len cap) (v0 v1 v2 v3 v4 : Value) : DN w ((w.alloc (.cells #[v0, v1, v2, v3, v4] 27)).alloc (.cells #[.int .i64 0, .int .i64 0, .string ⟨#[]⟩, .slice none 0 0, .slice none 0 0] 27)) p a len cap v0 v1 v2 v3 v4 := by
  have hc := CBox.start w 27 v0 v1 v2 v3 v4
  exact ⟨h.on hc.below, grown_below hc.below, hc.box, hc.res⟩

theorem DN.lt (h : DN w wr p a len cap v0 v1 v2 v3 v4) : w.heap.size + 2 ≤ wr.heap.size := by
  have := (Array.getElem?_eq_some_iff.1 h.res).1
  omega

theorem DN.draw (h : DN w wr p a len cap v0 v1 v2 v3 v4) (hp : p < w.heap.size) (hc : Cur w1 p a len cap) (hg : wr.grownBy w1 (some p)) : DN w w1 p a len cap v0 v1 v2 v3 v4 :=
  ⟨hc, h.grown.andThen hg (fun _ hj => .inr hj), (hg.block _ (by have := h.lt; omega) (fun e => by injection e with e; omega)).trans h.box, (hg.block _ (by have := h.lt; omega) (fun e => by injection e with e; omega)).trans h.res⟩

theorem DN.next (h : DN w wr p a len cap v0 v1 v2 v3 v4) (hb : Below wr.heap.size wr w1) : DN w w1 p a len cap v0 v1 v2 v3 v4 :=
  ⟨h.cur.on hb, h.grown.andThen (grown_below hb (p := p)) (fun _ hj => .inr hj), (hb.block _ (by have := h.lt; omega)).trans h.box, (hb.block _ (by have := h.lt; omega)).trans h.res⟩

/-- What lay in w lies there still. -/
theorem DN.lies (h : DN w wr p a len cap v0 v1 v2 v3 v4) {T : RT} {kv dv : Value} {F : List Nat} (hl : Lies w T kv dv F) (hF : ∀ y ∈ F, y ≠ p) : Lies wr T kv dv F :=
  hl.carry fun y hy => h.grown.block y (hl.lt y hy) (fun e => by injection e with e; exact hF y hy e)

/-- What is answered is stored. -/
theorem DN.fin (h : DN w wr p a len cap v0 v1 v2 v3 v4) (h0 : Cur w p a len cap) {T : RT} {kv dv : Value} {F : List Nat} (hl : Lies wr T kv dv F) (hn : ∀ y ∈ F, y ≠ w.heap.size + 1) :
    (set5 wr (w.heap.size + 1) 0 (.int .i64 T.k) (.int .i64 T.n) (.string T.s) kv dv).heap[w.heap.size + 1]? = some (.cells #[.int .i64 T.k, .int .i64 T.n, .string T.s, kv, dv] 27 (0, 0)) ∧
    Lies (set5 wr (w.heap.size + 1) 0 (.int .i64 T.k) (.int .i64 T.n) (.string T.s) kv dv) T kv dv F ∧
    Cur (set5 wr (w.heap.size + 1) 0 (.int .i64 T.k) (.int .i64 T.n) (.string T.s) kv dv) p a len cap ∧ w.grownBy (set5 wr (w.heap.size + 1) 0 (.int .i64 T.k) (.int .i64 T.n) (.string T.s) kv dv) (some p) := by
  have keep : ∀ y ∈ F, (set5 wr (w.heap.size + 1) 0 (.int .i64 T.k) (.int .i64 T.n) (.string T.s) kv dv).heap[y]? = wr.heap[y]? := fun y hy => set5_other _ _ _ _ _ _ _ _ _ (hn y hy)
  exact ⟨set5_end h.res _ _ _ _ _, hl.carry keep, h.cur.put (by have := h0.lt; omega) (apart_size h0 (by omega)) _ _ _ _ _, grown_put h.grown (by omega) _ _ _ _ _⟩
end

/-- A cell of another block than the cursor's has been stored over. -/
theorem Cur.over {w : World} {p : Nat} {a : Option Addr} {len cap : Nat} (h : Cur w p a len cap) {B : Nat} (hB : B ≠ p) (hA : Apart a len B) (o : Nat) (v0 v1 v2 v3 v4 : Value) : Cur (set5 w B o v0 v1 v2 v3 v4) p a len cap := by
  obtain ⟨i, x, hi, hc⟩ := h.cur
  refine ⟨⟨i, x, hi, (set5_other _ _ _ _ _ _ _ _ _ (Ne.symm hB)).trans hc⟩, ?_, h.apart⟩
  obtain ⟨hl, h0 | ⟨b, off, rfl, hlt, hcc⟩⟩ := h.code
  · exact ⟨hl, .inl h0⟩
  · rcases hA with h0 | hne
    · exact ⟨hl, .inl h0⟩
    refine ⟨hl, .inr ⟨b, off, rfl, by rw [set5_size]; exact hlt, fun j hj => ?_⟩⟩
    obtain ⟨z, hz, hcell⟩ := hcc j hj
    exact ⟨z, hz, (World.cell?_of_block (w := w) (a := ⟨b, off + j, none⟩) (set5_other _ _ _ _ _ _ _ _ b (hne ⟨b, off, none⟩ rfl))).trans hcell⟩

theorem DN.over {w wr : World} {p : Nat} {a : Option Addr} {len cap : Nat} {v0 v1 v2 v3 v4 : Value} (h : DN w wr p a len cap v0 v1 v2 v3 v4) (h0 : Cur w p a len cap) {B : Nat} (hB : w.heap.size + 2 ≤ B) (o : Nat) (u0 u1 u2 u3 u4 : Value) : DN w (set5 wr B o u0 u1 u2 u3 u4) p a len cap v0 v1 v2 v3 v4 :=
  have hb := set5_below (Below.refl 0 wr) (Nat.zero_le B) o u0 u1 u2 u3 u4
  ⟨h.cur.over (by have := h0.lt; omega) (apart_size h0 (by omega)) _ _ _ _ _ _, ⟨hb.os.trans h.grown.os, hb.tape.trans h.grown.tape, hb.output.trans h.grown.output, by rw [set5_size]; exact h.grown.size, fun k hk hne => (set5_other _ _ _ _ _ _ _ _ k (by omega)).trans (h.grown.block k hk hne)⟩,
    (set5_other _ _ _ _ _ _ _ _ _ (by omega)).trans h.box, (set5_other _ _ _ _ _ _ _ _ _ (by omega)).trans h.res⟩

/-- A tree whose i-th Kid has been stored over. -/
theorem kid_over {w wr : World} {T X : RT} {kv dv kx dx : Value} {F FX : List Nat} (hl : Lies wr T kv dv F) (hf : Fresh w wr F) (hX : Lies wr X kx dx FX) (hfX : Fresh w wr FX) (hd : ∀ x ∈ FX, x ∉ F) {i : Nat} (hi : i < T.kids.length) :
    ∃ b off cap u0 u1 u2 u3 u4, dv = .slice (some ⟨b, off, none⟩) T.kids.length cap ∧ T.kids.length ≤ cap ∧ cap ≤ maxLen ∧ b ∈ F ∧ (∀ o, wr.frozen? ⟨b, o, none⟩ = false) ∧
      wr.cell? ⟨b, off + i * 5, none⟩ = some u0 ∧ wr.cell? ⟨b, off + i * 5 + 1, none⟩ = some u1 ∧ wr.cell? ⟨b, off + i * 5 + 2, none⟩ = some u2 ∧ wr.cell? ⟨b, off + i * 5 + 3, none⟩ = some u3 ∧ wr.cell? ⟨b, off + i * 5 + 4, none⟩ = some u4 ∧
      ∃ F', Lies (set5 wr b (off + i * 5) (.int .i64 X.k) (.int .i64 X.n) (.string X.s) kx dx) (.node T.k T.n T.s T.keys (T.kids.set i X)) kv dv F' ∧ Fresh w (set5 wr b (off + i * 5) (.int .i64 X.k) (.int .i64 X.n) (.string X.s) kx dx) F' ∧ ∀ y ∈ F', y ∈ F ∨ y ∈ FX := by
  obtain ⟨f1, f2, f3, FK, FD, hK, hD, rfl⟩ := hl.out
  obtain ⟨n1, n2, n3⟩ := List.nodup_append.1 hf.nodup
  obtain ⟨b, off, cap, u0, u1, u2, u3, u4, hdv, hc1, hc2, hbF, hfz, c0, c1, c2, c3, c4, F', hk, hfk, hm⟩ := kids_put hD ⟨n2, fun y hy => hf.old y (List.mem_append_right _ hy), fun y hy => hf.free y (List.mem_append_right _ hy)⟩ hX hfX (fun y hy hy' => hd y hy (List.mem_append_right _ hy')) hi
  have keep : ∀ y ∈ FK, (set5 wr b (off + i * 5) (.int .i64 X.k) (.int .i64 X.n) (.string X.s) kx dx).heap[y]? = wr.heap[y]? := fun y hy => set5_other _ _ _ _ _ _ _ _ _ (fun e => n3 y hy b hbF e)
  have hfK : Fresh w (set5 wr b (off + i * 5) (.int .i64 X.k) (.int .i64 X.n) (.string X.s) kx dx) FK := (show Fresh w wr FK from ⟨n1, fun y hy => hf.old y (List.mem_append_left _ hy), fun y hy => hf.free y (List.mem_append_left _ hy)⟩).carry keep
  refine ⟨b, off, cap, u0, u1, u2, u3, u4, hdv, hc1, hc2, List.mem_append_right _ hbF, hfz, c0, c1, c2, c3, c4, FK ++ F', Lies.into f1 f2 f3 (hK.carry keep) hk, ⟨List.nodup_append.2 ⟨n1, hfk.nodup, fun x hx y hy e => ?_⟩, fun y hy => ?_, fun y hy => ?_⟩, fun y hy => ?_⟩
  · subst e
    rcases hm x hy with h' | h'
    · exact n3 x hx x h' rfl
    · exact hd x h' (List.mem_append_left _ hx)
  · rcases List.mem_append.1 hy with hy | hy
    · exact hfK.old y hy
    · exact hfk.old y hy
  · rcases List.mem_append.1 hy with hy | hy
    · exact hfK.free y hy
    · exact hfk.free y hy
  · rcases List.mem_append.1 hy with hy | hy
    · exact .inl (List.mem_append_left _ hy)
    · rcases hm y hy with h' | h'
      · exact .inl (List.mem_append_right _ h')
      · exact .inr h'

theorem set_sz (T X : RT) (i : Nat) : (RT.node T.k T.n T.s T.keys (T.kids.set i X)).sz ≤ T.sz + X.sz := by
  cases T with
  | node k n s keys kids =>
    have := szAll_set X kids i
    simp only [RT.sz, RT.s, RT.keys, RT.kids, List.length_set]
    omega

theorem kid_sz {T : RT} {i : Nat} (hi : i < T.kids.length) : T.kids[i].sz ≤ T.sz := by
  cases T with
  | node k n s keys kids =>
    have h1 := sz_take kids (List.getElem_mem hi)
    simp only [RT.sz, RT.kids] at *
    omega

/-- The model's Get of any node. -/
theorem spec_get_any (T : RT) (key : ByteArray) (w : World) (kv dv : Value) (F : List Nat) (hl : Lies w T kv dv F) (hsz : T.sz ≤ 1048576) :
    Calls Tryz.prog 41 #[.agg #[.int .i64 T.k, .int .i64 T.n, .string T.s, kv, dv], .string key] w fun e w' => ∃ (X : RT) (kv' dv' : Value) (F' : List Nat) (ok : Bool), e = .returned (.tuple #[.agg #[.int .i64 X.k, .int .i64 X.n, .string X.s, kv', dv'], .bool ok]) ∧ Lies w' X kv' dv' F' ∧ Fresh w w' F' ∧ Below w.heap.size w w' ∧ X.sz ≤ T.sz := by
  have hz : (RT.node 0 0 ⟨#[]⟩ [] []).sz ≤ T.sz := by
    have h0 : (⟨#[]⟩ : ByteArray).size = 0 := rfl
    cases T
    simp only [RT.sz, szAll, strSz, h0, List.length_nil, List.map_nil, List.sum_nil]
    omega
  have hno : NoneAt T.k T.keys T.kids.length key → Calls Tryz.prog 41 #[.agg #[.int .i64 T.k, .int .i64 T.n, .string T.s, kv, dv], .string key] w fun e w' => ∃ (X : RT) (kv' dv' : Value) (F' : List Nat) (ok : Bool), e = .returned (.tuple #[.agg #[.int .i64 X.k, .int .i64 X.n, .string X.s, kv', dv'], .bool ok]) ∧ Lies w' X kv' dv' F' ∧ Fresh w w' F' ∧ Below w.heap.size w w' ∧ X.sz ≤ T.sz := fun h => by
    refine (spec_get_no T key h w kv dv F hl).mono ?_
    rintro e w' ⟨rfl, hb⟩
    exact ⟨.node 0 0 ⟨#[]⟩ [] [], _, _, [], false, rfl, leaf_lies w' ⟨by decide, by decide⟩ ⟨by decide, by decide⟩ (by decide), Fresh.nil _ _, hb, hz⟩
  by_cases h5 : T.k = 5
  · rcases first_or T.keys key with ⟨i, hi⟩ | ha
    · by_cases hik : i < T.kids.length
      · refine (spec_get_yes T key i ⟨h5, hik, hi⟩ hik w kv dv F hl hsz).mono ?_
        rintro e w' ⟨kv', dv', F', rfl, h1, h2, h3⟩
        exact ⟨_, kv', dv', F', true, rfl, h1, h2, h3, kid_sz hik⟩
      · exact hno fun _ j hj hjm => hi.2.2 j (by omega)
    · exact hno fun _ j hj _ => ha j hj
  · exact hno fun e => absurd e h5

theorem dent_key {j : Nat} (hj : j < 10) : ∃ x : ByteArray, x.size ≤ 7 ∧ (#[.string ⟨#[107, 105, 110, 100]⟩, .string ⟨#[110, 97, 109, 101]⟩, .string ⟨#[108, 111, 119]⟩, .string ⟨#[104, 105, 103, 104]⟩, .string ⟨#[109, 101, 116, 114, 105, 99, 115]⟩, .string ⟨#[112, 97, 99, 101]⟩, .string ⟨#[110, 111, 116, 101, 115]⟩, .string ⟨#[116, 97, 114, 103, 101, 116]⟩, .string ⟨#[115, 104, 97, 114, 101]⟩, .string ⟨#[120]⟩] : Array Value)[j]? = some (.string x) := by
  obtain rfl | rfl | rfl | rfl | rfl | rfl | rfl | rfl | rfl | rfl : j = 0 ∨ j = 1 ∨ j = 2 ∨ j = 3 ∨ j = 4 ∨ j = 5 ∨ j = 6 ∨ j = 7 ∨ j = 8 ∨ j = 9 := by omega
  all_goals exact ⟨_, by decide, rfl⟩

set_option maxRecDepth 100000 in
set_option maxHeartbeats 3200000 in
theorem dent_any (a : Option Addr) (len cap p : Nat) (w : World) (hc : Cur w p a len cap) (T : RT) (kv dv : Value) (F : List Nat) (hl : Lies w T kv dv F) (hF : ∀ y ∈ F, y ≠ p) (hT : T.sz ≤ 1000000) :
    Calls Tryz.prog 23 #[.pointer (some ⟨p, 0, none⟩), .agg #[.int .i64 T.k, .int .i64 T.n, .string T.s, kv, dv]] w fun e w' => ∃ R kv' dv' F', e = .returned (.agg #[.int .i64 R.k, .int .i64 R.n, .string R.s, kv', dv']) ∧ Lies w' R kv' dv' F' ∧ (∀ y ∈ F', y ∈ F ∨ w.heap.size ≤ y) ∧ Cur w' p a len cap ∧ w.grownBy w' (some p) := by
  have HC := Lib.hid hc
  have HD := Lib.hid (DN.start hc (.int .i64 T.k) (.int .i64 T.n) (.string T.s) kv dv)
  have hp : Hid (p < w.heap.size) := hc.lt
  have HL := Lib.hid (And.intro hl (And.intro hF hl.lt))
  obtain ⟨⟨o1, q1, rfl⟩, ⟨o2, q2, rfl⟩⟩ := hl.slices
  clear hc hl hF
  have t1 : True := trivial
  go_enter Tryz.func23, Tryz.ntmps23
  go_wp2_with fail
  refine (below_any 10 (by omega) (by omega) a len cap p _ (HD.out.next ((Below.refl _ _).alloc (Nat.le_refl _) (.cells #[.string ⟨#[107, 105, 110, 100]⟩, .string ⟨#[110, 97, 109, 101]⟩, .string ⟨#[108, 111, 119]⟩, .string ⟨#[104, 105, 103, 104]⟩, .string ⟨#[109, 101, 116, 114, 105, 99, 115]⟩, .string ⟨#[112, 97, 99, 101]⟩, .string ⟨#[110, 111, 116, 101, 115]⟩, .string ⟨#[116, 97, 114, 103, 101, 116]⟩, .string ⟨#[115, 104, 97, 114, 101]⟩, .string ⟨#[120]⟩] 9))).cur.cur (HD.out.next ((Below.refl _ _).alloc (Nat.le_refl _) (.cells #[.string ⟨#[107, 105, 110, 100]⟩, .string ⟨#[110, 97, 109, 101]⟩, .string ⟨#[108, 111, 119]⟩, .string ⟨#[104, 105, 103, 104]⟩, .string ⟨#[109, 101, 116, 114, 105, 99, 115]⟩, .string ⟨#[112, 97, 99, 101]⟩, .string ⟨#[110, 111, 116, 101, 115]⟩, .string ⟨#[116, 97, 114, 103, 101, 116]⟩, .string ⟨#[115, 104, 97, 114, 101]⟩, .string ⟨#[120]⟩] 9))).cur.code HD.out.cur.apart).mono ?_
  rintro e w1 ⟨⟨r, hr, rfl⟩, hc1, ho1⟩
  obtain ⟨x, hx, hcx⟩ := dent_key hr
  have hkb := (DN.start HC.out (.int .i64 T.k) (.int .i64 T.n) (.string T.s) (.slice o1 T.keys.length q1) (.slice o2 T.kids.length q2)).lt
  have cx : w1.cell? ⟨w.heap.size + 1 + 1, r, none⟩ = some (.string x) := by
    rw [ho1.cell (show w.heap.size + 1 + 1 ≠ p by have := hp.out; omega)]
    have e : (⟨w.heap.size + 1 + 1, r, none⟩ : Addr) = ⟨((w.alloc (.cells #[.int .i64 T.k, .int .i64 T.n, .string T.s, .slice o1 T.keys.length q1, .slice o2 T.kids.length q2] 27)).alloc (.cells #[.int .i64 0, .int .i64 0, .string ⟨#[]⟩, .slice none 0 0, .slice none 0 0] 27)).heap.size, r, none⟩ := by simp
    rw [e, cell_of (heap_last _ _) r]
    exact hcx
  have H1 := Lib.hid ((HD.out.next ((Below.refl _ _).alloc (Nat.le_refl _) (.cells  #[.string ⟨#[107, 105, 110, 100]⟩, .string ⟨#[110, 97, 109, 101]⟩, .string ⟨#[108, 111, 119]⟩, .string ⟨#[104, 105, 103, 104]⟩, .string ⟨#[109, 101, 116, 114, 105, 99, 115]⟩, .string ⟨#[112, 97, 99, 101]⟩, .string ⟨#[110, 111, 116, 101, 115]⟩, .string ⟨#[116, 97, 114, 103, 101, 116]⟩, .string ⟨#[115, 104, 97, 114, 101]⟩, .string ⟨#[120]⟩] 9))).draw hp.out ((HD.out.next ((Below.refl _ _).alloc (Nat.le_refl _) (.cells  #[.string ⟨#[107, 105, 110, 100]⟩, .string ⟨#[110, 97, 109, 101]⟩, .string ⟨#[108, 111, 119]⟩, .string ⟨#[104, 105, 103, 104]⟩, .string ⟨#[109, 101, 116, 114, 105, 99, 115]⟩, .string ⟨#[112, 97, 99, 101]⟩, .string ⟨#[110, 111, 116, 101, 115]⟩, .string ⟨#[116, 97, 114, 103, 101, 116]⟩, .string ⟨#[115, 104, 97, 114, 101]⟩, .string ⟨#[120]⟩] 9))).cur.only hc1 ho1) ho1.grown)
  have HX := Lib.hid hx
  clear hc1 ho1 hcx hx HD hkb
  go_wp2_with fail
  refine (below_any 6 (by omega) (by omega) a len cap p _ H1.out.cur.cur H1.out.cur.code H1.out.cur.apart).mono ?_
  rintro e w2 ⟨⟨r2, hr2, rfl⟩, hc2, ho2⟩
  have H2 := Lib.hid (H1.out.draw hp.out (H1.out.cur.only hc2 ho2) ho2.grown)
  clear hc2 ho2 cx H1
  obtain ⟨x0, x1, x2, x3, x4, -⟩ := five H2.out.box
  obtain ⟨z0, z1, z2, z3, z4, z5⟩ := five H2.out.res
  have HTl : Hid (Lies w2 T (.slice o1 T.keys.length q1) (.slice o2 T.kids.length q2) F) := H2.out.lies HL.out.1 HL.out.2.1
  obtain rfl | rfl | rfl | hbig : r2 = 0 ∨ r2 = 1 ∨ r2 = 2 ∨ 3 ≤ r2 := by omega
  · clear z0 z1 z2 z3 z4 z5
    go_wp2_with fail
    refine (spec_unset_any T x w2 _ _ F HTl.out (by omega)).mono ?_
    rintro e w3 ⟨R, kr, dr, FR, rfl, hlR, hfR, hbR, -⟩
    obtain ⟨⟨o3, q3, rfl⟩, ⟨o4, q4, rfl⟩⟩ := hlR.slices
    have hold : ∀ y ∈ FR, w.heap.size + 2 ≤ y := fun y hy => by have h1 := hfR.old y hy; have h2 := H2.out.lt; omega
    have HE := Lib.hid ((H2.out.next hbR).fin HC.out hlR (fun y hy => by have := hold y hy; omega))
    have HO : Hid (∀ y ∈ FR, y ∈ F ∨ w.heap.size ≤ y) := fun y hy => .inr (by have := hold y hy; omega)
    obtain ⟨z0, z1, z2, z3, z4, z5⟩ := five (H2.out.next hbR).res
    clear hlR hfR hbR hold
    go_wp2
    exact bodyPost_ret (ret_node Tryz.results23 rfl HE.out.1) rfl ⟨R, _, _, FR, rfl, HE.out.2.1, HO.out, HE.out.2.2.1, HE.out.2.2.2⟩
  · clear z0 z1 z2 z3 z4 z5
    have HW := Lib.hid (And.intro (H2.out.next (below_drewN (Below.refl _ w2) 1)) (HTl.out.stay (below_drewN (Below.refl w2.heap.size w2) 1) (Nat.le_refl _)))
    have HDr : Hid (∀ W, Cur W p a len cap → Calls Tryz.prog 36 #[.pointer (some ⟨p, 0, none⟩), .int .i64 1] W fun e w' => ∃ v, e = .returned v ∧ ∃ X kx dx FX, v = .agg #[.int .i64 X.k, .int .i64 X.n, .string X.s, kx, dx] ∧ Lies w' X kx dx FX ∧ Fresh W w' FX ∧ Cur w' p a len cap ∧ W.grownBy w' (some p) ∧ X.sz ≤ 10000) := fun W hW => by
      refine (draw_one a len cap p W hW).mono ?_
      rintro e w' ⟨X, kx, dx, FX, rfl, h1, h2, h3, h4, h5⟩
      exact ⟨_, rfl, X, kx, dx, FX, rfl, h1, h2, h3, h4, by have := wz_sz X; have := bnd_max (show 1 ≤ 3 by omega); omega⟩
    have HSt : Hid (∀ (W : World) (X : RT) (kx dx : Value) (FX : List Nat), Lies W T (.slice o1 T.keys.length q1) (.slice o2 T.kids.length q2) F → Lies W X kx dx FX → X.sz ≤ 10000 → Calls Tryz.prog 40 #[.agg #[.int .i64 T.k, .int .i64 T.n, .string T.s, .slice o1 T.keys.length q1, .slice o2 T.kids.length q2], .string x, .agg #[.int .i64 X.k, .int .i64 X.n, .string X.s, kx, dx]] W fun e w' => ∃ v, e = .returned v ∧ ∃ R kr dr GR, v = .agg #[.int .i64 R.k, .int .i64 R.n, .string R.s, kr, dr] ∧ Lies w' R kr dr GR ∧ Fresh W w' GR ∧ Below W.heap.size W w') := fun W X kx dx FX h1 h2 h3 => by
      refine (spec_set T X x W _ _ _ _ F FX h1 h2 (by omega) (by omega) (by have := HX.out; unfold maxLen; omega)).mono ?_
      rintro e w' ⟨kr, dr, GR, rfl, g1, g2, g3⟩
      exact ⟨_, rfl, setT T x X, kr, dr, GR, rfl, g1, g2, g3⟩
    go_wp2
    go_region_law (first
      | (refine step_calls (by rfl) 36 _ _ (by rfl) #[.pointer (some ⟨p, 0, none⟩), .int .i64 1] (by first | (simp [Act.eval]; done) | simp [Act.eval, Act.put]) (by intros; simp [go_sem]) (fun _ _ => rfl) (HDr.out _ HW.out.1.cur) ?_
         rintro u w3 ⟨X, kx, dx, FX, rfl, hlX, hfX, hc3, hg3, hz3⟩
         have H3 := Lib.hid (And.intro (HW.out.1.draw hp.out hc3 hg3) (And.intro hlX hz3))
         have HT3 : Hid (Lies w3 T (.slice o1 T.keys.length q1) (.slice o2 T.kids.length q2) F) := H3.out.1.lies HL.out.1 HL.out.2.1
         obtain ⟨⟨o5, q5, rfl⟩, ⟨o6, q6, rfl⟩⟩ := hlX.slices
         obtain ⟨u0, u1, u2, u3, u4, -⟩ := five H3.out.1.box
         clear hlX hfX hc3 hg3 hz3)
      | (refine step_calls (by rfl) 40 _ _ (by rfl) #[.agg #[.int .i64 T.k, .int .i64 T.n, .string T.s, .slice o1 T.keys.length q1, .slice o2 T.kids.length q2], .string x, .agg #[.int .i64 X.k, .int .i64 X.n, .string X.s, .slice o5 X.keys.length q5, .slice o6 X.kids.length q6]] (by simp [Act.eval]) (by intros; simp [go_sem]) (fun _ _ => rfl) (HSt.out w3 X _ _ _ HT3.out H3.out.2.1 H3.out.2.2) ?_
         rintro u w4 ⟨R, kr, dr, GR, rfl, hl4, hf4, hb4⟩
         obtain ⟨⟨o7, q7, rfl⟩, ⟨o8, q8, rfl⟩⟩ := hl4.slices
         have hold : ∀ y ∈ GR, w.heap.size + 2 ≤ y := fun y hy => by have h1 := hf4.old y hy; have h2 := H3.out.1.lt; omega
         have HE := Lib.hid ((H3.out.1.next hb4).fin HC.out hl4 (fun y hy => by have := hold y hy; omega))
         have HO : Hid (∀ y ∈ GR, y ∈ F ∨ w.heap.size ≤ y) := fun y hy => .inr (by have := hold y hy; omega)
         obtain ⟨z0, z1, z2, z3, z4, z5⟩ := five (H3.out.1.next hb4).res
         clear hl4 hf4 hb4 hold)
      | fail)
    all_goals go_wp2
    all_goals exact bodyPost_ret (ret_node Tryz.results23 rfl HE.out.1) rfl ⟨R, _, _, GR, rfl, HE.out.2.1, HO.out, HE.out.2.2.1, HE.out.2.2.2⟩
  · clear z0 z1 z2 z3 z4 z5
    go_wp2_with fail
    refine (spec_get_any T x w2 _ _ F HTl.out (by omega)).mono ?_
    rintro e w3 ⟨X, kx, dx, FX, ok, rfl, hlX, hfX, hbX, hzX⟩
    obtain ⟨⟨o3, q3, rfl⟩, ⟨o4, q4, rfl⟩⟩ := hlX.slices
    have H3 := Lib.hid (H2.out.next hbX)
    have HT3 : Hid (Lies w3 T (.slice o1 T.keys.length q1) (.slice o2 T.kids.length q2) F) := H3.out.lies HL.out.1 HL.out.2.1
    have HX3 := Lib.hid (And.intro hlX (And.intro (hfX.earlier (w := w) (by have := H2.out.lt; omega)) (And.intro (fun y (hy : y ∈ FX) => (by have h1 := hfX.old y hy; have h2 := H2.out.lt; omega : w.heap.size + 2 ≤ y)) hzX)))
    clear hlX hfX hbX hzX x0 x1 x2 x3 x4 HTl H2
    obtain ⟨x0, x1, x2, x3, x4, -⟩ := five H3.out.box
    cases ok
    · have hba := (Below.refl _ w3).alloc (Nat.le_refl _) (.cells #[.int .i64 X.k, .int .i64 X.n, .string X.s, .slice o3 X.keys.length q3, .slice o4 X.kids.length q4] 27)
      have HE := Lib.hid ((H3.out.next hba).fin HC.out (HT3.out.stay hba (Nat.le_refl _)) (fun y hy => by have := HL.out.2.2 y hy; omega))
      obtain ⟨z0, z1, z2, z3, z4, z5⟩ := five (H3.out.next hba).res
      obtain ⟨b0, b1, b2, b3, b4, -⟩ := five (H3.out.next hba).box
      clear hba
      go_wp2
      exact bodyPost_ret (ret_node Tryz.results23 rfl HE.out.1) rfl ⟨T, _, _, F, rfl, HE.out.2.1, fun y hy => .inl hy, HE.out.2.2.1, HE.out.2.2.2⟩
    · have hba := (Below.refl _ w3).alloc (Nat.le_refl _) (.cells #[.int .i64 X.k, .int .i64 X.n, .string X.s, .slice o3 X.keys.length q3, .slice o4 X.kids.length q4] 27)
      have H3a := Lib.hid (H3.out.next hba)
      have HT3a := Lib.hid (HT3.out.stay hba (Nat.le_refl _))
      have HX3a := Lib.hid (And.intro (HX3.out.1.stay hba (Nat.le_refl _)) (And.intro (HX3.out.2.1.carry fun y hy => hba.block y (HX3.out.1.lt y hy)) (And.intro HX3.out.2.2.1 (And.intro (heap_last w3 (.cells #[.int .i64 X.k, .int .i64 X.n, .string X.s, .slice o3 X.keys.length q3, .slice o4 X.kids.length q4] 27)) (And.intro H3.out.lt (And.intro HX3.out.1.lt HX3.out.2.2.2))))))
      obtain ⟨z0, z1, z2, z3, z4, z5⟩ := five H3a.out.res
      obtain ⟨b0, b1, b2, b3, b4, -⟩ := five H3a.out.box
      by_cases hk0 : X.kids.length = 0
      · have HE := Lib.hid (H3a.out.fin HC.out HT3a.out (fun y hy => by have := HL.out.2.2 y hy; omega))
        have hk2 : ¬ (0 < (X.kids.length : Int)) := by omega
        clear hba hk0
        go_wp2
        exact bodyPost_ret (ret_node Tryz.results23 rfl HE.out.1) rfl ⟨T, _, _, F, rfl, HE.out.2.1, fun y hy => .inl hy, HE.out.2.2.1, HE.out.2.2.2⟩
      · have hk1 : ((X.kids.length : Int) > 0) := by omega
        have hkz := (keys_le X).2
        clear hba z0 z1 z2 z3 z4 z5
        obtain ⟨b, off, rfl⟩ : ∃ b off, o4 = some ⟨b, off, none⟩ := by
          obtain ⟨-, -, -, FK, FD, -, hD, -⟩ := HX3a.out.1.out
          obtain ⟨o, cap, b, off, _, _, _, hdv, hlc, _, ho, _⟩ := hD
          injection hdv with e1 e2 e3
          exact ⟨b, off, by rw [e1]; exact ho (by omega)⟩
        have hq4 : X.kids.length ≤ q4 ∧ q4 ≤ 9223372036854775807 := by
          obtain ⟨-, -, -, FK, FD, -, hD, -⟩ := HX3a.out.1.out
          obtain ⟨o, cap, b, off, _, _, _, hdv, h1, h2, _⟩ := hD
          injection hdv with e1 e2 e3
          unfold maxLen at h2
          omega
        go_wp2_with fail
        refine (below_all X.kids.length (by omega) (by have := HX3a.out.2.2.2.2.2.2; omega) a len cap p _ H3a.out.cur).mono ?_
        rintro e w4 ⟨v, rfl, i, rfl, hi, hc4, hg4⟩
        have H4 := Lib.hid (H3a.out.draw hp.out hc4 hg4)
        have HX4 : Hid (Lies w4 X (.slice o3 X.keys.length q3) (.slice (some ⟨b, off, none⟩) X.kids.length q4) FX ∧ Fresh w w4 FX ∧ w4.heap[w3.heap.size]? = some (.cells #[.int .i64 X.k, .int .i64 X.n, .string X.s, .slice o3 X.keys.length q3, .slice (some ⟨b, off, none⟩) X.kids.length q4] 27 (0, 0)) ∧ w3.heap.size < w4.heap.size) := by
          have hne : ∀ y, w.heap.size + 2 ≤ y → some y ≠ some p := fun y hy e => by injection e with e; have := hp.out; omega
          have keep : ∀ y ∈ FX, w4.heap[y]? = _ := fun y hy => hg4.block y (HX3a.out.1.lt y hy) (hne y (HX3a.out.2.2.1 y hy))
          have hl := (Array.getElem?_eq_some_iff.1 HX3a.out.2.2.2.1).1
          exact ⟨HX3a.out.1.carry keep, HX3a.out.2.1.carry keep, (hg4.block _ hl (hne _ HX3a.out.2.2.2.2.1)).trans HX3a.out.2.2.2.1, Nat.lt_of_lt_of_le hl hg4.size⟩
        have HFar := Lib.hid (And.intro HX3a.out.2.2.1 (And.intro HX3a.out.2.2.2.2.1 (And.intro HX3a.out.2.2.2.2.2.1 HX3a.out.2.2.2.2.2.2)))
        have HQ := Lib.hid (And.intro hq4 hkz)
        clear hc4 hg4 x0 x1 x2 x3 x4 b0 b1 b2 b3 b4 hk0 hk1 HX3a HX3 HT3a HT3 H3a H3 hq4 hkz
        have HI := Lib.hid hi
        have hi0 : (0 : Int) ≤ (i : Int) := by omega
        have hi1 : (i : Int) < (X.kids.length : Int) := by omega
        have HW := Lib.hid (And.intro (H4.out.next (below_drewN (Below.refl _ w4) 1)) (And.intro (HX4.out.1.stay (below_drewN (Below.refl w4.heap.size w4) 1) (Nat.le_refl _)) (HX4.out.2.1.carry fun y hy => (below_drewN (Below.refl w4.heap.size w4) 1).block y (HX4.out.1.lt y hy))))
        have HDr : Hid (∀ W, Cur W p a len cap → Calls Tryz.prog 36 #[.pointer (some ⟨p, 0, none⟩), .int .i64 1] W fun e w' => ∃ v, e = .returned v ∧ ∃ X kx dx FX, v = .agg #[.int .i64 X.k, .int .i64 X.n, .string X.s, kx, dx] ∧ Lies w' X kx dx FX ∧ Fresh W w' FX ∧ Cur w' p a len cap ∧ W.grownBy w' (some p) ∧ X.sz ≤ 10000) := fun W hW => by
          refine (draw_one a len cap p W hW).mono ?_
          rintro e w' ⟨X, kx, dx, FX, rfl, h1, h2, h3, h4, h5⟩
          exact ⟨_, rfl, X, kx, dx, FX, rfl, h1, h2, h3, h4, by have := wz_sz X; have := bnd_max (show 1 ≤ 3 by omega); omega⟩
        obtain ⟨d0, d1, d2, d3, d4, -⟩ := five HX4.out.2.2.1
        go_upto_region 12 with fail
        go_cut [9] (fun q wc => ∃ (Y : RT) (F' : List Nat), q = .int .i64 i ∧ Y.kids.length = X.kids.length ∧ Y.keys.length = X.keys.length ∧ Y.k = X.k ∧ Y.n = X.n ∧ Y.s = X.s ∧ Hid (DN w wc p a len cap (.int .i64 T.k) (.int .i64 T.n) (.string T.s) (.slice o1 T.keys.length q1) (.slice o2 T.kids.length q2) ∧ Lies wc Y (.slice o3 X.keys.length q3) (.slice (some ⟨b, off, none⟩) X.kids.length q4) F' ∧
          wc.heap[w3.heap.size]? = some (.cells #[.int .i64 X.k, .int .i64 X.n, .string X.s, .slice o3 X.keys.length q3, .slice (some ⟨b, off, none⟩) X.kids.length q4] 27 (0, 0)) ∧ Y.sz ≤ 1020000))
        case first =>
          go_region_law (first
            | (refine step_calls (by rfl) 36 _ _ (by rfl) #[.pointer (some ⟨p, 0, none⟩), .int .i64 1] (by first | (simp [Act.eval]; done) | simp [Act.eval, Act.put]) (by intros; simp [go_sem]) (fun _ _ => rfl) (HDr.out _ HW.out.1.cur) ?_
               rintro u w5 ⟨Y, ky, dy, FY, rfl, hlY, hfY, hc5, hg5, hz5⟩
               obtain ⟨⟨o5, q5, rfl⟩, ⟨o6, q6, rfl⟩⟩ := hlY.slices
               have hne : ∀ y, w.heap.size + 2 ≤ y → some y ≠ some p := fun y hy e => by injection e with e; have := hp.out; omega
               have hX5 : Lies w5 X (.slice o3 X.keys.length q3) (.slice (some ⟨b, off, none⟩) X.kids.length q4) FX := HW.out.2.1.carry fun y hy => hg5.block y (HW.out.2.1.lt y hy) (hne y (HFar.out.1 y hy))
               have hF5 : Fresh w w5 FX := HW.out.2.2.carry fun y hy => hg5.block y (HW.out.2.1.lt y hy) (hne y (HFar.out.1 y hy))
               have hb5 : w5.heap[w3.heap.size]? = _ := (hg5.block _ (by exact HX4.out.2.2.2) (hne _ HFar.out.2.1)).trans HX4.out.2.2.1
               have g4 : w5.cell? ⟨w3.heap.size, 4, none⟩ = some (.slice (some ⟨b, off, none⟩) X.kids.length q4) := cell_of hb5 4
               have hH5 := HW.out.1.draw hp.out hc5 hg5
               have hlt4 : ∀ y ∈ FX, y < w4.heap.size := HW.out.2.1.lt
               obtain ⟨b', off', cap', u0, u1, u2, u3, u4, hdv, hcap1, hcap2, hbF, hfz, c0, c1, c2, c3, c4, F', hl', hf', hm'⟩ := kid_over hX5 hF5 hlY (hfY.earlier (by have := HW.out.1.lt; simp at this ⊢; omega)) (fun y hy hy' => by have h1 := hfY.old y hy; have h2 := hlt4 y hy'; simp at h1; omega) HI.out
               injection hdv with e1 e2 e3
               injection e1 with e1
               injection e1 with e1 e4
               subst e1 e4 e3
               have f0 := hfz (off + i * 5)
               have f1 := hfz (off + i * 5 + 1)
               have f2 := hfz (off + i * 5 + 2)
               have f3 := hfz (off + i * 5 + 3)
               have f4 := hfz (off + i * 5 + 4)
               have hb2 := HFar.out.1 b hbF
               have hbx : b ≠ w3.heap.size := fun e => by have := HFar.out.2.2.1 b hbF; omega
               have H6 := Lib.hid (hH5.over HC.out hb2 (off + i * 5) (.int .i64 Y.k) (.int .i64 Y.n) (.string Y.s) (.slice o5 Y.keys.length q5) (.slice o6 Y.kids.length q6))
               have HX6 := Lib.hid (And.intro hl' (And.intro ((set5_other w5 b (off + i * 5) (.int .i64 Y.k) (.int .i64 Y.n) (.string Y.s) (.slice o5 Y.keys.length q5) (.slice o6 Y.kids.length q6) w3.heap.size (fun e => hbx e.symm)).trans hb5) (show (RT.node X.k X.n X.s X.keys (X.kids.set i Y)).sz ≤ 1020000 by have h1 := set_sz X Y i; have h2 := HFar.out.2.2.2; omega)))
               unfold maxLen at hcap2
               clear hlY hfY hc5 hg5 hz5 hX5 hF5 hb5 hH5 hfz hl' hf' hm' hbF hcap1 hbx hne hlt4)
            | fail)
          all_goals
            go_wp2_with fail
            go_meet
            exact ⟨.node X.k X.n X.s X.keys (X.kids.set i Y), F', rfl, List.length_set, rfl, rfl, rfl, rfl, H6.out, HX6.out⟩
        case rest =>
          obtain ⟨Y, F', rfl, e1, e2, e3, e4, e5, HY⟩ := hcut
          have hbox := HY.out.2.2.1
          rw [← e3, ← e4, ← e5] at hbox
          obtain ⟨d0, d1, d2, d3, d4, -⟩ := five hbox
          obtain ⟨x0, x1, x2, x3, x4, -⟩ := five HY.out.1.box
          have HTc : Hid (Lies wc T (.slice o1 T.keys.length q1) (.slice o2 T.kids.length q2) F) := HY.out.1.lies HL.out.1 HL.out.2.1
          have HSt : Hid (Calls Tryz.prog 40 #[.agg #[.int .i64 T.k, .int .i64 T.n, .string T.s, .slice o1 T.keys.length q1, .slice o2 T.kids.length q2], .string x, .agg #[.int .i64 Y.k, .int .i64 Y.n, .string Y.s, .slice o3 X.keys.length q3, .slice (some ⟨b, off, none⟩) X.kids.length q4]] wc fun e w' => ∃ R kr dr GR, e = .returned (.agg #[.int .i64 R.k, .int .i64 R.n, .string R.s, kr, dr]) ∧ Lies w' R kr dr GR ∧ Fresh wc w' GR ∧ Below wc.heap.size wc w') := by
            refine (spec_set T Y x wc _ _ _ _ F F' HTc.out HY.out.2.1 (by omega) (by have := HY.out.2.2.2; omega) (by have := HX.out; unfold maxLen; omega)).mono ?_
            rintro e w' ⟨kr, dr, GR, rfl, g1, g2, g3⟩
            exact ⟨setT T x Y, kr, dr, GR, rfl, g1, g2, g3⟩
          clear e1 e2 e3 e4 e5 hbox HX4 HW H4
          go_wp2_with fail
          refine HSt.out.mono ?_
          rintro e w6 ⟨R, kr, dr, GR, rfl, hl6, hf6, hb6⟩
          obtain ⟨⟨o7, q7, rfl⟩, ⟨o8, q8, rfl⟩⟩ := hl6.slices
          have hold : ∀ y ∈ GR, w.heap.size + 2 ≤ y := fun y hy => by have h1 := hf6.old y hy; have h2 := HY.out.1.lt; omega
          have HE := Lib.hid ((HY.out.1.next hb6).fin HC.out hl6 (fun y hy => by have := hold y hy; omega))
          have HO : Hid (∀ y ∈ GR, y ∈ F ∨ w.heap.size ≤ y) := fun y hy => .inr (by have := hold y hy; omega)
          obtain ⟨z0, z1, z2, z3, z4, z5⟩ := five (HY.out.1.next hb6).res
          clear hl6 hf6 hb6 hold
          go_wp2
          exact bodyPost_ret (ret_node Tryz.results23 rfl HE.out.1) rfl ⟨R, _, _, GR, rfl, HE.out.2.1, HO.out, HE.out.2.2.1, HE.out.2.2.2⟩
  · have HE := Lib.hid (H2.out.fin HC.out HTl.out (fun y hy => by have := HL.out.2.2 y hy; omega))
    have n0 : ¬ ((r2 : Int) = 0) := by omega
    have n1 : ¬ ((r2 : Int) = 1) := by omega
    have n2 : ¬ ((r2 : Int) = 2) := by omega
    go_wp2
    exact bodyPost_ret (ret_node Tryz.results23 rfl HE.out.1) rfl ⟨T, _, _, F, rfl, HE.out.2.1, fun y hy => .inl hy, HE.out.2.2.1, HE.out.2.2.2⟩
end Go.Proofs.YtelpkcbbipianaaGreat
