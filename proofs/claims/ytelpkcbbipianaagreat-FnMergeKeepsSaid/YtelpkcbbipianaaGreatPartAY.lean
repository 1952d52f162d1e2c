/-
  What is proved: the model's Unset of a node that is no map, or has not the Key, answers it as it is, in memory of its own; of any node what it answers is not greater; no condition.; a pointer into a tree that lies in memory of its own: whatever the node behind it becomes, there is a tree again, and not much greater.; the model's drawing of trees that need not be right: what is drawn is small, and lies in memory of its own; nothing turns but the cursor.
-/
import Derived.Test.YtelpkcbbipianaaGreatPartAX
import Derived.Test.YtelpkcbbipianaaGreatPartAD
import Derived.Test.YtelpkcbbipianaaGreatPartAN
import Derived.Test.YtelpkcbbipianaaGreatPartAQ
/- the model's Unset of a node that is no map, or has not the Key, answers it as it is, in memory of its own; of any node what it answers is not greater; no condition. -/
namespace Go.Proofs.YtelpkcbbipianaaGreat
open Go Go.RowKit

set_option maxRecDepth 100000 in
set_option maxHeartbeats 4000000 in
theorem spec_unset_no (T : RT) (key : ByteArray) (h : NoneAt T.k T.keys T.kids.length key ∨ ¬ T.keys.length = T.kids.length) (w : World) (kv dv : Value) (F : List Nat) (hl : Lies w T kv dv F) (hT : T.sz ≤ 4000000) :
    Calls Tryz.prog 39 #[T.val kv dv, .string key] w fun e w' => ∃ kv' dv' F', e = .returned (T.val kv' dv') ∧ Lies w' T kv' dv' F' ∧ Fresh w w' F' ∧ Below w.heap.size w w' := by
  have HX := Lib.hid (CBox.start w 27 (.int .i64 T.k) (.int .i64 T.n) (.string T.s) kv dv)
  have HC := Lib.hid (fun (w1 : World) (hb : Below w.heap.size w w1) => scopy_node T w1 kv dv F (hl.stay hb (Nat.le_refl _)) hT)
  have hsz := keys_le T
  have HA : Hid (∀ W : World, Below w.heap.size w W → Calls Tryz.prog 65 #[T.val kv dv, .string key] W fun e w' => (e = .returned (.int .i64 (-1)) ∨ ∃ i : Nat, e = .returned (.int .i64 i) ∧ ¬ T.keys.length = T.kids.length) ∧ Below W.heap.size W w') := fun W hW => by
    obtain ⟨-, -, -, FK1, FD1, hK1, hD1, -⟩ := hl.out
    obtain ⟨o', q', e'⟩ := hD1.slice
    subst e'
    have hmm : T.kids.length ≤ maxLen := by have := hsz.2; unfold maxLen; omega
    refine (spec_at_any W (hK1.stay hW (Nat.le_refl _)) T.k T.n T.s o' T.kids.length q' hmm key).mono ?_
    rintro e w' ⟨h1, hb⟩
    refine ⟨?_, hb⟩
    rcases h1 with ⟨j, hj, rfl⟩ | ⟨hn, rfl⟩
    · rcases h with h | h
      · obtain ⟨g1, g2, g3, g4, -⟩ := hj
        exact absurd g4 (h g1 j g3 g2)
      · exact .inr ⟨j, rfl, h⟩
    · exact .inl rfl
  obtain ⟨⟨o1, q1, rfl⟩, ⟨o2, q2, rfl⟩⟩ := hl.slices
  clear hl h
  show Calls Tryz.prog 39 #[.agg #[.int .i64 T.k, .int .i64 T.n, .string T.s, .slice o1 T.keys.length q1, .slice o2 T.kids.length q2], .string key] w _
  go_enter Tryz.func39, Tryz.ntmps39
  go_wp2_with fail
  refine (HC.out _ HX.out.below).mono ?_
  rintro e w1 ⟨kv1, dv1, F1, rfl, hl1, hf1, hb1⟩
  have hb0 := HX.out.next hb1
  obtain ⟨⟨o3, q3, rfl⟩, ⟨o4, q4, rfl⟩⟩ := hl1.slices
  have hba := (Below.refl _ w1).alloc (Nat.le_refl _) (.cells #[.int .i64 T.k, .int .i64 T.n, .string T.s, .slice o3 T.keys.length q3, .slice o4 T.kids.length q4] 27)
  have H2 := Lib.hid (And.intro (hb0.next hba) (And.intro (hl1.stay hba (Nat.le_refl _)) (And.intro (hf1.carry fun y hy => hba.block y (hl1.lt y hy)) (And.intro (heap_last w1 (.cells #[.int .i64 T.k, .int .i64 T.n, .string T.s, .slice o3 T.keys.length q3, .slice o4 T.kids.length q4] 27)) (And.intro hb0.size (And.intro hba.size hl1.lt))))))
  clear hl1 hf1 hb1 hb0 hba HC HX
  go_upto_region 2 with fail
  generalize (w1.alloc (.cells #[.int .i64 T.k, .int .i64 T.n, .string T.s, .slice o3 T.keys.length q3, .slice o4 T.kids.length q4] 27)) = w2 at *
  generalize w1.heap.size = B at *
  clear w1
  obtain ⟨x0, x1, x2, x3, x4, -⟩ := five H2.out.1.box
  go_wp2_with fail
  refine (HA.out _ H2.out.1.below).mono ?_
  rintro e w3 ⟨hor, hb3⟩
  have H3 := Lib.hid (H2.out.1.next hb3)
  have HL3 := Lib.hid (H2.out.2.1.stay hb3 (Nat.le_refl _))
  have HF3 : Hid (Fresh w w3 F1) := ((H2.out.2.2.1.carry fun y hy => hb3.block y (H2.out.2.1.lt y hy)).earlier (by simp; omega))
  have hB3 : w3.heap[B]? = _ := (hb3.block B (Array.getElem?_eq_some_iff.1 H2.out.2.2.2.1).1).trans H2.out.2.2.2.1
  clear hb3 x0 x1 x2 x3 x4
  obtain ⟨x0, x1, x2, x3, x4, -⟩ := five H3.out.box
  obtain ⟨y0, y1, y2, y3, y4, y5⟩ := five hB3
  obtain ⟨z0, z1, z2, z3, z4, z5⟩ := five H3.out.res
  have neB : ¬ (w.heap.size + 1 = B) := by have := H2.out.2.2.2.2.1; omega
  have neC : ¬ (B = w.heap.size + 1) := by omega
  have keep : ∀ y ∈ F1, (set5 w3 (w.heap.size + 1) 0 (.int .i64 T.k) (.int .i64 T.n) (.string T.s) (.slice o3 T.keys.length q3) (.slice o4 T.kids.length q4)).heap[y]? = w3.heap[y]? := fun y hy => set5_other _ _ _ _ _ _ _ _ _ (by have := H2.out.2.2.1.old y hy; simp at this; omega)
  have HE := Lib.hid (And.intro (set5_end H3.out.res (.int .i64 T.k) (.int .i64 T.n) (.string T.s) (.slice o3 T.keys.length q3) (.slice o4 T.kids.length q4)) (And.intro (HL3.out.carry keep) (And.intro (HF3.out.carry keep) (set5_below H3.out.below (b := w.heap.size + 1) (by omega) 0 (.int .i64 T.k) (.int .i64 T.n) (.string T.s) (.slice o3 T.keys.length q3) (.slice o4 T.kids.length q4)))))
  clear keep hB3 hsz
  rcases hor with rfl | ⟨i, rfl, hne⟩
  · go_wp2
    exact bodyPost_ret (ret_node Tryz.results39 rfl HE.out.1) rfl ⟨_, _, F1, rfl, HE.out.2⟩
  · have hne' : ¬ ((T.keys.length : Int) = T.kids.length) := by omega
    have hne2 : ((T.keys.length : Int) != (T.kids.length : Int)) = true := by simpa using hne'
    clear hne hne'
    go_wp2
    exact bodyPost_ret (ret_node Tryz.results39 rfl HE.out.1) rfl ⟨_, _, F1, rfl, HE.out.2⟩

theorem szAll_cut (i : Nat) : (l : List RT) → (n : Nat) → n = i → szAll (l.take n ++ l.drop (n + 1)) ≤ szAll l
  | l, n, _ => by
    have h1 := szAll_append (l.take n) (l.drop n)
    rw [List.take_append_drop] at h1
    rw [szAll_append, h1]
    have h2 : szAll (l.drop (n + 1)) ≤ szAll (l.drop n) := by
      cases hd : l.drop n with
      | nil =>
        have : l.drop (n + 1) = [] := by rw [← List.drop_drop, hd]; rfl
        rw [this]; exact Nat.le_refl _
      | cons x xs =>
        have : l.drop (n + 1) = xs := by rw [← List.drop_drop, hd]; rfl
        rw [this, szAll]; omega
    omega

theorem strSz_cut (n : Nat) (l : List ByteArray) : strSz (l.take n ++ l.drop (n + 1)) ≤ strSz l := by
  have h1 := strSz_append (l.take n) (l.drop n)
  rw [List.take_append_drop] at h1
  rw [strSz_append, h1]
  have h2 : strSz (l.drop (n + 1)) ≤ strSz (l.drop n) := by
    cases hd : l.drop n with
    | nil =>
      have : l.drop (n + 1) = [] := by rw [← List.drop_drop, hd]; rfl
      rw [this]; exact Nat.le_refl _
    | cons x xs =>
      have : l.drop (n + 1) = xs := by rw [← List.drop_drop, hd]; rfl
      rw [this]
      simp [strSz]
  omega

theorem cutT_sz (T : RT) (i : Nat) : (cutT T i).sz ≤ T.sz := by
  cases T with
  | node k n s keys kids =>
    have h1 := szAll_cut i kids i rfl
    have h2 := strSz_cut i keys
    simp only [cutT, RT.sz, RT.s, RT.keys, RT.kids, List.length_append, List.length_take, List.length_drop]
    omega

/-- Of any node. -/
theorem spec_unset_any (T : RT) (key : ByteArray) (w : World) (kv dv : Value) (F : List Nat) (hl : Lies w T kv dv F) (hT : T.sz ≤ 4000000) :
    Calls Tryz.prog 39 #[.agg #[.int .i64 T.k, .int .i64 T.n, .string T.s, kv, dv], .string key] w fun e w' => ∃ R kv' dv' F', e = .returned (.agg #[.int .i64 R.k, .int .i64 R.n, .string R.s, kv', dv']) ∧ Lies w' R kv' dv' F' ∧ Fresh w w' F' ∧ Below w.heap.size w w' ∧ R.sz ≤ T.sz := by
  by_cases hm : T.isMap
  · rcases first_or T.keys key with ⟨i, hi⟩ | ha
    · refine (spec_unset_yes T key i hm hi w kv dv F hl hT).mono ?_
      rintro e w' ⟨kv', dv', F', rfl, h1, h2, h3⟩
      exact ⟨_, kv', dv', F', rfl, h1, h2, h3, cutT_sz T i⟩
    · refine (spec_unset_no T key (.inl fun _ i hi _ => ha i hi) w kv dv F hl hT).mono ?_
      rintro e w' ⟨kv', dv', F', rfl, h1, h2, h3⟩
      exact ⟨T, kv', dv', F', rfl, h1, h2, h3, Nat.le_refl _⟩
  · have h : NoneAt T.k T.keys T.kids.length key ∨ ¬ T.keys.length = T.kids.length := by
      by_cases h5 : T.k = 5
      · exact .inr fun e => hm ⟨h5, e⟩
      · exact .inl fun e => absurd e h5
    refine (spec_unset_no T key h w kv dv F hl hT).mono ?_
    rintro e w' ⟨kv', dv', F', rfl, h1, h2, h3⟩
    exact ⟨T, kv', dv', F', rfl, h1, h2, h3, Nat.le_refl _⟩
end Go.Proofs.YtelpkcbbipianaaGreat

/- a pointer into a tree that lies in memory of its own: whatever the node behind it becomes, there is a tree again, and not much greater. -/
namespace Go.Proofs.YtelpkcbbipianaaGreat
open Go Go.RowKit

/-- From wr to w' nothing has turned of what was made since w but the node's five cells and the blocks F. -/
structure Same (w wr w' : World) (nb no : Nat) (F : List Nat) : Prop where
  size : wr.heap.size ≤ w'.heap.size
  block : ∀ y, w.heap.size ≤ y → y < wr.heap.size → y ∉ F → y ≠ nb → w'.heap[y]? = wr.heap[y]?
  free : ∀ o, w'.frozen? ⟨nb, o, none⟩ = wr.frozen? ⟨nb, o, none⟩
  room : ∀ o, (wr.cell? ⟨nb, o, none⟩).isSome = true → (w'.cell? ⟨nb, o, none⟩).isSome = true
  cell : ∀ o, (o < no ∨ no + 5 ≤ o) → w'.cell? ⟨nb, o, none⟩ = wr.cell? ⟨nb, o, none⟩

/-- Whatever comes to lie in the node's five cells: the tree behind block B is one again. -/
def Plug (w wr : World) (B nb no M : Nat) (FN : List Nat) : Prop :=
  ∀ (w' : World) (N : RT) (kn dn : Value) (G : List Nat), Same w wr w' nb no FN → (∀ j, j < 5 → w'.cell? ⟨nb, no + j, none⟩ = (N.row kn dn)[j]?) → Lies w' N kn dn G → Fresh w w' G → (∀ y ∈ G, y ∈ FN ∨ wr.heap.size ≤ y) →
    ∃ T kt dt F, (∀ j, j < 5 → w'.cell? ⟨B, j, none⟩ = (T.row kt dt)[j]?) ∧ Lies w' T kt dt F ∧ Fresh w w' F ∧ B ∉ F ∧ T.wz ≤ M + N.wz

theorem Plug.root {w wr : World} {B : Nat} {FN : List Nat} (hB : B ∉ FN) (hl : B < wr.heap.size) : Plug w wr B B 0 0 FN := fun w' N kn dn G hs hc hl' hf hG => by
  refine ⟨N, kn, dn, G, fun j hj => ?_, hl', hf, fun h => ?_, by omega⟩
  · have := hc j hj
    rwa [Nat.zero_add] at this
  · rcases hG B h with e | e
    · exact hB e
    · omega

theorem Same.back {w wr w1 w' : World} {nb no : Nat} {F : List Nat} (h : Same w w1 w' nb no F) (hs : wr.heap.size ≤ w1.heap.size) (hb : ∀ y, w.heap.size ≤ y → y < wr.heap.size → w1.heap[y]? = wr.heap[y]?) (hn : w.heap.size ≤ nb) (hl : nb < wr.heap.size) : Same w wr w' nb no F := by
  refine ⟨Nat.le_trans hs h.size, fun y h1 h2 h3 h4 => (h.block y h1 (by omega) h3 h4).trans (hb y h1 h2), fun o => (h.free o).trans (World.frozen?_of_block (w := wr) (hb nb hn hl)), fun o ho => h.room o ?_, fun o ho => (h.cell o ho).trans (World.cell?_of_block (w := wr) (a := ⟨nb, o, none⟩) (hb nb hn hl))⟩
  rw [World.cell?_of_block (w := wr) (a := ⟨nb, o, none⟩) (hb nb hn hl)]
  exact ho

theorem Plug.later {w wr w1 : World} {B nb no M : Nat} {F : List Nat} (h : Plug w wr B nb no M F) (hs : wr.heap.size ≤ w1.heap.size) (hb : ∀ y, w.heap.size ≤ y → y < wr.heap.size → w1.heap[y]? = wr.heap[y]?) (hn : w.heap.size ≤ nb) (hl : nb < wr.heap.size) : Plug w w1 B nb no M F :=
  fun w' N kn dn G h1 h2 h3 h4 h5 => h w' N kn dn G (h1.back hs hb hn hl) h2 h3 h4 (fun y hy => (h5 y hy).imp id (fun e => Nat.le_trans hs e))

/-- One step further into the tree. -/
theorem Plug.step {w wr : World} {B nb no M : Nat} {N : RT} {kn : Value} {FK : List Nat} {cap b off : Nat} {FF : Nat → List Nat} {KV DV : Nat → Value} {o : Option Addr}
    (hp : Plug w wr B nb no M (FK ++ ([b] ++ (List.range N.kids.length).flatMap FF))) (hc : ∀ j, j < 5 → wr.cell? ⟨nb, no + j, none⟩ = (N.row kn (.slice o N.kids.length cap))[j]?) (f1 : Fit N.k) (f2 : Fit N.n) (f3 : N.s.size ≤ maxLen) (hK : StrsAt wr kn N.keys FK)
    (h1 : N.kids.length ≤ cap) (h2 : cap ≤ maxLen) (h3 : o = some ⟨b, off, none⟩) (h4 : ∀ i (h : i < N.kids.length), ∀ j, j < 5 → wr.cell? ⟨b, off + i * 5 + j, none⟩ = (N.kids[i].row (KV i) (DV i))[j]?) (h5 : ∀ i (h : i < N.kids.length), Lies wr N.kids[i] (KV i) (DV i) (FF i)) (h6 : Room wr b off (cap * 5))
    (hf : Fresh w wr (FK ++ ([b] ++ (List.range N.kids.length).flatMap FF))) (hnb : nb ∉ FK ++ ([b] ++ (List.range N.kids.length).flatMap FF)) (hnl : nb < wr.heap.size) (hno : w.heap.size ≤ nb) {i : Nat} (hi : i < N.kids.length) :
    Fresh w wr (FF i) ∧ b ∉ FF i ∧ b < wr.heap.size ∧ w.heap.size ≤ b ∧ (∀ o, wr.frozen? ⟨b, o, none⟩ = false) ∧ Plug w wr B b (off + i * 5) (M + (N.wz - N.kids[i].wz)) (FF i) := by
  have hin : ∀ j, j < N.kids.length → ∀ y ∈ FF j, y ∈ (List.range N.kids.length).flatMap FF := fun j hj y hy => List.mem_flatMap.2 ⟨j, List.mem_range.2 hj, hy⟩
  have hbF : b ∈ FK ++ ([b] ++ (List.range N.kids.length).flatMap FF) := by simp
  have hbl : b < wr.heap.size := h6.lt (by omega)
  obtain ⟨n1, n2, n3⟩ := List.nodup_append.1 hf.nodup
  have n4 : b ∉ (List.range N.kids.length).flatMap FF := (List.nodup_cons.1 n2).1
  have n5 : ((List.range N.kids.length).flatMap FF).Nodup := (List.nodup_cons.1 n2).2
  have hKb : ∀ y ∈ FK, y ≠ b ∧ y ∉ (List.range N.kids.length).flatMap FF := fun y hy => ⟨fun e => n3 y hy b (by simp) e, fun e => n3 y hy y (List.mem_append_right _ e) rfl⟩
  have hcut := flat_cut FF (i := i) (n := N.kids.length) (by omega)
  have hcut2 : (List.range (N.kids.length - i)).flatMap (fun j => FF (i + j)) = FF i ++ (List.range (N.kids.length - i - 1)).flatMap (fun j => FF (i + 1 + j)) := by
    obtain ⟨m, hm⟩ : ∃ m, N.kids.length - i = 1 + m := ⟨N.kids.length - i - 1, by omega⟩
    rw [hm, List.range_add, List.flatMap_append, List.flatMap_map, Nat.add_sub_cancel_left]
    congr 1
    · simp
    · exact Go.Deep.flatMap_congr_range fun j _ => by congr 1; omega
  have n6 := n5
  rw [hcut, hcut2] at n6
  obtain ⟨m1, m2, m3⟩ := List.nodup_append.1 n6
  obtain ⟨m4, m5, m6⟩ := List.nodup_append.1 m2
  -- what stands in another kid's blocks stands in none of this one's
  have hother : ∀ j, j < N.kids.length → j ≠ i → ∀ y ∈ FF j, y ∉ FF i := fun j hj e y hy hy' => by
    by_cases hlt : j < i
    · exact m3 y (List.mem_flatMap.2 ⟨j, List.mem_range.2 hlt, hy⟩) y (List.mem_append_left _ hy') rfl
    · exact m6 y hy' y (List.mem_flatMap.2 ⟨j - i - 1, List.mem_range.2 (by omega), by rw [show i + 1 + (j - i - 1) = j by omega]; exact hy⟩) rfl
  have hbX : b ∉ FF i := fun e => n4 (hin i hi b e)
  have hnbb : nb ≠ b := fun e => hnb (e ▸ hbF)
  have hnbX : nb ∉ FF i := fun e => hnb (List.mem_append_right _ (List.mem_append_right _ (hin i hi nb e)))
  refine ⟨⟨m4, fun y hy => hf.old y (List.mem_append_right _ (List.mem_append_right _ (hin i hi y hy))), fun y hy => hf.free y (List.mem_append_right _ (List.mem_append_right _ (hin i hi y hy)))⟩, hbX, hbl, hf.old b hbF, hf.free b hbF, ?_⟩
  intro w' X kx dx G hs hcX hX hfX hG
  have keepK : ∀ y ∈ FK, w'.heap[y]? = wr.heap[y]? := fun y hy => hs.block y (hf.old y (List.mem_append_left _ hy)) (hK.lt y hy) (fun e => (hKb y hy).2 (hin i hi y e)) (hKb y hy).1
  have keepF : ∀ j, (hj : j < N.kids.length) → j ≠ i → ∀ y ∈ FF j, w'.heap[y]? = wr.heap[y]? := fun j hj e y hy => hs.block y (hf.old y (List.mem_append_right _ (List.mem_append_right _ (hin j hj y hy)))) ((h5 j hj).lt y hy) (hother j hj e y hy) (fun e' => n4 (e' ▸ hin j hj y hy))
  have keepN : w'.heap[nb]? = wr.heap[nb]? := hs.block nb hno hnl hnbX hnbb
  have hGlt : ∀ y ∈ G, y ∉ FK ∧ y ≠ b ∧ ∀ j, j < N.kids.length → j ≠ i → y ∉ FF j := fun y hy => by
    rcases hG y hy with e | e
    · exact ⟨fun h => (hKb y h).2 (hin i hi y e), fun h => hbX (h ▸ e), fun j hj hne h => hother j hj hne y h e⟩
    · exact ⟨fun h => by have := hK.lt y h; omega, fun h => by omega, fun j hj _ h => by have := (h5 j hj).lt y h; omega⟩
  have hnew : (List.range N.kids.length).flatMap (fun j => if j = i then G else FF j) = (List.range i).flatMap FF ++ G ++ (List.range (N.kids.length - i - 1)).flatMap (fun j => FF (i + 1 + j)) := by
    obtain ⟨m, hm⟩ : ∃ m, N.kids.length = i + 1 + m := ⟨N.kids.length - i - 1, by omega⟩
    rw [hm, List.range_add, List.flatMap_append, List.flatMap_map, List.range_succ, List.flatMap_append, show i + 1 + m - i - 1 = m by omega]
    congr 1
    · congr 1
      · exact Go.Deep.flatMap_congr_range fun j hj => by rw [if_neg (by omega)]
      · simp
    · exact Go.Deep.flatMap_congr_range fun j hj => by rw [if_neg (by omega)]
  have hmem : ∀ y ∈ (List.range N.kids.length).flatMap (fun j => if j = i then G else FF j), y ∈ G ∨ ∃ j, j < N.kids.length ∧ j ≠ i ∧ y ∈ FF j := fun y hy => by
    obtain ⟨j, hj, hy⟩ := List.mem_flatMap.1 hy
    by_cases e : j = i
    · simp only [e, if_true] at hy; exact .inl hy
    · simp only [e, if_false] at hy; exact .inr ⟨j, List.mem_range.1 hj, e, hy⟩
  obtain ⟨T, kt, dt, F, g1, g2, g3, g4, g5⟩ := hp w' (.node N.k N.n N.s N.keys (N.kids.set i X)) kn (.slice o N.kids.length cap) (FK ++ ([b] ++ (List.range N.kids.length).flatMap (fun j => if j = i then G else FF j)))
    ⟨hs.size, fun y a1 a2 a3 a4 => hs.block y a1 a2 (fun e => a3 (List.mem_append_right _ (List.mem_append_right _ (hin i hi y e)))) (fun e => a3 (e ▸ hbF)), fun o => World.frozen?_of_block (w := wr) keepN, fun o ho => by rw [World.cell?_of_block (w := wr) (a := ⟨nb, o, none⟩) keepN]; exact ho, fun o _ => World.cell?_of_block (w := wr) (a := ⟨nb, o, none⟩) keepN⟩
    (fun j hj => (World.cell?_of_block (w := wr) (a := ⟨nb, no + j, none⟩) keepN).trans (hc j hj))
    (by
      refine Lies.into f1 f2 f3 (hK.carry keepK) ⟨o, cap, b, off, (fun j => if j = i then G else FF j), (fun j => if j = i then kx else KV j), (fun j => if j = i then dx else DV j), by rw [List.length_set], by rw [List.length_set]; exact h1, h2, fun _ => h3, by rw [List.length_set, if_neg (by omega)], fun j hj c hcc => ?_, fun j hj => ?_, fun m hm => hs.room _ (h6 m hm)⟩
      · rw [List.length_set] at hj
        rw [List.getElem_set]
        by_cases e : j = i
        · subst e
          simp only [if_true]
          exact hcX c hcc
        · simp only [e, if_false, if_neg (fun h => e h.symm : ¬ i = j)]
          rw [hs.cell (off + j * 5 + c) (by omega)]
          exact h4 j hj c hcc
      · rw [List.length_set] at hj
        rw [List.getElem_set]
        by_cases e : j = i
        · subst e
          simp only [if_true]
          exact hX
        · simp only [e, if_false, if_neg (fun h => e h.symm : ¬ i = j)]
          exact (h5 j hj).carry (keepF j hj e))
    (by
      refine ⟨List.nodup_append.2 ⟨n1, List.nodup_cons.2 ⟨fun hy => ?_, ?_⟩, fun x hx y hy e => ?_⟩, fun y hy => ?_, fun y hy o => ?_⟩
      · rcases hmem b hy with e | ⟨j, hj, hne, e⟩
        · exact (hGlt b e).2.1 rfl
        · exact n4 (hin j hj b e)
      · show ((List.range N.kids.length).flatMap (fun j => if j = i then G else FF j)).Nodup
        rw [hnew]
        refine List.nodup_append.2 ⟨List.nodup_append.2 ⟨m1, hfX.nodup, fun x hx y hy e => ?_⟩, m5, fun x hx y hy e => ?_⟩
        · subst e
          obtain ⟨j, hj, hx⟩ := List.mem_flatMap.1 hx
          have := List.mem_range.1 hj
          exact (hGlt x hy).2.2 j (by omega) (by omega) hx
        · subst e
          rcases List.mem_append.1 hx with hx | hx
          · exact m3 x hx x (List.mem_append_right _ hy) rfl
          · obtain ⟨j, hj, hy⟩ := List.mem_flatMap.1 hy
            have := List.mem_range.1 hj
            exact (hGlt x hx).2.2 (i + 1 + j) (by omega) (by omega) hy
      · subst e
        rcases List.mem_cons.1 (show x ∈ b :: _ from hy) with e | hy
        · exact (hKb x hx).1 e
        · rcases hmem x hy with e | ⟨j, hj, hne, e⟩
          · exact (hGlt x e).1 hx
          · exact (hKb x hx).2 (hin j hj x e)
      · rcases List.mem_append.1 hy with hy | hy
        · exact hf.old y (List.mem_append_left _ hy)
        · rcases List.mem_cons.1 (show y ∈ b :: _ from hy) with e | hy
          · rw [e]; exact hf.old b hbF
          · rcases hmem y hy with e | ⟨j, hj, hne, e⟩
            · exact hfX.old y e
            · exact hf.old y (List.mem_append_right _ (List.mem_append_right _ (hin j hj y e)))
      · rcases List.mem_append.1 hy with hy | hy
        · rw [World.frozen?_of_block (w := wr) (keepK y hy)]
          exact hf.free y (List.mem_append_left _ hy) o
        · rcases List.mem_cons.1 (show y ∈ b :: _ from hy) with e | hy
          · rw [e, hs.free]; exact hf.free b hbF o
          · rcases hmem y hy with e | ⟨j, hj, hne, e⟩
            · exact hfX.free y e o
            · rw [World.frozen?_of_block (w := wr) (keepF j hj hne y e)]
              exact hf.free y (List.mem_append_right _ (List.mem_append_right _ (hin j hj y e))) o)
    (fun y hy => by
      rcases List.mem_append.1 hy with hy | hy
      · exact .inl (List.mem_append_left _ hy)
      · rcases List.mem_cons.1 (show y ∈ b :: _ from hy) with e | hy
        · rw [e]; exact .inl hbF
        · rcases hmem y hy with e | ⟨j, hj, hne, e⟩
          · rcases hG y e with e | e
            · exact .inl (List.mem_append_right _ (List.mem_append_right _ (hin i hi y e)))
            · exact .inr e
          · exact .inl (List.mem_append_right _ (List.mem_append_right _ (hin j hj y e))))
  have := kids_wz N X i hi
  have := kid_wz N i hi
  exact ⟨T, kt, dt, F, g1, g2, g3, g4, by omega⟩
end Go.Proofs.YtelpkcbbipianaaGreat

/- the model's drawing of trees that need not be right: what is drawn is small, and lies in memory of its own; nothing turns but the cursor. -/
namespace Go.Proofs.YtelpkcbbipianaaGreat
open Go Go.RowKit

/-- Where a pointer into the tree that is drawn stands. -/
structure Hole (w v wr : World) (p : Nat) (a : Option Addr) (len cap : Nat) (B nb no M : Nat) (N : RT) (kn dn : Value) (FN : List Nat) : Prop where
  ds : DS w wr p a len cap
  later : w.heap.size < v.heap.size
  cells : ∀ j, j < 5 → wr.cell? ⟨nb, no + j, none⟩ = (N.row kn dn)[j]?
  lie : Lies wr N kn dn FN
  fresh : Fresh v wr FN
  nbn : nb ∉ FN
  nbl : nb < wr.heap.size
  nbo : v.heap.size ≤ nb
  frz : ∀ o, wr.frozen? ⟨nb, o, none⟩ = false
  plug : Plug v wr B nb no M FN

/-- The tree is whole again. -/
def Healed (w v wr : World) (p : Nat) (a : Option Addr) (len cap : Nat) (B M : Nat) : Prop :=
  DS w wr p a len cap ∧ ∃ T kt dt F, (∀ j, j < 5 → wr.cell? ⟨B, j, none⟩ = (T.row kt dt)[j]?) ∧ Lies wr T kt dt F ∧ Fresh v wr F ∧ B ∉ F ∧ T.wz ≤ M

section
variable {w v wr w1 : World} {p : Nat} {a : Option Addr} {len cap : Nat} {B nb no M : Nat} {N : RT} {kn dn : Value} {FN : List Nat}

theorem Hole.five (h : Hole w v wr p a len cap B nb no M N kn dn FN) : wr.cell? ⟨nb, no, none⟩ = some (.int .i64 N.k) ∧ wr.cell? ⟨nb, no + 1, none⟩ = some (.int .i64 N.n) ∧ wr.cell? ⟨nb, no + 2, none⟩ = some (.string N.s) ∧ wr.cell? ⟨nb, no + 3, none⟩ = some kn ∧ wr.cell? ⟨nb, no + 4, none⟩ = some dn :=
  kid_cells h.cells (Below.refl _ wr)

theorem Hole.draw (h : Hole w v wr p a len cap B nb no M N kn dn FN) (hp : p < w.heap.size) (hc : Cur w1 p a len cap) (hg : wr.grownBy w1 (some p)) : Hole w v w1 p a len cap B nb no M N kn dn FN := by
  have hv := h.later
  have keep : ∀ y, v.heap.size ≤ y → y < wr.heap.size → w1.heap[y]? = wr.heap[y]? := fun y hy hlt => hg.block y hlt (fun e => by injection e with e; omega)
  have hn := keep nb h.nbo h.nbl
  exact ⟨h.ds.draw hp hc hg, hv, fun j hj => (World.cell?_of_block (w := wr) (a := ⟨nb, no + j, none⟩) hn).trans (h.cells j hj), h.lie.carry fun y hy => keep y (h.fresh.old y hy) (h.lie.lt y hy), h.fresh.carry fun y hy => keep y (h.fresh.old y hy) (h.lie.lt y hy), h.nbn, Nat.lt_of_lt_of_le h.nbl hg.size, h.nbo, fun o => (World.frozen?_of_block (w := wr) hn).trans (h.frz o), h.plug.later hg.size keep h.nbo h.nbl⟩

theorem Hole.next (h : Hole w v wr p a len cap B nb no M N kn dn FN) (hb : Below wr.heap.size wr w1) : Hole w v w1 p a len cap B nb no M N kn dn FN := by
  have keep : ∀ y, v.heap.size ≤ y → y < wr.heap.size → w1.heap[y]? = wr.heap[y]? := fun y _ hlt => hb.block y hlt
  have hn := keep nb h.nbo h.nbl
  exact ⟨h.ds.next hb, h.later, fun j hj => (World.cell?_of_block (w := wr) (a := ⟨nb, no + j, none⟩) hn).trans (h.cells j hj), h.lie.carry fun y hy => keep y (h.fresh.old y hy) (h.lie.lt y hy), h.fresh.carry fun y hy => keep y (h.fresh.old y hy) (h.lie.lt y hy), h.nbn, Nat.lt_of_lt_of_le h.nbl hb.size, h.nbo, fun o => (World.frozen?_of_block (w := wr) hn).trans (h.frz o), h.plug.later hb.size keep h.nbo h.nbl⟩

/-- To one of the node's kids. -/
theorem Hole.down (h : Hole w v wr p a len cap B nb no M N kn dn FN) (h0 : 0 < N.kids.length) :
    ∃ b off c, dn = .slice (some ⟨b, off, none⟩) N.kids.length c ∧ N.kids.length ≤ c ∧ c ≤ maxLen ∧ ∀ i (hi : i < N.kids.length), ∃ kx dx FX, Hole w v wr p a len cap B b (off + i * 5) (M + (N.wz - N.kids[i].wz)) N.kids[i] kx dx FX := by
  obtain ⟨f1, f2, f3, FK, FD, hK, ⟨o, c, b, off, FF, KV, DV, rfl, h1, h2, h3, rfl, h4, h5, h6⟩, rfl⟩ := h.lie.out
  have ho := h3 (by omega)
  have hcz : ¬ c = 0 := by omega
  have hp := h.plug
  have hf := h.fresh
  have hnb := h.nbn
  rw [if_neg hcz] at hp hf hnb
  refine ⟨b, off, c, by rw [ho], h1, h2, fun i hi => ⟨KV i, DV i, FF i, ?_⟩⟩
  obtain ⟨g1, g2, g3, g4, g5, g6⟩ := Plug.step hp h.cells f1 f2 f3 hK h1 h2 ho h4 h5 h6 hf hnb h.nbl h.nbo hi
  exact ⟨h.ds, h.later, h4 i hi, h5 i hi, g1, g2, g3, g4, g5, g6⟩

/-- Something else has come to lie behind the pointer. -/
theorem Hole.put (h : Hole w v wr p a len cap B nb no M N kn dn FN) (h0 : Cur w p a len cap) (hb : But (nb :: FN) wr w1) (hcell : ∀ o, (o < no ∨ no + 5 ≤ o) → w1.cell? ⟨nb, o, none⟩ = wr.cell? ⟨nb, o, none⟩)
    {X : RT} {kx dx : Value} {G : List Nat} (hrow : ∀ j, j < 5 → w1.cell? ⟨nb, no + j, none⟩ = (X.row kx dx)[j]?) (hl : Lies w1 X kx dx G) (hf : Fresh v w1 G) (hG : ∀ y ∈ G, y ∈ FN ∨ wr.heap.size ≤ y) {S : Nat} (hS : M + X.wz ≤ S) : Healed w v w1 p a len cap B S := by
  have hv := h.later
  have hn := h.nbo
  have hF : ∀ y ∈ nb :: FN, w.heap.size < y := fun y hy => by
    rcases List.mem_cons.1 hy with e | hy
    · omega
    · have := h.fresh.old y hy; omega
  refine ⟨⟨h.ds.cur.but h0 hb fun y hy => Nat.le_of_lt (hF y hy), grown_but h.ds.grown hb fun y hy => Nat.le_of_lt (hF y hy), (hb.block _ h.ds.lt (fun hx => by have := hF _ hx; omega)).trans h.ds.res⟩, ?_⟩
  obtain ⟨T, kt, dt, F, g1, g2, g3, g4, g5⟩ := h.plug w1 X kx dx G ⟨hb.size, fun y _ hy h1 h2 => hb.block y hy (fun hx => by rcases List.mem_cons.1 hx with e | e; exact h2 e; exact h1 e), fun o => hb.free nb h.nbl o, fun o ho => hb.room nb h.nbl o ho, hcell⟩ hrow hl hf hG
  exact ⟨T, kt, dt, F, g1, g2, g3, g4, by omega⟩

/-- One of the node's five cells is stored, behind what has turned in the node's own blocks. -/
theorem Hole.set (h : Hole w v wr p a len cap B nb no M N kn dn FN) (h0 : Cur w p a len cap) (hb : But FN wr w1) (i : Nat) (hi : i < 5) (u : Value)
    {X : RT} {kx dx : Value} {G : List Nat} (hrow : ∀ j, j < 5 → (X.row kx dx)[j]? = if j = i then some u else (N.row kn dn)[j]?) (hl : Lies w1 X kx dx G) (hf : Fresh v w1 G) (hG : ∀ y ∈ G, y ∈ FN ∨ wr.heap.size ≤ y) {S : Nat} (hS : M + X.wz ≤ S) :
    Healed w v (w1.setCell ⟨nb, no + i, none⟩ u) p a len cap B S := by
  have hn := hb.block nb h.nbl h.nbn
  have hcell : ∀ o, w1.cell? ⟨nb, o, none⟩ = wr.cell? ⟨nb, o, none⟩ := fun o => World.cell?_of_block (w := wr) (a := ⟨nb, o, none⟩) hn
  have hnG : ∀ y ∈ G, y ≠ nb := fun y hy e => by
    subst e
    rcases hG y hy with e | e
    · exact h.nbn e
    · have := h.nbl; omega
  have keep : ∀ y ∈ G, (w1.setCell ⟨nb, no + i, none⟩ u).heap[y]? = w1.heap[y]? := fun y hy => Below.heap_setCell _ _ _ _ (hnG y hy)
  have hother : ∀ o, o ≠ no + i → (w1.setCell ⟨nb, no + i, none⟩ u).cell? ⟨nb, o, none⟩ = wr.cell? ⟨nb, o, none⟩ := fun o ho => (cell_far (by omega)).trans (hcell o)
  refine h.put h0 ((hb.mono fun y hy => List.mem_cons_of_mem _ hy).set (p := ⟨nb, no + i, none⟩) (List.mem_cons_self ..) u) (fun o ho => hother o (by omega)) (fun j hj => ?_) (hl.carry keep) (hf.carry keep) hG hS
  rw [hrow j hj]
  by_cases e : j = i
  · subst e
    rw [if_pos rfl]
    have hc := h.cells j hj
    have : j < (N.row kn dn).length := hj
    rw [List.getElem?_eq_getElem this] at hc
    exact cell_here ((hcell _).trans hc)
  · rw [if_neg e, hother _ (by omega)]
    exact h.cells j hj

/-- Nothing has. -/
theorem Hole.stop (h : Hole w v wr p a len cap B nb no M N kn dn FN) (h0 : Cur w p a len cap) {S : Nat} (hS : M + N.wz ≤ S) : Healed w v wr p a len cap B S :=
  h.put h0 (But.refl _ _) (fun _ _ => rfl) h.cells h.lie h.fresh (fun _ hy => .inl hy) hS
end

theorem Hole.start {w w0 w1 : World} {p : Nat} {a : Option Addr} {len cap : Nat} {T : RT} {kt dt : Value} {F : List Nat} (hd : DS w w0 p a len cap) (hp : p < w.heap.size) (hc : Cur w1 p a len cap) (hg : w0.grownBy w1 (some p)) (hl : Lies w1 T kt dt F) (hf : Fresh w0 w1 F) :
    Hole w w0 (w1.alloc (.cells #[.int .i64 T.k, .int .i64 T.n, .string T.s, kt, dt] 27)) p a len cap w1.heap.size w1.heap.size 0 0 T kt dt F := by
  have hba := (Below.refl _ w1).alloc (Nat.le_refl _) (.cells #[.int .i64 T.k, .int .i64 T.n, .string T.s, kt, dt] 27)
  have hlast := heap_last w1 (.cells #[.int .i64 T.k, .int .i64 T.n, .string T.s, kt, dt] 27)
  have hlt := (Array.getElem?_eq_some_iff.1 hlast).1
  have hn : w1.heap.size ∉ F := fun h => by have := hl.lt _ h; omega
  obtain ⟨x0, x1, x2, x3, x4, x5⟩ := Go.Proofs.YtelpkcbbipianaaGreat.five hlast
  refine ⟨(hd.draw hp hc hg).next hba, hd.lt, fun j hj => ?_, hl.stay hba (Nat.le_refl _), hf.carry fun y hy => hba.block y (hl.lt y hy), hn, hlt, hg.size, x5, Plug.root hn hlt⟩
  match j, hj with
  | 0, _ => exact x0
  | 1, _ => exact x1
  | 2, _ => exact x2
  | 3, _ => exact x3
  | 4, _ => exact x4

section
variable {w v wr w1 : World} {p : Nat} {a : Option Addr} {len cap : Nat} {B nb no M : Nat} {N : RT} {kn dn : Value} {FN : List Nat}

theorem Hole.kid {b off c : Nat} (h : Hole w v wr p a len cap B nb no M N kn (.slice (some ⟨b, off, none⟩) N.kids.length c) FN) {i : Nat} (hi : i < N.kids.length) :
    ∃ kx dx FX, Hole w v wr p a len cap B b (off + i * 5) (M + (N.wz - N.kids[i].wz)) N.kids[i] kx dx FX := by
  obtain ⟨b', off', c', e, -, -, h3⟩ := h.down (by omega)
  injection e with e1 e2 e3
  have e4 := Option.some.inj e1
  injection e4 with e5 e6
  subst e5 e6
  exact h3 i hi

/-- Its kind is stored. -/
theorem Hole.setK (h : Hole w v wr p a len cap B nb no M N kn dn FN) (h0 : Cur w p a len cap) (k : Int) (hk : Fit k) {S : Nat} (hS : M + N.wz ≤ S) : Healed w v (wr.setCell ⟨nb, no, none⟩ (.int .i64 k)) p a len cap B S := by
  obtain ⟨f1, f2, f3, FK, FD, hK, hD, rfl⟩ := h.lie.out
  have e : (RT.node k N.n N.s N.keys N.kids).wz = N.wz := by cases N; rfl
  exact h.set h0 (But.refl _ _) 0 (by omega) (.int .i64 k) (X := .node k N.n N.s N.keys N.kids) (kx := kn) (dx := dn) (fun j hj => by match j, hj with | 0, _ => rfl | 1, _ => rfl | 2, _ => rfl | 3, _ => rfl | 4, _ => rfl) (Lies.into hk f2 f3 hK hD) h.fresh (fun y hy => .inl hy) (by omega)

/-- Its number is stored. -/
theorem Hole.setN (h : Hole w v wr p a len cap B nb no M N kn dn FN) (h0 : Cur w p a len cap) (n : Int) (hn : Fit n) {S : Nat} (hS : M + N.wz ≤ S) : Healed w v (wr.setCell ⟨nb, no + 1, none⟩ (.int .i64 n)) p a len cap B S := by
  obtain ⟨f1, f2, f3, FK, FD, hK, hD, rfl⟩ := h.lie.out
  have e : (RT.node N.k n N.s N.keys N.kids).wz = N.wz := by cases N; rfl
  exact h.set h0 (But.refl _ _) 1 (by omega) (.int .i64 n) (X := .node N.k n N.s N.keys N.kids) (kx := kn) (dx := dn) (fun j hj => by match j, hj with | 0, _ => rfl | 1, _ => rfl | 2, _ => rfl | 3, _ => rfl | 4, _ => rfl) (Lies.into f1 hn f3 hK hD) h.fresh (fun y hy => .inl hy) (by omega)

/-- Its text is stored. -/
theorem Hole.setS (h : Hole w v wr p a len cap B nb no M N kn dn FN) (h0 : Cur w p a len cap) (s : ByteArray) (hs : s.size ≤ 12) {S : Nat} (hS : M + N.wz + 24 ≤ S) : Healed w v (wr.setCell ⟨nb, no + 2, none⟩ (.string s)) p a len cap B S := by
  obtain ⟨f1, f2, f3, FK, FD, hK, hD, rfl⟩ := h.lie.out
  have e : (RT.node N.k N.n s N.keys N.kids).wz ≤ N.wz + 24 := by cases N; simp only [RT.wz, RT.keys, RT.kids]; omega
  exact h.set h0 (But.refl _ _) 2 (by omega) (.string s) (X := .node N.k N.n s N.keys N.kids) (kx := kn) (dx := dn) (fun j hj => by match j, hj with | 0, _ => rfl | 1, _ => rfl | 2, _ => rfl | 3, _ => rfl | 4, _ => rfl) (Lies.into f1 f2 (by unfold maxLen; omega) hK hD) h.fresh (fun y hy => .inl hy) (by omega)

/-- One key more. -/
theorem Hole.key (h : Hole w v wr p a len cap B nb no M N kn dn FN) (h0 : Cur w p a len cap) (key : ByteArray) (hkey : key.size ≤ 12) (hn : N.keys.length ≤ 1048576) {S : Nat} (hS : M + N.wz + 28 ≤ S) (ty : TypeId) :
    ∃ v' w', (Builtin.append_ #[24, 24] ty #[kn, .slice (some ⟨wr.heap.size, 0, none⟩) 1 1]).run Tryz.prog (wr.alloc (.cells #[.string key] 9)) = .ok v' w' ∧
      ∃ o' c', v' = .slice o' (N.keys.length + 1) c' ∧ (∃ u, w'.cell? ⟨nb, no + 3, none⟩ = some u) ∧ (∀ o, w'.frozen? ⟨nb, o, none⟩ = false) ∧ Healed w v (w'.setCell ⟨nb, no + 3, none⟩ (.slice o' (N.keys.length + 1) c')) p a len cap B S := by
  have hba := (Below.refl _ wr).alloc (Nat.le_refl _) (.cells #[.string key] 9)
  have h5 := h.next hba
  obtain ⟨f1, f2, f3, FK, FD, hK, hD, rfl⟩ := h5.lie.out
  have hKD := nodup_of h5.fresh.nodup
  have hv : v.heap.size ≤ (wr.alloc (.cells #[.string key] 9)).heap.size := Nat.le_trans h5.nbo (Nat.le_of_lt h5.nbl)
  obtain ⟨v', w', hr, o', c', rfl, hb, F2, k1, k2, k3⟩ := append_str (w := v) hK ⟨(List.nodup_append.1 h5.fresh.nodup).1, fun y hy => h5.fresh.old y (List.mem_append_left _ hy), fun y hy => h5.fresh.free y (List.mem_append_left _ hy)⟩ key (by unfold maxLen; omega) (heap_last wr _) hn hv ty
  have hnK : nb ∉ FK := fun hx => h5.nbn (List.mem_append_left _ hx)
  have hcell := hb.cell h5.nbl hnK
  have e : (RT.node N.k N.n N.s (N.keys ++ [key]) N.kids).wz ≤ N.wz + 28 := by
    have e : N.wz = 21 + 2 * N.s.size + (4 * N.keys.length + 2 * strSz N.keys) + (N.kids.length + wzAll N.kids) := by cases N; rfl
    have e2 : strSz [key] = key.size := by simp [strSz]
    simp only [RT.wz, List.length_append, List.length_singleton, strSz_append, e2]
    omega
  have keepD : ∀ y ∈ FD, w'.heap[y]? = (wr.alloc (.cells #[.string key] 9)).heap[y]? := fun y hy => hb.block y (hD.lt y hy) (fun hx => hKD y hx hy)
  refine ⟨_, w', hr, o', c', rfl, ⟨_, (hcell _).trans h5.five.2.2.2.1⟩, fun o => (hb.free nb h5.nbl o).trans (h5.frz o), ?_⟩
  refine h5.set h0 (hb.mono fun y hy => List.mem_append_left _ hy) 3 (by omega) _ (X := .node N.k N.n N.s (N.keys ++ [key]) N.kids) (dx := dn) (G := F2 ++ FD) (fun j hj => by match j, hj with | 0, _ => rfl | 1, _ => rfl | 2, _ => rfl | 3, _ => rfl | 4, _ => rfl) (Lies.into f1 f2 f3 k1 (hD.carry keepD)) ⟨?_, fun y hy => ?_, fun y hy o => ?_⟩ (fun y hy => ?_) (by omega)
  · refine List.nodup_append.2 ⟨k2.nodup, (List.nodup_append.1 h5.fresh.nodup).2.1, fun x hx y hy e => ?_⟩
    subst e
    rcases k3 x hx with e | e
    · exact hKD x e hy
    · have := hD.lt x hy; omega
  · rcases List.mem_append.1 hy with hy | hy
    · exact k2.old y hy
    · exact h5.fresh.old y (List.mem_append_right _ hy)
  · rcases List.mem_append.1 hy with hy | hy
    · exact k2.free y hy o
    · rw [World.frozen?_of_block (w := wr.alloc (.cells #[.string key] 9)) (keepD y hy)]
      exact h5.fresh.free y (List.mem_append_right _ hy) o
  · rcases List.mem_append.1 hy with hy | hy
    · exact (k3 y hy).imp (fun e => List.mem_append_left _ e) id
    · exact .inl (List.mem_append_right _ hy)

/-- Stores into two blocks may change places. -/
theorem setCell_swap (w : World) {b b' : Nat} (h : b ≠ b') (o o' : Nat) (v v' : Value) : (w.setCell ⟨b, o, none⟩ v).setCell ⟨b', o', none⟩ v' = (w.setCell ⟨b', o', none⟩ v').setCell ⟨b, o, none⟩ v := by
  unfold World.setCell
  simp only [Option.isSome_none, Bool.false_eq_true, if_false]
  congr 1
  apply Array.ext_getElem?
  intro i
  simp only [Array.getElem?_modify]
  by_cases e1 : b = i
  · subst e1
    simp [Ne.symm h]
  · by_cases e2 : b' = i
    · subst e2
      simp [h]
    · simp [e1, e2]

theorem set5_swap (w : World) {b b' : Nat} (h : b ≠ b') (o o' : Nat) (v0 v1 v2 v3 v4 v' : Value) : set5 (w.setCell ⟨b', o', none⟩ v') b o v0 v1 v2 v3 v4 = (set5 w b o v0 v1 v2 v3 v4).setCell ⟨b', o', none⟩ v' := by
  unfold set5
  rw [setCell_swap _ h, setCell_swap _ h, setCell_swap _ h, setCell_swap _ h, setCell_swap _ h]

theorem But.set5 {F : List Nat} {a w : World} (h : But F a w) {b : Nat} (hp : b ∈ F) (o : Nat) (v0 v1 v2 v3 v4 : Value) : But F a (set5 w b o v0 v1 v2 v3 v4) :=
  ((((h.set (p := ⟨b, o, none⟩) hp v0).set (p := ⟨b, o + 1, none⟩) hp v1).set (p := ⟨b, o + 2, none⟩) hp v2).set (p := ⟨b, o + 3, none⟩) hp v3).set (p := ⟨b, o + 4, none⟩) hp v4

/-- One empty kid more. -/
theorem Hole.leaf (h : Hole w v wr p a len cap B nb no M N kn dn FN) (h0 : Cur w p a len cap) (hn : N.kids.length ≤ 1048576) {S : Nat} (hS : M + N.wz + 22 ≤ S) (ty : TypeId) :
    ∃ v' w', (Builtin.append_ #[25, 25] ty #[dn, .slice (some ⟨wr.heap.size, 0, none⟩) 1 1]).run Tryz.prog (wr.alloc (.cells #[.int .i64 0, .int .i64 0, .string ⟨#[]⟩, .slice none 0 0, .slice none 0 0] 27)) = .ok v' w' ∧
      ∃ b' off' c', v' = .slice (some ⟨b', off', none⟩) (N.kids.length + 1) c' ∧ N.kids.length + 1 ≤ c' ∧ c' ≤ maxLen ∧ b' ≠ nb ∧ (∀ o, w'.frozen? ⟨b', o, none⟩ = false) ∧
        (∃ u0 u1 u2 u3 u4, w'.cell? ⟨b', off' + N.kids.length * 5, none⟩ = some u0 ∧ w'.cell? ⟨b', off' + N.kids.length * 5 + 1, none⟩ = some u1 ∧ w'.cell? ⟨b', off' + N.kids.length * 5 + 2, none⟩ = some u2 ∧ w'.cell? ⟨b', off' + N.kids.length * 5 + 3, none⟩ = some u3 ∧ w'.cell? ⟨b', off' + N.kids.length * 5 + 4, none⟩ = some u4) ∧
        (∃ u, w'.cell? ⟨nb, no + 4, none⟩ = some u) ∧ (∀ o, w'.frozen? ⟨nb, o, none⟩ = false) ∧
        Healed w v ((set5 w' b' (off' + N.kids.length * 5) (.int .i64 0) (.int .i64 0) (.string ⟨#[]⟩) (.slice none 0 0) (.slice none 0 0)).setCell ⟨nb, no + 4, none⟩ (.slice (some ⟨b', off', none⟩) (N.kids.length + 1) c')) p a len cap B S := by
  have hba := (Below.refl _ wr).alloc (Nat.le_refl _) (.cells #[.int .i64 0, .int .i64 0, .string ⟨#[]⟩, .slice none 0 0, .slice none 0 0] 27)
  have h5 := h.next hba
  obtain ⟨f1, f2, f3, FK, FD, hK, hD, rfl⟩ := h5.lie.out
  have hKD := nodup_of h5.fresh.nodup
  have hv : v.heap.size ≤ (wr.alloc (.cells #[.int .i64 0, .int .i64 0, .string ⟨#[]⟩, .slice none 0 0, .slice none 0 0] 27)).heap.size := Nat.le_trans h5.nbo (Nat.le_of_lt h5.nbl)
  have hX : Lies (wr.alloc (.cells #[.int .i64 0, .int .i64 0, .string ⟨#[]⟩, .slice none 0 0, .slice none 0 0] 27)) (.node 0 0 ⟨#[]⟩ [] []) (.slice none 0 0) (.slice none 0 0) [] := leaf_lies _ ⟨by decide, by decide⟩ ⟨by decide, by decide⟩ (by decide)
  obtain ⟨v', w', hr, o', c', rfl, hb, F2, k1, k2, k3⟩ := append_kid (w := v) hD ⟨(List.nodup_append.1 h5.fresh.nodup).2.1, fun y hy => h5.fresh.old y (List.mem_append_right _ hy), fun y hy => h5.fresh.free y (List.mem_append_right _ hy)⟩ hX (Fresh.nil _ _) (fun x hx => absurd hx (by simp)) (heap_last wr _) hn hv ty
  generalize wr.alloc (.cells #[.int .i64 0, .int .i64 0, .string ⟨#[]⟩, .slice none 0 0, .slice none 0 0] 27) = w0 at *
  have hX' : Lies w' (.node 0 0 ⟨#[]⟩ [] []) (.slice none 0 0) (.slice none 0 0) [] := leaf_lies _ ⟨by decide, by decide⟩ ⟨by decide, by decide⟩ (by decide)
  obtain ⟨b', off', c2, u0, u1, u2, u3, u4, e0, g1, g2, hbF, hfz, c0, c1, c3, c4, c5, F3, m1, m2, m3⟩ := kids_put (w := v) k1 k2 hX' (Fresh.nil _ _) (fun x hx => absurd hx (by simp)) (i := N.kids.length) (by simp)
  have hset : (N.kids ++ [RT.node 0 0 ⟨#[]⟩ [] []]).set N.kids.length (.node 0 0 ⟨#[]⟩ [] []) = N.kids ++ [.node 0 0 ⟨#[]⟩ [] []] := by simp
  rw [hset] at m1
  replace m1 : KidsLie (set5 w' b' (off' + N.kids.length * 5) (.int .i64 0) (.int .i64 0) (.string ⟨#[]⟩) (.slice none 0 0) (.slice none 0 0)) _ _ F3 := m1
  replace m2 : Fresh v (set5 w' b' (off' + N.kids.length * 5) (.int .i64 0) (.int .i64 0) (.string ⟨#[]⟩) (.slice none 0 0) (.slice none 0 0)) F3 := m2
  rw [List.length_append, List.length_singleton] at e0 g1
  injection e0 with e1 e2 e3
  subst e1 e3
  have hnD : nb ∉ FD := fun hx => h5.nbn (List.mem_append_right _ hx)
  have hcell := hb.cell h5.nbl hnD
  have h2 : ∀ y ∈ F2, y ∈ FD ∨ w0.heap.size ≤ y := fun y hy => by
    rcases k3 y hy with e | e | e
    · exact .inl e
    · simp at e
    · exact .inr e
  have h3 : ∀ y ∈ F3, y ∈ FD ∨ w0.heap.size ≤ y := fun y hy => by
    rcases m3 y hy with e | e
    · exact h2 y e
    · simp at e
  have hnb : b' ≠ nb := fun e => by
    subst e
    rcases h2 b' hbF with e | e
    · exact hnD e
    · have := h5.nbl; omega
  have e : (RT.node N.k N.n N.s N.keys (N.kids ++ [.node 0 0 ⟨#[]⟩ [] []])).wz ≤ N.wz + 22 := by
    have e : N.wz = 21 + 2 * N.s.size + (4 * N.keys.length + 2 * strSz N.keys) + (N.kids.length + wzAll N.kids) := by cases N; rfl
    have e2 : wzAll [RT.node 0 0 ⟨#[]⟩ [] []] = 21 := rfl
    simp only [RT.wz, List.length_append, List.length_singleton, wzAll_append, e2]
    omega
  -- from the world ahead of the append to that behind the kid's store
  have hb2 : But FD w0 (set5 w' b' (off' + N.kids.length * 5) (.int .i64 0) (.int .i64 0) (.string ⟨#[]⟩) (.slice none 0 0) (.slice none 0 0)) := by
    rcases h2 b' hbF with hin | hout
    · exact hb.set5 hin _ _ _ _ _ _
    · have hw := (hb.mono (G := b' :: FD) fun y hy => List.mem_cons_of_mem _ hy).set5 (List.mem_cons_self ..) (off' + N.kids.length * 5) (.int .i64 0) (.int .i64 0) (.string ⟨#[]⟩) (.slice none 0 0) (.slice none 0 0)
      exact ⟨hw.os, hw.tape, hw.output, hw.size, fun k hk hF => hw.block k hk (fun hx => by rcases List.mem_cons.1 hx with e | e; omega; exact hF e), hw.free, hw.room⟩
  generalize hw2 : set5 w' b' (off' + N.kids.length * 5) (.int .i64 0) (.int .i64 0) (.string ⟨#[]⟩) (.slice none 0 0) (.slice none 0 0) = w2 at *
  have keepK : ∀ y ∈ FK, w2.heap[y]? = w0.heap[y]? := fun y hy => hb2.block y (hK.lt y hy) (fun hx => hKD y hy hx)
  refine ⟨_, w', hr, b', off', c', rfl, g1, g2, hnb, hfz, ⟨u0, u1, u2, u3, u4, c0, c1, c3, c4, c5⟩, ⟨_, (hcell _).trans h5.five.2.2.2.2⟩, fun o => (hb.free nb h5.nbl o).trans (h5.frz o), ?_⟩
  rw [hw2]
  refine h5.set h0 (hb2.mono fun y hy => List.mem_append_right _ hy) 4 (by omega) (.slice (some ⟨b', off', none⟩) (N.kids.length + 1) c') (X := .node N.k N.n N.s N.keys (N.kids ++ [.node 0 0 ⟨#[]⟩ [] []])) (kx := kn) (dx := .slice (some ⟨b', off', none⟩) (N.kids.length + 1) c') (G := FK ++ F3) (fun j hj => by match j, hj with | 0, _ => rfl | 1, _ => rfl | 2, _ => rfl | 3, _ => rfl | 4, _ => rfl) (Lies.into f1 f2 f3 (hK.carry keepK) m1) ⟨?_, fun y hy => ?_, fun y hy o => ?_⟩ (fun y hy => ?_) (by omega)
  · refine List.nodup_append.2 ⟨(List.nodup_append.1 h5.fresh.nodup).1, m2.nodup, fun x hx y hy e => ?_⟩
    subst e
    rcases h3 x hy with e | e
    · exact hKD x hx e
    · have := hK.lt x hx; omega
  · rcases List.mem_append.1 hy with hy | hy
    · exact h5.fresh.old y (List.mem_append_left _ hy)
    · exact m2.old y hy
  · rcases List.mem_append.1 hy with hy | hy
    · rw [World.frozen?_of_block (w := w0) (keepK y hy)]
      exact h5.fresh.free y (List.mem_append_left _ hy) o
    · exact m2.free y hy o
  · rcases List.mem_append.1 hy with hy | hy
    · exact .inl (List.mem_append_left _ hy)
    · rcases h3 y hy with e | e
      · exact .inl (List.mem_append_right _ e)
      · exact .inr e
end
end Go.Proofs.YtelpkcbbipianaaGreat
