/-
  What is proved: a pointer into a tree that lies in memory of its own: whatever the node behind it becomes, there is a tree again, and not much greater.
-/
import Derived.Test.YthbphkakbjheeaaSetP
import Derived.Test.YthbphkakbjheeaaSetZ
namespace Go.Proofs.Ythbphkakbjheeaa
open Go Go.RowKit

/-- From wr to w' nothing has turned of what was made since w but the node's five cells and the blocks F. -/
structure Same (w wr w' : World) (nb no : Nat) (F : List Nat) : Prop where
  size : wr.heap.size ≤ w'.heap.size
  block : ∀ y, w.heap.size ≤ y → y < wr.heap.size → y ∉ F → y ≠ nb → w'.heap[y]? = wr.heap[y]?
  free : ∀ o, w'.frozen? ⟨nb, o, none⟩ = wr.frozen? ⟨nb, o, none⟩
  room : ∀ o, (wr.cell? ⟨nb, o, none⟩).isSome = true → (w'.cell? ⟨nb, o, none⟩).isSome = true
  cell : ∀ o, (o < no ∨ no + 5 ≤ o) → w'.cell? ⟨nb, o, none⟩ = wr.cell? ⟨nb, o, none⟩

/-- Whatever comes to lie in the node's five cells: the tree behind block B is one again. -/
def Plug (w wr : World) (B nb no M : Nat) (FN : List Nat) : Prop :=
  ∀ (w' : World) (N : RT) (kn dn : Value) (G : List Nat), Same w wr w' nb no FN → (∀ j, j < 5 → w'.cell? ⟨nb, no + j, none⟩ = (N.row kn dn)[j]?) → Lies w' N kn dn G → Fresh w w' G → (∀ y ∈ G, y ∈ FN ∨ wr.heap.size ≤ y) →
    ∃ T kt dt F, (∀ j, j < 5 → w'.cell? ⟨B, j, none⟩ = (T.row kt dt)[j]?) ∧ Lies w' T kt dt F ∧ Fresh w w' F ∧ B ∉ F ∧ T.sz ≤ M + N.sz

theorem Plug.root {w wr : World} {B : Nat} {FN : List Nat} (hB : B ∉ FN) (hl : B < wr.heap.size) : Plug w wr B B 0 0 FN := fun w' N kn dn G hs hc hl' hf hG => by
  refine ⟨N, kn, dn, G, fun j hj => ?_, hl', hf, fun h => ?_, by omega⟩
  · have := hc j hj
    rwa [Nat.zero_add] at this
  · rcases hG B h with e | e
    · exact hB e
    · omega

theorem Same.back {w wr w1 w' : World} {nb no : Nat} {F : List Nat} (h : Same w w1 w' nb no F) (hs : wr.heap.size ≤ w1.heap.size) (hb : ∀ y, w.heap.size ≤ y → y < wr.heap.size → w1.heap[y]? = wr.heap[y]?) (hn : w.heap.size ≤ nb) (hl : nb < wr.heap.size) : Same w wr w' nb no F := by
  refine ⟨Nat.le_trans hs h.size, fun y h1 h2 h3 h4 => (h.block y h1 (by omega) h3 h4).trans (hb y h1 h2), fun o => (h.free o).trans (World.frozen?_of_block (w := wr) (hb nb hn hl)), fun o ho => h.room o ?_, fun o ho => (h.cell o ho).trans (World.cell?_of_block (w := wr) (a := ⟨nb, o, none⟩) (hb nb hn hl))⟩
  rw [World.cell?_of_block (w := wr) (a := ⟨nb, o, none⟩) (hb nb hn hl)]
  exact ho

theorem Plug.later {w wr w1 : World} {B nb no M : Nat} {F : List Nat} (h : Plug w wr B nb no M F) (hs : wr.heap.size ≤ w1.heap.size) (hb : ∀ y, w.heap.size ≤ y → y < wr.heap.size → w1.heap[y]? = wr.heap[y]?) (hn : w.heap.size ≤ nb) (hl : nb < wr.heap.size) : Plug w w1 B nb no M F :=
  fun w' N kn dn G h1 h2 h3 h4 h5 => h w' N kn dn G (h1.back hs hb hn hl) h2 h3 h4 (fun y hy => (h5 y hy).imp id (fun e => Nat.le_trans hs e))

theorem kids_sz (N X : RT) (i : Nat) : (RT.node N.k N.n N.s N.keys (N.kids.set i X)).sz ≤ N.sz + X.sz := by
  obtain ⟨k, n, s, keys, kids⟩ := N
  have := szAll_set X kids i
  simp only [RT.sz, RT.kids, RT.keys, RT.s, List.length_set]
  omega

theorem szAll_mem : (l : List RT) → (t : RT) → t ∈ l → t.sz ≤ szAll l
  | [], _, h => absurd h (by simp)
  | x :: l, t, h => by
    rcases List.mem_cons.1 h with e | e
    · rw [e, szAll]; omega
    · have := szAll_mem l t e
      rw [szAll]; omega

theorem kid_sz (N : RT) (i : Nat) (hi : i < N.kids.length) : N.kids[i].sz ≤ N.sz := by
  obtain ⟨k, n, s, keys, kids⟩ := N
  have h : kids[i].sz ≤ szAll kids := by
    exact szAll_mem kids _ (List.getElem_mem hi)
  simp only [RT.sz, RT.kids] at h ⊢
  omega

/-- One step further into the tree. -/
theorem Plug.step {w wr : World} {B nb no M : Nat} {N : RT} {kn : Value} {FK : List Nat} {cap b off : Nat} {FF : Nat → List Nat} {KV DV : Nat → Value} {o : Option Addr}
    (hp : Plug w wr B nb no M (FK ++ ([b] ++ (List.range N.kids.length).flatMap FF))) (hc : ∀ j, j < 5 → wr.cell? ⟨nb, no + j, none⟩ = (N.row kn (.slice o N.kids.length cap))[j]?) (f1 : Fit N.k) (f2 : Fit N.n) (f3 : N.s.size ≤ maxLen) (hK : StrsAt wr kn N.keys FK)
    (h1 : N.kids.length ≤ cap) (h2 : cap ≤ maxLen) (h3 : o = some ⟨b, off, none⟩) (h4 : ∀ i (h : i < N.kids.length), ∀ j, j < 5 → wr.cell? ⟨b, off + i * 5 + j, none⟩ = (N.kids[i].row (KV i) (DV i))[j]?) (h5 : ∀ i (h : i < N.kids.length), Lies wr N.kids[i] (KV i) (DV i) (FF i)) (h6 : Room wr b off (cap * 5))
    (hf : Fresh w wr (FK ++ ([b] ++ (List.range N.kids.length).flatMap FF))) (hnb : nb ∉ FK ++ ([b] ++ (List.range N.kids.length).flatMap FF)) (hnl : nb < wr.heap.size) (hno : w.heap.size ≤ nb) {i : Nat} (hi : i < N.kids.length) :
    Fresh w wr (FF i) ∧ b ∉ FF i ∧ b < wr.heap.size ∧ w.heap.size ≤ b ∧ (∀ o, wr.frozen? ⟨b, o, none⟩ = false) ∧ Plug w wr B b (off + i * 5) (M + N.sz) (FF i) := by
  have hin : ∀ j, j < N.kids.length → ∀ y ∈ FF j, y ∈ (List.range N.kids.length).flatMap FF := fun j hj y hy => List.mem_flatMap.2 ⟨j, List.mem_range.2 hj, hy⟩
  have hbF : b ∈ FK ++ ([b] ++ (List.range N.kids.length).flatMap FF) := by simp
  have hbl : b < wr.heap.size := h6.lt (by omega)
  obtain ⟨n1, n2, n3⟩ := List.nodup_append.1 hf.nodup
  have n4 : b ∉ (List.range N.kids.length).flatMap FF := (List.nodup_cons.1 n2).1
  have n5 : ((List.range N.kids.length).flatMap FF).Nodup := (List.nodup_cons.1 n2).2
  have hKb : ∀ y ∈ FK, y ≠ b ∧ y ∉ (List.range N.kids.length).flatMap FF := fun y hy => ⟨fun e => n3 y hy b (by simp) e, fun e => n3 y hy y (List.mem_append_right _ e) rfl⟩
  have hcut := flat_cut FF (i := i) (n := N.kids.length) (by omega)
  have hcut2 : (List.range (N.kids.length - i)).flatMap (fun j => FF (i + j)) = FF i ++ (List.range (N.kids.length - i - 1)).flatMap (fun j => FF (i + 1 + j)) := by
    obtain ⟨m, hm⟩ : ∃ m, N.kids.length - i = 1 + m := ⟨N.kids.length - i - 1, by omega⟩
    rw [hm, List.range_add, List.flatMap_append, List.flatMap_map, Nat.add_sub_cancel_left]
    congr 1
    · simp
    · exact Go.Deep.flatMap_congr_range fun j _ => by congr 1; omega
  have n6 := n5
  rw [hcut, hcut2] at n6
  obtain ⟨m1, m2, m3⟩ := List.nodup_append.1 n6
  obtain ⟨m4, m5, m6⟩ := List.nodup_append.1 m2
  -- what stands in another kid's blocks stands in none of this one's
  have hother : ∀ j, j < N.kids.length → j ≠ i → ∀ y ∈ FF j, y ∉ FF i := fun j hj e y hy hy' => by
    by_cases hlt : j < i
    · exact m3 y (List.mem_flatMap.2 ⟨j, List.mem_range.2 hlt, hy⟩) y (List.mem_append_left _ hy') rfl
    · exact m6 y hy' y (List.mem_flatMap.2 ⟨j - i - 1, List.mem_range.2 (by omega), by rw [show i + 1 + (j - i - 1) = j by omega]; exact hy⟩) rfl
  have hbX : b ∉ FF i := fun e => n4 (hin i hi b e)
  have hnbb : nb ≠ b := fun e => hnb (e ▸ hbF)
  have hnbX : nb ∉ FF i := fun e => hnb (List.mem_append_right _ (List.mem_append_right _ (hin i hi nb e)))
  refine ⟨⟨m4, fun y hy => hf.old y (List.mem_append_right _ (List.mem_append_right _ (hin i hi y hy))), fun y hy => hf.free y (List.mem_append_right _ (List.mem_append_right _ (hin i hi y hy)))⟩, hbX, hbl, hf.old b hbF, hf.free b hbF, ?_⟩
  intro w' X kx dx G hs hcX hX hfX hG
  have keepK : ∀ y ∈ FK, w'.heap[y]? = wr.heap[y]? := fun y hy => hs.block y (hf.old y (List.mem_append_left _ hy)) (hK.lt y hy) (fun e => (hKb y hy).2 (hin i hi y e)) (hKb y hy).1
  have keepF : ∀ j, (hj : j < N.kids.length) → j ≠ i → ∀ y ∈ FF j, w'.heap[y]? = wr.heap[y]? := fun j hj e y hy => hs.block y (hf.old y (List.mem_append_right _ (List.mem_append_right _ (hin j hj y hy)))) ((h5 j hj).lt y hy) (hother j hj e y hy) (fun e' => n4 (e' ▸ hin j hj y hy))
  have keepN : w'.heap[nb]? = wr.heap[nb]? := hs.block nb hno hnl hnbX hnbb
  have hGlt : ∀ y ∈ G, y ∉ FK ∧ y ≠ b ∧ ∀ j, j < N.kids.length → j ≠ i → y ∉ FF j := fun y hy => by
    rcases hG y hy with e | e
    · exact ⟨fun h => (hKb y h).2 (hin i hi y e), fun h => hbX (h ▸ e), fun j hj hne h => hother j hj hne y h e⟩
    · exact ⟨fun h => by have := hK.lt y h; omega, fun h => by omega, fun j hj _ h => by have := (h5 j hj).lt y h; omega⟩
  have hnew : (List.range N.kids.length).flatMap (fun j => if j = i then G else FF j) = (List.range i).flatMap FF ++ G ++ (List.range (N.kids.length - i - 1)).flatMap (fun j => FF (i + 1 + j)) := by
    obtain ⟨m, hm⟩ : ∃ m, N.kids.length = i + 1 + m := ⟨N.kids.length - i - 1, by omega⟩
    rw [hm, List.range_add, List.flatMap_append, List.flatMap_map, List.range_succ, List.flatMap_append, show i + 1 + m - i - 1 = m by omega]
    congr 1
    · congr 1
      · exact Go.Deep.flatMap_congr_range fun j hj => by rw [if_neg (by omega)]
      · simp
    · exact Go.Deep.flatMap_congr_range fun j hj => by rw [if_neg (by omega)]
  have hmem : ∀ y ∈ (List.range N.kids.length).flatMap (fun j => if j = i then G else FF j), y ∈ G ∨ ∃ j, j < N.kids.length ∧ j ≠ i ∧ y ∈ FF j := fun y hy => by
    obtain ⟨j, hj, hy⟩ := List.mem_flatMap.1 hy
    by_cases e : j = i
    · simp only [e, if_true] at hy; exact .inl hy
    · simp only [e, if_false] at hy; exact .inr ⟨j, List.mem_range.1 hj, e, hy⟩
  obtain ⟨T, kt, dt, F, g1, g2, g3, g4, g5⟩ := hp w' (.node N.k N.n N.s N.keys (N.kids.set i X)) kn (.slice o N.kids.length cap) (FK ++ ([b] ++ (List.range N.kids.length).flatMap (fun j => if j = i then G else FF j)))
    ⟨hs.size, fun y a1 a2 a3 a4 => hs.block y a1 a2 (fun e => a3 (List.mem_append_right _ (List.mem_append_right _ (hin i hi y e)))) (fun e => a3 (e ▸ hbF)), fun o => World.frozen?_of_block (w := wr) keepN, fun o ho => by rw [World.cell?_of_block (w := wr) (a := ⟨nb, o, none⟩) keepN]; exact ho, fun o _ => World.cell?_of_block (w := wr) (a := ⟨nb, o, none⟩) keepN⟩
    (fun j hj => (World.cell?_of_block (w := wr) (a := ⟨nb, no + j, none⟩) keepN).trans (hc j hj))
    (by
      refine Lies.into f1 f2 f3 (hK.carry keepK) ⟨o, cap, b, off, (fun j => if j = i then G else FF j), (fun j => if j = i then kx else KV j), (fun j => if j = i then dx else DV j), by rw [List.length_set], by rw [List.length_set]; exact h1, h2, fun _ => h3, by rw [List.length_set, if_neg (by omega)], fun j hj c hcc => ?_, fun j hj => ?_, fun m hm => hs.room _ (h6 m hm)⟩
      · rw [List.length_set] at hj
        rw [List.getElem_set]
        by_cases e : j = i
        · subst e
          simp only [if_true]
          exact hcX c hcc
        · simp only [e, if_false, if_neg (fun h => e h.symm : ¬ i = j)]
          rw [hs.cell (off + j * 5 + c) (by omega)]
          exact h4 j hj c hcc
      · rw [List.length_set] at hj
        rw [List.getElem_set]
        by_cases e : j = i
        · subst e
          simp only [if_true]
          exact hX
        · simp only [e, if_false, if_neg (fun h => e h.symm : ¬ i = j)]
          exact (h5 j hj).carry (keepF j hj e))
    (by
      refine ⟨List.nodup_append.2 ⟨n1, List.nodup_cons.2 ⟨fun hy => ?_, ?_⟩, fun x hx y hy e => ?_⟩, fun y hy => ?_, fun y hy o => ?_⟩
      · rcases hmem b hy with e | ⟨j, hj, hne, e⟩
        · exact (hGlt b e).2.1 rfl
        · exact n4 (hin j hj b e)
      · show ((List.range N.kids.length).flatMap (fun j => if j = i then G else FF j)).Nodup
        rw [hnew]
        refine List.nodup_append.2 ⟨List.nodup_append.2 ⟨m1, hfX.nodup, fun x hx y hy e => ?_⟩, m5, fun x hx y hy e => ?_⟩
        · subst e
          obtain ⟨j, hj, hx⟩ := List.mem_flatMap.1 hx
          have := List.mem_range.1 hj
          exact (hGlt x hy).2.2 j (by omega) (by omega) hx
        · subst e
          rcases List.mem_append.1 hx with hx | hx
          · exact m3 x hx x (List.mem_append_right _ hy) rfl
          · obtain ⟨j, hj, hy⟩ := List.mem_flatMap.1 hy
            have := List.mem_range.1 hj
            exact (hGlt x hx).2.2 (i + 1 + j) (by omega) (by omega) hy
      · subst e
        rcases List.mem_cons.1 (show x ∈ b :: _ from hy) with e | hy
        · exact (hKb x hx).1 e
        · rcases hmem x hy with e | ⟨j, hj, hne, e⟩
          · exact (hGlt x e).1 hx
          · exact (hKb x hx).2 (hin j hj x e)
      · rcases List.mem_append.1 hy with hy | hy
        · exact hf.old y (List.mem_append_left _ hy)
        · rcases List.mem_cons.1 (show y ∈ b :: _ from hy) with e | hy
          · rw [e]; exact hf.old b hbF
          · rcases hmem y hy with e | ⟨j, hj, hne, e⟩
            · exact hfX.old y e
            · exact hf.old y (List.mem_append_right _ (List.mem_append_right _ (hin j hj y e)))
      · rcases List.mem_append.1 hy with hy | hy
        · rw [World.frozen?_of_block (w := wr) (keepK y hy)]
          exact hf.free y (List.mem_append_left _ hy) o
        · rcases List.mem_cons.1 (show y ∈ b :: _ from hy) with e | hy
          · rw [e, hs.free]; exact hf.free b hbF o
          · rcases hmem y hy with e | ⟨j, hj, hne, e⟩
            · exact hfX.free y e o
            · rw [World.frozen?_of_block (w := wr) (keepF j hj hne y e)]
              exact hf.free y (List.mem_append_right _ (List.mem_append_right _ (hin j hj y e))) o)
    (fun y hy => by
      rcases List.mem_append.1 hy with hy | hy
      · exact .inl (List.mem_append_left _ hy)
      · rcases List.mem_cons.1 (show y ∈ b :: _ from hy) with e | hy
        · rw [e]; exact .inl hbF
        · rcases hmem y hy with e | ⟨j, hj, hne, e⟩
          · rcases hG y e with e | e
            · exact .inl (List.mem_append_right _ (List.mem_append_right _ (hin i hi y e)))
            · exact .inr e
          · exact .inl (List.mem_append_right _ (List.mem_append_right _ (hin j hj y e))))
  have := kids_sz N X i
  exact ⟨T, kt, dt, F, g1, g2, g3, g4, by omega⟩
end Go.Proofs.Ythbphkakbjheeaa
