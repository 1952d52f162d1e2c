/-
  What is proved: the model's drawing of trees that need not be right: what is drawn is small, and lies in memory of its own; nothing turns but the cursor.; the model's drawing of any tree (it need not be right): what is drawn is small, and lies in memory of its own; nothing turns but the cursor.
-/
import Derived.Test.YtmcjghhmcmkomaaGreatDoorPartAS
import Derived.Deep.CutRange
/- the model's drawing of trees that need not be right: what is drawn is small, and lies in memory of its own; nothing turns but the cursor. -/
namespace Go.Proofs.YtmcjghhmcmkomaaGreatDoor
open Go Go.RowKit

/-- Where a pointer into the tree that is drawn stands. -/
structure Hole (w v wr : World) (p : Nat) (a : Option Addr) (len cap : Nat) (B nb no M : Nat) (N : RT) (kn dn : Value) (FN : List Nat) : Prop where
  ds : DS w wr p a len cap
  later : w.heap.size < v.heap.size
  cells : ∀ j, j < 5 → wr.cell? ⟨nb, no + j, none⟩ = (N.row kn dn)[j]?
  lie : Lies wr N kn dn FN
  fresh : Fresh v wr FN
  nbn : nb ∉ FN
  nbl : nb < wr.heap.size
  nbo : v.heap.size ≤ nb
  frz : ∀ o, wr.frozen? ⟨nb, o, none⟩ = false
  plug : Plug v wr B nb no M FN

/-- The tree is whole again. -/
def Healed (w v wr : World) (p : Nat) (a : Option Addr) (len cap : Nat) (B M : Nat) : Prop :=
  DS w wr p a len cap ∧ ∃ T kt dt F, (∀ j, j < 5 → wr.cell? ⟨B, j, none⟩ = (T.row kt dt)[j]?) ∧ Lies wr T kt dt F ∧ Fresh v wr F ∧ B ∉ F ∧ T.wz ≤ M

section
variable {w v wr w1 : World} {p : Nat} {a : Option Addr} {len cap : Nat} {B nb no M : Nat} {N : RT} {kn dn : Value} {FN : List Nat}

theorem Hole.five (h : Hole w v wr p a len cap B nb no M N kn dn FN) : wr.cell? ⟨nb, no, none⟩ = some (.int .i64 N.k) ∧ wr.cell? ⟨nb, no + 1, none⟩ = some (.int .i64 N.n) ∧ wr.cell? ⟨nb, no + 2, none⟩ = some (.string N.s) ∧ wr.cell? ⟨nb, no + 3, none⟩ = some kn ∧ wr.cell? ⟨nb, no + 4, none⟩ = some dn :=
  kid_cells h.cells (Below.refl _ wr)

theorem Hole.draw (h : Hole w v wr p a len cap B nb no M N kn dn FN) (hp : p < w.heap.size) (hc : Cur w1 p a len cap) (hg : wr.grownBy w1 (some p)) : Hole w v w1 p a len cap B nb no M N kn dn FN := by
  have hv := h.later
  have keep : ∀ y, v.heap.size ≤ y → y < wr.heap.size → w1.heap[y]? = wr.heap[y]? := fun y hy hlt => hg.block y hlt (fun e => by injection e with e; omega)
  have hn := keep nb h.nbo h.nbl
  exact ⟨h.ds.draw hp hc hg, hv, fun j hj => (World.cell?_of_block (w := wr) (a := ⟨nb, no + j, none⟩) hn).trans (h.cells j hj), h.lie.carry fun y hy => keep y (h.fresh.old y hy) (h.lie.lt y hy), h.fresh.carry fun y hy => keep y (h.fresh.old y hy) (h.lie.lt y hy), h.nbn, Nat.lt_of_lt_of_le h.nbl hg.size, h.nbo, fun o => (World.frozen?_of_block (w := wr) hn).trans (h.frz o), h.plug.later hg.size keep h.nbo h.nbl⟩

theorem Hole.next (h : Hole w v wr p a len cap B nb no M N kn dn FN) (hb : Below wr.heap.size wr w1) : Hole w v w1 p a len cap B nb no M N kn dn FN := by
  have keep : ∀ y, v.heap.size ≤ y → y < wr.heap.size → w1.heap[y]? = wr.heap[y]? := fun y _ hlt => hb.block y hlt
  have hn := keep nb h.nbo h.nbl
  exact ⟨h.ds.next hb, h.later, fun j hj => (World.cell?_of_block (w := wr) (a := ⟨nb, no + j, none⟩) hn).trans (h.cells j hj), h.lie.carry fun y hy => keep y (h.fresh.old y hy) (h.lie.lt y hy), h.fresh.carry fun y hy => keep y (h.fresh.old y hy) (h.lie.lt y hy), h.nbn, Nat.lt_of_lt_of_le h.nbl hb.size, h.nbo, fun o => (World.frozen?_of_block (w := wr) hn).trans (h.frz o), h.plug.later hb.size keep h.nbo h.nbl⟩

/-- To one of the node's kids. -/
theorem Hole.down (h : Hole w v wr p a len cap B nb no M N kn dn FN) (h0 : 0 < N.kids.length) :
    ∃ b off c, dn = .slice (some ⟨b, off, none⟩) N.kids.length c ∧ N.kids.length ≤ c ∧ c ≤ maxLen ∧ ∀ i (hi : i < N.kids.length), ∃ kx dx FX, Hole w v wr p a len cap B b (off + i * 5) (M + (N.wz - N.kids[i].wz)) N.kids[i] kx dx FX := by
  obtain ⟨f1, f2, f3, FK, FD, hK, ⟨o, c, b, off, FF, KV, DV, rfl, h1, h2, h3, rfl, h4, h5, h6⟩, rfl⟩ := h.lie.out
  have ho := h3 (by omega)
  have hcz : ¬ c = 0 := by omega
  have hp := h.plug
  have hf := h.fresh
  have hnb := h.nbn
  rw [if_neg hcz] at hp hf hnb
  refine ⟨b, off, c, by rw [ho], h1, h2, fun i hi => ⟨KV i, DV i, FF i, ?_⟩⟩
  obtain ⟨g1, g2, g3, g4, g5, g6⟩ := Plug.step hp h.cells f1 f2 f3 hK h1 h2 ho h4 h5 h6 hf hnb h.nbl h.nbo hi
  exact ⟨h.ds, h.later, h4 i hi, h5 i hi, g1, g2, g3, g4, g5, g6⟩

/-- Something else has come to lie behind the pointer. -/
theorem Hole.put (h : Hole w v wr p a len cap B nb no M N kn dn FN) (h0 : Cur w p a len cap) (hb : But (nb :: FN) wr w1) (hcell : ∀ o, (o < no ∨ no + 5 ≤ o) → w1.cell? ⟨nb, o, none⟩ = wr.cell? ⟨nb, o, none⟩)
    {X : RT} {kx dx : Value} {G : List Nat} (hrow : ∀ j, j < 5 → w1.cell? ⟨nb, no + j, none⟩ = (X.row kx dx)[j]?) (hl : Lies w1 X kx dx G) (hf : Fresh v w1 G) (hG : ∀ y ∈ G, y ∈ FN ∨ wr.heap.size ≤ y) {S : Nat} (hS : M + X.wz ≤ S) : Healed w v w1 p a len cap B S := by
  have hv := h.later
  have hn := h.nbo
  have hF : ∀ y ∈ nb :: FN, w.heap.size < y := fun y hy => by
    rcases List.mem_cons.1 hy with e | hy
    · omega
    · have := h.fresh.old y hy; omega
  refine ⟨⟨h.ds.cur.but h0 hb fun y hy => Nat.le_of_lt (hF y hy), grown_but h.ds.grown hb fun y hy => Nat.le_of_lt (hF y hy), (hb.block _ h.ds.lt (fun hx => by have := hF _ hx; omega)).trans h.ds.res⟩, ?_⟩
  obtain ⟨T, kt, dt, F, g1, g2, g3, g4, g5⟩ := h.plug w1 X kx dx G ⟨hb.size, fun y _ hy h1 h2 => hb.block y hy (fun hx => by rcases List.mem_cons.1 hx with e | e; exact h2 e; exact h1 e), fun o => hb.free nb h.nbl o, fun o ho => hb.room nb h.nbl o ho, hcell⟩ hrow hl hf hG
  exact ⟨T, kt, dt, F, g1, g2, g3, g4, by omega⟩

/-- One of the node's five cells is stored, behind what has turned in the node's own blocks. -/
theorem Hole.set (h : Hole w v wr p a len cap B nb no M N kn dn FN) (h0 : Cur w p a len cap) (hb : But FN wr w1) (i : Nat) (hi : i < 5) (u : Value)
    {X : RT} {kx dx : Value} {G : List Nat} (hrow : ∀ j, j < 5 → (X.row kx dx)[j]? = if j = i then some u else (N.row kn dn)[j]?) (hl : Lies w1 X kx dx G) (hf : Fresh v w1 G) (hG : ∀ y ∈ G, y ∈ FN ∨ wr.heap.size ≤ y) {S : Nat} (hS : M + X.wz ≤ S) :
    Healed w v (w1.setCell ⟨nb, no + i, none⟩ u) p a len cap B S := by
  have hn := hb.block nb h.nbl h.nbn
  have hcell : ∀ o, w1.cell? ⟨nb, o, none⟩ = wr.cell? ⟨nb, o, none⟩ := fun o => World.cell?_of_block (w := wr) (a := ⟨nb, o, none⟩) hn
  have hnG : ∀ y ∈ G, y ≠ nb := fun y hy e => by
    subst e
    rcases hG y hy with e | e
    · exact h.nbn e
    · have := h.nbl; omega
  have keep : ∀ y ∈ G, (w1.setCell ⟨nb, no + i, none⟩ u).heap[y]? = w1.heap[y]? := fun y hy => Below.heap_setCell _ _ _ _ (hnG y hy)
  have hother : ∀ o, o ≠ no + i → (w1.setCell ⟨nb, no + i, none⟩ u).cell? ⟨nb, o, none⟩ = wr.cell? ⟨nb, o, none⟩ := fun o ho => (cell_far (by omega)).trans (hcell o)
  refine h.put h0 ((hb.mono fun y hy => List.mem_cons_of_mem _ hy).set (p := ⟨nb, no + i, none⟩) (List.mem_cons_self ..) u) (fun o ho => hother o (by omega)) (fun j hj => ?_) (hl.carry keep) (hf.carry keep) hG hS
  rw [hrow j hj]
  by_cases e : j = i
  · subst e
    rw [if_pos rfl]
    have hc := h.cells j hj
    have : j < (N.row kn dn).length := hj
    rw [List.getElem?_eq_getElem this] at hc
    exact cell_here ((hcell _).trans hc)
  · rw [if_neg e, hother _ (by omega)]
    exact h.cells j hj

/-- Nothing has. -/
theorem Hole.stop (h : Hole w v wr p a len cap B nb no M N kn dn FN) (h0 : Cur w p a len cap) {S : Nat} (hS : M + N.wz ≤ S) : Healed w v wr p a len cap B S :=
  h.put h0 (But.refl _ _) (fun _ _ => rfl) h.cells h.lie h.fresh (fun _ hy => .inl hy) hS
end

theorem Hole.start {w w0 w1 : World} {p : Nat} {a : Option Addr} {len cap : Nat} {T : RT} {kt dt : Value} {F : List Nat} (hd : DS w w0 p a len cap) (hp : p < w.heap.size) (hc : Cur w1 p a len cap) (hg : w0.grownBy w1 (some p)) (hl : Lies w1 T kt dt F) (hf : Fresh w0 w1 F) :
    Hole w w0 (w1.alloc (.cells #[.int .i64 T.k, .int .i64 T.n, .string T.s, kt, dt] 27)) p a len cap w1.heap.size w1.heap.size 0 0 T kt dt F := by
  have hba := (Below.refl _ w1).alloc (Nat.le_refl _) (.cells #[.int .i64 T.k, .int .i64 T.n, .string T.s, kt, dt] 27)
  have hlast := heap_last w1 (.cells #[.int .i64 T.k, .int .i64 T.n, .string T.s, kt, dt] 27)
  have hlt := (Array.getElem?_eq_some_iff.1 hlast).1
  have hn : w1.heap.size ∉ F := fun h => by have := hl.lt _ h; omega
  obtain ⟨x0, x1, x2, x3, x4, x5⟩ := Go.Proofs.YtmcjghhmcmkomaaGreatDoor.five hlast
  refine ⟨(hd.draw hp hc hg).next hba, hd.lt, fun j hj => ?_, hl.stay hba (Nat.le_refl _), hf.carry fun y hy => hba.block y (hl.lt y hy), hn, hlt, hg.size, x5, Plug.root hn hlt⟩
  match j, hj with
  | 0, _ => exact x0
  | 1, _ => exact x1
  | 2, _ => exact x2
  | 3, _ => exact x3
  | 4, _ => exact x4

section
variable {w v wr w1 : World} {p : Nat} {a : Option Addr} {len cap : Nat} {B nb no M : Nat} {N : RT} {kn dn : Value} {FN : List Nat}

theorem Hole.kid {b off c : Nat} (h : Hole w v wr p a len cap B nb no M N kn (.slice (some ⟨b, off, none⟩) N.kids.length c) FN) {i : Nat} (hi : i < N.kids.length) :
    ∃ kx dx FX, Hole w v wr p a len cap B b (off + i * 5) (M + (N.wz - N.kids[i].wz)) N.kids[i] kx dx FX := by
  obtain ⟨b', off', c', e, -, -, h3⟩ := h.down (by omega)
  injection e with e1 e2 e3
  have e4 := Option.some.inj e1
  injection e4 with e5 e6
  subst e5 e6
  exact h3 i hi

/-- Its kind is stored. -/
theorem Hole.setK (h : Hole w v wr p a len cap B nb no M N kn dn FN) (h0 : Cur w p a len cap) (k : Int) (hk : Fit k) {S : Nat} (hS : M + N.wz ≤ S) : Healed w v (wr.setCell ⟨nb, no, none⟩ (.int .i64 k)) p a len cap B S := by
  obtain ⟨f1, f2, f3, FK, FD, hK, hD, rfl⟩ := h.lie.out
  have e : (RT.node k N.n N.s N.keys N.kids).wz = N.wz := by cases N; rfl
  exact h.set h0 (But.refl _ _) 0 (by omega) (.int .i64 k) (X := .node k N.n N.s N.keys N.kids) (kx := kn) (dx := dn) (fun j hj => by match j, hj with | 0, _ => rfl | 1, _ => rfl | 2, _ => rfl | 3, _ => rfl | 4, _ => rfl) (Lies.into hk f2 f3 hK hD) h.fresh (fun y hy => .inl hy) (by omega)

/-- Its number is stored. -/
theorem Hole.setN (h : Hole w v wr p a len cap B nb no M N kn dn FN) (h0 : Cur w p a len cap) (n : Int) (hn : Fit n) {S : Nat} (hS : M + N.wz ≤ S) : Healed w v (wr.setCell ⟨nb, no + 1, none⟩ (.int .i64 n)) p a len cap B S := by
  obtain ⟨f1, f2, f3, FK, FD, hK, hD, rfl⟩ := h.lie.out
  have e : (RT.node N.k n N.s N.keys N.kids).wz = N.wz := by cases N; rfl
  exact h.set h0 (But.refl _ _) 1 (by omega) (.int .i64 n) (X := .node N.k n N.s N.keys N.kids) (kx := kn) (dx := dn) (fun j hj => by match j, hj with | 0, _ => rfl | 1, _ => rfl | 2, _ => rfl | 3, _ => rfl | 4, _ => rfl) (Lies.into f1 hn f3 hK hD) h.fresh (fun y hy => .inl hy) (by omega)

/-- Its text is stored. -/
theorem Hole.setS (h : Hole w v wr p a len cap B nb no M N kn dn FN) (h0 : Cur w p a len cap) (s : ByteArray) (hs : s.size ≤ 12) {S : Nat} (hS : M + N.wz + 24 ≤ S) : Healed w v (wr.setCell ⟨nb, no + 2, none⟩ (.string s)) p a len cap B S := by
  obtain ⟨f1, f2, f3, FK, FD, hK, hD, rfl⟩ := h.lie.out
  have e : (RT.node N.k N.n s N.keys N.kids).wz ≤ N.wz + 24 := by cases N; simp only [RT.wz, RT.keys, RT.kids]; omega
  exact h.set h0 (But.refl _ _) 2 (by omega) (.string s) (X := .node N.k N.n s N.keys N.kids) (kx := kn) (dx := dn) (fun j hj => by match j, hj with | 0, _ => rfl | 1, _ => rfl | 2, _ => rfl | 3, _ => rfl | 4, _ => rfl) (Lies.into f1 f2 (by unfold maxLen; omega) hK hD) h.fresh (fun y hy => .inl hy) (by omega)

/-- One key more. -/
theorem Hole.key (h : Hole w v wr p a len cap B nb no M N kn dn FN) (h0 : Cur w p a len cap) (key : ByteArray) (hkey : key.size ≤ 12) (hn : N.keys.length ≤ 1048576) {S : Nat} (hS : M + N.wz + 28 ≤ S) (ty : TypeId) :
    ∃ v' w', (Builtin.append_ #[24, 24] ty #[kn, .slice (some ⟨wr.heap.size, 0, none⟩) 1 1]).run Tryz.prog (wr.alloc (.cells #[.string key] 9)) = .ok v' w' ∧
      ∃ o' c', v' = .slice o' (N.keys.length + 1) c' ∧ (∃ u, w'.cell? ⟨nb, no + 3, none⟩ = some u) ∧ (∀ o, w'.frozen? ⟨nb, o, none⟩ = false) ∧ Healed w v (w'.setCell ⟨nb, no + 3, none⟩ (.slice o' (N.keys.length + 1) c')) p a len cap B S := by
  have hba := (Below.refl _ wr).alloc (Nat.le_refl _) (.cells #[.string key] 9)
  have h5 := h.next hba
  obtain ⟨f1, f2, f3, FK, FD, hK, hD, rfl⟩ := h5.lie.out
  have hKD := nodup_of h5.fresh.nodup
  have hv : v.heap.size ≤ (wr.alloc (.cells #[.string key] 9)).heap.size := Nat.le_trans h5.nbo (Nat.le_of_lt h5.nbl)
  obtain ⟨v', w', hr, o', c', rfl, hb, F2, k1, k2, k3⟩ := append_str (w := v) hK ⟨(List.nodup_append.1 h5.fresh.nodup).1, fun y hy => h5.fresh.old y (List.mem_append_left _ hy), fun y hy => h5.fresh.free y (List.mem_append_left _ hy)⟩ key (by unfold maxLen; omega) (heap_last wr _) hn hv ty
  have hnK : nb ∉ FK := fun hx => h5.nbn (List.mem_append_left _ hx)
  have hcell := hb.cell h5.nbl hnK
  have e : (RT.node N.k N.n N.s (N.keys ++ [key]) N.kids).wz ≤ N.wz + 28 := by
    have e : N.wz = 21 + 2 * N.s.size + (4 * N.keys.length + 2 * strSz N.keys) + (N.kids.length + wzAll N.kids) := by cases N; rfl
    have e2 : strSz [key] = key.size := by simp [strSz]
    simp only [RT.wz, List.length_append, List.length_singleton, strSz_append, e2]
    omega
  have keepD : ∀ y ∈ FD, w'.heap[y]? = (wr.alloc (.cells #[.string key] 9)).heap[y]? := fun y hy => hb.block y (hD.lt y hy) (fun hx => hKD y hx hy)
  refine ⟨_, w', hr, o', c', rfl, ⟨_, (hcell _).trans h5.five.2.2.2.1⟩, fun o => (hb.free nb h5.nbl o).trans (h5.frz o), ?_⟩
  refine h5.set h0 (hb.mono fun y hy => List.mem_append_left _ hy) 3 (by omega) _ (X := .node N.k N.n N.s (N.keys ++ [key]) N.kids) (dx := dn) (G := F2 ++ FD) (fun j hj => by match j, hj with | 0, _ => rfl | 1, _ => rfl | 2, _ => rfl | 3, _ => rfl | 4, _ => rfl) (Lies.into f1 f2 f3 k1 (hD.carry keepD)) ⟨?_, fun y hy => ?_, fun y hy o => ?_⟩ (fun y hy => ?_) (by omega)
  · refine List.nodup_append.2 ⟨k2.nodup, (List.nodup_append.1 h5.fresh.nodup).2.1, fun x hx y hy e => ?_⟩
    subst e
    rcases k3 x hx with e | e
    · exact hKD x e hy
    · have := hD.lt x hy; omega
  · rcases List.mem_append.1 hy with hy | hy
    · exact k2.old y hy
    · exact h5.fresh.old y (List.mem_append_right _ hy)
  · rcases List.mem_append.1 hy with hy | hy
    · exact k2.free y hy o
    · rw [World.frozen?_of_block (w := wr.alloc (.cells #[.string key] 9)) (keepD y hy)]
      exact h5.fresh.free y (List.mem_append_right _ hy) o
  · rcases List.mem_append.1 hy with hy | hy
    · exact (k3 y hy).imp (fun e => List.mem_append_left _ e) id
    · exact .inl (List.mem_append_right _ hy)

/-- Stores into two blocks may change places. -/
theorem setCell_swap (w : World) {b b' : Nat} (h : b ≠ b') (o o' : Nat) (v v' : Value) : (w.setCell ⟨b, o, none⟩ v).setCell ⟨b', o', none⟩ v' = (w.setCell ⟨b', o', none⟩ v').setCell ⟨b, o, none⟩ v := by
  unfold World.setCell
  simp only [Option.isSome_none, Bool.false_eq_true, if_false]
  congr 1
  apply Array.ext_getElem?
  intro i
  simp only [Array.getElem?_modify]
  by_cases e1 : b = i
  · subst e1
    simp [Ne.symm h]
  · by_cases e2 : b' = i
    · subst e2
      simp [h]
    · simp [e1, e2]

theorem set5_swap (w : World) {b b' : Nat} (h : b ≠ b') (o o' : Nat) (v0 v1 v2 v3 v4 v' : Value) : set5 (w.setCell ⟨b', o', none⟩ v') b o v0 v1 v2 v3 v4 = (set5 w b o v0 v1 v2 v3 v4).setCell ⟨b', o', none⟩ v' := by
  unfold set5
  rw [setCell_swap _ h, setCell_swap _ h, setCell_swap _ h, setCell_swap _ h, setCell_swap _ h]

theorem But.set5 {F : List Nat} {a w : World} (h : But F a w) {b : Nat} (hp : b ∈ F) (o : Nat) (v0 v1 v2 v3 v4 : Value) : But F a (set5 w b o v0 v1 v2 v3 v4) :=
  ((((h.set (p := ⟨b, o, none⟩) hp v0).set (p := ⟨b, o + 1, none⟩) hp v1).set (p := ⟨b, o + 2, none⟩) hp v2).set (p := ⟨b, o + 3, none⟩) hp v3).set (p := ⟨b, o + 4, none⟩) hp v4

/-- One empty kid more. -/
theorem Hole.leaf (h : Hole w v wr p a len cap B nb no M N kn dn FN) (h0 : Cur w p a len cap) (hn : N.kids.length ≤ 1048576) {S : Nat} (hS : M + N.wz + 22 ≤ S) (ty : TypeId) :
    ∃ v' w', (Builtin.append_ #[25, 25] ty #[dn, .slice (some ⟨wr.heap.size, 0, none⟩) 1 1]).run Tryz.prog (wr.alloc (.cells #[.int .i64 0, .int .i64 0, .string ⟨#[]⟩, .slice none 0 0, .slice none 0 0] 27)) = .ok v' w' ∧
      ∃ b' off' c', v' = .slice (some ⟨b', off', none⟩) (N.kids.length + 1) c' ∧ N.kids.length + 1 ≤ c' ∧ c' ≤ maxLen ∧ b' ≠ nb ∧ (∀ o, w'.frozen? ⟨b', o, none⟩ = false) ∧
        (∃ u0 u1 u2 u3 u4, w'.cell? ⟨b', off' + N.kids.length * 5, none⟩ = some u0 ∧ w'.cell? ⟨b', off' + N.kids.length * 5 + 1, none⟩ = some u1 ∧ w'.cell? ⟨b', off' + N.kids.length * 5 + 2, none⟩ = some u2 ∧ w'.cell? ⟨b', off' + N.kids.length * 5 + 3, none⟩ = some u3 ∧ w'.cell? ⟨b', off' + N.kids.length * 5 + 4, none⟩ = some u4) ∧
        (∃ u, w'.cell? ⟨nb, no + 4, none⟩ = some u) ∧ (∀ o, w'.frozen? ⟨nb, o, none⟩ = false) ∧
        Healed w v ((set5 w' b' (off' + N.kids.length * 5) (.int .i64 0) (.int .i64 0) (.string ⟨#[]⟩) (.slice none 0 0) (.slice none 0 0)).setCell ⟨nb, no + 4, none⟩ (.slice (some ⟨b', off', none⟩) (N.kids.length + 1) c')) p a len cap B S := by
  have hba := (Below.refl _ wr).alloc (Nat.le_refl _) (.cells #[.int .i64 0, .int .i64 0, .string ⟨#[]⟩, .slice none 0 0, .slice none 0 0] 27)
  have h5 := h.next hba
  obtain ⟨f1, f2, f3, FK, FD, hK, hD, rfl⟩ := h5.lie.out
  have hKD := nodup_of h5.fresh.nodup
  have hv : v.heap.size ≤ (wr.alloc (.cells #[.int .i64 0, .int .i64 0, .string ⟨#[]⟩, .slice none 0 0, .slice none 0 0] 27)).heap.size := Nat.le_trans h5.nbo (Nat.le_of_lt h5.nbl)
  have hX : Lies (wr.alloc (.cells #[.int .i64 0, .int .i64 0, .string ⟨#[]⟩, .slice none 0 0, .slice none 0 0] 27)) (.node 0 0 ⟨#[]⟩ [] []) (.slice none 0 0) (.slice none 0 0) [] := leaf_lies _ ⟨by decide, by decide⟩ ⟨by decide, by decide⟩ (by decide)
  obtain ⟨v', w', hr, o', c', rfl, hb, F2, k1, k2, k3⟩ := append_kid (w := v) hD ⟨(List.nodup_append.1 h5.fresh.nodup).2.1, fun y hy => h5.fresh.old y (List.mem_append_right _ hy), fun y hy => h5.fresh.free y (List.mem_append_right _ hy)⟩ hX (Fresh.nil _ _) (fun x hx => absurd hx (by simp)) (heap_last wr _) hn hv ty
  generalize wr.alloc (.cells #[.int .i64 0, .int .i64 0, .string ⟨#[]⟩, .slice none 0 0, .slice none 0 0] 27) = w0 at *
  have hX' : Lies w' (.node 0 0 ⟨#[]⟩ [] []) (.slice none 0 0) (.slice none 0 0) [] := leaf_lies _ ⟨by decide, by decide⟩ ⟨by decide, by decide⟩ (by decide)
  obtain ⟨b', off', c2, u0, u1, u2, u3, u4, e0, g1, g2, hbF, hfz, c0, c1, c3, c4, c5, F3, m1, m2, m3⟩ := kids_put (w := v) k1 k2 hX' (Fresh.nil _ _) (fun x hx => absurd hx (by simp)) (i := N.kids.length) (by simp)
  have hset : (N.kids ++ [RT.node 0 0 ⟨#[]⟩ [] []]).set N.kids.length (.node 0 0 ⟨#[]⟩ [] []) = N.kids ++ [.node 0 0 ⟨#[]⟩ [] []] := by simp
  rw [hset] at m1
  replace m1 : KidsLie (set5 w' b' (off' + N.kids.length * 5) (.int .i64 0) (.int .i64 0) (.string ⟨#[]⟩) (.slice none 0 0) (.slice none 0 0)) _ _ F3 := m1
  replace m2 : Fresh v (set5 w' b' (off' + N.kids.length * 5) (.int .i64 0) (.int .i64 0) (.string ⟨#[]⟩) (.slice none 0 0) (.slice none 0 0)) F3 := m2
  rw [List.length_append, List.length_singleton] at e0 g1
  injection e0 with e1 e2 e3
  subst e1 e3
  have hnD : nb ∉ FD := fun hx => h5.nbn (List.mem_append_right _ hx)
  have hcell := hb.cell h5.nbl hnD
  have h2 : ∀ y ∈ F2, y ∈ FD ∨ w0.heap.size ≤ y := fun y hy => by
    rcases k3 y hy with e | e | e
    · exact .inl e
    · simp at e
    · exact .inr e
  have h3 : ∀ y ∈ F3, y ∈ FD ∨ w0.heap.size ≤ y := fun y hy => by
    rcases m3 y hy with e | e
    · exact h2 y e
    · simp at e
  have hnb : b' ≠ nb := fun e => by
    subst e
    rcases h2 b' hbF with e | e
    · exact hnD e
    · have := h5.nbl; omega
  have e : (RT.node N.k N.n N.s N.keys (N.kids ++ [.node 0 0 ⟨#[]⟩ [] []])).wz ≤ N.wz + 22 := by
    have e : N.wz = 21 + 2 * N.s.size + (4 * N.keys.length + 2 * strSz N.keys) + (N.kids.length + wzAll N.kids) := by cases N; rfl
    have e2 : wzAll [RT.node 0 0 ⟨#[]⟩ [] []] = 21 := rfl
    simp only [RT.wz, List.length_append, List.length_singleton, wzAll_append, e2]
    omega
  -- from the world ahead of the append to that behind the kid's store
  have hb2 : But FD w0 (set5 w' b' (off' + N.kids.length * 5) (.int .i64 0) (.int .i64 0) (.string ⟨#[]⟩) (.slice none 0 0) (.slice none 0 0)) := by
    rcases h2 b' hbF with hin | hout
    · exact hb.set5 hin _ _ _ _ _ _
    · have hw := (hb.mono (G := b' :: FD) fun y hy => List.mem_cons_of_mem _ hy).set5 (List.mem_cons_self ..) (off' + N.kids.length * 5) (.int .i64 0) (.int .i64 0) (.string ⟨#[]⟩) (.slice none 0 0) (.slice none 0 0)
      exact ⟨hw.os, hw.tape, hw.output, hw.size, fun k hk hF => hw.block k hk (fun hx => by rcases List.mem_cons.1 hx with e | e; omega; exact hF e), hw.free, hw.room⟩
  generalize hw2 : set5 w' b' (off' + N.kids.length * 5) (.int .i64 0) (.int .i64 0) (.string ⟨#[]⟩) (.slice none 0 0) (.slice none 0 0) = w2 at *
  have keepK : ∀ y ∈ FK, w2.heap[y]? = w0.heap[y]? := fun y hy => hb2.block y (hK.lt y hy) (fun hx => hKD y hy hx)
  refine ⟨_, w', hr, b', off', c', rfl, g1, g2, hnb, hfz, ⟨u0, u1, u2, u3, u4, c0, c1, c3, c4, c5⟩, ⟨_, (hcell _).trans h5.five.2.2.2.2⟩, fun o => (hb.free nb h5.nbl o).trans (h5.frz o), ?_⟩
  rw [hw2]
  refine h5.set h0 (hb2.mono fun y hy => List.mem_append_right _ hy) 4 (by omega) (.slice (some ⟨b', off', none⟩) (N.kids.length + 1) c') (X := .node N.k N.n N.s N.keys (N.kids ++ [.node 0 0 ⟨#[]⟩ [] []])) (kx := kn) (dx := .slice (some ⟨b', off', none⟩) (N.kids.length + 1) c') (G := FK ++ F3) (fun j hj => by match j, hj with | 0, _ => rfl | 1, _ => rfl | 2, _ => rfl | 3, _ => rfl | 4, _ => rfl) (Lies.into f1 f2 f3 (hK.carry keepK) m1) ⟨?_, fun y hy => ?_, fun y hy o => ?_⟩ (fun y hy => ?_) (by omega)
  · refine List.nodup_append.2 ⟨(List.nodup_append.1 h5.fresh.nodup).1, m2.nodup, fun x hx y hy e => ?_⟩
    subst e
    rcases h3 x hy with e | e
    · exact hKD x hx e
    · have := hK.lt x hx; omega
  · rcases List.mem_append.1 hy with hy | hy
    · exact h5.fresh.old y (List.mem_append_left _ hy)
    · exact m2.old y hy
  · rcases List.mem_append.1 hy with hy | hy
    · rw [World.frozen?_of_block (w := w0) (keepK y hy)]
      exact h5.fresh.free y (List.mem_append_left _ hy) o
    · exact m2.free y hy o
  · rcases List.mem_append.1 hy with hy | hy
    · exact .inl (List.mem_append_left _ hy)
    · rcases h3 y hy with e | e
      · exact .inl (List.mem_append_right _ e)
      · exact .inr e
end
end Go.Proofs.YtmcjghhmcmkomaaGreatDoor

/- the model's drawing of any tree (it need not be right): what is drawn is small, and lies in memory of its own; nothing turns but the cursor. -/
namespace Go.Proofs.YtmcjghhmcmkomaaGreatDoor
open Go Go.RowKit

set_option maxHeartbeats 1000000 in
/-- A number below n is drawn, n more than 256. -/
theorem below_wide (n : Nat) (h1 : 256 < n) (hn : n ≤ 1048576) (a : Option Addr) (len cap p : Nat) (w : World) (hc : Cur w p a len cap) :
    Calls Tryz.prog 34 #[.pointer (some ⟨p, 0, none⟩), .int .i64 n] w fun e w' => ∃ v, e = .returned v ∧ ∃ r : Nat, v = .int .i64 r ∧ r < n ∧ Cur w' p a len cap ∧ w.grownBy w' (some p) := by
  have HC := Lib.hid hc
  have HG := Lib.hid (World.grownBy.refl w (some p))
  clear hc
  have hz : ((n : Int) == 0) = false := by simp; omega
  have t1 : True := trivial
  have t2 : True := trivial
  have t3 : True := trivial
  have t4 : True := trivial
  go_enter Tryz.func34, Tryz.ntmps34
  go_wp2_with (first
    | (go_at_call 66; clear t1; refine (byte_any a len cap p _ HC.out.cur HC.out.code HC.out.apart).mono ?_; rintro e w1 ⟨⟨x, hx, rfl⟩, hc1, ho1⟩; replace HC := Lib.hid (HC.out.only hc1 ho1); replace HG := Lib.hid (HG.out.andThen ho1.grown (fun _ hj => .inr hj)); clear hc1 ho1)
    | (go_at_call 66; clear t2; refine (byte_any a len cap p _ HC.out.cur HC.out.code HC.out.apart).mono ?_; rintro e w2 ⟨⟨y, hy, rfl⟩, hc1, ho1⟩; replace HC := Lib.hid (HC.out.only hc1 ho1); replace HG := Lib.hid (HG.out.andThen ho1.grown (fun _ hj => .inr hj)); clear hc1 ho1)
    | (go_at_call 66; clear t3; refine (byte_any a len cap p _ HC.out.cur HC.out.code HC.out.apart).mono ?_; rintro e w3 ⟨⟨z, hzz, rfl⟩, hc1, ho1⟩; replace HC := Lib.hid (HC.out.only hc1 ho1); replace HG := Lib.hid (HG.out.andThen ho1.grown (fun _ hj => .inr hj)); clear hc1 ho1)
    | (go_at_call 66; clear t4; refine (byte_any a len cap p _ HC.out.cur HC.out.code HC.out.apart).mono ?_; rintro e w4 ⟨⟨u, hu, rfl⟩, hc1, ho1⟩; replace HC := Lib.hid (HC.out.only hc1 ho1); replace HG := Lib.hid (HG.out.andThen ho1.grown (fun _ hj => .inr hj)); clear hc1 ho1)
    | fail)
  go_ret
  exact ⟨_, rfl, (x * 16777216 + y * 65536 + z * 256 + u) % n, by go_num, Nat.mod_lt _ (by omega), HC.out, HG.out⟩

theorem below_all (n : Nat) (h1 : 0 < n) (hn : n ≤ 1048576) (a : Option Addr) (len cap p : Nat) (w : World) (hc : Cur w p a len cap) :
    Calls Tryz.prog 34 #[.pointer (some ⟨p, 0, none⟩), .int .i64 n] w fun e w' => ∃ v, e = .returned v ∧ ∃ r : Nat, v = .int .i64 r ∧ r < n ∧ Cur w' p a len cap ∧ w.grownBy w' (some p) := by
  by_cases h : n ≤ 256
  · refine (below_any n h1 h a len cap p w hc.cur hc.code hc.apart).mono ?_
    rintro e w' ⟨⟨r, hr, rfl⟩, hc1, ho1⟩
    exact ⟨_, rfl, r, rfl, hr, hc.only hc1 ho1, ho1.grown⟩
  · exact below_wide n (by omega) hn a len cap p w hc

set_option maxRecDepth 100000 in
set_option maxHeartbeats 4000000 in
theorem draw_all (a : Option Addr) (len cap p : Nat) (w : World) (hc : Cur w p a len cap) :
    Calls Tryz.prog 15 #[.pointer (some ⟨p, 0, none⟩)] w fun e w' => ∃ T kv dv F, e = .returned (.agg #[.int .i64 T.k, .int .i64 T.n, .string T.s, kv, dv]) ∧ Lies w' T kv dv F ∧ Fresh w w' F ∧ Cur w' p a len cap ∧ w.grownBy w' (some p) ∧ T.wz ≤ 3000 := by
  have HC := Lib.hid hc
  have HD := Lib.hid (DS.start hc)
  have hp : Hid (p < w.heap.size) := hc.lt
  clear hc
  have t1 : True := trivial
  go_enter Tryz.func15, Tryz.ntmps15
  go_wp2_with (first
    | (go_at_call 32; clear t1; refine (draw_three a len cap p _ HD.out.cur).mono ?_; rintro e w1 ⟨T, kt, dt, FT, rfl, hl1, hf1, hc1, hg1, hsz1⟩; obtain ⟨⟨o1, q1, rfl⟩, ⟨o2, q2, rfl⟩⟩ := hl1.slices
       have HH := Lib.hid (And.intro (Hole.start HD.out hp.out hc1 hg1 hl1 hf1) hsz1); clear hl1 hf1 hc1 hg1 hsz1)
    | fail)
  go_loopw [4, 5] (fun q k wr => ∃ (j nb no M : Nat) (N : RT) (kn dn : Value) (FN : List Nat), j ≤ 3 ∧ q = .pointer (some ⟨nb, no, none⟩) ∧ k = .int .i64 j ∧ Hid (Hole w (w.alloc (.cells #[.int .i64 0, .int .i64 0, .string ⟨#[]⟩, .slice none 0 0, .slice none 0 0] 27)) wr p a len cap w1.heap.size nb no M N kn dn FN ∧ M + N.wz ≤ 2700)) (fun _ k _ => 3 - (intOf k).toNat)
  case atStart => exact ⟨0, _, _, 0, T, _, _, _, by omega, rfl, rfl, HH.out.1, by have h := HH.out.2; have e : bnd 3 = 2685 := rfl; omega⟩
  case round =>
    obtain ⟨j, nb, no, M, N, kn, dn, FN, hj, rfl, rfl, hr⟩ := hrel
    clear HH HD
    generalize w.alloc (.cells #[.int .i64 0, .int .i64 0, .string ⟨#[]⟩, .slice none 0 0, .slice none 0 0] 27) = w0 at *
    generalize w1.heap.size = B at *
    go_upto_region 4 with fail
    go_cut [22] from 8 to 36 (fun c wc => ∃ b : Bool, c = .bool b ∧ (b = true → j < 3 ∧ 0 < N.kids.length) ∧ Hid (Hole w w0 wc p a len cap B nb no M N kn dn FN))
    case first =>
      obtain ⟨⟨o3, q3, rfl⟩, ⟨o4, q4, rfl⟩⟩ := hr.out.1.lie.slices
      obtain ⟨x0, x1, x2, x3, x4⟩ := hr.out.1.five
      by_cases hlt : j < 3
      · by_cases hk : 0 < N.kids.length
        · go_wp2_with (first
            | (go_at_call 33; refine (once_any 2 (by omega) (by omega) a len cap p _ hr.out.1.ds.cur).mono ?_; rintro e w3 ⟨⟨b, rfl⟩, hc3, ho3⟩; have H3 := Lib.hid (hr.out.1.draw hp.out hc3 ho3.grown); clear hc3 ho3)
            | fail)
          go_meet
          case rel => exact ⟨_, rfl, fun _ => ⟨hlt, hk⟩, H3.out⟩
        · have hk0 : N.kids.length = 0 := by omega
          rw [hk0] at x4
          go_wp2_with fail
          go_meet
          case rel => exact ⟨false, rfl, by simp, hr.out.1⟩
      · have e : j = 3 := by omega
        subst e
        go_wp2_with fail
        go_meet
        case rel => exact ⟨false, rfl, by simp, hr.out.1⟩
    case rest =>
      obtain ⟨b, rfl, hb, hh⟩ := hcut
      have HZ : Hid (N.wz ≤ 2700 ∧ M + N.wz ≤ 2700) := by have h := hr.out.2; exact ⟨by omega, h⟩
      clear hr
      cases b
      · clear hb
        go_upto_region 8 with (first
          | (go_at_call 34; refine (below_any 14 (by omega) (by omega) a len cap p _ hh.out.ds.cur.cur hh.out.ds.cur.code hh.out.ds.cur.apart).mono ?_; rintro e w3 ⟨⟨r, hr, rfl⟩, hc1, ho1⟩; have H3 := Lib.hid (hh.out.draw hp.out (hh.out.ds.cur.only hc1 ho1) ho1.grown); clear hc1 ho1)
          | fail)
        clear hh
        obtain ⟨⟨o3, q3, rfl⟩, ⟨o4, q4, rfl⟩⟩ := H3.out.lie.slices
        obtain ⟨x0, x1, x2, x3, x4⟩ := H3.out.five
        have x5 := H3.out.frz
        have HW := Lib.hid H3.out.later
        obtain rfl | rfl | rfl | rfl | rfl | h5 : r = 0 ∨ r = 1 ∨ r = 2 ∨ r = 3 ∨ r = 4 ∨ 5 ≤ r := by omega
        · go_upto_region 18 with (first
            | (go_at_call 34; refine (below_any 8 (by omega) (by omega) a len cap p _ H3.out.ds.cur.cur H3.out.ds.cur.code H3.out.ds.cur.apart).mono ?_; rintro e w4 ⟨⟨k, hk, rfl⟩, hc1, ho1⟩; have H4 := Lib.hid (H3.out.draw hp.out (H3.out.ds.cur.only hc1 ho1) ho1.grown); obtain ⟨y0, y1, y2, y3, y4⟩ := H4.out.five; have y5 := H4.out.frz; clear hc1 ho1 x0 x1 x2 x3 x4 x5)
            | fail)
          have HE := Lib.hid (H4.out.setK HC.out ((k : Int) - 1) ⟨by omega, by omega⟩ (S := 3000) (by have h1 := HZ.out.1; have h2 := HZ.out.2; omega))
          generalize w4.setCell ⟨nb, no, none⟩ (.int .i64 ((k : Int) - 1)) = w5 at *
          clear y0 y1 y2 y3 y4 y5 H4
          obtain ⟨hds, R, kr, dr, FR, hcB, hlR, hfR, hnB, hsR⟩ := HE.out
          obtain ⟨⟨o5, q5, rfl⟩, ⟨o6, q6, rfl⟩⟩ := hlR.slices
          obtain ⟨b0, b1, b2, b3, b4⟩ := kid_cells (o := 0) (fun j hj => by rw [Nat.zero_add]; exact hcB j hj) (Below.refl _ _)
          obtain ⟨z0, z1, z2, z3, z4, z5⟩ := five hds.res
          have HF := Lib.hid (And.intro (hds.fin HC.out hlR (hfR.earlier (Nat.le_of_lt HW.out)) (fun hx => by have := hfR.old _ hx; have := HW.out; omega)) hsR)
          clear hds hcB hlR hfR hnB hsR HE
          go_wp2
          exact bodyPost_ret (ret_node Tryz.results15 rfl HF.out.1.1) rfl ⟨_, _, _, _, rfl, HF.out.1.2.1, HF.out.1.2.2.1, HF.out.1.2.2.2.1, HF.out.1.2.2.2.2, HF.out.2⟩
        · go_upto_region 18 with (first
            | (go_at_call 35; refine (pickInt_laid Fit [1, 2, 1000000000001] _ rfl _ _ rfl (by decide) (by decide) (by unfold Fit; decide) a len cap p _ rfl H3.out.ds.cur).mono ?_; rintro e w4 ⟨⟨k, hk, rfl⟩, hc3, hg3⟩; have H4 := Lib.hid (H3.out.draw hp.out hc3 hg3); obtain ⟨y0, y1, y2, y3, y4⟩ := H4.out.five; have y5 := H4.out.frz; clear hc3 hg3 x0 x1 x2 x3 x4 x5)
            | fail)
          have HE := Lib.hid (H4.out.setN HC.out k hk (S := 3000) (by have h1 := HZ.out.1; have h2 := HZ.out.2; omega))
          generalize w4.setCell ⟨nb, no + 1, none⟩ (.int .i64 k) = w5 at *
          clear y0 y1 y2 y3 y4 y5 H4
          obtain ⟨hds, R, kr, dr, FR, hcB, hlR, hfR, hnB, hsR⟩ := HE.out
          obtain ⟨⟨o5, q5, rfl⟩, ⟨o6, q6, rfl⟩⟩ := hlR.slices
          obtain ⟨b0, b1, b2, b3, b4⟩ := kid_cells (o := 0) (fun j hj => by rw [Nat.zero_add]; exact hcB j hj) (Below.refl _ _)
          obtain ⟨z0, z1, z2, z3, z4, z5⟩ := five hds.res
          have HF := Lib.hid (And.intro (hds.fin HC.out hlR (hfR.earlier (Nat.le_of_lt HW.out)) (fun hx => by have := hfR.old _ hx; have := HW.out; omega)) hsR)
          clear hds hcB hlR hfR hnB hsR HE
          go_wp2
          exact bodyPost_ret (ret_node Tryz.results15 rfl HF.out.1.1) rfl ⟨_, _, _, _, rfl, HF.out.1.2.1, HF.out.1.2.2.1, HF.out.1.2.2.2.1, HF.out.1.2.2.2.2, HF.out.2⟩
        · go_upto_region 18 with (first
            | (go_at_call 36; refine (pick_laid (fun s => s.size ≤ 12) [⟨#[120]⟩, ⟨#[31]⟩, ⟨#[127]⟩] _ rfl _ _ rfl (by decide) (by decide) (by decide) a len cap p _ rfl H3.out.ds.cur).mono ?_; rintro e w4 ⟨⟨s, hs, rfl⟩, hc3, hg3⟩; have H4 := Lib.hid (H3.out.draw hp.out hc3 hg3); obtain ⟨y0, y1, y2, y3, y4⟩ := H4.out.five; have y5 := H4.out.frz; clear hc3 hg3 x0 x1 x2 x3 x4 x5)
            | fail)
          have HE := Lib.hid (H4.out.setS HC.out s hs (S := 3000) (by have h1 := HZ.out.1; have h2 := HZ.out.2; omega))
          generalize w4.setCell ⟨nb, no + 2, none⟩ (.string s) = w5 at *
          clear y0 y1 y2 y3 y4 y5 H4
          obtain ⟨hds, R, kr, dr, FR, hcB, hlR, hfR, hnB, hsR⟩ := HE.out
          obtain ⟨⟨o5, q5, rfl⟩, ⟨o6, q6, rfl⟩⟩ := hlR.slices
          obtain ⟨b0, b1, b2, b3, b4⟩ := kid_cells (o := 0) (fun j hj => by rw [Nat.zero_add]; exact hcB j hj) (Below.refl _ _)
          obtain ⟨z0, z1, z2, z3, z4, z5⟩ := five hds.res
          have HF := Lib.hid (And.intro (hds.fin HC.out hlR (hfR.earlier (Nat.le_of_lt HW.out)) (fun hx => by have := hfR.old _ hx; have := HW.out; omega)) hsR)
          clear hds hcB hlR hfR hnB hsR HE
          go_wp2
          exact bodyPost_ret (ret_node Tryz.results15 rfl HF.out.1.1) rfl ⟨_, _, _, _, rfl, HF.out.1.2.1, HF.out.1.2.2.1, HF.out.1.2.2.2.1, HF.out.1.2.2.2.2, HF.out.2⟩
        · have HM := Lib.hid (H3.out.key HC.out ⟨#[97]⟩ (by decide) (by have h1 := HZ.out.1; have h4 : N.keys.length ≤ N.wz := by { cases N; simp only [RT.wz, RT.keys]; omega }; omega) (S := 3000) (by have h1 := HZ.out.1; have h2 := HZ.out.2; omega))
          go_upto_region 18 with (first
            | (at_builtin; refine list_append_run rfl _ _ 24 rfl _ _ rfl rfl (HM.out _) ?_
               rintro v4 w4 ⟨o7, c7, rfl, ⟨u7, y3⟩, y5, hE⟩
               have HE := Lib.hid hE
               clear hE x0 x1 x2 x3 x4 x5)
            | fail)
          generalize w4.setCell ⟨nb, no + 3, none⟩ (.slice o7 (N.keys.length + 1) c7) = w5 at *
          clear y3 y5
          obtain ⟨hds, R, kr, dr, FR, hcB, hlR, hfR, hnB, hsR⟩ := HE.out
          obtain ⟨⟨o5, q5, rfl⟩, ⟨o6, q6, rfl⟩⟩ := hlR.slices
          obtain ⟨b0, b1, b2, b3, b4⟩ := kid_cells (o := 0) (fun j hj => by rw [Nat.zero_add]; exact hcB j hj) (Below.refl _ _)
          obtain ⟨z0, z1, z2, z3, z4, z5⟩ := five hds.res
          have HF := Lib.hid (And.intro (hds.fin HC.out hlR (hfR.earlier (Nat.le_of_lt HW.out)) (fun hx => by have := hfR.old _ hx; have := HW.out; omega)) hsR)
          clear hds hcB hlR hfR hnB hsR HE
          go_wp2
          exact bodyPost_ret (ret_node Tryz.results15 rfl HF.out.1.1) rfl ⟨_, _, _, _, rfl, HF.out.1.2.1, HF.out.1.2.2.1, HF.out.1.2.2.2.1, HF.out.1.2.2.2.2, HF.out.2⟩
        · go_upto_region 17 with fail
          have HS := Lib.hid (H3.out.next (below_drewN (Below.refl _ w3) 1))
          have x4a : (w3.alloc (.cells #[.int .i64 0, .int .i64 0, .string ⟨#[]⟩, .slice none 0 0, .slice none 0 0] 27)).cell? ⟨nb, no + 4, none⟩ = some (.slice o4 N.kids.length q4) := (H3.out.next ((Below.refl _ w3).alloc (Nat.le_refl _) (.cells #[.int .i64 0, .int .i64 0, .string ⟨#[]⟩, .slice none 0 0, .slice none 0 0] 27))).five.2.2.2.2
          have HM := Lib.hid (HS.out.leaf HC.out (by have h1 := HZ.out.1; have h4 : N.kids.length ≤ N.wz := by { cases N; simp only [RT.wz, RT.kids]; omega }; omega) (S := 3000) (by have h1 := HZ.out.1; have h2 := HZ.out.2; omega))
          go_region_law (first
            | (refine step_append_run (by rfl) _ _ 25 (by rfl) (.slice o4 N.kids.length q4) (.slice (some ⟨w3.heap.size, 0, none⟩) 1 1) (by rfl) (by rfl) (HM.out _) ?_
               rintro v4 w4 ⟨b7, off7, c7, rfl, hc1, hc2, hne, hfz, ⟨u0, u1, u2, u3, u4, c0, c1, c2, c3, c4⟩, ⟨u7, y4⟩, y5, hE⟩
               have HE : Hid (Healed w w0 ((((((w4.setCell ⟨b7, off7 + N.kids.length * 5, none⟩ (.int .i64 0)).setCell ⟨b7, off7 + N.kids.length * 5 + 1, none⟩ (.int .i64 0)).setCell ⟨b7, off7 + N.kids.length * 5 + 2, none⟩ (.string ⟨#[]⟩)).setCell ⟨b7, off7 + N.kids.length * 5 + 3, none⟩ (.slice none 0 0)).setCell ⟨b7, off7 + N.kids.length * 5 + 4, none⟩ (.slice none 0 0)).setCell ⟨nb, no + 4, none⟩ (.slice (some ⟨b7, off7, none⟩) (N.kids.length + 1) c7)) p a len cap B 3000) := hE
               have HE2 : Hid (Healed w w0 ((((((w4.setCell ⟨nb, no + 4, none⟩ (.slice (some ⟨b7, off7, none⟩) (N.kids.length + 1) c7)).setCell ⟨b7, off7 + N.kids.length * 5, none⟩ (.int .i64 0)).setCell ⟨b7, off7 + N.kids.length * 5 + 1, none⟩ (.int .i64 0)).setCell ⟨b7, off7 + N.kids.length * 5 + 2, none⟩ (.string ⟨#[]⟩)).setCell ⟨b7, off7 + N.kids.length * 5 + 3, none⟩ (.slice none 0 0)).setCell ⟨b7, off7 + N.kids.length * 5 + 4, none⟩ (.slice none 0 0)) p a len cap B 3000) := by
                 have e := set5_swap w4 hne (off7 + N.kids.length * 5) (no + 4) (.int .i64 0) (.int .i64 0) (.string ⟨#[]⟩) (.slice none 0 0) (.slice none 0 0) (.slice (some ⟨b7, off7, none⟩) (N.kids.length + 1) c7)
                 have hE' : Healed w w0 (set5 (w4.setCell ⟨nb, no + 4, none⟩ (.slice (some ⟨b7, off7, none⟩) (N.kids.length + 1) c7)) b7 (off7 + N.kids.length * 5) (.int .i64 0) (.int .i64 0) (.string ⟨#[]⟩) (.slice none 0 0) (.slice none 0 0)) p a len cap B 3000 := by rw [e]; exact hE
                 exact hE'
               have hne2 : ¬ (nb = b7) := fun e => hne e.symm
               have hlt7 : (N.kids.length : Int) < (N.kids.length : Int) + 1 := by omega
               clear hE)
            | fail)
          · go_upto_region 18 with fail
            generalize (((((w4.setCell ⟨b7, off7 + N.kids.length * 5, none⟩ (.int .i64 0)).setCell ⟨b7, off7 + N.kids.length * 5 + 1, none⟩ (.int .i64 0)).setCell ⟨b7, off7 + N.kids.length * 5 + 2, none⟩ (.string ⟨#[]⟩)).setCell ⟨b7, off7 + N.kids.length * 5 + 3, none⟩ (.slice none 0 0)).setCell ⟨b7, off7 + N.kids.length * 5 + 4, none⟩ (.slice none 0 0)).setCell ⟨nb, no + 4, none⟩ (.slice (some ⟨b7, off7, none⟩) (N.kids.length + 1) c7) = w5 at *
            clear HE2
            clear x0 x1 x2 x3 x4 x5 x4a c0 c1 c2 c3 c4 y4 y5
            obtain ⟨hds, R, kr, dr, FR, hcB, hlR, hfR, hnB, hsR⟩ := HE.out
            obtain ⟨⟨o5, q5, rfl⟩, ⟨o6, q6, rfl⟩⟩ := hlR.slices
            obtain ⟨b0, b1, b2, b3, b4⟩ := kid_cells (o := 0) (fun j hj => by rw [Nat.zero_add]; exact hcB j hj) (Below.refl _ _)
            obtain ⟨z0, z1, z2, z3, z4, z5⟩ := five hds.res
            have HF := Lib.hid (And.intro (hds.fin HC.out hlR (hfR.earlier (Nat.le_of_lt HW.out)) (fun hx => by have := hfR.old _ hx; have := HW.out; omega)) hsR)
            clear hds hcB hlR hfR hnB hsR HE
            go_wp2
            exact bodyPost_ret (ret_node Tryz.results15 rfl HF.out.1.1) rfl ⟨_, _, _, _, rfl, HF.out.1.2.1, HF.out.1.2.2.1, HF.out.1.2.2.2.1, HF.out.1.2.2.2.2, HF.out.2⟩
          · go_upto_region 18 with fail
            generalize (((((w4.setCell ⟨nb, no + 4, none⟩ (.slice (some ⟨b7, off7, none⟩) (N.kids.length + 1) c7)).setCell ⟨b7, off7 + N.kids.length * 5, none⟩ (.int .i64 0)).setCell ⟨b7, off7 + N.kids.length * 5 + 1, none⟩ (.int .i64 0)).setCell ⟨b7, off7 + N.kids.length * 5 + 2, none⟩ (.string ⟨#[]⟩)).setCell ⟨b7, off7 + N.kids.length * 5 + 3, none⟩ (.slice none 0 0)).setCell ⟨b7, off7 + N.kids.length * 5 + 4, none⟩ (.slice none 0 0) = w5 at *
            replace HE := HE2; clear HE2
            clear x0 x1 x2 x3 x4 x5 x4a c0 c1 c2 c3 c4 y4 y5
            obtain ⟨hds, R, kr, dr, FR, hcB, hlR, hfR, hnB, hsR⟩ := HE.out
            obtain ⟨⟨o5, q5, rfl⟩, ⟨o6, q6, rfl⟩⟩ := hlR.slices
            obtain ⟨b0, b1, b2, b3, b4⟩ := kid_cells (o := 0) (fun j hj => by rw [Nat.zero_add]; exact hcB j hj) (Below.refl _ _)
            obtain ⟨z0, z1, z2, z3, z4, z5⟩ := five hds.res
            have HF := Lib.hid (And.intro (hds.fin HC.out hlR (hfR.earlier (Nat.le_of_lt HW.out)) (fun hx => by have := hfR.old _ hx; have := HW.out; omega)) hsR)
            clear hds hcB hlR hfR hnB hsR HE
            go_wp2
            exact bodyPost_ret (ret_node Tryz.results15 rfl HF.out.1.1) rfl ⟨_, _, _, _, rfl, HF.out.1.2.1, HF.out.1.2.2.1, HF.out.1.2.2.2.1, HF.out.1.2.2.2.2, HF.out.2⟩
          · go_upto_region 18 with fail
            generalize (((((w4.setCell ⟨b7, off7 + N.kids.length * 5, none⟩ (.int .i64 0)).setCell ⟨b7, off7 + N.kids.length * 5 + 1, none⟩ (.int .i64 0)).setCell ⟨b7, off7 + N.kids.length * 5 + 2, none⟩ (.string ⟨#[]⟩)).setCell ⟨b7, off7 + N.kids.length * 5 + 3, none⟩ (.slice none 0 0)).setCell ⟨b7, off7 + N.kids.length * 5 + 4, none⟩ (.slice none 0 0)).setCell ⟨nb, no + 4, none⟩ (.slice (some ⟨b7, off7, none⟩) (N.kids.length + 1) c7) = w5 at *
            clear HE2
            clear x0 x1 x2 x3 x4 x5 x4a c0 c1 c2 c3 c4 y4 y5
            obtain ⟨hds, R, kr, dr, FR, hcB, hlR, hfR, hnB, hsR⟩ := HE.out
            obtain ⟨⟨o5, q5, rfl⟩, ⟨o6, q6, rfl⟩⟩ := hlR.slices
            obtain ⟨b0, b1, b2, b3, b4⟩ := kid_cells (o := 0) (fun j hj => by rw [Nat.zero_add]; exact hcB j hj) (Below.refl _ _)
            obtain ⟨z0, z1, z2, z3, z4, z5⟩ := five hds.res
            have HF := Lib.hid (And.intro (hds.fin HC.out hlR (hfR.earlier (Nat.le_of_lt HW.out)) (fun hx => by have := hfR.old _ hx; have := HW.out; omega)) hsR)
            clear hds hcB hlR hfR hnB hsR HE
            go_wp2
            exact bodyPost_ret (ret_node Tryz.results15 rfl HF.out.1.1) rfl ⟨_, _, _, _, rfl, HF.out.1.2.1, HF.out.1.2.2.1, HF.out.1.2.2.2.1, HF.out.1.2.2.2.2, HF.out.2⟩
          · go_upto_region 18 with fail
            generalize (((((w4.setCell ⟨nb, no + 4, none⟩ (.slice (some ⟨b7, off7, none⟩) (N.kids.length + 1) c7)).setCell ⟨b7, off7 + N.kids.length * 5, none⟩ (.int .i64 0)).setCell ⟨b7, off7 + N.kids.length * 5 + 1, none⟩ (.int .i64 0)).setCell ⟨b7, off7 + N.kids.length * 5 + 2, none⟩ (.string ⟨#[]⟩)).setCell ⟨b7, off7 + N.kids.length * 5 + 3, none⟩ (.slice none 0 0)).setCell ⟨b7, off7 + N.kids.length * 5 + 4, none⟩ (.slice none 0 0) = w5 at *
            replace HE := HE2; clear HE2
            clear x0 x1 x2 x3 x4 x5 x4a c0 c1 c2 c3 c4 y4 y5
            obtain ⟨hds, R, kr, dr, FR, hcB, hlR, hfR, hnB, hsR⟩ := HE.out
            obtain ⟨⟨o5, q5, rfl⟩, ⟨o6, q6, rfl⟩⟩ := hlR.slices
            obtain ⟨b0, b1, b2, b3, b4⟩ := kid_cells (o := 0) (fun j hj => by rw [Nat.zero_add]; exact hcB j hj) (Below.refl _ _)
            obtain ⟨z0, z1, z2, z3, z4, z5⟩ := five hds.res
            have HF := Lib.hid (And.intro (hds.fin HC.out hlR (hfR.earlier (Nat.le_of_lt HW.out)) (fun hx => by have := hfR.old _ hx; have := HW.out; omega)) hsR)
            clear hds hcB hlR hfR hnB hsR HE
            go_wp2
            exact bodyPost_ret (ret_node Tryz.results15 rfl HF.out.1.1) rfl ⟨_, _, _, _, rfl, HF.out.1.2.1, HF.out.1.2.2.1, HF.out.1.2.2.2.1, HF.out.1.2.2.2.2, HF.out.2⟩
        · have HE := Lib.hid (H3.out.stop HC.out (S := 3000) (by have h1 := HZ.out.1; have h2 := HZ.out.2; omega))
          have n0 : ¬ ((r : Int) = 0) := by omega
          have n1 : ¬ ((r : Int) = 1) := by omega
          have n2 : ¬ ((r : Int) = 2) := by omega
          have n3 : ¬ ((r : Int) = 3) := by omega
          have n4 : ¬ ((r : Int) = 4) := by omega
          go_upto_region 18 with fail
          clear x0 x1 x2 x3 x4 x5
          obtain ⟨hds, R, kr, dr, FR, hcB, hlR, hfR, hnB, hsR⟩ := HE.out
          obtain ⟨⟨o5, q5, rfl⟩, ⟨o6, q6, rfl⟩⟩ := hlR.slices
          obtain ⟨b0, b1, b2, b3, b4⟩ := kid_cells (o := 0) (fun j hj => by rw [Nat.zero_add]; exact hcB j hj) (Below.refl _ _)
          obtain ⟨z0, z1, z2, z3, z4, z5⟩ := five hds.res
          have HF := Lib.hid (And.intro (hds.fin HC.out hlR (hfR.earlier (Nat.le_of_lt HW.out)) (fun hx => by have := hfR.old _ hx; have := HW.out; omega)) hsR)
          clear hds hcB hlR hfR hnB hsR HE
          go_wp2
          exact bodyPost_ret (ret_node Tryz.results15 rfl HF.out.1.1) rfl ⟨_, _, _, _, rfl, HF.out.1.2.1, HF.out.1.2.2.1, HF.out.1.2.2.2.1, HF.out.1.2.2.2.2, HF.out.2⟩
      · obtain ⟨hlt, hk⟩ := hb rfl
        clear hb
        obtain ⟨b, off, c, rfl, hc1, hc2, -⟩ := hh.out.down hk
        obtain ⟨⟨o3, q3, rfl⟩, -⟩ := hh.out.lie.slices
        obtain ⟨x0, x1, x2, x3, x4⟩ := hh.out.five
        have HBel : Hid (∀ W, Cur W p a len cap → Calls Tryz.prog 34 #[.pointer (some ⟨p, 0, none⟩), .int .i64 N.kids.length] W fun e w' => ∃ v, e = .returned v ∧ ∃ i : Nat, v = .int .i64 i ∧ i < N.kids.length ∧ Cur w' p a len cap ∧ W.grownBy w' (some p)) := fun W hW => by
          have h1 := HZ.out.1
          have h4 : N.kids.length ≤ N.wz := by cases N; simp only [RT.wz, RT.kids]; omega
          exact below_all _ hk (by omega) a len cap p W hW
        go_upto_region 6 with fail
        have HS := Lib.hid (hh.out.next (below_drewN (Below.refl _ wc) 1))
        go_region_law (first
          | (refine step_calls (by rfl) 34 _ _ (by rfl) #[.pointer (some ⟨p, 0, none⟩), .int .i64 N.kids.length] (by simp [Act.eval, Act.put]) (by intros; simp [go_sem]) (fun _ _ => rfl) (HBel.out _ HS.out.ds.cur) ?_
             rintro u w5 ⟨i, rfl, hi, hc5, hg5⟩
             have H5 := Lib.hid (HS.out.draw hp.out hc5 hg5)
             obtain ⟨xx0, xx1, xx2, xx3, xx4⟩ := H5.out.five
             have hi0 : (i : Int) < (N.kids.length : Int) := by omega
             clear hc5 hg5)
          | fail)
        all_goals
          go_wp2
          go_roundw
          case rel =>
            obtain ⟨kx, dx, FX, hx⟩ := H5.out.kid hi
            exact ⟨j + 1, b, off + i * 5, M + (N.wz - N.kids[i].wz), N.kids[i], kx, dx, FX, by omega, rfl, by go_num, hx, by have h1 := kid_wz N i hi; have h2 := HZ.out.2; omega⟩
          case measure => simp [intOf]; omega

theorem draw_any (a : Option Addr) (len cap p : Nat) (w : World) (hc : Cur w p a len cap) :
    Calls Tryz.prog 15 #[.pointer (some ⟨p, 0, none⟩)] w fun e w' => ∃ T kv dv F, e = .returned (.agg #[.int .i64 T.k, .int .i64 T.n, .string T.s, kv, dv]) ∧ Lies w' T kv dv F ∧ Fresh w w' F ∧ Cur w' p a len cap ∧ w.grownBy w' (some p) ∧ T.sz ≤ 6000 := by
  refine (draw_all a len cap p w hc).mono ?_
  rintro e w' ⟨T, kv, dv, F, h1, h2, h3, h4, h5, h6⟩
  exact ⟨T, kv, dv, F, h1, h2, h3, h4, h5, by have := wz_sz T; omega⟩
end Go.Proofs.YtmcjghhmcmkomaaGreatDoor
