/-
  What is proved: the laws' markNodeS and markNode write their marks into the lists of a tree whose lists lie apart, and into nothing else.
-/
import Derived.Test.YtbcgkpkkhinkcaaTreeMark
namespace Go.Proofs.Ytbcgkpkkhinkcaa
open Go Go.RowKit

theorem flat_apart {FF : Nat → List Nat} {n : Nat} (h : ((List.range n).flatMap FF).Nodup) : (∀ i, i < n → (FF i).Nodup) ∧ ∀ i j, i < n → j < n → i ≠ j → ∀ x ∈ FF i, x ∉ FF j := by
  induction n with
  | zero => exact ⟨fun i hi => absurd hi (by omega), fun i j hi => absurd hi (by omega)⟩
  | succ n ih =>
    rw [List.range_succ, List.flatMap_append] at h
    simp only [List.flatMap_cons, List.flatMap_nil, List.append_nil] at h
    obtain ⟨h1, h2, h3⟩ := List.nodup_append.1 h
    obtain ⟨i1, i2⟩ := ih h1
    have mem : ∀ i, i < n → ∀ x ∈ FF i, x ∈ (List.range n).flatMap FF := fun i hi x hx => List.mem_flatMap.2 ⟨i, List.mem_range.2 hi, hx⟩
    refine ⟨fun i hi => ?_, fun i j hi hj hij x hx hx' => ?_⟩
    · by_cases e : i = n
      · subst e; exact h2
      · exact i1 i (by omega)
    · by_cases e : i = n
      · subst e
        exact h3 x (mem j (by omega) x hx') x hx rfl
      · by_cases e2 : j = n
        · subst e2
          exact h3 x (mem i (by omega) x hx) x hx' rfl
        · exact i2 i j (by omega) (by omega) hij x hx hx'

/-- A row of trees, some of which have their marks: all that has turned lies in F. -/
structure MState (F : List Nat) (w wr : World) (b off n : Nat) (KV DV : Nat → Value) (FF : Nat → List Nat) (M : Nat → RT) : Prop where
  but : But F w wr
  row : ∀ j, j < n → ∀ c, c < 5 → wr.cell? ⟨b, off + j * 5 + c, none⟩ = ((M j).row (KV j) (DV j))[c]?
  lie : ∀ j, j < n → Lies wr (M j) (KV j) (DV j) (FF j)

theorem MState.step {F : List Nat} {w wr w' : World} {b off n : Nat} {KV DV : Nat → Value} {FF : Nat → List Nat} {M : Nat → RT} (h : MState F w wr b off n KV DV FF M) {i : Nat} (hi : i < n) (X : RT)
    (hbF : b ∈ F) (hbF' : ∀ j, j < n → b ∉ FF j) (hFF : ∀ x ∈ FF i, x ∈ F) (hap : ∀ j, j < n → j ≠ i → ∀ x ∈ FF j, x ∉ FF i)
    (hbut : But (b :: FF i) wr w') (hrow : ∀ c, c < 5 → w'.cell? ⟨b, off + i * 5 + c, none⟩ = (X.row (KV i) (DV i))[c]?)
    (hoth : ∀ j, j < n → j ≠ i → ∀ c, c < 5 → w'.cell? ⟨b, off + j * 5 + c, none⟩ = wr.cell? ⟨b, off + j * 5 + c, none⟩) (hl : Lies w' X (KV i) (DV i) (FF i)) :
    MState F w w' b off n KV DV FF (fun j => if j = i then X else M j) where
  but := h.but.trans (hbut.mono fun x hx => by
    rcases List.mem_cons.1 hx with e | e
    · rw [e]; exact hbF
    · exact hFF x e)
  row := fun j hj c hc => by
    by_cases e : j = i
    · subst e
      simp only [if_true]
      exact hrow c hc
    · simp only [e, if_false]
      rw [hoth j hj e c hc]
      exact h.row j hj c hc
  lie := fun j hj => by
    by_cases e : j = i
    · subst e
      simp only [if_true]
      exact hl
    · simp only [e, if_false]
      refine (h.lie j hj).but hbut fun x hx hx' => ?_
      rcases List.mem_cons.1 hx' with e' | e'
      · exact hbF' j hj (e' ▸ hx)
      · exact hap j hj e x hx e'

/-- The first three cells of a node, written, with a call between. -/
theorem mark_head {wr w1 : World} {b p : Nat} {x : RT} {kv dv : Value} (q : Nat) (hrow : ∀ c, c < 5 → wr.cell? ⟨b, p + c, none⟩ = (x.row kv dv)[c]?)
    (hb1 : Below ((wr.setCell ⟨b, p, none⟩ (.int .i64 (q : Nat))).setCell ⟨b, p + 1, none⟩ (.int .i64 (q + 1 : Nat))).heap.size ((wr.setCell ⟨b, p, none⟩ (.int .i64 (q : Nat))).setCell ⟨b, p + 1, none⟩ (.int .i64 (q + 1 : Nat))) w1) :
    But [b] wr (w1.setCell ⟨b, p + 2, none⟩ (.string (markTxt (q + 2)))) ∧ (∀ c, c < 5 → (w1.setCell ⟨b, p + 2, none⟩ (.string (markTxt (q + 2)))).cell? ⟨b, p + c, none⟩ = ((markOne x q).row kv dv)[c]?) ∧
    (∀ o, (o < p ∨ p + 5 ≤ o) → (w1.setCell ⟨b, p + 2, none⟩ (.string (markTxt (q + 2)))).cell? ⟨b, o, none⟩ = wr.cell? ⟨b, o, none⟩) ∧ w1.cell? ⟨b, p + 2, none⟩ = some (.string x.s) ∧ w1.cell? ⟨b, p + 3, none⟩ = some kv ∧ w1.cell? ⟨b, p + 4, none⟩ = some dv ∧ But [b] wr w1 := by
  have c0 : wr.cell? ⟨b, p, none⟩ = some (.int .i64 x.k) := hrow 0 (by omega)
  have c1 : wr.cell? ⟨b, p + 1, none⟩ = some (.int .i64 x.n) := hrow 1 (by omega)
  have c2 : wr.cell? ⟨b, p + 2, none⟩ = some (.string x.s) := hrow 2 (by omega)
  have c3 : wr.cell? ⟨b, p + 3, none⟩ = some kv := hrow 3 (by omega)
  have c4 : wr.cell? ⟨b, p + 4, none⟩ = some dv := hrow 4 (by omega)
  have hlt : b < wr.heap.size := World.block_lt_of_cell? _ _ c0
  have hA1 : (wr.setCell ⟨b, p, none⟩ (.int .i64 (q : Nat))).cell? ⟨b, p + 1, none⟩ = some (.int .i64 x.n) := by rw [set_cell c0, if_neg (by omega)]; exact c1
  have hA : ∀ o, ((wr.setCell ⟨b, p, none⟩ (.int .i64 (q : Nat))).setCell ⟨b, p + 1, none⟩ (.int .i64 (q + 1 : Nat))).cell? ⟨b, o, none⟩ = if o = p + 1 then some (.int .i64 (q + 1 : Nat)) else if o = p then some (.int .i64 (q : Nat)) else wr.cell? ⟨b, o, none⟩ := fun o => by
    rw [set_cell hA1, set_cell c0]
  have hw1 : ∀ o, w1.cell? ⟨b, o, none⟩ = if o = p + 1 then some (.int .i64 (q + 1 : Nat)) else if o = p then some (.int .i64 (q : Nat)) else wr.cell? ⟨b, o, none⟩ := fun o => by
    rw [hb1.cell (by simp [World.setCell]; exact hlt), hA]
  have h2 : w1.cell? ⟨b, p + 2, none⟩ = some (.string x.s) := by rw [hw1, if_neg (by omega), if_neg (by omega)]; exact c2
  have hbut : But [b] wr w1 := ((((But.refl [b] wr).set (p := ⟨b, p, none⟩) (by simp) _).set (p := ⟨b, p + 1, none⟩) (by simp) _).trans (But.of_below hb1))
  refine ⟨hbut.set (by simp) _, fun c hc => ?_, fun o ho => ?_, h2, ?_, ?_, hbut⟩
  · rw [set_cell h2, hw1]
    match c, hc with
    | 0, _ => rw [if_neg (by omega), if_neg (by omega), if_pos (by omega)]; rfl
    | 1, _ => rw [if_neg (by omega), if_pos rfl]; rfl
    | 2, _ => rw [if_pos rfl]; rfl
    | 3, _ => rw [if_neg (by omega), if_neg (by omega), if_neg (by omega)]; exact c3
    | 4, _ => rw [if_neg (by omega), if_neg (by omega), if_neg (by omega)]; exact c4
  · rw [set_cell h2, hw1, if_neg (by omega), if_neg (by omega), if_neg (by omega)]
  · rw [hw1, if_neg (by omega), if_neg (by omega)]; exact c3
  · rw [hw1, if_neg (by omega), if_neg (by omega)]; exact c4

/-- What markNodeS does to the kids of one tree. -/
def MarkAt (T : RT) : Prop := ∀ (w : World) (dv : Value) (F : List Nat), KidsLie w dv T.kids F → F.Nodup → (∀ b ∈ F, ∀ o, w.frozen? ⟨b, o, none⟩ = false) → ∀ k : Nat, 0 < k → k + cntAll T.kids ≤ 1000000000 →
  Calls Try.prog 26 #[dv, .int .i64 k] w fun e w' => e = .returned (.int .i64 (k + cntAll T.kids : Nat)) ∧ KidsLie w' dv (markAll T.kids k) F ∧ But F w w'

set_option maxRecDepth 100000 in
set_option maxHeartbeats 1600000 in
theorem mark_nodes (T : RT) : MarkAt T := by
  induction T using RT.ind with
  | h kk nn ss keys kids ih =>
    intro w dv F hs hnd hfz k h0 h1
    have h1' : k + cntAll kids ≤ 1000000000 := h1
    clear h1
    show Calls Try.prog 26 #[dv, .int .i64 k] w fun e w' => e = .returned (.int .i64 (k + cntAll kids : Nat)) ∧ KidsLie w' dv (markAll kids k) F ∧ But F w w'
    obtain ⟨o, cap, b, off, FF, KV, DV, rfl, hlc, hcm, ho, hFe, hcell, hlies, hroom⟩ := (show KidsLie w dv kids F from hs)
    have HRm := Lib.hid hroom
    clear hs
    have H0 : Hid (MState F w w b off kids.length KV DV FF (fun j => kids.getD j default)) := by
      refine ⟨But.refl _ _, fun j hj => ?_, fun j hj => ?_⟩
      · simp only [List.getD, List.getElem?_eq_getElem hj, Option.getD_some]; exact hcell j hj
      · simp only [List.getD, List.getElem?_eq_getElem hj, Option.getD_some]; exact hlies j hj
    have HO := Lib.hid ho
    have HAp : Hid (0 < kids.length → b ∈ F ∧ (∀ j, j < kids.length → b ∉ FF j) ∧ (∀ i, i < kids.length → (∀ x ∈ FF i, x ∈ F) ∧ (FF i).Nodup ∧ ∀ j, j < kids.length → j ≠ i → ∀ x ∈ FF j, x ∉ FF i)) := by
      intro hp
      rw [if_neg (by omega)] at hFe
      rw [hFe] at hnd
      obtain ⟨_, n2, n3⟩ := List.nodup_append.1 hnd
      obtain ⟨a1, a2⟩ := flat_apart n2
      have mem : ∀ i, i < kids.length → ∀ x ∈ FF i, x ∈ (List.range kids.length).flatMap FF := fun i hi x hx => List.mem_flatMap.2 ⟨i, List.mem_range.2 hi, hx⟩
      refine ⟨by rw [hFe]; simp, fun j hj hb => n3 b (by simp) b (mem j hj b hb) rfl, fun i hi => ⟨fun x hx => by rw [hFe]; exact List.mem_append_right _ (mem i hi x hx), a1 i hi, fun j hj hji => a2 j i hj hi hji⟩⟩
    have HFe := Lib.hid hFe
    have HFz := Lib.hid hfz
    clear hcell hlies ho hFe hnd hfz hroom
    have hcm' := hcm
    unfold maxLen at hcm'
    go_enter Try.func26, Try.ntmps26
    go_wp2
    go_loopw [1, 5] (fun l i wr => ∃ j : Nat, j ≤ kids.length ∧ i = .int .i64 j ∧ l = .int .i64 (k + cntAll (kids.take j) : Nat) ∧ Hid (MState F w wr b off kids.length KV DV FF (fun q => if q < j then markOne (kids.getD q default) (k + cntAll (kids.take q)) else kids.getD q default))) (fun _ i _ => kids.length - (intOf i).toNat)
    case atStart =>
      refine ⟨0, Nat.zero_le _, rfl, by simp [cntAll], ?_⟩
      show MState _ _ _ _ _ _ _ _ _ _
      simp only [Nat.not_lt_zero, if_false]
      exact H0.out
    case round =>
      obtain ⟨j, hj, rfl, rfl, hr⟩ := hrel
      by_cases hlt : j < kids.length
      · have ho := HO.out (by omega)
        subst ho
        obtain ⟨hbF, hbF', hap⟩ := HAp.out (by omega)
        have hrow := hr.out.row j hlt
        have hlie := hr.out.lie j hlt
        have HB := Lib.hid hr.out.but
        have HR := Lib.hid hr
        clear hr
        have ecnt := cntAll_take kids j hlt
        have elt := cntAll_take_le kids (j + 1)
        simp only [Nat.lt_irrefl, if_false, List.getD, List.getElem?_eq_getElem hlt, Option.getD_some] at hrow hlie
        have hmem := ih _ (List.getElem_mem hlt)
        generalize hx : kids[j] = x at *
        have HX := Lib.hid hx
        rw [cnt_node] at ecnt
        generalize hq : k + cntAll (kids.take j) = q at *
        have hq0 : 0 < q := by omega
        have hqb : q + 3 + (x.keys.length + cntAll x.kids) ≤ 1000000000 := by omega
        have HQ := Lib.hid (And.intro hq ecnt)
        clear hx hq ecnt elt
        obtain ⟨fk, fn, fs, FK, FD, hK, hD, hFF⟩ := hlie.out
        obtain ⟨ap1, ap2, ap3⟩ := hap j hlt
        rw [hFF] at ap2
        obtain ⟨nd1, nd2, nd3⟩ := List.nodup_append.1 ap2
        have c0 : wr.cell? ⟨b, off + j * 5, none⟩ = some (.int .i64 x.k) := hrow 0 (by omega)
        have c1 : wr.cell? ⟨b, off + j * 5 + 1, none⟩ = some (.int .i64 x.n) := hrow 1 (by omega)
        have hbl : b < wr.heap.size := World.block_lt_of_cell? _ _ c0
        have hfr : ∀ x ∈ F, x < w.heap.size → ∀ o, wr.frozen? ⟨x, o, none⟩ = false := fun x hx hl o => (HB.out.free x hl o).trans (HFz.out x hx o)
        have hbw : b < w.heap.size := World.block_lt_of_cell? _ _ (H0.out.row 0 (by omega) 0 (by omega))
        have hFw : ∀ x ∈ FF j, x < w.heap.size := (H0.out.lie j hlt).lt
        have f0 : ∀ o, wr.frozen? ⟨b, o, none⟩ = false := hfr b hbF hbw
        have HY := Lib.hid (And.intro hrow (And.intro hlie (And.intro hK (And.intro hD (And.intro hFF (And.intro ap1 (And.intro ap3 (And.intro nd1 (And.intro nd2 (And.intro nd3 (And.intro hbF (And.intro hbF' (And.intro hbl (And.intro hfr (And.intro hFw hmem)))))))))))))))
        have HT := Lib.hid (mark_text (q + 2) (by omega) (by omega))
        clear hrow hlie hK hD hFF ap1 ap2 ap3 nd1 nd2 nd3 hbF hbF' hfr hFw hmem hap fk fn fs ih
        go_wp2_with (first
          | (go_at_call 38; refine (HT.out _).mono ?_; rintro e w1 ⟨rfl, hb1⟩
             obtain ⟨hrow, hlie, hK, hD, hFF, ap1, ap3, nd1, nd2, nd3, hbF, hbF', hbl, hfr, hFw, hmem⟩ := HY.out
             obtain ⟨m1, m2, m3, m4, m5, m6, m7⟩ := mark_head q hrow hb1
             have HM := Lib.hid (And.intro m1 (And.intro m2 m3))
             have f1 : ∀ o, w1.frozen? ⟨b, o, none⟩ = false := fun o => (m7.free b hbl o).trans (f0 o)
             clear hrow hlie hK hD hFF ap1 ap3 nd1 nd2 nd3 hbF hbF' hbl hfr hFw hmem m1 m2 m3 m7 hb1)
          | fail)
        obtain ⟨hrow, hlie, hK, hD, hFF, ap1, ap3, nd1, nd2, nd3, hbF, hbF', hbl, hfr, hFw, hmem⟩ := HY.out
        obtain ⟨m1, m2, m3⟩ := HM.out
        have hbK : ∀ c ∈ FK, c ∉ [b] := fun c hc hcb => hbF' j hlt (by simp at hcb; subst hcb; rw [hFF]; exact List.mem_append_left _ hc)
        have hbD : ∀ c ∈ FD, c ∉ [b] := fun c hc hcb => hbF' j hlt (by simp at hcb; subst hcb; rw [hFF]; exact List.mem_append_right _ hc)
        have hbK' : b ∉ FK := fun h => hbK b h (by simp)
        have hbD' : b ∉ FD := fun h => hbD b h (by simp)
        have hinK : ∀ c ∈ FK, c ∈ FF j := fun c hc => by rw [hFF]; exact List.mem_append_left _ hc
        have hinD : ∀ c ∈ FD, c ∈ FF j := fun c hc => by rw [hFF]; exact List.mem_append_right _ hc
        have e3 : ((q : Int) + 1 + 1 + 1) = ((q + 3 : Nat) : Int) := by omega
        rw [e3]
        refine (mark_strs _ (hK.carry fun c hc => m1.block c (hK.lt c hc) (hbK c hc)) (fun c hc o => (m1.free c (hK.lt c hc) o).trans (hfr c (ap1 c (hinK c hc)) (hFw c (hinK c hc)) o)) (q + 3) (by omega) (by omega)).mono ?_
        rintro e w2 ⟨rfl, hs2, hb2⟩
        have hsz : wr.heap.size ≤ (w1.setCell ⟨b, off + j * 5 + 2, none⟩ (.string (markTxt (q + 2)))).heap.size := m1.size
        have d4 : w2.cell? ⟨b, off + j * 5 + 4, none⟩ = some (DV j) := (hb2.cell (Nat.lt_of_lt_of_le hbl hsz) hbK' _).trans (m2 4 (by omega))
        have HZ := Lib.hid (And.intro hs2 (And.intro hb2 (And.intro hsz (And.intro hbK (And.intro hbD (And.intro hbK' (And.intro hbD' (And.intro hinK hinD))))))))
        clear hrow hlie hK hD hFF ap1 ap3 nd1 nd2 nd3 hbF hbF' hfr hFw hmem hs2 hb2 hsz hbK hbD hbK' hbD' hinK hinD m1 m2 m3 m4 m5 m6 c0 c1 f0 f1 hbl
        go_wp2_with fail
        obtain ⟨hrow, hlie, hK, hD, hFF, ap1, ap3, nd1, nd2, nd3, hbF, hbF', hbl, hfr, hFw, hmem⟩ := HY.out
        obtain ⟨m1, m2, m3⟩ := HM.out
        obtain ⟨hs2, hb2, hsz, hbK, hbD, hbK', hbD', hinK, hinD⟩ := HZ.out
        have m12 : But (b :: FF j) wr w2 := (m1.mono (fun x hx => by simp at hx; simp [hx])).trans (hb2.mono fun x hx => List.mem_cons_of_mem _ (hinK x hx))
        have hD2 : KidsLie w2 (DV j) x.kids FD := hD.carry fun c hc => (hb2.block c (Nat.lt_of_lt_of_le (hD.lt c hc) hsz) (fun hcK => nd3 c hcK c hc rfl)).trans (m1.block c (hD.lt c hc) (hbD c hc))
        refine (hmem w2 (DV j) FD hD2 nd2 (fun c hc o => (m12.free c (hD.lt c hc) o).trans (hfr c (ap1 c (hinD c hc)) (hFw c (hinD c hc)) o)) (q + 3 + x.keys.length) (by omega) (by omega)).mono ?_
        rintro e w3 ⟨rfl, hk3, hb3⟩
        have m13 : But (b :: FF j) wr w3 := m12.trans (hb3.mono fun x hx => List.mem_cons_of_mem _ (hinD x hx))
        have hcell : ∀ o, w3.cell? ⟨b, o, none⟩ = (w1.setCell ⟨b, off + j * 5 + 2, none⟩ (.string (markTxt (q + 2)))).cell? ⟨b, o, none⟩ := fun o =>
          (hb3.cell (Nat.lt_of_lt_of_le (Nat.lt_of_lt_of_le hbl hsz) hb2.size) hbD' o).trans (hb2.cell (Nat.lt_of_lt_of_le hbl hsz) hbK' o)
        have hL : Lies w3 (markOne x q) (KV j) (DV j) (FF j) := by
          rw [hFF]
          exact Lies.into ⟨by omega, by omega⟩ ⟨by omega, by omega⟩ (markTxt_size _ (by omega)) (hs2.carry fun c hc => hb3.block c (hs2.lt c hc) (fun hcD => nd3 c hc c hcD rfl)) hk3
        have HS := Lib.hid (HR.out.out.step hlt (markOne x q) hbF hbF' ap1 ap3 m13 (fun c hc => (hcell _).trans (m2 c hc)) (fun i hi hij c hc => (hcell _).trans (m3 _ (by omega))) hL)
        clear hrow hlie hK hD hFF ap1 ap3 nd1 nd2 nd3 hbF hbF' hfr hFw hmem hs2 hb2 hsz hbK hbD hbK' hbD' hinK hinD m1 m2 m3 m12 m13 hbl hk3 hb3 hcell hL hD2 d4
        go_wp2
        obtain ⟨q1, q2⟩ := HQ.out
        refine ⟨⟨j + 1, by omega, by go_num, ?_, ?_⟩, by simp [intOf]; omega⟩
        · congr 1; omega
        · have := HS.out
          show MState _ _ _ _ _ _ _ _ _ _
          have ef : (fun q' => if q' < j + 1 then markOne (kids.getD q' default) (k + cntAll (kids.take q')) else kids.getD q' default) = (fun q' => if q' = j then markOne x q else if q' < j then markOne (kids.getD q' default) (k + cntAll (kids.take q')) else kids.getD q' default) := by
            funext q'
            by_cases e1 : q' = j
            · subst e1
              rw [if_pos (by omega), if_pos rfl, q1]
              have : kids.getD q' default = x := by rw [← HX.out]; simp [List.getD, List.getElem?_eq_getElem hlt]
              rw [this]
            · by_cases e2 : q' < j
              · rw [if_pos (by omega), if_neg e1, if_pos e2]
              · rw [if_neg (by omega), if_neg e1, if_neg e2]
          rw [ef]
          exact this
      · have e : j = kids.length := by omega
        subst e
        go_wp2
        go_ret
        have hm := hr.out
        refine ⟨?_, ⟨o, cap, b, off, FF, KV, DV, by rw [markAll_length], by rw [markAll_length]; exact hlc, hcm, HO.out, by rw [markAll_length]; exact HFe.out, fun i hi c hc => ?_, fun i hi => ?_, HRm.out.but hm.but⟩, hm.but⟩
        · rw [List.take_of_length_le (Nat.le_refl _)]
          rfl
        · rw [markAll_length] at hi
          have := hm.row i hi c hc
          simp only [hi, if_true, List.getD, List.getElem?_eq_getElem hi, Option.getD_some] at this
          rw [markAll_get kids k i hi]
          exact this
        · rw [markAll_length] at hi
          have := hm.lie i hi
          simp only [hi, if_true, List.getD, List.getElem?_eq_getElem hi, Option.getD_some] at this
          rw [markAll_get kids k i hi]
          exact this
end Go.Proofs.Ytbcgkpkkhinkcaa
