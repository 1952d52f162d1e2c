/-
  What is proved: the laws' heldNodeS and heldNode find the marks of a tree where they are.
-/
import Derived.Test.YtbcgkpkkhinkcaaTreeHeld
namespace Go.Proofs.Ytbcgkpkkhinkcaa
open Go Go.RowKit

/-- What heldNodeS answers of the marked kids of one tree. -/
def HeldAt (T : RT) : Prop := ∀ (w : World) (dv : Value) (F : List Nat) (k : Nat), KidsLie w dv (markAll T.kids k) F → 0 < k → k + cntAll T.kids ≤ 1000000000 →
  Calls Try.prog 28 #[dv, .int .i64 k] w fun e w' => e = .returned (.int .i64 (k + cntAll T.kids : Nat)) ∧ Below w.heap.size w w'

set_option maxRecDepth 100000 in
set_option maxHeartbeats 1600000 in
theorem held_nodes (T : RT) : HeldAt T := by
  induction T using RT.ind with
  | h kk nn ss keys kids ih =>
    intro w dv F k hs h0 h1
    have h1' : k + cntAll kids ≤ 1000000000 := h1
    clear h1
    show Calls Try.prog 28 #[dv, .int .i64 k] w fun e w' => e = .returned (.int .i64 (k + cntAll kids : Nat)) ∧ Below w.heap.size w w'
    obtain ⟨o, cap, b, off, FF, KV, DV, rfl, hlc, hcm, ho, hFe, hcell, hlies, -⟩ := (show KidsLie w dv (markAll kids k) F from hs)
    clear hs hFe
    rw [markAll_length] at hlc ⊢
    have HC : Hid (∀ i (h : i < kids.length), (∀ j, j < 5 → w.cell? ⟨b, off + i * 5 + j, none⟩ = ((markOne kids[i] (k + cntAll (kids.take i))).row (KV i) (DV i))[j]?) ∧ Lies w (markOne kids[i] (k + cntAll (kids.take i))) (KV i) (DV i) (FF i)) := fun i hi => by
      rw [← markAll_get kids k i hi]
      exact ⟨hcell i (by rw [markAll_length]; exact hi), hlies i (by rw [markAll_length]; exact hi)⟩
    have HO := Lib.hid ho
    clear hcell ho hlies
    unfold maxLen at hcm
    go_enter Try.func28, Try.ntmps28
    go_wp2
    go_loopw [1, 5] (fun l i wr => ∃ j : Nat, j ≤ kids.length ∧ i = .int .i64 j ∧ l = .int .i64 (k + cntAll (kids.take j) : Nat) ∧ Hid (Below w.heap.size w wr)) (fun _ i _ => kids.length - (intOf i).toNat)
    case atStart => exact ⟨0, Nat.zero_le _, rfl, by simp [cntAll], Below.refl _ _⟩
    case round =>
      obtain ⟨j, hj, rfl, rfl, hb⟩ := hrel
      by_cases hlt : j < kids.length
      · have ho := HO.out (by omega)
        subst ho
        obtain ⟨hrow, hlie⟩ := HC.out j hlt
        obtain ⟨c0, c1, c2, c3, c4⟩ := kid_cells hrow hb.out
        have hbw : b < w.heap.size := World.block_lt_of_cell? _ _ (show w.cell? ⟨b, off + j * 5 + 0, none⟩ = some (.int .i64 _) from hrow 0 (by omega))
        have ecnt := cntAll_take kids j hlt
        have elt := cntAll_take_le kids (j + 1)
        have hmem := ih _ (List.getElem_mem hlt)
        obtain ⟨-, -, -, FK, FD, hK, hD, -⟩ := hlie.outn
        generalize hx : kids[j] = x at *
        rw [cnt_node] at ecnt
        generalize hq : k + cntAll (kids.take j) = q at *
        have hq0 : 0 < q := by omega
        have hqb : q + 3 + (x.keys.length + cntAll x.kids) ≤ 1000000000 := by omega
        have HQ := Lib.hid (And.intro hq ecnt)
        have HK := Lib.hid (And.intro hK (And.intro hD hmem))
        have c0' : wr.cell? ⟨b, off + j * 5, none⟩ = some (.int .i64 (q : Int)) := c0
        have c1' : wr.cell? ⟨b, off + j * 5 + 1, none⟩ = some (.int .i64 ((q : Int) + 1)) := c1.trans (by show some (Value.int .i64 ((q + 1 : Nat) : Int)) = _; simp)
        have c2' : wr.cell? ⟨b, off + j * 5 + 2, none⟩ = some (.string (markTxt (q + 2))) := c2
        clear hx hq ecnt elt hK hD hlie hrow hmem c0 c1 c2 ih
        have hi0 : (0 : Int) ≤ (j : Int) := by omega
        have hi1 : (j : Int) < (kids.length : Int) := by omega
        have HT := Lib.hid (mark_text (q + 2) (by omega) (by omega))
        have HCells : Hid (∀ w1, Below w.heap.size w w1 → w1.cell? ⟨b, off + j * 5 + 2, none⟩ = some (.string (markTxt (q + 2))) ∧ w1.cell? ⟨b, off + j * 5 + 3, none⟩ = some (KV j) ∧ w1.cell? ⟨b, off + j * 5 + 4, none⟩ = some (DV j)) := fun w1 h1 => by
          refine ⟨?_, ?_, ?_⟩
          · rw [h1.cell (by exact hbw), ← hb.out.cell (by exact hbw)]; exact c2'
          · rw [h1.cell (by exact hbw), ← hb.out.cell (by exact hbw)]; exact c3
          · rw [h1.cell (by exact hbw), ← hb.out.cell (by exact hbw)]; exact c4
        have e2 : ((q : Int) + 1 + 1) = ((q + 2 : Nat) : Int) := by omega
        have e3 : ((q : Int) + 2 + 1) = ((q + 3 : Nat) : Int) := by omega
        have E2 := Lib.hid e2
        have E3 := Lib.hid e3
        clear e2 e3
        go_wp2
        go_region_held3 (fun w' => w'.cell? ⟨b, off + j * 5 + 2, none⟩ = some (.string (markTxt (q + 2)))) (go_keep)
          (first
            | (go_at_call 38; rw [E2.out]; refine (HT.out _).mono ?_; rintro e w1 ⟨rfl, hb1⟩; have HB1 := Lib.hid (below_drewN hb.out 1 |>.trans (hb1.mono (below_drewN hb.out 1).size)); obtain ⟨r2, r3, r4⟩ := HCells.out _ HB1.out; clear hb1))
        go_wp2_with fail
        rw [E3.out]
        refine (held_strs _ (q + 3) (HK.out.1.stay HB1.out (Nat.le_refl _)) (by omega) (by omega)).mono ?_
        rintro e w2 ⟨rfl, hb2⟩
        have HB2 := Lib.hid (HB1.out.trans (hb2.mono HB1.out.size))
        clear r2 r3 r4 hb2
        obtain ⟨-, -, r4⟩ := HCells.out _ HB2.out
        go_wp2_with fail
        refine (HK.out.2.2 _ _ _ (q + 3 + x.keys.length) (HK.out.2.1.stay HB2.out (Nat.le_refl _)) (by omega) (by omega)).mono ?_
        rintro e w3 ⟨rfl, hb3⟩
        have HB3 := Lib.hid (HB2.out.trans (hb3.mono HB2.out.size))
        clear r4 hb3
        go_wp2
        obtain ⟨q1, q2⟩ := HQ.out
        refine ⟨⟨j + 1, by omega, by go_num, ?_, HB3.out⟩, by simp [intOf]; omega⟩
        congr 1; omega
      · have e : j = kids.length := by omega
        subst e
        go_wp2
        go_ret
        refine ⟨?_, hb.out⟩
        rw [List.take_of_length_le (Nat.le_refl _)]
        rfl

set_option maxHeartbeats 400000 in
theorem held_node (T : RT) (w : World) (kv dv : Value) (F : List Nat) (k : Nat) (hl : Lies w (T.mark k) kv dv F) (h0 : 0 < k) (h1 : k + T.cnt ≤ 1000000000) :
    Calls Try.prog 11 #[.agg #[.int .i64 T.k, .int .i64 T.n, .string T.s, kv, dv], .int .i64 k] w fun e w' => e = .returned (.int .i64 (k + T.cnt : Nat)) ∧ Below w.heap.size w w' := by
  obtain ⟨-, -, -, FK, FD, hK, hD, -⟩ := hl.out
  rw [mark_keys] at hK
  rw [mark_kids] at hD
  rw [cnt_node] at h1 ⊢
  have hb0 := (Box.start w (.int .i64 T.k) (.int .i64 T.n) (.string T.s) kv dv 29)
  have HX := Lib.hid (And.intro hb0 hD)
  have HK := Lib.hid (held_strs _ k (hK.stay hb0.below (Nat.le_refl _)) h0 (by omega))
  clear hl hK hD hb0
  go_enter Try.func11, Try.ntmps11
  go_wp2_with (first
    | (go_at_call 27; refine HK.out.mono ?_; rintro e w1 ⟨rfl, hb1⟩
       have hx := HX.out.1.next hb1
       have c4 := hx.c4
       have HB := Lib.hid hx.below
       clear hx hb1)
    | fail)
  refine (held_nodes T _ _ _ (k + T.keys.length) (HX.out.2.stay HB.out (Nat.le_refl _)) (by omega) (by omega)).mono ?_
  rintro e w2 ⟨rfl, hb2⟩
  have HB2 := Lib.hid (HB.out.trans (hb2.mono HB.out.size))
  clear hb2 c4
  go_wp2
  go_ret
  exact ⟨ret_int (by omega), HB2.out⟩
end Go.Proofs.Ytbcgkpkkhinkcaa
