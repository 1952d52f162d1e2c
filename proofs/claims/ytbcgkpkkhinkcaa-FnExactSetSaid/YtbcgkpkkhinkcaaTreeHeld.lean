/-
  What is proved: the laws' markNode marks a whole tree; heldStringS, heldNodeS and heldNode find the marks where they are.
-/
import Derived.Test.YtbcgkpkkhinkcaaTreeMarkN
import Derived.Deep.RegionHeld3
namespace Go.Proofs.Ytbcgkpkkhinkcaa
open Go Go.RowKit

theorem StrsAt.but {w w' : World} {v : Value} {ks : List ByteArray} {F G : List Nat} (h : StrsAt w v ks F) (hb : But G w w') (hd : ∀ b ∈ F, b ∉ G) : StrsAt w' v ks F :=
  h.carry fun b hF => hb.block b (h.lt b hF) (hd b hF)
theorem KidsLie.but {w w' : World} {v : Value} {ks : List RT} {F G : List Nat} (h : KidsLie w v ks F) (hb : But G w w') (hd : ∀ b ∈ F, b ∉ G) : KidsLie w' v ks F :=
  h.carry fun b hF => hb.block b (h.lt b hF) (hd b hF)

set_option maxHeartbeats 400000 in
theorem mark_node (T : RT) (w : World) (kv dv : Value) (F : List Nat) (hl : Lies w T kv dv F) (hnd : F.Nodup) (hfz : ∀ b ∈ F, ∀ o, w.frozen? ⟨b, o, none⟩ = false) (k : Nat) (h0 : 0 < k) (h1 : k + T.cnt ≤ 1000000000) :
    Calls Try.prog 10 #[.agg #[.int .i64 T.k, .int .i64 T.n, .string T.s, kv, dv], .int .i64 k] w fun e w' => e = .returned (.int .i64 (k + T.cnt : Nat)) ∧ Lies w' (T.mark k) kv dv F ∧ But F w w' := by
  obtain ⟨f1, f2, f3, FK, FD, hK, hD, rfl⟩ := hl.out
  obtain ⟨nd1, nd2, nd3⟩ := List.nodup_append.1 hnd
  rw [cnt_node] at h1 ⊢
  have hb0 := (Box.start w (.int .i64 T.k) (.int .i64 T.n) (.string T.s) kv dv 29)
  have HX := Lib.hid (And.intro hb0 (And.intro hK (And.intro hD (And.intro nd2 (And.intro nd3 (And.intro hfz (And.intro f1 (And.intro f2 f3))))))))
  have HK := Lib.hid (mark_strs _ (hK.stay hb0.below (Nat.le_refl _)) (fun b hb o => (hb0.below.frozen (by exact hK.lt b hb)).trans (hfz b (List.mem_append_left _ hb) o)) k h0 (by omega))
  clear hl hnd hfz f1 f2 f3 hK hD nd1 nd2 nd3 hb0
  go_enter Try.func10, Try.ntmps10
  go_wp2_with (first
    | (go_at_call 25; refine HK.out.mono ?_; rintro e w1 ⟨rfl, hs1, hb1⟩
       obtain ⟨hb0, hK, hD, nd2, nd3, hfz, f1, f2, f3⟩ := HX.out
       have c4 : w1.cell? ⟨w.heap.size, 4, none⟩ = some dv := (hb1.cell (by simp) (fun h => by have := hK.lt _ h; omega) 4).trans hb0.c4
       have H1 := Lib.hid (And.intro hs1 hb1)
       clear hb0 hK hD nd2 nd3 hfz f1 f2 f3 hs1 hb1)
    | fail)
  obtain ⟨hb0, hK, hD, nd2, nd3, hfz, f1, f2, f3⟩ := HX.out
  obtain ⟨hs1, hb1⟩ := H1.out
  have hbw : But FK w w1 := (But.of_below hb0.below).trans hb1
  refine (mark_nodes T _ _ _ (hD.but hbw (fun c hc hcK => nd3 c hcK c hc rfl)) nd2 (fun b hb o => (hbw.free b (hD.lt b hb) o).trans (hfz b (List.mem_append_right _ hb) o)) (k + T.keys.length) (by omega) (by omega)).mono ?_
  rintro e w2 ⟨rfl, hk2, hb2⟩
  have HE : Hid (Lies w2 (T.mark k) kv dv (FK ++ FD) ∧ But (FK ++ FD) w w2) := by
    refine ⟨?_, (hbw.mono fun x hx => List.mem_append_left _ hx).trans (hb2.mono fun x hx => List.mem_append_right _ hx)⟩
    rw [RT.eta (T.mark k), mark_keys, mark_kids]
    have e1 : (T.mark k).k = T.k := by cases T; rfl
    have e2 : (T.mark k).n = T.n := by cases T; rfl
    have e3 : (T.mark k).s = T.s := by cases T; rfl
    rw [e1, e2, e3]
    exact Lies.into f1 f2 f3 (hs1.but hb2 fun c hc hcD => nd3 c hc c hcD rfl) hk2
  clear hb0 hK hD nd2 nd3 hfz f1 f2 f3 hs1 hb1 hbw hk2 hb2
  go_wp2
  go_ret
  refine ⟨?_, HE.out⟩
  exact ret_int (by omega)

set_option maxHeartbeats 400000 in
theorem held_strs {v : Value} {n : Nat} {F : List Nat} (w : World) (k : Nat) (hs : StrsAt w v (markStrs n k) F) (h0 : 0 < k) (h1 : k + n ≤ 1000000000) :
    Calls Try.prog 27 #[v, .int .i64 k] w fun e w' => e = .returned (.int .i64 (k + n : Nat)) ∧ Below w.heap.size w w' := by
  obtain ⟨o, cap, b, off, rfl, hlc, hcm, ho, -, hcell, -⟩ := hs
  rw [markStrs_length] at hlc ⊢
  have HC : Hid (∀ i, i < n → w.cell? ⟨b, off + i, none⟩ = some (.string (markTxt (k + i)))) := fun i hi => by
    have := (hcell i (by rw [markStrs_length]; exact hi)).1
    simpa [markStrs] using this
  have HO := Lib.hid ho
  clear hcell ho
  unfold maxLen at hcm
  go_enter Try.func27, Try.ntmps27
  go_wp2
  go_loopw [1, 5] (fun l i wr => ∃ j : Nat, j ≤ n ∧ i = .int .i64 j ∧ l = .int .i64 (k + j : Nat) ∧ Hid (Below w.heap.size w wr)) (fun _ i _ => n - (intOf i).toNat)
  case atStart => exact ⟨0, Nat.zero_le _, rfl, rfl, Below.refl _ _⟩
  case round =>
    obtain ⟨j, hj, rfl, rfl, hb⟩ := hrel
    by_cases hlt : j < n
    · have c0 : wr.cell? ⟨b, off + j, none⟩ = some (.string (markTxt (k + j))) := by
        have := HC.out j hlt
        rw [hb.out.cell (by exact World.block_lt_of_cell? _ _ this)]; exact this
      have ho := HO.out (by omega)
      subst ho
      have hi0 : (0 : Int) ≤ (j : Int) := by omega
      have hi1 : (j : Int) < (n : Int) := by omega
      have HT := Lib.hid (mark_text (k + j) (by omega) (by omega))
      go_wp2
      go_region_held3 (fun w' => w'.cell? ⟨b, off + j, none⟩ = some (.string (markTxt (k + j)))) (go_keep)
        (first
          | (go_at_call 38; refine (HT.out _).mono ?_; rintro e w1 ⟨rfl, hb1⟩; have HB1 := Lib.hid (below_drewN hb.out 1 |>.trans (hb1.mono (below_drewN hb.out 1).size)); have r0 : w1.cell? ⟨b, off + j, none⟩ = some (.string (markTxt (k + j))) := (HB1.out.cell (by exact World.block_lt_of_cell? _ _ (HC.out j hlt))).trans (HC.out j hlt); clear hb1))
      all_goals go_wp2
      all_goals exact ⟨⟨j + 1, by omega, by go_num, by go_num, HB1.out⟩, by simp [intOf]; omega⟩
    · have e : j = n := by omega
      subst e
      go_wp2
      go_ret
      exact ⟨rfl, hb.out⟩
end Go.Proofs.Ytbcgkpkkhinkcaa
