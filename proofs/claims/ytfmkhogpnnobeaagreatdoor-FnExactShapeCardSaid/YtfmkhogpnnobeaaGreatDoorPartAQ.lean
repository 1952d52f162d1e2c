/-
  What is proved: the share and the metrics besides it as the model tells them; no condition.; the metrics besides the share, as the program and the model lay them; no condition.; the model's trees of a metric and of a pace: maps whose Keys ascend, in memory of their own; no condition.
-/
import Derived.Test.YtfmkhogpnnobeaaGreatDoorPartAP
import Derived.Test.YtfmkhogpnnobeaaGreatDoorPartAF
import Derived.Test.YtfmkhogpnnobeaaGreatDoorPartAH
/- the share and the metrics besides it as the model tells them; no condition. -/
namespace Go.Proofs.YtfmkhogpnnobeaaGreatDoor
open Go Go.RowKit

theorem find_none {xs : List Met} (h : ∀ i (hi : i < xs.length), fitsB xs[i] = false) : shareB xs = false ∧ shareN xs = 0 := by
  have e : xs.find? fitsB = none := by
    rw [List.find?_eq_none]
    intro x hx hf
    obtain ⟨i, hi, rfl⟩ := List.getElem_of_mem hx
    rw [h i hi] at hf
    cases hf
  exact ⟨by unfold shareB; rw [e]; rfl, by unfold shareN; rw [e]⟩

theorem find_at {xs : List Met} {k : Nat} (hk : k < xs.length) (h : ∀ i (hi : i < xs.length), i < k → fitsB xs[i] = false) (hf : fitsB xs[k] = true) : shareB xs = true ∧ shareN xs = xs[k].goal.tdiv 10 := by
  have e : xs.find? fitsB = some xs[k] := by
    rw [List.find?_eq_some_iff_getElem]
    exact ⟨hf, k, hk, rfl, fun j hj => by rw [h j (by omega) hj]; rfl⟩
  exact ⟨by unfold shareB; rw [e]; rfl, by unfold shareN; rw [e]⟩

set_option maxRecDepth 100000 in
set_option maxHeartbeats 4000000 in
theorem spec_shareOf {v : Value} {xs : List Met} {F : List Nat} (w : World) (hs : MetsAt w v xs F) (h1 : xs.length ≤ 1000000) (hg : ∀ m ∈ xs, 0 ≤ m.goal) :
    Calls Tryz.prog 42 #[v] w fun e w' => e = .returned (.tuple #[.int .i64 (shareN xs), .bool (shareB xs)]) ∧ Below w.heap.size w w' := by
  obtain ⟨o, cap, b, off, rfl, hlc, hcm, ho, -, hcell, -⟩ := hs
  have HC := Lib.hid hcell
  have HO := Lib.hid ho
  have HG := Lib.hid hg
  clear hcell ho hg
  go_enter Tryz.func42, Tryz.ntmps42
  go_wp2
  go_loopw [4] (fun i wr => ∃ k : Nat, k ≤ xs.length ∧ i = .int .i64 k ∧ Hid (∀ j (h : j < xs.length), j < k → fitsB xs[j] = false) ∧ Hid (Below w.heap.size w wr)) (fun i _ => xs.length - (intOf i).toNat)
  case atStart => exact ⟨0, Nat.zero_le _, rfl, fun _ _ h => absurd h (by omega), Below.refl _ _⟩
  case round =>
    obtain ⟨k, hk, rfl, hr, hb⟩ := hrel
    by_cases hlt : k < xs.length
    · have hbel := hb.out
      have c0 : wr.cell? ⟨b, off + k * 3, none⟩ = some (.string xs[k].name) := by
        have := (HC.out k hlt).2 0 (by decide)
        rw [hbel.cell (by exact World.block_lt_of_cell? _ _ this)]; exact this
      have c1 : wr.cell? ⟨b, off + k * 3 + 1, none⟩ = some (.int .i64 xs[k].kind) := by
        have := (HC.out k hlt).2 1 (by decide)
        rw [hbel.cell (by exact World.block_lt_of_cell? _ _ this)]; exact this
      have c2 : wr.cell? ⟨b, off + k * 3 + 2, none⟩ = some (.int .i64 xs[k].goal) := by
        have := (HC.out k hlt).2 2 (by decide)
        rw [hbel.cell (by exact World.block_lt_of_cell? _ _ this)]; exact this
      have ho := HO.out (by omega)
      subst ho
      have HN : Hid (fitsB xs[k] = false → ∀ j (h : j < xs.length), j < k + 1 → fitsB xs[j] = false) := fun h0 j hj hjk => by
        rcases Nat.lt_or_ge j k with h2 | h2
        · exact hr.out j hj h2
        · obtain rfl : j = k := by omega
          exact h0
      have HY : Hid (fitsB xs[k] = true → shareB xs = true ∧ shareN xs = xs[k].goal.tdiv 10) := fun h0 => find_at hlt hr.out h0
      have HB1 : Hid (∀ ob, Below w.heap.size w (wr.alloc ob)) := fun ob => hbel.alloc hbel.size ob
      have hfit := (HC.out k hlt).1.2.2
      have hg0 := HG.out _ (List.getElem_mem hlt)
      have hd : xs[k].goal.tdiv 10 = xs[k].goal / 10 := Int.tdiv_eq_ediv_of_nonneg hg0
      have hm : xs[k].goal.tmod 10 = xs[k].goal % 10 := Int.tmod_eq_emod_of_nonneg hg0
      have hq0 : wrap64 (xs[k].goal.tdiv 10) = xs[k].goal.tdiv 10 := IntWalk.wrap64_in _ (by have := hfit.1; have := hfit.2; rw [hd]; omega)
      have hq1 : wrap64 (xs[k].goal.tmod 10) = xs[k].goal.tmod 10 := IntWalk.wrap64_in _ (by rw [hm]; omega)
      clear hfit hg0 hd hm hr hbel
      have HF : Hid (fitsB xs[k] = ((xs[k].name.toList == [99, 112, 117]) && ((xs[k].kind == 1) && ((xs[k].goal.tmod 10 == 0) && inB (xs[k].goal.tdiv 10) 1 1000)))) := by
        unfold fitsB isCpu
        have e1 : decide (xs[k].kind = 1) = (xs[k].kind == 1) := by cases h : (xs[k].kind == 1) <;> simp_all
        have e2 : decide (xs[k].goal.tmod 10 = 0) = (xs[k].goal.tmod 10 == 0) := by cases h : (xs[k].goal.tmod 10 == 0) <;> simp_all
        rw [e1, e2]
        exact Lib.hid rfl
      generalize xs[k] = x at *
      generalize hqq : x.goal.tdiv 10 = q at *
      generalize hrr : x.goal.tmod 10 = r at *
      cases a1 : (x.name.toList == [99, 112, 117])
      · go_wp2_with (first
          | (go_at_call 53; refine (spec_inB _ _ _ _).mono ?_; rintro e w2 ⟨rfl, e1⟩; subst e1; rw [a4])
          | fail)
        exact ⟨⟨k + 1, by omega, by go_num, HN.out (by rw [HF.out, a1]; simp), HB1.out _⟩, by simp [intOf]; omega⟩
      cases a2 : (x.kind == 1)
      · have b2 : ¬ x.kind = 1 := by simpa using a2
        go_wp2_with (first
          | (go_at_call 53; refine (spec_inB _ _ _ _).mono ?_; rintro e w2 ⟨rfl, e1⟩; subst e1; rw [a4])
          | fail)
        exact ⟨⟨k + 1, by omega, by go_num, HN.out (by rw [HF.out, a1, a2]; simp), HB1.out _⟩, by simp [intOf]; omega⟩
      have b2 : x.kind = 1 := by simpa using a2
      cases a3 : (r == 0)
      · have b3 : ¬ r = 0 := by simpa using a3
        go_wp2_with (first
          | (go_at_call 53; refine (spec_inB _ _ _ _).mono ?_; rintro e w2 ⟨rfl, e1⟩; subst e1; rw [a4])
          | fail)
        exact ⟨⟨k + 1, by omega, by go_num, HN.out (by rw [HF.out, a1, a2, a3]; simp), HB1.out _⟩, by simp [intOf]; omega⟩
      have b3 : r = 0 := by simpa using a3
      cases a4 : inB q 1 1000
      · go_wp2_with (first
          | (go_at_call 53; refine (spec_inB _ _ _ _).mono ?_; rintro e w2 ⟨rfl, e1⟩; subst e1; rw [a4])
          | fail)
        exact ⟨⟨k + 1, by omega, by go_num, HN.out (by rw [HF.out, a1, a2, a3, a4]; simp), HB1.out _⟩, by simp [intOf]; omega⟩
      · obtain ⟨y1, y2⟩ := HY.out (by rw [HF.out, a1, a2, a3, a4]; rfl)
        go_wp2_with (first
          | (go_at_call 53; refine (spec_inB _ _ _ _).mono ?_; rintro e w2 ⟨rfl, e1⟩; subst e1; rw [a4])
          | fail)
        go_ret2
        exact ⟨by rw [y1, y2]; show Ending.returned (.tuple #[.int .i64 (wrap64 q), .bool true]) = _; rw [hq0], HB1.out _⟩
    · have e : k = xs.length := by omega
      subst e
      obtain ⟨y1, y2⟩ := find_none fun j hj => hr.out j hj hj
      have hb2 := hb.out
      go_wp2
      go_ret2
      exact ⟨by rw [y1, y2]; rfl, hb2⟩
end Go.Proofs.YtfmkhogpnnobeaaGreatDoor

/- the metrics besides the share, as the program and the model lay them; no condition. -/
namespace Go.Proofs.YtfmkhogpnnobeaaGreatDoor
open Go Go.RowKit

set_option maxRecDepth 100000 in
set_option maxHeartbeats 4000000 in
/-- The program's list without its i-th. -/
theorem impl_without {v : Value} {xs : List Met} {F : List Nat} (w : World) (hs : MetsAt w v xs F) (h1 : xs.length ≤ 1000000) (i : Nat) (hi : i < xs.length) :
    Calls Tryz.prog 86 #[v, .int .i64 i] w fun e w' => ∃ v' F', e = .returned v' ∧ MetsAt w' v' (xs.take i ++ xs.drop (i + 1)) F' ∧ Below w.heap.size w w' := by
  obtain ⟨o, cap, b, off, rfl, hlc, hcm, ho, -, hcell, hroom⟩ := hs
  have ho := ho (by omega)
  subst ho
  have HA := Lib.hid fun (w1 : World) (hb : Below w.heap.size w w1) (a : Addr) (n c : Nat) (hn : n = xs.length - (i + 1)) (ha : 0 < n → a = ⟨b, off + (i + 1) * 3, none⟩) (ty : TypeId) =>
    append_cut (w := w1) i hi h1 hlc hcm (fun j hj => ⟨(hcell j hj).1, fun c hc => by
      have h2 := (hcell j hj).2 c hc
      have h3 : (Met.row xs[j])[c]? = some ((Met.row xs[j])[c]'(by rw [met_row]; exact hc)) := List.getElem?_eq_getElem _
      rw [h3] at h2 ⊢
      rw [hb.cell (by exact World.block_lt_of_cell? _ _ h2)]; exact h2⟩) (fun j hj => by
      have h2 := hroom j hj
      obtain ⟨u, hu⟩ := Option.isSome_iff_exists.1 h2
      rw [hb.cell (by exact World.block_lt_of_cell? _ _ hu)]; exact h2) a n c hn ha ty
  clear hcell hroom
  have hi0 : (0 : Int) ≤ (i : Int) := by omega
  have hi1 : (i : Int) ≤ (cap : Int) := by omega
  have hw1 : IntKind.i64.wrap ((i : Int) + 1) = (i : Int) + 1 := by rw [IntKind.wrap_i64]; unfold maxLen at hcm; omega
  have hb1 : (0 : Int) ≤ (i : Int) + 1 := by omega
  have htn : ((i : Int) + 1).toNat = i + 1 := by omega
  have hb5 : (i : Int) + 1 ≤ (xs.length : Int) := by omega
  have hBd : Hid (Below w.heap.size w w.drew) := ⟨rfl, rfl, rfl, Nat.le_refl _, fun _ _ => rfl⟩
  by_cases hce : cap = i + 1
  · have hln : xs.length = i + 1 := by omega
    have hle : (i : Int) ≤ (i : Int) + 1 := by omega
    go_enter Tryz.func86, Tryz.ntmps86
    go_wp2_with fail
    go_region_law (refine step_append_run (by rfl) _ _ 34 (by rfl) (.slice (some ⟨b, off, none⟩) i i) (.slice (some ⟨b, off, none⟩) 0 0) (by simp [Act.eval, Act.put]) (by simp [Act.eval, Act.put]) (HA.out _ hBd.out _ 0 0 (by omega) (fun h => absurd h (by omega)) _) ?_
                   rintro v' w' ⟨hF, hb⟩
                   have HR := Lib.hid (And.intro hF hb)
                   clear hF hb)
    all_goals
      go_wp2
      go_ret
      obtain ⟨F', hF⟩ := HR.out.1
      exact ⟨_, _, rfl, hF, hBd.out.trans (HR.out.2.mono hBd.out.size)⟩
  · go_enter Tryz.func86, Tryz.ntmps86
    go_wp2_with fail
    go_region_law (refine step_append_run (by rfl) _ _ 34 (by rfl) (.slice (some ⟨b, off, none⟩) i i) (.slice (some ⟨b, off + (i + 1) * 3, none⟩) (xs.length - (i + 1)) (cap - (i + 1))) (by simp [Act.eval, Act.put]) (by simp [Act.eval, Act.put]) (HA.out _ hBd.out _ _ _ rfl (fun _ => rfl) _) ?_
                   rintro v' w' ⟨hF, hb⟩
                   have HR := Lib.hid (And.intro hF hb)
                   clear hF hb)
    all_goals
      go_wp2
      go_ret
      obtain ⟨F', hF⟩ := HR.out.1
      exact ⟨_, _, rfl, hF, hBd.out.trans (HR.out.2.mono hBd.out.size)⟩

theorem below_own {B : Nat} {w wr w3 : World} {e : TypeId} {k : Nat} {v : Value} {n : Nat} {l : List Value} (hb : Below B w wr) (hB : B ≤ wr.heap.size) (ho : wr.ownsRow B e k v n l) (hg : wr.grownBy w3 v.ownBlock) : Below B w w3 :=
  ⟨hg.os.trans hb.os, hg.tape.trans hb.tape, hg.output.trans hb.output, Nat.le_trans hb.size hg.size, fun j hj => (hg.block j (by omega) (fun e => by have := (owns_blk ho e.symm).1; omega)).trans (hb.block j hj)⟩

set_option maxRecDepth 100000 in
set_option maxHeartbeats 4000000 in
/-- The model's list of what is besides the share. -/
theorem spec_l9Others {v : Value} {xs : List Met} {F : List Nat} (w : World) (hs : MetsAt w v xs F) (h1 : xs.length ≤ 1000000) (hg : ∀ m ∈ xs, 0 ≤ m.goal) :
    Calls Tryz.prog 44 #[v] w fun e w' => ∃ v' F', e = .returned v' ∧ MetsAt w' v' (othersM xs) F' ∧ Below w.heap.size w w' := by
  have HSh := Lib.hid fun (wr : World) (hb : Below w.heap.size w wr) => spec_shareOf wr (RowAt.stay hs (by decide) hb (Nat.le_refl _)) h1 hg
  obtain ⟨o, cap, b, off, rfl, hlc, hcm, ho, -, hcell, -⟩ := hs
  have HC := Lib.hid hcell
  have HO := Lib.hid ho
  have HB0 : Hid (∀ ob, Below w.heap.size w (w.alloc ob)) := fun ob => (Below.refl _ w).alloc (Nat.le_refl _) ob
  have HE : Hid ((w.alloc (.cells #[] 93)).ownsRow w.heap.size 93 3 (.slice (some ⟨w.heap.size, 0, none⟩) 0 0) 0 []) := ⟨rfl, .inr ⟨w.heap.size, 0, #[], rfl, Nat.le_refl _, heap_last w _, Nat.le_refl _, by decide, rfl, rfl⟩⟩
  obtain ⟨i0, hi0, hz0, hz1, hz2⟩ := info_parts info_met
  clear hcell ho hg
  go_enter Tryz.func44, Tryz.ntmps44
  go_wp2_with (first
    | (go_at_call 42; refine (HSh.out _ (HB0.out _)).mono ?_; rintro e w1 ⟨rfl, hb⟩; have HB := Lib.hid hb; clear hb)
    | fail)
  have HE1 := Lib.hid (owns_below HE.out HB.out)
  clear HE
  have HBw : Hid (Below w.heap.size w w1) := (HB0.out _).trans (HB.out.mono (HB0.out (.cells #[] 93)).size)
  clear HB HSh
  have HQ : Hid (othersM xs = xs.filter fun m => !(shareB xs && isCpu m)) := Lib.hid rfl
  generalize shareN xs = sn at *
  generalize shareB xs = sb at *
  have HOK : Hid (∀ m ∈ othersM xs, Met.ok m) := fun m hm => by
    obtain ⟨j, hj, rfl⟩ := List.getElem_of_mem (others_mem hm)
    exact (HC.out j hj).1
  go_loopw [3, 6] (fun u i wr => ∃ (k : Nat) (ys : List Met), k ≤ xs.length ∧ i = .int .i64 k ∧ Hid (ys = (xs.take k).filter fun m => !(sb && isCpu m)) ∧ Hid (Below w.heap.size w wr) ∧ Hid (wr.ownsRow w.heap.size 93 3 u ys.length (ys.flatMap Met.row))) (fun _ i _ => xs.length - (intOf i).toNat)
  case atStart => exact ⟨0, [], Nat.zero_le _, rfl, Lib.hid rfl, HBw.out, HE1.out⟩
  case round =>
    obtain ⟨k, ys, hk, rfl, hy, hb, hown⟩ := hrel
    obtain ⟨ou, cu, rfl⟩ := owns_form hown.out
    by_cases hlt : k < xs.length
    · have hbel := hb.out
      have c0 : wr.cell? ⟨b, off + k * 3, none⟩ = some (.string xs[k].name) := by
        have := (HC.out k hlt).2 0 (by decide)
        rw [hbel.cell (by exact World.block_lt_of_cell? _ _ this)]; exact this
      have c1 : wr.cell? ⟨b, off + k * 3 + 1, none⟩ = some (.int .i64 xs[k].kind) := by
        have := (HC.out k hlt).2 1 (by decide)
        rw [hbel.cell (by exact World.block_lt_of_cell? _ _ this)]; exact this
      have c2 : wr.cell? ⟨b, off + k * 3 + 2, none⟩ = some (.int .i64 xs[k].goal) := by
        have := (HC.out k hlt).2 2 (by decide)
        rw [hbel.cell (by exact World.block_lt_of_cell? _ _ this)]; exact this
      have ho := HO.out (by omega)
      subst ho
      have HF := Lib.hid (filter_take (fun m => !(sb && isCpu m)) xs hlt)
      have HOwn := Lib.hid (owns_below hown.out ((Below.refl _ wr).alloc (Nat.le_refl _) (.cells #[.string xs[k].name, .int .i64 xs[k].kind, .int .i64 xs[k].goal] 93)))
      have HBl := Lib.hid hbel
      have HOwn0 := Lib.hid hown.out
      have hysl : ys.length ≤ xs.length := by rw [hy.out]; exact Nat.le_trans (List.length_filter_le _ _) (by rw [List.length_take]; omega)
      have hbase : w.heap.size ≤ wr.heap.size + 1 := by have := hbel.size; omega
      have HBase := Lib.hid hbase
      clear hown hbel hbase hb
      have HXr : Hid (isCpu xs[k] = (xs[k].name.toList == [99, 112, 117])) := Lib.hid rfl
      have hxr : xs[k].row = [.string xs[k].name, .int .i64 xs[k].kind, .int .i64 xs[k].goal] := rfl
      have HR : Hid ((ys ++ [xs[k]]).flatMap Met.row = ys.flatMap Met.row ++ [.string xs[k].name, .int .i64 xs[k].kind, .int .i64 xs[k].goal]) := Lib.hid (by rw [List.flatMap_append, List.flatMap_singleton, hxr])
      clear hxr
      generalize xs[k] = x at *
      have HYes : Hid ((!(sb && isCpu x)) = true → ys ++ [x] = (xs.take (k + 1)).filter fun m => !(sb && isCpu m)) := fun h => by rw [HF.out, hy.out, if_pos h]
      have HNo : Hid ((!(sb && isCpu x)) = false → ys = (xs.take (k + 1)).filter fun m => !(sb && isCpu m)) := fun h => by rw [HF.out, hy.out, if_neg (by rw [h]; decide), List.append_nil]
      clear HF hy
      cases sb
      · go_wp2_with (first
          | (at_builtin; refine wpList_append_lies _ rfl (.tmp 29) (.tmp 34) 34 rfl w.heap.size 93 i0 _ 3 32 Tryz.underlying34 hi0 hz0 hz1 hz2 rfl (by decide) (.slice ou ys.length cu) ys.length _ rfl HOwn.out ⟨wr.heap.size, 0, none⟩ 1 1 [.string x.name, .int .i64 x.kind, .int .i64 x.goal] rfl rfl (World.news_of_block (cs := #[.string x.name, .int .i64 x.kind, .int .i64 x.goal]) (t := 93) (fr := (0, 0)) (heap_last wr _)) (by simp [Value.oneCell']) (by omega) (by unfold maxLen; omega) (by omega) (by simp; exact HBase.out) (wr.heap.size + 1) (by simp) ?_; intro g cap' w3 hown3 hgrow hat hltg
             have H3 := Lib.hid (And.intro hown3 (And.intro (below_own ((HBl.out).alloc HBl.out.size _) (by simp; exact HBase.out) HOwn.out hgrow) hat)); clear hown3 hgrow hat hltg)
          | fail)
        have hlen : (ys ++ [x]).length = ys.length + 1 := by simp
        have H4 : w3.ownsRow w.heap.size 93 3 (.slice (some ⟨g, 0, none⟩) (ys.length + 1) cap') (ys ++ [x]).length ((ys ++ [x]).flatMap Met.row) := by rw [hlen, HR.out]; exact H3.out.1
        exact ⟨⟨k + 1, ys ++ [x], by omega, by go_num, HYes.out (rfl), H3.out.2.1, H4⟩, by simp [intOf]; omega⟩
      · cases a1 : (x.name.toList == [99, 112, 117])
        · go_wp2_with (first
            | (at_builtin; refine wpList_append_lies _ rfl (.tmp 29) (.tmp 34) 34 rfl w.heap.size 93 i0 _ 3 32 Tryz.underlying34 hi0 hz0 hz1 hz2 rfl (by decide) (.slice ou ys.length cu) ys.length _ rfl HOwn.out ⟨wr.heap.size, 0, none⟩ 1 1 [.string x.name, .int .i64 x.kind, .int .i64 x.goal] rfl rfl (World.news_of_block (cs := #[.string x.name, .int .i64 x.kind, .int .i64 x.goal]) (t := 93) (fr := (0, 0)) (heap_last wr _)) (by simp [Value.oneCell']) (by omega) (by unfold maxLen; omega) (by omega) (by simp; exact HBase.out) (wr.heap.size + 1) (by simp) ?_; intro g cap' w3 hown3 hgrow hat hltg
               have H3 := Lib.hid (And.intro hown3 (And.intro (below_own ((HBl.out).alloc HBl.out.size _) (by simp; exact HBase.out) HOwn.out hgrow) hat)); clear hown3 hgrow hat hltg)
            | fail)
          have hlen : (ys ++ [x]).length = ys.length + 1 := by simp
          have H4 : w3.ownsRow w.heap.size 93 3 (.slice (some ⟨g, 0, none⟩) (ys.length + 1) cap') (ys ++ [x]).length ((ys ++ [x]).flatMap Met.row) := by rw [hlen, HR.out]; exact H3.out.1
          exact ⟨⟨k + 1, ys ++ [x], by omega, by go_num, HYes.out (by rw [HXr.out, a1]; rfl), H3.out.2.1, H4⟩, by simp [intOf]; omega⟩
        · go_wp2
          exact ⟨⟨k + 1, ys, by omega, by go_num, HNo.out (by rw [HXr.out, a1]; rfl), HBl.out, HOwn0.out⟩, by simp [intOf]; omega⟩
    · have e : k = xs.length := by omega
      subst e
      have hy2 : ys = othersM xs := by rw [HQ.out, hy.out, List.take_length]
      subst hy2
      obtain ⟨F', hF⟩ := row_of_owns met_row hown.out HOK.out
      have hb2 := hb.out
      have HF := Lib.hid hF
      clear hF
      go_wp2
      go_ret
      exact ⟨_, _, rfl, HF.out, hb2⟩
end Go.Proofs.YtfmkhogpnnobeaaGreatDoor

/- the model's trees of a metric and of a pace: maps whose Keys ascend, in memory of their own; no condition. -/
namespace Go.Proofs.YtfmkhogpnnobeaaGreatDoor
open Go Go.RowKit

theorem metT_map (s : ByteArray) (k g : Int) : mapN [⟨#[110, 97, 109, 101]⟩, ⟨#[107, 105, 110, 100]⟩, ⟨#[103, 111, 97, 108]⟩] [.node 3 0 s [] [], .node 3 0 (kindB k) [] [], .node 3 0 ⟨(amtText g).toArray⟩ [] []] 3 = metT ⟨s, k, g⟩ := by
  show (setT (setT (setT (.node 5 0 ⟨#[]⟩ [] []) ⟨#[110, 97, 109, 101]⟩ (.node 3 0 s [] [])) ⟨#[107, 105, 110, 100]⟩ (.node 3 0 (kindB k) [] [])) ⟨#[103, 111, 97, 108]⟩ (.node 3 0 ⟨(amtText g).toArray⟩ [] [])) = _
  rw [setT_new (by rfl) (show firstN [] ⟨#[110, 97, 109, 101]⟩ = 0 by decide +kernel) (show placeN [] ⟨#[110, 97, 109, 101]⟩ = 0 by decide +kernel)]
  show (setT (setT (.node 5 0 ⟨#[]⟩ [⟨#[110, 97, 109, 101]⟩] [.node 3 0 s [] []]) ⟨#[107, 105, 110, 100]⟩ (.node 3 0 (kindB k) [] [])) ⟨#[103, 111, 97, 108]⟩ (.node 3 0 ⟨(amtText g).toArray⟩ [] [])) = _
  rw [setT_new (by rfl) (show firstN [⟨#[110, 97, 109, 101]⟩] ⟨#[107, 105, 110, 100]⟩ = 1 by decide +kernel) (show placeN [⟨#[110, 97, 109, 101]⟩] ⟨#[107, 105, 110, 100]⟩ = 0 by decide +kernel)]
  show (setT (.node 5 0 ⟨#[]⟩ [⟨#[107, 105, 110, 100]⟩, ⟨#[110, 97, 109, 101]⟩] [.node 3 0 (kindB k) [] [], .node 3 0 s [] []]) ⟨#[103, 111, 97, 108]⟩ (.node 3 0 ⟨(amtText g).toArray⟩ [] [])) = _
  rw [setT_new (by rfl) (show firstN [⟨#[107, 105, 110, 100]⟩, ⟨#[110, 97, 109, 101]⟩] ⟨#[103, 111, 97, 108]⟩ = 2 by decide +kernel) (show placeN [⟨#[107, 105, 110, 100]⟩, ⟨#[110, 97, 109, 101]⟩] ⟨#[103, 111, 97, 108]⟩ = 0 by decide +kernel)]
  rfl

set_option maxRecDepth 100000 in
set_option maxHeartbeats 8000000 in
theorem spec_metricTree (s : ByteArray) (k g : Int) (hs : s.size ≤ maxLen) (hk : Fit k) (hg : Fit g) (hs1 : s.size ≤ 1048576) (w : World) :
    Calls Tryz.prog 60 #[.agg #[.string s, .int .i64 k, .int .i64 g]] w fun e w' => ∃ kv dv F, e = .returned ((metT ⟨s, k, g⟩).val kv dv) ∧ Lies w' (metT ⟨s, k, g⟩) kv dv F ∧ Fresh w w' F ∧ Below w.heap.size w w' := by
  have HG := Lib.hid hg
  have HM : Hid (∀ X bz bn, X.heap[bz]? = some (.cells #[.string ⟨#[110, 97, 109, 101]⟩, .string ⟨#[107, 105, 110, 100]⟩, .string ⟨#[103, 111, 97, 108]⟩] 9 (0, 0)) → X.heap[bn]? = some (.cells #[.int .i64 3, .int .i64 0, .string s, .slice none 0 0, .slice none 0 0, .int .i64 3, .int .i64 0, .string (kindB k), .slice none 0 0, .slice none 0 0, .int .i64 3, .int .i64 0, .string ⟨(amtText g).toArray⟩, .slice none 0 0, .slice none 0 0] 32 (0, 0)) → Calls Tryz.prog 59 #[.slice (some ⟨bz, 0, none⟩) 3 3, .slice (some ⟨bn, 0, none⟩) 3 3] X fun e w' => ∃ kr dr G, e = .returned (.agg #[.int .i64 (metT ⟨s, k, g⟩).k, .int .i64 (metT ⟨s, k, g⟩).n, .string (metT ⟨s, k, g⟩).s, kr, dr]) ∧ Lies w' (metT ⟨s, k, g⟩) kr dr G ∧ Fresh X w' G ∧ Below X.heap.size X w') := by
    intro X bz bn hz hn
    have hlf : ∀ t ∈ ([.node 3 0 s [] [], .node 3 0 (kindB k) [] [], .node 3 0 ⟨(amtText g).toArray⟩ [] []] : List RT), LeafK t := fun t ht => (metT_leaves ⟨s, k, g⟩ ⟨hs, hk, hg⟩) t (by simp only [List.mem_cons, List.not_mem_nil, or_false] at ht; rcases ht with rfl | rfl | rfl <;> simp [metT, RT.kids])
    have h := spec_l7Map [⟨#[110, 97, 109, 101]⟩, ⟨#[107, 105, 110, 100]⟩, ⟨#[103, 111, 97, 108]⟩] [.node 3 0 s [] [], .node 3 0 (kindB k) [] [], .node 3 0 ⟨(amtText g).toArray⟩ [] []] rfl X _ _ _ _ (strs_lit [⟨#[110, 97, 109, 101]⟩, ⟨#[107, 105, 110, 100]⟩, ⟨#[103, 111, 97, 108]⟩] hz rfl (fun t ht => metT_keys ⟨s, k, g⟩ t (by simp only [List.mem_cons, List.not_mem_nil, or_false] at ht; rcases ht with rfl | rfl | rfl <;> simp [metT, RT.keys])) (show 3 ≤ maxLen by decide) (show 0 < 3 by decide))
      (kids_lit [.node 3 0 s [] [], .node 3 0 (kindB k) [] [], .node 3 0 ⟨(amtText g).toArray⟩ [] []] (fun _ => .slice none 0 0) (fun _ => .slice none 0 0) (fun _ => []) hn rfl (fun i hi j hj => by rw [← Array.getElem?_toList]; exact (rowsOf_get [.node 3 0 s [] [], .node 3 0 (kindB k) [] [], .node 3 0 ⟨(amtText g).toArray⟩ [] []] (fun _ => .slice none 0 0) (fun _ => .slice none 0 0) 3 i j hi hj).trans (by rw [List.getD_eq_getElem?_getD, List.getElem?_eq_getElem hi]; rfl)) (fun i hi => leaf_kid X _ (hlf _ (List.getElem_mem hi))) (show 3 ≤ maxLen by decide) (show 0 < 3 by decide)) (fun j hj => Nat.le_trans (mapN_le _ _ rfl hj) (by have a := amt_size g hg.1 hg.2; have c := kind_size k; have k0 : (⟨#[110, 97, 109, 101]⟩ : ByteArray).size = 4 := rfl; have k1 : (⟨#[107, 105, 110, 100]⟩ : ByteArray).size = 4 := rfl; have k2 : (⟨#[103, 111, 97, 108]⟩ : ByteArray).size = 4 := rfl; have kn : (⟨#[]⟩ : ByteArray).size = 0 := rfl; simp only [szAll, strSz, RT.sz, List.length_cons, List.length_nil, List.map_cons, List.map_nil, List.sum_cons, List.sum_nil]; omega)) (fun p hp => Nat.le_trans (sz_take _ hp) (by have a := amt_size g hg.1 hg.2; have c := kind_size k; have kn : (⟨#[]⟩ : ByteArray).size = 0 := rfl; simp only [szAll, strSz, RT.sz, List.length_nil, List.map_nil, List.sum_nil]; omega)) (show 3 ≤ 1000000 by decide) _ (metT_map s k g)
    exact h
  generalize metT ⟨s, k, g⟩ = T at *
  clear hs hk hg hs1
  go_enter Tryz.func60, Tryz.ntmps60
  go_wp2_with fail
  have H2 := Lib.hid (Two.start w (.cells #[.string s, .int .i64 k, .int .i64 g] 93) (.cells #[.int .i64 0, .int .i64 0, .string ⟨#[]⟩, .slice none 0 0, .slice none 0 0] 32))
  have x0 := cell_of H2.out.arg 0
  have x1 := cell_of H2.out.arg 1
  have x2 := cell_of H2.out.arg 2
  simp only [List.getElem?_toArray, List.getElem?_cons_zero, List.getElem?_cons_succ] at x0 x1 x2
  go_region_held3 (fun w' => w'.cell? ⟨w.heap.size, 0, none⟩ = some (.string s) ∧ w'.cell? ⟨w.heap.size, 1, none⟩ = some (.int .i64 k) ∧ w'.cell? ⟨w.heap.size, 2, none⟩ = some (.int .i64 g)) (go_keep)
    (first
      | (go_at_call 94; refine (spec_amountText g HG.out.1 HG.out.2 _).mono ?_; rintro e w' ⟨rfl, hb⟩; (first | (replace H2 := Lib.hid (H2.out.next hb); (try replace HZ := Lib.hid (HZ.out.next hb))) | (replace H2 := Lib.hid (H2.out.next1 hb)) | (have HZ := Lib.hid (H2.out.lit hb (by simp)).2; replace H2 := Lib.hid (H2.out.lit hb (by simp)).1; (first | replace HZ := Lib.hid (HZ.out.mv (n := w.heap.size + 1 + 1) (by simp)) | skip)) | (have HZ := Lib.hid (H2.out.lit1 hb).2; replace H2 := Lib.hid (H2.out.lit1 hb).1; (first | replace HZ := Lib.hid (HZ.out.mv (n := w.heap.size + 1 + 1) (by simp)) | skip))); clear hb x0 x1 x2; have x0 := cell_of H2.out.arg 0; have x1 := cell_of H2.out.arg 1; have x2 := cell_of H2.out.arg 2; simp only [List.getElem?_toArray, List.getElem?_cons_zero, List.getElem?_cons_succ] at x0 x1 x2)
      | (go_at_call 45; refine (spec_textOf _ _).mono ?_; rintro e w' ⟨rfl, hb⟩; (first | (replace H2 := Lib.hid (H2.out.next hb); (try replace HZ := Lib.hid (HZ.out.next hb))) | (replace H2 := Lib.hid (H2.out.next1 hb)) | (have HZ := Lib.hid (H2.out.lit hb (by simp)).2; replace H2 := Lib.hid (H2.out.lit hb (by simp)).1; (first | replace HZ := Lib.hid (HZ.out.mv (n := w.heap.size + 1 + 1) (by simp)) | skip)) | (have HZ := Lib.hid (H2.out.lit1 hb).2; replace H2 := Lib.hid (H2.out.lit1 hb).1; (first | replace HZ := Lib.hid (HZ.out.mv (n := w.heap.size + 1 + 1) (by simp)) | skip))); clear hb x0 x1 x2; have x0 := cell_of H2.out.arg 0; have x1 := cell_of H2.out.arg 1; have x2 := cell_of H2.out.arg 2; simp only [List.getElem?_toArray, List.getElem?_cons_zero, List.getElem?_cons_succ] at x0 x1 x2)
      | (go_at_call 93; refine (spec_l7Kind _ _).mono ?_; rintro e w' ⟨rfl, hb⟩; (first | (replace H2 := Lib.hid (H2.out.next hb); (try replace HZ := Lib.hid (HZ.out.next hb))) | (replace H2 := Lib.hid (H2.out.next1 hb)) | (have HZ := Lib.hid (H2.out.lit hb (by simp)).2; replace H2 := Lib.hid (H2.out.lit hb (by simp)).1; (first | replace HZ := Lib.hid (HZ.out.mv (n := w.heap.size + 1 + 1) (by simp)) | skip)) | (have HZ := Lib.hid (H2.out.lit1 hb).2; replace H2 := Lib.hid (H2.out.lit1 hb).1; (first | replace HZ := Lib.hid (HZ.out.mv (n := w.heap.size + 1 + 1) (by simp)) | skip))); clear hb x0 x1 x2; have x0 := cell_of H2.out.arg 0; have x1 := cell_of H2.out.arg 1; have x2 := cell_of H2.out.arg 2; simp only [List.getElem?_toArray, List.getElem?_cons_zero, List.getElem?_cons_succ] at x0 x1 x2)
      | (go_at_call 59; refine (HM.out _ _ _ (by first | exact (HZ.out.lit1 (Below.refl _ _)).at_ | exact (H2.out.lits1 (Below.refl _ _)).2.1.at_ | exact (H2.out.lits1 (Below.refl _ _)).2.2.at_ | exact (HZ.out.lit (Below.refl _ _) (by simp [World.drew])).at_ | exact (H2.out.lits (Below.refl _ _) (by simp [World.drew])).2.1.at_ | exact (H2.out.lits (Below.refl _ _) (by simp [World.drew])).2.2.at_) (by first | exact (H2.out.lit1 (Below.refl _ _)).2.at_ | exact (H2.out.lits1 (Below.refl _ _)).2.2.at_ | exact (H2.out.lits1 (Below.refl _ _)).2.1.at_ | exact (H2.out.lit (Below.refl _ _) (by simp [World.drew])).2.at_ | exact (H2.out.lits (Below.refl _ _) (by simp [World.drew])).2.2.at_ | exact (H2.out.lits (Below.refl _ _) (by simp [World.drew])).2.1.at_)).mono ?_; rintro e w' ⟨kr, dr, G, rfl, hl, hf, hb⟩; obtain ⟨⟨o3, q3, rfl⟩, ⟨o4, q4, rfl⟩⟩ := hl.slices; have HL := Lib.hid (res_keep H2.out hl hf (by first | (simp; done) | (simp; omega))); clear hl hf; (first | (replace HZ := Lib.hid (HZ.out.lit1 hb); have HN := Lib.hid (H2.out.lit1 hb).2; replace H2 := Lib.hid (H2.out.lit1 hb).1) | (have HZ := Lib.hid (H2.out.lits1 hb).2.1; have HN := Lib.hid (H2.out.lits1 hb).2.2; replace H2 := Lib.hid (H2.out.lits1 hb).1; (first | (have h9 := HZ.out; have h8 : One w w' _ (.cells #[.string ⟨#[110, 97, 109, 101]⟩, .string ⟨#[107, 105, 110, 100]⟩, .string ⟨#[103, 111, 97, 108]⟩] 9) := h9; clear h8 h9) | (have hq := HZ; replace HZ := HN; replace HN := hq; clear hq))) | (have HN := Lib.hid (H2.out.lit hb (by simp)).2; replace HZ := Lib.hid (HZ.out.lit hb (by simp)); replace H2 := Lib.hid (H2.out.lit hb (by simp)).1) | (have HZ := Lib.hid (H2.out.lits hb (by simp)).2.1; have HN := Lib.hid (H2.out.lits hb (by simp)).2.2; replace H2 := Lib.hid (H2.out.lits hb (by simp)).1; (first | (have h9 := HZ.out; have h8 : One w w' _ (.cells #[.string ⟨#[110, 97, 109, 101]⟩, .string ⟨#[107, 105, 110, 100]⟩, .string ⟨#[103, 111, 97, 108]⟩] 9) := h9; clear h8 h9) | (have hq := HZ; replace HZ := HN; replace HN := hq; clear hq)))); clear hb x0 x1 x2; have x0 := cell_of H2.out.arg 0; have x1 := cell_of H2.out.arg 1; have x2 := cell_of H2.out.arg 2; simp only [List.getElem?_toArray, List.getElem?_cons_zero, List.getElem?_cons_succ] at x0 x1 x2; obtain ⟨r0, r1, r2, r3, r4, r5⟩ := five H2.out.res))
  all_goals
    have HF := res_fin H2.out HL.out
    go_wp2
    exact bodyPost_ret (ret_node Tryz.results60 rfl HF.1) rfl ⟨_, _, _, rfl, HF.2.1, HF.2.2.1, HF.2.2.2⟩

theorem pacT_map (u d us ds : Int) : mapN [⟨#[100, 111, 119, 110]⟩, ⟨#[117, 112]⟩, ⟨#[100, 111, 119, 110, 115, 112, 97, 110]⟩, ⟨#[117, 112, 115, 112, 97, 110]⟩] [.node 2 d ⟨#[]⟩ [] [], .node 2 u ⟨#[]⟩ [] [], .node 3 0 ⟨(spanText ds).toArray⟩ [] [], .node 3 0 ⟨(spanText us).toArray⟩ [] []] 4 = pacT ⟨u, d, us, ds⟩ := by
  show (setT (setT (setT (setT (.node 5 0 ⟨#[]⟩ [] []) ⟨#[100, 111, 119, 110]⟩ (.node 2 d ⟨#[]⟩ [] [])) ⟨#[117, 112]⟩ (.node 2 u ⟨#[]⟩ [] [])) ⟨#[100, 111, 119, 110, 115, 112, 97, 110]⟩ (.node 3 0 ⟨(spanText ds).toArray⟩ [] [])) ⟨#[117, 112, 115, 112, 97, 110]⟩ (.node 3 0 ⟨(spanText us).toArray⟩ [] [])) = _
  rw [setT_new (by rfl) (show firstN [] ⟨#[100, 111, 119, 110]⟩ = 0 by decide +kernel) (show placeN [] ⟨#[100, 111, 119, 110]⟩ = 0 by decide +kernel)]
  show (setT (setT (setT (.node 5 0 ⟨#[]⟩ [⟨#[100, 111, 119, 110]⟩] [.node 2 d ⟨#[]⟩ [] []]) ⟨#[117, 112]⟩ (.node 2 u ⟨#[]⟩ [] [])) ⟨#[100, 111, 119, 110, 115, 112, 97, 110]⟩ (.node 3 0 ⟨(spanText ds).toArray⟩ [] [])) ⟨#[117, 112, 115, 112, 97, 110]⟩ (.node 3 0 ⟨(spanText us).toArray⟩ [] [])) = _
  rw [setT_new (by rfl) (show firstN [⟨#[100, 111, 119, 110]⟩] ⟨#[117, 112]⟩ = 1 by decide +kernel) (show placeN [⟨#[100, 111, 119, 110]⟩] ⟨#[117, 112]⟩ = 1 by decide +kernel)]
  show (setT (setT (.node 5 0 ⟨#[]⟩ [⟨#[100, 111, 119, 110]⟩, ⟨#[117, 112]⟩] [.node 2 d ⟨#[]⟩ [] [], .node 2 u ⟨#[]⟩ [] []]) ⟨#[100, 111, 119, 110, 115, 112, 97, 110]⟩ (.node 3 0 ⟨(spanText ds).toArray⟩ [] [])) ⟨#[117, 112, 115, 112, 97, 110]⟩ (.node 3 0 ⟨(spanText us).toArray⟩ [] [])) = _
  rw [setT_new (by rfl) (show firstN [⟨#[100, 111, 119, 110]⟩, ⟨#[117, 112]⟩] ⟨#[100, 111, 119, 110, 115, 112, 97, 110]⟩ = 2 by decide +kernel) (show placeN [⟨#[100, 111, 119, 110]⟩, ⟨#[117, 112]⟩] ⟨#[100, 111, 119, 110, 115, 112, 97, 110]⟩ = 1 by decide +kernel)]
  show (setT (.node 5 0 ⟨#[]⟩ [⟨#[100, 111, 119, 110]⟩, ⟨#[100, 111, 119, 110, 115, 112, 97, 110]⟩, ⟨#[117, 112]⟩] [.node 2 d ⟨#[]⟩ [] [], .node 3 0 ⟨(spanText ds).toArray⟩ [] [], .node 2 u ⟨#[]⟩ [] []]) ⟨#[117, 112, 115, 112, 97, 110]⟩ (.node 3 0 ⟨(spanText us).toArray⟩ [] [])) = _
  rw [setT_new (by rfl) (show firstN [⟨#[100, 111, 119, 110]⟩, ⟨#[100, 111, 119, 110, 115, 112, 97, 110]⟩, ⟨#[117, 112]⟩] ⟨#[117, 112, 115, 112, 97, 110]⟩ = 3 by decide +kernel) (show placeN [⟨#[100, 111, 119, 110]⟩, ⟨#[100, 111, 119, 110, 115, 112, 97, 110]⟩, ⟨#[117, 112]⟩] ⟨#[117, 112, 115, 112, 97, 110]⟩ = 3 by decide +kernel)]
  rfl

set_option maxRecDepth 100000 in
set_option maxHeartbeats 8000000 in
theorem spec_paceTree (u d us ds : Int) (hu : Fit u) (hd : Fit d) (hus : Fit us) (hds : Fit ds) (w : World) :
    Calls Tryz.prog 63 #[.agg #[.int .i64 u, .int .i64 d, .int .i64 us, .int .i64 ds]] w fun e w' => ∃ kv dv F, e = .returned ((pacT ⟨u, d, us, ds⟩).val kv dv) ∧ Lies w' (pacT ⟨u, d, us, ds⟩) kv dv F ∧ Fresh w w' F ∧ Below w.heap.size w w' := by
  have HU : Hid (-9223372036854775808 ≤ us ∧ us ≤ 9223372036854775807) := hus
  have HD : Hid (-9223372036854775808 ≤ ds ∧ ds ≤ 9223372036854775807) := hds
  have HM : Hid (∀ X bz bn, X.heap[bz]? = some (.cells #[.string ⟨#[100, 111, 119, 110]⟩, .string ⟨#[117, 112]⟩, .string ⟨#[100, 111, 119, 110, 115, 112, 97, 110]⟩, .string ⟨#[117, 112, 115, 112, 97, 110]⟩] 9 (0, 0)) → X.heap[bn]? = some (.cells #[.int .i64 2, .int .i64 d, .string ⟨#[]⟩, .slice none 0 0, .slice none 0 0, .int .i64 2, .int .i64 u, .string ⟨#[]⟩, .slice none 0 0, .slice none 0 0, .int .i64 3, .int .i64 0, .string ⟨(spanText ds).toArray⟩, .slice none 0 0, .slice none 0 0, .int .i64 3, .int .i64 0, .string ⟨(spanText us).toArray⟩, .slice none 0 0, .slice none 0 0] 32 (0, 0)) → Calls Tryz.prog 59 #[.slice (some ⟨bz, 0, none⟩) 4 4, .slice (some ⟨bn, 0, none⟩) 4 4] X fun e w' => ∃ kr dr G, e = .returned (.agg #[.int .i64 (pacT ⟨u, d, us, ds⟩).k, .int .i64 (pacT ⟨u, d, us, ds⟩).n, .string (pacT ⟨u, d, us, ds⟩).s, kr, dr]) ∧ Lies w' (pacT ⟨u, d, us, ds⟩) kr dr G ∧ Fresh X w' G ∧ Below X.heap.size X w') := by
    intro X bz bn hz hn
    have hlf : ∀ t ∈ ([.node 2 d ⟨#[]⟩ [] [], .node 2 u ⟨#[]⟩ [] [], .node 3 0 ⟨(spanText ds).toArray⟩ [] [], .node 3 0 ⟨(spanText us).toArray⟩ [] []] : List RT), LeafK t := fun t ht => (pacT_leaves ⟨u, d, us, ds⟩ ⟨hu, hd, hus, hds⟩) t (by simp only [List.mem_cons, List.not_mem_nil, or_false] at ht; rcases ht with rfl | rfl | rfl | rfl <;> simp [pacT, RT.kids])
    have h := spec_l7Map [⟨#[100, 111, 119, 110]⟩, ⟨#[117, 112]⟩, ⟨#[100, 111, 119, 110, 115, 112, 97, 110]⟩, ⟨#[117, 112, 115, 112, 97, 110]⟩] [.node 2 d ⟨#[]⟩ [] [], .node 2 u ⟨#[]⟩ [] [], .node 3 0 ⟨(spanText ds).toArray⟩ [] [], .node 3 0 ⟨(spanText us).toArray⟩ [] []] rfl X _ _ _ _ (strs_lit [⟨#[100, 111, 119, 110]⟩, ⟨#[117, 112]⟩, ⟨#[100, 111, 119, 110, 115, 112, 97, 110]⟩, ⟨#[117, 112, 115, 112, 97, 110]⟩] hz rfl (fun t ht => pacT_keys ⟨u, d, us, ds⟩ t (by simp only [List.mem_cons, List.not_mem_nil, or_false] at ht; rcases ht with rfl | rfl | rfl | rfl <;> simp [pacT, RT.keys])) (show 4 ≤ maxLen by decide) (show 0 < 4 by decide))
      (kids_lit [.node 2 d ⟨#[]⟩ [] [], .node 2 u ⟨#[]⟩ [] [], .node 3 0 ⟨(spanText ds).toArray⟩ [] [], .node 3 0 ⟨(spanText us).toArray⟩ [] []] (fun _ => .slice none 0 0) (fun _ => .slice none 0 0) (fun _ => []) hn rfl (fun i hi j hj => by rw [← Array.getElem?_toList]; exact (rowsOf_get [.node 2 d ⟨#[]⟩ [] [], .node 2 u ⟨#[]⟩ [] [], .node 3 0 ⟨(spanText ds).toArray⟩ [] [], .node 3 0 ⟨(spanText us).toArray⟩ [] []] (fun _ => .slice none 0 0) (fun _ => .slice none 0 0) 4 i j hi hj).trans (by rw [List.getD_eq_getElem?_getD, List.getElem?_eq_getElem hi]; rfl)) (fun i hi => leaf_kid X _ (hlf _ (List.getElem_mem hi))) (show 4 ≤ maxLen by decide) (show 0 < 4 by decide)) (fun j hj => Nat.le_trans (mapN_le _ _ rfl hj) (by have a := span_size us hus.1 hus.2; have c := span_size ds hds.1 hds.2; have k0 : (⟨#[100, 111, 119, 110]⟩ : ByteArray).size = 4 := rfl; have k1 : (⟨#[117, 112]⟩ : ByteArray).size = 2 := rfl; have k2 : (⟨#[100, 111, 119, 110, 115, 112, 97, 110]⟩ : ByteArray).size = 8 := rfl; have k3 : (⟨#[117, 112, 115, 112, 97, 110]⟩ : ByteArray).size = 6 := rfl; have kn : (⟨#[]⟩ : ByteArray).size = 0 := rfl; simp only [szAll, strSz, RT.sz, List.length_cons, List.length_nil, List.map_cons, List.map_nil, List.sum_cons, List.sum_nil]; omega)) (fun p hp => Nat.le_trans (sz_take _ hp) (by have a := span_size us hus.1 hus.2; have c := span_size ds hds.1 hds.2; have kn : (⟨#[]⟩ : ByteArray).size = 0 := rfl; simp only [szAll, strSz, RT.sz, List.length_nil, List.map_nil, List.sum_nil]; omega)) (show 4 ≤ 1000000 by decide) _ (pacT_map u d us ds)
    exact h
  generalize pacT ⟨u, d, us, ds⟩ = T at *
  clear hu hd hus hds
  go_enter Tryz.func63, Tryz.ntmps63
  go_wp2_with fail
  have H2 := Lib.hid (Two.start w (.cells #[.int .i64 u, .int .i64 d, .int .i64 us, .int .i64 ds] 35) (.cells #[.int .i64 0, .int .i64 0, .string ⟨#[]⟩, .slice none 0 0, .slice none 0 0] 32))
  have x0 := cell_of H2.out.arg 0
  have x1 := cell_of H2.out.arg 1
  have x2 := cell_of H2.out.arg 2
  have x3 := cell_of H2.out.arg 3
  simp only [List.getElem?_toArray, List.getElem?_cons_zero, List.getElem?_cons_succ] at x0 x1 x2 x3
  go_region_held3 (fun w' => w'.cell? ⟨w.heap.size, 0, none⟩ = some (.int .i64 u) ∧ w'.cell? ⟨w.heap.size, 1, none⟩ = some (.int .i64 d) ∧ w'.cell? ⟨w.heap.size, 2, none⟩ = some (.int .i64 us) ∧ w'.cell? ⟨w.heap.size, 3, none⟩ = some (.int .i64 ds)) (go_keep)
    (first
      | (go_at_call 43; refine (spec_intOf _ _).mono ?_; rintro e w' ⟨rfl, hb⟩; (first | (replace H2 := Lib.hid (H2.out.next hb); (try replace HZ := Lib.hid (HZ.out.next hb))) | (replace H2 := Lib.hid (H2.out.next1 hb)) | (have HZ := Lib.hid (H2.out.lit hb (by simp)).2; replace H2 := Lib.hid (H2.out.lit hb (by simp)).1; (first | replace HZ := Lib.hid (HZ.out.mv (n := w.heap.size + 1 + 1) (by simp)) | skip)) | (have HZ := Lib.hid (H2.out.lit1 hb).2; replace H2 := Lib.hid (H2.out.lit1 hb).1; (first | replace HZ := Lib.hid (HZ.out.mv (n := w.heap.size + 1 + 1) (by simp)) | skip))); clear hb x0 x1 x2 x3; have x0 := cell_of H2.out.arg 0; have x1 := cell_of H2.out.arg 1; have x2 := cell_of H2.out.arg 2; have x3 := cell_of H2.out.arg 3; simp only [List.getElem?_toArray, List.getElem?_cons_zero, List.getElem?_cons_succ] at x0 x1 x2 x3)
      | (go_at_call 95; (first | (with_reducible refine (spec_spanText us HU.out.1 HU.out.2 _).mono ?_) | (with_reducible refine (spec_spanText ds HD.out.1 HD.out.2 _).mono ?_)); rintro e w' ⟨rfl, hb⟩; (first | (replace H2 := Lib.hid (H2.out.next hb); (try replace HZ := Lib.hid (HZ.out.next hb))) | (replace H2 := Lib.hid (H2.out.next1 hb)) | (have HZ := Lib.hid (H2.out.lit hb (by simp)).2; replace H2 := Lib.hid (H2.out.lit hb (by simp)).1; (first | replace HZ := Lib.hid (HZ.out.mv (n := w.heap.size + 1 + 1) (by simp)) | skip)) | (have HZ := Lib.hid (H2.out.lit1 hb).2; replace H2 := Lib.hid (H2.out.lit1 hb).1; (first | replace HZ := Lib.hid (HZ.out.mv (n := w.heap.size + 1 + 1) (by simp)) | skip))); clear hb x0 x1 x2 x3; have x0 := cell_of H2.out.arg 0; have x1 := cell_of H2.out.arg 1; have x2 := cell_of H2.out.arg 2; have x3 := cell_of H2.out.arg 3; simp only [List.getElem?_toArray, List.getElem?_cons_zero, List.getElem?_cons_succ] at x0 x1 x2 x3)
      | (go_at_call 45; refine (spec_textOf _ _).mono ?_; rintro e w' ⟨rfl, hb⟩; (first | (replace H2 := Lib.hid (H2.out.next hb); (try replace HZ := Lib.hid (HZ.out.next hb))) | (replace H2 := Lib.hid (H2.out.next1 hb)) | (have HZ := Lib.hid (H2.out.lit hb (by simp)).2; replace H2 := Lib.hid (H2.out.lit hb (by simp)).1; (first | replace HZ := Lib.hid (HZ.out.mv (n := w.heap.size + 1 + 1) (by simp)) | skip)) | (have HZ := Lib.hid (H2.out.lit1 hb).2; replace H2 := Lib.hid (H2.out.lit1 hb).1; (first | replace HZ := Lib.hid (HZ.out.mv (n := w.heap.size + 1 + 1) (by simp)) | skip))); clear hb x0 x1 x2 x3; have x0 := cell_of H2.out.arg 0; have x1 := cell_of H2.out.arg 1; have x2 := cell_of H2.out.arg 2; have x3 := cell_of H2.out.arg 3; simp only [List.getElem?_toArray, List.getElem?_cons_zero, List.getElem?_cons_succ] at x0 x1 x2 x3)
      | (go_at_call 59; refine (HM.out _ _ _ (by first | exact (HZ.out.lit1 (Below.refl _ _)).at_ | exact (H2.out.lits1 (Below.refl _ _)).2.1.at_ | exact (H2.out.lits1 (Below.refl _ _)).2.2.at_ | exact (HZ.out.lit (Below.refl _ _) (by simp [World.drew])).at_ | exact (H2.out.lits (Below.refl _ _) (by simp [World.drew])).2.1.at_ | exact (H2.out.lits (Below.refl _ _) (by simp [World.drew])).2.2.at_) (by first | exact (H2.out.lit1 (Below.refl _ _)).2.at_ | exact (H2.out.lits1 (Below.refl _ _)).2.2.at_ | exact (H2.out.lits1 (Below.refl _ _)).2.1.at_ | exact (H2.out.lit (Below.refl _ _) (by simp [World.drew])).2.at_ | exact (H2.out.lits (Below.refl _ _) (by simp [World.drew])).2.2.at_ | exact (H2.out.lits (Below.refl _ _) (by simp [World.drew])).2.1.at_)).mono ?_; rintro e w' ⟨kr, dr, G, rfl, hl, hf, hb⟩; obtain ⟨⟨o3, q3, rfl⟩, ⟨o4, q4, rfl⟩⟩ := hl.slices; have HL := Lib.hid (res_keep H2.out hl hf (by first | (simp; done) | (simp; omega))); clear hl hf; (first | (replace HZ := Lib.hid (HZ.out.lit1 hb); have HN := Lib.hid (H2.out.lit1 hb).2; replace H2 := Lib.hid (H2.out.lit1 hb).1) | (have HZ := Lib.hid (H2.out.lits1 hb).2.1; have HN := Lib.hid (H2.out.lits1 hb).2.2; replace H2 := Lib.hid (H2.out.lits1 hb).1; (first | (have h9 := HZ.out; have h8 : One w w' _ (.cells #[.string ⟨#[100, 111, 119, 110]⟩, .string ⟨#[117, 112]⟩, .string ⟨#[100, 111, 119, 110, 115, 112, 97, 110]⟩, .string ⟨#[117, 112, 115, 112, 97, 110]⟩] 9) := h9; clear h8 h9) | (have hq := HZ; replace HZ := HN; replace HN := hq; clear hq))) | (have HN := Lib.hid (H2.out.lit hb (by simp)).2; replace HZ := Lib.hid (HZ.out.lit hb (by simp)); replace H2 := Lib.hid (H2.out.lit hb (by simp)).1) | (have HZ := Lib.hid (H2.out.lits hb (by simp)).2.1; have HN := Lib.hid (H2.out.lits hb (by simp)).2.2; replace H2 := Lib.hid (H2.out.lits hb (by simp)).1; (first | (have h9 := HZ.out; have h8 : One w w' _ (.cells #[.string ⟨#[100, 111, 119, 110]⟩, .string ⟨#[117, 112]⟩, .string ⟨#[100, 111, 119, 110, 115, 112, 97, 110]⟩, .string ⟨#[117, 112, 115, 112, 97, 110]⟩] 9) := h9; clear h8 h9) | (have hq := HZ; replace HZ := HN; replace HN := hq; clear hq)))); clear hb x0 x1 x2 x3; have x0 := cell_of H2.out.arg 0; have x1 := cell_of H2.out.arg 1; have x2 := cell_of H2.out.arg 2; have x3 := cell_of H2.out.arg 3; simp only [List.getElem?_toArray, List.getElem?_cons_zero, List.getElem?_cons_succ] at x0 x1 x2 x3; obtain ⟨r0, r1, r2, r3, r4, r5⟩ := five H2.out.res))
  all_goals
    have HF := res_fin H2.out HL.out
    go_wp2
    exact bodyPost_ret (ret_node Tryz.results63 rfl HF.1) rfl ⟨_, _, _, rfl, HF.2.1, HF.2.2.1, HF.2.2.2⟩
end Go.Proofs.YtfmkhogpnnobeaaGreatDoor
