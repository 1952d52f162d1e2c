/-
  What is proved: how much of a room the laws take a list of texts, a list of trees, and a tree for: less what it holds, or -1 where that is more.
-/
import Derived.Test.YtbcgkpkkhinkcaaTree
import Derived.Test.YtbcgkpkkhinkcaaRows
import Derived.WalkKit
import Derived.WalkSpells
namespace Go.Proofs.Ytbcgkpkkhinkcaa
open Go Go.RowKit

def strSz (ks : List ByteArray) : Nat := (ks.map ByteArray.size).sum

mutual
def RT.sz : RT → Nat
  | .node _ _ s keys kids => s.size + (keys.length + strSz keys) + (kids.length + szAll kids)
def szAll : List RT → Nat
  | [] => 0
  | t :: ts => t.sz + szAll ts
end

theorem szAll_sum (l : List RT) : szAll l = (l.map RT.sz).sum := by
  induction l with
  | nil => simp [szAll]
  | cons t l ih => simp [szAll, ih]

theorem sum_take {α : Type} (l : List α) (f : α → Nat) (i : Nat) (h : i < l.length) : ((l.take (i + 1)).map f).sum = ((l.take i).map f).sum + f l[i] := by
  rw [List.take_succ_eq_append_getElem h, List.map_append, List.sum_append]
  simp

theorem sum_take_le {α : Type} (l : List α) (f : α → Nat) (i : Nat) : ((l.take i).map f).sum ≤ (l.map f).sum := by
  have h := congrArg (fun x => (List.map f x).sum) (List.take_append_drop i l)
  simp only [List.map_append, List.sum_append] at h
  omega

/-- What is left of a room. -/
def left (room : Int) (n : Nat) : Int := if (n : Int) ≤ room then room - n else -1

theorem left_ok {r : Int} {n : Nat} (h : (n : Int) ≤ r) : left r n = r - n := by unfold left; rw [if_pos h]
theorem left_no {r : Int} {n : Nat} (h : ¬ (n : Int) ≤ r) : left r n = -1 := by unfold left; rw [if_neg h]

set_option maxHeartbeats 400000 in
theorem sz_strs {v : Value} {ks : List ByteArray} {F : List Nat} (w : World) (hs : StrsAt w v ks F) (r : Int) (h0 : 0 ≤ r) (h1 : r ≤ 1048576) :
    Calls Try.prog 14 #[v, .int .i64 r] w fun e w' => e = .returned (.int .i64 (left r (ks.length + strSz ks))) ∧ Below w.heap.size w w' := by
  obtain ⟨o, cap, b, off, rfl, hlc, hcm, ho, -, hcell, -⟩ := hs
  have HC := Lib.hid hcell
  have HO := Lib.hid ho
  clear hcell ho
  unfold maxLen at hcm
  by_cases hl : (ks.length : Int) ≤ r
  · go_enter Try.func14, Try.ntmps14
    go_wp2
    go_loop [1, 5] (fun l i => ∃ k : Nat, k ≤ ks.length ∧ i = .int .i64 k ∧ l = .int .i64 (r - ks.length - strSz (ks.take k)) ∧ (strSz (ks.take k) : Int) ≤ r - ks.length) (fun _ i => ks.length - (intOf i).toNat)
    case atStart => exact ⟨0, Nat.zero_le _, rfl, by simp [strSz], by simp [strSz]; omega⟩
    case round =>
      obtain ⟨k, hk, rfl, rfl, hr⟩ := hrel
      by_cases hlt : k < ks.length
      · obtain ⟨c0, c1⟩ := HC.out k hlt
        have ho := HO.out (by omega)
        subst ho
        have HS : Hid (strSz (ks.take (k + 1)) = strSz (ks.take k) + ks[k].size) := sum_take ks ByteArray.size k hlt
        have HL : Hid (strSz (ks.take (k + 1)) ≤ strSz ks) := sum_take_le ks ByteArray.size (k + 1)
        generalize hq : strSz (ks.take k) = q at *
        generalize hx : ks[k] = x at *
        unfold maxLen at c1
        by_cases hn : (x.size : Int) ≤ r - ks.length - q
        · go_wp2
          go_round
          case rel =>
            refine ⟨k + 1, by omega, by go_num, ?_, ?_⟩
            · rw [HS.out]; congr 1; omega
            · rw [HS.out]; omega
          case measure => simp [intOf]; omega
        · go_wp2
          go_ret
          refine ⟨?_, Below.refl _ _⟩
          have g1 := HS.out
          have g2 := HL.out
          rw [left_no (by omega)]
          rfl
      · have e : ks.take k = ks := List.take_of_length_le (by omega)
        rw [e] at hr ⊢
        go_wp2
        go_ret
        refine ⟨?_, Below.refl _ _⟩
        rw [left_ok (by omega)]
        exact ret_int (by omega)
  · go_enter Try.func14, Try.ntmps14
    go_wp2
    go_ret
    refine ⟨?_, Below.refl _ _⟩
    rw [left_no (by omega)]
    rfl

/-- What the laws' szNode answers of one tree. -/
def SzAt (T : RT) : Prop := ∀ (w : World) (kv dv : Value) (F : List Nat), Lies w T kv dv F → ∀ r : Int, 0 ≤ r → r ≤ 1048576 →
  Calls Try.prog 5 #[T.val kv dv, .int .i64 r] w fun e w' => e = .returned (.int .i64 (left r T.sz)) ∧ Below w.heap.size w w'

set_option maxHeartbeats 400000 in
theorem sz_kids {dv : Value} {kids : List RT} {F : List Nat} (ih : ∀ t ∈ kids, SzAt t) (w : World) (hs : KidsLie w dv kids F) (r : Int) (h0 : 0 ≤ r) (h1 : r ≤ 1048576) :
    Calls Try.prog 15 #[dv, .int .i64 r] w fun e w' => e = .returned (.int .i64 (left r (kids.length + szAll kids))) ∧ Below w.heap.size w w' := by
  rw [szAll_sum]
  have HK := Lib.hid hs
  obtain ⟨o, cap, b, off, FF, KV, DV, rfl, hlc, hcm, ho, -, hcell, hlies, -⟩ := hs
  have HC := Lib.hid hcell
  have HL := Lib.hid hlies
  have HO := Lib.hid ho
  clear hcell ho hlies
  unfold maxLen at hcm
  by_cases hl : (kids.length : Int) ≤ r
  · go_enter Try.func15, Try.ntmps15
    go_wp2
    go_loopw [1, 5] (fun l i wr => ∃ k : Nat, k ≤ kids.length ∧ i = .int .i64 k ∧ l = .int .i64 (r - kids.length - ((kids.take k).map RT.sz).sum) ∧ (((kids.take k).map RT.sz).sum : Int) ≤ r - kids.length ∧ Below w.heap.size w wr) (fun _ i _ => kids.length - (intOf i).toNat)
    case atStart => exact ⟨0, Nat.zero_le _, rfl, by simp, by simp; omega, Below.refl _ _⟩
    case round =>
      obtain ⟨k, hk, rfl, rfl, hr, hb⟩ := hrel
      have HB := Lib.hid hb
      by_cases hlt : k < kids.length
      · have ho := HO.out (by omega)
        subst ho
        have HK' := Lib.hid ((HL.out k hlt).stay hb (Nat.le_refl _))
        obtain ⟨c0, c1, c2, c3, c4⟩ := kid_cells (HC.out k hlt) hb
        clear hb
        have HS := Lib.hid (sum_take kids RT.sz k hlt)
        have HM := Lib.hid (sum_take_le kids RT.sz (k + 1))
        have hih := Lib.hid (ih _ (List.getElem_mem hlt) wr _ _ _ HK'.out)
        generalize hq : ((kids.take k).map RT.sz).sum = q at *
        generalize hx : kids[k] = x at *
        have HX := Lib.hid hx
        clear hx
        go_wp2_with (first | (go_at_call 5; refine (hih.out _ (by omega) (by omega)).mono ?_; rintro e w1 ⟨rfl, hb1⟩) | go_in)
        · have g1 := HS.out
          have g2 := HM.out
          go_ret
          refine ⟨?_, HB.out.trans (hb1.mono HB.out.size)⟩
          rename_i hneg
          have : ¬ (x.sz : Int) ≤ r - kids.length - q := fun hh => by rw [left_ok hh] at hneg; omega
          rw [left_no (n := kids.length + _) (by omega)]
          rfl
        · rename_i hpos
          have hle : (x.sz : Int) ≤ r - kids.length - q := by
            by_cases hh : (x.sz : Int) ≤ r - kids.length - q
            · exact hh
            · rw [left_no hh] at hpos; omega
          refine ⟨⟨k + 1, by omega, by go_num, ?_, ?_, HB.out.trans (hb1.mono HB.out.size)⟩, by simp [intOf]; omega⟩
          · rw [HS.out, left_ok hle]; congr 1; omega
          · rw [HS.out]; omega
      · have e : kids.take k = kids := List.take_of_length_le (by omega)
        rw [e] at hr ⊢
        go_wp2
        go_ret
        refine ⟨?_, HB.out⟩
        rw [left_ok (by omega)]
        exact ret_int (by omega)
  · go_enter Try.func15, Try.ntmps15
    go_wp2
    go_ret
    refine ⟨?_, Below.refl _ _⟩
    rw [left_no (by omega)]
    rfl

set_option maxHeartbeats 400000 in
theorem sz_node (T : RT) : SzAt T := by
  induction T using RT.ind with
  | h k n s keys kids ih =>
    intro w kv dv F hl r h0 h1
    obtain ⟨-, -, hs, FK, FD, hK, hD, -⟩ := hl.out
    have hs' : s.size ≤ maxLen := hs
    unfold maxLen at hs'
    clear hs hl
    have HK := Lib.hid hK
    have HD := Lib.hid hD
    clear hK hD
    show Calls Try.prog 5 #[.agg #[.int .i64 k, .int .i64 n, .string s, kv, dv], .int .i64 r] w _
    by_cases hS : (s.size : Int) ≤ r
    · have g1 := Lib.hid (sz_strs (v := kv) (ks := keys) (F := FK))
      have g2 := Lib.hid (sz_kids (dv := dv) (F := FD) ih)
      generalize hm1 : keys.length + strSz keys = m1 at *
      generalize hm2 : kids.length + szAll kids = m2 at *
      have e : (RT.node k n s keys kids).sz = s.size + m1 + m2 := by rw [RT.sz, hm1, hm2]
      rw [e]
      clear e ih hm1 hm2
      by_cases hS1 : (m1 : Int) ≤ r - s.size
      · by_cases hS2 : (m2 : Int) ≤ r - s.size - m1
        · go_enter Try.func5, Try.ntmps5
          go_wp2_with (first
            | (go_at_call 14; refine (g1.out _ (HK.out.stay (B := w.heap.size) ((Below.refl _ w).alloc (Nat.le_refl _) _) (Nat.le_refl _)) _ (by omega) (by omega)).mono ?_; rintro e w1 ⟨rfl, hb1⟩; rw [left_ok hS1]; have hx := (Box.start w _ _ _ _ _ _).next hb1; have hB := hx.below; obtain ⟨-, -, -, -, -, -, c4⟩ := hx; clear hb1)
            | (go_at_call 15; refine (g2.out _ (HD.out.stay hB (Nat.le_refl _)) _ (by omega) (by omega)).mono ?_; rintro e w2 ⟨rfl, hb2⟩; rw [left_ok hS2])
            | go_in)
          go_ret
          refine ⟨?_, hB.trans (hb2.mono hB.size)⟩
          rw [left_ok (by omega)]
          exact ret_int (by omega)
        · go_enter Try.func5, Try.ntmps5
          go_wp2_with (first
            | (go_at_call 14; refine (g1.out _ (HK.out.stay (B := w.heap.size) ((Below.refl _ w).alloc (Nat.le_refl _) _) (Nat.le_refl _)) _ (by omega) (by omega)).mono ?_; rintro e w1 ⟨rfl, hb1⟩; rw [left_ok hS1]; have hx := (Box.start w _ _ _ _ _ _).next hb1; have hB := hx.below; obtain ⟨-, -, -, -, -, -, c4⟩ := hx; clear hb1)
            | (go_at_call 15; refine (g2.out _ (HD.out.stay hB (Nat.le_refl _)) _ (by omega) (by omega)).mono ?_; rintro e w2 ⟨rfl, hb2⟩; rw [left_no (by omega)])
            | go_in)
          go_ret
          refine ⟨?_, hB.trans (hb2.mono hB.size)⟩
          rw [left_no (by omega)]
          rfl
      · go_enter Try.func5, Try.ntmps5
        go_wp2_with (first
          | (go_at_call 14; refine (g1.out _ (HK.out.stay (B := w.heap.size) ((Below.refl _ w).alloc (Nat.le_refl _) _) (Nat.le_refl _)) _ (by omega) (by omega)).mono ?_; rintro e w1 ⟨rfl, hb1⟩; rw [left_no (by omega)]; have hB := ((Box.start w _ _ _ _ _ _).next hb1).below; clear hb1)
          | go_in)
        go_ret
        refine ⟨?_, hB⟩
        rw [left_no (by omega)]
        rfl
    · go_enter Try.func5, Try.ntmps5
      go_wp2
      go_ret
      refine ⟨?_, (Below.refl _ w).alloc (Nat.le_refl _) _⟩
      rw [RT.sz, left_no (by omega)]
      rfl
end Go.Proofs.Ytbcgkpkkhinkcaa
