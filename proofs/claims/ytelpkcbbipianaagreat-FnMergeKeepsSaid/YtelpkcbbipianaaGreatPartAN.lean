/-
  What is proved: the model's Braced, at every tree: empty when it is not right; else what its parts are written as.; plain facts for the law of two changes at once: how great a right tree is at most; Get of a map as what stands at a Key; a base's Keys are kept.; the model's drawing of inputs: a cursor is made, and each byte, number or choice drawn from it lies in its bounds; conditions as each theorem states.; plain facts on a measure of a tree that is not less than its room and not less than what a right tree is written as in braces.
-/
import Derived.Test.YtelpkcbbipianaaGreatPartAM
import Derived.Test.YtelpkcbbipianaaGreatPartAH
import Derived.Test.YtelpkcbbipianaaGreatPartAD
import Derived.Test.YtelpkcbbipianaaGreatPartAE
import Derived.Test.YtelpkcbbipianaaGreatPartAG
import Derived.Test.YtelpkcbbipianaaGreatPartAA
import Derived.Test.YtelpkcbbipianaaGreatRows
import Derived.WalkKit
import Derived.Laws.AppendOwn
import Derived.Laws.OwnMore
import Derived.Maps.AppendAt
import Derived.Deep.AppendLies
import Derived.WalkLawsBesides
import Derived.ProofKit
import Derived.OpenShut
import Derived.LaidMore
import Derived.Stop.Joined
import Derived.Stop.LaidErr
import Derived.Lib.LaidTab
import Derived.Lib.AppendIntMem
import Derived.WalkSmall
import Derived.MakeChecks
import Derived.Outline
import Derived.Deep.QuietTactic
import Derived.BigQuiet
import Derived.Lib.Hide
/- the model's Braced, at every tree: empty when it is not right; else what its parts are written as. -/
namespace Go.Proofs.YtelpkcbbipianaaGreat
open Go Go.RowKit

def TextAt (T : RT) : Prop := ∀ (w : World) (kv dv : Value) (F : List Nat), Lies w T kv dv F → T.right = true → T.size ≤ 200 →
  Calls Tryz.prog 90 #[.agg #[.int .i64 T.k, .int .i64 T.n, .string T.s, kv, dv]] w fun e w' => e = .returned (.string ⟨T.brac.toArray⟩) ∧ Below w.heap.size w w'

section
variable (n : Int) (s : ByteArray) (kv dv : Value) (w : World)

set_option maxHeartbeats 400000 in
theorem text0 : Calls Tryz.prog 90 #[.agg #[.int .i64 0, .int .i64 n, .string s, kv, dv]] w fun e w' => e = .returned (.string ⟨#[110, 117, 108, 108]⟩) ∧ Below w.heap.size w w' := by
  go_enter Tryz.func90, Tryz.ntmps90
  go_wp2
  go_ret
  exact ⟨rfl, (Below.refl _ w).alloc (Nat.le_refl _) _⟩

set_option maxHeartbeats 400000 in
theorem text1 : Calls Tryz.prog 90 #[.agg #[.int .i64 1, .int .i64 n, .string s, kv, dv]] w fun e w' => e = .returned (.string ⟨(if n = 1 then [116, 114, 117, 101] else [102, 97, 108, 115, 101] : List UInt8).toArray⟩) ∧ Below w.heap.size w w' := by
  by_cases h : n = 1
  · rw [if_pos h]
    subst h
    go_enter Tryz.func90, Tryz.ntmps90
    go_wp2
    go_ret
    exact ⟨rfl, (Below.refl _ w).alloc (Nat.le_refl _) _⟩
  · rw [if_neg h]
    go_enter Tryz.func90, Tryz.ntmps90
    go_wp2
    go_ret
    exact ⟨rfl, (Below.refl _ w).alloc (Nat.le_refl _) _⟩

set_option maxHeartbeats 400000 in
theorem text2 (h0 : -1000000000000 ≤ n) (h1 : n ≤ 1000000000000) : Calls Tryz.prog 90 #[.agg #[.int .i64 2, .int .i64 n, .string s, kv, dv]] w fun e w' => e = .returned (.string ⟨(Lib.itoa n).toArray⟩) ∧ Below w.heap.size w w' := by
  have HX := Lib.hid (Box.start w (.int .i64 2) (.int .i64 n) (.string s) kv dv 27)
  have HD := Lib.hid (spec_digits n (by omega) (by omega))
  clear h0 h1
  go_enter Tryz.func90, Tryz.ntmps90
  go_wp2_with (first
    | (go_at_call 107; refine (HD.out _).mono ?_; rintro e w1 ⟨rfl, hb1⟩; have HB := Lib.hid (HX.out.next hb1).below; clear hb1)
    | fail)
  go_ret
  exact ⟨rfl, HB.out⟩

set_option maxHeartbeats 400000 in
theorem text3 (hs : s.size ≤ maxLen) : Calls Tryz.prog 90 #[.agg #[.int .i64 3, .int .i64 n, .string s, kv, dv]] w fun e w' => e = .returned (.string (quoteT s)) ∧ Below w.heap.size w w' := by
  have HX := Lib.hid (Box.start w (.int .i64 3) (.int .i64 n) (.string s) kv dv 27)
  have HD := Lib.hid (spec_quote s hs)
  go_enter Tryz.func90, Tryz.ntmps90
  go_wp2_with (first
    | (go_at_call 108; refine (HD.out _).mono ?_; rintro e w1 ⟨rfl, hb1⟩; have HB := Lib.hid (HX.out.next hb1).below; clear hb1)
    | fail)
  go_ret
  exact ⟨rfl, HB.out⟩
end

theorem cat_list (A B : ByteArray) : (A ++ B).data.toList = A.data.toList ++ B.data.toList := by simp
theorem ext_list {A : ByteArray} {l : List UInt8} (h : A.data.toList = l) : A = ⟨l.toArray⟩ := by rw [← h]
theorem mk_size (l : List UInt8) : (⟨l.toArray⟩ : ByteArray).size = l.length := rfl
theorem size_of_list {S : ByteArray} {l : List UInt8} (h : S.data.toList = l) : S.size = l.length := by rw [← h]; simp

set_option maxRecDepth 100000 in
set_option maxHeartbeats 1000000 in
theorem text4 (n : Int) (s : ByteArray) (keys : List ByteArray) (kids : List RT) (ih : ∀ t ∈ kids, TextAt t) (w : World) (kv dv : Value) (FD : List Nat) (hD : KidsLie w dv kids FD) (hr : (RT.node 4 n s keys kids).right = true) (hz : (RT.node 4 n s keys kids).size ≤ 200) :
    Calls Tryz.prog 90 #[.agg #[.int .i64 4, .int .i64 n, .string s, kv, dv]] w fun e w' => e = .returned (.string ⟨((RT.node 4 n s keys kids).brac).toArray⟩) ∧ Below w.heap.size w w' := by
  have hz' : sizeAll kids + 1 ≤ 200 := hz
  have HT := Lib.hid (fun i => parts_take_le hr (.inl rfl) i)
  have HK : Hid (∀ i (h : i < kids.length), kids[i].right = true) := (right_out hr).2
  have HBR : Hid ((RT.node 4 n s keys kids).brac = [91] ++ (Lib.join (partsOf 4 keys kids) [44] ++ [93])) := brac4
  generalize (RT.node 4 n s keys kids).brac = BR at *
  clear hr hz
  obtain ⟨o, cap, b, off, FF, KV, DV, rfl, hlc, hcm, ho, -, hcell, hlies, -⟩ := hD
  have HX := Lib.hid (Box.start w (.int .i64 4) (.int .i64 n) (.string s) kv (.slice o kids.length cap) 27)
  have HC := Lib.hid hcell
  have HL := Lib.hid hlies
  have HO := Lib.hid ho
  clear hcell hlies ho
  unfold maxLen at hcm
  go_enter Tryz.func90, Tryz.ntmps90
  go_wp2
  go_loopw [5, 6] (fun v q wr => ∃ (j : Nat) (S : ByteArray), j ≤ kids.length ∧ v = .string S ∧ q = .int .i64 j ∧ Hid (S.data.toList = [91] ++ Lib.join ((partsOf 4 keys kids).take j) [44] ∧ Box w wr (.int .i64 4) (.int .i64 n) (.string s) kv (.slice o kids.length cap))) (fun _ q _ => kids.length - (intOf q).toNat)
  case atStart => exact ⟨0, _, Nat.zero_le _, rfl, rfl, by simp [Lib.join_nil], HX.out⟩
  case round =>
    obtain ⟨j, S, hj, rfl, rfl, hr⟩ := hrel
    have HS : Hid (S.data.toList = [91] ++ Lib.join ((partsOf 4 keys kids).take j) [44]) := hr.out.1
    have HB := Lib.hid hr.out.2
    clear hr
    obtain ⟨-, -, x0, x1, x2, x3, x4⟩ := HB.out
    have hSz : S.size ≤ 341000 := by
      have h1 := HT.out j
      rw [size_of_list HS.out]
      simp only [List.length_append, List.length_cons, List.length_nil]
      omega
    by_cases hlt : j < kids.length
    · have ho := HO.out (by omega)
      subst ho
      have hlt' : (j : Int) < kids.length := by omega
      obtain ⟨c0, c1, c2, c3, c4⟩ := kid_cells (HC.out j hlt) HB.out.below
      obtain ⟨⟨o1, q1, s1⟩, ⟨o2, q2, s2⟩⟩ := (HL.out j hlt).slices
      have HI := Lib.hid (fun (w1 : World) (hb1 : Below w.heap.size w w1) (hz : kids[j].size ≤ 200) => ih _ (List.getElem_mem hlt) w1 _ _ _ ((HL.out j hlt).stay hb1 (Nat.le_refl _)) (HK.out j hlt) hz)
      have hzj : kids[j].size ≤ 200 := by
        have e1 := sizeAll_take kids j hlt
        have e2 := sizeAll_take_le kids (j + 1)
        omega
      have HN : Hid (Lib.join ((partsOf 4 keys kids).take (j + 1)) [44] = Lib.join ((partsOf 4 keys kids).take j) [44] ++ ((if j = 0 then [] else [44]) ++ kids[j].brac)) := join_take_succ _ _ _ _ (partsOf_list j hlt)
      have HZ : Hid (kids[j].brac.length ≤ 341000) := by
        have := brac_le _ (HK.out j hlt)
        show kids[j].brac.length ≤ 341000
        omega
      have hB1 : Hid (∀ ob, Below wr.heap.size wr (wr.alloc ob)) := fun ob => (Below.refl _ _).alloc (Nat.le_refl _) _
      generalize kids[j] = x at *
      generalize KV j = v1 at *
      generalize DV j = v2 at *
      subst s1 s2
      by_cases hj0 : j = 0
      · have hj1 : ¬ (0 : Int) < (j : Int) := by omega
        have HJ : Hid (Lib.join ((partsOf 4 keys kids).take (j + 1)) [44] = Lib.join ((partsOf 4 keys kids).take j) [44] ++ x.brac) := by
          have := HN.out
          rw [if_pos hj0] at this
          show _ = _
          simpa using this
        clear hj0 HN
        go_wp2_with fail
        refine (HI.out _ HB.out.below hzj).mono ?_
        rintro e w2 ⟨rfl, hb2⟩
        have HB2 := Lib.hid (HB.out.next hb2)
        clear hb2 x0 x1 x2 x3 x4 c0 c1 c2 c3 c4
        obtain ⟨-, -, x0, x1, x2, x3, x4⟩ := HB2.out
        generalize hX : (⟨x.brac.toArray⟩ : ByteArray) = X at *
        have hXz : X.size ≤ 341000 := by rw [← hX, mk_size]; exact HZ.out
        have HXX : Hid (X.data.toList = x.brac) := by show _ = _; rw [← hX]
        clear hX
        go_wp2
        refine ⟨⟨j + 1, S ++ X, hlt, rfl, by go_num, ?_, HB2.out⟩, by simp [intOf]; omega⟩
        rw [cat_list, HS.out, HXX.out, HJ.out, List.append_assoc]
      · have hj1 : (0 : Int) < (j : Int) := by omega
        have HJ : Hid (Lib.join ((partsOf 4 keys kids).take (j + 1)) [44] = Lib.join ((partsOf 4 keys kids).take j) [44] ++ ([44] ++ x.brac)) := by
          have := HN.out
          rw [if_neg hj0] at this
          exact this
        clear hj0 HN
        go_wp2_with fail
        refine (HI.out _ HB.out.below hzj).mono ?_
        rintro e w2 ⟨rfl, hb2⟩
        have HB2 := Lib.hid (HB.out.next hb2)
        clear hb2 x0 x1 x2 x3 x4 c0 c1 c2 c3 c4
        obtain ⟨-, -, x0, x1, x2, x3, x4⟩ := HB2.out
        generalize hX : (⟨x.brac.toArray⟩ : ByteArray) = X at *
        have hXz : X.size ≤ 341000 := by rw [← hX, mk_size]; exact HZ.out
        have HXX : Hid (X.data.toList = x.brac) := by show _ = _; rw [← hX]
        clear hX
        go_wp2
        refine ⟨⟨j + 1, S ++ ⟨#[44]⟩ ++ X, hlt, rfl, by go_num, ?_, HB2.out⟩, by simp [intOf]; omega⟩
        rw [cat_list, cat_list, HS.out, HXX.out, HJ.out]
        simp
    · have HE : Hid (S ++ ⟨#[93]⟩ = ⟨BR.toArray⟩) := by
        show _ = _
        refine ext_list ?_
        rw [cat_list, HS.out, HBR.out, join_take_end _ _ _ (by rw [partsOf_length (.inl rfl)]; omega)]
        simp
      go_wp2
      go_ret
      exact ⟨by rw [← HE.out]; rfl, HB.out.below⟩

set_option maxRecDepth 100000 in
set_option maxHeartbeats 1000000 in
theorem text5 (n : Int) (s : ByteArray) (keys : List ByteArray) (kids : List RT) (ih : ∀ t ∈ kids, TextAt t) (w : World) (kv dv : Value) (FK FD : List Nat) (hK : StrsAt w kv keys FK) (hD : KidsLie w dv kids FD) (hr : (RT.node 5 n s keys kids).right = true) (hz : (RT.node 5 n s keys kids).size ≤ 200) :
    Calls Tryz.prog 90 #[.agg #[.int .i64 5, .int .i64 n, .string s, kv, dv]] w fun e w' => e = .returned (.string ⟨((RT.node 5 n s keys kids).brac).toArray⟩) ∧ Below w.heap.size w w' := by
  have hz' : sizeAll kids + 1 ≤ 200 := hz
  have HT := Lib.hid (fun i => parts_take_le hr (.inr rfl) i)
  have HK : Hid (∀ i (h : i < kids.length), kids[i].right = true) := (right_out hr).2
  have HBR : Hid ((RT.node 5 n s keys kids).brac = [123] ++ (Lib.join (partsOf 5 keys kids) [44] ++ [125])) := brac5
  have hkl : keys.length = kids.length := by
    have := (right_out hr).1
    simp only [HeadOk, RT.k, RT.n, RT.s, RT.keys, RT.kids] at this
    omega
  generalize (RT.node 5 n s keys kids).brac = BR at *
  clear hr hz
  obtain ⟨o, cap, b, off, FF, KV, DV, rfl, hlc, hcm, ho, -, hcell, hlies, -⟩ := hD
  obtain ⟨ko, kcap, kb, koff, rfl, hklc, hkcm, hko, -, hkcell, -⟩ := hK
  have HKC := Lib.hid hkcell
  have HKO := Lib.hid hko
  clear hkcell hko
  rw [hkl] at hklc ⊢
  have HX := Lib.hid (Box.start w (.int .i64 5) (.int .i64 n) (.string s) (.slice ko kids.length kcap) (.slice o kids.length cap) 27)
  have HC := Lib.hid hcell
  have HL := Lib.hid hlies
  have HO := Lib.hid ho
  clear hcell hlies ho
  unfold maxLen at hcm hkcm
  have HP : Hid ((partsOf 5 keys kids).length = kids.length) := partsOf_length (.inr hkl)
  have HKL : Hid (keys.length = kids.length) := hkl
  clear hkl
  go_enter Tryz.func90, Tryz.ntmps90
  go_wp2
  go_loopw [5, 6] (fun v q wr => ∃ (j : Nat) (S : ByteArray), j ≤ kids.length ∧ v = .string S ∧ q = .int .i64 j ∧ Hid (S.data.toList = [123] ++ Lib.join ((partsOf 5 keys kids).take j) [44] ∧ Box w wr (.int .i64 5) (.int .i64 n) (.string s) (.slice ko kids.length kcap) (.slice o kids.length cap))) (fun _ q _ => kids.length - (intOf q).toNat)
  case atStart => exact ⟨0, _, Nat.zero_le _, rfl, rfl, by simp [Lib.join_nil], HX.out⟩
  case round =>
    obtain ⟨j, S, hj, rfl, rfl, hr⟩ := hrel
    have HS : Hid (S.data.toList = [123] ++ Lib.join ((partsOf 5 keys kids).take j) [44]) := hr.out.1
    have HB := Lib.hid hr.out.2
    clear hr
    obtain ⟨-, -, x0, x1, x2, x3, x4⟩ := HB.out
    have hSz : S.size ≤ 341000 := by
      have h1 := HT.out j
      rw [size_of_list HS.out]
      simp only [List.length_append, List.length_cons, List.length_nil]
      omega
    by_cases hlt : j < kids.length
    · have ho := HO.out (by omega)
      subst ho
      have hko := HKO.out (by omega)
      subst hko
      have hlt' : (j : Int) < kids.length := by omega
      have HCJ := Lib.hid (HC.out j hlt)
      obtain ⟨⟨o1, q1, s1⟩, ⟨o2, q2, s2⟩⟩ := (HL.out j hlt).slices
      have HI := Lib.hid (fun (w1 : World) (hb1 : Below w.heap.size w w1) (hz : kids[j].size ≤ 200) => ih _ (List.getElem_mem hlt) w1 _ _ _ ((HL.out j hlt).stay hb1 (Nat.le_refl _)) (HK.out j hlt) hz)
      have hzj : kids[j].size ≤ 200 := by
        have e1 := sizeAll_take kids j hlt
        have e2 := sizeAll_take_le kids (j + 1)
        omega
      have hkj : j < keys.length := by rw [HKL.out]; exact hlt
      obtain ⟨d0, dz⟩ := HKC.out j hkj
      have HN : Hid (Lib.join ((partsOf 5 keys kids).take (j + 1)) [44] = Lib.join ((partsOf 5 keys kids).take j) [44] ++ ((if j = 0 then [] else [44]) ++ keyed keys[j] kids[j].brac)) := join_take_succ _ _ _ _ (partsOf_map j hlt hkj)
      have HQ := Lib.hid (spec_quote keys[j] dz)
      have HQZ := Lib.hid (quoteT_length keys[j])
      have d1 : wr.cell? ⟨kb, koff + j, none⟩ = some (.string keys[j]) := by
        rw [HB.out.below.cell (by exact World.block_lt_of_cell? _ _ d0)]; exact d0
      clear d0 dz
      have HZ : Hid (kids[j].brac.length ≤ 341000) := by
        have := brac_le _ (HK.out j hlt)
        show kids[j].brac.length ≤ 341000
        omega
      have hB1 : Hid (∀ ob, Below wr.heap.size wr (wr.alloc ob)) := fun ob => (Below.refl _ _).alloc (Nat.le_refl _) _
      generalize kids[j] = x at *
      generalize keys[j] = y at *
      clear hkj
      generalize KV j = v1 at *
      generalize DV j = v2 at *
      subst s1 s2
      by_cases hj0 : j = 0
      · have hj1 : ¬ (0 : Int) < (j : Int) := by omega
        have HJ : Hid (Lib.join ((partsOf 5 keys kids).take (j + 1)) [44] = Lib.join ((partsOf 5 keys kids).take j) [44] ++ keyed y x.brac) := by
          have := HN.out
          rw [if_pos hj0] at this
          show _ = _
          simpa using this
        clear hj0 HN
        go_wp2_with fail
        refine (HQ.out _).mono ?_
        rintro e w1 ⟨rfl, hb1⟩
        have HB1 := Lib.hid (HB.out.next hb1)
        obtain ⟨c0, c1, c2, c3, c4⟩ := kid_cells HCJ.out HB1.out.below
        clear hb1 x0 x1 x2 x3 x4 d1
        obtain ⟨-, -, x0, x1, x2, x3, x4⟩ := HB1.out
        generalize hY : quoteT y = Y at *
        have hYz : Y.size ≤ 802 := by have := HQZ.out; simpa using this
        have HYY : Hid (Y = quoteT y) := hY.symm
        clear hY
        go_wp2_with fail
        refine (HI.out _ HB1.out.below hzj).mono ?_
        rintro e w2 ⟨rfl, hb2⟩
        have HB2 := Lib.hid (HB1.out.next hb2)
        clear hb2 x0 x1 x2 x3 x4 c0 c1 c2 c3 c4
        obtain ⟨-, -, x0, x1, x2, x3, x4⟩ := HB2.out
        generalize hX : (⟨x.brac.toArray⟩ : ByteArray) = X at *
        have hXz : X.size ≤ 341000 := by rw [← hX, mk_size]; exact HZ.out
        have HXX : Hid (X.data.toList = x.brac) := by show _ = _; rw [← hX]
        clear hX
        go_wp2
        refine ⟨⟨j + 1, S ++ Y ++ ⟨#[58]⟩ ++ X, hlt, rfl, by go_num, ?_, HB2.out⟩, by simp [intOf]; omega⟩
        rw [cat_list, cat_list, cat_list, HS.out, HXX.out, HJ.out, HYY.out]
        simp [keyed]
      · have hj1 : (0 : Int) < (j : Int) := by omega
        have HJ : Hid (Lib.join ((partsOf 5 keys kids).take (j + 1)) [44] = Lib.join ((partsOf 5 keys kids).take j) [44] ++ ([44] ++ keyed y x.brac)) := by
          have := HN.out
          rw [if_neg hj0] at this
          exact this
        clear hj0 HN
        go_wp2_with fail
        refine (HQ.out _).mono ?_
        rintro e w1 ⟨rfl, hb1⟩
        have HB1 := Lib.hid (HB.out.next hb1)
        obtain ⟨c0, c1, c2, c3, c4⟩ := kid_cells HCJ.out HB1.out.below
        clear hb1 x0 x1 x2 x3 x4 d1
        obtain ⟨-, -, x0, x1, x2, x3, x4⟩ := HB1.out
        generalize hY : quoteT y = Y at *
        have hYz : Y.size ≤ 802 := by have := HQZ.out; simpa using this
        have HYY : Hid (Y = quoteT y) := hY.symm
        clear hY
        go_wp2_with fail
        refine (HI.out _ HB1.out.below hzj).mono ?_
        rintro e w2 ⟨rfl, hb2⟩
        have HB2 := Lib.hid (HB1.out.next hb2)
        clear hb2 x0 x1 x2 x3 x4 c0 c1 c2 c3 c4
        obtain ⟨-, -, x0, x1, x2, x3, x4⟩ := HB2.out
        generalize hX : (⟨x.brac.toArray⟩ : ByteArray) = X at *
        have hXz : X.size ≤ 341000 := by rw [← hX, mk_size]; exact HZ.out
        have HXX : Hid (X.data.toList = x.brac) := by show _ = _; rw [← hX]
        clear hX
        go_wp2
        refine ⟨⟨j + 1, S ++ ⟨#[44]⟩ ++ Y ++ ⟨#[58]⟩ ++ X, hlt, rfl, by go_num, ?_, HB2.out⟩, by simp [intOf]; omega⟩
        rw [cat_list, cat_list, cat_list, cat_list, HS.out, HXX.out, HJ.out, HYY.out]
        simp [keyed]
    · have HE : Hid (S ++ ⟨#[125]⟩ = ⟨BR.toArray⟩) := by
        show _ = _
        refine ext_list ?_
        rw [cat_list, HS.out, HBR.out, join_take_end _ _ _ (by rw [HP.out]; omega)]
        simp
      go_wp2
      go_ret
      exact ⟨by rw [← HE.out]; rfl, HB.out.below⟩

theorem spec_text (T : RT) : TextAt T := by
  induction T using RT.ind with
  | h k n s keys kids ih =>
    intro w kv dv F hl hr hz
    obtain ⟨hh, -⟩ := right_out hr
    obtain ⟨-, -, hs, FK, FD, hK, hD, -⟩ := hl.outn
    show Calls Tryz.prog 90 #[.agg #[.int .i64 k, .int .i64 n, .string s, kv, dv]] w _
    simp only [HeadOk, RT.k, RT.n, RT.s, RT.keys, RT.kids] at hh
    rcases hh with ⟨rfl, h⟩ | ⟨rfl, h⟩ | ⟨rfl, h, -⟩ | ⟨rfl, h⟩ | ⟨rfl, h⟩ | ⟨rfl, h⟩
    · rw [brac0]; exact text0 n s kv dv w
    · rw [brac1]; exact text1 n s kv dv w
    · rw [brac2]; exact text2 n s kv dv w h.1 h.2
    · rw [brac3]; exact text3 n s kv dv w hs
    · exact text4 n s keys kids ih w kv dv FD hD hr hz
    · exact text5 n s keys kids ih w kv dv FK FD hK hD hr hz

/-- What Braced answers. -/
noncomputable def bracT (T : RT) : ByteArray := if treeOk T = true then ⟨T.brac.toArray⟩ else ⟨#[]⟩

theorem treeOk_out {T : RT} (h : treeOk T = true) : T.size ≤ 200 ∧ T.right = true := by
  unfold treeOk at h
  simp only [Bool.and_eq_true, decide_eq_true_eq] at h
  exact ⟨h.1.2, h.2⟩

set_option maxRecDepth 100000 in
set_option maxHeartbeats 400000 in
theorem spec_braced (T : RT) (w : World) (kv dv : Value) (F : List Nat) (hl : Lies w T kv dv F) (hsz : T.sz ≤ 1048576) :
    Calls Tryz.prog 79 #[.agg #[.int .i64 T.k, .int .i64 T.n, .string T.s, kv, dv]] w fun e w' => e = .returned (.string (bracT T)) ∧ Below w.heap.size w w' := by
  have HX := Lib.hid (Box.start w (.int .i64 T.k) (.int .i64 T.n) (.string T.s) kv dv 27)
  have HR := Lib.hid (fun wr hb => spec_treeOk T wr kv dv F (hl.stay hb (Nat.le_refl _)) hsz)
  have HT := Lib.hid (fun wr hb => spec_text T wr kv dv F (hl.stay hb (Nat.le_refl _)))
  obtain ⟨⟨o1, c1, rfl⟩, ⟨o2, c2, rfl⟩⟩ := hl.slices
  clear hl hsz
  by_cases hok : treeOk T = true
  · have HO := Lib.hid (treeOk_out hok)
    have HE : Hid (bracT T = ⟨T.brac.toArray⟩) := if_pos hok
    rw [hok] at HR
    clear hok
    go_enter Tryz.func79, Tryz.ntmps79
    go_wp2_with (first
      | (go_at_call 7; refine (HR.out _ HX.out.below).mono ?_; rintro e w1 ⟨rfl, hb1⟩; have HX1 := Lib.hid (HX.out.next hb1); obtain ⟨-, -, x0, x1, x2, x3, x4⟩ := HX1.out; clear hb1)
      | (go_at_call 90; refine (HT.out _ HX1.out.below HO.out.2 HO.out.1).mono ?_; rintro e w2 ⟨rfl, hb2⟩; have HX2 := Lib.hid (HX1.out.next hb2); clear hb2)
      | fail)
    go_ret
    exact ⟨by rw [HE.out]; rfl, HX2.out.below⟩
  · have HE : Hid (bracT T = ⟨#[]⟩) := if_neg hok
    have hok' : treeOk T = false := by simpa using hok
    rw [hok'] at HR
    clear hok hok'
    go_enter Tryz.func79, Tryz.ntmps79
    go_wp2_with (first
      | (go_at_call 7; refine (HR.out _ HX.out.below).mono ?_; rintro e w1 ⟨rfl, hb1⟩; have HX1 := Lib.hid (HX.out.next hb1); clear hb1)
      | fail)
    go_ret
    exact ⟨by rw [HE.out]; rfl, HX1.out.below⟩
end Go.Proofs.YtelpkcbbipianaaGreat

/- plain facts for the law of two changes at once: how great a right tree is at most; Get of a map as what stands at a Key; a base's Keys are kept. -/
namespace Go.Proofs.YtelpkcbbipianaaGreat
open Go Go.RowKit

theorem text_400 {s : ByteArray} (h : textOk s = true) : s.size ≤ 400 := by
  unfold textOk at h
  simp only [Bool.and_eq_true, decide_eq_true_eq] at h
  exact h.1

set_option maxRecDepth 100000 in
theorem szAll_1000 : (l : List RT) → (∀ t ∈ l, t.sz + 402 ≤ 1000 * t.size) → szAll l + 402 * l.length ≤ 1000 * sizeAll l
  | [], _ => by simp [szAll, sizeAll]
  | t :: l, h => by
    have h1 := h t (by simp)
    have h2 := szAll_1000 l fun x hx => h x (by simp [hx])
    simp only [szAll, sizeAll, List.length_cons]
    omega

set_option maxRecDepth 100000 in
theorem right_sz (T : RT) : T.right = true → T.sz + 402 ≤ 1000 * T.size := by
  induction T using RT.ind with
  | h k n s keys kids ih =>
    intro hr
    rw [RT.right, Bool.and_eq_true, rightAll_iff] at hr
    have hk := szAll_1000 kids fun t ht => by
      obtain ⟨i, hi, rfl⟩ := List.mem_iff_getElem.1 ht
      exact ih _ ht (hr.2 i hi)
    have hh : HeadOk (.node k n s keys kids) := by
      have := hr.1
      unfold headOk at this
      simpa using this
    have e0 : (⟨#[]⟩ : ByteArray).size = 0 := rfl
    simp only [RT.sz, RT.size]
    rcases hh with h | h | h | h | h | h <;> simp only [RT.k, RT.n, RT.s, RT.keys, RT.kids] at h
    · obtain ⟨-, -, rfl, h1, h2⟩ := h
      have := List.length_eq_zero_iff.1 h1
      subst this
      simp only [strSz, e0, List.length_nil, List.map_nil, List.sum_nil]; omega
    · obtain ⟨-, -, rfl, h1, h2⟩ := h
      have := List.length_eq_zero_iff.1 h1
      subst this
      simp only [strSz, e0, List.length_nil, List.map_nil, List.sum_nil]; omega
    · obtain ⟨-, -, rfl, h1, h2⟩ := h
      have := List.length_eq_zero_iff.1 h1
      subst this
      simp only [strSz, e0, List.length_nil, List.map_nil, List.sum_nil]; omega
    · obtain ⟨-, -, ht, h1, h2⟩ := h
      have := List.length_eq_zero_iff.1 h1
      subst this
      have := text_400 ht
      simp only [strSz, List.length_nil, List.map_nil, List.sum_nil]; omega
    · obtain ⟨-, -, rfl, h1⟩ := h
      have := List.length_eq_zero_iff.1 h1
      subst this
      simp only [strSz, e0, List.length_nil, List.map_nil, List.sum_nil]; omega
    · obtain ⟨-, -, rfl, h1, h2⟩ := h
      have h3 := strSz_le 400 keys fun t ht => by
        obtain ⟨i, hi, rfl⟩ := List.mem_iff_getElem.1 ht
        have := @of_decide_eq_true _ (Classical.propDecidable _) h2 i hi
        exact text_400 this.1
      omega

theorem ok_sz {T : RT} (h : treeOk T = true) : T.sz ≤ 200000 := by
  unfold treeOk at h
  simp only [Bool.and_eq_true, decide_eq_true_eq] at h
  have := right_sz T h.2
  omega

theorem ok_map {T : RT} (h : treeOk T = true) (h5 : T.k = 5) : T.isMap := by
  obtain ⟨k, n, s, keys, kids⟩ := T
  simp only [RT.k] at h5
  subst h5
  unfold treeOk at h
  simp only [Bool.and_eq_true, decide_eq_true_eq] at h
  have hr := h.2
  rw [RT.right, Bool.and_eq_true] at hr
  have hh : HeadOk (.node 5 n s keys kids) := by
    have := hr.1
    unfold headOk at this
    simpa using this
  exact ⟨rfl, (head5.1 hh).2.2.1⟩

theorem at_first {T : RT} (hm : T.isMap) {key : ByteArray} {i : Nat} (h : FirstAt T.keys key i) : ∃ X, T.kids[i]? = some X ∧ T.at key = some X := by
  have hi : i < T.kids.length := by have := h.1; have := hm.2; omega
  obtain ⟨h1, h2⟩ := at_yes ⟨hm.1, hi, h⟩
  exact ⟨_, List.getElem?_eq_getElem h1, h2⟩

theorem at_absent {T : RT} {key : ByteArray} (h : Absent T.keys key) : T.at key = none :=
  at_no fun _ i hi _ => h i hi

theorem at_key {T : RT} (hm : T.isMap) {i : Nat} (hi : i < T.keys.length) : ∃ X, T.at T.keys[i] = some X := by
  rcases first_or T.keys T.keys[i] with ⟨j, h⟩ | h
  · obtain ⟨X, -, h⟩ := at_first hm h
    exact ⟨X, h⟩
  · exact absurd rfl (h i hi)

/-- Get of a map. -/
theorem get_at (T : RT) (hm : T.isMap) (hsz : T.sz ≤ 1048576) (key : ByteArray) (w : World) (kv dv : Value) (F : List Nat) (hl : Lies w T kv dv F) :
    Calls Tryz.prog 9 #[.agg #[.int .i64 T.k, .int .i64 T.n, .string T.s, kv, dv], .string key] w fun e w' => ∃ (R : RT) (ok : Bool) (kv' dv' : Value) (F' : List Nat), e = .returned (.tuple #[.agg #[.int .i64 R.k, .int .i64 R.n, .string R.s, kv', dv'], .bool ok]) ∧ Lies w' R kv' dv' F' ∧ Below w.heap.size w w' ∧ T.at key = (if ok = true then some R else none) := by
  rcases first_or T.keys key with ⟨i, h⟩ | h
  · obtain ⟨X, hX, ha⟩ := at_first hm h
    refine (impl_get_yes T X key i hm h hX w kv dv F hl hsz).mono ?_
    rintro e w' ⟨kv', dv', F', rfl, h1, -, h3⟩
    exact ⟨X, true, kv', dv', F', rfl, h1, h3, ha⟩
  · refine (impl_get_no T key (.inr h) w kv dv F hl).mono ?_
    rintro e w' ⟨kv', dv', F', rfl, h1, -, h3⟩
    exact ⟨.node 0 0 ⟨#[]⟩ [] [], false, kv', dv', F', rfl, h1, h3, at_absent h⟩

/-- What Merge leaves at a base's Keys. -/
def Keeps (A B C M : RT) : Prop := M.isMap ∧ ∀ key X, A.at key = some X → key ∈ A.keys → (B.at key = some X → M.at key = C.at key) ∧ (C.at key = some X → M.at key = B.at key)

end Go.Proofs.YtelpkcbbipianaaGreat

/- the model's drawing of inputs: a cursor is made, and each byte, number or choice drawn from it lies in its bounds; conditions as each theorem states. -/
namespace Go.Proofs.YtelpkcbbipianaaGreat
open Go Go.RowKit

/-- The bytes that came in. -/
def CodeAt (w : World) (a : Option Addr) (len : Nat) : Prop :=
  len ≤ 1048576 ∧ (len = 0 ∨ ∃ b off, a = some ⟨b, off, none⟩ ∧ b < w.heap.size ∧ ∀ i, i < len → ∃ z : Nat, z ≤ 255 ∧ w.cell? ⟨b, off + i, none⟩ = some (.int .u8 z))

theorem CodeAt.on {w w' : World} {a : Option Addr} {len : Nat} (h : CodeAt w a len) (hb : Below w.heap.size w w') : CodeAt w' a len := by
  obtain ⟨hl, h0 | ⟨b, off, rfl, hlt, hc⟩⟩ := h
  · exact ⟨hl, .inl h0⟩
  · refine ⟨hl, .inr ⟨b, off, rfl, Nat.lt_of_lt_of_le hlt hb.size, fun i hi => ?_⟩⟩
    obtain ⟨z, hz, hcell⟩ := hc i hi
    exact ⟨z, hz, (hb.cell (p := ⟨b, off + i, none⟩) hlt).trans hcell⟩

/-- The bytes that came in do not lie in block p. -/
def Apart (a : Option Addr) (len p : Nat) : Prop := len = 0 ∨ ∀ x, a = some x → x.block ≠ p

/-- The cursor, whole, in its block. -/
def CurAt (w : World) (p : Nat) (a : Option Addr) (len cap : Nat) : Prop :=
  ∃ (i : Nat) (h : Int), i ≤ len ∧ w.heap[p]? = some (.cells #[.slice a len cap, .int .i64 i, .int .i64 h] 57 (0, 0))

/-- Nothing but block p has turned. -/
def Only (p : Nat) (w w' : World) : Prop := w'.os = w.os ∧ w'.tape = w.tape ∧ w'.output = w.output ∧ w'.heap.size = w.heap.size ∧ ∀ k, k ≠ p → w'.heap[k]? = w.heap[k]?

theorem Only.trans {p : Nat} {a b c : World} (h : Only p a b) (k : Only p b c) : Only p a c :=
  ⟨k.1.trans h.1, k.2.1.trans h.2.1, k.2.2.1.trans h.2.2.1, k.2.2.2.1.trans h.2.2.2.1, fun i hi => (k.2.2.2.2 i hi).trans (h.2.2.2.2 i hi)⟩

theorem set_two {w : World} {p : Nat} {s v1 v2 u1 u2 : Value} {t : TypeId} (h : w.heap[p]? = some (.cells #[s, u1, u2] t (0, 0))) :
    ((w.setCell ⟨p, 2, none⟩ v2).setCell ⟨p, 1, none⟩ v1).heap[p]? = some (.cells #[s, v1, v2] t (0, 0)) := by
  simp [World.setCell, Array.getElem?_modify, h]
theorem set_one {w : World} {p : Nat} {s v2 u1 u2 : Value} {t : TypeId} (h : w.heap[p]? = some (.cells #[s, u1, u2] t (0, 0))) :
    (w.setCell ⟨p, 2, none⟩ v2).heap[p]? = some (.cells #[s, u1, v2] t (0, 0)) := by
  simp [World.setCell, Array.getElem?_modify, h]
theorem only_set (w : World) (p o : Nat) (v : Value) : Only p w (w.setCell ⟨p, o, none⟩ v) :=
  ⟨rfl, rfl, rfl, by simp [World.setCell], fun k hk => by simp [World.setCell, Array.getElem?_modify, Ne.symm hk]⟩

theorem and_byte (n : Int) : ∃ x : Nat, x ≤ 255 ∧ bits .and .i64 n 255 = (x : Int) := by
  have h255 : (BitVec.ofInt 64 255).toNat = 2 ^ 8 - 1 := by decide
  have key : (BitVec.ofInt 64 n &&& BitVec.ofInt 64 255).toNat = (n % ((2 ^ 64 : Nat) : Int)).toNat % 2 ^ 8 := by
    rw [BitVec.toNat_and, BitVec.toNat_ofInt, h255, Nat.and_two_pow_sub_one_eq_mod]
  refine ⟨(n % ((2 ^ 64 : Nat) : Int)).toNat % 2 ^ 8, by omega, ?_⟩
  show IntKind.i64.wrap ((BitVec.ofInt 64 n &&& BitVec.ofInt 64 255).toNat : Nat) = _
  rw [key, IntKind.wrap_i64]
  omega

set_option maxHeartbeats 400000 in
theorem byte_more (a : Option Addr) (len cap p : Nat) (w : World) (i : Nat) (h : Int) (hi : i < len) (hcur : w.heap[p]? = some (.cells #[.slice a len cap, .int .i64 i, .int .i64 h] 57 (0, 0))) (hcode : CodeAt w a len) (hne : Apart a len p) :
    Calls Tryz.prog 42 #[.pointer (some ⟨p, 0, none⟩)] w fun e w' => (∃ x : Nat, x ≤ 255 ∧ e = .returned (.int .i64 x)) ∧ CurAt w' p a len cap ∧ Only p w w' := by
  obtain ⟨hl, h0 | ⟨b, off, rfl, hlt, hc⟩⟩ := hcode
  · omega
  obtain ⟨z, hz, hcell⟩ := hc i hi
  have hbp : b ≠ p := by
    rcases hne with h0 | hne
    · omega
    · exact hne _ rfl
  have c0 : w.cell? ⟨p, 0, none⟩ = some (.slice (some ⟨b, off, none⟩) len cap) := by simp [World.cell?, hcur]
  have c1 : w.cell? ⟨p, 1, none⟩ = some (.int .i64 i) := by simp [World.cell?, hcur]
  have c2 : w.cell? ⟨p, 2, none⟩ = some (.int .i64 h) := by simp [World.cell?, hcur]
  have f1 : w.frozen? ⟨p, 1, none⟩ = false := by simp [World.frozen?, hcur]
  have f2 : w.frozen? ⟨p, 2, none⟩ = false := by simp [World.frozen?, hcur]
  have H : Hid (w.heap[p]? = some (.cells #[.slice (some ⟨b, off, none⟩) len cap, .int .i64 i, .int .i64 h] 57 (0, 0))) := hcur
  have hcell' : ∀ v, (w.setCell ⟨p, 2, none⟩ v).cell? ⟨b, off + i, none⟩ = some (.int .u8 (z : Int)) := fun v => (World.cell?_setCell_other w _ _ v (by simp)).trans hcell
  clear hcur hc
  go_enter Tryz.func42, Tryz.ntmps42
  go_wp2
  go_quiet (fail)
  generalize wrap64 (wrap64 (h * 6364136223846793005) + 1442695040888963407) = h1
  generalize bits BinOp.xor IntKind.i64 (h1 / 8589934592) (h1 / 35184372088832) = y
  obtain ⟨x, hx, hy⟩ := and_byte y
  rw [hy]
  clear hy
  go_wp2
  go_quiet (fail)
  go_wp2
  go_quiet (fail)
  obtain ⟨x2, hx2, hy2⟩ := and_byte (x + z)
  rw [hy2]
  clear hy2
  go_wp2
  go_ret
  refine ⟨⟨x2, hx2, rfl⟩, ⟨i + 1, h1, hi, ?_⟩, ?_⟩
  · exact set_two H.out
  · exact (only_set w p 2 _).trans (only_set _ p 1 _)

set_option maxHeartbeats 400000 in
theorem byte_none (a : Option Addr) (len cap p : Nat) (w : World) (i : Nat) (h : Int) (_hl : len ≤ 1048576) (hi : ¬ i < len) (hil : i ≤ len) (hcur : w.heap[p]? = some (.cells #[.slice a len cap, .int .i64 i, .int .i64 h] 57 (0, 0))) :
    Calls Tryz.prog 42 #[.pointer (some ⟨p, 0, none⟩)] w fun e w' => (∃ x : Nat, x ≤ 255 ∧ e = .returned (.int .i64 x)) ∧ CurAt w' p a len cap ∧ Only p w w' := by
  have c0 : w.cell? ⟨p, 0, none⟩ = some (.slice a len cap) := by simp [World.cell?, hcur]
  have c1 : w.cell? ⟨p, 1, none⟩ = some (.int .i64 i) := by simp [World.cell?, hcur]
  have c2 : w.cell? ⟨p, 2, none⟩ = some (.int .i64 h) := by simp [World.cell?, hcur]
  have f2 : w.frozen? ⟨p, 2, none⟩ = false := by simp [World.frozen?, hcur]
  have H : Hid (w.heap[p]? = some (.cells #[.slice a len cap, .int .i64 i, .int .i64 h] 57 (0, 0))) := hcur
  clear hcur
  go_enter Tryz.func42, Tryz.ntmps42
  go_wp2
  go_quiet (fail)
  generalize wrap64 (wrap64 (h * 6364136223846793005) + 1442695040888963407) = h1
  generalize bits BinOp.xor IntKind.i64 (h1 / 8589934592) (h1 / 35184372088832) = y
  obtain ⟨x, hx, hy⟩ := and_byte y
  rw [hy]
  clear hy
  go_wp2
  go_quiet (fail)
  go_wp2
  go_ret
  exact ⟨⟨x, hx, rfl⟩, ⟨i, h1, hil, set_one H.out⟩, only_set w p 2 _⟩

/-- A byte is drawn. -/
theorem byte_any (a : Option Addr) (len cap p : Nat) (w : World) (hcur : CurAt w p a len cap) (hcode : CodeAt w a len) (hne : Apart a len p) :
    Calls Tryz.prog 42 #[.pointer (some ⟨p, 0, none⟩)] w fun e w' => (∃ x : Nat, x ≤ 255 ∧ e = .returned (.int .i64 x)) ∧ CurAt w' p a len cap ∧ Only p w w' := by
  obtain ⟨i, h, hil, hc⟩ := hcur
  by_cases hi : i < len
  · exact byte_more a len cap p w i h hi hc hcode hne
  · exact byte_none a len cap p w i h hcode.1 hi hil hc

theorem CodeAt.only {p : Nat} {w w' : World} {a : Option Addr} {len : Nat} (h : CodeAt w a len) (hne : Apart a len p) (ho : Only p w w') : CodeAt w' a len := by
  obtain ⟨hl, h0 | ⟨b, off, rfl, hlt, hc⟩⟩ := h
  · exact ⟨hl, .inl h0⟩
  · rcases hne with h0 | hne
    · exact ⟨hl, .inl h0⟩
    refine ⟨hl, .inr ⟨b, off, rfl, by rw [ho.2.2.2.1]; exact hlt, fun i hi => ?_⟩⟩
    obtain ⟨z, hz, hcell⟩ := hc i hi
    exact ⟨z, hz, (World.cell?_of_block (w := w) (a := ⟨b, off + i, none⟩) (ho.2.2.2.2 b (hne _ rfl))).trans hcell⟩

theorem Only.cell {p : Nat} {w w' : World} (h : Only p w w') {x : Addr} (hx : x.block ≠ p) : w'.cell? x = w.cell? x := World.cell?_of_block (w := w) (h.2.2.2.2 x.block hx)

set_option maxHeartbeats 400000 in
/-- A number below n is drawn, n at most 256. -/
theorem below_any (n : Nat) (h1 : 1 ≤ n) (hn : n ≤ 256) (a : Option Addr) (len cap p : Nat) (w : World) (hcur : CurAt w p a len cap) (hcode : CodeAt w a len) (hne : Apart a len p) :
    Calls Tryz.prog 24 #[.pointer (some ⟨p, 0, none⟩), .int .i64 n] w fun e w' => (∃ r : Nat, r < n ∧ e = .returned (.int .i64 r)) ∧ CurAt w' p a len cap ∧ Only p w w' := by
  have hz : ((n : Int) == 0) = false := by simp; omega
  go_enter Tryz.func24, Tryz.ntmps24
  go_wp2_with (go_at_call 42; refine (byte_any a len cap p _ hcur hcode hne).mono ?_; rintro e w1 ⟨⟨x, hx, rfl⟩, hc1, ho1⟩)
  go_ret
  exact ⟨⟨x % n, Nat.mod_lt _ h1, by go_num⟩, hc1, ho1⟩

set_option maxHeartbeats 400000 in
/-- One of a list's ints is picked. -/
theorem pickInt_any (Q : Int → Prop) (n c q : Nat) (h1 : 1 ≤ n) (hn : n ≤ 256) (a : Option Addr) (len cap p : Nat) (w : World) (hcur : CurAt w p a len cap) (hcode : CodeAt w a len) (hne : Apart a len p) (hq : q ≠ p)
    (hlist : ∀ i, i < n → ∃ v : Int, Q v ∧ w.cell? ⟨q, i, none⟩ = some (.int .i64 v)) :
    Calls Tryz.prog 43 #[.pointer (some ⟨p, 0, none⟩), .slice (some ⟨q, 0, none⟩) n c] w fun e w' => (∃ v : Int, Q v ∧ e = .returned (.int .i64 v)) ∧ CurAt w' p a len cap ∧ Only p w w' := by
  have HL := Lib.hid hlist
  clear hlist
  go_enter Tryz.func43, Tryz.ntmps43
  go_wp2_with (go_at_call 24; refine (below_any n h1 hn a len cap p _ hcur hcode hne).mono ?_; rintro e w1 ⟨⟨r, hr, rfl⟩, hc1, ho1⟩; obtain ⟨v, hv, hcv⟩ := HL.out r hr; have hcw := (ho1.cell (x := ⟨q, r, none⟩) hq).trans hcv)
  go_ret
  exact ⟨⟨v, hv, rfl⟩, hc1, ho1⟩

set_option maxHeartbeats 400000 in
/-- One of a list's texts is picked. -/
theorem pick_any (Q : ByteArray → Prop) (n c q : Nat) (h1 : 1 ≤ n) (hn : n ≤ 256) (a : Option Addr) (len cap p : Nat) (w : World) (hcur : CurAt w p a len cap) (hcode : CodeAt w a len) (hne : Apart a len p) (hq : q ≠ p)
    (hlist : ∀ i, i < n → ∃ v : ByteArray, Q v ∧ w.cell? ⟨q, i, none⟩ = some (.string v)) :
    Calls Tryz.prog 44 #[.pointer (some ⟨p, 0, none⟩), .slice (some ⟨q, 0, none⟩) n c] w fun e w' => (∃ v : ByteArray, Q v ∧ e = .returned (.string v)) ∧ CurAt w' p a len cap ∧ Only p w w' := by
  have HL := Lib.hid hlist
  clear hlist
  go_enter Tryz.func44, Tryz.ntmps44
  go_wp2_with (go_at_call 24; refine (below_any n h1 hn a len cap p _ hcur hcode hne).mono ?_; rintro e w1 ⟨⟨r, hr, rfl⟩, hc1, ho1⟩; obtain ⟨v, hv, hcv⟩ := HL.out r hr; have hcw := (ho1.cell (x := ⟨q, r, none⟩) hq).trans hcv)
  go_ret
  exact ⟨⟨v, hv, rfl⟩, hc1, ho1⟩

set_option maxHeartbeats 400000 in
/-- A cursor over the code is made. -/
theorem new_any (a : Option Addr) (len cap : Nat) (w : World) (hcode : CodeAt w a len) :
    Calls Tryz.prog 21 #[.slice a len cap] w fun e w' => e = .returned (.pointer (some ⟨w.heap.size, 0, none⟩)) ∧ ∃ h : Int, w' = w.alloc (.cells #[.slice a len cap, .int .i64 0, .int .i64 h] 57) := by
  obtain ⟨hl, hc⟩ := hcode
  have HC := Lib.hid hc
  clear hc
  go_enter Tryz.func21, Tryz.ntmps21
  go_wp2
  go_loop [3, 4] (fun t o => ∃ (h : Int) (k : Nat), k ≤ len ∧ t = .int .i64 h ∧ o = .int .i64 k) (fun _ o => len - (intOf o).toNat)
  case atStart => exact ⟨_, 0, Nat.zero_le _, rfl, rfl⟩
  case round =>
    obtain ⟨h, k, hk, rfl, rfl⟩ := hrel
    by_cases hlt : k < len
    · by_cases h4 : (k : Int) < 4000
      · obtain h0 | ⟨b, off, ha, hb, hcell⟩ := HC.out
        · omega
        obtain ⟨z, hz, hzc⟩ := hcell k hlt
        clear hcell
        subst ha
        go_wp2
        go_round
        case rel => exact ⟨_, k + 1, hlt, rfl, by go_num⟩
        case measure => simp [intOf]; omega
      · go_wp2
        go_ret
        exact ⟨rfl, h, rfl⟩
    · go_wp2
      go_ret
      exact ⟨rfl, h, rfl⟩

theorem CurAt.lt {w : World} {p : Nat} {a : Option Addr} {len cap : Nat} (h : CurAt w p a len cap) : p < w.heap.size := by
  obtain ⟨i, x, hi, hc⟩ := h
  rcases Nat.lt_or_ge p w.heap.size with h | h
  · exact h
  · rw [Array.getElem?_eq_none h] at hc; cases hc

theorem cur_new (w : World) (a : Option Addr) (len cap : Nat) (h : Int) : CurAt (w.alloc (.cells #[.slice a len cap, .int .i64 0, .int .i64 h] 57)) w.heap.size a len cap :=
  ⟨0, h, Nat.zero_le _, by show (w.heap.push _)[w.heap.size]? = _; simp⟩

theorem CodeAt.apart {w : World} {a : Option Addr} {len p : Nat} (h : CodeAt w a len) (hp : w.heap.size ≤ p) : Apart a len p := by
  obtain ⟨_, h0 | ⟨b, off, rfl, hlt, _⟩⟩ := h
  · exact .inl h0
  · refine .inr fun x hx => ?_
    cases hx
    show b ≠ p
    omega

theorem list_at {α : Type} {Q : α → Prop} {f : α → Value} {xs : List α} (hQ : ∀ v ∈ xs, Q v) (w : World) (t : TypeId) {q : Nat} (hq : q = w.heap.size) (i : Nat) (hi : i < xs.length) :
    ∃ v : α, Q v ∧ (w.alloc (.cells (xs.map f).toArray t)).cell? ⟨q, i, none⟩ = some (f v) := by
  subst hq
  refine ⟨xs[i], hQ _ (List.getElem_mem hi), ?_⟩
  rw [World.cell?_alloc_mark]
  simp [hi]

end Go.Proofs.YtelpkcbbipianaaGreat

/- plain facts on a measure of a tree that is not less than its room and not less than what a right tree is written as in braces. -/
namespace Go.Proofs.YtelpkcbbipianaaGreat
open Go Go.RowKit

mutual
/-- A measure: 21 for a node, its bytes twice, its keys' bytes twice and 4 more, 1 for a kid. -/
def RT.wz : RT → Nat
  | .node _ _ s keys kids => 21 + 2 * s.size + (4 * keys.length + 2 * strSz keys) + (kids.length + wzAll kids)
def wzAll : List RT → Nat
  | [] => 0
  | t :: ts => t.wz + wzAll ts
end

theorem wz_sz (T : RT) : T.sz ≤ T.wz := by
  induction T using RT.ind with
  | h k n s keys kids ih =>
    have h : ∀ l : List RT, (∀ t ∈ l, t.sz ≤ t.wz) → szAll l ≤ wzAll l := by
      intro l hl
      induction l with
      | nil => simp [szAll]
      | cons t l ihl =>
        have h1 := hl t (by simp)
        have h2 := ihl (fun x hx => hl x (by simp [hx]))
        simp only [szAll, wzAll]
        omega
    have := h kids ih
    simp only [RT.wz, RT.sz]
    omega

theorem wzAll_append (a b : List RT) : wzAll (a ++ b) = wzAll a + wzAll b := by
  induction a with
  | nil => simp [wzAll]
  | cons t l ih => simp only [List.cons_append, wzAll, ih]; omega

theorem wzAll_set (X : RT) : (l : List RT) → (i : Nat) → wzAll (l.set i X) ≤ wzAll l + X.wz
  | [], _ => by simp [wzAll]
  | t :: l, 0 => by simp only [List.set_cons_zero, wzAll]; omega
  | t :: l, i + 1 => by
    have := wzAll_set X l i
    simp only [List.set_cons_succ, wzAll]; omega

theorem wzAll_put (X : RT) : (l : List RT) → (i : Nat) → (h : i < l.length) → wzAll (l.set i X) + l[i].wz = wzAll l + X.wz
  | [], _, h => by simp at h
  | t :: l, 0, _ => by simp only [List.set_cons_zero, wzAll, List.getElem_cons_zero]; omega
  | t :: l, i + 1, h => by
    have := wzAll_put X l i (by simpa using h)
    simp only [List.set_cons_succ, wzAll, List.getElem_cons_succ]; omega

theorem setT_wz (T X : RT) (key : ByteArray) : (setT T key X).wz ≤ T.wz + X.wz + 2 * key.size + 5 := by
  obtain ⟨k, n, s, keys, kids⟩ := T
  unfold setT
  split
  · rename_i hm
    have hlen : keys.length = kids.length := hm.2
    split
    · have := wzAll_set X kids (firstN keys key)
      simp only [RT.wz, RT.kids, RT.keys, RT.s, List.length_set]
      omega
    · have e := wzAll_append (kids.take (placeN keys key)) (kids.drop (placeN keys key))
      rw [List.take_append_drop] at e
      have e2 := strSz_append (keys.take (placeN keys key)) (keys.drop (placeN keys key))
      rw [List.take_append_drop] at e2
      have hl := insAt_length key (placeN_le keys key)
      have hl2 := insAt_length (l := kids) X (show placeN keys key ≤ kids.length by have := placeN_le keys key; omega)
      simp only [RT.wz, RT.kids, RT.keys, RT.s, hl, hl2]
      have e3 : strSz (key :: keys.drop (placeN keys key)) = key.size + strSz (keys.drop (placeN keys key)) := by simp [strSz]
      simp only [insAt, wzAll_append, strSz_append, wzAll, e3]
      omega
  · omega

theorem wzAll_mem : (l : List RT) → (t : RT) → t ∈ l → t.wz ≤ wzAll l
  | [], _, h => absurd h (by simp)
  | x :: l, t, h => by
    rcases List.mem_cons.1 h with e | e
    · rw [e, wzAll]; omega
    · have := wzAll_mem l t e
      rw [wzAll]; omega

theorem kid_wz (N : RT) (i : Nat) (hi : i < N.kids.length) : N.kids[i].wz ≤ N.wz := by
  obtain ⟨k, n, s, keys, kids⟩ := N
  have h : kids[i].wz ≤ wzAll kids := wzAll_mem kids _ (List.getElem_mem hi)
  simp only [RT.wz, RT.kids] at h ⊢
  omega

/-- A kid is turned into another. -/
theorem kids_wz (N X : RT) (i : Nat) (hi : i < N.kids.length) : (RT.node N.k N.n N.s N.keys (N.kids.set i X)).wz + N.kids[i].wz = N.wz + X.wz := by
  obtain ⟨k, n, s, keys, kids⟩ := N
  have := wzAll_put X kids i hi
  simp only [RT.wz, RT.kids, RT.keys, RT.s, List.length_set]
  omega
end Go.Proofs.YtelpkcbbipianaaGreat
