/-
  What is proved: the model's Braced, at every tree: empty when it is not right; else what its parts are written as.
-/
import Derived.Test.YtlghcjihncmaiaaDoorBrac
import Derived.Test.YtlghcjihncmaiaaDoorDigitsW
namespace Go.Proofs.YtlghcjihncmaiaaDoor
open Go Go.RowKit

/-- A text of these bytes. -/
def txt (l : List UInt8) : Value := .string ⟨l.toArray⟩

def TextAt (T : RT) : Prop := ∀ (w : World) (kv dv : Value) (F : List Nat), Lies w T kv dv F → T.right = true → T.size ≤ 200 →
  Calls Tryd.prog 40 #[.agg #[.int .i64 T.k, .int .i64 T.n, .string T.s, kv, dv]] w fun e w' => e = .returned (.string ⟨T.brac.toArray⟩) ∧ Below w.heap.size w w'

section
variable (n : Int) (s : ByteArray) (kv dv : Value) (w : World)

set_option maxHeartbeats 400000 in
theorem text0 : Calls Tryd.prog 40 #[.agg #[.int .i64 0, .int .i64 n, .string s, kv, dv]] w fun e w' => e = .returned (.string ⟨#[110, 117, 108, 108]⟩) ∧ Below w.heap.size w w' := by
  go_enter Tryd.func40, Tryd.ntmps40
  go_wp2
  go_ret
  exact ⟨rfl, (Below.refl _ w).alloc (Nat.le_refl _) _⟩

set_option maxHeartbeats 400000 in
theorem text1 : Calls Tryd.prog 40 #[.agg #[.int .i64 1, .int .i64 n, .string s, kv, dv]] w fun e w' => e = .returned (.string ⟨(if n = 1 then [116, 114, 117, 101] else [102, 97, 108, 115, 101] : List UInt8).toArray⟩) ∧ Below w.heap.size w w' := by
  by_cases h : n = 1
  · rw [if_pos h]
    subst h
    go_enter Tryd.func40, Tryd.ntmps40
    go_wp2
    go_ret
    exact ⟨rfl, (Below.refl _ w).alloc (Nat.le_refl _) _⟩
  · rw [if_neg h]
    go_enter Tryd.func40, Tryd.ntmps40
    go_wp2
    go_ret
    exact ⟨rfl, (Below.refl _ w).alloc (Nat.le_refl _) _⟩

set_option maxHeartbeats 400000 in
theorem text2 (h0 : -1000000000000 ≤ n) (h1 : n ≤ 1000000000000) : Calls Tryd.prog 40 #[.agg #[.int .i64 2, .int .i64 n, .string s, kv, dv]] w fun e w' => e = .returned (.string ⟨(Lib.itoa n).toArray⟩) ∧ Below w.heap.size w w' := by
  have HX := Lib.hid (Box.start w (.int .i64 2) (.int .i64 n) (.string s) kv dv 30)
  have HD := Lib.hid (spec_digits n (by omega) (by omega))
  clear h0 h1
  go_enter Tryd.func40, Tryd.ntmps40
  go_wp2_with (first
    | (go_at_call 48; refine (HD.out _).mono ?_; rintro e w1 ⟨rfl, hb1⟩; have HB := Lib.hid (HX.out.next hb1).below; clear hb1)
    | fail)
  go_ret
  exact ⟨rfl, HB.out⟩

set_option maxHeartbeats 400000 in
theorem text3 (hs : s.size ≤ maxLen) : Calls Tryd.prog 40 #[.agg #[.int .i64 3, .int .i64 n, .string s, kv, dv]] w fun e w' => e = .returned (.string (quoteT s)) ∧ Below w.heap.size w w' := by
  have HX := Lib.hid (Box.start w (.int .i64 3) (.int .i64 n) (.string s) kv dv 30)
  have HD := Lib.hid (spec_quote s hs)
  go_enter Tryd.func40, Tryd.ntmps40
  go_wp2_with (first
    | (go_at_call 26; refine (HD.out _).mono ?_; rintro e w1 ⟨rfl, hb1⟩; have HB := Lib.hid (HX.out.next hb1).below; clear hb1)
    | fail)
  go_ret
  exact ⟨rfl, HB.out⟩
end

theorem cat_list (A B : ByteArray) : (A ++ B).data.toList = A.data.toList ++ B.data.toList := by simp
theorem ext_list {A : ByteArray} {l : List UInt8} (h : A.data.toList = l) : A = ⟨l.toArray⟩ := by rw [← h]
theorem mk_size (l : List UInt8) : (⟨l.toArray⟩ : ByteArray).size = l.length := rfl
theorem size_of_list {S : ByteArray} {l : List UInt8} (h : S.data.toList = l) : S.size = l.length := by rw [← h]; simp

set_option maxRecDepth 100000 in
set_option maxHeartbeats 1000000 in
theorem text4 (n : Int) (s : ByteArray) (keys : List ByteArray) (kids : List RT) (ih : ∀ t ∈ kids, TextAt t) (w : World) (kv dv : Value) (FD : List Nat) (hD : KidsLie w dv kids FD) (hr : (RT.node 4 n s keys kids).right = true) (hz : (RT.node 4 n s keys kids).size ≤ 200) :
    Calls Tryd.prog 40 #[.agg #[.int .i64 4, .int .i64 n, .string s, kv, dv]] w fun e w' => e = .returned (.string ⟨((RT.node 4 n s keys kids).brac).toArray⟩) ∧ Below w.heap.size w w' := by
  have hz' : sizeAll kids + 1 ≤ 200 := hz
  have HT := Lib.hid (fun i => parts_take_le hr (.inl rfl) i)
  have HK : Hid (∀ i (h : i < kids.length), kids[i].right = true) := (right_out hr).2
  have HBR : Hid ((RT.node 4 n s keys kids).brac = [91] ++ (Lib.join (partsOf 4 keys kids) [44] ++ [93])) := brac4
  generalize (RT.node 4 n s keys kids).brac = BR at *
  clear hr hz
  obtain ⟨o, cap, b, off, FF, KV, DV, rfl, hlc, hcm, ho, -, hcell, hlies, -⟩ := hD
  have HX := Lib.hid (Box.start w (.int .i64 4) (.int .i64 n) (.string s) kv (.slice o kids.length cap) 30)
  have HC := Lib.hid hcell
  have HL := Lib.hid hlies
  have HO := Lib.hid ho
  clear hcell hlies ho
  unfold maxLen at hcm
  go_enter Tryd.func40, Tryd.ntmps40
  go_wp2
  go_loopw [5, 6] (fun v q wr => ∃ (j : Nat) (S : ByteArray), j ≤ kids.length ∧ v = .string S ∧ q = .int .i64 j ∧ Hid (S.data.toList = [91] ++ Lib.join ((partsOf 4 keys kids).take j) [44] ∧ Box w wr (.int .i64 4) (.int .i64 n) (.string s) kv (.slice o kids.length cap))) (fun _ q _ => kids.length - (intOf q).toNat)
  case atStart => exact ⟨0, _, Nat.zero_le _, rfl, rfl, by simp [Lib.join_nil], HX.out⟩
  case round =>
    obtain ⟨j, S, hj, rfl, rfl, hr⟩ := hrel
    have HS : Hid (S.data.toList = [91] ++ Lib.join ((partsOf 4 keys kids).take j) [44]) := hr.out.1
    have HB := Lib.hid hr.out.2
    clear hr
    obtain ⟨-, -, x0, x1, x2, x3, x4⟩ := HB.out
    have hSz : S.size ≤ 341000 := by
      have h1 := HT.out j
      rw [size_of_list HS.out]
      simp only [List.length_append, List.length_cons, List.length_nil]
      omega
    by_cases hlt : j < kids.length
    · have ho := HO.out (by omega)
      subst ho
      have hlt' : (j : Int) < kids.length := by omega
      obtain ⟨c0, c1, c2, c3, c4⟩ := kid_cells (HC.out j hlt) HB.out.below
      obtain ⟨⟨o1, q1, s1⟩, ⟨o2, q2, s2⟩⟩ := (HL.out j hlt).slices
      have HI := Lib.hid (fun (w1 : World) (hb1 : Below w.heap.size w w1) (hz : kids[j].size ≤ 200) => ih _ (List.getElem_mem hlt) w1 _ _ _ ((HL.out j hlt).stay hb1 (Nat.le_refl _)) (HK.out j hlt) hz)
      have hzj : kids[j].size ≤ 200 := by
        have e1 := sizeAll_take kids j hlt
        have e2 := sizeAll_take_le kids (j + 1)
        omega
      have HN : Hid (Lib.join ((partsOf 4 keys kids).take (j + 1)) [44] = Lib.join ((partsOf 4 keys kids).take j) [44] ++ ((if j = 0 then [] else [44]) ++ kids[j].brac)) := join_take_succ _ _ _ _ (partsOf_list j hlt)
      have HZ : Hid (kids[j].brac.length ≤ 341000) := by
        have := brac_le _ (HK.out j hlt)
        show kids[j].brac.length ≤ 341000
        omega
      have hB1 : Hid (∀ ob, Below wr.heap.size wr (wr.alloc ob)) := fun ob => (Below.refl _ _).alloc (Nat.le_refl _) _
      generalize kids[j] = x at *
      generalize KV j = v1 at *
      generalize DV j = v2 at *
      subst s1 s2
      by_cases hj0 : j = 0
      · have hj1 : ¬ (0 : Int) < (j : Int) := by omega
        have HJ : Hid (Lib.join ((partsOf 4 keys kids).take (j + 1)) [44] = Lib.join ((partsOf 4 keys kids).take j) [44] ++ x.brac) := by
          have := HN.out
          rw [if_pos hj0] at this
          show _ = _
          simpa using this
        clear hj0 HN
        go_wp2_with fail
        refine (HI.out _ HB.out.below hzj).mono ?_
        rintro e w2 ⟨rfl, hb2⟩
        have HB2 := Lib.hid (HB.out.next hb2)
        clear hb2 x0 x1 x2 x3 x4 c0 c1 c2 c3 c4
        obtain ⟨-, -, x0, x1, x2, x3, x4⟩ := HB2.out
        generalize hX : (⟨x.brac.toArray⟩ : ByteArray) = X at *
        have hXz : X.size ≤ 341000 := by rw [← hX, mk_size]; exact HZ.out
        have HXX : Hid (X.data.toList = x.brac) := by show _ = _; rw [← hX]
        clear hX
        go_wp2
        refine ⟨⟨j + 1, S ++ X, hlt, rfl, by go_num, ?_, HB2.out⟩, by simp [intOf]; omega⟩
        rw [cat_list, HS.out, HXX.out, HJ.out, List.append_assoc]
      · have hj1 : (0 : Int) < (j : Int) := by omega
        have HJ : Hid (Lib.join ((partsOf 4 keys kids).take (j + 1)) [44] = Lib.join ((partsOf 4 keys kids).take j) [44] ++ ([44] ++ x.brac)) := by
          have := HN.out
          rw [if_neg hj0] at this
          exact this
        clear hj0 HN
        go_wp2_with fail
        refine (HI.out _ HB.out.below hzj).mono ?_
        rintro e w2 ⟨rfl, hb2⟩
        have HB2 := Lib.hid (HB.out.next hb2)
        clear hb2 x0 x1 x2 x3 x4 c0 c1 c2 c3 c4
        obtain ⟨-, -, x0, x1, x2, x3, x4⟩ := HB2.out
        generalize hX : (⟨x.brac.toArray⟩ : ByteArray) = X at *
        have hXz : X.size ≤ 341000 := by rw [← hX, mk_size]; exact HZ.out
        have HXX : Hid (X.data.toList = x.brac) := by show _ = _; rw [← hX]
        clear hX
        go_wp2
        refine ⟨⟨j + 1, S ++ ⟨#[44]⟩ ++ X, hlt, rfl, by go_num, ?_, HB2.out⟩, by simp [intOf]; omega⟩
        rw [cat_list, cat_list, HS.out, HXX.out, HJ.out]
        simp
    · have HE : Hid (S ++ ⟨#[93]⟩ = ⟨BR.toArray⟩) := by
        show _ = _
        refine ext_list ?_
        rw [cat_list, HS.out, HBR.out, join_take_end _ _ _ (by rw [partsOf_length (.inl rfl)]; omega)]
        simp
      go_wp2
      go_ret
      exact ⟨by rw [← HE.out]; rfl, HB.out.below⟩

set_option maxRecDepth 100000 in
set_option maxHeartbeats 1000000 in
theorem text5 (n : Int) (s : ByteArray) (keys : List ByteArray) (kids : List RT) (ih : ∀ t ∈ kids, TextAt t) (w : World) (kv dv : Value) (FK FD : List Nat) (hK : StrsAt w kv keys FK) (hD : KidsLie w dv kids FD) (hr : (RT.node 5 n s keys kids).right = true) (hz : (RT.node 5 n s keys kids).size ≤ 200) :
    Calls Tryd.prog 40 #[.agg #[.int .i64 5, .int .i64 n, .string s, kv, dv]] w fun e w' => e = .returned (.string ⟨((RT.node 5 n s keys kids).brac).toArray⟩) ∧ Below w.heap.size w w' := by
  have hz' : sizeAll kids + 1 ≤ 200 := hz
  have HT := Lib.hid (fun i => parts_take_le hr (.inr rfl) i)
  have HK : Hid (∀ i (h : i < kids.length), kids[i].right = true) := (right_out hr).2
  have HBR : Hid ((RT.node 5 n s keys kids).brac = [123] ++ (Lib.join (partsOf 5 keys kids) [44] ++ [125])) := brac5
  have hkl : keys.length = kids.length := by
    have := (right_out hr).1
    simp only [HeadOk, RT.k, RT.n, RT.s, RT.keys, RT.kids] at this
    omega
  generalize (RT.node 5 n s keys kids).brac = BR at *
  clear hr hz
  obtain ⟨o, cap, b, off, FF, KV, DV, rfl, hlc, hcm, ho, -, hcell, hlies, -⟩ := hD
  obtain ⟨ko, kcap, kb, koff, rfl, hklc, hkcm, hko, -, hkcell, -⟩ := hK
  have HKC := Lib.hid hkcell
  have HKO := Lib.hid hko
  clear hkcell hko
  rw [hkl] at hklc ⊢
  have HX := Lib.hid (Box.start w (.int .i64 5) (.int .i64 n) (.string s) (.slice ko kids.length kcap) (.slice o kids.length cap) 30)
  have HC := Lib.hid hcell
  have HL := Lib.hid hlies
  have HO := Lib.hid ho
  clear hcell hlies ho
  unfold maxLen at hcm hkcm
  have HP : Hid ((partsOf 5 keys kids).length = kids.length) := partsOf_length (.inr hkl)
  have HKL : Hid (keys.length = kids.length) := hkl
  clear hkl
  go_enter Tryd.func40, Tryd.ntmps40
  go_wp2
  go_loopw [5, 6] (fun v q wr => ∃ (j : Nat) (S : ByteArray), j ≤ kids.length ∧ v = .string S ∧ q = .int .i64 j ∧ Hid (S.data.toList = [123] ++ Lib.join ((partsOf 5 keys kids).take j) [44] ∧ Box w wr (.int .i64 5) (.int .i64 n) (.string s) (.slice ko kids.length kcap) (.slice o kids.length cap))) (fun _ q _ => kids.length - (intOf q).toNat)
  case atStart => exact ⟨0, _, Nat.zero_le _, rfl, rfl, by simp [Lib.join_nil], HX.out⟩
  case round =>
    obtain ⟨j, S, hj, rfl, rfl, hr⟩ := hrel
    have HS : Hid (S.data.toList = [123] ++ Lib.join ((partsOf 5 keys kids).take j) [44]) := hr.out.1
    have HB := Lib.hid hr.out.2
    clear hr
    obtain ⟨-, -, x0, x1, x2, x3, x4⟩ := HB.out
    have hSz : S.size ≤ 341000 := by
      have h1 := HT.out j
      rw [size_of_list HS.out]
      simp only [List.length_append, List.length_cons, List.length_nil]
      omega
    by_cases hlt : j < kids.length
    · have ho := HO.out (by omega)
      subst ho
      have hko := HKO.out (by omega)
      subst hko
      have hlt' : (j : Int) < kids.length := by omega
      have HCJ := Lib.hid (HC.out j hlt)
      obtain ⟨⟨o1, q1, s1⟩, ⟨o2, q2, s2⟩⟩ := (HL.out j hlt).slices
      have HI := Lib.hid (fun (w1 : World) (hb1 : Below w.heap.size w w1) (hz : kids[j].size ≤ 200) => ih _ (List.getElem_mem hlt) w1 _ _ _ ((HL.out j hlt).stay hb1 (Nat.le_refl _)) (HK.out j hlt) hz)
      have hzj : kids[j].size ≤ 200 := by
        have e1 := sizeAll_take kids j hlt
        have e2 := sizeAll_take_le kids (j + 1)
        omega
      have hkj : j < keys.length := by rw [HKL.out]; exact hlt
      obtain ⟨d0, dz⟩ := HKC.out j hkj
      have HN : Hid (Lib.join ((partsOf 5 keys kids).take (j + 1)) [44] = Lib.join ((partsOf 5 keys kids).take j) [44] ++ ((if j = 0 then [] else [44]) ++ keyed keys[j] kids[j].brac)) := join_take_succ _ _ _ _ (partsOf_map j hlt hkj)
      have HQ := Lib.hid (spec_quote keys[j] dz)
      have HQZ := Lib.hid (quoteT_length keys[j])
      have d1 : wr.cell? ⟨kb, koff + j, none⟩ = some (.string keys[j]) := by
        rw [HB.out.below.cell (by exact World.block_lt_of_cell? _ _ d0)]; exact d0
      clear d0 dz
      have HZ : Hid (kids[j].brac.length ≤ 341000) := by
        have := brac_le _ (HK.out j hlt)
        show kids[j].brac.length ≤ 341000
        omega
      have hB1 : Hid (∀ ob, Below wr.heap.size wr (wr.alloc ob)) := fun ob => (Below.refl _ _).alloc (Nat.le_refl _) _
      generalize kids[j] = x at *
      generalize keys[j] = y at *
      clear hkj
      generalize KV j = v1 at *
      generalize DV j = v2 at *
      subst s1 s2
      by_cases hj0 : j = 0
      · have hj1 : ¬ (0 : Int) < (j : Int) := by omega
        have HJ : Hid (Lib.join ((partsOf 5 keys kids).take (j + 1)) [44] = Lib.join ((partsOf 5 keys kids).take j) [44] ++ keyed y x.brac) := by
          have := HN.out
          rw [if_pos hj0] at this
          show _ = _
          simpa using this
        clear hj0 HN
        go_wp2_with fail
        refine (HQ.out _).mono ?_
        rintro e w1 ⟨rfl, hb1⟩
        have HB1 := Lib.hid (HB.out.next hb1)
        obtain ⟨c0, c1, c2, c3, c4⟩ := kid_cells HCJ.out HB1.out.below
        clear hb1 x0 x1 x2 x3 x4 d1
        obtain ⟨-, -, x0, x1, x2, x3, x4⟩ := HB1.out
        generalize hY : quoteT y = Y at *
        have hYz : Y.size ≤ 802 := by have := HQZ.out; simpa using this
        have HYY : Hid (Y = quoteT y) := hY.symm
        clear hY
        go_wp2_with fail
        refine (HI.out _ HB1.out.below hzj).mono ?_
        rintro e w2 ⟨rfl, hb2⟩
        have HB2 := Lib.hid (HB1.out.next hb2)
        clear hb2 x0 x1 x2 x3 x4 c0 c1 c2 c3 c4
        obtain ⟨-, -, x0, x1, x2, x3, x4⟩ := HB2.out
        generalize hX : (⟨x.brac.toArray⟩ : ByteArray) = X at *
        have hXz : X.size ≤ 341000 := by rw [← hX, mk_size]; exact HZ.out
        have HXX : Hid (X.data.toList = x.brac) := by show _ = _; rw [← hX]
        clear hX
        go_wp2
        refine ⟨⟨j + 1, S ++ Y ++ ⟨#[58]⟩ ++ X, hlt, rfl, by go_num, ?_, HB2.out⟩, by simp [intOf]; omega⟩
        rw [cat_list, cat_list, cat_list, HS.out, HXX.out, HJ.out, HYY.out]
        simp [keyed]
      · have hj1 : (0 : Int) < (j : Int) := by omega
        have HJ : Hid (Lib.join ((partsOf 5 keys kids).take (j + 1)) [44] = Lib.join ((partsOf 5 keys kids).take j) [44] ++ ([44] ++ keyed y x.brac)) := by
          have := HN.out
          rw [if_neg hj0] at this
          exact this
        clear hj0 HN
        go_wp2_with fail
        refine (HQ.out _).mono ?_
        rintro e w1 ⟨rfl, hb1⟩
        have HB1 := Lib.hid (HB.out.next hb1)
        obtain ⟨c0, c1, c2, c3, c4⟩ := kid_cells HCJ.out HB1.out.below
        clear hb1 x0 x1 x2 x3 x4 d1
        obtain ⟨-, -, x0, x1, x2, x3, x4⟩ := HB1.out
        generalize hY : quoteT y = Y at *
        have hYz : Y.size ≤ 802 := by have := HQZ.out; simpa using this
        have HYY : Hid (Y = quoteT y) := hY.symm
        clear hY
        go_wp2_with fail
        refine (HI.out _ HB1.out.below hzj).mono ?_
        rintro e w2 ⟨rfl, hb2⟩
        have HB2 := Lib.hid (HB1.out.next hb2)
        clear hb2 x0 x1 x2 x3 x4 c0 c1 c2 c3 c4
        obtain ⟨-, -, x0, x1, x2, x3, x4⟩ := HB2.out
        generalize hX : (⟨x.brac.toArray⟩ : ByteArray) = X at *
        have hXz : X.size ≤ 341000 := by rw [← hX, mk_size]; exact HZ.out
        have HXX : Hid (X.data.toList = x.brac) := by show _ = _; rw [← hX]
        clear hX
        go_wp2
        refine ⟨⟨j + 1, S ++ ⟨#[44]⟩ ++ Y ++ ⟨#[58]⟩ ++ X, hlt, rfl, by go_num, ?_, HB2.out⟩, by simp [intOf]; omega⟩
        rw [cat_list, cat_list, cat_list, cat_list, HS.out, HXX.out, HJ.out, HYY.out]
        simp [keyed]
    · have HE : Hid (S ++ ⟨#[125]⟩ = ⟨BR.toArray⟩) := by
        show _ = _
        refine ext_list ?_
        rw [cat_list, HS.out, HBR.out, join_take_end _ _ _ (by rw [HP.out]; omega)]
        simp
      go_wp2
      go_ret
      exact ⟨by rw [← HE.out]; rfl, HB.out.below⟩

theorem spec_text (T : RT) : TextAt T := by
  induction T using RT.ind with
  | h k n s keys kids ih =>
    intro w kv dv F hl hr hz
    obtain ⟨hh, -⟩ := right_out hr
    obtain ⟨-, -, hs, FK, FD, hK, hD, -⟩ := hl.outn
    show Calls Tryd.prog 40 #[.agg #[.int .i64 k, .int .i64 n, .string s, kv, dv]] w _
    simp only [HeadOk, RT.k, RT.n, RT.s, RT.keys, RT.kids] at hh
    rcases hh with ⟨rfl, h⟩ | ⟨rfl, h⟩ | ⟨rfl, h, -⟩ | ⟨rfl, h⟩ | ⟨rfl, h⟩ | ⟨rfl, h⟩
    · rw [brac0]; exact text0 n s kv dv w
    · rw [brac1]; exact text1 n s kv dv w
    · rw [brac2]; exact text2 n s kv dv w h.1 h.2
    · rw [brac3]; exact text3 n s kv dv w hs
    · exact text4 n s keys kids ih w kv dv FD hD hr hz
    · exact text5 n s keys kids ih w kv dv FK FD hK hD hr hz

/-- What Braced answers. -/
noncomputable def bracT (T : RT) : ByteArray := if treeOk T = true then ⟨T.brac.toArray⟩ else ⟨#[]⟩

theorem treeOk_out {T : RT} (h : treeOk T = true) : T.size ≤ 200 ∧ T.right = true := by
  unfold treeOk at h
  simp only [Bool.and_eq_true, decide_eq_true_eq] at h
  exact ⟨h.1.2, h.2⟩

set_option maxRecDepth 100000 in
set_option maxHeartbeats 400000 in
theorem spec_braced (T : RT) (w : World) (kv dv : Value) (F : List Nat) (hl : Lies w T kv dv F) (hsz : T.sz ≤ 1048576) :
    Calls Tryd.prog 28 #[.agg #[.int .i64 T.k, .int .i64 T.n, .string T.s, kv, dv]] w fun e w' => e = .returned (.string (bracT T)) ∧ Below w.heap.size w w' := by
  have HX := Lib.hid (Box.start w (.int .i64 T.k) (.int .i64 T.n) (.string T.s) kv dv 30)
  have HR := Lib.hid (fun wr hb => spec_treeOk T wr kv dv F (hl.stay hb (Nat.le_refl _)) hsz)
  have HT := Lib.hid (fun wr hb => spec_text T wr kv dv F (hl.stay hb (Nat.le_refl _)))
  obtain ⟨⟨o1, c1, rfl⟩, ⟨o2, c2, rfl⟩⟩ := hl.slices
  clear hl hsz
  by_cases hok : treeOk T = true
  · have HO := Lib.hid (treeOk_out hok)
    have HE : Hid (bracT T = ⟨T.brac.toArray⟩) := if_pos hok
    rw [hok] at HR
    clear hok
    go_enter Tryd.func28, Tryd.ntmps28
    go_wp2_with (first
      | (go_at_call 11; refine (HR.out _ HX.out.below).mono ?_; rintro e w1 ⟨rfl, hb1⟩; have HX1 := Lib.hid (HX.out.next hb1); obtain ⟨-, -, x0, x1, x2, x3, x4⟩ := HX1.out; clear hb1)
      | (go_at_call 40; refine (HT.out _ HX1.out.below HO.out.2 HO.out.1).mono ?_; rintro e w2 ⟨rfl, hb2⟩; have HX2 := Lib.hid (HX1.out.next hb2); clear hb2)
      | fail)
    go_ret
    exact ⟨by rw [HE.out]; rfl, HX2.out.below⟩
  · have HE : Hid (bracT T = ⟨#[]⟩) := if_neg hok
    have hok' : treeOk T = false := by simpa using hok
    rw [hok'] at HR
    clear hok hok'
    go_enter Tryd.func28, Tryd.ntmps28
    go_wp2_with (first
      | (go_at_call 11; refine (HR.out _ HX.out.below).mono ?_; rintro e w1 ⟨rfl, hb1⟩; have HX1 := Lib.hid (HX.out.next hb1); clear hb1)
      | fail)
    go_ret
    exact ⟨by rw [HE.out]; rfl, HX1.out.below⟩
end Go.Proofs.YtlghcjihncmaiaaDoor
