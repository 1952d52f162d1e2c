/-
  What is proved: the program's Braced, at every tree: empty when it is not right; else what its parts are written as; condition: the library's table of powers of ten starts as the program's text lays it.; the program's tree of an order in the middle shape, where its pace is as new, in memory of its own; condition: the library's table of powers of ten starts as the program's text lays it.
-/
import Derived.Test.YtfmkhogpnnobeaaGreatDoorPartAP
import Derived.Test.YtfmkhogpnnobeaaGreatDoorPartAW
import Derived.Test.YtfmkhogpnnobeaaGreatDoorPartAE
import Derived.Test.YtfmkhogpnnobeaaGreatDoorPartAD
import Derived.Test.YtfmkhogpnnobeaaGreatDoorPartAQ
import Derived.Test.YtfmkhogpnnobeaaGreatDoorPartAR
import Derived.Test.YtfmkhogpnnobeaaGreatDoorPartAV
/- the program's Braced, at every tree: empty when it is not right; else what its parts are written as; condition: the library's table of powers of ten starts as the program's text lays it. -/
namespace Go.Proofs.YtfmkhogpnnobeaaGreatDoor
open Go Go.RowKit

/-- The table of powers of ten, as it was laid. -/
abbrev Tab (w : World) : Prop := Lib.TabIs Tryz.prog w "internal/strconv.uint64pow10" .u64 Lib.pow10Tab

def BrAt (T : RT) : Prop := ∀ (w : World) (kv dv : Value) (F : List Nat), Lies w T kv dv F → T.right = true → T.size ≤ 200 → Tab w →
  Calls Tryz.prog 114 #[.agg #[.int .i64 T.k, .int .i64 T.n, .string T.s, kv, dv]] w fun e w' => e = .returned (.string ⟨T.brac.toArray⟩) ∧ Below w.heap.size w w'

section
variable (n : Int) (s : ByteArray) (ko o : Option Addr) (kl kc dl dc : Nat) (w : World)

set_option maxRecDepth 100000 in
set_option maxHeartbeats 400000 in
theorem br0 : Calls Tryz.prog 114 #[.agg #[.int .i64 0, .int .i64 n, .string s, .slice ko kl kc, .slice o dl dc]] w fun e w' => e = .returned (.string ⟨#[110, 117, 108, 108]⟩) ∧ Below w.heap.size w w' := by
  have HX := Lib.hid (Box.start w (.int .i64 0) (.int .i64 n) (.string s) (.slice ko kl kc) (.slice o dl dc) 32)
  have HF := Lib.hid (formOf_null n s ko o kl kc dl dc)
  have a_flag := as_flag_no 158 (by decide)
  have a_int := as_int_no 158 (by decide)
  have a_text := as_text_no 158 (by decide)
  have a_list := as_list_no 158 (by decide)
  have a_map := as_map_no 158 (by decide)
  go_enter Tryz.func114, Tryz.ntmps114
  go_wp2_with fail
  refine (HF.out _).mono ?_
  rintro e w1 ⟨rfl, hb1⟩
  have HX1 := Lib.hid (HX.out.next hb1)
  clear hb1
  go_wp2
  go_ret
  exact ⟨rfl, HX1.out.below⟩

set_option maxRecDepth 100000 in
set_option maxHeartbeats 400000 in
theorem br1 : Calls Tryz.prog 114 #[.agg #[.int .i64 1, .int .i64 n, .string s, .slice ko kl kc, .slice o dl dc]] w fun e w' => e = .returned (.string ⟨(if n = 1 then [116, 114, 117, 101] else [102, 97, 108, 115, 101] : List UInt8).toArray⟩) ∧ Below w.heap.size w w' := by
  have HX := Lib.hid (Box.start w (.int .i64 1) (.int .i64 n) (.string s) (.slice ko kl kc) (.slice o dl dc) 32)
  have HF := Lib.hid (formOf_flag n s ko o kl kc dl dc)
  have a_flag := as_flag_yes
  by_cases h : n = 1
  · rw [if_pos h]
    subst h
    go_enter Tryz.func114, Tryz.ntmps114
    go_wp2_with fail
    refine (HF.out _).mono ?_
    rintro e w1 ⟨rfl, hb1⟩
    have HX1 := Lib.hid (HX.out.next hb1)
    clear hb1
    go_wp2
    go_ret
    exact ⟨rfl, HX1.out.below⟩
  · rw [if_neg h]
    go_enter Tryz.func114, Tryz.ntmps114
    go_wp2_with fail
    refine (HF.out _).mono ?_
    rintro e w1 ⟨rfl, hb1⟩
    have HX1 := Lib.hid (HX.out.next hb1)
    clear hb1
    go_wp2
    go_ret
    exact ⟨rfl, HX1.out.below⟩

set_option maxRecDepth 100000 in
set_option maxHeartbeats 400000 in
theorem br2 (h0 : -1000000000000 ≤ n) (h1 : n ≤ 1000000000000) (ht : Tab w) : Calls Tryz.prog 114 #[.agg #[.int .i64 2, .int .i64 n, .string s, .slice ko kl kc, .slice o dl dc]] w fun e w' => e = .returned (.string ⟨(Lib.itoa n).toArray⟩) ∧ Below w.heap.size w w' := by
  have HX := Lib.hid (Box.start w (.int .i64 2) (.int .i64 n) (.string s) (.slice ko kl kc) (.slice o dl dc) 32)
  have HF := Lib.hid (formOf_int n s ko o kl kc dl dc)
  have HT := Lib.hid (Lib.tabBelow_of_tabIs ht)
  have HD := Lib.hid (impl_digits n (by omega) (by omega))
  have a_flag := as_flag_no 127 (by decide)
  have a_int := as_int_yes
  clear h0 h1 ht
  go_enter Tryz.func114, Tryz.ntmps114
  go_wp2_with fail
  refine (HF.out _).mono ?_
  rintro e w1 ⟨rfl, hb1⟩
  have HX1 := Lib.hid (HX.out.next hb1)
  clear hb1
  go_wp2_with fail
  refine (HD.out _ (HT.out _ HX1.out.below)).mono ?_
  rintro e w2 ⟨rfl, hb2⟩
  have HX2 := Lib.hid (HX1.out.next hb2)
  clear hb2
  go_wp2
  go_ret
  exact ⟨rfl, HX2.out.below⟩

set_option maxRecDepth 100000 in
set_option maxHeartbeats 400000 in
theorem br3 (hs : s.size ≤ maxLen) : Calls Tryz.prog 114 #[.agg #[.int .i64 3, .int .i64 n, .string s, .slice ko kl kc, .slice o dl dc]] w fun e w' => e = .returned (.string (quoteT s)) ∧ Below w.heap.size w w' := by
  have HX := Lib.hid (Box.start w (.int .i64 3) (.int .i64 n) (.string s) (.slice ko kl kc) (.slice o dl dc) 32)
  have HF := Lib.hid (formOf_text n s ko o kl kc dl dc)
  have HD := Lib.hid (impl_quote s hs)
  have a_flag := as_flag_no 120 (by decide)
  have a_int := as_int_no 120 (by decide)
  have a_text := as_text_yes
  go_enter Tryz.func114, Tryz.ntmps114
  go_wp2_with fail
  refine (HF.out _).mono ?_
  rintro e w1 ⟨rfl, hb1⟩
  have HX1 := Lib.hid (HX.out.next hb1)
  clear hb1
  go_wp2_with fail
  refine (HD.out _).mono ?_
  rintro e w2 ⟨rfl, hb2⟩
  have HX2 := Lib.hid (HX1.out.next hb2)
  clear hb2
  go_wp2
  go_ret
  exact ⟨rfl, HX2.out.below⟩
end

def mkB (l : List UInt8) : ByteArray := ⟨l.toArray⟩
theorem mkB_list (l : List UInt8) : (mkB l).data.toList = l := rfl
theorem bracAll_take (l : List RT) (i : Nat) (h : i < l.length) : (bracAll (l.take (i + 1))).map mkB = (bracAll (l.take i)).map mkB ++ [mkB l[i].brac] := by
  induction l generalizing i with
  | nil => simp at h
  | cons t l ih =>
    cases i with
    | zero => simp [bracAll]
    | succ i => simpa [bracAll] using ih i (by simpa using h)

set_option maxRecDepth 100000 in
set_option maxHeartbeats 1000000 in
theorem impl_bracedAll (kids : List RT) (ih : ∀ t ∈ kids, BrAt t) (w : World) (dv : Value) (FD : List Nat) (hD : KidsLie w dv kids FD) (hr : ∀ i (h : i < kids.length), kids[i].right = true) (hz : sizeAll kids ≤ 200) (hn : kids.length ≤ 1000000) (ht : Tab w) :
    Calls Tryz.prog 146 #[dv] w fun e w' => ∃ o c, e = .returned (.slice o kids.length c) ∧ Txts w w' (.slice o kids.length c) ((bracAll kids).map mkB) ∧ Below w.heap.size w w' := by
  have HT := Lib.hid (Lib.tabBelow_of_tabIs ht)
  have HK := Lib.hid hr
  obtain ⟨o, cap, b, off, FF, KV, DV, rfl, hlc, hcm, ho, -, hcell, hlies, -⟩ := hD
  have HC := Lib.hid hcell
  have HL := Lib.hid hlies
  have HO := Lib.hid ho
  clear hcell hlies ho hr ht
  unfold maxLen at hcm
  go_enter Tryz.func146, Tryz.ntmps146
  go_wp2
  go_loopw [3, 8] (fun v q wr => ∃ (j : Nat) (o1 : Option Addr) (c1 : Nat), j ≤ kids.length ∧ v = .slice o1 j c1 ∧ q = .int .i64 j ∧ Hid (Txts w wr (.slice o1 j c1) ((bracAll (kids.take j)).map mkB) ∧ Below w.heap.size w wr)) (fun _ q _ => kids.length - (intOf q).toNat)
  case atStart => exact ⟨0, none, 0, Nat.zero_le _, rfl, rfl, Txts.nil _ _, Below.refl _ _⟩
  case round =>
    obtain ⟨j, o1, c1, hj, rfl, rfl, hr⟩ := hrel
    by_cases hlt : j < kids.length
    · have ho := HO.out (by omega)
      subst ho
      have hlt' : (j : Int) < kids.length := by omega
      obtain ⟨e0, e1, e2, e3, e4⟩ := kid_cells (HC.out j hlt) hr.out.2
      obtain ⟨⟨p1, q1, s1⟩, ⟨p2, q2, s2⟩⟩ := (HL.out j hlt).slices
      have hzj : kids[j].size ≤ 200 := by
        have e1 := sizeAll_take kids j hlt
        have e2 := sizeAll_take_le kids (j + 1)
        omega
      have HI := Lib.hid (fun (w1 : World) (hb1 : Below w.heap.size w w1) => ih _ (List.getElem_mem hlt) w1 _ _ _ ((HL.out j hlt).stay hb1 (Nat.le_refl _)) (HK.out j hlt) hzj (HT.out _ hb1))
      have HA := Lib.hid (bracAll_take kids j hlt)
      have HLn : Hid (((bracAll (kids.take j)).map mkB).length = j) := by
        show _ = _
        rw [List.length_map, bracAll_length, List.length_take]
        omega
      have HB := Lib.hid hr.out.2
      have HY := Lib.hid hr.out.1
      have hB1 : Hid (∀ ob, Below wr.heap.size wr (wr.alloc ob)) := fun ob => (Below.refl _ _).alloc (Nat.le_refl _) _
      clear hr hzj
      generalize (bracAll (kids.take j)).map mkB = L at *
      generalize kids[j] = x at *
      generalize KV j = v1 at *
      generalize DV j = v2 at *
      subst s1 s2
      go_wp2_with fail
      refine (HI.out _ (HB.out.trans ((hB1.out _).mono HB.out.size))).mono ?_
      rintro e w2 ⟨rfl, hb2⟩
      have HB2 := Lib.hid ((hB1.out _).trans (hb2.mono (hB1.out _).size))
      have HY2 := Lib.hid (HY.out.on HB2.out)
      have HM : Hid (∀ ty, ∃ v' w', (Builtin.append_ #[29, 29] ty #[.slice o1 j c1, .slice (some ⟨w2.heap.size, 0, none⟩) 1 1]).run Tryz.prog (w2.alloc (.cells #[.string ⟨x.brac.toArray⟩] 9)) = .ok v' w' ∧ ∃ o' c', v' = .slice o' (j + 1) c' ∧ Txts w w' (.slice o' (j + 1) c') (L ++ [mkB x.brac]) ∧ Below w.heap.size w w') := fun ty => by
        obtain ⟨v', w', g1, o', c', g2, g3, g4⟩ := HY2.out.more (HB.out.trans (HB2.out.mono HB.out.size)).size ⟨x.brac.toArray⟩ (by rw [HLn.out]; omega) ty
        rw [HLn.out] at g2 g3
        exact ⟨v', w', g1, o', c', g2, g3, (HB.out.trans (HB2.out.mono HB.out.size)).trans g4⟩
      clear hb2 e0 e1 e2 e3 e4
      go_wp2_with (first
        | (at_builtin; refine list_append rfl _ _ 29 rfl _ _ rfl rfl (HM.out _) ?_; rintro v3 w3 ⟨o3, c3, rfl, h1, h2⟩; have H3 := Lib.hid (And.intro h1 h2); clear h1 h2)
        | fail)
      exact ⟨⟨j + 1, o3, c3, hlt, rfl, by go_num, by rw [HA.out]; exact H3.out.1, H3.out.2⟩, by simp [intOf]; omega⟩
    · have e : j = kids.length := by omega
      subst e
      have HE : Hid (Txts w wr (.slice o1 kids.length c1) ((bracAll kids).map mkB) ∧ Below w.heap.size w wr) := by
        have := hr.out
        rw [List.take_of_length_le (Nat.le_refl _)] at this
        exact this
      clear hr
      go_wp2
      go_ret
      exact ⟨o1, c1, rfl, HE.out.1, HE.out.2⟩

/-- Parts with a key ahead of them up to j, the others without. -/
def mix (P B : List ByteArray) (j : Nat) : List ByteArray := P.take j ++ B.drop j
theorem mix_zero (P B : List ByteArray) : mix P B 0 = B := by simp [mix]
theorem mix_end (P B : List ByteArray) (j : Nat) (h1 : P.length ≤ j) (h2 : B.length ≤ j) : mix P B j = P := by simp [mix, List.take_of_length_le h1, List.drop_eq_nil_of_le h2]
theorem mix_length {P B : List ByteArray} (h : P.length = B.length) (j : Nat) (hj : j ≤ B.length) : (mix P B j).length = B.length := by simp [mix]; omega
theorem mix_get {P B : List ByteArray} (h : P.length = B.length) (j : Nat) (hj : j < B.length) : (mix P B j)[j]? = B[j]? := by
  unfold mix
  rw [List.getElem?_append_right (by simp; omega), List.length_take]
  simp
  congr 1
  omega
theorem mix_set {P B : List ByteArray} (h : P.length = B.length) (j : Nat) (hj : j < B.length) (x : ByteArray) (hx : P[j]? = some x) : (mix P B j).set j x = mix P B (j + 1) := by
  unfold mix
  rw [List.set_append_right _ _ (by simp; omega), List.length_take, List.take_add_one, hx, show j - min j P.length = 0 by omega]
  have e : List.drop j B = B[j] :: List.drop (j + 1) B := List.drop_eq_getElem_cons hj
  rw [e, List.set_cons_zero, List.append_assoc]
  rfl

theorem map_mkB (l : List (List UInt8)) : (l.map mkB).map (·.data.toList) = l := by
  rw [List.map_map]
  exact (List.map_congr_left fun x _ => mkB_list x).trans (List.map_id _)

set_option maxRecDepth 100000 in
set_option maxHeartbeats 1000000 in
theorem br4 (n : Int) (s : ByteArray) (keys : List ByteArray) (kids : List RT) (ih : ∀ t ∈ kids, BrAt t) (w : World) (ko : Option Addr) (kl kc : Nat) (dv : Value) (FD : List Nat) (hD : KidsLie w dv kids FD) (hr : (RT.node 4 n s keys kids).right = true) (hz : (RT.node 4 n s keys kids).size ≤ 200) (hn : kids.length ≤ 1000000) (ht : Tab w) :
    Calls Tryz.prog 114 #[.agg #[.int .i64 4, .int .i64 n, .string s, .slice ko kl kc, dv]] w fun e w' => e = .returned (.string ⟨((RT.node 4 n s keys kids).brac).toArray⟩) ∧ Below w.heap.size w w' := by
  have hz' : sizeAll kids + 1 ≤ 200 := hz
  have HTL := Lib.hid (parts_take_le hr (.inl rfl) kids.length)
  have HK : Hid (∀ i (h : i < kids.length), kids[i].right = true) := (right_out hr).2
  have HBR : Hid ((RT.node 4 n s keys kids).brac = [91] ++ (Lib.join (partsOf 4 keys kids) [44] ++ [93])) := brac4
  have HP : Hid (partsOf 4 keys kids = bracAll kids) := if_pos rfl
  generalize (RT.node 4 n s keys kids).brac = BR at *
  have HA := Lib.hid (fun (w1 : World) (hb : Below w.heap.size w w1) => impl_bracedAll kids ih w1 dv FD (hD.stay hb (Nat.le_refl _)) HK.out (by omega) hn (Lib.tabBelow_of_tabIs ht _ hb))
  obtain ⟨o, c, rfl⟩ := hD.slice
  clear hr hz hD ht
  have HX := Lib.hid (Box.start w (.int .i64 4) (.int .i64 n) (.string s) (.slice ko kl kc) (.slice o kids.length c) 32)
  have HF := Lib.hid (formOf_list n s ko o kl kc kids.length c)
  have a_flag := as_flag_no 129 (by decide)
  have a_int := as_int_no 129 (by decide)
  have a_text := as_text_no 129 (by decide)
  have a_list := as_list_yes
  go_enter Tryz.func114, Tryz.ntmps114
  go_wp2_with fail
  refine (HF.out _).mono ?_
  rintro e w1 ⟨rfl, hb1⟩
  have HX1 := Lib.hid (HX.out.next hb1)
  clear hb1
  go_wp2_with fail
  refine (HA.out _ HX1.out.below).mono ?_
  rintro e w2 ⟨o2, c2, rfl, ht2, hb2⟩
  have HX2 := Lib.hid (HX1.out.next hb2)
  have HJ : Hid (Calls Tryz.prog 145 #[.slice o2 kids.length c2, .string ⟨#[44]⟩] w2 fun e w' => e = .returned (.string (mkB (Lib.join (bracAll kids) [44]))) ∧ Below w2.heap.size w2 w') := by
    have h1 := HTL.out
    rw [HP.out, List.take_of_length_le (by rw [bracAll_length]; exact Nat.le_refl _)] at h1
    have := join_row ht2 (by rw [List.length_map, bracAll_length]; exact hn) (by rw [map_mkB]; omega)
    rw [map_mkB] at this
    exact this
  clear hb2 ht2
  go_wp2_with fail
  refine HJ.out.mono ?_
  rintro e w3 ⟨rfl, hb3⟩
  have HX3 := Lib.hid (HX2.out.next hb3)
  clear hb3
  generalize hY : mkB (Lib.join (bracAll kids) [44]) = Y at *
  have hYz : Y.size ≤ 341000 := by
    have h1 := HTL.out
    rw [HP.out, List.take_of_length_le (by rw [bracAll_length]; exact Nat.le_refl _)] at h1
    rw [← hY]
    show (Lib.join (bracAll kids) [44]).length ≤ _
    omega
  have HE : Hid (⟨#[91]⟩ ++ Y ++ ⟨#[93]⟩ = (⟨BR.toArray⟩ : ByteArray)) := by
    show _ = _
    refine ext_list ?_
    rw [cat_list, cat_list, ← hY, mkB_list, HBR.out, HP.out]
    simp
  clear hY
  go_wp2
  go_ret
  exact ⟨by rw [← HE.out]; rfl, HX3.out.below⟩


set_option maxRecDepth 100000 in
set_option maxHeartbeats 1000000 in
theorem br5 (n : Int) (s : ByteArray) (keys : List ByteArray) (kids : List RT) (ih : ∀ t ∈ kids, BrAt t) (w : World) (kv dv : Value) (FK FD : List Nat) (hK : StrsAt w kv keys FK) (hD : KidsLie w dv kids FD) (hr : (RT.node 5 n s keys kids).right = true) (hz : (RT.node 5 n s keys kids).size ≤ 200) (hn : kids.length ≤ 1000000) (ht : Tab w) :
    Calls Tryz.prog 114 #[.agg #[.int .i64 5, .int .i64 n, .string s, kv, dv]] w fun e w' => e = .returned (.string ⟨((RT.node 5 n s keys kids).brac).toArray⟩) ∧ Below w.heap.size w w' := by
  have hz' : sizeAll kids + 1 ≤ 200 := hz
  have HTL := Lib.hid (parts_take_le hr (.inr rfl) kids.length)
  have HK : Hid (∀ i (h : i < kids.length), kids[i].right = true) := (right_out hr).2
  have HBR : Hid ((RT.node 5 n s keys kids).brac = [123] ++ (Lib.join (partsOf 5 keys kids) [44] ++ [125])) := brac5
  have hkl : keys.length = kids.length := by
    have := (right_out hr).1
    simp only [HeadOk, RT.k, RT.n, RT.s, RT.keys, RT.kids] at this
    omega
  have HP : Hid ((partsOf 5 keys kids).length = kids.length) := partsOf_length (.inr hkl)
  generalize (RT.node 5 n s keys kids).brac = BR at *
  have HA := Lib.hid (fun (w1 : World) (hb : Below w.heap.size w w1) => impl_bracedAll kids ih w1 dv FD (hD.stay hb (Nat.le_refl _)) HK.out (by omega) hn (Lib.tabBelow_of_tabIs ht _ hb))
  obtain ⟨o, c, rfl⟩ := hD.slice
  obtain ⟨ko, kc, kb, koff, rfl, hklc, hkcm, hko, -, hkcell, -⟩ := hK
  have HKC := Lib.hid hkcell
  have HKO := Lib.hid hko
  have HKL : Hid (keys.length = kids.length) := hkl
  rw [hkl] at hklc ⊢
  unfold maxLen at hkcm
  clear hr hz hD ht hkcell hko hkl
  have HX := Lib.hid (Box.start w (.int .i64 5) (.int .i64 n) (.string s) (.slice ko kids.length kc) (.slice o kids.length c) 32)
  have HF := Lib.hid (formOf_map n s ko o kids.length kc kids.length c)
  have a_flag := as_flag_no 119 (by decide)
  have a_int := as_int_no 119 (by decide)
  have a_text := as_text_no 119 (by decide)
  have a_list := as_list_no 119 (by decide)
  have a_map := as_map_yes
  go_enter Tryz.func114, Tryz.ntmps114
  go_wp2_with fail
  refine (HF.out _).mono ?_
  rintro e w1 ⟨rfl, hb1⟩
  have HX1 := Lib.hid (HX.out.next hb1)
  clear hb1
  go_wp2_with fail
  have HbA := Lib.hid ((Below.refl w1.heap.size w1).alloc (Nat.le_refl _) (.cells #[.slice ko kids.length kc, .slice o kids.length c] 119))
  refine (HA.out _ (HX1.out.next HbA.out).below).mono ?_
  rintro e w2 ⟨o2, c2, rfl, ht2, hb2⟩
  have HX2 := Lib.hid ((HX1.out.next HbA.out).next hb2)
  have HT2 : Hid (Txts w w2 (.slice o2 kids.length c2) ((bracAll kids).map mkB)) := ht2.early (HX1.out.next HbA.out).below.size
  have hlast := heap_last w1 (.cells #[.slice ko kids.length kc, .slice o kids.length c] 119)
  have f0 : w2.cell? ⟨w1.heap.size, 0, none⟩ = some (.slice ko kids.length kc) := by
    rw [hb2.cell (by simp)]; exact cell_of hlast 0
  have f1 : w2.cell? ⟨w1.heap.size, 1, none⟩ = some (.slice o kids.length c) := by
    rw [hb2.cell (by simp)]; exact cell_of hlast 1
  clear hb2 ht2 hlast
  go_wp2
  have HPB : Hid (((partsOf 5 keys kids).map mkB).length = ((bracAll kids).map mkB).length ∧ ((bracAll kids).map mkB).length = kids.length) := by
    refine ⟨?_, ?_⟩
    · rw [List.length_map, List.length_map, HP.out, bracAll_length]
    · rw [List.length_map, bracAll_length]
  have HPj : Hid (∀ j (h : j < kids.length) (hk : j < keys.length), ((partsOf 5 keys kids).map mkB)[j]? = some (mkB (keyed keys[j] kids[j].brac)) ∧ ((bracAll kids).map mkB)[j]? = some (mkB kids[j].brac)) := fun j h hk => by
    rw [List.getElem?_map, partsOf_map j h hk, List.getElem?_map, bracAll_get kids j h]
    exact ⟨rfl, rfl⟩
  have HBk : Hid (∀ j (h : j < kids.length), kids[j].brac.length ≤ 341000) := fun j h => by
    have h1 := brac_le _ (HK.out j h)
    have e1 := sizeAll_take kids j h
    have e2 := sizeAll_take_le kids (j + 1)
    omega
  have HB2 := Lib.hid HX2.out.below
  generalize hPP : (partsOf 5 keys kids).map mkB = PP at *
  generalize (bracAll kids).map mkB = BB at *
  have HPP : Hid ((partsOf 5 keys kids).map mkB = PP) := hPP
  clear hPP HX HX1 HX2 HbA HF HA f0 f1
  go_loopw [51] (fun q wr => ∃ j : Nat, j ≤ kids.length ∧ q = .int .i64 j ∧ Hid (Txts w wr (.slice o2 kids.length c2) (mix PP BB j) ∧ Below w.heap.size w wr)) (fun q _ => kids.length - (intOf q).toNat)
  case atStart => exact ⟨0, Nat.zero_le _, rfl, by rw [mix_zero]; exact HT2.out, HB2.out⟩
  case round =>
    obtain ⟨j, hj, rfl, hr⟩ := hrel
    by_cases hlt : j < kids.length
    · have hko := HKO.out (by omega)
      subst hko
      have hlt' : (j : Int) < kids.length := by omega
      have hkj : j < keys.length := by rw [HKL.out]; exact hlt
      obtain ⟨d0, dz⟩ := HKC.out j hkj
      have d1 : wr.cell? ⟨kb, koff + j, none⟩ = some (.string keys[j]) := by
        rw [hr.out.2.cell (by exact World.block_lt_of_cell? _ _ d0)]; exact d0
      have hml := mix_length HPB.out.1 j (by rw [HPB.out.2]; exact hj)
      rw [HPB.out.2] at hml
      obtain ⟨g, c', hv, hgc, hgm, hgo, hgl⟩ := hr.out.1.form (by rw [hml]; omega)
      rw [hml] at hv hgc
      cases hv
      have HTx : Hid (Txts w wr (.slice (some ⟨g, 0, none⟩) (mix PP BB j).length c2) (mix PP BB j)) := by rw [hml]; exact hr.out.1
      have HQ := Lib.hid (impl_quote keys[j] dz)
      have HQZ := Lib.hid (quoteT_length keys[j])
      have HPJ := Lib.hid (HPj.out j hlt hkj)
      have HZ := Lib.hid (HBk.out j hlt)
      have HB := Lib.hid hr.out.2
      have HML : Hid ((mix PP BB j).length = kids.length) := hml
      unfold maxLen at hgm
      clear hr d0 dz hml
      generalize kids[j] = x at *
      generalize keys[j] = y at *
      clear hkj
      have hmj : (mix PP BB j)[j]? = some (mkB x.brac) := (mix_get HPB.out.1 j (by rw [HPB.out.2]; exact hlt)).trans HPJ.out.2
      have p0 := HTx.out.cell j _ hmj
      have p1 := HTx.out.free j
      have HQc : Hid (∀ W, Calls Tryz.prog 144 #[.string y] W fun e w' => ∃ v, e = .returned v ∧ v = .string (quoteT y) ∧ Below W.heap.size W w') := fun W => by
        refine (HQ.out W).mono ?_
        rintro e w' ⟨rfl, h⟩
        exact ⟨_, rfl, rfl, h⟩
      have HPut : Hid (∀ w5 : World, Below wr.heap.size wr w5 → Txts w (w5.setCell ⟨g, j, none⟩ (.string (quoteT y ++ ⟨#[58]⟩ ++ mkB x.brac))) (.slice (some ⟨g, 0, none⟩) kids.length c2) (mix PP BB (j + 1)) ∧ Below w.heap.size w (w5.setCell ⟨g, j, none⟩ (.string (quoteT y ++ ⟨#[58]⟩ ++ mkB x.brac)))) := fun w5 hb5 => by
        have h1 := (HTx.out.on hb5).put j (quoteT y ++ ⟨#[58]⟩ ++ mkB x.brac)
        rw [mix_set HPB.out.1 j (by rw [HPB.out.2]; exact hlt) _ (by
          rw [HPJ.out.1]
          refine congrArg some (ext_list ?_).symm
          rw [cat_list, cat_list, mkB_list]
          simp [keyed]), HML.out] at h1
        exact ⟨h1, (HB.out.trans (hb5.mono HB.out.size)).setCell hgo _⟩
      have hYz : (quoteT y).size ≤ 802 := by have := HQZ.out; simpa using this
      have hXz : (mkB x.brac).size ≤ 341000 := HZ.out
      clear HQ hmj
      generalize quoteT y = Y at *
      generalize mkB x.brac = X at *
      have hgl' : Hid (g < wr.heap.size) := hgl
      clear hgl
      have q1 : ¬ 9223372036854775807 < Y.size + 1 := by omega
      have q2 : ¬ 9223372036854775807 < Y.size + 1 + X.size := by omega
      go_wp2
      go_region_law (first
        | (refine step_calls (by rfl) 144 _ _ (by rfl) #[.string y] (by simp [Act.eval, Act.put]) (by intros; simp [go_sem]) (fun _ _ => rfl) (HQc.out _) ?_
           rintro u w5 ⟨rfl, hb5⟩
           have hb05 := (below_drewN (Below.refl wr.heap.size wr) 1).trans (hb5.mono (Nat.le_refl _))
           have m0 : w5.cell? ⟨g, j, none⟩ = some (.string X) := (hb05.cell (by exact hgl'.out)).trans p0
           have m1 : w5.frozen? ⟨g, j, none⟩ = false := (hb05.frozen (by exact hgl'.out)).trans p1
           have H5 := Lib.hid (HPut.out _ hb05)
           clear hb5 hb05)
        | fail)
      all_goals go_wp2
      all_goals exact ⟨⟨j + 1, hlt, by go_num, H5.out.1, H5.out.2⟩, by simp [intOf]; omega⟩
    · have HE : Hid (Txts w wr (.slice o2 kids.length c2) PP ∧ Below w.heap.size w wr) := by
        have h1 := hr.out
        rw [mix_end PP BB j (by rw [HPB.out.1, HPB.out.2]; omega) (by rw [HPB.out.2]; omega)] at h1
        exact h1
      clear hr
      have HTL2 : Hid ((Lib.join (partsOf 5 keys kids) [44]).length ≤ 341000) := by
        have h1 := HTL.out
        rw [List.take_of_length_le (by rw [HP.out]; exact Nat.le_refl _)] at h1
        show _ ≤ _
        omega
      have HJ : Hid (Calls Tryz.prog 145 #[.slice o2 kids.length c2, .string ⟨#[44]⟩] wr fun e w' => e = .returned (.string (mkB (Lib.join (partsOf 5 keys kids) [44]))) ∧ Below wr.heap.size wr w') := by
        have h1 := HE.out.1
        rw [← HPP.out] at h1
        have := join_row h1 (by rw [List.length_map, HP.out]; exact hn) (by rw [map_mkB]; have := HTL2.out; omega)
        rw [map_mkB] at this
        exact this
      go_wp2_with fail
      refine HJ.out.mono ?_
      rintro e w3 ⟨rfl, hb3⟩
      have HX3 := Lib.hid (HE.out.2.trans (hb3.mono HE.out.2.size))
      clear hb3
      generalize hY : mkB (Lib.join (partsOf 5 keys kids) [44]) = Y at *
      have hYz : Y.size ≤ 341000 := by
        rw [← hY]
        exact HTL2.out
      have HEE : Hid (⟨#[123]⟩ ++ Y ++ ⟨#[125]⟩ = (⟨BR.toArray⟩ : ByteArray)) := by
        show _ = _
        refine ext_list ?_
        rw [cat_list, cat_list, ← hY, mkB_list, HBR.out]
        simp
      clear hY
      go_wp2
      go_ret
      exact ⟨by rw [← HEE.out]; rfl, HX3.out⟩

theorem length_le_size : (l : List RT) → l.length ≤ sizeAll l
  | [] => Nat.zero_le _
  | t :: l => by
    have h1 : 1 ≤ t.size := by cases t; rw [RT.size]; omega
    have h2 := length_le_size l
    simp only [List.length_cons, sizeAll]
    omega

theorem impl_brac (T : RT) : BrAt T := by
  induction T using RT.ind with
  | h k n s keys kids ih =>
    intro w kv dv F hl hr hz ht
    obtain ⟨hh, -⟩ := right_out hr
    obtain ⟨-, -, hs, FK, FD, hK, hD, -⟩ := hl.outn
    have hn : kids.length ≤ 1000000 := by
      have h1 : sizeAll kids + 1 ≤ 200 := hz
      have h2 := length_le_size kids
      omega
    show Calls Tryz.prog 114 #[.agg #[.int .i64 k, .int .i64 n, .string s, kv, dv]] w _
    simp only [HeadOk, RT.k, RT.n, RT.s, RT.keys, RT.kids] at hh
    have hK' := hK
    have hD' := hD
    obtain ⟨ko, kc, rfl⟩ := hK.slice
    rcases hh with ⟨rfl, h⟩ | ⟨rfl, h⟩ | ⟨rfl, h, -⟩ | ⟨rfl, h⟩ | ⟨rfl, h⟩ | ⟨rfl, h⟩
    · obtain ⟨o, dc, rfl⟩ := hD.slice
      rw [brac0]; exact br0 n s _ _ _ _ _ _ w
    · obtain ⟨o, dc, rfl⟩ := hD.slice
      rw [brac1]; exact br1 n s _ _ _ _ _ _ w
    · obtain ⟨o, dc, rfl⟩ := hD.slice
      rw [brac2]; exact br2 n s _ _ _ _ _ _ w h.1 h.2 ht
    · obtain ⟨o, dc, rfl⟩ := hD.slice
      rw [brac3]; exact br3 n s _ _ _ _ _ _ w hs
    · exact br4 n s keys kids ih w ko _ kc dv FD hD' hr hz hn ht
    · exact br5 n s keys kids ih w _ dv FK FD hK' hD' hr hz hn ht

set_option maxRecDepth 100000 in
set_option maxHeartbeats 400000 in
theorem impl_braced (T : RT) (w : World) (kv dv : Value) (F : List Nat) (hl : Lies w T kv dv F) (ht : Tab w) :
    Calls Tryz.prog 77 #[.agg #[.int .i64 T.k, .int .i64 T.n, .string T.s, kv, dv]] w fun e w' => e = .returned (.string (bracT T)) ∧ Below w.heap.size w w' := by
  have HX := Lib.hid (Box.start w (.int .i64 T.k) (.int .i64 T.n) (.string T.s) kv dv 32)
  have HR := Lib.hid (fun wr hb => impl_treeOk T wr kv dv F (hl.stay hb (Nat.le_refl _)))
  have HT := Lib.hid (fun wr hb h1 h2 => impl_brac T wr kv dv F (hl.stay hb (Nat.le_refl _)) h1 h2 (Lib.tabBelow_of_tabIs ht _ hb))
  obtain ⟨⟨o1, c1, rfl⟩, ⟨o2, c2, rfl⟩⟩ := hl.slices
  clear hl ht
  by_cases hok : treeOk T = true
  · have HO := Lib.hid (treeOk_out hok)
    have HE : Hid (bracT T = ⟨T.brac.toArray⟩) := if_pos hok
    rw [hok] at HR
    clear hok
    go_enter Tryz.func77, Tryz.ntmps77
    go_wp2_with (first
      | (go_at_call 113; refine (HR.out _ HX.out.below).mono ?_; rintro e w1 ⟨rfl, hb1⟩; have HX1 := Lib.hid (HX.out.next hb1); obtain ⟨-, -, x0, x1, x2, x3, x4⟩ := HX1.out; clear hb1)
      | (go_at_call 114; refine (HT.out _ HX1.out.below HO.out.2 HO.out.1).mono ?_; rintro e w2 ⟨rfl, hb2⟩; have HX2 := Lib.hid (HX1.out.next hb2); clear hb2)
      | fail)
    go_ret
    exact ⟨by rw [HE.out]; rfl, HX2.out.below⟩
  · have HE : Hid (bracT T = ⟨#[]⟩) := if_neg hok
    have hok' : treeOk T = false := by simpa using hok
    rw [hok'] at HR
    clear hok hok'
    go_enter Tryz.func77, Tryz.ntmps77
    go_wp2_with (first
      | (go_at_call 113; refine (HR.out _ HX.out.below).mono ?_; rintro e w1 ⟨rfl, hb1⟩; have HX1 := Lib.hid (HX.out.next hb1); clear hb1)
      | fail)
    go_ret
    exact ⟨by rw [HE.out]; rfl, HX1.out.below⟩
end Go.Proofs.YtfmkhogpnnobeaaGreatDoor

/- the program's tree of an order in the middle shape, where its pace is as new, in memory of its own; condition: the library's table of powers of ten starts as the program's text lays it. -/
namespace Go.Proofs.YtfmkhogpnnobeaaGreatDoor
open Go Go.RowKit

/-- Where a function stands whose t lies in a block of its own, and t's memory behind the function's. -/
structure FT2 (w wc : World) (a r : Obj) (T : RT) (bt : Nat) (kr dr : Value) (G : List Nat) : Prop where
  two : Two w wc a r
  one : wc.heap[bt]? = some (.cells #[.int .i64 T.k, .int .i64 T.n, .string T.s, kr, dr] 32 (0, 0))
  kid : ∃ lo hi, KidAt wc T kr dr G lo hi
  old : w.heap.size + 2 ≤ bt
  far : ∀ x ∈ G, w.heap.size + 2 ≤ x

theorem ft2_of {w wc : World} {a r : Obj} {T : RT} {bt : Nat} {kr dr : Value} {G : List Nat} (h : FT w wc a r T bt kr dr G) (hf : ∀ x ∈ G, w.heap.size + 2 ≤ x) : FT2 w wc a r T bt kr dr G := ⟨h.two, h.one, h.kid, h.old, hf⟩
theorem kid_far {w W : World} {T : RT} {kr dr : Value} {G : List Nat} {lo hi : Nat} (hl : KidAt W T kr dr G lo hi) (hlo : w.heap.size + 2 ≤ lo) : ∀ x ∈ G, w.heap.size + 2 ≤ x := fun x hx => by have := hl.span x hx; omega
theorem kid_end {w W : World} {a : Obj} {zs : Array Value} {T : RT} {kr dr : Value} {G : List Nat} {lo hi : Nat} (_ : Two w W a (.cells zs 32)) (hl : KidAt W T kr dr G lo hi) (hf : ∀ x ∈ G, w.heap.size + 2 ≤ x) : Lies W T kr dr G ∧ Fresh w W G ∧ ∀ x ∈ G, w.heap.size + 2 ≤ x :=
  ⟨hl.lie, ⟨hl.nodup, fun x hx => by have := hf x hx; omega, hl.free⟩, hf⟩

set_option maxRecDepth 100000 in
set_option maxHeartbeats 8000000 in
theorem impl_midTNew {O : Ord} {mv nv : Value} {FM FN : List Nat} (w : World) (ho : OrdAt w O mv nv FM FN) (hc : O.okB = true) (hnew : sameO O.pace newP = true) (htab : Lib.TabIs Tryz.prog w "internal/strconv.uint64pow10" .u64 Lib.pow10Tab) :
    Calls Tryz.prog 30 #[.agg #[.string O.name, .string O.target, .int .i64 O.low, .int .i64 O.high, mv, .int .i64 O.pace.up, .int .i64 O.pace.down, .int .i64 O.pace.ups, .int .i64 O.pace.downs, nv]] w fun e w' => ∃ kv dv F, e = .returned (.agg #[.int .i64 (midT O).k, .int .i64 (midT O).n, .string (midT O).s, kv, dv]) ∧ Lies w' (midT O) kv dv F ∧ Fresh w w' F ∧ Below w.heap.size w w' := by
  obtain ⟨hn1, hn2, ⟨hm1, hm2⟩, hnn, -⟩ := okB_out hc
  have hnz := notes_sz hc
  have hbz := bracT_size (pacT O.pace)
  have hfz := fullT_sz hc ho.pace (RowAt.every ho.mets)
  have hmz := midB_sz hc (RowAt.every ho.mets) (notesT O.notes)
  have HT := Lib.hid (Lib.tabBelow_of_tabIs htab)
  have HTr : Hid (∀ wr, Below w.heap.size w wr → Calls Tryz.prog 73 #[.agg #[.string O.name, .string O.target, .int .i64 O.low, .int .i64 O.high, mv, .int .i64 O.pace.up, .int .i64 O.pace.down, .int .i64 O.pace.ups, .int .i64 O.pace.downs, nv]] wr fun e w' => ∃ kv dv F, e = .returned (.agg #[.int .i64 (fullT O).k, .int .i64 (fullT O).n, .string (fullT O).s, kv, dv]) ∧ Lies w' (fullT O) kv dv F ∧ Fresh wr w' F ∧ Below wr.heap.size wr w') := fun wr hb => impl_fullT wr (ho.stay hb (Nat.le_refl _)) (by omega) (by omega) (HT.out _ hb)
  have HUs : Hid (∀ X kv dv G, Lies X (fullT O) kv dv G → Calls Tryz.prog 72 #[.agg #[.int .i64 (fullT O).k, .int .i64 (fullT O).n, .string (fullT O).s, kv, dv], .string ⟨#[112, 97, 99, 101]⟩] X fun e w' => ∃ kr dr F, e = .returned (.agg #[.int .i64 (unT (fullT O) ⟨#[112, 97, 99, 101]⟩).k, .int .i64 (unT (fullT O) ⟨#[112, 97, 99, 101]⟩).n, .string (unT (fullT O) ⟨#[112, 97, 99, 101]⟩).s, kr, dr]) ∧ Lies w' (unT (fullT O) ⟨#[112, 97, 99, 101]⟩) kr dr F ∧ Fresh X w' F ∧ Below X.heap.size X w') := fun X kv dv G hl => impl_unset (fullT O) ⟨#[112, 97, 99, 101]⟩ ⟨rfl, rfl⟩ X kv dv G hl (by omega)
  have HPs : Hid (∀ W, Below w.heap.size w W → Calls Tryz.prog 78 #[.agg #[.int .i64 O.pace.up, .int .i64 O.pace.down, .int .i64 O.pace.ups, .int .i64 O.pace.downs]] W fun e w' => ∃ kv dv F, e = .returned (.agg #[.int .i64 5, .int .i64 0, .string ⟨#[]⟩, kv, dv]) ∧ Lies w' (pacT O.pace) kv dv F ∧ Fresh W w' F ∧ Below W.heap.size W w') := fun W hW => impl_paceTree _ _ _ _ ho.pace.1 ho.pace.2.1 ho.pace.2.2.1 ho.pace.2.2.2 W (HT.out _ hW)
  have HBr : Hid (∀ W kv dv F, Below w.heap.size w W → Lies W (pacT O.pace) kv dv F → Calls Tryz.prog 77 #[.agg #[.int .i64 5, .int .i64 0, .string ⟨#[]⟩, kv, dv]] W fun e w' => e = .returned (.string (bracT (pacT O.pace))) ∧ Below W.heap.size W w') := fun W kv dv F hW hl => impl_braced (pacT O.pace) W kv dv F hl (HT.out _ hW)
  have HLeaf : Hid (∀ W : World, Lies W (.node 3 0 ⟨#[109, 105, 100, 100, 108, 101]⟩ [] []) (.slice none 0 0) (.slice none 0 0) []) := fun W => leaf_lies W ⟨by decide, by decide⟩ ⟨by decide, by decide⟩ (by decide)
  have hE : ∀ W, (binOp .eql 35 (.agg #[.int .i64 O.pace.up, .int .i64 O.pace.down, .int .i64 O.pace.ups, .int .i64 O.pace.downs]) (.agg #[.int .i64 0, .int .i64 0, .int .i64 0, .int .i64 300])).run Tryz.prog W = .ok (.bool true) W := fun W => by rw [← hnew]; exact eql_pac O.pace newP W
  have HWn : Hid (∀ X kv dv G, Lies X (midB O (notesT O.notes)) kv dv G → Calls Tryz.prog 76 #[.agg #[.int .i64 (midB O (notesT O.notes)).k, .int .i64 (midB O (notesT O.notes)).n, .string (midB O (notesT O.notes)).s, kv, dv], .string ⟨#[113, 117, 97, 121, 47, 112, 97, 99, 101]⟩, .string (bracT (pacT O.pace))] X fun e w' => ∃ kr dr F, e = .returned (.agg #[.int .i64 (midB O (setT (notesT O.notes) ⟨#[113, 117, 97, 121, 47, 112, 97, 99, 101]⟩ (.node 3 0 (bracT (pacT O.pace)) [] []))).k, .int .i64 (midB O (setT (notesT O.notes) ⟨#[113, 117, 97, 121, 47, 112, 97, 99, 101]⟩ (.node 3 0 (bracT (pacT O.pace)) [] []))).n, .string (midB O (setT (notesT O.notes) ⟨#[113, 117, 97, 121, 47, 112, 97, 99, 101]⟩ (.node 3 0 (bracT (pacT O.pace)) [] []))).s, kr, dr]) ∧ Lies w' (midB O (setT (notesT O.notes) ⟨#[113, 117, 97, 121, 47, 112, 97, 99, 101]⟩ (.node 3 0 (bracT (pacT O.pace)) [] []))) kr dr F ∧ Fresh X w' F ∧ Below X.heap.size X w') := fun X kv dv G hl => by
    have h := impl_withNote (midB O (notesT O.notes)) (notesT O.notes) ⟨#[113, 117, 97, 121, 47, 112, 97, 99, 101]⟩ (bracT (pacT O.pace)) 5 ⟨rfl, rfl⟩ (mid_first O _) rfl X kv dv G hl (by omega) (by omega) (by decide) hbz
    rw [midB_notes] at h
    exact h
  have hms := mid_sets O
  have hfk := unT_sz (fullT O) ⟨#[112, 97, 99, 101]⟩ ⟨rfl, rfl⟩
  have HS1 : Hid (∀ X kv dv G kx dx G', Lies X (unT (fullT O) ⟨#[112, 97, 99, 101]⟩) kv dv G → Lies X (.node 3 0 ⟨#[109, 105, 100, 100, 108, 101]⟩ [] []) kx dx G' → Calls Tryz.prog 71 #[.agg #[.int .i64 (unT (fullT O) ⟨#[112, 97, 99, 101]⟩).k, .int .i64 (unT (fullT O) ⟨#[112, 97, 99, 101]⟩).n, .string (unT (fullT O) ⟨#[112, 97, 99, 101]⟩).s, kv, dv], .string ⟨#[107, 105, 110, 100]⟩, .agg #[.int .i64 3, .int .i64 0, .string ⟨#[109, 105, 100, 100, 108, 101]⟩, kx, dx]] X fun e w' => ∃ kr dr F, e = .returned (.agg #[.int .i64 (midB O (notesT O.notes)).k, .int .i64 (midB O (notesT O.notes)).n, .string (midB O (notesT O.notes)).s, kr, dr]) ∧ Lies w' (midB O (notesT O.notes)) kr dr F ∧ Fresh X w' F ∧ Below X.heap.size X w') := fun X kv dv G kx dx G' hl hx => by have h := impl_set (unT (fullT O) ⟨#[112, 97, 99, 101]⟩) (.node 3 0 ⟨#[109, 105, 100, 100, 108, 101]⟩ [] []) ⟨#[107, 105, 110, 100]⟩ X kv dv kx dx G G' hl hx (by omega) (by decide) (by decide); rw [hms] at h; exact h
  obtain ⟨⟨om, cm, rfl⟩, on_, cn, rfl⟩ := ho.slices
  clear ho hm1 hm2 hn1 hn2 hnn hnz hbz hfz hmz hms hfk htab
  have H2 := Lib.hid (Two.start w (.cells #[.string O.name, .string O.target, .int .i64 O.low, .int .i64 O.high, .slice om O.mets.length cm, .int .i64 O.pace.up, .int .i64 O.pace.down, .int .i64 O.pace.ups, .int .i64 O.pace.downs, .slice on_ O.notes.length cn] 59) (.cells #[.int .i64 0, .int .i64 0, .string ⟨#[]⟩, .slice none 0 0, .slice none 0 0] 32))
  rw [show midT O = midB O (savedT O) from rfl]
  rw [show savedT O = notesT O.notes from if_pos hnew]
  clear HPs HBr HWn
  clear hnew
  generalize fullT O = T0 at *
  generalize unT T0 ⟨#[112, 97, 99, 101]⟩ = TU at *
  generalize midB O (notesT O.notes) = TM at *
  go_enter Tryz.func30, Tryz.ntmps30
  go_wp2_with (first
    | (go_at_call 73; refine (HTr.out _ H2.out.below).mono ?_; rintro e w' ⟨kh, dh, GH, rfl, hl, hf, hb⟩; obtain ⟨⟨a1, b1, rfl⟩, ⟨a2, b2, rfl⟩⟩ := hl.slices; have HFu := Lib.hid hl; replace H2 := Lib.hid (H2.out.next hb); clear hl hf hb)
    | (go_at_call 72; refine (HUs.out _ _ _ _ HFu.out).mono ?_; rintro e w' ⟨ku, du, GU, rfl, hl, hf, hb⟩; obtain ⟨⟨a3, b3, rfl⟩, ⟨a4, b4, rfl⟩⟩ := hl.slices; have HUn := Lib.hid hl; replace H2 := Lib.hid (H2.out.next hb); clear hl hf hb)
    | (go_at_call 74; refine (impl_textOf _ _).mono ?_; rintro e w' ⟨rfl, hb⟩; replace HUn := Lib.hid (HUn.out.stay hb (Nat.le_refl _)); replace H2 := Lib.hid (H2.out.next hb); clear hb)
    | (go_at_call 71; refine (HS1.out _ _ _ _ _ _ _ HUn.out (HLeaf.out _)).mono ?_; rintro e w' ⟨kr, dr, G1, rfl, hl, hf, hb⟩; obtain ⟨⟨a5, b5, rfl⟩, ⟨a6, b6, rfl⟩⟩ := hl.slices; have HT1 := Lib.hid (kid_at0 H2.out hl hf rfl); have HFar := Lib.hid (kid_far HT1.out H2.out.size); clear hl hf; replace H2 := Lib.hid (H2.out.next hb); clear hb)
    | fail)
  have HZ : Hid (One w (w'.alloc (.cells #[.int .i64 TM.k, .int .i64 TM.n, .string TM.s, .slice a5 TM.keys.length b5, .slice a6 TM.kids.length b6] 32)) w'.heap.size (.cells #[.int .i64 TM.k, .int .i64 TM.n, .string TM.s, .slice a5 TM.keys.length b5, .slice a6 TM.kids.length b6] 32)) := ⟨heap_last w' _, H2.out.size⟩
  replace HT1 := Lib.hid (HT1.out.next ((Below.refl _ w').alloc (Nat.le_refl _) (.cells #[.int .i64 TM.k, .int .i64 TM.n, .string TM.s, .slice a5 TM.keys.length b5, .slice a6 TM.kids.length b6] 32)))
  replace H2 := Lib.hid (H2.out.next ((Below.refl _ w').alloc (Nat.le_refl _) (.cells #[.int .i64 TM.k, .int .i64 TM.n, .string TM.s, .slice a5 TM.keys.length b5, .slice a6 TM.kids.length b6] 32)))
  generalize w'.alloc (.cells #[.int .i64 TM.k, .int .i64 TM.n, .string TM.s, .slice a5 TM.keys.length b5, .slice a6 TM.kids.length b6] 32) = wc at *
  generalize w'.heap.size = bt at *
  have HSz : Hid (w.heap.size + 2 ≤ wc.heap.size) := H2.out.size
  have hn3 := one_ne HZ.out
  have hn4 := one_ne' HZ.out
  have hn5 : ¬ w.heap.size + 1 = bt := by have := HZ.out.old; omega
  have hn6 : ¬ bt = w.heap.size + 1 := by have := HZ.out.old; omega
  have x0 := cell_of H2.out.arg 0
  have x1 := cell_of H2.out.arg 1
  have x2 := cell_of H2.out.arg 2
  have x3 := cell_of H2.out.arg 3
  have x4 := cell_of H2.out.arg 4
  have x5 := cell_of H2.out.arg 5
  have x6 := cell_of H2.out.arg 6
  have x7 := cell_of H2.out.arg 7
  have x8 := cell_of H2.out.arg 8
  have x9 := cell_of H2.out.arg 9
  simp only [List.getElem?_toArray, List.getElem?_cons_zero, List.getElem?_cons_succ] at x0 x1 x2 x3 x4 x5 x6 x7 x8 x9
  obtain ⟨r0, r1, r2, r3, r4, r5⟩ := five HZ.out.at_
  go_region_held3 (fun w' => w'.cell? ⟨w.heap.size, 0, none⟩ = some (.string O.name) ∧ w'.cell? ⟨w.heap.size, 1, none⟩ = some (.string O.target) ∧ w'.cell? ⟨w.heap.size, 2, none⟩ = some (.int .i64 O.low) ∧ w'.cell? ⟨w.heap.size, 3, none⟩ = some (.int .i64 O.high) ∧ w'.cell? ⟨w.heap.size, 4, none⟩ = some (.slice om O.mets.length cm) ∧ w'.cell? ⟨w.heap.size, 5, none⟩ = some (.int .i64 O.pace.up) ∧ w'.cell? ⟨w.heap.size, 6, none⟩ = some (.int .i64 O.pace.down) ∧ w'.cell? ⟨w.heap.size, 7, none⟩ = some (.int .i64 O.pace.ups) ∧ w'.cell? ⟨w.heap.size, 8, none⟩ = some (.int .i64 O.pace.downs) ∧ w'.cell? ⟨w.heap.size, 9, none⟩ = some (.slice on_ O.notes.length cn)) (go_keep)
    (first
      | (go_at_call 75; refine (impl_paceNew _).mono ?_; rintro e w' ⟨rfl, hb⟩; (first | (have hq := stepA H2.out hb; have hw := hq.2; replace H2 := Lib.hid hq.1; replace HSz := Lib.hid (And.intro HSz.out hw.size); clear hq) | (have hq := stepB H2.out hb; have hw := hq.2; replace H2 := Lib.hid hq.1; replace HSz := Lib.hid (And.intro HSz.out hw.size); clear hq) | (have hq := stepC H2.out hb (by simp); have hw := hq.2.1; have HZ := Lib.hid hq.2.2.1; replace H2 := Lib.hid hq.1; replace HSz := Lib.hid (And.intro HSz.out hq.2.2.2); clear hq) | (have hq := stepD H2.out hb; have hw := hq.2.1; have HZ := Lib.hid hq.2.2.1; replace H2 := Lib.hid hq.1; replace HSz := Lib.hid (And.intro HSz.out hq.2.2.2); clear hq)); (try replace HZ := Lib.hid (HZ.out.next hw)); (try replace HFu := Lib.hid (HFu.out.next hw)); (try replace HUn := Lib.hid (HUn.out.next hw)); (try replace HT1 := Lib.hid (HT1.out.next hw)); (try replace HPt := Lib.hid (HPt.out.next hw)); clear hw hb; clear x0 x1 x2 x3 x4 x5 x6 x7 x8 x9; have x0 := cell_of H2.out.arg 0; have x1 := cell_of H2.out.arg 1; have x2 := cell_of H2.out.arg 2; have x3 := cell_of H2.out.arg 3; have x4 := cell_of H2.out.arg 4; have x5 := cell_of H2.out.arg 5; have x6 := cell_of H2.out.arg 6; have x7 := cell_of H2.out.arg 7; have x8 := cell_of H2.out.arg 8; have x9 := cell_of H2.out.arg 9; simp only [List.getElem?_toArray, List.getElem?_cons_zero, List.getElem?_cons_succ] at x0 x1 x2 x3 x4 x5 x6 x7 x8 x9; clear r0 r1 r2 r3 r4 r5; obtain ⟨r0, r1, r2, r3, r4, r5⟩ := five HZ.out.at_))
  all_goals
    obtain ⟨s0, s1, s2, s3, s4, s5⟩ := five H2.out.res
    have HL := Lib.hid (kid_end H2.out HT1.out HFar.out)
    go_wp2
    have HF := res_fin H2.out HL.out
    exact bodyPost_ret (ret_node Tryz.results30 rfl HF.1) rfl ⟨_, _, _, rfl, HF.2.1, HF.2.2.1, HF.2.2.2⟩
end Go.Proofs.YtfmkhogpnnobeaaGreatDoor
