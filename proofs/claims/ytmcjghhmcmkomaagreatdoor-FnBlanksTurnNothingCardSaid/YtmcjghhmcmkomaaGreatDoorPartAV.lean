/-
  What is proved: the program's Braced, at every tree: empty when it is not right; else what its parts are written as; condition: the library's table of powers of ten starts as the program's text lays it.; the law FnBracedIsIndented returns true at every code, and nothing that stood there turns; condition: the library's table of powers of ten, and its cell MaxLen holds a number.
-/
import Derived.Test.YtmcjghhmcmkomaaGreatDoorPartAJ
import Derived.Test.YtmcjghhmcmkomaaGreatDoorPartAU
import Derived.Test.YtmcjghhmcmkomaaGreatDoorPartAN
import Derived.Test.YtmcjghhmcmkomaaGreatDoorPartAK
import Derived.Test.YtmcjghhmcmkomaaGreatDoorPartAP
import Derived.Test.YtmcjghhmcmkomaaGreatDoorPartAT
/- the program's Braced, at every tree: empty when it is not right; else what its parts are written as; condition: the library's table of powers of ten starts as the program's text lays it. -/
namespace Go.Proofs.YtmcjghhmcmkomaaGreatDoor
open Go Go.RowKit

/-- The table of powers of ten, as it was laid. -/
abbrev Tab (w : World) : Prop := Lib.TabIs Tryz.prog w "internal/strconv.uint64pow10" .u64 Lib.pow10Tab

def BrAt (T : RT) : Prop := ∀ (w : World) (kv dv : Value) (F : List Nat), Lies w T kv dv F → T.right = true → T.size ≤ 200 → Tab w →
  Calls Tryz.prog 18 #[.agg #[.int .i64 T.k, .int .i64 T.n, .string T.s, kv, dv]] w fun e w' => e = .returned (.string ⟨T.brac.toArray⟩) ∧ Below w.heap.size w w'

section
variable (n : Int) (s : ByteArray) (ko o : Option Addr) (kl kc dl dc : Nat) (w : World)

set_option maxRecDepth 100000 in
set_option maxHeartbeats 400000 in
theorem br0 : Calls Tryz.prog 18 #[.agg #[.int .i64 0, .int .i64 n, .string s, .slice ko kl kc, .slice o dl dc]] w fun e w' => e = .returned (.string ⟨#[110, 117, 108, 108]⟩) ∧ Below w.heap.size w w' := by
  have HX := Lib.hid (Box.start w (.int .i64 0) (.int .i64 n) (.string s) (.slice ko kl kc) (.slice o dl dc) 27)
  have HF := Lib.hid (formOf_null n s ko o kl kc dl dc)
  have a_flag := as_flag_no 107 (by decide)
  have a_int := as_int_no 107 (by decide)
  have a_text := as_text_no 107 (by decide)
  have a_list := as_list_no 107 (by decide)
  have a_map := as_map_no 107 (by decide)
  go_enter Tryz.func18, Tryz.ntmps18
  go_wp2_with fail
  refine (HF.out _).mono ?_
  rintro e w1 ⟨rfl, hb1⟩
  have HX1 := Lib.hid (HX.out.next hb1)
  clear hb1
  go_wp2
  go_ret
  exact ⟨rfl, HX1.out.below⟩

set_option maxRecDepth 100000 in
set_option maxHeartbeats 400000 in
theorem br1 : Calls Tryz.prog 18 #[.agg #[.int .i64 1, .int .i64 n, .string s, .slice ko kl kc, .slice o dl dc]] w fun e w' => e = .returned (.string ⟨(if n = 1 then [116, 114, 117, 101] else [102, 97, 108, 115, 101] : List UInt8).toArray⟩) ∧ Below w.heap.size w w' := by
  have HX := Lib.hid (Box.start w (.int .i64 1) (.int .i64 n) (.string s) (.slice ko kl kc) (.slice o dl dc) 27)
  have HF := Lib.hid (formOf_flag n s ko o kl kc dl dc)
  have a_flag := as_flag_yes
  by_cases h : n = 1
  · rw [if_pos h]
    subst h
    go_enter Tryz.func18, Tryz.ntmps18
    go_wp2_with fail
    refine (HF.out _).mono ?_
    rintro e w1 ⟨rfl, hb1⟩
    have HX1 := Lib.hid (HX.out.next hb1)
    clear hb1
    go_wp2
    go_ret
    exact ⟨rfl, HX1.out.below⟩
  · rw [if_neg h]
    go_enter Tryz.func18, Tryz.ntmps18
    go_wp2_with fail
    refine (HF.out _).mono ?_
    rintro e w1 ⟨rfl, hb1⟩
    have HX1 := Lib.hid (HX.out.next hb1)
    clear hb1
    go_wp2
    go_ret
    exact ⟨rfl, HX1.out.below⟩

set_option maxRecDepth 100000 in
set_option maxHeartbeats 400000 in
theorem br2 (h0 : -1000000000000 ≤ n) (h1 : n ≤ 1000000000000) (ht : Tab w) : Calls Tryz.prog 18 #[.agg #[.int .i64 2, .int .i64 n, .string s, .slice ko kl kc, .slice o dl dc]] w fun e w' => e = .returned (.string ⟨(Lib.itoa n).toArray⟩) ∧ Below w.heap.size w w' := by
  have HX := Lib.hid (Box.start w (.int .i64 2) (.int .i64 n) (.string s) (.slice ko kl kc) (.slice o dl dc) 27)
  have HF := Lib.hid (formOf_int n s ko o kl kc dl dc)
  have HT := Lib.hid (Lib.tabBelow_of_tabIs ht)
  have HD := Lib.hid (impl_digits n (by omega) (by omega))
  have a_flag := as_flag_no 66 (by decide)
  have a_int := as_int_yes
  clear h0 h1 ht
  go_enter Tryz.func18, Tryz.ntmps18
  go_wp2_with fail
  refine (HF.out _).mono ?_
  rintro e w1 ⟨rfl, hb1⟩
  have HX1 := Lib.hid (HX.out.next hb1)
  clear hb1
  go_wp2_with fail
  refine (HD.out _ (HT.out _ HX1.out.below)).mono ?_
  rintro e w2 ⟨rfl, hb2⟩
  have HX2 := Lib.hid (HX1.out.next hb2)
  clear hb2
  go_wp2
  go_ret
  exact ⟨rfl, HX2.out.below⟩

set_option maxRecDepth 100000 in
set_option maxHeartbeats 400000 in
theorem br3 (hs : s.size ≤ maxLen) : Calls Tryz.prog 18 #[.agg #[.int .i64 3, .int .i64 n, .string s, .slice ko kl kc, .slice o dl dc]] w fun e w' => e = .returned (.string (quoteT s)) ∧ Below w.heap.size w w' := by
  have HX := Lib.hid (Box.start w (.int .i64 3) (.int .i64 n) (.string s) (.slice ko kl kc) (.slice o dl dc) 27)
  have HF := Lib.hid (formOf_text n s ko o kl kc dl dc)
  have HD := Lib.hid (impl_quote s hs)
  have a_flag := as_flag_no 68 (by decide)
  have a_int := as_int_no 68 (by decide)
  have a_text := as_text_yes
  go_enter Tryz.func18, Tryz.ntmps18
  go_wp2_with fail
  refine (HF.out _).mono ?_
  rintro e w1 ⟨rfl, hb1⟩
  have HX1 := Lib.hid (HX.out.next hb1)
  clear hb1
  go_wp2_with fail
  refine (HD.out _).mono ?_
  rintro e w2 ⟨rfl, hb2⟩
  have HX2 := Lib.hid (HX1.out.next hb2)
  clear hb2
  go_wp2
  go_ret
  exact ⟨rfl, HX2.out.below⟩
end

def mkB (l : List UInt8) : ByteArray := ⟨l.toArray⟩
theorem mkB_list (l : List UInt8) : (mkB l).data.toList = l := rfl
theorem bracAll_take (l : List RT) (i : Nat) (h : i < l.length) : (bracAll (l.take (i + 1))).map mkB = (bracAll (l.take i)).map mkB ++ [mkB l[i].brac] := by
  induction l generalizing i with
  | nil => simp at h
  | cons t l ih =>
    cases i with
    | zero => simp [bracAll]
    | succ i => simpa [bracAll] using ih i (by simpa using h)

set_option maxRecDepth 100000 in
set_option maxHeartbeats 1000000 in
theorem impl_bracedAll (kids : List RT) (ih : ∀ t ∈ kids, BrAt t) (w : World) (dv : Value) (FD : List Nat) (hD : KidsLie w dv kids FD) (hr : ∀ i (h : i < kids.length), kids[i].right = true) (hz : sizeAll kids ≤ 200) (hn : kids.length ≤ 1000000) (ht : Tab w) :
    Calls Tryz.prog 42 #[dv] w fun e w' => ∃ o c, e = .returned (.slice o kids.length c) ∧ Txts w w' (.slice o kids.length c) ((bracAll kids).map mkB) ∧ Below w.heap.size w w' := by
  have HT := Lib.hid (Lib.tabBelow_of_tabIs ht)
  have HK := Lib.hid hr
  obtain ⟨o, cap, b, off, FF, KV, DV, rfl, hlc, hcm, ho, -, hcell, hlies, -⟩ := hD
  have HC := Lib.hid hcell
  have HL := Lib.hid hlies
  have HO := Lib.hid ho
  clear hcell hlies ho hr ht
  unfold maxLen at hcm
  go_enter Tryz.func42, Tryz.ntmps42
  go_wp2
  go_loopw [3, 8] (fun v q wr => ∃ (j : Nat) (o1 : Option Addr) (c1 : Nat), j ≤ kids.length ∧ v = .slice o1 j c1 ∧ q = .int .i64 j ∧ Hid (Txts w wr (.slice o1 j c1) ((bracAll (kids.take j)).map mkB) ∧ Below w.heap.size w wr)) (fun _ q _ => kids.length - (intOf q).toNat)
  case atStart => exact ⟨0, none, 0, Nat.zero_le _, rfl, rfl, Txts.nil _ _, Below.refl _ _⟩
  case round =>
    obtain ⟨j, o1, c1, hj, rfl, rfl, hr⟩ := hrel
    by_cases hlt : j < kids.length
    · have ho := HO.out (by omega)
      subst ho
      have hlt' : (j : Int) < kids.length := by omega
      obtain ⟨e0, e1, e2, e3, e4⟩ := kid_cells (HC.out j hlt) hr.out.2
      obtain ⟨⟨p1, q1, s1⟩, ⟨p2, q2, s2⟩⟩ := (HL.out j hlt).slices
      have hzj : kids[j].size ≤ 200 := by
        have e1 := sizeAll_take kids j hlt
        have e2 := sizeAll_take_le kids (j + 1)
        omega
      have HI := Lib.hid (fun (w1 : World) (hb1 : Below w.heap.size w w1) => ih _ (List.getElem_mem hlt) w1 _ _ _ ((HL.out j hlt).stay hb1 (Nat.le_refl _)) (HK.out j hlt) hzj (HT.out _ hb1))
      have HA := Lib.hid (bracAll_take kids j hlt)
      have HLn : Hid (((bracAll (kids.take j)).map mkB).length = j) := by
        show _ = _
        rw [List.length_map, bracAll_length, List.length_take]
        omega
      have HB := Lib.hid hr.out.2
      have HY := Lib.hid hr.out.1
      have hB1 : Hid (∀ ob, Below wr.heap.size wr (wr.alloc ob)) := fun ob => (Below.refl _ _).alloc (Nat.le_refl _) _
      clear hr hzj
      generalize (bracAll (kids.take j)).map mkB = L at *
      generalize kids[j] = x at *
      generalize KV j = v1 at *
      generalize DV j = v2 at *
      subst s1 s2
      go_wp2_with fail
      refine (HI.out _ (HB.out.trans ((hB1.out _).mono HB.out.size))).mono ?_
      rintro e w2 ⟨rfl, hb2⟩
      have HB2 := Lib.hid ((hB1.out _).trans (hb2.mono (hB1.out _).size))
      have HY2 := Lib.hid (HY.out.on HB2.out)
      have HM : Hid (∀ ty, ∃ v' w', (Builtin.append_ #[24, 24] ty #[.slice o1 j c1, .slice (some ⟨w2.heap.size, 0, none⟩) 1 1]).run Tryz.prog (w2.alloc (.cells #[.string ⟨x.brac.toArray⟩] 9)) = .ok v' w' ∧ ∃ o' c', v' = .slice o' (j + 1) c' ∧ Txts w w' (.slice o' (j + 1) c') (L ++ [mkB x.brac]) ∧ Below w.heap.size w w') := fun ty => by
        obtain ⟨v', w', g1, o', c', g2, g3, g4⟩ := HY2.out.more (HB.out.trans (HB2.out.mono HB.out.size)).size ⟨x.brac.toArray⟩ (by rw [HLn.out]; omega) ty
        rw [HLn.out] at g2 g3
        exact ⟨v', w', g1, o', c', g2, g3, (HB.out.trans (HB2.out.mono HB.out.size)).trans g4⟩
      clear hb2 e0 e1 e2 e3 e4
      go_wp2_with (first
        | (at_builtin; refine list_append rfl _ _ 24 rfl _ _ rfl rfl (HM.out _) ?_; rintro v3 w3 ⟨o3, c3, rfl, h1, h2⟩; have H3 := Lib.hid (And.intro h1 h2); clear h1 h2)
        | fail)
      exact ⟨⟨j + 1, o3, c3, hlt, rfl, by go_num, by rw [HA.out]; exact H3.out.1, H3.out.2⟩, by simp [intOf]; omega⟩
    · have e : j = kids.length := by omega
      subst e
      have HE : Hid (Txts w wr (.slice o1 kids.length c1) ((bracAll kids).map mkB) ∧ Below w.heap.size w wr) := by
        have := hr.out
        rw [List.take_of_length_le (Nat.le_refl _)] at this
        exact this
      clear hr
      go_wp2
      go_ret
      exact ⟨o1, c1, rfl, HE.out.1, HE.out.2⟩

/-- Parts with a key ahead of them up to j, the others without. -/
def mix (P B : List ByteArray) (j : Nat) : List ByteArray := P.take j ++ B.drop j
theorem mix_zero (P B : List ByteArray) : mix P B 0 = B := by simp [mix]
theorem mix_end (P B : List ByteArray) (j : Nat) (h1 : P.length ≤ j) (h2 : B.length ≤ j) : mix P B j = P := by simp [mix, List.take_of_length_le h1, List.drop_eq_nil_of_le h2]
theorem mix_length {P B : List ByteArray} (h : P.length = B.length) (j : Nat) (hj : j ≤ B.length) : (mix P B j).length = B.length := by simp [mix]; omega
theorem mix_get {P B : List ByteArray} (h : P.length = B.length) (j : Nat) (hj : j < B.length) : (mix P B j)[j]? = B[j]? := by
  unfold mix
  rw [List.getElem?_append_right (by simp; omega), List.length_take]
  simp
  congr 1
  omega
theorem mix_set {P B : List ByteArray} (h : P.length = B.length) (j : Nat) (hj : j < B.length) (x : ByteArray) (hx : P[j]? = some x) : (mix P B j).set j x = mix P B (j + 1) := by
  unfold mix
  rw [List.set_append_right _ _ (by simp; omega), List.length_take, List.take_add_one, hx, show j - min j P.length = 0 by omega]
  have e : List.drop j B = B[j] :: List.drop (j + 1) B := List.drop_eq_getElem_cons hj
  rw [e, List.set_cons_zero, List.append_assoc]
  rfl

theorem map_mkB (l : List (List UInt8)) : (l.map mkB).map (·.data.toList) = l := by
  rw [List.map_map]
  exact (List.map_congr_left fun x _ => mkB_list x).trans (List.map_id _)

set_option maxRecDepth 100000 in
set_option maxHeartbeats 1000000 in
theorem br4 (n : Int) (s : ByteArray) (keys : List ByteArray) (kids : List RT) (ih : ∀ t ∈ kids, BrAt t) (w : World) (ko : Option Addr) (kl kc : Nat) (dv : Value) (FD : List Nat) (hD : KidsLie w dv kids FD) (hr : (RT.node 4 n s keys kids).right = true) (hz : (RT.node 4 n s keys kids).size ≤ 200) (hn : kids.length ≤ 1000000) (ht : Tab w) :
    Calls Tryz.prog 18 #[.agg #[.int .i64 4, .int .i64 n, .string s, .slice ko kl kc, dv]] w fun e w' => e = .returned (.string ⟨((RT.node 4 n s keys kids).brac).toArray⟩) ∧ Below w.heap.size w w' := by
  have hz' : sizeAll kids + 1 ≤ 200 := hz
  have HTL := Lib.hid (parts_take_le hr (.inl rfl) kids.length)
  have HK : Hid (∀ i (h : i < kids.length), kids[i].right = true) := (right_out hr).2
  have HBR : Hid ((RT.node 4 n s keys kids).brac = [91] ++ (Lib.join (partsOf 4 keys kids) [44] ++ [93])) := brac4
  have HP : Hid (partsOf 4 keys kids = bracAll kids) := if_pos rfl
  generalize (RT.node 4 n s keys kids).brac = BR at *
  have HA := Lib.hid (fun (w1 : World) (hb : Below w.heap.size w w1) => impl_bracedAll kids ih w1 dv FD (hD.stay hb (Nat.le_refl _)) HK.out (by omega) hn (Lib.tabBelow_of_tabIs ht _ hb))
  obtain ⟨o, c, rfl⟩ := hD.slice
  clear hr hz hD ht
  have HX := Lib.hid (Box.start w (.int .i64 4) (.int .i64 n) (.string s) (.slice ko kl kc) (.slice o kids.length c) 27)
  have HF := Lib.hid (formOf_list n s ko o kl kc kids.length c)
  have a_flag := as_flag_no 70 (by decide)
  have a_int := as_int_no 70 (by decide)
  have a_text := as_text_no 70 (by decide)
  have a_list := as_list_yes
  go_enter Tryz.func18, Tryz.ntmps18
  go_wp2_with fail
  refine (HF.out _).mono ?_
  rintro e w1 ⟨rfl, hb1⟩
  have HX1 := Lib.hid (HX.out.next hb1)
  clear hb1
  go_wp2_with fail
  refine (HA.out _ HX1.out.below).mono ?_
  rintro e w2 ⟨o2, c2, rfl, ht2, hb2⟩
  have HX2 := Lib.hid (HX1.out.next hb2)
  have HJ : Hid (Calls Tryz.prog 41 #[.slice o2 kids.length c2, .string ⟨#[44]⟩] w2 fun e w' => e = .returned (.string (mkB (Lib.join (bracAll kids) [44]))) ∧ Below w2.heap.size w2 w') := by
    have h1 := HTL.out
    rw [HP.out, List.take_of_length_le (by rw [bracAll_length]; exact Nat.le_refl _)] at h1
    have := join_row ht2 (by rw [List.length_map, bracAll_length]; exact hn) (by rw [map_mkB]; omega)
    rw [map_mkB] at this
    exact this
  clear hb2 ht2
  go_wp2_with fail
  refine HJ.out.mono ?_
  rintro e w3 ⟨rfl, hb3⟩
  have HX3 := Lib.hid (HX2.out.next hb3)
  clear hb3
  generalize hY : mkB (Lib.join (bracAll kids) [44]) = Y at *
  have hYz : Y.size ≤ 341000 := by
    have h1 := HTL.out
    rw [HP.out, List.take_of_length_le (by rw [bracAll_length]; exact Nat.le_refl _)] at h1
    rw [← hY]
    show (Lib.join (bracAll kids) [44]).length ≤ _
    omega
  have HE : Hid (⟨#[91]⟩ ++ Y ++ ⟨#[93]⟩ = (⟨BR.toArray⟩ : ByteArray)) := by
    show _ = _
    refine ext_list ?_
    rw [cat_list, cat_list, ← hY, mkB_list, HBR.out, HP.out]
    simp
  clear hY
  go_wp2
  go_ret
  exact ⟨by rw [← HE.out]; rfl, HX3.out.below⟩


set_option maxRecDepth 100000 in
set_option maxHeartbeats 1000000 in
theorem br5 (n : Int) (s : ByteArray) (keys : List ByteArray) (kids : List RT) (ih : ∀ t ∈ kids, BrAt t) (w : World) (kv dv : Value) (FK FD : List Nat) (hK : StrsAt w kv keys FK) (hD : KidsLie w dv kids FD) (hr : (RT.node 5 n s keys kids).right = true) (hz : (RT.node 5 n s keys kids).size ≤ 200) (hn : kids.length ≤ 1000000) (ht : Tab w) :
    Calls Tryz.prog 18 #[.agg #[.int .i64 5, .int .i64 n, .string s, kv, dv]] w fun e w' => e = .returned (.string ⟨((RT.node 5 n s keys kids).brac).toArray⟩) ∧ Below w.heap.size w w' := by
  have hz' : sizeAll kids + 1 ≤ 200 := hz
  have HTL := Lib.hid (parts_take_le hr (.inr rfl) kids.length)
  have HK : Hid (∀ i (h : i < kids.length), kids[i].right = true) := (right_out hr).2
  have HBR : Hid ((RT.node 5 n s keys kids).brac = [123] ++ (Lib.join (partsOf 5 keys kids) [44] ++ [125])) := brac5
  have hkl : keys.length = kids.length := by
    have := (right_out hr).1
    simp only [HeadOk, RT.k, RT.n, RT.s, RT.keys, RT.kids] at this
    omega
  have HP : Hid ((partsOf 5 keys kids).length = kids.length) := partsOf_length (.inr hkl)
  generalize (RT.node 5 n s keys kids).brac = BR at *
  have HA := Lib.hid (fun (w1 : World) (hb : Below w.heap.size w w1) => impl_bracedAll kids ih w1 dv FD (hD.stay hb (Nat.le_refl _)) HK.out (by omega) hn (Lib.tabBelow_of_tabIs ht _ hb))
  obtain ⟨o, c, rfl⟩ := hD.slice
  obtain ⟨ko, kc, kb, koff, rfl, hklc, hkcm, hko, -, hkcell, -⟩ := hK
  have HKC := Lib.hid hkcell
  have HKO := Lib.hid hko
  have HKL : Hid (keys.length = kids.length) := hkl
  rw [hkl] at hklc ⊢
  unfold maxLen at hkcm
  clear hr hz hD ht hkcell hko hkl
  have HX := Lib.hid (Box.start w (.int .i64 5) (.int .i64 n) (.string s) (.slice ko kids.length kc) (.slice o kids.length c) 27)
  have HF := Lib.hid (formOf_map n s ko o kids.length kc kids.length c)
  have a_flag := as_flag_no 74 (by decide)
  have a_int := as_int_no 74 (by decide)
  have a_text := as_text_no 74 (by decide)
  have a_list := as_list_no 74 (by decide)
  have a_map := as_map_yes
  go_enter Tryz.func18, Tryz.ntmps18
  go_wp2_with fail
  refine (HF.out _).mono ?_
  rintro e w1 ⟨rfl, hb1⟩
  have HX1 := Lib.hid (HX.out.next hb1)
  clear hb1
  go_wp2_with fail
  have HbA := Lib.hid ((Below.refl w1.heap.size w1).alloc (Nat.le_refl _) (.cells #[.slice ko kids.length kc, .slice o kids.length c] 74))
  refine (HA.out _ (HX1.out.next HbA.out).below).mono ?_
  rintro e w2 ⟨o2, c2, rfl, ht2, hb2⟩
  have HX2 := Lib.hid ((HX1.out.next HbA.out).next hb2)
  have HT2 : Hid (Txts w w2 (.slice o2 kids.length c2) ((bracAll kids).map mkB)) := ht2.early (HX1.out.next HbA.out).below.size
  have hlast := heap_last w1 (.cells #[.slice ko kids.length kc, .slice o kids.length c] 74)
  have f0 : w2.cell? ⟨w1.heap.size, 0, none⟩ = some (.slice ko kids.length kc) := by
    rw [hb2.cell (by simp)]; exact cell_of hlast 0
  have f1 : w2.cell? ⟨w1.heap.size, 1, none⟩ = some (.slice o kids.length c) := by
    rw [hb2.cell (by simp)]; exact cell_of hlast 1
  clear hb2 ht2 hlast
  go_wp2
  have HPB : Hid (((partsOf 5 keys kids).map mkB).length = ((bracAll kids).map mkB).length ∧ ((bracAll kids).map mkB).length = kids.length) := by
    refine ⟨?_, ?_⟩
    · rw [List.length_map, List.length_map, HP.out, bracAll_length]
    · rw [List.length_map, bracAll_length]
  have HPj : Hid (∀ j (h : j < kids.length) (hk : j < keys.length), ((partsOf 5 keys kids).map mkB)[j]? = some (mkB (keyed keys[j] kids[j].brac)) ∧ ((bracAll kids).map mkB)[j]? = some (mkB kids[j].brac)) := fun j h hk => by
    rw [List.getElem?_map, partsOf_map j h hk, List.getElem?_map, bracAll_get kids j h]
    exact ⟨rfl, rfl⟩
  have HBk : Hid (∀ j (h : j < kids.length), kids[j].brac.length ≤ 341000) := fun j h => by
    have h1 := brac_le _ (HK.out j h)
    have e1 := sizeAll_take kids j h
    have e2 := sizeAll_take_le kids (j + 1)
    omega
  have HB2 := Lib.hid HX2.out.below
  generalize hPP : (partsOf 5 keys kids).map mkB = PP at *
  generalize (bracAll kids).map mkB = BB at *
  have HPP : Hid ((partsOf 5 keys kids).map mkB = PP) := hPP
  clear hPP HX HX1 HX2 HbA HF HA f0 f1
  go_loopw [51] (fun q wr => ∃ j : Nat, j ≤ kids.length ∧ q = .int .i64 j ∧ Hid (Txts w wr (.slice o2 kids.length c2) (mix PP BB j) ∧ Below w.heap.size w wr)) (fun q _ => kids.length - (intOf q).toNat)
  case atStart => exact ⟨0, Nat.zero_le _, rfl, by rw [mix_zero]; exact HT2.out, HB2.out⟩
  case round =>
    obtain ⟨j, hj, rfl, hr⟩ := hrel
    by_cases hlt : j < kids.length
    · have hko := HKO.out (by omega)
      subst hko
      have hlt' : (j : Int) < kids.length := by omega
      have hkj : j < keys.length := by rw [HKL.out]; exact hlt
      obtain ⟨d0, dz⟩ := HKC.out j hkj
      have d1 : wr.cell? ⟨kb, koff + j, none⟩ = some (.string keys[j]) := by
        rw [hr.out.2.cell (by exact World.block_lt_of_cell? _ _ d0)]; exact d0
      have hml := mix_length HPB.out.1 j (by rw [HPB.out.2]; exact hj)
      rw [HPB.out.2] at hml
      obtain ⟨g, c', hv, hgc, hgm, hgo, hgl⟩ := hr.out.1.form (by rw [hml]; omega)
      rw [hml] at hv hgc
      cases hv
      have HTx : Hid (Txts w wr (.slice (some ⟨g, 0, none⟩) (mix PP BB j).length c2) (mix PP BB j)) := by rw [hml]; exact hr.out.1
      have HQ := Lib.hid (impl_quote keys[j] dz)
      have HQZ := Lib.hid (quoteT_length keys[j])
      have HPJ := Lib.hid (HPj.out j hlt hkj)
      have HZ := Lib.hid (HBk.out j hlt)
      have HB := Lib.hid hr.out.2
      have HML : Hid ((mix PP BB j).length = kids.length) := hml
      unfold maxLen at hgm
      clear hr d0 dz hml
      generalize kids[j] = x at *
      generalize keys[j] = y at *
      clear hkj
      have hmj : (mix PP BB j)[j]? = some (mkB x.brac) := (mix_get HPB.out.1 j (by rw [HPB.out.2]; exact hlt)).trans HPJ.out.2
      have p0 := HTx.out.cell j _ hmj
      have p1 := HTx.out.free j
      have HQc : Hid (∀ W, Calls Tryz.prog 40 #[.string y] W fun e w' => ∃ v, e = .returned v ∧ v = .string (quoteT y) ∧ Below W.heap.size W w') := fun W => by
        refine (HQ.out W).mono ?_
        rintro e w' ⟨rfl, h⟩
        exact ⟨_, rfl, rfl, h⟩
      have HPut : Hid (∀ w5 : World, Below wr.heap.size wr w5 → Txts w (w5.setCell ⟨g, j, none⟩ (.string (quoteT y ++ ⟨#[58]⟩ ++ mkB x.brac))) (.slice (some ⟨g, 0, none⟩) kids.length c2) (mix PP BB (j + 1)) ∧ Below w.heap.size w (w5.setCell ⟨g, j, none⟩ (.string (quoteT y ++ ⟨#[58]⟩ ++ mkB x.brac)))) := fun w5 hb5 => by
        have h1 := (HTx.out.on hb5).put j (quoteT y ++ ⟨#[58]⟩ ++ mkB x.brac)
        rw [mix_set HPB.out.1 j (by rw [HPB.out.2]; exact hlt) _ (by
          rw [HPJ.out.1]
          refine congrArg some (ext_list ?_).symm
          rw [cat_list, cat_list, mkB_list]
          simp [keyed]), HML.out] at h1
        exact ⟨h1, (HB.out.trans (hb5.mono HB.out.size)).setCell hgo _⟩
      have hYz : (quoteT y).size ≤ 802 := by have := HQZ.out; simpa using this
      have hXz : (mkB x.brac).size ≤ 341000 := HZ.out
      clear HQ hmj
      generalize quoteT y = Y at *
      generalize mkB x.brac = X at *
      have hgl' : Hid (g < wr.heap.size) := hgl
      clear hgl
      have q1 : ¬ 9223372036854775807 < Y.size + 1 := by omega
      have q2 : ¬ 9223372036854775807 < Y.size + 1 + X.size := by omega
      go_wp2
      go_region_law (first
        | (refine step_calls (by rfl) 40 _ _ (by rfl) #[.string y] (by simp [Act.eval, Act.put]) (by intros; simp [go_sem]) (fun _ _ => rfl) (HQc.out _) ?_
           rintro u w5 ⟨rfl, hb5⟩
           have hb05 := (below_drewN (Below.refl wr.heap.size wr) 1).trans (hb5.mono (Nat.le_refl _))
           have m0 : w5.cell? ⟨g, j, none⟩ = some (.string X) := (hb05.cell (by exact hgl'.out)).trans p0
           have m1 : w5.frozen? ⟨g, j, none⟩ = false := (hb05.frozen (by exact hgl'.out)).trans p1
           have H5 := Lib.hid (HPut.out _ hb05)
           clear hb5 hb05)
        | fail)
      all_goals go_wp2
      all_goals exact ⟨⟨j + 1, hlt, by go_num, H5.out.1, H5.out.2⟩, by simp [intOf]; omega⟩
    · have HE : Hid (Txts w wr (.slice o2 kids.length c2) PP ∧ Below w.heap.size w wr) := by
        have h1 := hr.out
        rw [mix_end PP BB j (by rw [HPB.out.1, HPB.out.2]; omega) (by rw [HPB.out.2]; omega)] at h1
        exact h1
      clear hr
      have HTL2 : Hid ((Lib.join (partsOf 5 keys kids) [44]).length ≤ 341000) := by
        have h1 := HTL.out
        rw [List.take_of_length_le (by rw [HP.out]; exact Nat.le_refl _)] at h1
        show _ ≤ _
        omega
      have HJ : Hid (Calls Tryz.prog 41 #[.slice o2 kids.length c2, .string ⟨#[44]⟩] wr fun e w' => e = .returned (.string (mkB (Lib.join (partsOf 5 keys kids) [44]))) ∧ Below wr.heap.size wr w') := by
        have h1 := HE.out.1
        rw [← HPP.out] at h1
        have := join_row h1 (by rw [List.length_map, HP.out]; exact hn) (by rw [map_mkB]; have := HTL2.out; omega)
        rw [map_mkB] at this
        exact this
      go_wp2_with fail
      refine HJ.out.mono ?_
      rintro e w3 ⟨rfl, hb3⟩
      have HX3 := Lib.hid (HE.out.2.trans (hb3.mono HE.out.2.size))
      clear hb3
      generalize hY : mkB (Lib.join (partsOf 5 keys kids) [44]) = Y at *
      have hYz : Y.size ≤ 341000 := by
        rw [← hY]
        exact HTL2.out
      have HEE : Hid (⟨#[123]⟩ ++ Y ++ ⟨#[125]⟩ = (⟨BR.toArray⟩ : ByteArray)) := by
        show _ = _
        refine ext_list ?_
        rw [cat_list, cat_list, ← hY, mkB_list, HBR.out]
        simp
      clear hY
      go_wp2
      go_ret
      exact ⟨by rw [← HEE.out]; rfl, HX3.out⟩

theorem length_le_size : (l : List RT) → l.length ≤ sizeAll l
  | [] => Nat.zero_le _
  | t :: l => by
    have h1 : 1 ≤ t.size := by cases t; rw [RT.size]; omega
    have h2 := length_le_size l
    simp only [List.length_cons, sizeAll]
    omega

theorem impl_brac (T : RT) : BrAt T := by
  induction T using RT.ind with
  | h k n s keys kids ih =>
    intro w kv dv F hl hr hz ht
    obtain ⟨hh, -⟩ := right_out hr
    obtain ⟨-, -, hs, FK, FD, hK, hD, -⟩ := hl.outn
    have hn : kids.length ≤ 1000000 := by
      have h1 : sizeAll kids + 1 ≤ 200 := hz
      have h2 := length_le_size kids
      omega
    show Calls Tryz.prog 18 #[.agg #[.int .i64 k, .int .i64 n, .string s, kv, dv]] w _
    simp only [HeadOk, RT.k, RT.n, RT.s, RT.keys, RT.kids] at hh
    have hK' := hK
    have hD' := hD
    obtain ⟨ko, kc, rfl⟩ := hK.slice
    rcases hh with ⟨rfl, h⟩ | ⟨rfl, h⟩ | ⟨rfl, h, -⟩ | ⟨rfl, h⟩ | ⟨rfl, h⟩ | ⟨rfl, h⟩
    · obtain ⟨o, dc, rfl⟩ := hD.slice
      rw [brac0]; exact br0 n s _ _ _ _ _ _ w
    · obtain ⟨o, dc, rfl⟩ := hD.slice
      rw [brac1]; exact br1 n s _ _ _ _ _ _ w
    · obtain ⟨o, dc, rfl⟩ := hD.slice
      rw [brac2]; exact br2 n s _ _ _ _ _ _ w h.1 h.2 ht
    · obtain ⟨o, dc, rfl⟩ := hD.slice
      rw [brac3]; exact br3 n s _ _ _ _ _ _ w hs
    · exact br4 n s keys kids ih w ko _ kc dv FD hD' hr hz hn ht
    · exact br5 n s keys kids ih w _ dv FK FD hK' hD' hr hz hn ht

set_option maxRecDepth 100000 in
set_option maxHeartbeats 400000 in
theorem impl_braced (T : RT) (w : World) (kv dv : Value) (F : List Nat) (hl : Lies w T kv dv F) (ht : Tab w) :
    Calls Tryz.prog 7 #[.agg #[.int .i64 T.k, .int .i64 T.n, .string T.s, kv, dv]] w fun e w' => e = .returned (.string (bracT T)) ∧ Below w.heap.size w w' := by
  have HX := Lib.hid (Box.start w (.int .i64 T.k) (.int .i64 T.n) (.string T.s) kv dv 27)
  have HR := Lib.hid (fun wr hb => impl_treeOk T wr kv dv F (hl.stay hb (Nat.le_refl _)))
  have HT := Lib.hid (fun wr hb h1 h2 => impl_brac T wr kv dv F (hl.stay hb (Nat.le_refl _)) h1 h2 (Lib.tabBelow_of_tabIs ht _ hb))
  obtain ⟨⟨o1, c1, rfl⟩, ⟨o2, c2, rfl⟩⟩ := hl.slices
  clear hl ht
  by_cases hok : treeOk T = true
  · have HO := Lib.hid (treeOk_out hok)
    have HE : Hid (bracT T = ⟨T.brac.toArray⟩) := if_pos hok
    rw [hok] at HR
    clear hok
    go_enter Tryz.func7, Tryz.ntmps7
    go_wp2_with (first
      | (go_at_call 17; refine (HR.out _ HX.out.below).mono ?_; rintro e w1 ⟨rfl, hb1⟩; have HX1 := Lib.hid (HX.out.next hb1); obtain ⟨-, -, x0, x1, x2, x3, x4⟩ := HX1.out; clear hb1)
      | (go_at_call 18; refine (HT.out _ HX1.out.below HO.out.2 HO.out.1).mono ?_; rintro e w2 ⟨rfl, hb2⟩; have HX2 := Lib.hid (HX1.out.next hb2); clear hb2)
      | fail)
    go_ret
    exact ⟨by rw [HE.out]; rfl, HX2.out.below⟩
  · have HE : Hid (bracT T = ⟨#[]⟩) := if_neg hok
    have hok' : treeOk T = false := by simpa using hok
    rw [hok'] at HR
    clear hok hok'
    go_enter Tryz.func7, Tryz.ntmps7
    go_wp2_with (first
      | (go_at_call 17; refine (HR.out _ HX.out.below).mono ?_; rintro e w1 ⟨rfl, hb1⟩; have HX1 := Lib.hid (HX.out.next hb1); clear hb1)
      | fail)
    go_ret
    exact ⟨by rw [HE.out]; rfl, HX1.out.below⟩
end Go.Proofs.YtmcjghhmcmkomaaGreatDoor

/- the law FnBracedIsIndented returns true at every code, and nothing that stood there turns; condition: the library's table of powers of ten, and its cell MaxLen holds a number. -/
namespace Go.Proofs.YtmcjghhmcmkomaaGreatDoor
open Go Go.RowKit

theorem cur_anew {w : World} {a : Option Addr} {len cap : Nat} (h : CodeAt w a len) (x : Int) :
    Cur (w.alloc (.cells #[.slice a len cap, .int .i64 0, .int .i64 x] 58)) w.heap.size a len cap :=
  ⟨cur_new w a len cap x, h.on ((Below.refl _ w).alloc (Nat.le_refl _) _), h.apart (Nat.le_refl _)⟩

theorem below_anew {w w' : World} {o : Obj} (hg : (w.alloc o).grownBy w' (some w.heap.size)) : Below w.heap.size w w' := by
  have hb := (Below.refl _ w).alloc (Nat.le_refl _) o
  refine ⟨hg.os.trans hb.os, hg.tape.trans hb.tape, hg.output.trans hb.output, Nat.le_trans hb.size hg.size, fun k hk => (hg.block k (Nat.lt_of_lt_of_le hk hb.size) (fun e => ?_)).trans (hb.block k hk)⟩
  injection e with e
  omega

set_option maxRecDepth 100000 in
set_option maxHeartbeats 1000000 in
theorem drawBraced_any (a : Option Addr) (len cap : Nat) (w : World) (hcode : CodeAt w a len) :
    Calls Tryz.prog 6 #[.slice a len cap] w fun e w' => ∃ T kv dv F, e = .returned (.agg #[.int .i64 T.k, .int .i64 T.n, .string T.s, kv, dv]) ∧ Lies w' T kv dv F ∧ Below w.heap.size w w' ∧ T.wz ≤ 3000 := by
  have hb0 := (Below.refl _ w).alloc (Nat.le_refl _) (.cells #[.int .i64 0, .int .i64 0, .string ⟨#[]⟩, .slice none 0 0, .slice none 0 0] 27)
  have HC := Lib.hid (hcode.on hb0)
  have HZ := Lib.hid (And.intro (heap_last w (.cells #[.int .i64 0, .int .i64 0, .string ⟨#[]⟩, .slice none 0 0, .slice none 0 0] 27)) hb0)
  clear hcode hb0
  go_enter Tryz.func6, Tryz.ntmps6
  go_wp2_with fail
  generalize w.alloc (.cells #[.int .i64 0, .int .i64 0, .string ⟨#[]⟩, .slice none 0 0, .slice none 0 0] 27) = w0 at *
  have HD : Hid (∀ x : Int, Calls Tryz.prog 15 #[.pointer (some ⟨w0.heap.size, 0, none⟩)] (w0.alloc (.cells #[.slice a len cap, .int .i64 0, .int .i64 x] 58)) fun e w' => ∃ T kv dv F, e = .returned (.agg #[.int .i64 T.k, .int .i64 T.n, .string T.s, kv, dv]) ∧ Lies w' T kv dv F ∧ (∀ y ∈ F, w0.heap.size ≤ y) ∧ Below w0.heap.size w0 w' ∧ T.wz ≤ 3000) := fun x => by
    refine (draw_all a len cap _ _ (cur_anew HC.out x)).mono ?_
    rintro e w2 ⟨T, kt, dt, FT, rfl, hl, hf, -, hg, hz⟩
    exact ⟨T, kt, dt, FT, rfl, hl, fun y hy => by have h1 := hf.old y hy; have h2 := ((Below.refl _ w0).alloc (Nat.le_refl _) (.cells #[.slice a len cap, .int .i64 0, .int .i64 x] 58)).size; omega, below_anew hg, hz⟩
  refine (new_any a len cap _ HC.out).mono ?_
  rintro e w1 ⟨rfl, x, rfl⟩
  have HD1 := Lib.hid (HD.out x)
  clear HD HC
  have hlt : w.heap.size < w0.heap.size := (Array.getElem?_eq_some_iff.1 HZ.out.1).1
  generalize w0.alloc (.cells #[.slice a len cap, .int .i64 0, .int .i64 x] 58) = w1 at *
  generalize hp : w0.heap.size = p at *
  go_wp2_with fail
  refine HD1.out.mono ?_
  rintro e w2 ⟨T, kt, dt, FT, rfl, hl, hf, hb2, hz⟩
  obtain ⟨⟨o1, c1, rfl⟩, ⟨o2, c2, rfl⟩⟩ := hl.slices
  have hz2 := blk_nextR HZ.out.1 (by rw [hp]; exact hb2)
  have HF : Hid (Lies w2 T (.slice o1 T.keys.length c1) (.slice o2 T.kids.length c2) FT ∧ (∀ y ∈ FT, y ≠ w.heap.size) ∧ Below w.heap.size w w2 ∧ T.wz ≤ 3000) := ⟨hl, fun y hy e => by have := hf y hy; omega, HZ.out.2.trans (hb2.mono (by omega)), hz⟩
  have HZ2 := Lib.hid hz2
  obtain ⟨z0, z1, z2, z3, z4, z5⟩ := five hz2
  clear hl hf hz hb2 hz2
  go_wp2_with fail
  have keep : ∀ y ∈ FT, (set5 w2 w.heap.size 0 (.int .i64 T.k) (.int .i64 T.n) (.string T.s) (.slice o1 T.keys.length c1) (.slice o2 T.kids.length c2)).heap[y]? = w2.heap[y]? := fun y hy => set5_other _ _ _ _ _ _ _ _ _ (HF.out.2.1 y hy)
  exact bodyPost_ret (ret_node Tryz.results6 rfl (set5_end HZ2.out _ _ _ _ _)) rfl ⟨T, _, _, FT, rfl, HF.out.1.carry keep, set5_below HF.out.2.2.1 (Nat.le_refl _) _ _ _ _ _ _, HF.out.2.2.2⟩

/-- Where the law stands: three trees in their blocks, which read the same. -/
structure TS (w wr : World) (m : Int) (T : RT) (B1 B2 B3 : Nat) (k1 d1 k2 d2 k3 d3 : Value) (F1 F2 F3 : List Nat) : Prop where
  below : Below w.heap.size w wr
  c1 : wr.heap[B1]? = some (.cells #[.int .i64 T.k, .int .i64 T.n, .string T.s, k1, d1] 27 (0, 0))
  c2 : wr.heap[B2]? = some (.cells #[.int .i64 T.k, .int .i64 T.n, .string T.s, k2, d2] 27 (0, 0))
  c3 : wr.heap[B3]? = some (.cells #[.int .i64 T.k, .int .i64 T.n, .string T.s, k3, d3] 27 (0, 0))
  l1 : Lies wr T k1 d1 F1
  l2 : Lies wr T k2 d2 F2
  l3 : Lies wr T k3 d3 F3

theorem TS.next {w wr w1 : World} {m : Int} {T : RT} {B1 B2 B3 : Nat} {k1 d1 k2 d2 k3 d3 : Value} {F1 F2 F3 : List Nat} (h : TS w wr m T B1 B2 B3 k1 d1 k2 d2 k3 d3 F1 F2 F3) (hb : Below wr.heap.size wr w1) : TS w w1 m T B1 B2 B3 k1 d1 k2 d2 k3 d3 F1 F2 F3 :=
  have k : ∀ {y : Nat} {o : Obj}, wr.heap[y]? = some o → w1.heap[y]? = some o := fun {y _} h => (hb.block y (Array.getElem?_eq_some_iff.1 h).1).trans h
  ⟨h.below.trans (hb.mono h.below.size), k h.c1, k h.c2, k h.c3, h.l1.stay hb (Nat.le_refl _), h.l2.stay hb (Nat.le_refl _), h.l3.stay hb (Nat.le_refl _)⟩

theorem big_none (a : Option Addr) (len cap : Nat) (hs : ¬ (1048576 : Int) < len) (w : World) : Calls Tryz.prog 5 #[.slice a len cap] w fun e w' => e = .returned (.bool false) ∧ w' = w := by
  go_enter Tryz.func5, Tryz.ntmps5
  go_wp2
  go_ret
  exact ⟨rfl, rfl⟩

set_option maxRecDepth 100000 in
set_option maxHeartbeats 4000000 in
theorem brIs_walk (a : Option Addr) (len cap : Nat) (w : World) (hcode : CodeAt w a len) (ht : Tab w) (m : Int) (hm : MaxL w m) :
    Calls Tryz.prog 3 #[.slice a len cap] w fun e w' => e = .returned (.bool true) ∧ Below w.heap.size w w' := by
  have hs : ¬ (1048576 : Int) < len := by have := hcode.1; omega
  have HC := Lib.hid hcode
  have HT := Lib.hid (Lib.tabBelow_of_tabIs ht)
  have HM : Hid (∀ wr, Below w.heap.size w wr → MaxL wr m) := fun wr hb => hm.stay hb hm.lt
  clear hcode ht hm
  go_enter Tryz.func3, Tryz.ntmps3
  go_wp2_with fail
  refine (big_none a len cap (by omega) w).mono ?_
  rintro e w0 ⟨rfl, e0⟩
  subst w0
  go_wp2_with fail
  refine (drawBraced_any a len cap _ HC.out).mono ?_
  rintro e w1 ⟨T, kt, dt, FT, rfl, hl1, hb1, hz1⟩
  obtain ⟨⟨o1, c1, rfl⟩, ⟨o2, c2, rfl⟩⟩ := hl1.slices
  have hbA := (Below.refl _ w1).alloc (Nat.le_refl _) (.cells #[.int .i64 T.k, .int .i64 T.n, .string T.s, .slice o1 T.keys.length c1, .slice o2 T.kids.length c2] 27)
  have HL1 := Lib.hid (And.intro (hl1.stay hbA (Nat.le_refl _)) (And.intro (hb1.trans (hbA.mono hb1.size)) (heap_last w1 (.cells #[.int .i64 T.k, .int .i64 T.n, .string T.s, .slice o1 T.keys.length c1, .slice o2 T.kids.length c2] 27))))
  have HZ := Lib.hid hz1
  have HSz : Hid (T.sz ≤ 1048576) := by have := wz_sz T; show _ ≤ _; omega
  clear hl1 hb1 hbA hz1
  go_wp2_with fail
  refine (impl_braced T _ _ _ _ HL1.out.1 (HT.out _ HL1.out.2.1)).mono ?_
  rintro e w2 ⟨rfl, hb2⟩
  have HL2 := Lib.hid (And.intro (HL1.out.1.stay hb2 (Nat.le_refl _)) (And.intro (HL1.out.2.1.trans (hb2.mono HL1.out.2.1.size)) (blk_nextR HL1.out.2.2 hb2)))
  clear hb2
  generalize hB1 : w1.heap.size = B1 at *
  clear hB1 HL1
  have HSp : Hid (∀ W kv dv F, Lies W T kv dv F → Calls Tryz.prog 8 #[.agg #[.int .i64 T.k, .int .i64 T.n, .string T.s, kv, dv]] W fun e w' => e = .returned (.string (bracT T)) ∧ Below W.heap.size W w') := fun W kv dv F h => spec_braced T W kv dv F h HSz.out
  obtain ⟨x0, x1, x2, x3, x4, -⟩ := five HL2.out.2.2
  by_cases hok : treeOk T = true
  · have hbr : Hid (bracT T = ⟨T.brac.toArray⟩) := if_pos hok
    have hr := (treeOk_out hok).2
    have hlen : T.brac.length ≤ 3000 := Nat.le_trans (brac_wz T hr) HZ.out
    have hpos : ¬ T.brac = [] := by
      obtain ⟨b, r, e, -⟩ := brac_head hr
      rw [e]; simp
    have hcut := cut_one (brac_bytes T hr)
    have HO : Hid (∀ W, MaxL W m → Calls Tryz.prog 9 #[.string (bracT T)] W fun e w' => ∃ kx dx F, e = .returned (.tuple #[.agg #[.int .i64 T.k, .int .i64 T.n, .string T.s, kx, dx], .int .i64 (-1)]) ∧ Lies w' T kx dx F ∧ Fresh W w' F ∧ Below W.heap.size W w') := fun W hW => by
      rw [hbr.out]
      exact impl_outline T hok (by omega) _ (by show T.brac.toArray.size ≤ 6000; simpa using (by omega : T.brac.length ≤ 6000)) (by show ¬ T.brac.toArray.size = 0; simpa using hpos) (by have e1 : (⟨T.brac.toArray⟩ : ByteArray).data.toList = T.brac := List.toList_toArray; rw [e1, hcut.1]; exact ⟨rfl, rfl⟩) m W hW
    have HO2 : Hid (∀ W, MaxL W m → Calls Tryz.prog 9 #[.string (bracT T ++ ⟨#[10]⟩)] W fun e w' => ∃ kx dx F, e = .returned (.tuple #[.agg #[.int .i64 T.k, .int .i64 T.n, .string T.s, kx, dx], .int .i64 (-1)]) ∧ Lies w' T kx dx F ∧ Fresh W w' F ∧ Below W.heap.size W w') := fun W hW => by
      have e1 : (bracT T ++ ⟨#[10]⟩).data.toList = T.brac ++ [10] := by rw [hbr.out]; simp
      have e2 : (bracT T ++ ⟨#[10]⟩).size = T.brac.length + 1 := by rw [← ByteArray.size_data, ← Array.length_toList, e1]; simp
      exact impl_outline T hok (by omega) _ (by omega) (by omega) (by rw [e1, hcut.2]; exact ⟨rfl, rfl⟩) m W hW
    have hne : (bracT T).toList.isEmpty = false := by
      rw [Lib.toList_data, hbr.out]
      show T.brac.toArray.toList.isEmpty = false
      rw [List.toList_toArray]
      cases e : T.brac with
      | nil => exact absurd e hpos
      | cons b r => rfl
    have hsz : ¬ (6000 : Int) < (bracT T).size := by
      have : (bracT T).size = T.brac.length := by rw [hbr.out]; show T.brac.toArray.size = _; simp
      omega
    clear hbr hr hlen hpos hcut hok HSz HZ
    generalize bracT T = tb at *
    go_wp2_with fail
    refine (HSp.out _ _ _ _ HL2.out.1).mono ?_
    rintro e w3 ⟨rfl, hb3⟩
    replace HL2 := Lib.hid (And.intro (HL2.out.1.stay hb3 (Nat.le_refl _)) (And.intro (HL2.out.2.1.trans (hb3.mono HL2.out.2.1.size)) (blk_nextR HL2.out.2.2 hb3)))
    clear hb3 x0 x1 x2 x3 x4
    go_wp2_with fail
    refine (HO.out _ (HM.out _ HL2.out.2.1)).mono ?_
    rintro e w4 ⟨k2, d2, F2, rfl, hl2, -, hb4⟩
    obtain ⟨⟨o3, c3, rfl⟩, ⟨o4, c4, rfl⟩⟩ := hl2.slices
    have hbB := (Below.refl _ w4).alloc (Nat.le_refl _) (.cells #[.int .i64 T.k, .int .i64 T.n, .string T.s, .slice o3 T.keys.length c3, .slice o4 T.kids.length c4] 27)
    have hb45 := hb4.trans (hbB.mono hb4.size)
    have HL3 := Lib.hid (And.intro (HL2.out.1.stay hb45 (Nat.le_refl _)) (And.intro (HL2.out.2.1.trans (hb45.mono HL2.out.2.1.size)) (And.intro (blk_nextR HL2.out.2.2 hb45) (And.intro (hl2.stay hbB (Nat.le_refl _)) (heap_last w4 (.cells #[.int .i64 T.k, .int .i64 T.n, .string T.s, .slice o3 T.keys.length c3, .slice o4 T.kids.length c4] 27))))))
    clear hl2 hb4 hbB hb45 HL2 HO HSp
    go_wp2_with fail
    refine (HO2.out _ (HM.out _ HL3.out.2.1)).mono ?_
    rintro e w5 ⟨k3, d3, F3, rfl, hl3, -, hb5⟩
    obtain ⟨⟨o5, c5, rfl⟩, ⟨o6, c6, rfl⟩⟩ := hl3.slices
    have hbC := (Below.refl _ w5).alloc (Nat.le_refl _) (.cells #[.int .i64 T.k, .int .i64 T.n, .string T.s, .slice o5 T.keys.length c5, .slice o6 T.kids.length c6] 27)
    have hb56 := hb5.trans (hbC.mono hb5.size)
    have HS : Hid (TS w (w5.alloc (.cells #[.int .i64 T.k, .int .i64 T.n, .string T.s, .slice o5 T.keys.length c5, .slice o6 T.kids.length c6] 27)) m T B1 w4.heap.size w5.heap.size _ _ _ _ _ _ FT F2 F3) :=
      ⟨HL3.out.2.1.trans (hb56.mono HL3.out.2.1.size), blk_nextR HL3.out.2.2.1 hb56, blk_nextR HL3.out.2.2.2.2 hb56, heap_last w5 _, HL3.out.1.stay hb56 (Nat.le_refl _), HL3.out.2.2.2.1.stay hb56 (Nat.le_refl _), hl3.stay hbC (Nat.le_refl _)⟩
    clear hl3 hb5 hbC hb56 HL3 HO2
    have HSm : Hid (∀ W k1 d1 k2 d2 F1 F2, Lies W T k1 d1 F1 → Lies W T k2 d2 F2 → Calls Tryz.prog 10 #[.agg #[.int .i64 T.k, .int .i64 T.n, .string T.s, k1, d1], .agg #[.int .i64 T.k, .int .i64 T.n, .string T.s, k2, d2]] W fun e w' => e = .returned (.bool true) ∧ Below W.heap.size W w') := fun W k1 d1 k2 d2 F1 F2 h1 h2 => by
      refine (impl_same T W k1 d1 F1 h1 T k2 d2 F2 h2).mono ?_
      rintro e w' ⟨rfl, hb⟩
      rw [same_yes rfl]
      exact ⟨rfl, hb⟩
    generalize hB2 : w4.heap.size = B2 at *
    clear hB2
    obtain ⟨x0, x1, x2, x3, x4, -⟩ := five HS.out.c1
    obtain ⟨y0, y1, y2, y3, y4, -⟩ := five HS.out.c2
    obtain ⟨z0, z1, z2, z3, z4, -⟩ := five HS.out.c3
    have t1 : True := trivial
    have t2 : True := trivial
    go_wp2_with (first
      | (go_at_call 10; clear t1; with_reducible refine (HSm.out _ _ _ _ _ _ _ HS.out.l2 HS.out.l1).mono ?_; rintro e w' ⟨rfl, hb⟩; replace HS := Lib.hid (HS.out.next hb); clear hb; clear x0 x1 x2 x3 x4 y0 y1 y2 y3 y4 z0 z1 z2 z3 z4; obtain ⟨x0, x1, x2, x3, x4, -⟩ := five HS.out.c1; obtain ⟨y0, y1, y2, y3, y4, -⟩ := five HS.out.c2; obtain ⟨z0, z1, z2, z3, z4, -⟩ := five HS.out.c3)
      | (go_at_call 10; clear t2; with_reducible refine (HSm.out _ _ _ _ _ _ _ HS.out.l3 HS.out.l1).mono ?_; rintro e w' ⟨rfl, hb⟩; replace HS := Lib.hid (HS.out.next hb); clear hb; clear x0 x1 x2 x3 x4 y0 y1 y2 y3 y4 z0 z1 z2 z3 z4; obtain ⟨x0, x1, x2, x3, x4, -⟩ := five HS.out.c1; obtain ⟨y0, y1, y2, y3, y4, -⟩ := five HS.out.c2; obtain ⟨z0, z1, z2, z3, z4, -⟩ := five HS.out.c3)
      | fail)
    go_ret
    exact ⟨rfl, HS.out.below⟩
  · have hbr : bracT T = ⟨#[]⟩ := if_neg hok
    rw [hbr] at HSp ⊢
    clear hbr
    go_wp2_with (first
      | (go_at_call 8; refine (HSp.out _ _ _ _ HL2.out.1).mono ?_; rintro e w3 ⟨rfl, hb3⟩; replace HL2 := Lib.hid (And.intro (HL2.out.1.stay hb3 (Nat.le_refl _)) (And.intro (HL2.out.2.1.trans (hb3.mono HL2.out.2.1.size)) (blk_nextR HL2.out.2.2 hb3))); clear hb3 x0 x1 x2 x3 x4; obtain ⟨x0, x1, x2, x3, x4, -⟩ := five HL2.out.2.2)
      | fail)
    go_ret
    exact ⟨rfl, HL2.out.2.1⟩
end Go.Proofs.YtmcjghhmcmkomaaGreatDoor
