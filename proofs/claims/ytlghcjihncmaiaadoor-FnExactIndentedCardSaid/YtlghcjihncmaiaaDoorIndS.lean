/-
  What is proved: the model's Indented, at every tree: empty when it is not right; else the lines that it is written as.
-/
import Derived.Test.YtlghcjihncmaiaaDoorIndP
import Derived.Test.YtlghcjihncmaiaaDoorPlain
namespace Go.Proofs.YtlghcjihncmaiaaDoor
open Go Go.RowKit

set_option maxHeartbeats 400000 in
theorem spec_block_no (k n : Int) (s : ByteArray) (kv : Value) (ov : Option Addr) (c : Nat) (w : World) :
    Calls Tryd.prog 12 #[.agg #[.int .i64 k, .int .i64 n, .string s, kv, .slice ov 0 c]] w fun e w' => e = .returned (.bool false) ∧ Below w.heap.size w w' := by
  have HB := Lib.hid ((Below.refl _ w).alloc (Nat.le_refl _) (.cells #[.int .i64 k, .int .i64 n, .string s, kv, .slice ov 0 c] 30))
  cases e4 : (k == 4) <;> cases e5 : (k == 5)
  all_goals
    go_enter Tryd.func12, Tryd.ntmps12
    go_wp2
    go_ret
    exact ⟨rfl, HB.out⟩

set_option maxHeartbeats 400000 in
theorem spec_block_yes (k n : Int) (hk : k = 4 ∨ k = 5) (s : ByteArray) (kv : Value) (ov : Option Addr) (len c : Nat) (h0 : len ≠ 0) (w : World) :
    Calls Tryd.prog 12 #[.agg #[.int .i64 k, .int .i64 n, .string s, kv, .slice ov len c]] w fun e w' => e = .returned (.bool true) ∧ Below w.heap.size w w' := by
  have h1 : (0 : Int) < (len : Int) := by omega
  have HB := Lib.hid ((Below.refl _ w).alloc (Nat.le_refl _) (.cells #[.int .i64 k, .int .i64 n, .string s, kv, .slice ov len c] 30))
  have h2 : 0 < len := by omega
  clear h0
  rcases hk with rfl | rfl
  all_goals
    go_enter Tryd.func12, Tryd.ntmps12
    go_wp2
    go_ret
    exact ⟨rfl, HB.out⟩

/-- What Inline answers of a right tree. -/
def inlT (T : RT) : ByteArray := ⟨(inlL T).toArray⟩

set_option maxRecDepth 100000 in
set_option maxHeartbeats 400000 in
theorem spec_inline (T : RT) (w : World) (kv dv : Value) (F : List Nat) (hl : Lies w T kv dv F) (hok : treeOk T = true) (hsz : T.sz ≤ 1048576) :
    Calls Tryd.prog 14 #[.agg #[.int .i64 T.k, .int .i64 T.n, .string T.s, kv, dv]] w fun e w' => e = .returned (.string (inlT T)) ∧ Below w.heap.size w w' := by
  have HX := Lib.hid (Box.start w (.int .i64 T.k) (.int .i64 T.n) (.string T.s) kv dv 30)
  have HR := Lib.hid (fun wr hb => spec_treeOk T wr kv dv F (hl.stay hb (Nat.le_refl _)) hsz)
  have HT := Lib.hid (fun wr hb => spec_braced T wr kv dv F (hl.stay hb (Nat.le_refl _)) hsz)
  have HP := Lib.hid (spec_plainOk T.s hl.out.2.2.1)
  obtain ⟨⟨o1, c1, rfl⟩, ⟨o2, c2, rfl⟩⟩ := hl.slices
  have HBT : Hid (bracT T = ⟨T.brac.toArray⟩) := if_pos hok
  rw [hok] at HR
  clear hl hsz hok
  by_cases hk : T.k = 3
  · have e3 : (T.k == 3) = true := by simp [hk]
    by_cases hp : plainB T.s = true
    · have HE : Hid (inlT T = T.s) := by
        show _ = _
        unfold inlT inlL
        rw [if_pos ⟨hk, hp⟩]
      rw [hp] at HP
      clear hk hp
      go_enter Tryd.func14, Tryd.ntmps14
      go_wp2_with (first
        | (go_at_call 11; refine (HR.out _ HX.out.below).mono ?_; rintro e w1 ⟨rfl, hb1⟩; have HX1 := Lib.hid (HX.out.next hb1); obtain ⟨-, -, x0, x1, x2, x3, x4⟩ := HX1.out; clear hb1)
        | (go_at_call 27; refine (HP.out _).mono ?_; rintro e w2 ⟨rfl, e2⟩; subst e2)
        | fail)
      go_ret
      exact ⟨by rw [HE.out]; rfl, HX1.out.below⟩
    · have hp' : plainB T.s = false := by simpa using hp
      have HE : Hid (inlT T = bracT T) := by
        show _ = _
        unfold inlT inlL
        rw [if_neg (fun h => hp h.2), HBT.out]
      rw [hp'] at HP
      rw [← HE.out] at HT
      clear hk hp hp' HBT HE
      go_enter Tryd.func14, Tryd.ntmps14
      go_wp2_with (first
        | (go_at_call 11; refine (HR.out _ HX.out.below).mono ?_; rintro e w1 ⟨rfl, hb1⟩; have HX1 := Lib.hid (HX.out.next hb1); obtain ⟨-, -, x0, x1, x2, x3, x4⟩ := HX1.out; clear hb1)
        | (go_at_call 27; refine (HP.out _).mono ?_; rintro e w2 ⟨rfl, e2⟩; subst e2)
        | (go_at_call 28; refine (HT.out _ HX1.out.below).mono ?_; rintro e w3 ⟨rfl, hb3⟩; have HX3 := Lib.hid (HX1.out.next hb3); clear hb3)
        | fail)
      go_ret
      exact ⟨rfl, HX3.out.below⟩
  · have e3 : (T.k == 3) = false := by simp [hk]
    have HE : Hid (inlT T = bracT T) := by
      show _ = _
      unfold inlT inlL
      rw [if_neg (fun h => hk h.1), HBT.out]
    rw [← HE.out] at HT
    clear hk HBT HE
    go_enter Tryd.func14, Tryd.ntmps14
    go_wp2_with (first
      | (go_at_call 28; refine (HT.out _ HX.out.below).mono ?_; rintro e w3 ⟨rfl, hb3⟩; have HX3 := Lib.hid (HX.out.next hb3); clear hb3)
      | fail)
    go_ret
    exact ⟨rfl, HX3.out.below⟩

/-- So many blanks. -/
def Bl (bl : ByteArray) (d : Nat) : Prop := bl.data.toList = List.replicate d 32

theorem Bl.size {bl : ByteArray} {d : Nat} (h : Bl bl d) : bl.size = d := by
  have : bl.size = bl.data.toList.length := by simp
  rw [this, h]; simp

theorem Bl.more {bl : ByteArray} {d : Nat} (h : Bl bl d) : Bl (bl ++ ⟨#[32, 32]⟩) (d + 2) := by
  unfold Bl at *
  rw [cat_list, h, List.replicate_succ', List.replicate_succ']
  simp

def WrAt (T : RT) : Prop := ∀ (w : World) (kv dv : Value) (F : List Nat) (bl : ByteArray) (d : Nat), Lies w T kv dv F → treeOk T = true → T.sz ≤ 1048576 → Bl bl d → d + 2 * T.size ≤ 1000 → T.k = 4 ∨ T.k = 5 →
  Calls Tryd.prog 13 #[.agg #[.int .i64 T.k, .int .i64 T.n, .string T.s, kv, dv], .string bl] w fun e w' => e = .returned (.string ⟨(T.lines d).toArray⟩) ∧ Below w.heap.size w w'

set_option maxRecDepth 100000 in
set_option maxHeartbeats 2000000 in
theorem write4 (n : Int) (s : ByteArray) (keys : List ByteArray) (kids : List RT) (ih : ∀ t ∈ kids, WrAt t) (w : World) (kv dv : Value) (FD : List Nat) (hD : KidsLie w dv kids FD) (bl : ByteArray) (d : Nat) (hok0 : treeOk (RT.node 4 n s keys kids) = true) (hsz0 : (RT.node 4 n s keys kids).sz ≤ 1048576) (hbl0 : Bl bl d) (hd0 : d + 2 * (RT.node 4 n s keys kids).size ≤ 1000) :
    Calls Tryd.prog 13 #[.agg #[.int .i64 4, .int .i64 n, .string s, kv, dv], .string bl] w fun e w' => e = .returned (.string ⟨((RT.node 4 n s keys kids).lines d).toArray⟩) ∧ Below w.heap.size w w' := by
  have hok := Lib.hid hok0
  have hsz := Lib.hid hsz0
  have hbl := Lib.hid hbl0
  have HBL : Hid (bl.data.toList = List.replicate d 32) := hbl0
  have hr := (treeOk_parts hok0).2.2
  have HT := Lib.hid (fun i => lines_take_le hr hd0 i)
  have hd : d + 2 * (sizeAll kids + 1) ≤ 1000 := hd0
  have hbz : bl.size ≤ 1000 := by rw [hbl0.size]; omega
  have hsz200 : sizeAll kids + 1 ≤ 200 := (treeOk_parts hok0).2.1
  have HLN : Hid ((RT.node 4 n s keys kids).lines d = linesAll 4 keys kids d) := by show _ = _; rw [RT.lines]
  generalize (RT.node 4 n s keys kids).lines d = LN at *
  clear hok0 hsz0 hbl0 hd0 hr
  obtain ⟨o, cap, b, off, FF, KV, DV, rfl, hlc, hcm, ho, -, hcell, hlies, -⟩ := hD
  have HX := Lib.hid (Box.start w (.int .i64 4) (.int .i64 n) (.string s) kv (.slice o kids.length cap) 30)
  have HC := Lib.hid hcell
  have HL := Lib.hid hlies
  have HO := Lib.hid ho
  clear hcell hlies ho
  unfold maxLen at hcm
  go_enter Tryd.func13, Tryd.ntmps13
  go_wp2
  go_loopw [5, 6] (fun v q wr => ∃ (j : Nat) (S : ByteArray), j ≤ kids.length ∧ v = .string S ∧ q = .int .i64 j ∧ Hid (S.data.toList = linesAll 4 keys (kids.take j) d ∧ Box w wr (.int .i64 4) (.int .i64 n) (.string s) kv (.slice o kids.length cap))) (fun _ q _ => kids.length - (intOf q).toNat)
  case atStart => exact ⟨0, _, Nat.zero_le _, rfl, rfl, by simp [linesAll], HX.out⟩
  case round =>
    obtain ⟨j, S, hj, rfl, rfl, hr⟩ := hrel
    have HS : Hid (S.data.toList = linesAll 4 keys (kids.take j) d) := hr.out.1
    have HB := Lib.hid hr.out.2
    clear hr
    obtain ⟨-, -, x0, x1, x2, x3, x4⟩ := HB.out
    have hSz : S.size ≤ 800000 := by
      have h1 := HT.out j
      rw [size_of_list HS.out]
      omega
    by_cases hlt : j < kids.length
    · have ho := HO.out (by omega)
      subst ho
      have hlt' : (j : Int) < kids.length := by omega
      obtain ⟨c0, c1, c2, c3, c4⟩ := kid_cells (HC.out j hlt) HB.out.below
      have HN : Hid (linesAll 4 keys (kids.take (j + 1)) d = linesAll 4 keys (kids.take j) d ++ lineOf 4 ⟨#[]⟩ kids[j] d) := linesAll_take 4 d keys kids j hlt
      have HCJ := Lib.hid (HC.out j hlt)
      obtain ⟨⟨o1, q1, s1⟩, ⟨o2, q2, s2⟩⟩ := (HL.out j hlt).slices
      have hmem : kids[j] ∈ kids := List.getElem_mem hlt
      have HOk : Hid (treeOk kids[j] = true) := treeOk_kid hok.out (show kids[j] ∈ (RT.node 4 n s keys kids).kids from hmem)
      have HSz : Hid (kids[j].sz ≤ 1048576) := Nat.le_trans (sz_kid (show kids[j] ∈ (RT.node 4 n s keys kids).kids from hmem)) hsz.out
      have hzj := kid_size_le hmem
      have HKk : Hid (kids[j].kids.length ≠ 0 → kids[j].k = 4 ∨ kids[j].k = 5) := kind_of_kids (treeOk_parts HOk.out).2.2
      have HWr : Hid (kids[j].kids.length ≠ 0 → ∀ w1 : World, Below w.heap.size w w1 → Calls Tryd.prog 13 #[.agg #[.int .i64 kids[j].k, .int .i64 kids[j].n, .string kids[j].s, KV j, DV j], .string (bl ++ ⟨#[32, 32]⟩)] w1 fun e w' => e = .returned (.string ⟨(kids[j].lines (d + 2)).toArray⟩) ∧ Below w1.heap.size w1 w') := fun h0 w1 hb1 => ih _ hmem w1 _ _ _ _ _ ((HL.out j hlt).stay hb1 (Nat.le_refl _)) HOk.out HSz.out hbl.out.more (by omega) (HKk.out h0)
      have HInl : Hid (∀ w1 : World, Below w.heap.size w w1 → Calls Tryd.prog 14 #[.agg #[.int .i64 kids[j].k, .int .i64 kids[j].n, .string kids[j].s, KV j, DV j]] w1 fun e w' => e = .returned (.string (inlT kids[j])) ∧ Below w1.heap.size w1 w') := fun w1 hb1 => spec_inline _ w1 _ _ _ ((HL.out j hlt).stay hb1 (Nat.le_refl _)) HOk.out HSz.out
      have HLz : Hid ((kids[j].lines (d + 2)).length ≤ 800000 ∧ (inlL kids[j]).length ≤ 800000) := by
        have h1 := lines_le kids[j] (d + 2) (treeOk_parts HOk.out).2.2 (by omega)
        have h2 := inlL_length (treeOk_parts HOk.out).2.2
        refine ⟨by omega, by omega⟩
      clear hzj hmem HOk HSz
      generalize kids[j] = x at *
      generalize KV j = v1 at *
      generalize DV j = v2 at *
      subst s1 s2
      by_cases hx0 : x.kids.length = 0
      · have HBk := Lib.hid (spec_block_no x.k x.n x.s (.slice o1 x.keys.length q1) o2 q2)
        have HIn := HInl
        have HZ : Hid ((inlT x).size ≤ 800000) := HLz.out.2
        have HX0 := Lib.hid hx0
        rw [hx0] at HInl HIn HCJ c4
        clear hx0 HKk HWr HLz
        go_wp2_with fail
        refine (HBk.out _).mono ?_
        rintro e w2 ⟨rfl, hb2⟩
        have HB2 := Lib.hid (HB.out.next hb2)
        clear hb2 x0 x1 x2 x3 x4 c0 c1 c2 c3 c4
        obtain ⟨-, -, x0, x1, x2, x3, x4⟩ := HB2.out
        obtain ⟨c0, c1, c2, c3, c4⟩ := kid_cells HCJ.out HB2.out.below
        go_wp2_with fail
        refine (HIn.out _ HB2.out.below).mono ?_
        rintro e w3 ⟨rfl, hb3⟩
        have HB3 := Lib.hid (HB2.out.next hb3)
        clear hb3 x0 x1 x2 x3 x4 c0 c1 c2 c3 c4
        obtain ⟨-, -, x0, x1, x2, x3, x4⟩ := HB3.out
        generalize hX : inlT x = X at *
        have hXz : X.size ≤ 800000 := HZ.out
        have HXX : Hid (X.data.toList = inlL x) := by show _ = _; subst hX; rfl
        clear hX
        go_wp2
        refine ⟨⟨j + 1, _, hlt, rfl, by go_num, ?_, HB3.out⟩, by simp [intOf]; omega⟩
        rw [HN.out]
        simp only [cat_list, HS.out, HXX.out, HBL.out, lineOf, headL]
        rw [if_pos HX0.out]
        simp
      · have HBk := Lib.hid (spec_block_yes x.k x.n (HKk.out hx0) x.s (.slice o1 x.keys.length q1) o2 x.kids.length q2 hx0)
        have HIn := Lib.hid (HWr.out hx0)
        have HZ : Hid ((⟨(x.lines (d + 2)).toArray⟩ : ByteArray).size ≤ 800000) := HLz.out.1
        have HX0 := Lib.hid hx0
        clear hx0 HKk HInl HLz
        go_wp2_with fail
        refine (HBk.out _).mono ?_
        rintro e w2 ⟨rfl, hb2⟩
        have HB2 := Lib.hid (HB.out.next hb2)
        clear hb2 x0 x1 x2 x3 x4 c0 c1 c2 c3 c4
        obtain ⟨-, -, x0, x1, x2, x3, x4⟩ := HB2.out
        obtain ⟨c0, c1, c2, c3, c4⟩ := kid_cells HCJ.out HB2.out.below
        go_wp2_with fail
        refine (HIn.out _ HB2.out.below).mono ?_
        rintro e w3 ⟨rfl, hb3⟩
        have HB3 := Lib.hid (HB2.out.next hb3)
        clear hb3 x0 x1 x2 x3 x4 c0 c1 c2 c3 c4
        obtain ⟨-, -, x0, x1, x2, x3, x4⟩ := HB3.out
        generalize hX : (⟨(x.lines (d + 2)).toArray⟩ : ByteArray) = X at *
        have hXz : X.size ≤ 800000 := HZ.out
        have HXX : Hid (X.data.toList = x.lines (d + 2)) := by show _ = _; subst hX; rfl
        clear hX
        go_wp2
        refine ⟨⟨j + 1, _, hlt, rfl, by go_num, ?_, HB3.out⟩, by simp [intOf]; omega⟩
        rw [HN.out]
        simp only [cat_list, HS.out, HXX.out, HBL.out, lineOf, headL]
        rw [if_neg HX0.out]
        simp
    · have HE : Hid (S = (⟨LN.toArray⟩ : ByteArray)) := by
        show _ = _
        refine ext_list ?_
        rw [HS.out, HLN.out, List.take_of_length_le (by omega)]
      go_wp2
      go_ret
      exact ⟨by rw [← HE.out]; rfl, HB.out.below⟩

set_option maxRecDepth 100000 in
set_option maxHeartbeats 2000000 in
theorem write5 (n : Int) (s : ByteArray) (keys : List ByteArray) (kids : List RT) (ih : ∀ t ∈ kids, WrAt t) (w : World) (kv dv : Value) (FK FD : List Nat) (hK : StrsAt w kv keys FK) (hD : KidsLie w dv kids FD) (bl : ByteArray) (d : Nat) (hok0 : treeOk (RT.node 5 n s keys kids) = true) (hsz0 : (RT.node 5 n s keys kids).sz ≤ 1048576) (hbl0 : Bl bl d) (hd0 : d + 2 * (RT.node 5 n s keys kids).size ≤ 1000) :
    Calls Tryd.prog 13 #[.agg #[.int .i64 5, .int .i64 n, .string s, kv, dv], .string bl] w fun e w' => e = .returned (.string ⟨((RT.node 5 n s keys kids).lines d).toArray⟩) ∧ Below w.heap.size w w' := by
  have hok := Lib.hid hok0
  have hsz := Lib.hid hsz0
  have hbl := Lib.hid hbl0
  have HBL : Hid (bl.data.toList = List.replicate d 32) := hbl0
  have hr := (treeOk_parts hok0).2.2
  have HT := Lib.hid (fun i => lines_take_le hr hd0 i)
  have hd : d + 2 * (sizeAll kids + 1) ≤ 1000 := hd0
  have hbz : bl.size ≤ 1000 := by rw [hbl0.size]; omega
  have hsz200 : sizeAll kids + 1 ≤ 200 := (treeOk_parts hok0).2.1
  have hkl : keys.length = kids.length := by
    have := (right_out hr).1
    simp only [HeadOk, RT.k, RT.n, RT.s, RT.keys, RT.kids] at this
    omega
  have HLN : Hid ((RT.node 5 n s keys kids).lines d = linesAll 5 keys kids d) := by show _ = _; rw [RT.lines]
  generalize (RT.node 5 n s keys kids).lines d = LN at *
  clear hok0 hsz0 hbl0 hd0 hr
  obtain ⟨o, cap, b, off, FF, KV, DV, rfl, hlc, hcm, ho, -, hcell, hlies, -⟩ := hD
  obtain ⟨ko, kcap, kb, koff, rfl, hklc, hkcm, hko, -, hkcell, -⟩ := hK
  have HKC := Lib.hid hkcell
  have HKO := Lib.hid hko
  clear hkcell hko
  rw [hkl] at hklc ⊢
  have HX := Lib.hid (Box.start w (.int .i64 5) (.int .i64 n) (.string s) (.slice ko kids.length kcap) (.slice o kids.length cap) 30)
  unfold maxLen at hkcm
  have HKL : Hid (keys.length = kids.length) := hkl
  clear hkl
  have HC := Lib.hid hcell
  have HL := Lib.hid hlies
  have HO := Lib.hid ho
  clear hcell hlies ho
  unfold maxLen at hcm
  go_enter Tryd.func13, Tryd.ntmps13
  go_wp2
  go_loopw [5, 6] (fun v q wr => ∃ (j : Nat) (S : ByteArray), j ≤ kids.length ∧ v = .string S ∧ q = .int .i64 j ∧ Hid (S.data.toList = linesAll 5 keys (kids.take j) d ∧ Box w wr (.int .i64 5) (.int .i64 n) (.string s) (.slice ko kids.length kcap) (.slice o kids.length cap))) (fun _ q _ => kids.length - (intOf q).toNat)
  case atStart => exact ⟨0, _, Nat.zero_le _, rfl, rfl, by simp [linesAll], HX.out⟩
  case round =>
    obtain ⟨j, S, hj, rfl, rfl, hr⟩ := hrel
    have HS : Hid (S.data.toList = linesAll 5 keys (kids.take j) d) := hr.out.1
    have HB := Lib.hid hr.out.2
    clear hr
    obtain ⟨-, -, x0, x1, x2, x3, x4⟩ := HB.out
    have hSz : S.size ≤ 800000 := by
      have h1 := HT.out j
      rw [size_of_list HS.out]
      omega
    by_cases hlt : j < kids.length
    · have ho := HO.out (by omega)
      subst ho
      have hlt' : (j : Int) < kids.length := by omega
      obtain ⟨c0, c1, c2, c3, c4⟩ := kid_cells (HC.out j hlt) HB.out.below
      have hkj : j < keys.length := by rw [HKL.out]; exact hlt
      have HN : Hid (linesAll 5 keys (kids.take (j + 1)) d = linesAll 5 keys (kids.take j) d ++ lineOf 5 keys[j] kids[j] d) := by
        have := linesAll_take 5 d keys kids j hlt
        rw [key_at hkj] at this
        exact this
      obtain ⟨d0, dz⟩ := HKC.out j hkj
      have d1 : wr.cell? ⟨kb, koff + j, none⟩ = some (.string keys[j]) := by
        rw [HB.out.below.cell (by exact World.block_lt_of_cell? _ _ d0)]; exact d0
      have HD0 : Hid (∀ w2 : World, Below w.heap.size w w2 → w2.cell? ⟨kb, koff + j, none⟩ = some (.string keys[j])) := fun w2 hb => by
        rw [hb.cell (by exact World.block_lt_of_cell? _ _ d0)]; exact d0
      have HQ := Lib.hid (spec_quote keys[j] dz)
      have HQZ := Lib.hid (quoteT_length keys[j])
      have HPl := Lib.hid (spec_plainOk keys[j] dz)
      have hko := HKO.out (by omega)
      subst hko
      clear d0 dz
      have HCJ := Lib.hid (HC.out j hlt)
      obtain ⟨⟨o1, q1, s1⟩, ⟨o2, q2, s2⟩⟩ := (HL.out j hlt).slices
      have hmem : kids[j] ∈ kids := List.getElem_mem hlt
      have HOk : Hid (treeOk kids[j] = true) := treeOk_kid hok.out (show kids[j] ∈ (RT.node 5 n s keys kids).kids from hmem)
      have HSz : Hid (kids[j].sz ≤ 1048576) := Nat.le_trans (sz_kid (show kids[j] ∈ (RT.node 5 n s keys kids).kids from hmem)) hsz.out
      have hzj := kid_size_le hmem
      have HKk : Hid (kids[j].kids.length ≠ 0 → kids[j].k = 4 ∨ kids[j].k = 5) := kind_of_kids (treeOk_parts HOk.out).2.2
      have HWr : Hid (kids[j].kids.length ≠ 0 → ∀ w1 : World, Below w.heap.size w w1 → Calls Tryd.prog 13 #[.agg #[.int .i64 kids[j].k, .int .i64 kids[j].n, .string kids[j].s, KV j, DV j], .string (bl ++ ⟨#[32, 32]⟩)] w1 fun e w' => e = .returned (.string ⟨(kids[j].lines (d + 2)).toArray⟩) ∧ Below w1.heap.size w1 w') := fun h0 w1 hb1 => ih _ hmem w1 _ _ _ _ _ ((HL.out j hlt).stay hb1 (Nat.le_refl _)) HOk.out HSz.out hbl.out.more (by omega) (HKk.out h0)
      have HInl : Hid (∀ w1 : World, Below w.heap.size w w1 → Calls Tryd.prog 14 #[.agg #[.int .i64 kids[j].k, .int .i64 kids[j].n, .string kids[j].s, KV j, DV j]] w1 fun e w' => e = .returned (.string (inlT kids[j])) ∧ Below w1.heap.size w1 w') := fun w1 hb1 => spec_inline _ w1 _ _ _ ((HL.out j hlt).stay hb1 (Nat.le_refl _)) HOk.out HSz.out
      have HLz : Hid ((kids[j].lines (d + 2)).length ≤ 800000 ∧ (inlL kids[j]).length ≤ 800000) := by
        have h1 := lines_le kids[j] (d + 2) (treeOk_parts HOk.out).2.2 (by omega)
        have h2 := inlL_length (treeOk_parts HOk.out).2.2
        refine ⟨by omega, by omega⟩
      clear hzj hmem HOk HSz
      generalize kids[j] = x at *
      generalize KV j = v1 at *
      generalize DV j = v2 at *
      subst s1 s2
      generalize keys[j] = y at *
      clear hkj
      by_cases hx0 : x.kids.length = 0
      · have HBk := Lib.hid (spec_block_no x.k x.n x.s (.slice o1 x.keys.length q1) o2 q2)
        have HIn := HInl
        have HZ : Hid ((inlT x).size ≤ 800000) := HLz.out.2
        have HX0 := Lib.hid hx0
        rw [hx0] at HInl HIn HCJ c4
        clear hx0 HKk HWr HLz
        go_wp2_with fail
        refine (HQ.out _).mono ?_
        rintro e w1 ⟨rfl, hb1⟩
        have HBq := Lib.hid (HB.out.next hb1)
        clear hb1 x0 x1 x2 x3 x4 c0 c1 c2 c3 c4 d1
        obtain ⟨-, -, x0, x1, x2, x3, x4⟩ := HBq.out
        have d1 := HD0.out _ HBq.out.below
        obtain ⟨c0, c1, c2, c3, c4⟩ := kid_cells HCJ.out HBq.out.below
        generalize hY : quoteT y = Y at *
        have hYz : Y.size ≤ 802 := by have := HQZ.out; simpa using this
        have HYY : Hid (Y = quoteT y) := hY.symm
        clear hY
        by_cases hp : plainB y = true
        · have HH : Hid (headL 5 y = y.data.toList ++ [58]) := by show _ = _; simp [headL, keyL, hp]
          have hyz : y.size ≤ 60 := plainB_le hp
          rw [hp] at HPl
          clear hp
          go_wp2_with (first
            | (go_at_call 27; refine (HPl.out _).mono ?_; rintro e w9 ⟨rfl, e9⟩; subst e9; refine Hid.out ?_)
            | fail)
          refine Lib.hid ?_
          go_wp2_with fail
          refine (HBk.out _).mono ?_
          rintro e w2 ⟨rfl, hb2⟩
          have HB2 := Lib.hid (HBq.out.next hb2)
          clear hb2 x0 x1 x2 x3 x4 c0 c1 c2 c3 c4
          obtain ⟨-, -, x0, x1, x2, x3, x4⟩ := HB2.out
          obtain ⟨c0, c1, c2, c3, c4⟩ := kid_cells HCJ.out HB2.out.below
          go_wp2_with fail
          refine (HIn.out _ HB2.out.below).mono ?_
          rintro e w3 ⟨rfl, hb3⟩
          have HB3 := Lib.hid (HB2.out.next hb3)
          clear hb3 x0 x1 x2 x3 x4 c0 c1 c2 c3 c4
          obtain ⟨-, -, x0, x1, x2, x3, x4⟩ := HB3.out
          generalize hX : inlT x = X at *
          have hXz : X.size ≤ 800000 := HZ.out
          have HXX : Hid (X.data.toList = inlL x) := by show _ = _; subst hX; rfl
          clear hX
          go_wp2
          refine ⟨⟨j + 1, _, hlt, rfl, by go_num, ?_, HB3.out⟩, by simp [intOf]; omega⟩
          rw [HN.out]
          simp only [cat_list, HS.out, HXX.out, HBL.out, lineOf, HH.out]
          rw [if_pos HX0.out]
          simp
        · have hp' : plainB y = false := by simpa using hp
          have HH : Hid (headL 5 y = Y.data.toList ++ [58]) := by show _ = _; rw [HYY.out]; simp [headL, keyL, hp]
          rw [hp'] at HPl
          clear hp hp'
          go_wp2_with (first
            | (go_at_call 27; refine (HPl.out _).mono ?_; rintro e w9 ⟨rfl, e9⟩; subst e9; refine Hid.out ?_)
            | fail)
          refine Lib.hid ?_
          go_wp2_with fail
          refine (HBk.out _).mono ?_
          rintro e w2 ⟨rfl, hb2⟩
          have HB2 := Lib.hid (HBq.out.next hb2)
          clear hb2 x0 x1 x2 x3 x4 c0 c1 c2 c3 c4
          obtain ⟨-, -, x0, x1, x2, x3, x4⟩ := HB2.out
          obtain ⟨c0, c1, c2, c3, c4⟩ := kid_cells HCJ.out HB2.out.below
          go_wp2_with fail
          refine (HIn.out _ HB2.out.below).mono ?_
          rintro e w3 ⟨rfl, hb3⟩
          have HB3 := Lib.hid (HB2.out.next hb3)
          clear hb3 x0 x1 x2 x3 x4 c0 c1 c2 c3 c4
          obtain ⟨-, -, x0, x1, x2, x3, x4⟩ := HB3.out
          generalize hX : inlT x = X at *
          have hXz : X.size ≤ 800000 := HZ.out
          have HXX : Hid (X.data.toList = inlL x) := by show _ = _; subst hX; rfl
          clear hX
          go_wp2
          refine ⟨⟨j + 1, _, hlt, rfl, by go_num, ?_, HB3.out⟩, by simp [intOf]; omega⟩
          rw [HN.out]
          simp only [cat_list, HS.out, HXX.out, HBL.out, lineOf, HH.out]
          rw [if_pos HX0.out]
          simp
      · have HBk := Lib.hid (spec_block_yes x.k x.n (HKk.out hx0) x.s (.slice o1 x.keys.length q1) o2 x.kids.length q2 hx0)
        have HIn := Lib.hid (HWr.out hx0)
        have HZ : Hid ((⟨(x.lines (d + 2)).toArray⟩ : ByteArray).size ≤ 800000) := HLz.out.1
        have HX0 := Lib.hid hx0
        clear hx0 HKk HInl HLz
        go_wp2_with fail
        refine (HQ.out _).mono ?_
        rintro e w1 ⟨rfl, hb1⟩
        have HBq := Lib.hid (HB.out.next hb1)
        clear hb1 x0 x1 x2 x3 x4 c0 c1 c2 c3 c4 d1
        obtain ⟨-, -, x0, x1, x2, x3, x4⟩ := HBq.out
        have d1 := HD0.out _ HBq.out.below
        obtain ⟨c0, c1, c2, c3, c4⟩ := kid_cells HCJ.out HBq.out.below
        generalize hY : quoteT y = Y at *
        have hYz : Y.size ≤ 802 := by have := HQZ.out; simpa using this
        have HYY : Hid (Y = quoteT y) := hY.symm
        clear hY
        by_cases hp : plainB y = true
        · have HH : Hid (headL 5 y = y.data.toList ++ [58]) := by show _ = _; simp [headL, keyL, hp]
          have hyz : y.size ≤ 60 := plainB_le hp
          rw [hp] at HPl
          clear hp
          go_wp2_with (first
            | (go_at_call 27; refine (HPl.out _).mono ?_; rintro e w9 ⟨rfl, e9⟩; subst e9; refine Hid.out ?_)
            | fail)
          refine Lib.hid ?_
          go_wp2_with fail
          refine (HBk.out _).mono ?_
          rintro e w2 ⟨rfl, hb2⟩
          have HB2 := Lib.hid (HBq.out.next hb2)
          clear hb2 x0 x1 x2 x3 x4 c0 c1 c2 c3 c4
          obtain ⟨-, -, x0, x1, x2, x3, x4⟩ := HB2.out
          obtain ⟨c0, c1, c2, c3, c4⟩ := kid_cells HCJ.out HB2.out.below
          go_wp2_with fail
          refine (HIn.out _ HB2.out.below).mono ?_
          rintro e w3 ⟨rfl, hb3⟩
          have HB3 := Lib.hid (HB2.out.next hb3)
          clear hb3 x0 x1 x2 x3 x4 c0 c1 c2 c3 c4
          obtain ⟨-, -, x0, x1, x2, x3, x4⟩ := HB3.out
          generalize hX : (⟨(x.lines (d + 2)).toArray⟩ : ByteArray) = X at *
          have hXz : X.size ≤ 800000 := HZ.out
          have HXX : Hid (X.data.toList = x.lines (d + 2)) := by show _ = _; subst hX; rfl
          clear hX
          go_wp2
          refine ⟨⟨j + 1, _, hlt, rfl, by go_num, ?_, HB3.out⟩, by simp [intOf]; omega⟩
          rw [HN.out]
          simp only [cat_list, HS.out, HXX.out, HBL.out, lineOf, HH.out]
          rw [if_neg HX0.out]
          simp
        · have hp' : plainB y = false := by simpa using hp
          have HH : Hid (headL 5 y = Y.data.toList ++ [58]) := by show _ = _; rw [HYY.out]; simp [headL, keyL, hp]
          rw [hp'] at HPl
          clear hp hp'
          go_wp2_with (first
            | (go_at_call 27; refine (HPl.out _).mono ?_; rintro e w9 ⟨rfl, e9⟩; subst e9; refine Hid.out ?_)
            | fail)
          refine Lib.hid ?_
          go_wp2_with fail
          refine (HBk.out _).mono ?_
          rintro e w2 ⟨rfl, hb2⟩
          have HB2 := Lib.hid (HBq.out.next hb2)
          clear hb2 x0 x1 x2 x3 x4 c0 c1 c2 c3 c4
          obtain ⟨-, -, x0, x1, x2, x3, x4⟩ := HB2.out
          obtain ⟨c0, c1, c2, c3, c4⟩ := kid_cells HCJ.out HB2.out.below
          go_wp2_with fail
          refine (HIn.out _ HB2.out.below).mono ?_
          rintro e w3 ⟨rfl, hb3⟩
          have HB3 := Lib.hid (HB2.out.next hb3)
          clear hb3 x0 x1 x2 x3 x4 c0 c1 c2 c3 c4
          obtain ⟨-, -, x0, x1, x2, x3, x4⟩ := HB3.out
          generalize hX : (⟨(x.lines (d + 2)).toArray⟩ : ByteArray) = X at *
          have hXz : X.size ≤ 800000 := HZ.out
          have HXX : Hid (X.data.toList = x.lines (d + 2)) := by show _ = _; subst hX; rfl
          clear hX
          go_wp2
          refine ⟨⟨j + 1, _, hlt, rfl, by go_num, ?_, HB3.out⟩, by simp [intOf]; omega⟩
          rw [HN.out]
          simp only [cat_list, HS.out, HXX.out, HBL.out, lineOf, HH.out]
          rw [if_neg HX0.out]
          simp
    · have HE : Hid (S = (⟨LN.toArray⟩ : ByteArray)) := by
        show _ = _
        refine ext_list ?_
        rw [HS.out, HLN.out, List.take_of_length_le (by omega)]
      go_wp2
      go_ret
      exact ⟨by rw [← HE.out]; rfl, HB.out.below⟩

theorem spec_write (T : RT) : WrAt T := by
  induction T using RT.ind with
  | h k n s keys kids ih =>
    intro w kv dv F bl d hl hok hsz hbl hd hk
    obtain ⟨-, -, hs, FK, FD, hK, hD, -⟩ := hl.outn
    rcases hk with hk | hk
    · have hk' : k = 4 := hk
      subst hk'
      exact write4 n s keys kids ih w kv dv FD hD bl d hok hsz hbl hd
    · have hk' : k = 5 := hk
      subst hk'
      exact write5 n s keys kids ih w kv dv FK FD hK hD bl d hok hsz hbl hd

/-- What Indented answers. -/
noncomputable def indT (T : RT) : ByteArray := if treeOk T = true then (if T.kids.length = 0 then ⟨(inlL T ++ [10]).toArray⟩ else ⟨(T.lines 0).toArray⟩) else ⟨#[]⟩

set_option maxRecDepth 100000 in
set_option maxHeartbeats 400000 in
theorem spec_indented (T : RT) (w : World) (kv dv : Value) (F : List Nat) (hl : Lies w T kv dv F) (hsz : T.sz ≤ 1048576) :
    Calls Tryd.prog 5 #[.agg #[.int .i64 T.k, .int .i64 T.n, .string T.s, kv, dv]] w fun e w' => e = .returned (.string (indT T)) ∧ Below w.heap.size w w' := by
  have HX := Lib.hid (Box.start w (.int .i64 T.k) (.int .i64 T.n) (.string T.s) kv dv 30)
  have HR := Lib.hid (fun wr hb => spec_treeOk T wr kv dv F (hl.stay hb (Nat.le_refl _)) hsz)
  have HI := Lib.hid (fun wr hb hok => spec_inline T wr kv dv F (hl.stay hb (Nat.le_refl _)) hok hsz)
  have HW := Lib.hid (fun wr hb hok hd hk => spec_write T wr kv dv F ⟨#[]⟩ 0 (hl.stay hb (Nat.le_refl _)) hok hsz rfl hd hk)
  obtain ⟨⟨o1, c1, rfl⟩, ⟨o2, c2, rfl⟩⟩ := hl.slices
  clear hl hsz
  by_cases hok : treeOk T = true
  · have HO := Lib.hid hok
    have HP := Lib.hid (treeOk_parts hok)
    rw [hok] at HR
    by_cases h0 : T.kids.length = 0
    · have HE : Hid (indT T = inlT T ++ ⟨#[10]⟩) := by
        show _ = _
        unfold indT inlT
        rw [if_pos hok, if_pos h0]
        symm
        refine ext_list ?_
        rw [cat_list]
      have hz : (inlT T).size ≤ 800000 := by
        have := inlL_length HP.out.2.2
        have h2 := HP.out.2.1
        show (inlL T).length ≤ _
        omega
      rw [h0] at HX HR HI
      have HBk := Lib.hid (spec_block_no T.k T.n T.s (.slice o1 T.keys.length c1) o2 c2)
      clear hok HW
      rw [h0]
      clear h0
      generalize inlT T = X at *
      go_enter Tryd.func5, Tryd.ntmps5
      go_wp2_with (first
        | (go_at_call 11; refine (HR.out _ HX.out.below).mono ?_; rintro e w1 ⟨rfl, hb1⟩; have HX1 := Lib.hid (HX.out.next hb1); obtain ⟨-, -, x0, x1, x2, x3, x4⟩ := HX1.out; clear hb1)
        | (go_at_call 12; refine (HBk.out _).mono ?_; rintro e w2 ⟨rfl, hb2⟩; have HX2 := Lib.hid (HX1.out.next hb2); clear hb2 x0 x1 x2 x3 x4; obtain ⟨-, -, x0, x1, x2, x3, x4⟩ := HX2.out)
        | (go_at_call 14; refine (HI.out _ HX2.out.below HO.out).mono ?_; rintro e w3 ⟨rfl, hb3⟩; have HX3 := Lib.hid (HX2.out.next hb3); clear hb3)
        | fail)
      go_ret
      exact ⟨by rw [HE.out]; rfl, HX3.out.below⟩
    · have HE : Hid (indT T = ⟨(T.lines 0).toArray⟩) := by
        show _ = _
        unfold indT
        rw [if_pos hok, if_neg h0]
      have HBk := Lib.hid (spec_block_yes T.k T.n (kind_of_kids HP.out.2.2 h0) T.s (.slice o1 T.keys.length c1) o2 T.kids.length c2 h0)
      have HWr := Lib.hid (fun wr hb => HW.out wr hb hok (by have := HP.out.2.1; omega) (kind_of_kids HP.out.2.2 h0))
      clear hok h0 HW HI
      go_enter Tryd.func5, Tryd.ntmps5
      go_wp2_with (first
        | (go_at_call 11; refine (HR.out _ HX.out.below).mono ?_; rintro e w1 ⟨rfl, hb1⟩; have HX1 := Lib.hid (HX.out.next hb1); obtain ⟨-, -, x0, x1, x2, x3, x4⟩ := HX1.out; clear hb1)
        | (go_at_call 12; refine (HBk.out _).mono ?_; rintro e w2 ⟨rfl, hb2⟩; have HX2 := Lib.hid (HX1.out.next hb2); clear hb2 x0 x1 x2 x3 x4; obtain ⟨-, -, x0, x1, x2, x3, x4⟩ := HX2.out)
        | (go_at_call 13; refine (HWr.out _ HX2.out.below).mono ?_; rintro e w3 ⟨rfl, hb3⟩; have HX3 := Lib.hid (HX2.out.next hb3); clear hb3)
        | fail)
      go_ret
      exact ⟨by rw [HE.out]; rfl, HX3.out.below⟩
  · have HE : Hid (indT T = ⟨#[]⟩) := if_neg hok
    have hok' : treeOk T = false := by simpa using hok
    rw [hok'] at HR
    clear hok hok'
    go_enter Tryd.func5, Tryd.ntmps5
    go_wp2_with (first
      | (go_at_call 11; refine (HR.out _ HX.out.below).mono ?_; rintro e w1 ⟨rfl, hb1⟩; have HX1 := Lib.hid (HX.out.next hb1); clear hb1)
      | fail)
    go_ret
    exact ⟨by rw [HE.out]; rfl, HX1.out.below⟩
end Go.Proofs.YtlghcjihncmaiaaDoor
