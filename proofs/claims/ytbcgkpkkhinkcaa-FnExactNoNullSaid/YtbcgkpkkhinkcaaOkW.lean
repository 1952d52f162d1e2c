/-
  What is proved: the model's l3Right tells whether a tree is right, its TreeOk whether it is right, not too deep and not too great.
-/
import Derived.Test.YtbcgkpkkhinkcaaOkR
namespace Go.Proofs.Ytbcgkpkkhinkcaa
open Go Go.RowKit

def RightAt (T : RT) : Prop := ∀ (w : World) (kv dv : Value) (F : List Nat), Lies w T kv dv F → Calls Try.prog 41 #[T.val kv dv] w fun e w' => e = .returned (.bool T.right) ∧ Below w.heap.size w w'

theorem right_head_no {T : RT} (h : headOk T = false) : T.right = false := by
  obtain ⟨k, n, s, keys, kids⟩ := T
  rw [RT.right, h, Bool.false_and]
theorem right_kids {k n : Int} {s : ByteArray} {keys : List ByteArray} {kids : List RT} (h : headOk (.node k n s keys kids) = true) : (RT.node k n s keys kids).right = rightAll kids := by
  rw [RT.right, h, Bool.true_and]

section
variable (n : Int) (s : ByteArray) (ko o : Option Addr) (kl kc dl dc : Nat) (w : World)

set_option maxRecDepth 100000 in
set_option maxHeartbeats 800000 in
theorem right4_bad_n (h : ¬ n = 0) : Calls Try.prog 41 #[.agg #[.int .i64 4, .int .i64 n, .string s, .slice ko kl kc, .slice o dl dc]] w fun e w' => e = .returned (.bool false) ∧ Below w.heap.size w w' := by
  go_enter Try.func41, Try.ntmps41
  go_wp2
  go_ret
  exact ⟨rfl, (Below.refl _ w).alloc (Nat.le_refl _) _⟩

set_option maxRecDepth 100000 in
set_option maxHeartbeats 800000 in
theorem right4_bad_s (h : ¬ s = ⟨#[]⟩) : Calls Try.prog 41 #[.agg #[.int .i64 4, .int .i64 0, .string s, .slice ko kl kc, .slice o dl dc]] w fun e w' => e = .returned (.bool false) ∧ Below w.heap.size w w' := by
  have h1 := bytes_ne h
  have h2 := empty_ne h
  go_enter Try.func41, Try.ntmps41
  go_wp2
  go_ret
  exact ⟨rfl, (Below.refl _ w).alloc (Nat.le_refl _) _⟩

set_option maxRecDepth 100000 in
set_option maxHeartbeats 800000 in
theorem right5_bad_n (h : ¬ n = 0) : Calls Try.prog 41 #[.agg #[.int .i64 5, .int .i64 n, .string s, .slice ko kl kc, .slice o dl dc]] w fun e w' => e = .returned (.bool false) ∧ Below w.heap.size w w' := by
  go_enter Try.func41, Try.ntmps41
  go_wp2
  go_ret
  exact ⟨rfl, (Below.refl _ w).alloc (Nat.le_refl _) _⟩

set_option maxRecDepth 100000 in
set_option maxHeartbeats 800000 in
theorem right5_bad_s (h : ¬ s = ⟨#[]⟩) : Calls Try.prog 41 #[.agg #[.int .i64 5, .int .i64 0, .string s, .slice ko kl kc, .slice o dl dc]] w fun e w' => e = .returned (.bool false) ∧ Below w.heap.size w w' := by
  have h1 := bytes_ne h
  have h2 := empty_ne h
  go_enter Try.func41, Try.ntmps41
  go_wp2
  go_ret
  exact ⟨rfl, (Below.refl _ w).alloc (Nat.le_refl _) _⟩

set_option maxRecDepth 100000 in
set_option maxHeartbeats 800000 in
theorem right4_bad_k (h : 0 < kl) (hm : kl ≤ maxLen) : Calls Try.prog 41 #[.agg #[.int .i64 4, .int .i64 0, .string ⟨#[]⟩, .slice ko kl kc, .slice o dl dc]] w fun e w' => e = .returned (.bool false) ∧ Below w.heap.size w w' := by
  unfold maxLen at hm
  have h' : (0 : Int) < kl := by omega
  go_enter Try.func41, Try.ntmps41
  go_wp2
  go_ret
  exact ⟨rfl, (Below.refl _ w).alloc (Nat.le_refl _) _⟩

set_option maxRecDepth 100000 in
set_option maxHeartbeats 800000 in
theorem right5_bad_k (h : ¬ (kl : Int) = dl) : Calls Try.prog 41 #[.agg #[.int .i64 5, .int .i64 0, .string ⟨#[]⟩, .slice ko kl kc, .slice o dl dc]] w fun e w' => e = .returned (.bool false) ∧ Below w.heap.size w w' := by
  go_enter Try.func41, Try.ntmps41
  go_wp2
  go_ret
  exact ⟨rfl, (Below.refl _ w).alloc (Nat.le_refl _) _⟩

set_option maxRecDepth 100000 in
set_option maxHeartbeats 800000 in
theorem right5_bad_keys {kv : Value} {keys : List ByteArray} {FK : List Nat} (hK : StrsAt w kv keys FK) (h : keysOk keys = false) : Calls Try.prog 41 #[.agg #[.int .i64 5, .int .i64 0, .string ⟨#[]⟩, kv, .slice o keys.length dc]] w fun e w' => e = .returned (.bool false) ∧ Below w.heap.size w w' := by
  have HX := Lib.hid (Box.start w (.int .i64 5) (.int .i64 0) (.string ⟨#[]⟩) kv (.slice o keys.length dc) 29)
  have HT := Lib.hid (spec_keys _ (hK.stay HX.out.below (Nat.le_refl _)))
  rw [h] at HT
  obtain ⟨ko, kc, rfl⟩ := hK.slice
  clear hK h
  go_enter Try.func41, Try.ntmps41
  go_wp2_with (first | (go_at_call 49; refine HT.out.mono ?_; rintro e w1 ⟨rfl, hb1⟩; have HB := Lib.hid (HX.out.next hb1).below; clear hb1) | fail)
  go_ret
  exact ⟨rfl, HB.out⟩

end

set_option maxRecDepth 100000 in
set_option maxHeartbeats 1600000 in
theorem right4_good {kids : List RT} (ih : ∀ t ∈ kids, RightAt t) (w : World) (ko : Option Addr) (kc : Nat) {dv : Value} {F : List Nat} (hD : KidsLie w dv kids F) :
    Calls Try.prog 41 #[.agg #[.int .i64 4, .int .i64 0, .string ⟨#[]⟩, .slice ko 0 kc, dv]] w fun e w' => e = .returned (.bool (rightAll kids)) ∧ Below w.heap.size w w' := by
  obtain ⟨o, cap, b, off, FF, KV, DV, rfl, hlc, hcm, ho, -, hcell, hlies, -⟩ := hD
  have HX := Lib.hid (Box.start w (.int .i64 4) (.int .i64 0) (.string ⟨#[]⟩) (.slice ko 0 kc) (.slice o kids.length cap) 29)
  have HC := Lib.hid hcell
  have HL := Lib.hid hlies
  have HO := Lib.hid ho
  clear hcell hlies ho
  unfold maxLen at hcm
  go_enter Try.func41, Try.ntmps41
  go_wp2
  go_loopw [3] (fun i wr => ∃ j : Nat, j ≤ kids.length ∧ i = .int .i64 j ∧ Hid (∀ i (h : i < kids.length), i < j → kids[i].right = true) ∧ Hid (Box w wr (.int .i64 4) (.int .i64 0) (.string ⟨#[]⟩) (.slice ko 0 kc) (.slice o kids.length cap))) (fun i _ => kids.length - (intOf i).toNat)
  case atStart => exact ⟨0, Nat.zero_le _, rfl, fun i _ h => absurd h (by omega), HX.out⟩
  case round =>
    obtain ⟨j, hj, rfl, hr, hx⟩ := hrel
    obtain ⟨hb, -, x0, x1, x2, x3, x4⟩ := hx.out
    by_cases hlt : j < kids.length
    · have ho := HO.out (by omega)
      subst ho
      obtain ⟨c0, c1, c2, c3, c4⟩ := kid_cells (HC.out j hlt) hb
      have HI := Lib.hid (ih _ (List.getElem_mem hlt) wr _ _ _ ((HL.out j hlt).stay hb (Nat.le_refl _)))
      by_cases hrt : kids[j].right = true
      · have HY : Hid (∀ i (h : i < kids.length), i < j + 1 → kids[i].right = true) := fun i h hi => by
          by_cases e : i = j
          · subst e; exact hrt
          · exact hr.out i h (by omega)
        rw [hrt] at HI
        clear hb hrt
        generalize kids[j] = x at *
        go_wp2_with (first
          | (go_at_call 41; refine HI.out.mono ?_; rintro e w1 ⟨rfl, hb1⟩; have HB1 := Lib.hid hb1; clear hb1)
          | go_in)
        exact ⟨⟨j + 1, by omega, by go_num, HY.out, hx.out.next HB1.out⟩, by simp [intOf]; omega⟩
      · have HN : Hid (rightAll kids = false) := by
          show rightAll kids = false
          rw [← Bool.not_eq_true, rightAll_iff]
          exact fun h => hrt (h j hlt)
        have hrt' : kids[j].right = false := by simpa using hrt
        rw [hrt'] at HI
        clear hb hrt hrt'
        generalize kids[j] = x at *
        go_wp2_with (first
          | (go_at_call 41; refine HI.out.mono ?_; rintro e w1 ⟨rfl, hb1⟩; have HB1 := Lib.hid (hx.out.next hb1).below; clear hb1)
          | go_in)
        go_ret
        exact ⟨by rw [HN.out]; rfl, HB1.out⟩
    · have HY : Hid (rightAll kids = true) := (rightAll_iff kids).2 fun i h => hr.out i h (by omega)
      have HB := Lib.hid hb
      clear hb
      go_wp2
      go_ret
      exact ⟨by rw [HY.out]; rfl, HB.out⟩

set_option maxRecDepth 100000 in
set_option maxHeartbeats 1600000 in
theorem right5_good {kids : List RT} (ih : ∀ t ∈ kids, RightAt t) (w : World) (ko : Option Addr) (kc : Nat) {dv : Value} {F : List Nat} (hD : KidsLie w dv kids F) {keys : List ByteArray} {FK : List Nat} (hK : StrsAt w (.slice ko kids.length kc) keys FK) (hk : keysOk keys = true) :
    Calls Try.prog 41 #[.agg #[.int .i64 5, .int .i64 0, .string ⟨#[]⟩, .slice ko kids.length kc, dv]] w fun e w' => e = .returned (.bool (rightAll kids)) ∧ Below w.heap.size w w' := by
  obtain ⟨o, cap, b, off, FF, KV, DV, rfl, hlc, hcm, ho, -, hcell, hlies, -⟩ := hD
  have HX := Lib.hid (Box.start w (.int .i64 5) (.int .i64 0) (.string ⟨#[]⟩) (.slice ko kids.length kc) (.slice o kids.length cap) 29)
  have HC := Lib.hid hcell
  have HL := Lib.hid hlies
  have HO := Lib.hid ho
  clear hcell hlies ho
  unfold maxLen at hcm
  have HT := Lib.hid (spec_keys _ (hK.stay HX.out.below (Nat.le_refl _)))
  rw [hk] at HT
  clear hK hk
  go_enter Try.func41, Try.ntmps41
  go_wp2_with (first | (go_at_call 49; refine HT.out.mono ?_; rintro e w1 ⟨rfl, hb1⟩; have HX1 := Lib.hid (HX.out.next hb1); clear hb1) | fail)
  go_loopw [3] (fun i wr => ∃ j : Nat, j ≤ kids.length ∧ i = .int .i64 j ∧ Hid (∀ i (h : i < kids.length), i < j → kids[i].right = true) ∧ Hid (Box w wr (.int .i64 5) (.int .i64 0) (.string ⟨#[]⟩) (.slice ko kids.length kc) (.slice o kids.length cap))) (fun i _ => kids.length - (intOf i).toNat)
  case atStart => exact ⟨0, Nat.zero_le _, rfl, fun i _ h => absurd h (by omega), HX1.out⟩
  case round =>
    obtain ⟨j, hj, rfl, hr, hx⟩ := hrel
    obtain ⟨hb, -, x0, x1, x2, x3, x4⟩ := hx.out
    by_cases hlt : j < kids.length
    · have ho := HO.out (by omega)
      subst ho
      obtain ⟨c0, c1, c2, c3, c4⟩ := kid_cells (HC.out j hlt) hb
      have HI := Lib.hid (ih _ (List.getElem_mem hlt) wr _ _ _ ((HL.out j hlt).stay hb (Nat.le_refl _)))
      by_cases hrt : kids[j].right = true
      · have HY : Hid (∀ i (h : i < kids.length), i < j + 1 → kids[i].right = true) := fun i h hi => by
          by_cases e : i = j
          · subst e; exact hrt
          · exact hr.out i h (by omega)
        rw [hrt] at HI
        clear hb hrt
        generalize kids[j] = x at *
        go_wp2_with (first
          | (go_at_call 41; refine HI.out.mono ?_; rintro e w1 ⟨rfl, hb1⟩; have HB1 := Lib.hid hb1; clear hb1)
          | go_in)
        exact ⟨⟨j + 1, by omega, by go_num, HY.out, hx.out.next HB1.out⟩, by simp [intOf]; omega⟩
      · have HN : Hid (rightAll kids = false) := by
          show rightAll kids = false
          rw [← Bool.not_eq_true, rightAll_iff]
          exact fun h => hrt (h j hlt)
        have hrt' : kids[j].right = false := by simpa using hrt
        rw [hrt'] at HI
        clear hb hrt hrt'
        generalize kids[j] = x at *
        go_wp2_with (first
          | (go_at_call 41; refine HI.out.mono ?_; rintro e w1 ⟨rfl, hb1⟩; have HB1 := Lib.hid (hx.out.next hb1).below; clear hb1)
          | go_in)
        go_ret
        exact ⟨by rw [HN.out]; rfl, HB1.out⟩
    · have HY : Hid (rightAll kids = true) := (rightAll_iff kids).2 fun i h => hr.out i h (by omega)
      have HB := Lib.hid hb
      clear hb
      go_wp2
      go_ret
      exact ⟨by rw [HY.out]; rfl, HB.out⟩

set_option maxRecDepth 100000 in
set_option maxHeartbeats 800000 in
theorem right_leaf (k n : Int) (s : ByteArray) (ko o : Option Addr) (kl kc dl dc : Nat) (r : Bool) (k4 : ¬ k = 4) (k5 : ¬ k = 5) (w : World)
    (hx : Box w (w.alloc (.cells #[.int .i64 k, .int .i64 n, .string s, .slice ko kl kc, .slice o dl dc] 29)) (.int .i64 k) (.int .i64 n) (.string s) (.slice ko kl kc) (.slice o dl dc))
    (hl : ∀ w : World, Calls Try.prog 48 #[.agg #[.int .i64 k, .int .i64 n, .string s, .slice ko kl kc, .slice o dl dc]] w fun e w' => e = .returned (.bool r) ∧ Below w.heap.size w w') :
    Calls Try.prog 41 #[.agg #[.int .i64 k, .int .i64 n, .string s, .slice ko kl kc, .slice o dl dc]] w fun e w' => e = .returned (.bool r) ∧ Below w.heap.size w w' := by
  have HX := Lib.hid hx
  have HL := Lib.hid hl
  have q4 : (k != 4) = true := by simpa using k4
  have q5 : (k != 5) = true := by simpa using k5
  clear hx hl
  go_enter Try.func41, Try.ntmps41
  go_wp2_with (first | (go_at_call 48; refine (HL.out _).mono ?_; rintro e w1 ⟨rfl, hb1⟩; have HB := Lib.hid (HX.out.next hb1).below; clear hb1) | fail)
  go_ret
  exact ⟨rfl, HB.out⟩

theorem spec_right (T : RT) : RightAt T := by
  induction T using RT.ind with
  | h k n s keys kids ih =>
    intro w kv dv F hl
    obtain ⟨-, -, hs, FK, FD, hK, hD, -⟩ := hl.outn
    have hK' := hK
    have hD' := hD
    obtain ⟨ko, kc, kb, kof, rfl, hkl, hkm, -, -, -⟩ := hK
    obtain ⟨o, dc, b, off, FF, KV, DV, rfl, hdl, hdm, -, -, -, -⟩ := hD
    show Calls Try.prog 41 #[.agg #[.int .i64 k, .int .i64 n, .string s, .slice ko keys.length kc, .slice o kids.length dc]] w _
    have hkm' : keys.length ≤ maxLen := Nat.le_trans hkl hkm
    have hdm' : kids.length ≤ maxLen := Nat.le_trans hdl hdm
    by_cases k4 : k = 4
    · subst k4
      by_cases e1 : n = 0
      · by_cases e2 : s = ⟨#[]⟩
        · by_cases e3 : keys.length = 0
          · rw [right_kids (headOk_yes (head4.2 ⟨e1, e2, e3⟩)), e1, e2, e3]
            exact right4_good ih w ko kc hD'
          · rw [right_head_no (headOk_no (fun h => e3 (head4.1 h).2.2)), e1, e2]
            exact right4_bad_k ko o _ kc _ dc w (by omega) hkm'
        · rw [right_head_no (headOk_no (fun h => e2 (head4.1 h).2.1)), e1]
          exact right4_bad_s s ko o _ kc _ dc w e2
      · rw [right_head_no (headOk_no (fun h => e1 (head4.1 h).1))]
        exact right4_bad_n n s ko o _ kc _ dc w e1
    by_cases k5 : k = 5
    · subst k5
      by_cases e1 : n = 0
      · by_cases e2 : s = ⟨#[]⟩
        · by_cases e3 : keys.length = kids.length
          · by_cases e4 : keysOk keys = true
            · rw [right_kids (headOk_yes (head5.2 ⟨e1, e2, e3, e4⟩)), e1, e2, e3]
              rw [e3] at hK'
              exact right5_good ih w ko kc hD' hK' e4
            · rw [right_head_no (headOk_no (fun h => e4 (head5.1 h).2.2.2)), e1, e2, ← e3]
              exact right5_bad_keys o dc w hK' (by simpa using e4)
          · rw [right_head_no (headOk_no (fun h => e3 (head5.1 h).2.2.1)), e1, e2]
            exact right5_bad_k ko o _ kc _ dc w (by omega)
        · rw [right_head_no (headOk_no (fun h => e2 (head5.1 h).2.1)), e1]
          exact right5_bad_s s ko o _ kc _ dc w e2
      · rw [right_head_no (headOk_no (fun h => e1 (head5.1 h).1))]
        exact right5_bad_n n s ko o _ kc _ dc w e1
    · have HX := Lib.hid (Box.start w (.int .i64 k) (.int .i64 n) (.string s) (.slice ko keys.length kc) (.slice o kids.length dc) 29)
      have HL : Hid (∀ w : World, Calls Try.prog 48 #[.agg #[.int .i64 k, .int .i64 n, .string s, .slice ko keys.length kc, .slice o kids.length dc]] w fun e w' => e = .returned (.bool (RT.node k n s keys kids).right) ∧ Below w.heap.size w w') := fun w => by
        by_cases d0 : kids = []
        · subst d0
          by_cases d1 : keys = []
          · subst d1
            have : (RT.node k n s [] []).right = headOk (.node k n s [] []) := by rw [RT.right, rightAll, Bool.and_true]
            rw [this]
            exact leaf_head n s ko o kc dc w k hs k4 k5
          · rw [right_head_no (headOk_no (fun h => d1 ?_))]
            · exact leaf_keys n s ko o _ kc dc w k (by rcases keys with _ | ⟨x, l⟩; exact absurd rfl d1; simp) hkm'
            · rcases h with h | h | h | h | h | h
              · exact List.length_eq_zero_iff.1 h.2.2.2.1
              · exact List.length_eq_zero_iff.1 h.2.2.2.1
              · exact List.length_eq_zero_iff.1 h.2.2.2.1
              · exact List.length_eq_zero_iff.1 h.2.2.2.1
              · exact absurd h.1 k4
              · exact absurd h.1 k5
        · rw [right_head_no (headOk_no (fun h => d0 ?_))]
          · exact leaf_kids n s ko o _ kc _ dc w k (by rcases kids with _ | ⟨x, l⟩; exact absurd rfl d0; simp) hdm'
          · rcases h with h | h | h | h | h | h
            · exact List.length_eq_zero_iff.1 h.2.2.2.2
            · exact List.length_eq_zero_iff.1 h.2.2.2.2
            · exact List.length_eq_zero_iff.1 h.2.2.2.2
            · exact List.length_eq_zero_iff.1 h.2.2.2.2
            · exact absurd h.1 k4
            · exact absurd h.1 k5
      exact right_leaf k n s ko o _ kc _ dc _ k4 k5 w HX.out HL.out

/-- Right, not too deep, not too great. -/
noncomputable def treeOk (T : RT) : Bool := decide (T.deep ≤ 8) && decide (T.size ≤ 200) && T.right

set_option maxRecDepth 100000 in
set_option maxHeartbeats 800000 in
theorem spec_treeOk (T : RT) (w : World) (kv dv : Value) (F : List Nat) (hl : Lies w T kv dv F) (hsz : T.sz ≤ 1048576) :
    Calls Try.prog 29 #[.agg #[.int .i64 T.k, .int .i64 T.n, .string T.s, kv, dv]] w fun e w' => e = .returned (.bool (treeOk T)) ∧ Below w.heap.size w w' := by
  have HX := Lib.hid (Box.start w (.int .i64 T.k) (.int .i64 T.n) (.string T.s) kv dv 29)
  have h1 := Lib.hid fun (wr : World) (hb : Below w.heap.size w wr) => spec_deep T wr kv dv F (hl.stay hb (Nat.le_refl _)) hsz
  have h2 := Lib.hid fun (wr : World) (hb : Below w.heap.size w wr) => spec_size T wr kv dv F (hl.stay hb (Nat.le_refl _)) hsz
  have h3 := Lib.hid fun (wr : World) (hb : Below w.heap.size w wr) => spec_right T wr kv dv F (hl.stay hb (Nat.le_refl _))
  unfold treeOk
  clear hl hsz
  by_cases d1 : T.deep ≤ 8
  · by_cases d2 : T.size ≤ 200
    · rw [decide_eq_true d1, decide_eq_true d2, Bool.true_and, Bool.true_and]
      have d1' : ((T.deep : Nat) : Int) ≤ 8 := by omega
      have d2' : ((T.size : Nat) : Int) ≤ 200 := by omega
      generalize T.right = r at *
      go_enter Try.func29, Try.ntmps29
      go_wp2_with fail
      refine (h1.out _ HX.out.below).mono ?_
      rintro e w1 ⟨rfl, hb1⟩
      have HX1 := Lib.hid (HX.out.next hb1)
      clear hb1
      obtain ⟨-, -, x0, x1, x2, x3, x4⟩ := HX1.out
      go_wp2_with fail
      refine (h2.out _ HX1.out.below).mono ?_
      rintro e w2 ⟨rfl, hb2⟩
      have HX2 := Lib.hid (HX1.out.next hb2)
      clear hb2 x0 x1 x2 x3 x4
      obtain ⟨-, -, x0, x1, x2, x3, x4⟩ := HX2.out
      go_wp2_with fail
      refine (h3.out _ HX2.out.below).mono ?_
      rintro e w3 ⟨rfl, hb3⟩
      have HB := Lib.hid (HX2.out.next hb3).below
      clear hb3 x0 x1 x2 x3 x4
      go_wp2
      go_ret
      exact ⟨rfl, HB.out⟩
    · rw [decide_eq_true d1, decide_eq_false d2, Bool.true_and, Bool.false_and]
      have d1' : ((T.deep : Nat) : Int) ≤ 8 := by omega
      have d2' : ¬ ((T.size : Nat) : Int) ≤ 200 := by omega
      go_enter Try.func29, Try.ntmps29
      go_wp2_with fail
      refine (h1.out _ HX.out.below).mono ?_
      rintro e w1 ⟨rfl, hb1⟩
      have HX1 := Lib.hid (HX.out.next hb1)
      clear hb1
      obtain ⟨-, -, x0, x1, x2, x3, x4⟩ := HX1.out
      go_wp2_with fail
      refine (h2.out _ HX1.out.below).mono ?_
      rintro e w2 ⟨rfl, hb2⟩
      have HB := Lib.hid (HX1.out.next hb2).below
      clear hb2 x0 x1 x2 x3 x4
      go_wp2
      go_ret
      exact ⟨rfl, HB.out⟩
  · rw [decide_eq_false d1, Bool.false_and, Bool.false_and]
    have d1' : ¬ ((T.deep : Nat) : Int) ≤ 8 := by omega
    go_enter Try.func29, Try.ntmps29
    go_wp2_with fail
    refine (h1.out _ HX.out.below).mono ?_
    rintro e w1 ⟨rfl, hb1⟩
    have HB := Lib.hid (HX.out.next hb1).below
    clear hb1
    go_wp2
    go_ret
    exact ⟨rfl, HB.out⟩
end Go.Proofs.Ytbcgkpkkhinkcaa
