/-
  What is proved: the model's l3Right tells whether a tree is right, its TreeOk whether it is right, not too deep and not too great.; plain facts on the text that a tree is written as in braces: its parts, one behind the other, and how long it is at most.; the program's reading of braced texts: what has no parts, read as it was written; what is no text between marks, and a word that is not next, are refused.
-/
import Derived.Test.YtmcjghhmcmkomaaGreatDoorPartAE
import Derived.Test.YtmcjghhmcmkomaaGreatDoorPartAA
import Derived.Lib.Join
import Derived.Test.YtmcjghhmcmkomaaGreatDoorPartAB
import Derived.Test.YtmcjghhmcmkomaaGreatDoorPartAC
import Derived.Test.YtmcjghhmcmkomaaGreatDoorPartAD
/- the model's l3Right tells whether a tree is right, its TreeOk whether it is right, not too deep and not too great. -/
namespace Go.Proofs.YtmcjghhmcmkomaaGreatDoor
open Go Go.RowKit

def RightAt (T : RT) : Prop := ∀ (w : World) (kv dv : Value) (F : List Nat), Lies w T kv dv F → Calls Tryz.prog 45 #[T.val kv dv] w fun e w' => e = .returned (.bool T.right) ∧ Below w.heap.size w w'

theorem right_head_no {T : RT} (h : headOk T = false) : T.right = false := by
  obtain ⟨k, n, s, keys, kids⟩ := T
  rw [RT.right, h, Bool.false_and]
theorem right_kids {k n : Int} {s : ByteArray} {keys : List ByteArray} {kids : List RT} (h : headOk (.node k n s keys kids) = true) : (RT.node k n s keys kids).right = rightAll kids := by
  rw [RT.right, h, Bool.true_and]

section
variable (n : Int) (s : ByteArray) (ko o : Option Addr) (kl kc dl dc : Nat) (w : World)

set_option maxRecDepth 100000 in
set_option maxHeartbeats 800000 in
theorem right4_bad_n (h : ¬ n = 0) : Calls Tryz.prog 45 #[.agg #[.int .i64 4, .int .i64 n, .string s, .slice ko kl kc, .slice o dl dc]] w fun e w' => e = .returned (.bool false) ∧ Below w.heap.size w w' := by
  go_enter Tryz.func45, Tryz.ntmps45
  go_wp2
  go_ret
  exact ⟨rfl, (Below.refl _ w).alloc (Nat.le_refl _) _⟩

set_option maxRecDepth 100000 in
set_option maxHeartbeats 800000 in
theorem right4_bad_s (h : ¬ s = ⟨#[]⟩) : Calls Tryz.prog 45 #[.agg #[.int .i64 4, .int .i64 0, .string s, .slice ko kl kc, .slice o dl dc]] w fun e w' => e = .returned (.bool false) ∧ Below w.heap.size w w' := by
  have h1 := bytes_ne h
  have h2 := empty_ne h
  go_enter Tryz.func45, Tryz.ntmps45
  go_wp2
  go_ret
  exact ⟨rfl, (Below.refl _ w).alloc (Nat.le_refl _) _⟩

set_option maxRecDepth 100000 in
set_option maxHeartbeats 800000 in
theorem right5_bad_n (h : ¬ n = 0) : Calls Tryz.prog 45 #[.agg #[.int .i64 5, .int .i64 n, .string s, .slice ko kl kc, .slice o dl dc]] w fun e w' => e = .returned (.bool false) ∧ Below w.heap.size w w' := by
  go_enter Tryz.func45, Tryz.ntmps45
  go_wp2
  go_ret
  exact ⟨rfl, (Below.refl _ w).alloc (Nat.le_refl _) _⟩

set_option maxRecDepth 100000 in
set_option maxHeartbeats 800000 in
theorem right5_bad_s (h : ¬ s = ⟨#[]⟩) : Calls Tryz.prog 45 #[.agg #[.int .i64 5, .int .i64 0, .string s, .slice ko kl kc, .slice o dl dc]] w fun e w' => e = .returned (.bool false) ∧ Below w.heap.size w w' := by
  have h1 := bytes_ne h
  have h2 := empty_ne h
  go_enter Tryz.func45, Tryz.ntmps45
  go_wp2
  go_ret
  exact ⟨rfl, (Below.refl _ w).alloc (Nat.le_refl _) _⟩

set_option maxRecDepth 100000 in
set_option maxHeartbeats 800000 in
theorem right4_bad_k (h : 0 < kl) (hm : kl ≤ maxLen) : Calls Tryz.prog 45 #[.agg #[.int .i64 4, .int .i64 0, .string ⟨#[]⟩, .slice ko kl kc, .slice o dl dc]] w fun e w' => e = .returned (.bool false) ∧ Below w.heap.size w w' := by
  unfold maxLen at hm
  have h' : (0 : Int) < kl := by omega
  go_enter Tryz.func45, Tryz.ntmps45
  go_wp2
  go_ret
  exact ⟨rfl, (Below.refl _ w).alloc (Nat.le_refl _) _⟩

set_option maxRecDepth 100000 in
set_option maxHeartbeats 800000 in
theorem right5_bad_k (h : ¬ (kl : Int) = dl) : Calls Tryz.prog 45 #[.agg #[.int .i64 5, .int .i64 0, .string ⟨#[]⟩, .slice ko kl kc, .slice o dl dc]] w fun e w' => e = .returned (.bool false) ∧ Below w.heap.size w w' := by
  go_enter Tryz.func45, Tryz.ntmps45
  go_wp2
  go_ret
  exact ⟨rfl, (Below.refl _ w).alloc (Nat.le_refl _) _⟩

set_option maxRecDepth 100000 in
set_option maxHeartbeats 800000 in
theorem right5_bad_keys {kv : Value} {keys : List ByteArray} {FK : List Nat} (hK : StrsAt w kv keys FK) (h : keysOk keys = false) : Calls Tryz.prog 45 #[.agg #[.int .i64 5, .int .i64 0, .string ⟨#[]⟩, kv, .slice o keys.length dc]] w fun e w' => e = .returned (.bool false) ∧ Below w.heap.size w w' := by
  have HX := Lib.hid (Box.start w (.int .i64 5) (.int .i64 0) (.string ⟨#[]⟩) kv (.slice o keys.length dc) 27)
  have HT := Lib.hid (spec_keys _ (hK.stay HX.out.below (Nat.le_refl _)))
  rw [h] at HT
  obtain ⟨ko, kc, rfl⟩ := hK.slice
  clear hK h
  go_enter Tryz.func45, Tryz.ntmps45
  go_wp2_with (first | (go_at_call 73; refine HT.out.mono ?_; rintro e w1 ⟨rfl, hb1⟩; have HB := Lib.hid (HX.out.next hb1).below; clear hb1) | fail)
  go_ret
  exact ⟨rfl, HB.out⟩

end

set_option maxRecDepth 100000 in
set_option maxHeartbeats 1600000 in
theorem right4_good {kids : List RT} (ih : ∀ t ∈ kids, RightAt t) (w : World) (ko : Option Addr) (kc : Nat) {dv : Value} {F : List Nat} (hD : KidsLie w dv kids F) :
    Calls Tryz.prog 45 #[.agg #[.int .i64 4, .int .i64 0, .string ⟨#[]⟩, .slice ko 0 kc, dv]] w fun e w' => e = .returned (.bool (rightAll kids)) ∧ Below w.heap.size w w' := by
  obtain ⟨o, cap, b, off, FF, KV, DV, rfl, hlc, hcm, ho, -, hcell, hlies, -⟩ := hD
  have HX := Lib.hid (Box.start w (.int .i64 4) (.int .i64 0) (.string ⟨#[]⟩) (.slice ko 0 kc) (.slice o kids.length cap) 27)
  have HC := Lib.hid hcell
  have HL := Lib.hid hlies
  have HO := Lib.hid ho
  clear hcell hlies ho
  unfold maxLen at hcm
  go_enter Tryz.func45, Tryz.ntmps45
  go_wp2
  go_loopw [3] (fun i wr => ∃ j : Nat, j ≤ kids.length ∧ i = .int .i64 j ∧ Hid (∀ i (h : i < kids.length), i < j → kids[i].right = true) ∧ Hid (Box w wr (.int .i64 4) (.int .i64 0) (.string ⟨#[]⟩) (.slice ko 0 kc) (.slice o kids.length cap))) (fun i _ => kids.length - (intOf i).toNat)
  case atStart => exact ⟨0, Nat.zero_le _, rfl, fun i _ h => absurd h (by omega), HX.out⟩
  case round =>
    obtain ⟨j, hj, rfl, hr, hx⟩ := hrel
    obtain ⟨hb, -, x0, x1, x2, x3, x4⟩ := hx.out
    by_cases hlt : j < kids.length
    · have ho := HO.out (by omega)
      subst ho
      obtain ⟨c0, c1, c2, c3, c4⟩ := kid_cells (HC.out j hlt) hb
      have HI := Lib.hid (ih _ (List.getElem_mem hlt) wr _ _ _ ((HL.out j hlt).stay hb (Nat.le_refl _)))
      by_cases hrt : kids[j].right = true
      · have HY : Hid (∀ i (h : i < kids.length), i < j + 1 → kids[i].right = true) := fun i h hi => by
          by_cases e : i = j
          · subst e; exact hrt
          · exact hr.out i h (by omega)
        rw [hrt] at HI
        clear hb hrt
        generalize kids[j] = x at *
        go_wp2_with (first
          | (go_at_call 45; refine HI.out.mono ?_; rintro e w1 ⟨rfl, hb1⟩; have HB1 := Lib.hid hb1; clear hb1)
          | go_in)
        exact ⟨⟨j + 1, by omega, by go_num, HY.out, hx.out.next HB1.out⟩, by simp [intOf]; omega⟩
      · have HN : Hid (rightAll kids = false) := by
          show rightAll kids = false
          rw [← Bool.not_eq_true, rightAll_iff]
          exact fun h => hrt (h j hlt)
        have hrt' : kids[j].right = false := by simpa using hrt
        rw [hrt'] at HI
        clear hb hrt hrt'
        generalize kids[j] = x at *
        go_wp2_with (first
          | (go_at_call 45; refine HI.out.mono ?_; rintro e w1 ⟨rfl, hb1⟩; have HB1 := Lib.hid (hx.out.next hb1).below; clear hb1)
          | go_in)
        go_ret
        exact ⟨by rw [HN.out]; rfl, HB1.out⟩
    · have HY : Hid (rightAll kids = true) := (rightAll_iff kids).2 fun i h => hr.out i h (by omega)
      have HB := Lib.hid hb
      clear hb
      go_wp2
      go_ret
      exact ⟨by rw [HY.out]; rfl, HB.out⟩

set_option maxRecDepth 100000 in
set_option maxHeartbeats 1600000 in
theorem right5_good {kids : List RT} (ih : ∀ t ∈ kids, RightAt t) (w : World) (ko : Option Addr) (kc : Nat) {dv : Value} {F : List Nat} (hD : KidsLie w dv kids F) {keys : List ByteArray} {FK : List Nat} (hK : StrsAt w (.slice ko kids.length kc) keys FK) (hk : keysOk keys = true) :
    Calls Tryz.prog 45 #[.agg #[.int .i64 5, .int .i64 0, .string ⟨#[]⟩, .slice ko kids.length kc, dv]] w fun e w' => e = .returned (.bool (rightAll kids)) ∧ Below w.heap.size w w' := by
  obtain ⟨o, cap, b, off, FF, KV, DV, rfl, hlc, hcm, ho, -, hcell, hlies, -⟩ := hD
  have HX := Lib.hid (Box.start w (.int .i64 5) (.int .i64 0) (.string ⟨#[]⟩) (.slice ko kids.length kc) (.slice o kids.length cap) 27)
  have HC := Lib.hid hcell
  have HL := Lib.hid hlies
  have HO := Lib.hid ho
  clear hcell hlies ho
  unfold maxLen at hcm
  have HT := Lib.hid (spec_keys _ (hK.stay HX.out.below (Nat.le_refl _)))
  rw [hk] at HT
  clear hK hk
  go_enter Tryz.func45, Tryz.ntmps45
  go_wp2_with (first | (go_at_call 73; refine HT.out.mono ?_; rintro e w1 ⟨rfl, hb1⟩; have HX1 := Lib.hid (HX.out.next hb1); clear hb1) | fail)
  go_loopw [3] (fun i wr => ∃ j : Nat, j ≤ kids.length ∧ i = .int .i64 j ∧ Hid (∀ i (h : i < kids.length), i < j → kids[i].right = true) ∧ Hid (Box w wr (.int .i64 5) (.int .i64 0) (.string ⟨#[]⟩) (.slice ko kids.length kc) (.slice o kids.length cap))) (fun i _ => kids.length - (intOf i).toNat)
  case atStart => exact ⟨0, Nat.zero_le _, rfl, fun i _ h => absurd h (by omega), HX1.out⟩
  case round =>
    obtain ⟨j, hj, rfl, hr, hx⟩ := hrel
    obtain ⟨hb, -, x0, x1, x2, x3, x4⟩ := hx.out
    by_cases hlt : j < kids.length
    · have ho := HO.out (by omega)
      subst ho
      obtain ⟨c0, c1, c2, c3, c4⟩ := kid_cells (HC.out j hlt) hb
      have HI := Lib.hid (ih _ (List.getElem_mem hlt) wr _ _ _ ((HL.out j hlt).stay hb (Nat.le_refl _)))
      by_cases hrt : kids[j].right = true
      · have HY : Hid (∀ i (h : i < kids.length), i < j + 1 → kids[i].right = true) := fun i h hi => by
          by_cases e : i = j
          · subst e; exact hrt
          · exact hr.out i h (by omega)
        rw [hrt] at HI
        clear hb hrt
        generalize kids[j] = x at *
        go_wp2_with (first
          | (go_at_call 45; refine HI.out.mono ?_; rintro e w1 ⟨rfl, hb1⟩; have HB1 := Lib.hid hb1; clear hb1)
          | go_in)
        exact ⟨⟨j + 1, by omega, by go_num, HY.out, hx.out.next HB1.out⟩, by simp [intOf]; omega⟩
      · have HN : Hid (rightAll kids = false) := by
          show rightAll kids = false
          rw [← Bool.not_eq_true, rightAll_iff]
          exact fun h => hrt (h j hlt)
        have hrt' : kids[j].right = false := by simpa using hrt
        rw [hrt'] at HI
        clear hb hrt hrt'
        generalize kids[j] = x at *
        go_wp2_with (first
          | (go_at_call 45; refine HI.out.mono ?_; rintro e w1 ⟨rfl, hb1⟩; have HB1 := Lib.hid (hx.out.next hb1).below; clear hb1)
          | go_in)
        go_ret
        exact ⟨by rw [HN.out]; rfl, HB1.out⟩
    · have HY : Hid (rightAll kids = true) := (rightAll_iff kids).2 fun i h => hr.out i h (by omega)
      have HB := Lib.hid hb
      clear hb
      go_wp2
      go_ret
      exact ⟨by rw [HY.out]; rfl, HB.out⟩

set_option maxRecDepth 100000 in
set_option maxHeartbeats 800000 in
theorem right_leaf (k n : Int) (s : ByteArray) (ko o : Option Addr) (kl kc dl dc : Nat) (r : Bool) (k4 : ¬ k = 4) (k5 : ¬ k = 5) (w : World)
    (hx : Box w (w.alloc (.cells #[.int .i64 k, .int .i64 n, .string s, .slice ko kl kc, .slice o dl dc] 27)) (.int .i64 k) (.int .i64 n) (.string s) (.slice ko kl kc) (.slice o dl dc))
    (hl : ∀ w : World, Calls Tryz.prog 72 #[.agg #[.int .i64 k, .int .i64 n, .string s, .slice ko kl kc, .slice o dl dc]] w fun e w' => e = .returned (.bool r) ∧ Below w.heap.size w w') :
    Calls Tryz.prog 45 #[.agg #[.int .i64 k, .int .i64 n, .string s, .slice ko kl kc, .slice o dl dc]] w fun e w' => e = .returned (.bool r) ∧ Below w.heap.size w w' := by
  have HX := Lib.hid hx
  have HL := Lib.hid hl
  have q4 : (k != 4) = true := by simpa using k4
  have q5 : (k != 5) = true := by simpa using k5
  clear hx hl
  go_enter Tryz.func45, Tryz.ntmps45
  go_wp2_with (first | (go_at_call 72; refine (HL.out _).mono ?_; rintro e w1 ⟨rfl, hb1⟩; have HB := Lib.hid (HX.out.next hb1).below; clear hb1) | fail)
  go_ret
  exact ⟨rfl, HB.out⟩

theorem spec_right (T : RT) : RightAt T := by
  induction T using RT.ind with
  | h k n s keys kids ih =>
    intro w kv dv F hl
    obtain ⟨-, -, hs, FK, FD, hK, hD, -⟩ := hl.outn
    have hK' := hK
    have hD' := hD
    obtain ⟨ko, kc, kb, kof, rfl, hkl, hkm, -, -, -⟩ := hK
    obtain ⟨o, dc, b, off, FF, KV, DV, rfl, hdl, hdm, -, -, -, -⟩ := hD
    show Calls Tryz.prog 45 #[.agg #[.int .i64 k, .int .i64 n, .string s, .slice ko keys.length kc, .slice o kids.length dc]] w _
    have hkm' : keys.length ≤ maxLen := Nat.le_trans hkl hkm
    have hdm' : kids.length ≤ maxLen := Nat.le_trans hdl hdm
    by_cases k4 : k = 4
    · subst k4
      by_cases e1 : n = 0
      · by_cases e2 : s = ⟨#[]⟩
        · by_cases e3 : keys.length = 0
          · rw [right_kids (headOk_yes (head4.2 ⟨e1, e2, e3⟩)), e1, e2, e3]
            exact right4_good ih w ko kc hD'
          · rw [right_head_no (headOk_no (fun h => e3 (head4.1 h).2.2)), e1, e2]
            exact right4_bad_k ko o _ kc _ dc w (by omega) hkm'
        · rw [right_head_no (headOk_no (fun h => e2 (head4.1 h).2.1)), e1]
          exact right4_bad_s s ko o _ kc _ dc w e2
      · rw [right_head_no (headOk_no (fun h => e1 (head4.1 h).1))]
        exact right4_bad_n n s ko o _ kc _ dc w e1
    by_cases k5 : k = 5
    · subst k5
      by_cases e1 : n = 0
      · by_cases e2 : s = ⟨#[]⟩
        · by_cases e3 : keys.length = kids.length
          · by_cases e4 : keysOk keys = true
            · rw [right_kids (headOk_yes (head5.2 ⟨e1, e2, e3, e4⟩)), e1, e2, e3]
              rw [e3] at hK'
              exact right5_good ih w ko kc hD' hK' e4
            · rw [right_head_no (headOk_no (fun h => e4 (head5.1 h).2.2.2)), e1, e2, ← e3]
              exact right5_bad_keys o dc w hK' (by simpa using e4)
          · rw [right_head_no (headOk_no (fun h => e3 (head5.1 h).2.2.1)), e1, e2]
            exact right5_bad_k ko o _ kc _ dc w (by omega)
        · rw [right_head_no (headOk_no (fun h => e2 (head5.1 h).2.1)), e1]
          exact right5_bad_s s ko o _ kc _ dc w e2
      · rw [right_head_no (headOk_no (fun h => e1 (head5.1 h).1))]
        exact right5_bad_n n s ko o _ kc _ dc w e1
    · have HX := Lib.hid (Box.start w (.int .i64 k) (.int .i64 n) (.string s) (.slice ko keys.length kc) (.slice o kids.length dc) 27)
      have HL : Hid (∀ w : World, Calls Tryz.prog 72 #[.agg #[.int .i64 k, .int .i64 n, .string s, .slice ko keys.length kc, .slice o kids.length dc]] w fun e w' => e = .returned (.bool (RT.node k n s keys kids).right) ∧ Below w.heap.size w w') := fun w => by
        by_cases d0 : kids = []
        · subst d0
          by_cases d1 : keys = []
          · subst d1
            have : (RT.node k n s [] []).right = headOk (.node k n s [] []) := by rw [RT.right, rightAll, Bool.and_true]
            rw [this]
            exact leaf_head n s ko o kc dc w k hs k4 k5
          · rw [right_head_no (headOk_no (fun h => d1 ?_))]
            · exact leaf_keys n s ko o _ kc dc w k (by rcases keys with _ | ⟨x, l⟩; exact absurd rfl d1; simp) hkm'
            · rcases h with h | h | h | h | h | h
              · exact List.length_eq_zero_iff.1 h.2.2.2.1
              · exact List.length_eq_zero_iff.1 h.2.2.2.1
              · exact List.length_eq_zero_iff.1 h.2.2.2.1
              · exact List.length_eq_zero_iff.1 h.2.2.2.1
              · exact absurd h.1 k4
              · exact absurd h.1 k5
        · rw [right_head_no (headOk_no (fun h => d0 ?_))]
          · exact leaf_kids n s ko o _ kc _ dc w k (by rcases kids with _ | ⟨x, l⟩; exact absurd rfl d0; simp) hdm'
          · rcases h with h | h | h | h | h | h
            · exact List.length_eq_zero_iff.1 h.2.2.2.2
            · exact List.length_eq_zero_iff.1 h.2.2.2.2
            · exact List.length_eq_zero_iff.1 h.2.2.2.2
            · exact List.length_eq_zero_iff.1 h.2.2.2.2
            · exact absurd h.1 k4
            · exact absurd h.1 k5
      exact right_leaf k n s ko o _ kc _ dc _ k4 k5 w HX.out HL.out

/-- Right, not too deep, not too great. -/
noncomputable def treeOk (T : RT) : Bool := decide (T.deep ≤ 8) && decide (T.size ≤ 200) && T.right

set_option maxRecDepth 100000 in
set_option maxHeartbeats 800000 in
theorem spec_treeOk (T : RT) (w : World) (kv dv : Value) (F : List Nat) (hl : Lies w T kv dv F) (hsz : T.sz ≤ 1048576) :
    Calls Tryz.prog 19 #[.agg #[.int .i64 T.k, .int .i64 T.n, .string T.s, kv, dv]] w fun e w' => e = .returned (.bool (treeOk T)) ∧ Below w.heap.size w w' := by
  have HX := Lib.hid (Box.start w (.int .i64 T.k) (.int .i64 T.n) (.string T.s) kv dv 27)
  have h1 := Lib.hid fun (wr : World) (hb : Below w.heap.size w wr) => spec_deep T wr kv dv F (hl.stay hb (Nat.le_refl _)) hsz
  have h2 := Lib.hid fun (wr : World) (hb : Below w.heap.size w wr) => spec_size T wr kv dv F (hl.stay hb (Nat.le_refl _)) hsz
  have h3 := Lib.hid fun (wr : World) (hb : Below w.heap.size w wr) => spec_right T wr kv dv F (hl.stay hb (Nat.le_refl _))
  unfold treeOk
  clear hl hsz
  by_cases d1 : T.deep ≤ 8
  · by_cases d2 : T.size ≤ 200
    · rw [decide_eq_true d1, decide_eq_true d2, Bool.true_and, Bool.true_and]
      have d1' : ((T.deep : Nat) : Int) ≤ 8 := by omega
      have d2' : ((T.size : Nat) : Int) ≤ 200 := by omega
      generalize T.right = r at *
      go_enter Tryz.func19, Tryz.ntmps19
      go_wp2_with fail
      refine (h1.out _ HX.out.below).mono ?_
      rintro e w1 ⟨rfl, hb1⟩
      have HX1 := Lib.hid (HX.out.next hb1)
      clear hb1
      obtain ⟨-, -, x0, x1, x2, x3, x4⟩ := HX1.out
      go_wp2_with fail
      refine (h2.out _ HX1.out.below).mono ?_
      rintro e w2 ⟨rfl, hb2⟩
      have HX2 := Lib.hid (HX1.out.next hb2)
      clear hb2 x0 x1 x2 x3 x4
      obtain ⟨-, -, x0, x1, x2, x3, x4⟩ := HX2.out
      go_wp2_with fail
      refine (h3.out _ HX2.out.below).mono ?_
      rintro e w3 ⟨rfl, hb3⟩
      have HB := Lib.hid (HX2.out.next hb3).below
      clear hb3 x0 x1 x2 x3 x4
      go_wp2
      go_ret
      exact ⟨rfl, HB.out⟩
    · rw [decide_eq_true d1, decide_eq_false d2, Bool.true_and, Bool.false_and]
      have d1' : ((T.deep : Nat) : Int) ≤ 8 := by omega
      have d2' : ¬ ((T.size : Nat) : Int) ≤ 200 := by omega
      go_enter Tryz.func19, Tryz.ntmps19
      go_wp2_with fail
      refine (h1.out _ HX.out.below).mono ?_
      rintro e w1 ⟨rfl, hb1⟩
      have HX1 := Lib.hid (HX.out.next hb1)
      clear hb1
      obtain ⟨-, -, x0, x1, x2, x3, x4⟩ := HX1.out
      go_wp2_with fail
      refine (h2.out _ HX1.out.below).mono ?_
      rintro e w2 ⟨rfl, hb2⟩
      have HB := Lib.hid (HX1.out.next hb2).below
      clear hb2 x0 x1 x2 x3 x4
      go_wp2
      go_ret
      exact ⟨rfl, HB.out⟩
  · rw [decide_eq_false d1, Bool.false_and, Bool.false_and]
    have d1' : ¬ ((T.deep : Nat) : Int) ≤ 8 := by omega
    go_enter Tryz.func19, Tryz.ntmps19
    go_wp2_with fail
    refine (h1.out _ HX.out.below).mono ?_
    rintro e w1 ⟨rfl, hb1⟩
    have HB := Lib.hid (HX.out.next hb1).below
    clear hb1
    go_wp2
    go_ret
    exact ⟨rfl, HB.out⟩
end Go.Proofs.YtmcjghhmcmkomaaGreatDoor

/- plain facts on the text that a tree is written as in braces: its parts, one behind the other, and how long it is at most. -/
namespace Go.Proofs.YtmcjghhmcmkomaaGreatDoor
open Go Go.RowKit

/-- A key, and what stands behind it. -/
def keyed (key : ByteArray) (p : List UInt8) : List UInt8 := (quoteT key).data.toList ++ ([58] ++ p)

mutual
/-- What a right tree is written as. -/
def RT.brac : RT → List UInt8
  | .node k n s keys kids =>
    if k = 0 then [110, 117, 108, 108]
    else if k = 1 then (if n = 1 then [116, 114, 117, 101] else [102, 97, 108, 115, 101])
    else if k = 2 then Lib.itoa n
    else if k = 3 then (quoteT s).data.toList
    else if k = 4 then [91] ++ (Lib.join (bracAll kids) [44] ++ [93])
    else [123] ++ (Lib.join (List.zipWith keyed keys (bracAll kids)) [44] ++ [125])
def bracAll : List RT → List (List UInt8)
  | [] => []
  | t :: ts => t.brac :: bracAll ts
end

theorem bracAll_length (l : List RT) : (bracAll l).length = l.length := by
  induction l with
  | nil => rfl
  | cons t l ih => simp [bracAll, ih]

theorem bracAll_get (l : List RT) (i : Nat) (h : i < l.length) : (bracAll l)[i]? = some l[i].brac := by
  induction l generalizing i with
  | nil => simp at h
  | cons t l ih =>
    cases i with
    | zero => simp [bracAll]
    | succ i => simpa [bracAll] using ih i (by simpa using h)

/-- The parts of a list, or of a map. -/
def partsOf (k : Int) (keys : List ByteArray) (kids : List RT) : List (List UInt8) := if k = 4 then bracAll kids else List.zipWith keyed keys (bracAll kids)

theorem partsOf_length {k : Int} {keys : List ByteArray} {kids : List RT} (h : k = 4 ∨ keys.length = kids.length) : (partsOf k keys kids).length = kids.length := by
  unfold partsOf
  split
  · exact bracAll_length _
  · rename_i h4
    rw [List.length_zipWith, bracAll_length]
    omega

theorem partsOf_list {keys : List ByteArray} {kids : List RT} (i : Nat) (h : i < kids.length) : (partsOf 4 keys kids)[i]? = some kids[i].brac := by
  unfold partsOf
  rw [if_pos rfl, bracAll_get kids i h]

theorem partsOf_map {keys : List ByteArray} {kids : List RT} (i : Nat) (h : i < kids.length) (hk : i < keys.length) : (partsOf 5 keys kids)[i]? = some (keyed keys[i] kids[i].brac) := by
  unfold partsOf
  rw [if_neg (by decide), List.getElem?_zipWith, bracAll_get kids i h, List.getElem?_eq_getElem hk]

theorem brac0 {n : Int} {s : ByteArray} {keys : List ByteArray} {kids : List RT} : (RT.node 0 n s keys kids).brac = [110, 117, 108, 108] := by simp [RT.brac]
theorem brac1 {n : Int} {s : ByteArray} {keys : List ByteArray} {kids : List RT} : (RT.node 1 n s keys kids).brac = if n = 1 then [116, 114, 117, 101] else [102, 97, 108, 115, 101] := by simp [RT.brac]
theorem brac2 {n : Int} {s : ByteArray} {keys : List ByteArray} {kids : List RT} : (RT.node 2 n s keys kids).brac = Lib.itoa n := by simp [RT.brac]
theorem brac3 {n : Int} {s : ByteArray} {keys : List ByteArray} {kids : List RT} : (RT.node 3 n s keys kids).brac = (quoteT s).data.toList := by simp [RT.brac]
theorem brac4 {n : Int} {s : ByteArray} {keys : List ByteArray} {kids : List RT} : (RT.node 4 n s keys kids).brac = [91] ++ (Lib.join (partsOf 4 keys kids) [44] ++ [93]) := by simp [RT.brac, partsOf]
theorem brac5 {n : Int} {s : ByteArray} {keys : List ByteArray} {kids : List RT} : (RT.node 5 n s keys kids).brac = [123] ++ (Lib.join (partsOf 5 keys kids) [44] ++ [125]) := by simp [RT.brac, partsOf]

/-- One part more. -/
theorem join_take_succ (xs : List (List UInt8)) (sep : List UInt8) (i : Nat) (y : List UInt8) (h : xs[i]? = some y) : Lib.join (xs.take (i + 1)) sep = Lib.join (xs.take i) sep ++ ((if i = 0 then [] else sep) ++ y) := by
  cases xs with
  | nil => simp at h
  | cons x r =>
    cases i with
    | zero =>
      simp at h
      subst h
      simp [Lib.join_one, Lib.join_nil]
    | succ i =>
      rw [List.take_succ_cons, List.take_succ_cons, Lib.join_cons, Lib.join_cons, Lib.joinTail_take_succ sep r i y (by simpa using h), if_neg (by omega)]
      simp

theorem join_take_end (xs : List (List UInt8)) (sep : List UInt8) (i : Nat) (h : xs.length ≤ i) : Lib.join (xs.take i) sep = Lib.join xs sep := by
  rw [List.take_of_length_le h]

/-! ### How long -/

theorem quoteT_length (s : ByteArray) : (quoteT s).data.toList.length ≤ 802 := by
  unfold quoteT
  split
  · rename_i h
    have h1 : s.size ≤ 400 := by
      unfold textOk at h
      simp only [Bool.and_eq_true, decide_eq_true_eq] at h
      exact h.1
    have h2 := escAll_length s.data.toList
    have h3 : s.data.toList.length = s.size := by simp
    simp only [quoteL, List.length_append, List.length_cons, List.length_nil]
    omega
  · simp

theorem keyed_length (key : ByteArray) (p : List UInt8) : (keyed key p).length ≤ 803 + p.length := by
  have := quoteT_length key
  simp only [keyed, List.length_append, List.length_cons, List.length_nil]
  omega

/-- Parts, none of them longer than their trees have it. -/
theorem join_parts_le (f : Nat) : (xs : List (List UInt8)) → (kids : List RT) → xs.length = kids.length → (∀ i (h : i < kids.length) y, xs[i]? = some y → y.length + 1 ≤ f * kids[i].size) → (Lib.joinTail [44] xs).length ≤ f * sizeAll kids
  | [], kids, _, _ => by simp [Lib.joinTail]
  | x :: xs, [], h, _ => by simp at h
  | x :: xs, t :: kids, h, hy => by
    have h1 := hy 0 (by simp) x rfl
    have h2 := join_parts_le f xs kids (by simpa using h) (fun i hi y hx => hy (i + 1) (by simpa using hi) y (by simpa using hx))
    simp only [List.getElem_cons_zero] at h1
    rw [Lib.joinTail_length] at h2 ⊢
    simp only [Lib.lens, List.map_cons, List.sum_cons, List.length_cons, List.length_nil, sizeAll, Nat.mul_add] at h2 ⊢
    omega

theorem join_le_tail (xs : List (List UInt8)) : (Lib.join xs [44]).length ≤ (Lib.joinTail [44] xs).length := by
  cases xs with
  | nil => simp [Lib.join_nil]
  | cons x r =>
    rw [Lib.join_length, Lib.joinTail_length]
    simp

theorem join_take_le (xs : List (List UInt8)) (i : Nat) : (Lib.join (xs.take i) [44]).length ≤ (Lib.joinTail [44] xs).length :=
  Nat.le_trans (join_le_tail _) (Lib.joinTail_take_le [44] xs i)

theorem right_out {T : RT} (h : T.right = true) : HeadOk T ∧ ∀ i (h : i < T.kids.length), T.kids[i].right = true := by
  obtain ⟨k, n, s, keys, kids⟩ := T
  rw [RT.right, Bool.and_eq_true] at h
  refine ⟨?_, (rightAll_iff kids).1 h.2⟩
  exact @of_decide_eq_true _ (Classical.propDecidable _) h.1

theorem parts_le {k : Int} {keys : List ByteArray} {kids : List RT} (hk : k = 4 ∨ (k = 5 ∧ keys.length = kids.length)) (ih : ∀ i (h : i < kids.length), kids[i].brac.length + 804 ≤ 1700 * kids[i].size) :
    (Lib.joinTail [44] (partsOf k keys kids)).length ≤ 1700 * sizeAll kids := by
  refine join_parts_le 1700 _ _ (partsOf_length (by rcases hk with h | h; exact .inl h; exact .inr h.2)) fun i hi y hy => ?_
  have h1 := ih i hi
  rcases hk with rfl | ⟨rfl, hl⟩
  · rw [partsOf_list i hi] at hy
    obtain rfl := Option.some.inj hy
    omega
  · rw [partsOf_map i hi (by omega)] at hy
    obtain rfl := Option.some.inj hy
    have := keyed_length (keys[i]'(by omega)) kids[i].brac
    omega

theorem brac_le (T : RT) : T.right = true → T.brac.length + 804 ≤ 1700 * T.size := by
  induction T using RT.ind with
  | h k n s keys kids ih =>
    intro hr
    obtain ⟨hh, hk⟩ := right_out hr
    have hs : (RT.node k n s keys kids).size = sizeAll kids + 1 := rfl
    have hi : ∀ i (h : i < kids.length), kids[i].brac.length + 804 ≤ 1700 * kids[i].size := fun i h => ih _ (List.getElem_mem h) (hk i h)
    rw [hs]
    simp only [HeadOk, RT.k, RT.n, RT.s, RT.keys, RT.kids] at hh
    rcases hh with ⟨rfl, h⟩ | ⟨rfl, h⟩ | ⟨rfl, h, -⟩ | ⟨rfl, h⟩ | ⟨rfl, h⟩ | ⟨rfl, h, h2, h3, h4⟩
    · rw [brac0]; simp; omega
    · rw [brac1]; split <;> simp <;> omega
    · rw [brac2]
      have := Num.itoa_length n (by omega) (by omega)
      omega
    · rw [brac3]
      have := quoteT_length s
      omega
    · rw [brac4]
      have h1 := parts_le (k := 4) (keys := keys) (.inl rfl) hi
      have h2 := join_le_tail (partsOf 4 keys kids)
      simp only [List.length_append, List.length_cons, List.length_nil]
      omega
    · rw [brac5]
      have h1 := parts_le (k := 5) (keys := keys) (.inr ⟨rfl, h3⟩) hi
      have h2 := join_le_tail (partsOf 5 keys kids)
      simp only [List.length_append, List.length_cons, List.length_nil]
      omega

/-- What has been written of a list or a map, up to a part. -/
theorem parts_take_le {k n : Int} {s : ByteArray} {keys : List ByteArray} {kids : List RT} (hr : (RT.node k n s keys kids).right = true) (hk : k = 4 ∨ k = 5) (i : Nat) : (Lib.join ((partsOf k keys kids).take i) [44]).length ≤ 1700 * sizeAll kids := by
  obtain ⟨hh, hkk⟩ := right_out hr
  refine Nat.le_trans (join_take_le _ i) (parts_le ?_ fun i h => brac_le _ (hkk i h))
  rcases hk with rfl | rfl
  · exact .inl rfl
  · simp only [HeadOk, RT.k, RT.n, RT.s, RT.keys, RT.kids] at hh
    exact .inr ⟨rfl, by omega⟩
end Go.Proofs.YtmcjghhmcmkomaaGreatDoor

/- the program's reading of braced texts: what has no parts, read as it was written; what is no text between marks, and a word that is not next, are refused. -/
namespace Go.Proofs.YtmcjghhmcmkomaaGreatDoor
open Go Go.RowKit

set_option maxRecDepth 100000 in
set_option maxHeartbeats 1000000 in
/-- A nought, and no digit behind it. -/
theorem rd_nought (p : Nat) (s : ByteArray) (hs : s.size ≤ 1000000000) (i : Nat) (ov : Value) (nd : Nat) (tw : Int) (R : List UInt8) (ht : s.data.toList.drop i = 48 :: R) (w : World) (h : Rd w p s i ov nd tw) :
    Calls Tryz.prog 138 #[.pointer (some ⟨p, 0, none⟩)] w fun e w' => e = .returned (.tuple #[.int .i64 0, .nilIface]) ∧ Rd w' p s (i + 1) ov nd tw ∧ w.grownBy w' (some p) := by
  have hs' : s.size ≤ maxLen := by unfold maxLen; omega
  obtain ⟨n1, n2, -⟩ := nextB_drop ht
  have A1 := Lib.hid (rd_take_no p s i ov nd tw w (Nat.le_of_lt n2) 45 (by rw [n1]; decide) h)
  have A2 := Lib.hid (fun (wx : World) (hx : Rd wx p s i ov nd tw) => rd_take_yes p s i ov nd tw wx hs' n2 48 n1 hx)
  have H := Lib.hid h
  clear n1 n2 h ht
  go_enter Tryz.func138, Tryz.ntmps138
  go_wp2_with fail
  refine A1.out.mono ?_
  rintro e w1 ⟨rfl, hb⟩
  have H1 := Lib.hid (And.intro (H.out.same (hb.block p H.out.lt)) hb)
  clear hb
  go_wp2_with fail
  refine (A2.out _ H1.out.1).mono ?_
  rintro e w2 ⟨rfl, h2, g2⟩
  have H2 := Lib.hid (And.intro h2 (grw_trans (grw_below H1.out.2) g2))
  clear h2 g2
  go_wp2
  go_ret2
  exact ⟨rfl, H2.out.1, H2.out.2⟩

/-- An int. -/
theorem rd_number (n : Int) (h0 : -1000000000000 ≤ n) (h1 : n ≤ 1000000000000) (p : Nat) (s : ByteArray) (hs : s.size ≤ 1000000000) (i : Nat) (ov : Value) (nd : Nat) (tw : Int) (R : List UInt8) (hR : isDig (R.headD 0) = false) (ht : s.data.toList.drop i = Lib.itoa n ++ R) (w : World) (h : Rd w p s i ov nd tw) :
    Calls Tryz.prog 138 #[.pointer (some ⟨p, 0, none⟩)] w fun e w' => e = .returned (.tuple #[.int .i64 n, .nilIface]) ∧ Rd w' p s (i + (Lib.itoa n).length) ov nd tw ∧ w.grownBy w' (some p) := by
  by_cases hz : n = 0
  · subst hz
    rw [Num.itoa_zero] at ht ⊢
    exact rd_nought p s hs i ov nd tw R ht w h
  · obtain ⟨d1, d2, d3, d4⟩ := decs n.natAbs
    by_cases hn : n < 0
    · have e : Lib.itoa n = 45 :: Lib.decDigits n.natAbs := if_pos hn
      rw [e] at ht ⊢
      obtain ⟨m1, m2, m3⟩ := nextB_drop (b := 45) (l := Lib.decDigits n.natAbs ++ R) ht
      have := rd_digits (-1) n (.inr rfl) p s hs i (i + 1) ov nd tw (Lib.decDigits n.natAbs) R (d4 (by omega)) d3 d2 (by rw [d1]; omega) m3 hR w h (by rw [d1]; omega) (.inl ⟨rfl, rfl, m1, m2⟩)
      rw [show i + (45 :: Lib.decDigits n.natAbs).length = i + 1 + (Lib.decDigits n.natAbs).length by rw [List.length_cons]; omega]
      exact this
    · have e : Lib.itoa n = Lib.decDigits n.natAbs := by
        rw [Lib.itoa, if_neg hn]
        congr 1
        omega
      rw [e] at ht ⊢
      exact rd_digits 1 n (.inl rfl) p s hs i i ov nd tw (Lib.decDigits n.natAbs) R (d4 (by omega)) d3 d2 (by rw [d1]; omega) ht hR w h (by rw [d1]; omega) (.inr ⟨rfl, rfl⟩)

/-- An error of the reader's own. -/
def Misfit (v : Value) : Prop := ∃ u, v = .iface 77 u

set_option maxRecDepth 100000 in
set_option maxHeartbeats 1000000 in
/-- No mark is next. -/
theorem rd_quoted_no (p : Nat) (s : ByteArray) (i : Nat) (hi : i ≤ s.size) (ov : Value) (nd : Nat) (tw : Int) (hn : ¬ nextB s i = 34) (w : World) (h : Rd w p s i ov nd tw) :
    Calls Tryz.prog 114 #[.pointer (some ⟨p, 0, none⟩)] w fun e w' => (∃ v, e = .returned (.tuple #[.string ⟨#[]⟩, v]) ∧ Misfit v) ∧ Below w.heap.size w w' := by
  have A1 := Lib.hid (rd_take_no p s i ov nd tw w hi 34 hn h)
  have H := Lib.hid h
  clear h hn
  go_enter Tryz.func114, Tryz.ntmps114
  go_wp2_with fail
  refine A1.out.mono ?_
  rintro e w1 ⟨rfl, hb⟩
  have H1 := Lib.hid (And.intro (H.out.same (hb.block p H.out.lt)) hb)
  obtain ⟨x0, x1, x2, x3, x4, x5⟩ := H1.out.1.five
  clear hb
  go_upto_region 2 with fail
  go_quiet (fail)
  go_wp2
  go_ret2
  exact ⟨⟨_, rfl, _, rfl⟩, blw_drewN H1.out.2 _⟩

set_option maxRecDepth 100000 in
set_option maxHeartbeats 1000000 in
/-- A sign is not next. -/
theorem rd_word_no (p : Nat) (s : ByteArray) (i : Nat) (hi : i ≤ s.size) (ov : Value) (nd : Nat) (tw : Int) (hn : ¬ nextB s i = 58) (w : World) (h : Rd w p s i ov nd tw) :
    Calls Tryz.prog 115 #[.pointer (some ⟨p, 0, none⟩), .string ⟨#[58]⟩] w fun e w' => (∃ v, e = .returned v ∧ Misfit v) ∧ Below w.heap.size w w' := by
  have A1 := Lib.hid (rd_take_no p s i ov nd tw w hi 58 hn h)
  have H := Lib.hid h
  clear h hn
  go_enter Tryz.func115, Tryz.ntmps115
  go_wp2
  go_loopw [8] (fun q wr => q = .int .i64 0 ∧ wr = w) (fun _ _ => 0)
  case atStart => exact ⟨rfl, rfl⟩
  case round =>
    obtain ⟨rfl, rfl⟩ := hrel
    go_wp2_with fail
    refine A1.out.mono ?_
    rintro e w1 ⟨rfl, hb⟩
    have H1 := Lib.hid (And.intro (H.out.same (hb.block p H.out.lt)) hb)
    obtain ⟨x0, x1, x2, x3, x4, x5⟩ := H1.out.1.five
    clear hb
    go_wp2
    go_ret
    exact ⟨⟨_, rfl, _, rfl⟩, H1.out.2⟩

/-! ### A node that is answered beside another value -/

theorem ret_node2 {fn : Func} {i j : Nat} (hres : fn.results = #[ResultVar.cell i 27, ResultVar.tmp j]) {tmps : Array Value} {w : World} {b : Nat} {t : TypeId} {a0 a1 a2 a3 a4 v : Value}
    (ht : tmps[i]?.getD undef = .pointer (some ⟨b, 0, none⟩)) (hv : tmps[j]?.getD undef = v) (h : w.heap[b]? = some (.cells #[a0, a1, a2, a3, a4] t (0, 0))) : (results fn tmps).run Tryz.prog w = .ok (.tuple #[.agg #[a0, a1, a2, a3, a4], v]) w := by
  obtain ⟨c0, c1, c2, c3, c4, -⟩ := five h
  simp [results, hres, ht, hv, go_sem, c0, c1, c2, c3, c4]

theorem ret_node3 {fn : Func} {i j k : Nat} (hres : fn.results = #[ResultVar.cell i 27, ResultVar.tmp j, ResultVar.tmp k]) {tmps : Array Value} {w : World} {b : Nat} {t : TypeId} {a0 a1 a2 a3 a4 v u : Value}
    (ht : tmps[i]?.getD undef = .pointer (some ⟨b, 0, none⟩)) (hv : tmps[j]?.getD undef = v) (hu : tmps[k]?.getD undef = u) (h : w.heap[b]? = some (.cells #[a0, a1, a2, a3, a4] t (0, 0))) : (results fn tmps).run Tryz.prog w = .ok (.tuple #[.agg #[a0, a1, a2, a3, a4], v, u]) w := by
  obtain ⟨c0, c1, c2, c3, c4, -⟩ := five h
  simp [results, hres, ht, hv, hu, go_sem, c0, c1, c2, c3, c4]

theorem grw_block {w w' : World} {p k : Nat} {o : Obj} (h : w.heap[k]? = some o) (hk : k ≠ p) (hg : w.grownBy w' (some p)) : w'.heap[k]? = some o :=
  (hg.block k (Array.getElem?_eq_some_iff.1 h).1 (by simpa using hk)).trans h

theorem grw_set5 {w wr : World} {p b : Nat} (h : w.grownBy wr (some p)) (hb : w.heap.size ≤ b) (v0 v1 v2 v3 v4 : Value) : w.grownBy (set5 wr b 0 v0 v1 v2 v3 v4) (some p) := by
  have h1 := set5_below (Below.refl w.heap.size wr) hb 0 v0 v1 v2 v3 v4
  exact grw_belowB h h1

theorem Rd.set5 {w : World} {p : Nat} {s : ByteArray} {i : Nat} {ov : Value} {nd : Nat} {tw : Int} (h : Rd w p s i ov nd tw) {b : Nat} (hb : p ≠ b) (v0 v1 v2 v3 v4 : Value) : Rd (set5 w b 0 v0 v1 v2 v3 v4) p s i ov nd tw :=
  h.same (set5_other _ _ _ _ _ _ _ _ _ hb)

theorem Rd.grw_alloc {w : World} {p : Nat} {s : ByteArray} {i : Nat} {ov : Value} {nd : Nat} {tw : Int} (h : Rd w p s i ov nd tw) (o : Obj) : Rd (w.alloc o) p s i ov nd tw := h.same (Below.heap_alloc _ _ _ h.lt)

/-- A node that has nothing in it. -/
abbrev zNode : Obj := .cells #[.int .i64 0, .int .i64 0, .string ⟨#[]⟩, .slice none 0 0, .slice none 0 0] 27 (0, 0)

set_option maxRecDepth 100000 in
set_option maxHeartbeats 2000000 in
/-- A text. -/
theorem rd_leaf3 (p : Nat) (s : ByteArray) (hs : s.size ≤ 1000000000) (i : Nat) (ov : Value) (nd : Nat) (tw : Int) (x : ByteArray) (hx : textOk x = true) (R : List UInt8) (ht : s.data.toList.drop i = (quoteT x).data.toList ++ R) (w : World) (h : Rd w p s i ov nd tw) :
    Calls Tryz.prog 121 #[.pointer (some ⟨p, 0, none⟩)] w fun e w' => e = .returned (.tuple #[.agg #[.int .i64 3, .int .i64 0, .string x, .slice none 0 0, .slice none 0 0], .nilIface]) ∧ Rd w' p s (i + (quoteT x).data.toList.length) ov nd tw ∧ w.grownBy w' (some p) := by
  have hq : (quoteT x).data.toList = quoteL x.data.toList := by unfold quoteT; rw [if_pos hx]
  have hx2 : x.data.toList.all okByte = true := by
    unfold textOk at hx
    simp only [Bool.and_eq_true] at hx
    exact hx.2
  rw [hq] at ht ⊢
  have ht' : s.data.toList.drop i = 34 :: (escAll x.data.toList ++ 34 :: R) := by rw [ht]; simp [quoteL]
  obtain ⟨n1, n2, -⟩ := nextB_drop ht'
  have A1 := Lib.hid (fun (wx : World) (hx : Rd wx p s i ov nd tw) => rd_next p s i ov nd tw wx (Nat.le_of_lt n2) hx)
  rw [n1] at A1
  have A2 := Lib.hid (fun (wx : World) (hx : Rd wx p s i ov nd tw) => rd_quoted p s hs i ov nd tw x.data.toList R hx2 ht' wx hx)
  have A3 := Lib.hid (impl_textOf x)
  have H0 := Lib.hid (h.grw_alloc zNode)
  have G0 : Hid (w.grownBy (w.alloc zNode) (some p)) := grw_below ((Below.refl _ w).alloc (Nat.le_refl _) _)
  have Z0 := Lib.hid (heap_last w zNode)
  have hne : Hid (w.heap.size ≠ p) := by have := h.lt; show _ ≠ _; omega
  clear hq hx hx2 ht ht' n1 n2 h
  go_enter Tryz.func121, Tryz.ntmps121
  go_wp2_with fail
  refine (A1.out _ H0.out).mono ?_
  rintro e w1 ⟨rfl, hb1⟩
  have H1 := Lib.hid (H0.out.same (hb1.block p H0.out.lt))
  have G1 := Lib.hid (grw_trans G0.out (grw_below hb1))
  have Z1 := Lib.hid (grw_block Z0.out hne.out (grw_below hb1))
  clear hb1
  go_wp2_with fail
  refine (A2.out _ H1.out).mono ?_
  rintro e w2 ⟨rfl, h2, g2⟩
  have H2 := Lib.hid h2
  have G2 := Lib.hid (grw_trans G1.out g2)
  have Z2 := Lib.hid (grw_block Z1.out hne.out g2)
  clear h2 g2
  go_wp2_with fail
  refine (A3.out _).mono ?_
  rintro e w3 ⟨rfl, hb3⟩
  have H3 := Lib.hid (H2.out.same (hb3.block p H2.out.lt))
  have G3 := Lib.hid (grw_trans G2.out (grw_below hb3))
  have Z3 := Lib.hid (grw_block Z2.out hne.out (grw_below hb3))
  obtain ⟨z0, z1, z2, z3, z4, z5⟩ := five Z3.out
  clear hb3
  go_wp2
  exact bodyPost_ret (ret_node2 Tryz.results121 rfl rfl (set5_end Z3.out _ _ _ _ _)) rfl ⟨rfl, H3.out.set5 (Ne.symm hne.out) _ _ _ _ _, grw_set5 G3.out (Nat.le_refl _) _ _ _ _ _⟩

set_option maxRecDepth 100000 in
set_option maxHeartbeats 2000000 in
/-- A flag that is up. -/
theorem rd_leaf1t (p : Nat) (s : ByteArray) (hs : s.size ≤ 1000000000) (i : Nat) (ov : Value) (nd : Nat) (tw : Int) (R : List UInt8) (ht : s.data.toList.drop i = [116, 114, 117, 101] ++ R) (w : World) (h : Rd w p s i ov nd tw) :
    Calls Tryz.prog 121 #[.pointer (some ⟨p, 0, none⟩)] w fun e w' => e = .returned (.tuple #[.agg #[.int .i64 1, .int .i64 1, .string ⟨#[]⟩, .slice none 0 0, .slice none 0 0], .nilIface]) ∧ Rd w' p s (i + 4) ov nd tw ∧ w.grownBy w' (some p) := by
  have hs' : s.size ≤ maxLen := by unfold maxLen; omega
  obtain ⟨n1, n2, -⟩ := nextB_drop (b := 116) (l := [114, 117, 101] ++ R) ht
  have A2 := Lib.hid (fun (wx : World) (hx : Rd wx p s i ov nd tw) => rd_word p s hs' i ov nd tw ⟨#[116, 114, 117, 101]⟩ (by decide) R ht wx hx)
  have D1 := Lib.hid (impl_digit 116)
  rw [show isDig 116 = false from rfl] at D1
  have A1 := Lib.hid (fun (wx : World) (hx : Rd wx p s i ov nd tw) => rd_next p s i ov nd tw wx (Nat.le_of_lt n2) hx)
  rw [n1] at A1
  have H0 := Lib.hid (h.grw_alloc zNode)
  have G0 : Hid (w.grownBy (w.alloc zNode) (some p)) := grw_below ((Below.refl _ w).alloc (Nat.le_refl _) _)
  have Z0 := Lib.hid (heap_last w zNode)
  have hne : Hid (w.heap.size ≠ p) := by have := h.lt; show _ ≠ _; omega
  clear ht n1 n2 h
  go_enter Tryz.func121, Tryz.ntmps121
  go_wp2_with fail
  refine (A1.out _ H0.out).mono ?_
  rintro e w1 ⟨rfl, hb1⟩
  have H1 := Lib.hid (H0.out.same (hb1.block p H0.out.lt))
  have G1 := Lib.hid (grw_trans G0.out (grw_below hb1))
  have Z1 := Lib.hid (grw_block Z0.out hne.out (grw_below hb1))
  clear hb1
  go_wp2_with (first
    | (go_at_call 91; refine (D1.out _).mono ?_; rintro e w9 ⟨rfl, e9⟩; subst e9)
    | (go_at_call 140; refine (impl_flagOf_true _).mono ?_; rintro e w2 ⟨rfl, hb2⟩; have H2 := Lib.hid (H1.out.same (hb2.block p H1.out.lt)); have G2 := Lib.hid (grw_trans G1.out (grw_below hb2)); have Z2 := Lib.hid (grw_block Z1.out hne.out (grw_below hb2)); clear hb2)
    | (go_at_call 115; refine (A2.out _ H2.out).mono ?_; rintro e w3 ⟨rfl, h3, g3⟩; have H3 := Lib.hid h3; have G3 := Lib.hid (grw_trans G2.out g3); have Z3 := Lib.hid (grw_block Z2.out hne.out g3); obtain ⟨z0, z1, z2, z3, z4, z5⟩ := five Z3.out; clear h3 g3)
    | fail)
  exact bodyPost_ret (ret_node2 Tryz.results121 rfl rfl (set5_end Z3.out _ _ _ _ _)) rfl ⟨rfl, H3.out.set5 (Ne.symm hne.out) _ _ _ _ _, grw_set5 G3.out (Nat.le_refl _) _ _ _ _ _⟩

set_option maxRecDepth 100000 in
set_option maxHeartbeats 2000000 in
/-- A flag that is not. -/
theorem rd_leaf1f (p : Nat) (s : ByteArray) (hs : s.size ≤ 1000000000) (i : Nat) (ov : Value) (nd : Nat) (tw : Int) (R : List UInt8) (ht : s.data.toList.drop i = [102, 97, 108, 115, 101] ++ R) (w : World) (h : Rd w p s i ov nd tw) :
    Calls Tryz.prog 121 #[.pointer (some ⟨p, 0, none⟩)] w fun e w' => e = .returned (.tuple #[.agg #[.int .i64 1, .int .i64 0, .string ⟨#[]⟩, .slice none 0 0, .slice none 0 0], .nilIface]) ∧ Rd w' p s (i + 5) ov nd tw ∧ w.grownBy w' (some p) := by
  have hs' : s.size ≤ maxLen := by unfold maxLen; omega
  obtain ⟨n1, n2, -⟩ := nextB_drop (b := 102) (l := [97, 108, 115, 101] ++ R) ht
  have A2 := Lib.hid (fun (wx : World) (hx : Rd wx p s i ov nd tw) => rd_word p s hs' i ov nd tw ⟨#[102, 97, 108, 115, 101]⟩ (by decide) R ht wx hx)
  have D1 := Lib.hid (impl_digit 102)
  rw [show isDig 102 = false from rfl] at D1
  have A1 := Lib.hid (fun (wx : World) (hx : Rd wx p s i ov nd tw) => rd_next p s i ov nd tw wx (Nat.le_of_lt n2) hx)
  rw [n1] at A1
  have H0 := Lib.hid (h.grw_alloc zNode)
  have G0 : Hid (w.grownBy (w.alloc zNode) (some p)) := grw_below ((Below.refl _ w).alloc (Nat.le_refl _) _)
  have Z0 := Lib.hid (heap_last w zNode)
  have hne : Hid (w.heap.size ≠ p) := by have := h.lt; show _ ≠ _; omega
  clear ht n1 n2 h
  go_enter Tryz.func121, Tryz.ntmps121
  go_wp2_with fail
  refine (A1.out _ H0.out).mono ?_
  rintro e w1 ⟨rfl, hb1⟩
  have H1 := Lib.hid (H0.out.same (hb1.block p H0.out.lt))
  have G1 := Lib.hid (grw_trans G0.out (grw_below hb1))
  have Z1 := Lib.hid (grw_block Z0.out hne.out (grw_below hb1))
  clear hb1
  go_wp2_with (first
    | (go_at_call 91; refine (D1.out _).mono ?_; rintro e w9 ⟨rfl, e9⟩; subst e9)
    | (go_at_call 140; refine (impl_flagOf_false _).mono ?_; rintro e w2 ⟨rfl, hb2⟩; have H2 := Lib.hid (H1.out.same (hb2.block p H1.out.lt)); have G2 := Lib.hid (grw_trans G1.out (grw_below hb2)); have Z2 := Lib.hid (grw_block Z1.out hne.out (grw_below hb2)); clear hb2)
    | (go_at_call 115; refine (A2.out _ H2.out).mono ?_; rintro e w3 ⟨rfl, h3, g3⟩; have H3 := Lib.hid h3; have G3 := Lib.hid (grw_trans G2.out g3); have Z3 := Lib.hid (grw_block Z2.out hne.out g3); obtain ⟨z0, z1, z2, z3, z4, z5⟩ := five Z3.out; clear h3 g3)
    | fail)
  exact bodyPost_ret (ret_node2 Tryz.results121 rfl rfl (set5_end Z3.out _ _ _ _ _)) rfl ⟨rfl, H3.out.set5 (Ne.symm hne.out) _ _ _ _ _, grw_set5 G3.out (Nat.le_refl _) _ _ _ _ _⟩

set_option maxRecDepth 100000 in
set_option maxHeartbeats 2000000 in
/-- Nothing. -/
theorem rd_leaf0 (p : Nat) (s : ByteArray) (hs : s.size ≤ 1000000000) (i : Nat) (ov : Value) (nd : Nat) (tw : Int) (R : List UInt8) (ht : s.data.toList.drop i = [110, 117, 108, 108] ++ R) (w : World) (h : Rd w p s i ov nd tw) :
    Calls Tryz.prog 121 #[.pointer (some ⟨p, 0, none⟩)] w fun e w' => e = .returned (.tuple #[.agg #[.int .i64 0, .int .i64 0, .string ⟨#[]⟩, .slice none 0 0, .slice none 0 0], .nilIface]) ∧ Rd w' p s (i + 4) ov nd tw ∧ w.grownBy w' (some p) := by
  have hs' : s.size ≤ maxLen := by unfold maxLen; omega
  obtain ⟨n1, n2, -⟩ := nextB_drop (b := 110) (l := [117, 108, 108] ++ R) ht
  have A2 := Lib.hid (fun (wx : World) (hx : Rd wx p s i ov nd tw) => rd_word p s hs' i ov nd tw ⟨#[110, 117, 108, 108]⟩ (by decide) R ht wx hx)
  have D1 := Lib.hid (impl_digit 110)
  rw [show isDig 110 = false from rfl] at D1
  have A1 := Lib.hid (fun (wx : World) (hx : Rd wx p s i ov nd tw) => rd_next p s i ov nd tw wx (Nat.le_of_lt n2) hx)
  rw [n1] at A1
  have H0 := Lib.hid (h.grw_alloc zNode)
  have G0 : Hid (w.grownBy (w.alloc zNode) (some p)) := grw_below ((Below.refl _ w).alloc (Nat.le_refl _) _)
  have Z0 := Lib.hid (heap_last w zNode)
  have hne : Hid (w.heap.size ≠ p) := by have := h.lt; show _ ≠ _; omega
  clear ht n1 n2 h
  go_enter Tryz.func121, Tryz.ntmps121
  go_wp2_with fail
  refine (A1.out _ H0.out).mono ?_
  rintro e w1 ⟨rfl, hb1⟩
  have H1 := Lib.hid (H0.out.same (hb1.block p H0.out.lt))
  have G1 := Lib.hid (grw_trans G0.out (grw_below hb1))
  have Z1 := Lib.hid (grw_block Z0.out hne.out (grw_below hb1))
  clear hb1
  go_wp2_with (first
    | (go_at_call 91; refine (D1.out _).mono ?_; rintro e w9 ⟨rfl, e9⟩; subst e9)
    | (go_at_call 115; refine (A2.out _ H1.out).mono ?_; rintro e w3 ⟨rfl, h3, g3⟩; have H3 := Lib.hid h3; have G3 := Lib.hid (grw_trans G1.out g3); have Z3 := Lib.hid (grw_block Z1.out hne.out g3); obtain ⟨z0, z1, z2, z3, z4, z5⟩ := five Z3.out; clear h3 g3)
    | fail)
  exact bodyPost_ret (ret_node2 Tryz.results121 rfl rfl (set5_end Z3.out _ _ _ _ _)) rfl ⟨rfl, H3.out.set5 (Ne.symm hne.out) _ _ _ _ _, grw_set5 G3.out (Nat.le_refl _) _ _ _ _ _⟩

set_option maxRecDepth 100000 in
set_option maxHeartbeats 2000000 in
/-- An int. -/
theorem rd_leaf2 (p : Nat) (s : ByteArray) (hs : s.size ≤ 1000000000) (i : Nat) (ov : Value) (nd : Nat) (tw : Int) (n : Int) (h0 : -1000000000000 ≤ n) (h1 : n ≤ 1000000000000) (R : List UInt8) (hR : isDig (R.headD 0) = false) (ht : s.data.toList.drop i = Lib.itoa n ++ R) (w : World) (h : Rd w p s i ov nd tw) :
    Calls Tryz.prog 121 #[.pointer (some ⟨p, 0, none⟩)] w fun e w' => e = .returned (.tuple #[.agg #[.int .i64 2, .int .i64 n, .string ⟨#[]⟩, .slice none 0 0, .slice none 0 0], .nilIface]) ∧ Rd w' p s (i + (Lib.itoa n).length) ov nd tw ∧ w.grownBy w' (some p) := by
  obtain ⟨b, hn1, hbd⟩ : ∃ b : UInt8, (nextB s i = b ∧ i < s.size) ∧ (b = 45 ∨ isDig b = true) := by
    obtain ⟨-, d2, d3, -⟩ := decs n.natAbs
    cases hd : Lib.itoa n with
    | nil =>
      rw [Lib.itoa] at hd
      split at hd
      · cases hd
      · obtain ⟨-, -, d3, -⟩ := decs n.toNat
        exact absurd hd d3
    | cons b r =>
      rw [hd] at ht
      obtain ⟨m1, m2, -⟩ := nextB_drop (b := b) (l := r ++ R) ht
      refine ⟨b, ⟨m1, m2⟩, ?_⟩
      rw [Lib.itoa] at hd
      split at hd
      · injection hd with h1 _
        exact .inl h1.symm
      · obtain ⟨-, d2, -, -⟩ := decs n.toNat
        exact .inr (d2 b (by rw [hd]; exact List.mem_cons_self ..))
  obtain ⟨n1, n2⟩ := hn1
  have e34 : ((b.toNat : Int) == 34) = false := by
    rcases hbd with rfl | hbd
    · rfl
    · have := isDig_out hbd
      simp; omega
  have A2 := Lib.hid (fun (wx : World) (hx : Rd wx p s i ov nd tw) => rd_number n h0 h1 p s hs i ov nd tw R hR ht wx hx)
  have A3 := Lib.hid (impl_intOf n)
  have D1 := Lib.hid (impl_digit b)
  have A1 := Lib.hid (fun (wx : World) (hx : Rd wx p s i ov nd tw) => rd_next p s i ov nd tw wx (Nat.le_of_lt n2) hx)
  rw [n1] at A1
  have H0 := Lib.hid (h.grw_alloc zNode)
  have G0 : Hid (w.grownBy (w.alloc zNode) (some p)) := grw_below ((Below.refl _ w).alloc (Nat.le_refl _) _)
  have Z0 := Lib.hid (heap_last w zNode)
  have hne : Hid (w.heap.size ≠ p) := by have := h.lt; show _ ≠ _; omega
  clear ht n1 n2 h
  go_enter Tryz.func121, Tryz.ntmps121
  go_wp2_with fail
  refine (A1.out _ H0.out).mono ?_
  rintro e w1 ⟨rfl, hb1⟩
  have H1 := Lib.hid (H0.out.same (hb1.block p H0.out.lt))
  have G1 := Lib.hid (grw_trans G0.out (grw_below hb1))
  have Z1 := Lib.hid (grw_block Z0.out hne.out (grw_below hb1))
  clear hb1
  have HW : Hid (∀ {Q : Prop}, (((b.toNat : Int) == 45) = true → Q) → (((b.toNat : Int) == 45) = false → isDig b = true → Q) → Q) := fun {Q} f g => by
    cases hc : ((b.toNat : Int) == 45)
    · refine g hc ?_
      rcases hbd with rfl | hbd
      · cases hc
      · exact hbd
    · exact f hc
  clear hbd
  refine HW.out (fun e45 => ?_) (fun e45 hdd => ?_)
  all_goals
    try rw [hdd] at D1
    clear HW
    go_wp2_with (first
      | (go_at_call 91; refine (D1.out _).mono ?_; rintro e w9 ⟨rfl, e9⟩; subst e9)
      | (go_at_call 138; refine (A2.out _ H1.out).mono ?_; rintro e w2 ⟨rfl, h2, g2⟩; have H2 := Lib.hid h2; have G2 := Lib.hid (grw_trans G1.out g2); have Z2 := Lib.hid (grw_block Z1.out hne.out g2); clear h2 g2)
      | (go_at_call 139; refine (A3.out _).mono ?_; rintro e w3 ⟨rfl, hb3⟩; have H3 := Lib.hid (H2.out.same (hb3.block p H2.out.lt)); have G3 := Lib.hid (grw_trans G2.out (grw_below hb3)); have Z3 := Lib.hid (grw_block Z2.out hne.out (grw_below hb3)); obtain ⟨z0, z1, z2, z3, z4, z5⟩ := five Z3.out; clear hb3)
      | fail)
    exact bodyPost_ret (ret_node2 Tryz.results121 rfl rfl (set5_end Z3.out _ _ _ _ _)) rfl ⟨rfl, H3.out.set5 (Ne.symm hne.out) _ _ _ _ _, grw_set5 G3.out (Nat.le_refl _) _ _ _ _ _⟩
end Go.Proofs.YtmcjghhmcmkomaaGreatDoor
