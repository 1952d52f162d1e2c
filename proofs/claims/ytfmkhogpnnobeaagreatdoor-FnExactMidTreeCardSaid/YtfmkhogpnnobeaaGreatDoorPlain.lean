/-
  What is proved: for any text the program's PlainOk answers as the model's PlainOk does.
-/
import Derived.Test.YtfmkhogpnnobeaaGreatDoorPartAJ
import Derived.Test.YtfmkhogpnnobeaaGreatDoorShelf
namespace Go.Proofs.YtfmkhogpnnobeaaGreatDoor
open Go Go.RowKit

theorem letter_of {F : Nat} {P : Program} {w : World} {b : UInt8} (h : Calls P F #[.int .u8 (b.toNat : Int)] w fun e w' => e = .returned (.bool (isLet b)) ∧ w' = w) {v : Bool} (hv : isLet b = v) : Calls P F #[.int .u8 (b.toNat : Int)] w fun e w' => e = .returned (.bool v) ∧ w' = w := hv ▸ h

set_option maxHeartbeats 400000 in
theorem spec_letter (b : UInt8) (w : World) : Calls Tryz.prog 127 #[.int .u8 (b.toNat : Int)] w fun e w' => e = .returned (.bool (isLet b)) ∧ w' = w := by
  by_cases h1 : 97 ≤ b.toNat <;> by_cases h2 : b.toNat ≤ 122 <;> by_cases h3 : 65 ≤ b.toNat <;> by_cases h4 : b.toNat ≤ 90
  all_goals
    first
    | omega
    | (go_enter Tryz.func127, Tryz.ntmps127
       go_wp2
       go_ret
       refine ⟨?_, rfl⟩
       simp [isLet, h1, h2, h3, h4] <;> omega)

set_option maxHeartbeats 400000 in
theorem impl_letter (b : UInt8) (w : World) : Calls Tryz.prog 157 #[.int .u8 (b.toNat : Int)] w fun e w' => e = .returned (.bool (isLet b)) ∧ w' = w := by
  by_cases h1 : 97 ≤ b.toNat <;> by_cases h2 : b.toNat ≤ 122 <;> by_cases h3 : 65 ≤ b.toNat <;> by_cases h4 : b.toNat ≤ 90
  all_goals
    first
    | omega
    | (go_enter Tryz.func157, Tryz.ntmps157
       go_wp2
       go_ret
       refine ⟨?_, rfl⟩
       simp [isLet, h1, h2, h3, h4] <;> omega)

set_option maxHeartbeats 400000 in
theorem impl_digit (b : UInt8) (w : World) : Calls Tryz.prog 97 #[.int .u8 (b.toNat : Int)] w fun e w' => e = .returned (.bool (isDig b)) ∧ w' = w := by
  by_cases h1 : 48 ≤ b.toNat <;> by_cases h2 : b.toNat ≤ 57
  all_goals
    first
    | omega
    | (go_enter Tryz.func97, Tryz.ntmps97
       go_wp2
       go_ret
       refine ⟨?_, rfl⟩
       simp [isDig, h1, h2] <;> omega)

theorem spec_in (x : Int) (w : World) : Calls Tryz.prog 53 #[.int .i64 x, .int .i64 1, .int .i64 60] w fun e w' => e = .returned (.bool (decide (1 ≤ x) && decide (x ≤ 60))) ∧ w' = w := by
  by_cases h1 : 1 ≤ x <;> by_cases h2 : x ≤ 60
  all_goals
    first
    | omega
    | (go_enter Tryz.func53, Tryz.ntmps53
       go_wp2
       go_ret
       refine ⟨?_, rfl⟩
       simp [h1, h2] <;> omega)

set_option maxRecDepth 100000 in
set_option maxHeartbeats 1000000 in
theorem spec_plainOk (s : ByteArray) (hm : s.size ≤ maxLen) (w : World) :
    Calls Tryz.prog 90 #[.string s] w fun e w' => e = .returned (.bool (plainB s)) ∧ w' = w := by
  unfold maxLen at hm
  go_enter Tryz.func90, Tryz.ntmps90
  go_wp2
  go_loop [3] (fun i => ∃ k : Nat, k ≤ s.size ∧ i = .int .i64 k ∧ Hid (goodL (s.data.toList.take k) = true)) (fun i => s.size - (intOf i).toNat)
  case atStart => exact ⟨0, Nat.zero_le _, rfl, rfl⟩
  case round =>
    obtain ⟨k, hk, rfl, hr⟩ := hrel
    by_cases hlt : k < s.size
    · have HG := Lib.hid (goodL_step hlt)
      rw [hr.out] at HG
      have hL := spec_letter s[k]
      by_cases hl : isLet s[k] = true
      · rw [hl] at hL
        have HS : Hid (goodL (s.data.toList.take (k + 1)) = true) := by
          show _ = _
          rw [HG.out, hl, okP_let hl]; simp
        clear HG hl
        go_wp2_with (first
          | (go_at_call 127; refine (hL _).mono ?_; rintro e w1 ⟨rfl, e1⟩; subst e1)
          | fail)
        go_round
        case rel => exact ⟨k + 1, by omega, by go_num, HS.out⟩
        case measure => simp [intOf]; omega
      · have hl' : isLet s[k] = false := by simpa using hl
        rw [hl'] at hL HG
        clear hl
        by_cases hk0 : k = 0
        · subst hk0
          have HN : Hid (plainB s = false) := goodL_bad (k := 0) (by rw [HG.out]; rfl)
          clear HG
          go_wp2_with (first
            | (go_at_call 127; refine (hL _).mono ?_; rintro e w1 ⟨rfl, e1⟩; subst e1)
            | fail)
          go_ret
          exact ⟨by rw [HN.out]; rfl, rfl⟩
        · rw [if_neg hk0] at HG
          have e0 : ((k : Int) == 0) = false := by simp; omega
          have HO : Hid (okP s[k] = (isDig s[k] || isSgn s[k])) := by show _ = _; rw [okP, hl']; rfl
          rw [HO.out] at HG
          clear HO hk0 hl'
          generalize hb : s[k] = b at *
          by_cases hs : b = 95 ∨ b = 46 ∨ b = 47 ∨ b = 45
          · have HS : Hid (goodL (s.data.toList.take (k + 1)) = true) := by
              show _ = _
              rw [HG.out, show isSgn b = true from decide_eq_true hs]; simp
            clear HG
            rcases hs with rfl | rfl | rfl | rfl
            all_goals
              go_wp2_with (first
                | (go_at_call 127; refine (hL _).mono ?_; rintro e w1 ⟨rfl, e1⟩; subst e1)
                | fail)
              go_round
              case rel => exact ⟨k + 1, by omega, by go_num, HS.out⟩
              case measure => simp [intOf]; omega
          · have HSg : Hid (isSgn b = false) := decide_eq_false hs
            have n1 : ((b.toNat : Int) == 95) = false := by
              simp; intro h; exact hs (.inl (UInt8.toNat_inj.1 (Int.ofNat_inj.1 h)))
            have n2 : ((b.toNat : Int) == 46) = false := by
              simp; intro h; exact hs (.inr (.inl (UInt8.toNat_inj.1 (Int.ofNat_inj.1 h))))
            have n3 : ((b.toNat : Int) == 47) = false := by
              simp; intro h; exact hs (.inr (.inr (.inl (UInt8.toNat_inj.1 (Int.ofNat_inj.1 h)))))
            have n4 : ((b.toNat : Int) == 45) = false := by
              simp; intro h; exact hs (.inr (.inr (.inr (UInt8.toNat_inj.1 (Int.ofNat_inj.1 h)))))
            rw [HSg.out] at HG
            clear hs HSg
            by_cases d1 : 48 ≤ b.toNat
            · by_cases d2 : b.toNat ≤ 57
              · have HS : Hid (goodL (s.data.toList.take (k + 1)) = true) := by
                  show _ = _
                  rw [HG.out]; simp [isDig, d1, d2]
                clear HG
                go_wp2_with (first
                  | (go_at_call 127; refine (hL _).mono ?_; rintro e w1 ⟨rfl, e1⟩; subst e1)
                  | fail)
                all_goals exact ⟨⟨k + 1, by omega, by go_num, HS.out⟩, by simp [intOf]; omega⟩
              · have HN : Hid (plainB s = false) := goodL_bad (k := k) (by rw [HG.out]; simp [isDig, d1, d2])
                have d3 : decide ((b.toNat : Int) ≤ 57) = false := by simp; omega
                clear HG
                go_wp2_with (first
                  | (go_at_call 127; refine (hL _).mono ?_; rintro e w1 ⟨rfl, e1⟩; subst e1)
                  | fail)
                go_ret
                exact ⟨by rw [HN.out]; rfl, rfl⟩
            · have HN : Hid (plainB s = false) := goodL_bad (k := k) (by rw [HG.out]; simp [isDig, d1])
              clear HG
              go_wp2_with (first
                | (go_at_call 127; refine (hL _).mono ?_; rintro e w1 ⟨rfl, e1⟩; subst e1)
                | fail)
              go_ret
              exact ⟨by rw [HN.out]; rfl, rfl⟩
    · have HE : Hid (goodL s.data.toList = true) := by show _ = _; rw [← goodL_end hlt]; exact hr.out
      have h1 := fun w => spec_in s.size w
      have HP : Hid (plainB s = ((decide (1 ≤ (s.size : Int)) && decide ((s.size : Int) ≤ 60)) && noWord s)) := by
        show _ = _
        unfold plainB
        rw [HE.out, Bool.and_true]
        refine congrArg (· && _) ?_
        by_cases a : 1 ≤ s.size <;> by_cases b : s.size ≤ 60 <;> simp [a, b] <;> omega
      obtain ⟨b0, hb0⟩ : ∃ b0, (decide (1 ≤ (s.size : Int)) && decide ((s.size : Int) ≤ 60)) = b0 := ⟨_, rfl⟩
      rw [hb0] at HP h1
      clear hb0
      unfold noWord at HP
      cases hA : (s.toList == [110, 117, 108, 108]) <;> cases hB : (s.toList == [116, 114, 117, 101]) <;> cases hC : (s.toList == [102, 97, 108, 115, 101]) <;> cases b0
      all_goals
        rw [hA, hB, hC] at HP
        go_wp2_with (first
          | (go_at_call 53; refine (h1 _).mono ?_; rintro e w1 ⟨rfl, e1⟩; subst e1)
          | fail)
        go_ret
        exact ⟨by rw [HP.out]; rfl, rfl⟩

set_option maxRecDepth 100000 in
set_option maxHeartbeats 1000000 in
theorem impl_plainOk (s : ByteArray) (hm : s.size ≤ maxLen) (w : World) :
    Calls Tryz.prog 130 #[.string s] w fun e w' => e = .returned (.bool (plainB s)) ∧ w' = w := by
  unfold maxLen at hm
  by_cases hz : s.size = 0
  · have HN : Hid (plainB s = false) := by show _ = _; simp [plainB, hz]
    have e0 : (s.toList == []) = true := by
      have : s = ⟨#[]⟩ := ByteArray.ext (Array.eq_empty_of_size_eq_zero hz)
      rw [this, Lib.toList_data]; rfl
    clear hz
    go_enter Tryz.func130, Tryz.ntmps130
    go_wp2
    go_ret
    exact ⟨by rw [HN.out]; rfl, rfl⟩
  have e0 : (s.toList == []) = false := by
    rw [Lib.toList_data]
    simp
    intro h
    exact hz (by have : s.size = s.data.size := rfl; rw [this, h]; rfl)
  by_cases h60 : s.size ≤ 60
  case neg =>
    have HN : Hid (plainB s = false) := by show _ = _; simp [plainB, h60]
    go_enter Tryz.func130, Tryz.ntmps130
    go_wp2
    go_ret
    exact ⟨by rw [HN.out]; rfl, rfl⟩
  have h0 : 0 < s.size := by omega
  have h60' : (s.size : Int) ≤ 60 := by omega
  have hL0 := impl_letter s[0]
  by_cases hl0 : isLet s[0] = true
  case neg =>
    have hl' : isLet s[0] = false := by simpa using hl0
    have HN : Hid (plainB s = false) := goodL_bad (k := 0) (by rw [goodL_step h0, hl']; rfl)
    rw [hl'] at hL0
    clear hl0 hl'
    go_enter Tryz.func130, Tryz.ntmps130
    go_wp2_with (first
      | (go_at_call 157; refine (hL0 _).mono ?_; rintro e w1 ⟨rfl, e1⟩; subst e1)
      | fail)
    go_ret
    exact ⟨by rw [HN.out]; rfl, rfl⟩
  have HL0 := Lib.hid hl0
  rw [hl0] at hL0
  clear hl0
  go_enter Tryz.func130, Tryz.ntmps130
  go_wp2_with (first
    | (go_at_call 157; refine (hL0 _).mono ?_; rintro e w1 ⟨rfl, e1⟩; subst e1)
    | fail)
  clear hL0
  go_loop [19] (fun i => ∃ k : Nat, k ≤ s.size ∧ i = .int .i64 k ∧ Hid (goodL (s.data.toList.take k) = true)) (fun i => s.size - (intOf i).toNat)
  case atStart => exact ⟨0, Nat.zero_le _, rfl, rfl⟩
  case round =>
    obtain ⟨k, hk, rfl, hr⟩ := hrel
    by_cases hlt : k < s.size
    · have HG := Lib.hid (goodL_step hlt)
      rw [hr.out] at HG
      have hL := impl_letter s[k]
      have HGo : Hid (goodL (s.data.toList.take (k + 1)) = okP s[k]) := by
        show _ = _
        rw [HG.out, Bool.true_and]
        by_cases e : k = 0
        · subst e
          rw [if_pos rfl, HL0.out, okP_let HL0.out]
        · rw [if_neg e]
      clear HG
      by_cases hl : isLet s[k] = true
      · rw [hl] at hL
        have HS : Hid (goodL (s.data.toList.take (k + 1)) = true) := HGo.out.trans (okP_let hl)
        clear HGo hl
        go_wp2_with (first
          | (go_at_call 157; refine (hL _).mono ?_; rintro e w1 ⟨rfl, e1⟩; subst e1)
          | fail)
        all_goals exact ⟨⟨k + 1, by omega, by go_num, HS.out⟩, by simp [intOf]; omega⟩
      · have hl' : isLet s[k] = false := by simpa using hl
        rw [hl'] at hL
        have hD := impl_digit s[k]
        by_cases hd : isDig s[k] = true
        · rw [hd] at hD
          have HS : Hid (goodL (s.data.toList.take (k + 1)) = true) := by show _ = _; rw [HGo.out, okP, hd]; simp
          clear HGo hl hd hl'
          go_wp2_with (first
            | (go_at_call 157; refine (hL _).mono ?_; rintro e w1 ⟨rfl, e1⟩; subst e1)
            | (go_at_call 97; refine (hD _).mono ?_; rintro e w1 ⟨rfl, e1⟩; subst e1)
            | fail)
          all_goals exact ⟨⟨k + 1, by omega, by go_num, HS.out⟩, by simp [intOf]; omega⟩
        · have hd' : isDig s[k] = false := by simpa using hd
          rw [hd'] at hD
          have HGo2 : Hid (goodL (s.data.toList.take (k + 1)) = isSgn s[k]) := by show _ = _; rw [HGo.out, okP, hl', hd']; rfl
          have hI := Tryz.strings_IndexByte ⟨#[95, 46, 47, 45]⟩ (s[k].toNat : Int)
          have hsg := sgn_index s[k]
          obtain ⟨z, hz⟩ : ∃ z, Lib.indexByte (⟨#[95, 46, 47, 45]⟩ : ByteArray).data.toList (s[k].toNat : Int).toNat.toUInt8 = z := ⟨_, rfl⟩
          have hz' : Lib.indexByte [95, 46, 47, 45] (s[k].toNat : Int).toNat.toUInt8 = z := hz
          rw [hz'] at hsg
          rw [hz] at hI
          clear hz hz' hl hd hl' hd' HGo
          by_cases hg : isSgn s[k] = true
          · have hzz : ¬ z < 0 := fun h => by rw [hsg, hg] at h; cases h
            have HS : Hid (goodL (s.data.toList.take (k + 1)) = true) := HGo2.out.trans hg
            clear HGo2 hg hsg
            go_wp2_with (first
              | (go_at_call 157; refine (hL _).mono ?_; rintro e w1 ⟨rfl, e1⟩; subst e1)
              | (go_at_call 97; refine (hD _).mono ?_; rintro e w1 ⟨rfl, e1⟩; subst e1)
              | (go_at_call 158; refine (hI _).mono ?_; rintro e w1 ⟨rfl, e1⟩; subst e1)
              | fail)
            all_goals exact ⟨⟨k + 1, by omega, by go_num, HS.out⟩, by simp [intOf]; omega⟩
          · have hg' : isSgn s[k] = false := by simpa using hg
            have hzz : z < 0 := by rw [hsg]; exact hg'
            have HN : Hid (plainB s = false) := goodL_bad (k := k) (HGo2.out.trans hg')
            clear HGo2 hg hg' hsg
            go_wp2_with (first
              | (go_at_call 157; refine (hL _).mono ?_; rintro e w1 ⟨rfl, e1⟩; subst e1)
              | (go_at_call 97; refine (hD _).mono ?_; rintro e w1 ⟨rfl, e1⟩; subst e1)
              | (go_at_call 158; refine (hI _).mono ?_; rintro e w1 ⟨rfl, e1⟩; subst e1)
              | fail)
            go_ret
            exact ⟨by rw [HN.out]; rfl, rfl⟩
    · have HE : Hid (goodL s.data.toList = true) := by show _ = _; rw [← goodL_end hlt]; exact hr.out
      have HP : Hid (plainB s = noWord s) := by
        show _ = _
        unfold plainB
        rw [HE.out, Bool.and_true, decide_eq_true (by omega), Bool.true_and]
      unfold noWord at HP
      cases hA : (s.toList == [110, 117, 108, 108]) <;> cases hB : (s.toList == [116, 114, 117, 101]) <;> cases hC : (s.toList == [102, 97, 108, 115, 101])
      all_goals
        rw [hA, hB, hC] at HP
        go_wp2
        go_ret
        exact ⟨by rw [HP.out]; rfl, rfl⟩
end Go.Proofs.YtfmkhogpnnobeaaGreatDoor
