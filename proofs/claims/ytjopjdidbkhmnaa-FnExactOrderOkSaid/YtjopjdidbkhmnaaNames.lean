/-
  What is proved: for any text the program's NameOk answers as the model's NameOk does; what lies within bounds is told alike by both.
-/
import Derived.Test.YtjopjdidbkhmnaaNameP
namespace Go.Proofs.Ytjopjdidbkhmnaa
open Go Go.RowKit

/-- From low to high. -/
def inB (x lo hi : Int) : Bool := decide (lo ≤ x) && decide (x ≤ hi)

theorem spec_inB (x lo hi : Int) (w : World) : Calls Try.prog 28 #[.int .i64 x, .int .i64 lo, .int .i64 hi] w fun e w' => e = .returned (.bool (inB x lo hi)) ∧ w' = w := by
  by_cases h1 : lo ≤ x <;> by_cases h2 : x ≤ hi
  all_goals
    go_enter Try.func28, Try.ntmps28
    go_wp2
    go_ret
    refine ⟨?_, rfl⟩
    simp [inB, h1, h2]

theorem impl_inB (x lo hi : Int) (w : World) : Calls Try.prog 31 #[.int .i64 x, .int .i64 lo, .int .i64 hi] w fun e w' => e = .returned (.bool (inB x lo hi)) ∧ w' = w := by
  by_cases h1 : lo ≤ x <;> by_cases h2 : x ≤ hi
  all_goals
    go_enter Try.func31, Try.ntmps31
    go_wp2
    go_ret
    refine ⟨?_, rfl⟩
    simp [inB, h1, h2]

set_option maxHeartbeats 400000 in
theorem impl_small (b : UInt8) (w : World) : Calls Try.prog 29 #[.int .u8 (b.toNat : Int)] w fun e w' => e = .returned (.bool (isSml b)) ∧ w' = w := by
  by_cases h1 : 97 ≤ b.toNat <;> by_cases h2 : b.toNat ≤ 122
  all_goals
    first
    | omega
    | (go_enter Try.func29, Try.ntmps29
       go_wp2
       go_ret
       refine ⟨?_, rfl⟩
       simp [isSml, h1, h2] <;> omega)

set_option maxHeartbeats 400000 in
theorem impl_digit6 (b : UInt8) (w : World) : Calls Try.prog 30 #[.int .u8 (b.toNat : Int)] w fun e w' => e = .returned (.bool (isDig b)) ∧ w' = w := by
  by_cases h1 : 48 ≤ b.toNat <;> by_cases h2 : b.toNat ≤ 57
  all_goals
    first
    | omega
    | (go_enter Try.func30, Try.ntmps30
       go_wp2
       go_ret
       refine ⟨?_, rfl⟩
       simp [isDig, h1, h2] <;> omega)

set_option maxRecDepth 100000 in
set_option maxHeartbeats 1000000 in
theorem spec_nameOk (s : ByteArray) (hm : s.size ≤ maxLen) (w : World) :
    Calls Try.prog 9 #[.string s] w fun e w' => e = .returned (.bool (nameB s)) ∧ w' = w := by
  unfold maxLen at hm
  go_enter Try.func9, Try.ntmps9
  go_wp2
  go_loop [3] (fun i => ∃ k : Nat, k ≤ s.size ∧ i = .int .i64 k ∧ Hid (nameL (s.data.toList.take k) = true)) (fun i => s.size - (intOf i).toNat)
  case atStart => exact ⟨0, Nat.zero_le _, rfl, rfl⟩
  case round =>
    obtain ⟨k, hk, rfl, hr⟩ := hrel
    by_cases hlt : k < s.size
    · have HG := Lib.hid (nameL_step hlt)
      rw [hr.out, Bool.true_and] at HG
      generalize hb : s[k] = b at *
      by_cases a1 : 97 ≤ b.toNat
      · by_cases a2 : b.toNat ≤ 122
        · have HS : Hid (nameL (s.data.toList.take (k + 1)) = true) := by
            show _ = _
            have e : isSml b = true := by simp [isSml, a1, a2]
            rw [HG.out, e, okN_sml e]; simp
          clear HG
          go_wp2
          all_goals exact ⟨⟨k + 1, by omega, by go_num, HS.out⟩, by simp [intOf]; omega⟩
        · have HN : Hid (nameB s = false) := nameL_bad (k := k) (by
            rw [HG.out]
            have e : isSml b = false := by simp [isSml, a2]
            have e2 : okN b = false := by
              have : ¬ b = 45 := by rintro rfl; exact a2 (by decide)
              have : isDig b = false := by simp [isDig]; omega
              simp [okN, *]
            rw [e, e2]; simp)
          have e45 : ((b.toNat : Int) == 45) = false := by simp; omega
          have e57 : decide ((b.toNat : Int) ≤ 57) = false := by simp; omega
          have e122 : decide ((b.toNat : Int) ≤ 122) = false := by simp; omega
          clear HG
          by_cases hk0 : k = 0
          · subst hk0
            go_wp2
            go_ret
            exact ⟨by rw [HN.out]; rfl, rfl⟩
          · have e0 : 0 < (k : Int) := by omega
            clear hk0
            go_wp2
            go_ret
            exact ⟨by rw [HN.out]; rfl, rfl⟩
      · have e : isSml b = false := by simp [isSml, a1]
        by_cases hk0 : k = 0
        · subst hk0
          have HN : Hid (nameB s = false) := nameL_bad (k := 0) (by rw [HG.out, e]; rfl)
          clear HG e
          go_wp2
          all_goals
            go_ret
            exact ⟨by rw [HN.out]; rfl, rfl⟩
        · have e0 : 0 < (k : Int) := by omega
          rw [if_neg hk0, okN, e, Bool.false_or] at HG
          clear e
          by_cases h45 : b = 45
          · have HS : Hid (nameL (s.data.toList.take (k + 1)) = true) := by
              show _ = _
              rw [HG.out, h45]; rfl
            clear HG
            subst h45
            go_wp2
            all_goals exact ⟨⟨k + 1, by omega, by go_num, HS.out⟩, by simp [intOf]; omega⟩
          · rw [decide_eq_false h45, Bool.or_false] at HG
            have n4 : ((b.toNat : Int) == 45) = false := by
              simp; intro h; exact h45 (UInt8.toNat_inj.1 (Int.ofNat_inj.1 h))
            clear h45
            by_cases d1 : 48 ≤ b.toNat
            · by_cases d2 : b.toNat ≤ 57
              · have HS : Hid (nameL (s.data.toList.take (k + 1)) = true) := by
                  show _ = _
                  rw [HG.out]; simp [isDig, d1, d2]
                clear HG
                go_wp2
                all_goals exact ⟨⟨k + 1, by omega, by go_num, HS.out⟩, by simp [intOf]; omega⟩
              · have HN : Hid (nameB s = false) := nameL_bad (k := k) (by rw [HG.out]; simp [isDig, d1, d2])
                have d3 : decide ((b.toNat : Int) ≤ 57) = false := by simp; omega
                clear HG
                go_wp2
                all_goals
                  go_ret
                  exact ⟨by rw [HN.out]; rfl, rfl⟩
            · have HN : Hid (nameB s = false) := nameL_bad (k := k) (by rw [HG.out]; simp [isDig, d1])
              clear HG
              go_wp2
              all_goals
                go_ret
                exact ⟨by rw [HN.out]; rfl, rfl⟩
    · have HE : Hid (nameL s.data.toList = true) := by show _ = _; rw [← goodL_end hlt]; exact hr.out
      have h1 := fun w => spec_inB s.size 1 20 w
      have HP : Hid (nameB s = inB s.size 1 20) := by
        show _ = _
        unfold nameB inB
        rw [HE.out, Bool.and_true]
        by_cases a : 1 ≤ s.size <;> by_cases b : s.size ≤ 20 <;> simp [a, b] <;> omega
      rw [← HP.out] at h1
      go_wp2_with (first
        | (go_at_call 28; refine (h1 _).mono ?_; rintro e w1 ⟨rfl, e1⟩; subst e1)
        | fail)
      go_ret
      exact ⟨rfl, rfl⟩

set_option maxRecDepth 100000 in
set_option maxHeartbeats 1000000 in
theorem impl_nameOk (s : ByteArray) (hm : s.size ≤ maxLen) (w : World) :
    Calls Try.prog 10 #[.string s] w fun e w' => e = .returned (.bool (nameB s)) ∧ w' = w := by
  unfold maxLen at hm
  by_cases hz : s.size = 0
  · have HN : Hid (nameB s = false) := by show _ = _; simp [nameB, hz]
    have e0 : (s.toList == []) = true := by
      have : s = ⟨#[]⟩ := ByteArray.ext (Array.eq_empty_of_size_eq_zero hz)
      rw [this, Lib.toList_data]; rfl
    clear hz
    go_enter Try.func10, Try.ntmps10
    go_wp2
    go_ret
    exact ⟨by rw [HN.out]; rfl, rfl⟩
  have e0 : (s.toList == []) = false := by
    rw [Lib.toList_data]
    simp
    intro h
    exact hz (by have : s.size = s.data.size := rfl; rw [this, h]; rfl)
  by_cases h20 : s.size ≤ 20
  case neg =>
    have HN : Hid (nameB s = false) := by show _ = _; simp [nameB, h20]
    go_enter Try.func10, Try.ntmps10
    go_wp2
    go_ret
    exact ⟨by rw [HN.out]; rfl, rfl⟩
  have h0 : 0 < s.size := by omega
  have h20' : (s.size : Int) ≤ 20 := by omega
  have hL0 := impl_small s[0]
  by_cases hl0 : isSml s[0] = true
  case neg =>
    have hl' : isSml s[0] = false := by simpa using hl0
    have HN : Hid (nameB s = false) := nameL_bad (k := 0) (by rw [nameL_step h0, hl']; rfl)
    rw [hl'] at hL0
    clear hl0 hl'
    go_enter Try.func10, Try.ntmps10
    go_wp2_with (first
      | (go_at_call 29; refine (hL0 _).mono ?_; rintro e w1 ⟨rfl, e1⟩; subst e1)
      | fail)
    go_ret
    exact ⟨by rw [HN.out]; rfl, rfl⟩
  have HL0 := Lib.hid hl0
  rw [hl0] at hL0
  clear hl0
  go_enter Try.func10, Try.ntmps10
  go_wp2_with (first
    | (go_at_call 29; refine (hL0 _).mono ?_; rintro e w1 ⟨rfl, e1⟩; subst e1)
    | fail)
  clear hL0
  go_loop [19] (fun i => ∃ k : Nat, k ≤ s.size ∧ i = .int .i64 k ∧ Hid (nameL (s.data.toList.take k) = true)) (fun i => s.size - (intOf i).toNat)
  case atStart => exact ⟨0, Nat.zero_le _, rfl, rfl⟩
  case round =>
    obtain ⟨k, hk, rfl, hr⟩ := hrel
    by_cases hlt : k < s.size
    · have HG := Lib.hid (nameL_step hlt)
      rw [hr.out] at HG
      have hL := impl_small s[k]
      have HGo : Hid (nameL (s.data.toList.take (k + 1)) = okN s[k]) := by
        show _ = _
        rw [HG.out, Bool.true_and]
        by_cases e : k = 0
        · subst e
          rw [if_pos rfl, HL0.out, okN_sml HL0.out]
        · rw [if_neg e]
      clear HG
      by_cases hl : isSml s[k] = true
      · rw [hl] at hL
        have HS : Hid (nameL (s.data.toList.take (k + 1)) = true) := HGo.out.trans (okN_sml hl)
        clear HGo hl
        go_wp2_with (first
          | (go_at_call 29; refine (hL _).mono ?_; rintro e w1 ⟨rfl, e1⟩; subst e1)
          | fail)
        all_goals exact ⟨⟨k + 1, by omega, by go_num, HS.out⟩, by simp [intOf]; omega⟩
      · have hl' : isSml s[k] = false := by simpa using hl
        rw [hl'] at hL
        have hD := impl_digit6 s[k]
        by_cases hd : isDig s[k] = true
        · rw [hd] at hD
          have HS : Hid (nameL (s.data.toList.take (k + 1)) = true) := by show _ = _; rw [HGo.out, okN, hd]; simp
          clear HGo hl hd hl'
          go_wp2_with (first
            | (go_at_call 29; refine (hL _).mono ?_; rintro e w1 ⟨rfl, e1⟩; subst e1)
            | (go_at_call 30; refine (hD _).mono ?_; rintro e w1 ⟨rfl, e1⟩; subst e1)
            | fail)
          all_goals exact ⟨⟨k + 1, by omega, by go_num, HS.out⟩, by simp [intOf]; omega⟩
        · have hd' : isDig s[k] = false := by simpa using hd
          rw [hd'] at hD
          have HGo2 : Hid (nameL (s.data.toList.take (k + 1)) = decide (s[k] = 45)) := by show _ = _; rw [HGo.out, okN, hl', hd']; rfl
          clear hl hd hl' hd' HGo
          generalize hb : s[k] = b at *
          by_cases hg : b = 45
          · have HS : Hid (nameL (s.data.toList.take (k + 1)) = true) := by show _ = _; rw [HGo2.out, hg]; rfl
            clear HGo2
            subst hg
            go_wp2_with (first
              | (go_at_call 29; refine (hL _).mono ?_; rintro e w1 ⟨rfl, e1⟩; subst e1)
              | (go_at_call 30; refine (hD _).mono ?_; rintro e w1 ⟨rfl, e1⟩; subst e1)
              | fail)
            all_goals exact ⟨⟨k + 1, by omega, by go_num, HS.out⟩, by simp [intOf]; omega⟩
          · have n4 : ((b.toNat : Int) == 45) = false := by
              simp; intro h; exact hg (UInt8.toNat_inj.1 (Int.ofNat_inj.1 h))
            have HN : Hid (nameB s = false) := nameL_bad (k := k) (by rw [HGo2.out, decide_eq_false hg])
            clear HGo2 hg
            go_wp2_with (first
              | (go_at_call 29; refine (hL _).mono ?_; rintro e w1 ⟨rfl, e1⟩; subst e1)
              | (go_at_call 30; refine (hD _).mono ?_; rintro e w1 ⟨rfl, e1⟩; subst e1)
              | fail)
            go_ret
            exact ⟨by rw [HN.out]; rfl, rfl⟩
    · have HE : Hid (nameL s.data.toList = true) := by show _ = _; rw [← goodL_end hlt]; exact hr.out
      have HP : Hid (nameB s = true) := by
        show _ = _
        unfold nameB
        rw [HE.out, Bool.and_true, decide_eq_true (by omega)]
      go_wp2
      go_ret
      exact ⟨by rw [HP.out]; rfl, rfl⟩
end Go.Proofs.Ytjopjdidbkhmnaa
