/-
  What is proved: for any text the program's PlainOk answers as the model's PlainOk does.; the program's reading of braced texts: an int, read as it was written.; plain facts on trees as they lie in memory: which blocks a tree lies in, and that it lies there still in every world that has these blocks as they were.
-/
import Derived.Test.YtmcjghhmcmkomaaGreatDoorPartAA
import Derived.Test.YtmcjghhmcmkomaaGreatDoorShelf
import Derived.Below
import Derived.Lib.Hide
import Derived.Laws.Strings
/- for any text the program's PlainOk answers as the model's PlainOk does. -/
namespace Go.Proofs.YtmcjghhmcmkomaaGreatDoor
open Go Go.RowKit

theorem letter_of {F : Nat} {P : Program} {w : World} {b : UInt8} (h : Calls P F #[.int .u8 (b.toNat : Int)] w fun e w' => e = .returned (.bool (isLet b)) ∧ w' = w) {v : Bool} (hv : isLet b = v) : Calls P F #[.int .u8 (b.toNat : Int)] w fun e w' => e = .returned (.bool v) ∧ w' = w := hv ▸ h

set_option maxHeartbeats 400000 in
theorem spec_letter (b : UInt8) (w : World) : Calls Tryz.prog 94 #[.int .u8 (b.toNat : Int)] w fun e w' => e = .returned (.bool (isLet b)) ∧ w' = w := by
  by_cases h1 : 97 ≤ b.toNat <;> by_cases h2 : b.toNat ≤ 122 <;> by_cases h3 : 65 ≤ b.toNat <;> by_cases h4 : b.toNat ≤ 90
  all_goals
    first
    | omega
    | (go_enter Tryz.func94, Tryz.ntmps94
       go_wp2
       go_ret
       refine ⟨?_, rfl⟩
       simp [isLet, h1, h2, h3, h4] <;> omega)

set_option maxHeartbeats 400000 in
theorem impl_letter (b : UInt8) (w : World) : Calls Tryz.prog 90 #[.int .u8 (b.toNat : Int)] w fun e w' => e = .returned (.bool (isLet b)) ∧ w' = w := by
  by_cases h1 : 97 ≤ b.toNat <;> by_cases h2 : b.toNat ≤ 122 <;> by_cases h3 : 65 ≤ b.toNat <;> by_cases h4 : b.toNat ≤ 90
  all_goals
    first
    | omega
    | (go_enter Tryz.func90, Tryz.ntmps90
       go_wp2
       go_ret
       refine ⟨?_, rfl⟩
       simp [isLet, h1, h2, h3, h4] <;> omega)

set_option maxHeartbeats 400000 in
theorem impl_digit (b : UInt8) (w : World) : Calls Tryz.prog 91 #[.int .u8 (b.toNat : Int)] w fun e w' => e = .returned (.bool (isDig b)) ∧ w' = w := by
  by_cases h1 : 48 ≤ b.toNat <;> by_cases h2 : b.toNat ≤ 57
  all_goals
    first
    | omega
    | (go_enter Tryz.func91, Tryz.ntmps91
       go_wp2
       go_ret
       refine ⟨?_, rfl⟩
       simp [isDig, h1, h2] <;> omega)

theorem spec_in (x : Int) (w : World) : Calls Tryz.prog 95 #[.int .i64 x, .int .i64 1, .int .i64 60] w fun e w' => e = .returned (.bool (decide (1 ≤ x) && decide (x ≤ 60))) ∧ w' = w := by
  by_cases h1 : 1 ≤ x <;> by_cases h2 : x ≤ 60
  all_goals
    first
    | omega
    | (go_enter Tryz.func95, Tryz.ntmps95
       go_wp2
       go_ret
       refine ⟨?_, rfl⟩
       simp [h1, h2] <;> omega)

set_option maxRecDepth 100000 in
set_option maxHeartbeats 1000000 in
theorem spec_plainOk (s : ByteArray) (hm : s.size ≤ maxLen) (w : World) :
    Calls Tryz.prog 57 #[.string s] w fun e w' => e = .returned (.bool (plainB s)) ∧ w' = w := by
  unfold maxLen at hm
  go_enter Tryz.func57, Tryz.ntmps57
  go_wp2
  go_loop [3] (fun i => ∃ k : Nat, k ≤ s.size ∧ i = .int .i64 k ∧ Hid (goodL (s.data.toList.take k) = true)) (fun i => s.size - (intOf i).toNat)
  case atStart => exact ⟨0, Nat.zero_le _, rfl, rfl⟩
  case round =>
    obtain ⟨k, hk, rfl, hr⟩ := hrel
    by_cases hlt : k < s.size
    · have HG := Lib.hid (goodL_step hlt)
      rw [hr.out] at HG
      have hL := spec_letter s[k]
      by_cases hl : isLet s[k] = true
      · rw [hl] at hL
        have HS : Hid (goodL (s.data.toList.take (k + 1)) = true) := by
          show _ = _
          rw [HG.out, hl, okP_let hl]; simp
        clear HG hl
        go_wp2_with (first
          | (go_at_call 94; refine (hL _).mono ?_; rintro e w1 ⟨rfl, e1⟩; subst e1)
          | fail)
        go_round
        case rel => exact ⟨k + 1, by omega, by go_num, HS.out⟩
        case measure => simp [intOf]; omega
      · have hl' : isLet s[k] = false := by simpa using hl
        rw [hl'] at hL HG
        clear hl
        by_cases hk0 : k = 0
        · subst hk0
          have HN : Hid (plainB s = false) := goodL_bad (k := 0) (by rw [HG.out]; rfl)
          clear HG
          go_wp2_with (first
            | (go_at_call 94; refine (hL _).mono ?_; rintro e w1 ⟨rfl, e1⟩; subst e1)
            | fail)
          go_ret
          exact ⟨by rw [HN.out]; rfl, rfl⟩
        · rw [if_neg hk0] at HG
          have e0 : ((k : Int) == 0) = false := by simp; omega
          have HO : Hid (okP s[k] = (isDig s[k] || isSgn s[k])) := by show _ = _; rw [okP, hl']; rfl
          rw [HO.out] at HG
          clear HO hk0 hl'
          generalize hb : s[k] = b at *
          by_cases hs : b = 95 ∨ b = 46 ∨ b = 47 ∨ b = 45
          · have HS : Hid (goodL (s.data.toList.take (k + 1)) = true) := by
              show _ = _
              rw [HG.out, show isSgn b = true from decide_eq_true hs]; simp
            clear HG
            rcases hs with rfl | rfl | rfl | rfl
            all_goals
              go_wp2_with (first
                | (go_at_call 94; refine (hL _).mono ?_; rintro e w1 ⟨rfl, e1⟩; subst e1)
                | fail)
              go_round
              case rel => exact ⟨k + 1, by omega, by go_num, HS.out⟩
              case measure => simp [intOf]; omega
          · have HSg : Hid (isSgn b = false) := decide_eq_false hs
            have n1 : ((b.toNat : Int) == 95) = false := by
              simp; intro h; exact hs (.inl (UInt8.toNat_inj.1 (Int.ofNat_inj.1 h)))
            have n2 : ((b.toNat : Int) == 46) = false := by
              simp; intro h; exact hs (.inr (.inl (UInt8.toNat_inj.1 (Int.ofNat_inj.1 h))))
            have n3 : ((b.toNat : Int) == 47) = false := by
              simp; intro h; exact hs (.inr (.inr (.inl (UInt8.toNat_inj.1 (Int.ofNat_inj.1 h)))))
            have n4 : ((b.toNat : Int) == 45) = false := by
              simp; intro h; exact hs (.inr (.inr (.inr (UInt8.toNat_inj.1 (Int.ofNat_inj.1 h)))))
            rw [HSg.out] at HG
            clear hs HSg
            by_cases d1 : 48 ≤ b.toNat
            · by_cases d2 : b.toNat ≤ 57
              · have HS : Hid (goodL (s.data.toList.take (k + 1)) = true) := by
                  show _ = _
                  rw [HG.out]; simp [isDig, d1, d2]
                clear HG
                go_wp2_with (first
                  | (go_at_call 94; refine (hL _).mono ?_; rintro e w1 ⟨rfl, e1⟩; subst e1)
                  | fail)
                all_goals exact ⟨⟨k + 1, by omega, by go_num, HS.out⟩, by simp [intOf]; omega⟩
              · have HN : Hid (plainB s = false) := goodL_bad (k := k) (by rw [HG.out]; simp [isDig, d1, d2])
                have d3 : decide ((b.toNat : Int) ≤ 57) = false := by simp; omega
                clear HG
                go_wp2_with (first
                  | (go_at_call 94; refine (hL _).mono ?_; rintro e w1 ⟨rfl, e1⟩; subst e1)
                  | fail)
                go_ret
                exact ⟨by rw [HN.out]; rfl, rfl⟩
            · have HN : Hid (plainB s = false) := goodL_bad (k := k) (by rw [HG.out]; simp [isDig, d1])
              clear HG
              go_wp2_with (first
                | (go_at_call 94; refine (hL _).mono ?_; rintro e w1 ⟨rfl, e1⟩; subst e1)
                | fail)
              go_ret
              exact ⟨by rw [HN.out]; rfl, rfl⟩
    · have HE : Hid (goodL s.data.toList = true) := by show _ = _; rw [← goodL_end hlt]; exact hr.out
      have h1 := fun w => spec_in s.size w
      have HP : Hid (plainB s = ((decide (1 ≤ (s.size : Int)) && decide ((s.size : Int) ≤ 60)) && noWord s)) := by
        show _ = _
        unfold plainB
        rw [HE.out, Bool.and_true]
        refine congrArg (· && _) ?_
        by_cases a : 1 ≤ s.size <;> by_cases b : s.size ≤ 60 <;> simp [a, b] <;> omega
      obtain ⟨b0, hb0⟩ : ∃ b0, (decide (1 ≤ (s.size : Int)) && decide ((s.size : Int) ≤ 60)) = b0 := ⟨_, rfl⟩
      rw [hb0] at HP h1
      clear hb0
      unfold noWord at HP
      cases hA : (s.toList == [110, 117, 108, 108]) <;> cases hB : (s.toList == [116, 114, 117, 101]) <;> cases hC : (s.toList == [102, 97, 108, 115, 101]) <;> cases b0
      all_goals
        rw [hA, hB, hC] at HP
        go_wp2_with (first
          | (go_at_call 95; refine (h1 _).mono ?_; rintro e w1 ⟨rfl, e1⟩; subst e1)
          | fail)
        go_ret
        exact ⟨by rw [HP.out]; rfl, rfl⟩

set_option maxRecDepth 100000 in
set_option maxHeartbeats 1000000 in
theorem impl_plainOk (s : ByteArray) (hm : s.size ≤ maxLen) (w : World) :
    Calls Tryz.prog 54 #[.string s] w fun e w' => e = .returned (.bool (plainB s)) ∧ w' = w := by
  unfold maxLen at hm
  by_cases hz : s.size = 0
  · have HN : Hid (plainB s = false) := by show _ = _; simp [plainB, hz]
    have e0 : (s.toList == []) = true := by
      have : s = ⟨#[]⟩ := ByteArray.ext (Array.eq_empty_of_size_eq_zero hz)
      rw [this, Lib.toList_data]; rfl
    clear hz
    go_enter Tryz.func54, Tryz.ntmps54
    go_wp2
    go_ret
    exact ⟨by rw [HN.out]; rfl, rfl⟩
  have e0 : (s.toList == []) = false := by
    rw [Lib.toList_data]
    simp
    intro h
    exact hz (by have : s.size = s.data.size := rfl; rw [this, h]; rfl)
  by_cases h60 : s.size ≤ 60
  case neg =>
    have HN : Hid (plainB s = false) := by show _ = _; simp [plainB, h60]
    go_enter Tryz.func54, Tryz.ntmps54
    go_wp2
    go_ret
    exact ⟨by rw [HN.out]; rfl, rfl⟩
  have h0 : 0 < s.size := by omega
  have h60' : (s.size : Int) ≤ 60 := by omega
  have hL0 := impl_letter s[0]
  by_cases hl0 : isLet s[0] = true
  case neg =>
    have hl' : isLet s[0] = false := by simpa using hl0
    have HN : Hid (plainB s = false) := goodL_bad (k := 0) (by rw [goodL_step h0, hl']; rfl)
    rw [hl'] at hL0
    clear hl0 hl'
    go_enter Tryz.func54, Tryz.ntmps54
    go_wp2_with (first
      | (go_at_call 90; refine (hL0 _).mono ?_; rintro e w1 ⟨rfl, e1⟩; subst e1)
      | fail)
    go_ret
    exact ⟨by rw [HN.out]; rfl, rfl⟩
  have HL0 := Lib.hid hl0
  rw [hl0] at hL0
  clear hl0
  go_enter Tryz.func54, Tryz.ntmps54
  go_wp2_with (first
    | (go_at_call 90; refine (hL0 _).mono ?_; rintro e w1 ⟨rfl, e1⟩; subst e1)
    | fail)
  clear hL0
  go_loop [19] (fun i => ∃ k : Nat, k ≤ s.size ∧ i = .int .i64 k ∧ Hid (goodL (s.data.toList.take k) = true)) (fun i => s.size - (intOf i).toNat)
  case atStart => exact ⟨0, Nat.zero_le _, rfl, rfl⟩
  case round =>
    obtain ⟨k, hk, rfl, hr⟩ := hrel
    by_cases hlt : k < s.size
    · have HG := Lib.hid (goodL_step hlt)
      rw [hr.out] at HG
      have hL := impl_letter s[k]
      have HGo : Hid (goodL (s.data.toList.take (k + 1)) = okP s[k]) := by
        show _ = _
        rw [HG.out, Bool.true_and]
        by_cases e : k = 0
        · subst e
          rw [if_pos rfl, HL0.out, okP_let HL0.out]
        · rw [if_neg e]
      clear HG
      by_cases hl : isLet s[k] = true
      · rw [hl] at hL
        have HS : Hid (goodL (s.data.toList.take (k + 1)) = true) := HGo.out.trans (okP_let hl)
        clear HGo hl
        go_wp2_with (first
          | (go_at_call 90; refine (hL _).mono ?_; rintro e w1 ⟨rfl, e1⟩; subst e1)
          | fail)
        all_goals exact ⟨⟨k + 1, by omega, by go_num, HS.out⟩, by simp [intOf]; omega⟩
      · have hl' : isLet s[k] = false := by simpa using hl
        rw [hl'] at hL
        have hD := impl_digit s[k]
        by_cases hd : isDig s[k] = true
        · rw [hd] at hD
          have HS : Hid (goodL (s.data.toList.take (k + 1)) = true) := by show _ = _; rw [HGo.out, okP, hd]; simp
          clear HGo hl hd hl'
          go_wp2_with (first
            | (go_at_call 90; refine (hL _).mono ?_; rintro e w1 ⟨rfl, e1⟩; subst e1)
            | (go_at_call 91; refine (hD _).mono ?_; rintro e w1 ⟨rfl, e1⟩; subst e1)
            | fail)
          all_goals exact ⟨⟨k + 1, by omega, by go_num, HS.out⟩, by simp [intOf]; omega⟩
        · have hd' : isDig s[k] = false := by simpa using hd
          rw [hd'] at hD
          have HGo2 : Hid (goodL (s.data.toList.take (k + 1)) = isSgn s[k]) := by show _ = _; rw [HGo.out, okP, hl', hd']; rfl
          have hI := Tryz.strings_IndexByte ⟨#[95, 46, 47, 45]⟩ (s[k].toNat : Int)
          have hsg := sgn_index s[k]
          obtain ⟨z, hz⟩ : ∃ z, Lib.indexByte (⟨#[95, 46, 47, 45]⟩ : ByteArray).data.toList (s[k].toNat : Int).toNat.toUInt8 = z := ⟨_, rfl⟩
          have hz' : Lib.indexByte [95, 46, 47, 45] (s[k].toNat : Int).toNat.toUInt8 = z := hz
          rw [hz'] at hsg
          rw [hz] at hI
          clear hz hz' hl hd hl' hd' HGo
          by_cases hg : isSgn s[k] = true
          · have hzz : ¬ z < 0 := fun h => by rw [hsg, hg] at h; cases h
            have HS : Hid (goodL (s.data.toList.take (k + 1)) = true) := HGo2.out.trans hg
            clear HGo2 hg hsg
            go_wp2_with (first
              | (go_at_call 90; refine (hL _).mono ?_; rintro e w1 ⟨rfl, e1⟩; subst e1)
              | (go_at_call 91; refine (hD _).mono ?_; rintro e w1 ⟨rfl, e1⟩; subst e1)
              | (go_at_call 92; refine (hI _).mono ?_; rintro e w1 ⟨rfl, e1⟩; subst e1)
              | fail)
            all_goals exact ⟨⟨k + 1, by omega, by go_num, HS.out⟩, by simp [intOf]; omega⟩
          · have hg' : isSgn s[k] = false := by simpa using hg
            have hzz : z < 0 := by rw [hsg]; exact hg'
            have HN : Hid (plainB s = false) := goodL_bad (k := k) (HGo2.out.trans hg')
            clear HGo2 hg hg' hsg
            go_wp2_with (first
              | (go_at_call 90; refine (hL _).mono ?_; rintro e w1 ⟨rfl, e1⟩; subst e1)
              | (go_at_call 91; refine (hD _).mono ?_; rintro e w1 ⟨rfl, e1⟩; subst e1)
              | (go_at_call 92; refine (hI _).mono ?_; rintro e w1 ⟨rfl, e1⟩; subst e1)
              | fail)
            go_ret
            exact ⟨by rw [HN.out]; rfl, rfl⟩
    · have HE : Hid (goodL s.data.toList = true) := by show _ = _; rw [← goodL_end hlt]; exact hr.out
      have HP : Hid (plainB s = noWord s) := by
        show _ = _
        unfold plainB
        rw [HE.out, Bool.and_true, decide_eq_true (by omega), Bool.true_and]
      unfold noWord at HP
      cases hA : (s.toList == [110, 117, 108, 108]) <;> cases hB : (s.toList == [116, 114, 117, 101]) <;> cases hC : (s.toList == [102, 97, 108, 115, 101])
      all_goals
        rw [hA, hB, hC] at HP
        go_wp2
        go_ret
        exact ⟨by rw [HP.out]; rfl, rfl⟩
end Go.Proofs.YtmcjghhmcmkomaaGreatDoor

/- the program's reading of braced texts: an int, read as it was written. -/
namespace Go.Proofs.YtmcjghhmcmkomaaGreatDoor
open Go Go.RowKit

/-- What digits say. -/
def dv (l : List UInt8) : Nat := l.foldl (fun a b => 10 * a + (b.toNat - 48)) 0

theorem dv_snoc (l : List UInt8) (b : UInt8) : dv (l ++ [b]) = 10 * dv l + (b.toNat - 48) := by simp [dv]

theorem dv_take_le (l : List UInt8) (k : Nat) (h : k ≤ l.length) : dv (l.take k) ≤ dv l := by
  induction hn : l.length - k generalizing k with
  | zero => rw [List.take_of_length_le (by omega)]; exact Nat.le_refl _
  | succ m ih =>
    have h1 := ih (k + 1) (by omega) (by omega)
    rw [List.take_succ_eq_append_getElem (by omega), dv_snoc] at h1
    omega

theorem dig_byte {d : Nat} (h : d < 10) : (UInt8.ofNat (48 + d)).toNat = 48 + d := by
  rw [UInt8.toNat_ofNat']
  omega

theorem isDig_mk {b : UInt8} (h1 : 48 ≤ b.toNat) (h2 : b.toNat ≤ 57) : isDig b = true := by simp [isDig, h1, h2]

theorem dv_one (b : UInt8) : dv [b] = b.toNat - 48 := by simp [dv]

theorem decs (u : Nat) : dv (Lib.decDigits u) = u ∧ (∀ b ∈ Lib.decDigits u, isDig b = true) ∧ Lib.decDigits u ≠ [] ∧ (u ≠ 0 → (Lib.decDigits u).head? ≠ some 48) := by
  induction u using Nat.strongRecOn with
  | _ u ih =>
    rw [Lib.decDigits.eq_def u]
    split
    · rename_i h
      have hb := dig_byte h
      refine ⟨by rw [dv_one, hb]; omega, fun b hm => ?_, by simp, fun h0 he => ?_⟩
      · rw [List.mem_singleton] at hm
        subst hm
        exact isDig_mk (by omega) (by omega)
      · have he' : UInt8.ofNat (48 + u) = 48 := Option.some.inj he
        rw [he'] at hb
        have : (48 : UInt8).toNat = 48 := rfl
        omega
    · rename_i h
      obtain ⟨h1, h2, h3, h4⟩ := ih (u / 10) (by omega)
      have hb := dig_byte (d := u % 10) (by omega)
      refine ⟨?_, fun b hm => ?_, by simp, fun _ => ?_⟩
      · rw [dv_snoc, h1, hb]; omega
      · rcases List.mem_append.1 hm with hm | hm
        · exact h2 b hm
        · rw [List.mem_singleton] at hm
          subst hm
          exact isDig_mk (by omega) (by omega)
      · have h5 := h4 (by omega)
        cases hl : Lib.decDigits (u / 10) with
        | nil => exact absurd hl h3
        | cons x r => rw [hl] at h5; simpa using h5

/-- The reader's place, as a measure sees it. -/
def rplace (w : World) (p : Nat) : Nat := (intOf ((w.cell? ⟨p, 1, none⟩).getD (.bool true))).toNat
theorem Rd.place {w : World} {p : Nat} {s : ByteArray} {i : Nat} {ov : Value} {nd : Nat} {tw : Int} (h : Rd w p s i ov nd tw) : rplace w p = i := by
  unfold rplace
  rw [h.five.2.1]
  rfl

theorem isDig_out {b : UInt8} (h : isDig b = true) : 48 ≤ b.toNat ∧ b.toNat ≤ 57 := by simpa [isDig] using h

set_option maxRecDepth 100000 in
set_option maxHeartbeats 2000000 in
/-- Digits that do not begin with a nought, and no digit behind them. -/
theorem rd_digits (sg z : Int) (hsg : sg = 1 ∨ sg = -1) (p : Nat) (s : ByteArray) (hs : s.size ≤ 1000000000) (i st : Nat) (ov : Value) (nd : Nat) (tw : Int) (ds R : List UInt8) (h0 : ds.head? ≠ some 48) (hne : ds ≠ []) (hd : ∀ b ∈ ds, isDig b = true) (hv : dv ds ≤ 1000000000000)
    (ht : s.data.toList.drop st = ds ++ R) (hR : isDig (R.headD 0) = false) (w : World) (h : Rd w p s i ov nd tw)
    (hz : z = sg * (dv ds : Nat)) (hst : (sg = -1 ∧ st = i + 1 ∧ nextB s i = 45 ∧ i < s.size) ∨ (sg = 1 ∧ st = i)) :
    Calls Tryz.prog 138 #[.pointer (some ⟨p, 0, none⟩)] w fun e w' => e = .returned (.tuple #[.int .i64 z, .nilIface]) ∧ Rd w' p s (st + ds.length) ov nd tw ∧ w.grownBy w' (some p) := by
  have hs' : s.size ≤ maxLen := by unfold maxLen; omega
  obtain ⟨d0, dr, rfl⟩ : ∃ d0 dr, ds = d0 :: dr := by
    cases ds with
    | nil => exact absurd rfl hne
    | cons a b => exact ⟨a, b, rfl⟩
  obtain ⟨n1, n2, -⟩ := nextB_drop (b := d0) (l := dr ++ R) ht
  have hd0 := isDig_out (hd d0 (List.mem_cons_self ..))
  have hd48 : ¬ d0 = 48 := fun e => h0 (by rw [e]; rfl)
  -- the sign
  have HS : Hid (Calls Tryz.prog 119 #[.pointer (some ⟨p, 0, none⟩), .int .u8 45] w fun e w' => e = .returned (.bool (decide (sg = -1))) ∧ Rd w' p s st ov nd tw ∧ w.grownBy w' (some p)) := by
    rcases hst with ⟨rfl, rfl, a1, a2⟩ | ⟨rfl, rfl⟩
    · exact rd_take_yes p s i ov nd tw w hs' a2 45 a1 h
    · refine (rd_take_no p s st ov nd tw w (Nat.le_of_lt n2) 45 (by rw [n1]; rintro rfl; simp at hd0) h).mono ?_
      rintro e w' ⟨rfl, hb⟩
      exact ⟨rfl, h.same (hb.block p h.lt), grw_below hb⟩
  have A2 := Lib.hid (fun (wx : World) (hx : Rd wx p s st ov nd tw) => rd_take_no p s st ov nd tw wx (Nat.le_of_lt n2) 48 (by rw [n1]; exact hd48) hx)
  have A3 := Lib.hid (fun (wx : World) (hx : Rd wx p s st ov nd tw) => rd_next p s st ov nd tw wx (Nat.le_of_lt n2) hx)
  rw [n1] at A3
  have A4 := Lib.hid (impl_digit d0)
  rw [hd d0 (List.mem_cons_self ..)] at A4
  have HT := Lib.hid ht
  have HDd := Lib.hid hd
  have HVt := Lib.hid (fun k hk => Nat.le_trans (dv_take_le (d0 :: dr) k hk) hv)
  have hstz : st ≤ 1000000000 := by omega
  have hstl : Hid (st < s.size) := n2
  have HZ := Lib.hid hz
  clear hz
  clear hst ht n1 n2 hd0 hd48 h h0 hne hd
  generalize hds : d0 :: dr = ds at *
  clear hds
  rcases hsg with rfl | rfl
  · have HZ1 : Hid (z = (dv ds : Nat)) := by show _ = _; rw [HZ.out]; omega
    clear HZ
    go_enter Tryz.func138, Tryz.ntmps138
    go_wp2_with fail
    refine HS.out.mono ?_
    rintro e w1 ⟨rfl, h1, g1⟩
    have H1 := Lib.hid h1
    have G1 := Lib.hid g1
    clear h1 g1
    go_wp2_with fail
    refine (A2.out _ H1.out).mono ?_
    rintro e w2 ⟨rfl, hb2⟩
    have H2 := Lib.hid (H1.out.same (hb2.block p H1.out.lt))
    have G2 := Lib.hid (grw_trans G1.out (grw_below hb2))
    clear hb2
    go_wp2_with (first
      | (go_at_call 124; refine (A3.out _ H2.out).mono ?_; rintro e w3 ⟨rfl, hb3⟩; have H3 := Lib.hid (H2.out.same (hb3.block p H2.out.lt)); have G3 := Lib.hid (grw_trans G2.out (grw_below hb3)); clear hb3)
      | (go_at_call 91; refine (A4.out _).mono ?_; rintro e w4 ⟨rfl, e4⟩; subst e4)
      | fail)
    go_loopw [5] (fun v wr => ∃ k : Nat, k ≤ ds.length ∧ v = .int .i64 (dv (ds.take k) : Nat) ∧ Hid (Rd wr p s (st + k) ov nd tw ∧ w.grownBy wr (some p))) (fun _ wr => s.size - rplace wr p)
    case atStart => exact ⟨0, Nat.zero_le _, rfl, H3.out, G3.out⟩
    case round =>
      obtain ⟨k, hk, rfl, HR⟩ := hrel
      by_cases hlt : k < ds.length
      · obtain ⟨b, hb⟩ : ∃ b : UInt8, ds[k] = b := ⟨_, rfl⟩
        have hbd := isDig_out (HDd.out ds[k] (List.getElem_mem hlt))
        have hbd' := HDd.out ds[k] (List.getElem_mem hlt)
        have hdr : s.data.toList.drop (st + k) = ds[k] :: (ds.drop (k + 1) ++ R) := by
          rw [← List.drop_drop, HT.out, List.drop_append_of_le_length (by omega), List.drop_eq_getElem_cons hlt]
          rfl
        have HSn : Hid (dv (ds.take (k + 1)) = 10 * dv (ds.take k) + (b.toNat - 48)) := by
          show _ = _
          rw [List.take_succ_eq_append_getElem hlt, dv_snoc, hb]
        have hv1 := HVt.out (k + 1) (by omega)
        rw [HSn.out] at hv1
        rw [hb] at hbd hbd' hdr
        obtain ⟨m1, m2, -⟩ := nextB_drop hdr
        have B1 := Lib.hid (fun (wx : World) (hx : Rd wx p s (st + k) ov nd tw) => rd_next p s (st + k) ov nd tw wx (Nat.le_of_lt m2) hx)
        rw [m1] at B1
        have B2 := Lib.hid (impl_digit b)
        rw [hbd'] at B2
        have hqk : st + k ≤ 1000000000 := by omega
        have hm2 := Lib.hid m2
        have HRR := Lib.hid HR.out
        clear hb hdr m1 m2 hbd' HR
        generalize hq : st + k = q at *
        have HQ : Hid (st + (k + 1) = q + 1) := by show _ = _; omega
        clear hq
        generalize dv (ds.take k) = n at *
        have t1 : True := trivial
        go_wp2_with (first
          | (go_at_call 124; clear t1; refine (B1.out _ HRR.out.1).mono ?_; rintro e w5 ⟨rfl, hb5⟩; have H5 := Lib.hid (HRR.out.1.same (hb5.block p HRR.out.1.lt)); have G5 := Lib.hid (grw_trans HRR.out.2 (grw_below hb5)); clear hb5)
          | (go_at_call 91; refine (B2.out _).mono ?_; rintro e w6 ⟨rfl, e6⟩; subst e6; refine Hid.out ?_)
          | fail)
        refine Lib.hid ?_
        go_wp2_with (first
          | (go_at_call 124; refine (B1.out _ H5.out).mono ?_; rintro e w7 ⟨rfl, hb7⟩; have H7 := Lib.hid (H5.out.same (hb7.block p H5.out.lt)); have G7 := Lib.hid (grw_trans G5.out (grw_below hb7)); obtain ⟨x0, x1, x2, x3, x4, x5⟩ := H7.out.five; clear hb7)
          | fail)
        refine ⟨⟨k + 1, hlt, ?_, ?_, ?_⟩, ?_⟩
        · rw [HSn.out]
          go_num
        · rw [HQ.out]; exact H7.out.go1
        · exact grw_trans G7.out (grw_set _ _ _ _)
        · have h8 := Rd.place H7.out.go1
          have h9 := HRR.out.1.place
          rw [h9]
          show s.size - rplace (w7.setCell ⟨p, 1, none⟩ (.int .i64 ((q : Int) + 1))) p < _
          rw [h8]
          have := hm2.out
          omega
      · have e : k = ds.length := by omega
        subst e
        have hdr : s.data.toList.drop (st + ds.length) = R := by
          rw [← List.drop_drop, HT.out, List.drop_left]
        have hle : st + ds.length ≤ s.size := by
          have h1 : (s.data.toList.drop st).length = s.size - st := by rw [List.length_drop]; simp
          rw [HT.out, List.length_append] at h1
          have := hstl.out
          omega
        have hnx : isDig (nextB s (st + ds.length)) = false := by
          cases R with
          | nil => rw [nextB_nil hdr]; rfl
          | cons x r => rw [(nextB_drop hdr).1]; exact hR
        have B1 := Lib.hid (rd_next p s (st + ds.length) ov nd tw wr hle HR.out.1)
        have B2 := Lib.hid (impl_digit (nextB s (st + ds.length)))
        rw [hnx] at B2
        have HV : Hid (dv (ds.take ds.length) = dv ds) := by show _ = _; rw [List.take_of_length_le (Nat.le_refl _)]
        rw [HV.out]
        clear hdr hnx hle HV
        generalize nextB s (st + ds.length) = b at *
        go_wp2_with (first
          | (go_at_call 124; refine B1.out.mono ?_; rintro e w5 ⟨rfl, hb5⟩; have H5 := Lib.hid (HR.out.1.same (hb5.block p HR.out.1.lt)); have G5 := Lib.hid (grw_trans HR.out.2 (grw_below hb5)); clear hb5)
          | (go_at_call 91; refine (B2.out _).mono ?_; rintro e w6 ⟨rfl, e6⟩; subst e6)
          | fail)
        go_ret2
        exact ⟨by rw [HZ1.out]; rfl, H5.out, G5.out⟩
  · have HZ1 : Hid (z = -(dv ds : Nat)) := by show _ = _; rw [HZ.out]; omega
    clear HZ
    go_enter Tryz.func138, Tryz.ntmps138
    go_wp2_with fail
    refine HS.out.mono ?_
    rintro e w1 ⟨rfl, h1, g1⟩
    have H1 := Lib.hid h1
    have G1 := Lib.hid g1
    clear h1 g1
    go_wp2_with fail
    refine (A2.out _ H1.out).mono ?_
    rintro e w2 ⟨rfl, hb2⟩
    have H2 := Lib.hid (H1.out.same (hb2.block p H1.out.lt))
    have G2 := Lib.hid (grw_trans G1.out (grw_below hb2))
    clear hb2
    go_wp2_with (first
      | (go_at_call 124; refine (A3.out _ H2.out).mono ?_; rintro e w3 ⟨rfl, hb3⟩; have H3 := Lib.hid (H2.out.same (hb3.block p H2.out.lt)); have G3 := Lib.hid (grw_trans G2.out (grw_below hb3)); clear hb3)
      | (go_at_call 91; refine (A4.out _).mono ?_; rintro e w4 ⟨rfl, e4⟩; subst e4)
      | fail)
    go_loopw [5] (fun v wr => ∃ k : Nat, k ≤ ds.length ∧ v = .int .i64 (dv (ds.take k) : Nat) ∧ Hid (Rd wr p s (st + k) ov nd tw ∧ w.grownBy wr (some p))) (fun _ wr => s.size - rplace wr p)
    case atStart => exact ⟨0, Nat.zero_le _, rfl, H3.out, G3.out⟩
    case round =>
      obtain ⟨k, hk, rfl, HR⟩ := hrel
      by_cases hlt : k < ds.length
      · obtain ⟨b, hb⟩ : ∃ b : UInt8, ds[k] = b := ⟨_, rfl⟩
        have hbd := isDig_out (HDd.out ds[k] (List.getElem_mem hlt))
        have hbd' := HDd.out ds[k] (List.getElem_mem hlt)
        have hdr : s.data.toList.drop (st + k) = ds[k] :: (ds.drop (k + 1) ++ R) := by
          rw [← List.drop_drop, HT.out, List.drop_append_of_le_length (by omega), List.drop_eq_getElem_cons hlt]
          rfl
        have HSn : Hid (dv (ds.take (k + 1)) = 10 * dv (ds.take k) + (b.toNat - 48)) := by
          show _ = _
          rw [List.take_succ_eq_append_getElem hlt, dv_snoc, hb]
        have hv1 := HVt.out (k + 1) (by omega)
        rw [HSn.out] at hv1
        rw [hb] at hbd hbd' hdr
        obtain ⟨m1, m2, -⟩ := nextB_drop hdr
        have B1 := Lib.hid (fun (wx : World) (hx : Rd wx p s (st + k) ov nd tw) => rd_next p s (st + k) ov nd tw wx (Nat.le_of_lt m2) hx)
        rw [m1] at B1
        have B2 := Lib.hid (impl_digit b)
        rw [hbd'] at B2
        have hqk : st + k ≤ 1000000000 := by omega
        have hm2 := Lib.hid m2
        have HRR := Lib.hid HR.out
        clear hb hdr m1 m2 hbd' HR
        generalize hq : st + k = q at *
        have HQ : Hid (st + (k + 1) = q + 1) := by show _ = _; omega
        clear hq
        generalize dv (ds.take k) = n at *
        have t1 : True := trivial
        go_wp2_with (first
          | (go_at_call 124; clear t1; refine (B1.out _ HRR.out.1).mono ?_; rintro e w5 ⟨rfl, hb5⟩; have H5 := Lib.hid (HRR.out.1.same (hb5.block p HRR.out.1.lt)); have G5 := Lib.hid (grw_trans HRR.out.2 (grw_below hb5)); clear hb5)
          | (go_at_call 91; refine (B2.out _).mono ?_; rintro e w6 ⟨rfl, e6⟩; subst e6; refine Hid.out ?_)
          | fail)
        refine Lib.hid ?_
        go_wp2_with (first
          | (go_at_call 124; refine (B1.out _ H5.out).mono ?_; rintro e w7 ⟨rfl, hb7⟩; have H7 := Lib.hid (H5.out.same (hb7.block p H5.out.lt)); have G7 := Lib.hid (grw_trans G5.out (grw_below hb7)); obtain ⟨x0, x1, x2, x3, x4, x5⟩ := H7.out.five; clear hb7)
          | fail)
        refine ⟨⟨k + 1, hlt, ?_, ?_, ?_⟩, ?_⟩
        · rw [HSn.out]
          go_num
        · rw [HQ.out]; exact H7.out.go1
        · exact grw_trans G7.out (grw_set _ _ _ _)
        · have h8 := Rd.place H7.out.go1
          have h9 := HRR.out.1.place
          rw [h9]
          show s.size - rplace (w7.setCell ⟨p, 1, none⟩ (.int .i64 ((q : Int) + 1))) p < _
          rw [h8]
          have := hm2.out
          omega
      · have e : k = ds.length := by omega
        subst e
        have hdr : s.data.toList.drop (st + ds.length) = R := by
          rw [← List.drop_drop, HT.out, List.drop_left]
        have hle : st + ds.length ≤ s.size := by
          have h1 : (s.data.toList.drop st).length = s.size - st := by rw [List.length_drop]; simp
          rw [HT.out, List.length_append] at h1
          have := hstl.out
          omega
        have hnx : isDig (nextB s (st + ds.length)) = false := by
          cases R with
          | nil => rw [nextB_nil hdr]; rfl
          | cons x r => rw [(nextB_drop hdr).1]; exact hR
        have B1 := Lib.hid (rd_next p s (st + ds.length) ov nd tw wr hle HR.out.1)
        have B2 := Lib.hid (impl_digit (nextB s (st + ds.length)))
        rw [hnx] at B2
        have HV : Hid (dv (ds.take ds.length) = dv ds) := by show _ = _; rw [List.take_of_length_le (Nat.le_refl _)]
        rw [HV.out]
        clear hdr hnx hle HV
        generalize nextB s (st + ds.length) = b at *
        go_wp2_with (first
          | (go_at_call 124; refine B1.out.mono ?_; rintro e w5 ⟨rfl, hb5⟩; have H5 := Lib.hid (HR.out.1.same (hb5.block p HR.out.1.lt)); have G5 := Lib.hid (grw_trans HR.out.2 (grw_below hb5)); clear hb5)
          | (go_at_call 91; refine (B2.out _).mono ?_; rintro e w6 ⟨rfl, e6⟩; subst e6)
          | fail)
        go_ret2
        exact ⟨by rw [HZ1.out]; rfl, H5.out, G5.out⟩
end Go.Proofs.YtmcjghhmcmkomaaGreatDoor

/- plain facts on trees as they lie in memory: which blocks a tree lies in, and that it lies there still in every world that has these blocks as they were. -/
namespace Go.Proofs.YtmcjghhmcmkomaaGreatDoor
open Go Go.RowKit

/-- A tree: its kind, its number, its text, its keys, its kids. -/
inductive RT where
  | node (k n : Int) (s : ByteArray) (keys : List ByteArray) (kids : List RT)

instance : Inhabited RT := ⟨.node 0 0 ByteArray.empty [] []⟩

def RT.k : RT → Int | .node k _ _ _ _ => k
def RT.n : RT → Int | .node _ n _ _ _ => n
def RT.s : RT → ByteArray | .node _ _ s _ _ => s
def RT.keys : RT → List ByteArray | .node _ _ _ l _ => l
def RT.kids : RT → List RT | .node _ _ _ _ l => l

theorem RT.eta (T : RT) : T = .node T.k T.n T.s T.keys T.kids := by cases T; rfl

theorem RT.ext {A B : RT} (h1 : A.k = B.k) (h2 : A.n = B.n) (h3 : A.s = B.s) (h4 : A.keys = B.keys) (h5 : A.kids = B.kids) : A = B := by
  rw [RT.eta A, RT.eta B, h1, h2, h3, h4, h5]

mutual
theorem RT.ind_aux {p : RT → Prop} (h : ∀ k n s keys kids, (∀ t ∈ kids, p t) → p (.node k n s keys kids)) : (t : RT) → p t
  | .node k n s keys kids => h k n s keys kids (RT.ind_all h kids)
theorem RT.ind_all {p : RT → Prop} (h : ∀ k n s keys kids, (∀ t ∈ kids, p t) → p (.node k n s keys kids)) : (l : List RT) → ∀ t ∈ l, p t
  | [], _, ht => absurd ht (by simp)
  | x :: l, t, ht => by
    rcases List.mem_cons.1 ht with e | e
    · rw [e]; exact RT.ind_aux h x
    · exact RT.ind_all h l t e
end

theorem RT.ind {p : RT → Prop} (h : ∀ k n s keys kids, (∀ t ∈ kids, p t) → p (.node k n s keys kids)) (t : RT) : p t := RT.ind_aux h t

/-- A number of 64 bits. -/
def Fit (x : Int) : Prop := -9223372036854775808 ≤ x ∧ x ≤ 9223372036854775807

/-- A node's five cells, of which two lead on. -/
def RT.row (T : RT) (kv dv : Value) : List Value := [.int .i64 T.k, .int .i64 T.n, .string T.s, kv, dv]
/-- A node as one value. -/
def RT.val (T : RT) (kv dv : Value) : Value := .agg #[.int .i64 T.k, .int .i64 T.n, .string T.s, kv, dv]

/-- There are so many cells from here on. -/
def Room (w : World) (b off n : Nat) : Prop := ∀ i, i < n → (w.cell? ⟨b, off + i, none⟩).isSome = true

/-- The list of texts that v is, and the block it lies in, its spare room too. -/
def StrsAt (w : World) (v : Value) (ks : List ByteArray) (F : List Nat) : Prop :=
  ∃ (o : Option Addr) (cap b off : Nat), v = .slice o ks.length cap ∧ ks.length ≤ cap ∧ cap ≤ maxLen ∧ (0 < cap → o = some ⟨b, off, none⟩) ∧ F = (if cap = 0 then [] else [b]) ∧
    (∀ i (h : i < ks.length), w.cell? ⟨b, off + i, none⟩ = some (.string ks[i]) ∧ ks[i].size ≤ maxLen) ∧ Room w b off cap

/-- The tree T lies in w behind these two lists, in the blocks F. -/
inductive Lies (w : World) : RT → Value → Value → List Nat → Prop
  | mk (k n : Int) (s : ByteArray) (keys : List ByteArray) (kids : List RT) (kv : Value) (FK : List Nat) (o : Option Addr) (cap b off : Nat) (FF : Nat → List Nat) (KV DV : Nat → Value) :
    Fit k → Fit n → s.size ≤ maxLen → StrsAt w kv keys FK → kids.length ≤ cap → cap ≤ maxLen → (0 < cap → o = some ⟨b, off, none⟩) → Room w b off (cap * 5) →
    (∀ i (h : i < kids.length), ∀ j, j < 5 → w.cell? ⟨b, off + i * 5 + j, none⟩ = (kids[i].row (KV i) (DV i))[j]?) →
    (∀ i (h : i < kids.length), Lies w kids[i] (KV i) (DV i) (FF i)) →
    Lies w (.node k n s keys kids) kv (.slice o kids.length cap) (FK ++ ((if cap = 0 then [] else [b]) ++ (List.range kids.length).flatMap FF))

/-- A list of trees that lies in w. -/
def KidsLie (w : World) (dv : Value) (kids : List RT) (F : List Nat) : Prop :=
  ∃ (o : Option Addr) (cap b off : Nat) (FF : Nat → List Nat) (KV DV : Nat → Value), dv = .slice o kids.length cap ∧ kids.length ≤ cap ∧ cap ≤ maxLen ∧ (0 < cap → o = some ⟨b, off, none⟩) ∧
    F = (if cap = 0 then [] else [b]) ++ (List.range kids.length).flatMap FF ∧
    (∀ i (h : i < kids.length), ∀ j, j < 5 → w.cell? ⟨b, off + i * 5 + j, none⟩ = (kids[i].row (KV i) (DV i))[j]?) ∧
    (∀ i (h : i < kids.length), Lies w kids[i] (KV i) (DV i) (FF i)) ∧ Room w b off (cap * 5)

theorem Room.carry {w w' : World} {b off n : Nat} (h : Room w b off n) (hb : w'.heap[b]? = w.heap[b]?) : Room w' b off n := fun i hi => by
  rw [World.cell?_of_block (w := w) (a := ⟨b, off + i, none⟩) hb]; exact h i hi

theorem Room.lt {w : World} {b off n : Nat} (h : Room w b off n) (hn : 0 < n) : b < w.heap.size := by
  have := h 0 hn
  obtain ⟨u, hu⟩ := Option.isSome_iff_exists.1 this
  exact World.block_lt_of_cell? _ _ hu

theorem Room.nil (w : World) (b off : Nat) : Room w b off 0 := fun i hi => absurd hi (by omega)

theorem Lies.out {w : World} {T : RT} {kv dv : Value} {F : List Nat} (h : Lies w T kv dv F) :
    Fit T.k ∧ Fit T.n ∧ T.s.size ≤ maxLen ∧ ∃ FK FD, StrsAt w kv T.keys FK ∧ KidsLie w dv T.kids FD ∧ F = FK ++ FD := by
  cases h with
  | mk k n s keys kids kv FK o cap b off FF KV DV h1 h2 h3 h4 h5 h6 h7 hr h8 h9 => exact ⟨h1, h2, h3, FK, _, h4, ⟨o, cap, b, off, FF, KV, DV, rfl, h5, h6, h7, rfl, h8, h9, hr⟩, rfl⟩

theorem Lies.outn {w : World} {k n : Int} {s : ByteArray} {keys : List ByteArray} {kids : List RT} {kv dv : Value} {F : List Nat} (h : Lies w (.node k n s keys kids) kv dv F) :
    Fit k ∧ Fit n ∧ s.size ≤ maxLen ∧ ∃ FK FD, StrsAt w kv keys FK ∧ KidsLie w dv kids FD ∧ F = FK ++ FD := h.out

theorem StrsAt.slice {w : World} {v : Value} {ks : List ByteArray} {F : List Nat} (h : StrsAt w v ks F) : ∃ o c, v = .slice o ks.length c := by
  obtain ⟨o', cap', _, _, rfl, _⟩ := h
  exact ⟨o', cap', rfl⟩

theorem KidsLie.slice {w : World} {v : Value} {kids : List RT} {F : List Nat} (h : KidsLie w v kids F) : ∃ o c, v = .slice o kids.length c := by
  obtain ⟨o', cap', _, _, _, _, _, rfl, _⟩ := h
  exact ⟨o', cap', rfl⟩

theorem Lies.slices {w : World} {T : RT} {kv dv : Value} {F : List Nat} (h : Lies w T kv dv F) : (∃ o c, kv = .slice o T.keys.length c) ∧ ∃ o c, dv = .slice o T.kids.length c := by
  cases h with
  | mk k n s keys kids kv FK o cap b off FF KV DV h1 h2 h3 h4 h5 h6 h7 hr h8 h9 =>
    obtain ⟨o', cap', _, _, rfl, _⟩ := h4
    exact ⟨⟨o', cap', rfl⟩, o, cap, rfl⟩

theorem Lies.into {w : World} {k n : Int} {s : ByteArray} {keys : List ByteArray} {kids : List RT} {kv dv : Value} {FK FD : List Nat} (h1 : Fit k) (h2 : Fit n) (h3 : s.size ≤ maxLen)
    (h4 : StrsAt w kv keys FK) (h5 : KidsLie w dv kids FD) : Lies w (.node k n s keys kids) kv dv (FK ++ FD) := by
  obtain ⟨o, cap, b, off, FF, KV, DV, rfl, g1, g2, g3, rfl, g4, g5, g6⟩ := h5
  exact .mk k n s keys kids kv FK o cap b off FF KV DV h1 h2 h3 h4 g1 g2 g3 g6 g4 g5

theorem Lies.into' {w : World} {T : RT} {kv dv : Value} {FK FD : List Nat} (h1 : Fit T.k) (h2 : Fit T.n) (h3 : T.s.size ≤ maxLen)
    (h4 : StrsAt w kv T.keys FK) (h5 : KidsLie w dv T.kids FD) : Lies w T kv dv (FK ++ FD) := by
  rw [RT.eta T]; exact Lies.into h1 h2 h3 h4 h5

theorem ret_int {x y : Int} (h : x = y) : Ending.returned (.int .i64 x) = .returned (.int .i64 y) := by rw [h]
theorem ret_bool {x y : Bool} (h : x = y) : Ending.returned (.bool x) = .returned (.bool y) := by rw [h]

theorem bytes_ne {x y : ByteArray} (h : ¬ x = y) : (x.toList == y.toList) = false := by
  rw [beq_eq_false_iff_ne]
  intro e
  rw [ByteArray.toList_eq, ByteArray.toList_eq] at e
  exact h (ByteArray.ext (Array.toList_inj.1 e))

/-! ### From world to world -/

/-- The five cells of a node that lies in a row, read in a later world. -/
theorem kid_cells {w wr : World} {b o : Nat} {T : RT} {kv dv : Value} (hc : ∀ j, j < 5 → w.cell? ⟨b, o + j, none⟩ = (T.row kv dv)[j]?) (hb : Below w.heap.size w wr) :
    wr.cell? ⟨b, o, none⟩ = some (.int .i64 T.k) ∧ wr.cell? ⟨b, o + 1, none⟩ = some (.int .i64 T.n) ∧ wr.cell? ⟨b, o + 2, none⟩ = some (.string T.s) ∧ wr.cell? ⟨b, o + 3, none⟩ = some kv ∧ wr.cell? ⟨b, o + 4, none⟩ = some dv := by
  have h0 : w.cell? ⟨b, o + 0, none⟩ = some (.int .i64 T.k) := hc 0 (by omega)
  have hlt : b < w.heap.size := World.block_lt_of_cell? _ _ h0
  refine ⟨?_, ?_, ?_, ?_, ?_⟩
  · rw [hb.cell (by exact hlt)]; exact h0
  · rw [hb.cell (by exact hlt)]; exact hc 1 (by omega)
  · rw [hb.cell (by exact hlt)]; exact hc 2 (by omega)
  · rw [hb.cell (by exact hlt)]; exact hc 3 (by omega)
  · rw [hb.cell (by exact hlt)]; exact hc 4 (by omega)

theorem StrsAt.carry {w w' : World} {v : Value} {ks : List ByteArray} {F : List Nat} (h : StrsAt w v ks F) (hF : ∀ b ∈ F, w'.heap[b]? = w.heap[b]?) : StrsAt w' v ks F := by
  obtain ⟨o, cap, b, off, rfl, h1, h2, h3, rfl, h4, h5⟩ := h
  have hb : 0 < cap → w'.heap[b]? = w.heap[b]? := fun hc => hF b (by rw [if_neg (by omega)]; simp)
  refine ⟨o, cap, b, off, rfl, h1, h2, h3, rfl, fun i hi => ⟨?_, (h4 i hi).2⟩, fun i hi => ?_⟩
  · rw [World.cell?_of_block (w := w) (hb (by omega))]
    exact (h4 i hi).1
  · rw [World.cell?_of_block (w := w) (a := ⟨b, off + i, none⟩) (hb (by omega))]
    exact h5 i hi

theorem Lies.carry {w w' : World} {T : RT} {kv dv : Value} {F : List Nat} (h : Lies w T kv dv F) (hF : ∀ b ∈ F, w'.heap[b]? = w.heap[b]?) : Lies w' T kv dv F := by
  induction h with
  | mk k n s keys kids kv FK o cap b off FF KV DV h1 h2 h3 h4 h5 h6 h7 hr h8 h9 ih =>
    have hb : 0 < cap → w'.heap[b]? = w.heap[b]? := fun hc => hF b (by rw [if_neg (by omega)]; simp)
    refine .mk k n s keys kids kv FK o cap b off FF KV DV h1 h2 h3 (h4.carry fun c hc => hF c (by simp [hc])) h5 h6 h7 (fun i hi => ?_) (fun i hi j hj => ?_) (fun i hi => ih i hi fun c hc => hF c ?_)
    · rw [World.cell?_of_block (w := w) (a := ⟨b, off + i, none⟩) (hb (by omega))]
      exact hr i hi
    · rw [World.cell?_of_block (w := w) (hb (by omega))]
      exact h8 i hi j hj
    · exact List.mem_append_right _ (List.mem_append_right _ (List.mem_flatMap.2 ⟨i, List.mem_range.2 hi, hc⟩))

theorem KidsLie.carry {w w' : World} {dv : Value} {kids : List RT} {F : List Nat} (h : KidsLie w dv kids F) (hF : ∀ b ∈ F, w'.heap[b]? = w.heap[b]?) : KidsLie w' dv kids F := by
  obtain ⟨o, cap, b, off, FF, KV, DV, rfl, g1, g2, g3, rfl, g4, g5, g6⟩ := h
  have hb : 0 < cap → w'.heap[b]? = w.heap[b]? := fun hc => hF b (by rw [if_neg (by omega)]; simp)
  refine ⟨o, cap, b, off, FF, KV, DV, rfl, g1, g2, g3, rfl, fun i hi j hj => ?_, fun i hi => (g5 i hi).carry fun c hc => hF c ?_, fun i hi => ?_⟩
  · rw [World.cell?_of_block (w := w) (hb (by omega))]
    exact g4 i hi j hj
  · exact List.mem_append_right _ (List.mem_flatMap.2 ⟨i, List.mem_range.2 hi, hc⟩)
  · rw [World.cell?_of_block (w := w) (a := ⟨b, off + i, none⟩) (hb (by omega))]
    exact g6 i hi

theorem StrsAt.lt {w : World} {v : Value} {ks : List ByteArray} {F : List Nat} (h : StrsAt w v ks F) : ∀ b ∈ F, b < w.heap.size := by
  obtain ⟨o, cap, b, off, rfl, h1, h2, h3, rfl, h4, h5⟩ := h
  intro c hc
  split at hc
  · simp at hc
  · simp at hc
    subst hc
    exact h5.lt (by omega)

theorem Lies.lt {w : World} {T : RT} {kv dv : Value} {F : List Nat} (h : Lies w T kv dv F) : ∀ b ∈ F, b < w.heap.size := by
  induction h with
  | mk k n s keys kids kv FK o cap b off FF KV DV h1 h2 h3 h4 h5 h6 h7 hr h8 h9 ih =>
    intro c hc
    rcases List.mem_append.1 hc with hc | hc
    · exact h4.lt c hc
    · rcases List.mem_append.1 hc with hc | hc
      · split at hc
        · simp at hc
        · simp at hc
          subst hc
          exact hr.lt (by omega)
      · obtain ⟨i, hi, hc⟩ := List.mem_flatMap.1 hc
        exact ih i (List.mem_range.1 hi) c hc

theorem KidsLie.lt {w : World} {dv : Value} {kids : List RT} {F : List Nat} (h : KidsLie w dv kids F) : ∀ b ∈ F, b < w.heap.size := by
  have := (Lies.into (k := 0) (n := 0) (s := ByteArray.empty) (keys := []) (kv := .slice none 0 0) (FK := []) ⟨by decide, by decide⟩ ⟨by decide, by decide⟩ (by decide) ⟨none, 0, 0, 0, rfl, Nat.le_refl _, Nat.zero_le _, fun h => absurd h (by simp), rfl, fun i hi => absurd hi (by simp), Room.nil _ _ _⟩ h).lt
  simpa using this

theorem Lies.stay {w w' : World} {T : RT} {kv dv : Value} {F : List Nat} (h : Lies w T kv dv F) {B : Nat} (hb : Below B w w') (hB : w.heap.size ≤ B) : Lies w' T kv dv F :=
  h.carry fun b hF => hb.block b (Nat.lt_of_lt_of_le (h.lt b hF) hB)
theorem KidsLie.stay {w w' : World} {dv : Value} {kids : List RT} {F : List Nat} (h : KidsLie w dv kids F) {B : Nat} (hb : Below B w w') (hB : w.heap.size ≤ B) : KidsLie w' dv kids F :=
  h.carry fun b hF => hb.block b (Nat.lt_of_lt_of_le (h.lt b hF) hB)
theorem StrsAt.stay {w w' : World} {v : Value} {ks : List ByteArray} {F : List Nat} (h : StrsAt w v ks F) {B : Nat} (hb : Below B w w') (hB : w.heap.size ≤ B) : StrsAt w' v ks F :=
  h.carry fun b hF => hb.block b (Nat.lt_of_lt_of_le (h.lt b hF) hB)


/-! ### A node that a function was handed, in its block -/

theorem heap_last (w : World) (o : Obj) : (w.alloc o).heap[w.heap.size]? = some o := by
  show (w.heap.push o)[w.heap.size]? = _
  simp

theorem cell_of {w : World} {b : Nat} {cs : Array Value} {t : TypeId} {fz : Nat × Nat} (h : w.heap[b]? = some (.cells cs t fz)) (o : Nat) : w.cell? ⟨b, o, none⟩ = cs[o]? := by
  simp [World.cell?, h]

/-- A block of five cells, none frozen. -/
theorem five {w : World} {b : Nat} {t : TypeId} {a0 a1 a2 a3 a4 : Value} (h : w.heap[b]? = some (.cells #[a0, a1, a2, a3, a4] t (0, 0))) :
    w.cell? ⟨b, 0, none⟩ = some a0 ∧ w.cell? ⟨b, 1, none⟩ = some a1 ∧ w.cell? ⟨b, 2, none⟩ = some a2 ∧ w.cell? ⟨b, 3, none⟩ = some a3 ∧ w.cell? ⟨b, 4, none⟩ = some a4 ∧ ∀ o, w.frozen? ⟨b, o, none⟩ = false := by
  refine ⟨cell_of h 0, cell_of h 1, cell_of h 2, cell_of h 3, cell_of h 4, fun o => ?_⟩
  simp [World.frozen?, h]

theorem heap_set {w : World} {b : Nat} {cs : Array Value} {t : TypeId} {fz : Nat × Nat} (h : w.heap[b]? = some (.cells cs t fz)) (o : Nat) (v : Value) : (w.setCell ⟨b, o, none⟩ v).heap[b]? = some (.cells (cs.setIfInBounds o v) t fz) := by
  simp [World.setCell, Array.getElem?_modify, h]

theorem Room.set {w : World} {b off n : Nat} (h : Room w b off n) (a : Addr) (v : Value) : Room (w.setCell a v) b off n := fun i hi => by
  obtain ⟨u, hu⟩ := Option.isSome_iff_exists.1 (h i hi)
  obtain ⟨u', hu'⟩ := cell?_setCell_some (p := a) (x := v) hu
  rw [hu']; rfl

theorem Room.below {w w' : World} {b off n : Nat} (h : Room w b off n) (hb : Below w.heap.size w w') : Room w' b off n := fun i hi => by
  rw [hb.cell (by exact h.lt (by omega))]; exact h i hi

theorem room_of {w : World} {b n : Nat} {cs : Array Value} {t : TypeId} {fz : Nat × Nat} (h : w.heap[b]? = some (.cells cs t fz)) (hn : n ≤ cs.size) : Room w b 0 n := fun i hi => by
  rw [Nat.zero_add, cell_of h, Array.getElem?_eq_getElem (by omega)]; rfl

/-- The function's own copy of one node: the block behind w; w itself is as it was. -/
structure Box (w wr : World) (a b c d e : Value) : Prop where
  below : Below w.heap.size w wr
  lt : w.heap.size < wr.heap.size
  c0 : wr.cell? ⟨w.heap.size, 0, none⟩ = some a
  c1 : wr.cell? ⟨w.heap.size, 1, none⟩ = some b
  c2 : wr.cell? ⟨w.heap.size, 2, none⟩ = some c
  c3 : wr.cell? ⟨w.heap.size, 3, none⟩ = some d
  c4 : wr.cell? ⟨w.heap.size, 4, none⟩ = some e

theorem Box.start (w : World) (a b c d e : Value) (t : TypeId) : Box w (w.alloc (.cells #[a, b, c, d, e] t)) a b c d e where
  below := (Below.refl _ w).alloc (Nat.le_refl _) _
  lt := by simp
  c0 := (cell_of (heap_last w _) 0).trans rfl
  c1 := (cell_of (heap_last w _) 1).trans rfl
  c2 := (cell_of (heap_last w _) 2).trans rfl
  c3 := (cell_of (heap_last w _) 3).trans rfl
  c4 := (cell_of (heap_last w _) 4).trans rfl

theorem Box.next {w wr w1 : World} {a b c d e : Value} (h : Box w wr a b c d e) (hb : Below wr.heap.size wr w1) : Box w w1 a b c d e where
  below := h.below.trans (hb.mono h.below.size)
  lt := Nat.lt_of_lt_of_le h.lt hb.size
  c0 := by rw [hb.cell (by exact h.lt)]; exact h.c0
  c1 := by rw [hb.cell (by exact h.lt)]; exact h.c1
  c2 := by rw [hb.cell (by exact h.lt)]; exact h.c2
  c3 := by rw [hb.cell (by exact h.lt)]; exact h.c3
  c4 := by rw [hb.cell (by exact h.lt)]; exact h.c4

/-- Two nodes that a function was handed. -/
structure Box2 (w wr : World) (a b c d e a' b' c' d' e' : Value) : Prop where
  below : Below w.heap.size w wr
  lt : w.heap.size + 1 < wr.heap.size
  c0 : wr.cell? ⟨w.heap.size, 0, none⟩ = some a
  c1 : wr.cell? ⟨w.heap.size, 1, none⟩ = some b
  c2 : wr.cell? ⟨w.heap.size, 2, none⟩ = some c
  c3 : wr.cell? ⟨w.heap.size, 3, none⟩ = some d
  c4 : wr.cell? ⟨w.heap.size, 4, none⟩ = some e
  g0 : wr.cell? ⟨w.heap.size + 1, 0, none⟩ = some a'
  g1 : wr.cell? ⟨w.heap.size + 1, 1, none⟩ = some b'
  g2 : wr.cell? ⟨w.heap.size + 1, 2, none⟩ = some c'
  g3 : wr.cell? ⟨w.heap.size + 1, 3, none⟩ = some d'
  g4 : wr.cell? ⟨w.heap.size + 1, 4, none⟩ = some e'

theorem Box2.start (w : World) (a b c d e a' b' c' d' e' : Value) (t t' : TypeId) : Box2 w ((w.alloc (.cells #[a, b, c, d, e] t)).alloc (.cells #[a', b', c', d', e'] t')) a b c d e a' b' c' d' e' where
  below := ((Below.refl _ w).alloc (Nat.le_refl _) _).alloc (by simp) _
  lt := by simp
  c0 := (cell_of ((Below.heap_alloc _ _ _ (by simp)).trans (heap_last w _)) 0).trans rfl
  c1 := (cell_of ((Below.heap_alloc _ _ _ (by simp)).trans (heap_last w _)) 1).trans rfl
  c2 := (cell_of ((Below.heap_alloc _ _ _ (by simp)).trans (heap_last w _)) 2).trans rfl
  c3 := (cell_of ((Below.heap_alloc _ _ _ (by simp)).trans (heap_last w _)) 3).trans rfl
  c4 := (cell_of ((Below.heap_alloc _ _ _ (by simp)).trans (heap_last w _)) 4).trans rfl
  g0 := (cell_of (by have := heap_last (w.alloc (.cells #[a, b, c, d, e] t)) (.cells #[a', b', c', d', e'] t'); simpa using this) 0).trans rfl
  g1 := (cell_of (by have := heap_last (w.alloc (.cells #[a, b, c, d, e] t)) (.cells #[a', b', c', d', e'] t'); simpa using this) 1).trans rfl
  g2 := (cell_of (by have := heap_last (w.alloc (.cells #[a, b, c, d, e] t)) (.cells #[a', b', c', d', e'] t'); simpa using this) 2).trans rfl
  g3 := (cell_of (by have := heap_last (w.alloc (.cells #[a, b, c, d, e] t)) (.cells #[a', b', c', d', e'] t'); simpa using this) 3).trans rfl
  g4 := (cell_of (by have := heap_last (w.alloc (.cells #[a, b, c, d, e] t)) (.cells #[a', b', c', d', e'] t'); simpa using this) 4).trans rfl

theorem Box2.next {w wr w1 : World} {a b c d e a' b' c' d' e' : Value} (h : Box2 w wr a b c d e a' b' c' d' e') (hb : Below wr.heap.size wr w1) : Box2 w w1 a b c d e a' b' c' d' e' where
  below := h.below.trans (hb.mono h.below.size)
  lt := Nat.lt_of_lt_of_le h.lt hb.size
  c0 := by rw [hb.cell (by exact Nat.lt_of_succ_lt h.lt)]; exact h.c0
  c1 := by rw [hb.cell (by exact Nat.lt_of_succ_lt h.lt)]; exact h.c1
  c2 := by rw [hb.cell (by exact Nat.lt_of_succ_lt h.lt)]; exact h.c2
  c3 := by rw [hb.cell (by exact Nat.lt_of_succ_lt h.lt)]; exact h.c3
  c4 := by rw [hb.cell (by exact Nat.lt_of_succ_lt h.lt)]; exact h.c4
  g0 := by rw [hb.cell (by exact h.lt)]; exact h.g0
  g1 := by rw [hb.cell (by exact h.lt)]; exact h.g1
  g2 := by rw [hb.cell (by exact h.lt)]; exact h.g2
  g3 := by rw [hb.cell (by exact h.lt)]; exact h.g3
  g4 := by rw [hb.cell (by exact h.lt)]; exact h.g4

end Go.Proofs.YtmcjghhmcmkomaaGreatDoor
