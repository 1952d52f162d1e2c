/-
  What is proved: the model's Number at a text of at most a million bytes.
-/
import Derived.Test.YtafbcohlbhblfabDoorNumB
import Derived.Test.YtafbcohlbhblfabDoorDigitsW
import Derived.WalkSpells
import Derived.Lib.IndexBytes
import Derived.Lib.Hide
namespace Go.Proofs.YtafbcohlbhblfabDoor
open Go Go.RowKit

theorem take_snoc (s : ByteArray) (k : Nat) (h : k < s.size) : s.data.toList.take (k + 1) = s.data.toList.take k ++ [s[k]] := by
  rw [List.take_succ_eq_append_getElem (by simpa using h)]; rfl

theorem dec_bound {s : ByteArray} {k m : Nat} (hk : k ≤ 13) (h : Lib.decFrom 0 (s.data.toList.take k) = some m) : m < 10000000000000 := by
  have h1 := Lib.decFrom_lt _ _ _ h
  have h2 : (s.data.toList.take k).length ≤ 13 := Nat.le_trans (List.length_take_le _ _) hk
  have h3 : 10 ^ (s.data.toList.take k).length ≤ 10 ^ 13 := Nat.pow_le_pow_right (by decide) h2
  omega

theorem dec_step {s : ByteArray} {k m : Nat} (hlt : k < s.size) (h : Lib.decFrom 0 (s.data.toList.take k) = some m) (d1 : 48 ≤ s[k].toNat) (d2 : s[k].toNat ≤ 57) :
    Lib.decFrom 0 (s.data.toList.take (k + 1)) = some (10 * m + s[k].toNat - 48) := by
  rw [take_snoc s k hlt, Num.decFrom_snoc _ _ _ _ (s[k].toNat - 48) h (by unfold Lib.digitVal; rw [if_pos ⟨d1, d2⟩])]
  congr 1
  omega

theorem mem_at {s : ByteArray} {k : Nat} (hlt : k < s.size) : s[k] ∈ s.data.toList := by
  have : s[k] = s.data.toList[k]'(by simpa using hlt) := rfl
  rw [this]; exact List.getElem_mem _

theorem take_all {s : ByteArray} {k : Nat} (h : ¬ k < s.size) : s.data.toList.take k = s.data.toList :=
  List.take_of_length_le (by simp only [Array.length_toList]; have : s.size = s.data.size := rfl; omega)

set_option maxHeartbeats 400000 in
theorem spec_number_plain (s : ByteArray) (hs : s.size ≤ 13) (h1 : 0 < s.size) (hm : ¬ s[0] = 45) (w : World) (r : Option Int) (hr : Hid (r = Num.numOf s.data.toList)) :
    Calls Tryd.prog 21 #[.string s] w fun e w' => e = .returned (.tuple #[.int .i64 (r.getD 0), .bool r.isSome]) ∧ Below w.heap.size w w' := by
  have hm0 : ((s[0].toNat : Int) == 45) = false := by
    rw [beq_eq_false_iff_ne]; intro h; apply hm; apply UInt8.toNat_inj.1; show s[0].toNat = 45; omega
  have hp : Hid (s.data.toList.head? ≠ some 45) := by
    intro h
    rw [List.head?_eq_getElem?] at h
    obtain ⟨_, h⟩ := List.getElem?_eq_some_iff.1 h
    exact hm h
  go_enter Tryd.func21, Tryd.ntmps21
  go_wp2
  go_loop [5, 6] (fun n i => ∃ k m : Nat, k ≤ s.size ∧ i = .int .i64 k ∧ n = .int .i64 m ∧ Lib.decFrom 0 (s.data.toList.take k) = some m) (fun _ i => s.size - (intOf i).toNat)
  case atStart => exact ⟨0, 0, Nat.zero_le _, rfl, rfl, rfl⟩
  case round =>
    obtain ⟨k, m, hk, rfl, rfl, hd⟩ := hrel
    have hmb : m < 10000000000000 := dec_bound (by omega) hd
    have HD : Hid (Lib.decFrom 0 (s.data.toList.take k) = some m) := hd
    clear hd
    by_cases hlt : k < s.size
    · by_cases hd : 48 ≤ s[k].toNat ∧ s[k].toNat ≤ 57
      · obtain ⟨d1, d2⟩ := hd
        have HS := Lib.hid (dec_step hlt HD.out d1 d2)
        go_wp2
        go_round
        case rel => exact ⟨k + 1, _, by omega, by go_num, by congr 1; omega, HS.out⟩
        case measure => simp [intOf]; omega
      · have HN : Hid (r = none) := hr.out.trans (Num.plain_bad hp.out (mem_at hlt) hd)
        by_cases d1 : 48 ≤ s[k].toNat
        · have d2 : 57 < s[k].toNat := by omega
          go_wp2
          go_ret2
          exact ⟨by rw [HN.out]; rfl, Below.refl _ _⟩
        · go_wp2
          go_ret2
          exact ⟨by rw [HN.out]; rfl, Below.refl _ _⟩
    · have HA : Hid (Lib.decFrom 0 s.data.toList = some m) := by have := HD.out; rw [take_all hlt] at this; exact this
      go_wp2_with (first | (go_at_call 27; refine (spec_digits _ (by omega) (by omega) _).mono ?_; rintro e w1 ⟨rfl, hb1⟩) | go_in)
      all_goals go_ret2
      all_goals refine ⟨?_, hb1⟩
      · rename_i hv hx
        rw [hr.out, Num.plain_out (by rw [← ByteArray.toList_eq]; exact hv) (by simp at hx; omega)]; rfl
      · rename_i hv hx
        rw [hr.out, Num.plain_ok (by rw [← ByteArray.toList_eq]; exact hv) (by simp at hx; omega)]; rfl
      · rw [hr.out, Num.plain_ne hp.out HA.out (by rw [← ByteArray.toList_eq]; assumption)]; rfl

set_option maxHeartbeats 400000 in
theorem spec_number_minus (s : ByteArray) (hs : s.size ≤ 14) (h1 : 1 < s.size) (hm : s[0] = 45) (w : World) (r : Option Int) (hr : Hid (r = Num.numOf s.data.toList)) :
    Calls Tryd.prog 21 #[.string s] w fun e w' => e = .returned (.tuple #[.int .i64 (r.getD 0), .bool r.isSome]) ∧ Below w.heap.size w w' := by
  have hm0 : ((s[0].toNat : Int) == 45) = true := by
    rw [hm]; rfl
  have hsl : Hid (s.data.toList = 45 :: (s.extract 1 s.size).data.toList) := by
    show s.data.toList = _
    rw [Lib.extract_to_end]
    have h0 : 0 < s.data.toList.length := by simp only [Array.length_toList]; exact Nat.lt_trans Nat.zero_lt_one h1
    have := List.drop_eq_getElem_cons h0
    rw [List.drop_zero] at this
    have e : s.data.toList[0] = 45 := hm
    rw [e] at this
    exact this
  have hsz : Hid ((s.extract 1 s.size).size = s.size - 1) := by show _ = _; simp
  clear hm
  go_enter Tryd.func21, Tryd.ntmps21
  go_wp2
  generalize s.extract 1 s.size = t at *
  have ht1 : t.size < s.size := by have := hsz.out; omega
  have ht2 : t.size ≤ 13 := by have := hsz.out; omega
  go_loop [5, 6] (fun n i => ∃ k m : Nat, k ≤ t.size ∧ i = .int .i64 k ∧ n = .int .i64 m ∧ Lib.decFrom 0 (t.data.toList.take k) = some m) (fun _ i => t.size - (intOf i).toNat)
  case atStart => exact ⟨0, 0, Nat.zero_le _, rfl, rfl, rfl⟩
  case round =>
    obtain ⟨k, m, hk, rfl, rfl, hd⟩ := hrel
    have hmb : m < 10000000000000 := dec_bound (by omega) hd
    have HD : Hid (Lib.decFrom 0 (t.data.toList.take k) = some m) := hd
    clear hd
    by_cases hlt : k < t.size
    · by_cases hd : 48 ≤ t[k].toNat ∧ t[k].toNat ≤ 57
      · obtain ⟨d1, d2⟩ := hd
        have HS := Lib.hid (dec_step hlt HD.out d1 d2)
        go_wp2
        go_round
        case rel => exact ⟨k + 1, _, by omega, by go_num, by congr 1; omega, HS.out⟩
        case measure => simp [intOf]; omega
      · have HN : Hid (r = none) := by
          have := hr.out
          rw [hsl.out, Num.minus_bad (mem_at hlt) hd] at this
          exact this
        by_cases d1 : 48 ≤ t[k].toNat
        · have d2 : 57 < t[k].toNat := by omega
          go_wp2
          go_ret2
          exact ⟨by rw [HN.out]; rfl, Below.refl _ _⟩
        · go_wp2
          go_ret2
          exact ⟨by rw [HN.out]; rfl, Below.refl _ _⟩
    · have HA : Hid (Lib.decFrom 0 t.data.toList = some m) := by have := HD.out; rw [take_all hlt] at this; exact this
      go_wp2_with (first | (go_at_call 27; refine (spec_digits _ (by omega) (by omega) _).mono ?_; rintro e w1 ⟨rfl, hb1⟩) | go_in)
      all_goals go_ret2
      all_goals refine ⟨?_, hb1⟩
      all_goals rw [hr.out, hsl.out]
      · rw [Num.minus_ok (by rw [← hsl.out, ← ByteArray.toList_eq]; assumption) (by omega)]; rfl
      · rw [Num.minus_out (by rw [← hsl.out, ← ByteArray.toList_eq]; assumption) (by omega)]; rfl
      · rw [Num.minus_ne HA.out (by rw [← hsl.out, ← ByteArray.toList_eq]; assumption)]; rfl

/-- Texts that are too short or too long for a number. -/
theorem spec_number_far (s : ByteArray) (hs : s.size ≤ 1048576) (h1 : 13 < s.size) (hm : ¬ s[0] = 45) (w : World) (r : Option Int) (hr : Hid (r = Num.numOf s.data.toList)) :
    Calls Tryd.prog 21 #[.string s] w fun e w' => e = .returned (.tuple #[.int .i64 (r.getD 0), .bool r.isSome]) ∧ Below w.heap.size w w' := by
  have hm0 : ((s[0].toNat : Int) == 45) = false := by
    rw [beq_eq_false_iff_ne]; intro h; apply hm; apply UInt8.toNat_inj.1; show s[0].toNat = 45; omega
  have HN : Hid (r = none) := hr.out.trans (Num.plain_length (by
    intro h
    rw [List.head?_eq_getElem?] at h
    obtain ⟨_, h⟩ := List.getElem?_eq_some_iff.1 h
    exact hm h) (Or.inr (by simp only [Array.length_toList]; exact h1)))
  clear hm
  go_enter Tryd.func21, Tryd.ntmps21
  go_wp2
  go_ret2
  exact ⟨by rw [HN.out]; rfl, Below.refl _ _⟩

theorem spec_number_empty (s : ByteArray) (h1 : s.size = 0) (w : World) (r : Option Int) (hr : Hid (r = Num.numOf s.data.toList)) :
    Calls Tryd.prog 21 #[.string s] w fun e w' => e = .returned (.tuple #[.int .i64 (r.getD 0), .bool r.isSome]) ∧ Below w.heap.size w w' := by
  have hl : s.data.toList = [] := by
    have : s.data.toList.length = 0 := by simp only [Array.length_toList]; exact h1
    exact List.eq_nil_of_length_eq_zero this
  have HN : Hid (r = none) := by
    have := hr.out
    rw [hl] at this
    exact this
  clear hl
  go_enter Tryd.func21, Tryd.ntmps21
  go_wp2
  go_ret2
  exact ⟨by rw [HN.out]; rfl, Below.refl _ _⟩

theorem spec_number_minus_far (s : ByteArray) (hs : s.size ≤ 1048576) (h0 : 0 < s.size) (h1 : s.size ≤ 1 ∨ 14 < s.size) (hm : s[0] = 45) (w : World) (r : Option Int) (hr : Hid (r = Num.numOf s.data.toList)) :
    Calls Tryd.prog 21 #[.string s] w fun e w' => e = .returned (.tuple #[.int .i64 (r.getD 0), .bool r.isSome]) ∧ Below w.heap.size w w' := by
  have hm0 : ((s[0].toNat : Int) == 45) = true := by
    rw [hm]; rfl
  have HN : Hid (r = none) := by
    have h2 := hr.out
    have h3 : 0 < s.data.toList.length := by simp only [Array.length_toList]; exact h0
    have h4 := List.drop_eq_getElem_cons h3
    rw [List.drop_zero] at h4
    have e : s.data.toList[0] = 45 := hm
    rw [e] at h4
    have h5 : s.data.toList.length = s.size := by simp only [Array.length_toList]; rfl
    rw [h4, Num.minus_length (by rw [List.length_drop, h5]; omega)] at h2
    exact h2
  clear hm
  rcases h1 with h1 | h1
  · go_enter Tryd.func21, Tryd.ntmps21
    go_wp2
    go_ret2
    exact ⟨by rw [HN.out]; rfl, Below.refl _ _⟩
  · go_enter Tryd.func21, Tryd.ntmps21
    go_wp2
    go_ret2
    exact ⟨by rw [HN.out]; rfl, Below.refl _ _⟩

/-- The model's Number, at every text of at most a million bytes. -/
theorem spec_number (s : ByteArray) (hs : s.size ≤ 1048576) (w : World) (r : Option Int) (hr : Hid (r = Num.numOf s.data.toList)) :
    Calls Tryd.prog 21 #[.string s] w fun e w' => e = .returned (.tuple #[.int .i64 (r.getD 0), .bool r.isSome]) ∧ Below w.heap.size w w' := by
  rcases Nat.eq_zero_or_pos s.size with h0 | h0
  · exact spec_number_empty s h0 w r hr
  · by_cases hm : s[0] = 45
    · by_cases h1 : s.size ≤ 1 ∨ 14 < s.size
      · exact spec_number_minus_far s hs h0 h1 hm w r hr
      · exact spec_number_minus s (by omega) (by omega) hm w r hr
    · by_cases h1 : 13 < s.size
      · exact spec_number_far s hs h1 hm w r hr
      · exact spec_number_plain s (by omega) h0 hm w r hr
end Go.Proofs.YtafbcohlbhblfabDoor
