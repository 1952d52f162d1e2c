/-
  What is proved: for every text the program's TextOf answers as the model's TextOf does, in memory of its own; no condition.; for every int the program's IntOf answers as the model's IntOf does, in memory of its own; no condition.; plain facts on decimal numerals and on lists of bytes; no program, no condition beyond each theorem's own.; plain facts on reading decimal numerals back: a number within a trillion of nought is what its own numeral is read as, and no other text is read so; no program.; plain facts on texts that are digits with an end behind them: the runes behind the digits are an end's signs just where the bytes are; no program, no condition beyond each theorem's own.; the model's Digits hands back the decimal numeral of any int; it makes memory and turns none that was there.; the program's Digits at every int, and what a row's list of package-level variables says of the table of powers of ten and of three errors; condition: those variables start as the program's text lays them.
-/
import Derived.Test.YtfmkhogpnnobeaaGreatDoorPartAC
import Derived.Lib.ItoaNum
import Derived.Lib.ItoaLen
import Derived.Lib.AtoiTie
import Derived.Lib.AtoiAllCases
import Derived.Laws.RangeAny
import Derived.Test.YtfmkhogpnnobeaaGreatDoorRows
import Derived.WalkKit
import Derived.WalkLawsBesides
import Derived.ProofKit
import Derived.Laws.IdiomStrings
import Derived.Outline
import Derived.Test.YtfmkhogpnnobeaaGreatDoorShelf
import Derived.OpenShut
import Derived.LaidMore
import Derived.Stop.Joined
import Derived.Stop.LaidErr
import Derived.Lib.LaidTab
import Derived.Lib.AppendIntMem
import Derived.WalkSmall
import Derived.MakeChecks
/- for every text the program's TextOf answers as the model's TextOf does, in memory of its own; no condition. -/
namespace Go.Proofs.YtfmkhogpnnobeaaGreatDoor
open Go Go.RowKit

set_option maxHeartbeats 400000 in
theorem node_text (s : ByteArray) (w : World) : Calls Tryz.prog 111 #[.string s] w fun e w' => e = .returned (.agg #[.int .i64 3, .int .i64 0, .string s, .slice none 0 0, .slice none 0 0]) ∧ Below w.heap.size w w' := by
  go_enter Tryz.func111, Tryz.ntmps111
  go_wp2
  exact bodyPost_ret (ret_node Tryz.results111 rfl (heap_last w _)) rfl ⟨rfl, (Below.refl _ w).alloc (Nat.le_refl _) _⟩

set_option maxHeartbeats 400000 in
theorem spec_textOf (s : ByteArray) (w : World) : Calls Tryz.prog 45 #[.string s] w fun e w' => e = .returned (.agg #[.int .i64 3, .int .i64 0, .string s, .slice none 0 0, .slice none 0 0]) ∧ Below w.heap.size w w' := by
  go_enter Tryz.func45, Tryz.ntmps45
  go_wp2
  exact bodyPost_ret (ret_node Tryz.results45 rfl (heap_last w _)) rfl ⟨rfl, (Below.refl _ w).alloc (Nat.le_refl _) _⟩

set_option maxHeartbeats 400000 in
theorem impl_textOf (s : ByteArray) (w : World) : Calls Tryz.prog 74 #[.string s] w fun e w' => e = .returned (.agg #[.int .i64 3, .int .i64 0, .string s, .slice none 0 0, .slice none 0 0]) ∧ Below w.heap.size w w' := by
  go_enter Tryz.func74, Tryz.ntmps74
  go_wp2_with (first
    | (go_at_call 111; refine (node_text _ _).mono ?_; rintro e w1 ⟨rfl, hb1⟩; obtain ⟨hh, hB⟩ := hand_on hb1; obtain ⟨g0, g1, g2, g3, g4, g5⟩ := five hh; have HH := Lib.hid (And.intro hh hB); clear hh hB hb1)
    | go_in)
  exact bodyPost_ret (ret_node Tryz.results74 rfl (set5_end HH.out.1 _ _ _ _ _)) rfl ⟨rfl, set5_below HH.out.2 (Nat.le_refl _) 0 _ _ _ _ _⟩


end Go.Proofs.YtfmkhogpnnobeaaGreatDoor

/- for every int the program's IntOf answers as the model's IntOf does, in memory of its own; no condition. -/
namespace Go.Proofs.YtfmkhogpnnobeaaGreatDoor
open Go Go.RowKit

set_option maxHeartbeats 400000 in
theorem node_int (x : Int) (w : World) : Calls Tryz.prog 122 #[.int .i64 x] w fun e w' => e = .returned (.agg #[.int .i64 2, .int .i64 x, .string ⟨#[]⟩, .slice none 0 0, .slice none 0 0]) ∧ Below w.heap.size w w' := by
  go_enter Tryz.func122, Tryz.ntmps122
  go_wp2
  exact bodyPost_ret (ret_node Tryz.results122 rfl (heap_last w _)) rfl ⟨rfl, (Below.refl _ w).alloc (Nat.le_refl _) _⟩

set_option maxHeartbeats 400000 in
theorem spec_intOf (x : Int) (w : World) : Calls Tryz.prog 43 #[.int .i64 x] w fun e w' => e = .returned (.agg #[.int .i64 2, .int .i64 x, .string ⟨#[]⟩, .slice none 0 0, .slice none 0 0]) ∧ Below w.heap.size w w' := by
  go_enter Tryz.func43, Tryz.ntmps43
  go_wp2
  exact bodyPost_ret (ret_node Tryz.results43 rfl (heap_last w _)) rfl ⟨rfl, (Below.refl _ w).alloc (Nat.le_refl _) _⟩

set_option maxHeartbeats 400000 in
theorem impl_intOf (x : Int) (w : World) : Calls Tryz.prog 85 #[.int .i64 x] w fun e w' => e = .returned (.agg #[.int .i64 2, .int .i64 x, .string ⟨#[]⟩, .slice none 0 0, .slice none 0 0]) ∧ Below w.heap.size w w' := by
  go_enter Tryz.func85, Tryz.ntmps85
  go_wp2_with (first
    | (go_at_call 122; refine (node_int _ _).mono ?_; rintro e w1 ⟨rfl, hb1⟩; obtain ⟨hh, hB⟩ := hand_on hb1; obtain ⟨g0, g1, g2, g3, g4, g5⟩ := five hh; have HH := Lib.hid (And.intro hh hB); clear hh hB hb1)
    | go_in)
  exact bodyPost_ret (ret_node Tryz.results85 rfl (set5_end HH.out.1 _ _ _ _ _)) rfl ⟨rfl, set5_below HH.out.2 (Nat.le_refl _) 0 _ _ _ _ _⟩


end Go.Proofs.YtfmkhogpnnobeaaGreatDoor

/- plain facts on decimal numerals and on lists of bytes; no program, no condition beyond each theorem's own. -/
namespace Go.Proofs.YtfmkhogpnnobeaaGreatDoor.Num
open Go

/-- What is still to be written ahead of 'out'. -/
def rest (u : Nat) (out : List UInt8) : List UInt8 := if u = 0 then out else Lib.decDigits u ++ out

theorem rest_zero (out : List UInt8) : rest 0 out = out := rfl
theorem rest_pos {u : Nat} (h : u ≠ 0) (out : List UInt8) : rest u out = Lib.decDigits u ++ out := if_neg h

theorem rest_step {u : Nat} (h : u ≠ 0) (out : List UInt8) : rest (u / 10) (UInt8.ofNat (48 + u % 10) :: out) = rest u out := by
  rw [rest_pos h]
  by_cases hs : u < 10
  · rw [Lib.decDigits, dif_pos hs, Nat.div_eq_of_lt hs, rest_zero, Nat.mod_eq_of_lt hs]; rfl
  · rw [rest_pos (by omega), Lib.decDigits.eq_def u, dif_neg hs]; simp

theorem rest_length (u : Nat) (out : List UInt8) : out.length ≤ (rest u out).length := by
  unfold rest; split <;> simp

theorem itoa_pos {n : Int} (h : 0 < n) : Lib.itoa n = rest n.natAbs [] := by
  rw [rest_pos (by omega)]; unfold Lib.itoa; rw [if_neg (by omega)]
  have : n.toNat = n.natAbs := by omega
  rw [this]; simp
theorem itoa_neg {n : Int} (h : n < 0) : Lib.itoa n = 45 :: rest n.natAbs [] := by
  rw [rest_pos (by omega)]; unfold Lib.itoa; rw [if_pos h]; simp
theorem itoa_zero : Lib.itoa 0 = [48] := by
  show Lib.decDigits 0 = [48]
  rw [Lib.decDigits, dif_pos (by decide)]; rfl
theorem itoa_length (n : Int) (h0 : -9223372036854775808 ≤ n) (h1 : n ≤ 9223372036854775807) : (Lib.itoa n).length ≤ 21 := Lib.itoa_length_le n h0 h1

end Go.Proofs.YtfmkhogpnnobeaaGreatDoor.Num

/- plain facts on reading decimal numerals back: a number within a trillion of nought is what its own numeral is read as, and no other text is read so; no program. -/
namespace Go.Proofs.YtfmkhogpnnobeaaGreatDoor.Num
open Go

theorem digitVal_of {d : Nat} (h : d < 10) : Lib.digitVal (UInt8.ofNat (48 + d)) = some d := by
  have e : (UInt8.ofNat (48 + d)).toNat = 48 + d := by rw [UInt8.toNat_ofNat']; omega
  unfold Lib.digitVal
  rw [e, if_pos (by omega)]
  congr 1
  omega

theorem decFrom_snoc : ∀ (l : List UInt8) (acc n : Nat) (b : UInt8) (d : Nat), Lib.decFrom acc l = some n → Lib.digitVal b = some d → Lib.decFrom acc (l ++ [b]) = some (n * 10 + d)
  | [], acc, n, b, d, h, hd => by
    simp only [Lib.decFrom, Option.some.injEq] at h
    subst h
    simp [Lib.decFrom, hd]
  | a :: l, acc, n, b, d, h, hd => by
    simp only [Lib.decFrom, List.cons_append] at h ⊢
    cases ha : Lib.digitVal a with
    | none => rw [ha] at h; cases h
    | some x => rw [ha] at h; exact decFrom_snoc l _ n b d h hd

theorem decFrom_decDigits (u : Nat) : Lib.decFrom 0 (Lib.decDigits u) = some u := by
  induction u using Nat.strongRecOn with
  | _ u ih =>
    by_cases h : u < 10
    · rw [Lib.decDigits, dif_pos h]
      simp only [Lib.decFrom]
      rw [digitVal_of h]
      simp
    · rw [Lib.decDigits, dif_neg h, decFrom_snoc _ _ _ _ _ (ih (u / 10) (by omega)) (digitVal_of (Nat.mod_lt _ (by decide)))]
      congr 1
      omega

theorem decDigits_ne (u : Nat) : Lib.decDigits u ≠ [] := by
  intro h
  have := Lib.decDigits_length u
  rw [h] at this
  have h2 := Lib.nDigits_pos u
  simp at this
  omega

theorem decFrom_digit : ∀ (l : List UInt8) (acc n : Nat), Lib.decFrom acc l = some n → ∀ b ∈ l, 48 ≤ b.toNat ∧ b.toNat ≤ 57
  | [], _, _, _, b, hb => by cases hb
  | a :: l, acc, n, h, b, hb => by
    simp only [Lib.decFrom] at h
    cases ha : Lib.digitVal a with
    | none => rw [ha] at h; cases h
    | some x =>
      rw [ha] at h
      rcases List.mem_cons.1 hb with rfl | hb
      · unfold Lib.digitVal at ha
        split at ha
        · assumption
        · cases ha
      · exact decFrom_digit l _ n h b hb

theorem decDigits_digit (u : Nat) : ∀ b ∈ Lib.decDigits u, 48 ≤ b.toNat ∧ b.toNat ≤ 57 := decFrom_digit _ 0 u (decFrom_decDigits u)

theorem decNat_decDigits (u : Nat) : Lib.decNat (Lib.decDigits u) = some u := by
  unfold Lib.decNat
  have h := decDigits_ne u
  rw [if_neg (by simpa using h), decFrom_decDigits]

theorem atoi_plain (u : Nat) : Lib.atoi (Lib.decDigits u) = some (u : Int) := by
  cases hd : Lib.decDigits u with
  | nil => exact absurd hd (decDigits_ne u)
  | cons b r =>
    have hb := decDigits_digit u b (by rw [hd]; exact List.mem_cons_self)
    have h45 : (b == 45) = false := by
      rw [beq_eq_false_iff_ne]; rintro rfl; exact absurd hb.1 (by decide)
    have h43 : (b == 43) = false := by
      rw [beq_eq_false_iff_ne]; rintro rfl; exact absurd hb.1 (by decide)
    simp only [Lib.atoi, h45, h43, Bool.false_eq_true, if_false]
    rw [← hd, decNat_decDigits]
    rfl

theorem atoi_itoa (v : Int) : Lib.atoi (Lib.itoa v) = some v := by
  unfold Lib.itoa
  split
  · rename_i h
    simp only [Lib.atoi, beq_self_eq_true, if_true]
    rw [decNat_decDigits]
    simp only [Option.map_some, Option.some.injEq]
    omega
  · rename_i h
    rw [atoi_plain]
    simp only [Option.some.injEq]
    omega

theorem itoa_inj {v u : Int} (h : Lib.itoa v = Lib.itoa u) : v = u := by
  have := atoi_itoa v
  rw [h, atoi_itoa] at this
  exact (Option.some.inj this).symm

theorem nDigits_le {u : Nat} (h : u ≤ 1000000000000) : Lib.nDigits u ≤ 13 := by
  rcases Nat.lt_or_ge 13 (Lib.nDigits u) with h13 | h13
  · exfalso
    have key : ∀ (k u : Nat), u < 10 ^ (k + 1) → Lib.nDigits u ≤ k + 1 := by
      intro k
      induction k with
      | zero => intro u hu; rw [Lib.nDigits_small (by simpa using hu)]; exact Nat.le_refl _
      | succ k ih =>
        intro u hu
        by_cases hs : u < 10
        · rw [Lib.nDigits_small hs]; omega
        · rw [Lib.nDigits_big hs]
          have := ih (u / 10) (by rw [Nat.pow_succ] at hu; omega)
          omega
    have := key 12 u (by omega)
    omega
  · exact h13

theorem itoa_short {v : Int} (h0 : -1000000000000 ≤ v) (h1 : v ≤ 1000000000000) : (Lib.itoa v).length ≤ 18 := by
  unfold Lib.itoa
  split
  · rw [List.length_cons, Lib.decDigits_length]
    have := nDigits_le (u := v.natAbs) (by omega)
    omega
  · rw [Lib.decDigits_length]
    have := nDigits_le (u := v.toNat) (by omega)
    omega

theorem atoiAll_itoa {v : Int} (h0 : -1000000000000 ≤ v) (h1 : v ≤ 1000000000000) : Lib.atoiAll (Lib.itoa v) = .ok v := by
  rw [Lib.atoiAll_short _ (itoa_short h0 h1), atoi_itoa]
  rfl

/-- The number that a text is, if it is one. -/
def numOf (l : List UInt8) : Option Int :=
  match Lib.atoi l with
  | some v => if -1000000000000 ≤ v ∧ v ≤ 1000000000000 ∧ Lib.itoa v = l then some v else none
  | none => none

theorem numOf_itoa {v : Int} (h0 : -1000000000000 ≤ v) (h1 : v ≤ 1000000000000) : numOf (Lib.itoa v) = some v := by
  unfold numOf
  rw [atoi_itoa]
  simp [h0, h1]

theorem numOf_some {l : List UInt8} {v : Int} (h : numOf l = some v) : -1000000000000 ≤ v ∧ v ≤ 1000000000000 ∧ Lib.itoa v = l := by
  unfold numOf at h
  split at h
  · split at h
    · rename_i hc
      obtain rfl := Option.some.inj h
      exact hc
    · cases h
  · cases h

theorem numOf_none {l : List UInt8} (h : ∀ v : Int, -1000000000000 ≤ v → v ≤ 1000000000000 → Lib.itoa v ≠ l) : numOf l = none := by
  cases hn : numOf l with
  | none => rfl
  | some v => exact absurd (numOf_some hn).2.2 (h v (numOf_some hn).1 (numOf_some hn).2.1)

/-! ### Texts without a sign -/

theorem plain_some {l : List UInt8} (hp : l.head? ≠ some 45) {v : Int} (h : numOf l = some v) : ∃ u : Nat, v = u ∧ u ≤ 1000000000000 ∧ l = Lib.decDigits u := by
  obtain ⟨h0, h1, h2⟩ := numOf_some h
  unfold Lib.itoa at h2
  split at h2
  · exact absurd (by rw [← h2]; rfl) hp
  · exact ⟨v.toNat, by omega, by omega, h2.symm⟩

theorem plain_ok {l : List UInt8} {m : Nat} (h : Lib.itoa m = l) (hm : m ≤ 1000000000000) : numOf l = some (m : Int) := by
  rw [← h]; exact numOf_itoa (by omega) (by omega)

theorem plain_out {l : List UInt8} {m : Nat} (h : Lib.itoa m = l) (hm : ¬ m ≤ 1000000000000) : numOf l = none :=
  numOf_none fun v h0 h1 hv => by
    have := itoa_inj (hv.trans h.symm)
    omega

theorem plain_ne {l : List UInt8} (hp : l.head? ≠ some 45) {m : Nat} (hd : Lib.decFrom 0 l = some m) (hne : Lib.itoa m ≠ l) : numOf l = none := by
  cases hn : numOf l with
  | none => rfl
  | some v =>
    obtain ⟨u, rfl, _, hl⟩ := plain_some hp hn
    have e := decFrom_decDigits u
    rw [← hl, hd] at e
    obtain rfl := Option.some.inj e
    exact absurd (numOf_some hn).2.2 hne

theorem plain_bad {l : List UInt8} (hp : l.head? ≠ some 45) {b : UInt8} (hb : b ∈ l) (hd : ¬ (48 ≤ b.toNat ∧ b.toNat ≤ 57)) : numOf l = none := by
  cases hn : numOf l with
  | none => rfl
  | some v =>
    obtain ⟨u, rfl, _, hl⟩ := plain_some hp hn
    exact absurd (decDigits_digit u b (hl ▸ hb)) hd

theorem plain_length {l : List UInt8} (hp : l.head? ≠ some 45) (hl : l.length < 1 ∨ 13 < l.length) : numOf l = none := by
  cases hn : numOf l with
  | none => rfl
  | some v =>
    obtain ⟨u, rfl, hu, rfl⟩ := plain_some hp hn
    rw [Lib.decDigits_length] at hl
    have := Lib.nDigits_pos u
    have := nDigits_le hu
    omega

/-! ### Texts behind a minus -/

theorem minus_some {t : List UInt8} {v : Int} (h : numOf (45 :: t) = some v) : ∃ u : Nat, v = -(u : Int) ∧ u ≤ 1000000000000 ∧ t = Lib.decDigits u := by
  obtain ⟨h0, h1, h2⟩ := numOf_some h
  unfold Lib.itoa at h2
  split at h2
  · exact ⟨v.natAbs, by omega, by omega, (List.cons.inj h2).2.symm⟩
  · have := decDigits_digit v.toNat 45 (by rw [h2]; exact List.mem_cons_self)
    exact absurd this.1 (by decide)

theorem minus_ok {t : List UInt8} {m : Nat} (h : Lib.itoa (-(m : Int)) = 45 :: t) (hm : m ≤ 1000000000000) : numOf (45 :: t) = some (-(m : Int)) := by
  rw [← h]; exact numOf_itoa (by omega) (by omega)

theorem minus_out {t : List UInt8} {m : Nat} (h : Lib.itoa (-(m : Int)) = 45 :: t) (hm : ¬ m ≤ 1000000000000) : numOf (45 :: t) = none :=
  numOf_none fun v h0 h1 hv => by
    have := itoa_inj (hv.trans h.symm)
    omega

theorem minus_ne {t : List UInt8} {m : Nat} (hd : Lib.decFrom 0 t = some m) (hne : Lib.itoa (-(m : Int)) ≠ 45 :: t) : numOf (45 :: t) = none := by
  cases hn : numOf (45 :: t) with
  | none => rfl
  | some v =>
    obtain ⟨u, rfl, _, hl⟩ := minus_some hn
    have e := decFrom_decDigits u
    rw [← hl, hd] at e
    obtain rfl := Option.some.inj e
    exact absurd (numOf_some hn).2.2 hne

theorem minus_bad {t : List UInt8} {b : UInt8} (hb : b ∈ t) (hd : ¬ (48 ≤ b.toNat ∧ b.toNat ≤ 57)) : numOf (45 :: t) = none := by
  cases hn : numOf (45 :: t) with
  | none => rfl
  | some v =>
    obtain ⟨u, rfl, _, hl⟩ := minus_some hn
    exact absurd (decDigits_digit u b (hl ▸ hb)) hd

theorem minus_length {t : List UInt8} (hl : t.length < 1 ∨ 13 < t.length) : numOf (45 :: t) = none := by
  cases hn : numOf (45 :: t) with
  | none => rfl
  | some v =>
    obtain ⟨u, rfl, hu, rfl⟩ := minus_some hn
    rw [Lib.decDigits_length] at hl
    have := Lib.nDigits_pos u
    have := nDigits_le hu
    omega

end Go.Proofs.YtfmkhogpnnobeaaGreatDoor.Num

/- plain facts on texts that are digits with an end behind them: the runes behind the digits are an end's signs just where the bytes are; no program, no condition beyond each theorem's own. -/
namespace Go.Proofs.YtfmkhogpnnobeaaGreatDoor
open Go

/-- The text begins with k digits, and no more. -/
structure HeadAt (s : ByteArray) (k : Nat) : Prop where
  le : k ≤ s.size
  dig : ∀ j (h : j < s.size), j < k → 48 ≤ s[j].toNat ∧ s[j].toNat ≤ 57
  stop : ∀ h : k < s.size, ¬ (48 ≤ s[k].toNat ∧ s[k].toNat ≤ 57)

theorem head_from (s : ByteArray) : ∀ (n j : Nat), s.size - j = n → j ≤ s.size → (∀ i (h : i < s.size), i < j → 48 ≤ s[i].toNat ∧ s[i].toNat ≤ 57) → ∃ k, HeadAt s k
  | 0, j, hn, hj, hd => ⟨j, hj, hd, fun h => absurd h (by omega)⟩
  | n + 1, j, hn, hj, hd => by
    have hlt : j < s.size := by omega
    by_cases hb : 48 ≤ s[j].toNat ∧ s[j].toNat ≤ 57
    · refine head_from s n (j + 1) (by omega) (by omega) fun i h hi => ?_
      by_cases he : i = j
      · subst he; exact hb
      · exact hd i h (by omega)
    · exact ⟨j, hj, hd, fun _ => hb⟩

theorem head_any (s : ByteArray) : ∃ k, HeadAt s k := head_from s _ 0 rfl (Nat.zero_le _) fun _ _ h => absurd h (by omega)

/-- The signs behind the first k bytes, rune by rune: at most two; -1 where there is none. -/
def cutAt (s : ByteArray) (k : Nat) : Option (Int × Int) :=
  if k < s.size then
    if k + (Utf8.decode s k).2 < s.size then
      if k + (Utf8.decode s k).2 + (Utf8.decode s (k + (Utf8.decode s k).2)).2 < s.size then none
      else some ((Utf8.decode s k).1, (Utf8.decode s (k + (Utf8.decode s k).2)).1)
    else some ((Utf8.decode s k).1, -1)
  else some (-1, -1)

theorem cut_end {s : ByteArray} {k : Nat} (h : ¬ k < s.size) : cutAt s k = some (-1, -1) := if_neg h
theorem cut_one {s : ByteArray} {k : Nat} (h : k < s.size) (h1 : ¬ k + (Utf8.decode s k).2 < s.size) : cutAt s k = some (((Utf8.decode s k).1 : Int), (-1 : Int)) := (if_pos h).trans (if_neg h1)
theorem cut_two {s : ByteArray} {k : Nat} (h : k < s.size) (h1 : k + (Utf8.decode s k).2 < s.size) (h2 : ¬ k + (Utf8.decode s k).2 + (Utf8.decode s (k + (Utf8.decode s k).2)).2 < s.size) :
    cutAt s k = some (((Utf8.decode s k).1 : Int), ((Utf8.decode s (k + (Utf8.decode s k).2)).1 : Int)) := (if_pos h).trans ((if_pos h1).trans (if_neg h2))
theorem cut_more {s : ByteArray} {k : Nat} (h : k < s.size) (h1 : k + (Utf8.decode s k).2 < s.size) (h2 : k + (Utf8.decode s k).2 + (Utf8.decode s (k + (Utf8.decode s k).2)).2 < s.size) :
    cutAt s k = none := (if_pos h).trans ((if_pos h1).trans (if_pos h2))

theorem width_pos {s : ByteArray} {k : Nat} (h : k < s.size) : 1 ≤ (Utf8.decode s k).2 := by
  by_cases ha : s[k].toNat < 128
  · rw [decode_ascii s k h ha]; exact Nat.le_refl _
  · exact (decode_high s k h (by omega)).2

theorem drop_cons {s : ByteArray} {k : Nat} (h : k < s.size) : s.data.toList.drop k = s[k] :: s.data.toList.drop (k + 1) := by
  have h0 : k < s.data.toList.length := by simp only [Array.length_toList]; exact h
  exact List.drop_eq_getElem_cons h0
theorem drop_end {s : ByteArray} {k : Nat} (h : ¬ k < s.size) : s.data.toList.drop k = [] :=
  List.drop_of_length_le (by simp only [Array.length_toList]; have : s.size = s.data.size := rfl; omega)
theorem drop_nil {s : ByteArray} {k : Nat} : s.data.toList.drop k = [] ↔ ¬ k < s.size :=
  ⟨fun h hk => by rw [drop_cons hk] at h; exact List.cons_ne_nil _ _ h, drop_end⟩

/-- A rune below 128 stands just where its byte stands. -/
theorem rune_byte {s : ByteArray} {k : Nat} (h : k < s.size) (c : UInt8) (hc : c.toNat < 128) : (Utf8.decode s k).1 = c.toNat ↔ s[k] = c := by
  by_cases ha : s[k].toNat < 128
  · rw [decode_ascii s k h ha]; exact UInt8.toNat_inj
  · have := (decode_high s k h (by omega)).1
    refine ⟨fun e => by omega, fun e => by rw [e] at ha; omega⟩
theorem byte_width {s : ByteArray} {k : Nat} (h : k < s.size) (c : UInt8) (hc : c.toNat < 128) (e : s[k] = c) : (Utf8.decode s k).2 = 1 := by
  rw [decode_ascii s k h (by rw [e]; exact hc)]

/-- An end's signs and its bytes. -/
inductive Fits : Int × Int → List UInt8 → Prop
  | none : Fits (-1, -1) []
  | one (c : UInt8) : c.toNat < 128 → Fits (c.toNat, -1) [c]
  | two (c d : UInt8) : c.toNat < 128 → d.toNat < 128 → Fits (c.toNat, d.toNat) [c, d]

theorem cut_fits {s : ByteArray} {k : Nat} {sg : Int × Int} {e : List UInt8} (hf : Fits sg e) : cutAt s k = some sg ↔ s.data.toList.drop k = e := by
  by_cases hk : k < s.size
  · have hw := width_pos hk
    rw [drop_cons hk]
    by_cases h1 : k + (Utf8.decode s k).2 < s.size
    · have hw1 := width_pos h1
      have hk1 : k + 1 < s.size := by omega
      rw [drop_cons hk1]
      by_cases h2 : k + (Utf8.decode s k).2 + (Utf8.decode s (k + (Utf8.decode s k).2)).2 < s.size
      · rw [cut_more hk h1 h2, drop_cons (show k + 1 + 1 < s.size by omega)]
        cases hf <;> simp
      · rw [cut_two hk h1 h2]
        cases hf with
        | none => simp
        | one c hc => simp
        | two c d hc hd =>
          constructor
          · intro e
            simp only [Option.some.injEq, Prod.mk.injEq] at e
            have e1 := (rune_byte hk c hc).1 (by omega)
            have hw0 := byte_width hk c hc e1
            have e2 := (rune_byte h1 d hd).1 (by omega)
            have hw2 := byte_width h1 d hd e2
            simp only [hw0] at e2 h2 hw2
            rw [e1, e2, drop_end (by omega)]
          · intro e
            simp only [List.cons.injEq] at e
            obtain ⟨e1, e2, e3⟩ := e
            have hw0 := byte_width hk c hc e1
            have r1 := (rune_byte hk c hc).2 e1
            have r2 := (rune_byte hk1 d hd).2 e2
            rw [r1, hw0, r2]
    · rw [cut_one hk h1]
      cases hf with
      | none => simp
      | one c hc =>
        constructor
        · intro e
          simp only [Option.some.injEq, Prod.mk.injEq] at e
          have e1 := (rune_byte hk c hc).1 (by omega)
          have hw0 := byte_width hk c hc e1
          rw [e1, drop_end (by omega)]
        · intro e
          simp only [List.cons.injEq] at e
          rw [(rune_byte hk c hc).2 e.1]
      | two c d hc hd =>
        constructor
        · intro e
          simp only [Option.some.injEq, Prod.mk.injEq] at e
          omega
        · intro e
          simp only [List.cons.injEq] at e
          have hw0 := byte_width hk c hc e.1
          rw [drop_end (by omega)] at e
          cases e.2
  · rw [cut_end hk, drop_end hk]
    cases hf with
    | none => simp
    | one c hc => simp
    | two c d hc hd => simp

/-- The first end that stands there and is not too much, by its bytes. -/
def pickT (n most : Int) (rest : List UInt8) : List (List UInt8 × Int) → Option Int
  | [] => none
  | (e, t) :: l => if rest = e ∧ n ≤ most / t then some (n * t) else pickT n most rest l

/-- The same, by its signs. -/
def pickS (n most : Int) (sg : Int × Int) : List ((Int × Int) × Int) → Option Int
  | [] => none
  | (e, t) :: l => if e = sg ∧ n * t ≤ most then some (n * t) else pickS n most sg l

theorem pick_none {s : ByteArray} {k : Nat} (n most : Int) (hc : cutAt s k = none) : ∀ L : List ((Int × Int) × List UInt8 × Int), (∀ x ∈ L, Fits x.1 x.2.1 ∧ 0 < x.2.2) →
    pickT n most (s.data.toList.drop k) (L.map fun x => (x.2.1, x.2.2)) = none
  | [], _ => rfl
  | x :: L, h => by
    have hx := (cut_fits (s := s) (k := k) (h x (by simp)).1).2
    show (if _ then _ else _) = _
    rw [if_neg (fun e => by rw [hc] at hx; cases hx e.1)]
    exact pick_none n most hc L fun y hy => h y (by simp [hy])

theorem pick_some {s : ByteArray} {k : Nat} (n most : Int) {sg : Int × Int} (hc : cutAt s k = some sg) : ∀ L : List ((Int × Int) × List UInt8 × Int), (∀ x ∈ L, Fits x.1 x.2.1 ∧ 0 < x.2.2) →
    pickT n most (s.data.toList.drop k) (L.map fun x => (x.2.1, x.2.2)) = pickS n most sg (L.map fun x => (x.1, x.2.2))
  | [], _ => rfl
  | x :: L, h => by
    obtain ⟨hf, ht⟩ := h x (by simp)
    have hx := cut_fits (s := s) (k := k) hf
    rw [hc, Option.some.injEq] at hx
    have hm : n ≤ most / x.2.2 ↔ n * x.2.2 ≤ most := Int.le_ediv_iff_mul_le ht
    show (if _ then _ else _) = (if _ then _ else _)
    simp only [← hx, hm, eq_comm (a := sg)]
    rw [pick_some n most hc L fun y hy => h y (by simp [hy])]

/-- What is read: digits, and an end behind them. -/
def measT (s : ByteArray) (k : Nat) (most : Int) (L : List (List UInt8 × Int)) : Option Int := (Num.numOf (s.data.toList.take k)).bind fun n => pickT n most (s.data.toList.drop k) L
def measS (s : ByteArray) (k : Nat) (most : Int) (L : List ((Int × Int) × Int)) : Option Int := (cutAt s k).bind fun sg => (Num.numOf (s.data.toList.take k)).bind fun n => pickS n most sg L

theorem meas_same (s : ByteArray) (k : Nat) (most : Int) (L : List ((Int × Int) × List UInt8 × Int)) (h : ∀ x ∈ L, Fits x.1 x.2.1 ∧ 0 < x.2.2) :
    measS s k most (L.map fun x => (x.1, x.2.2)) = measT s k most (L.map fun x => (x.2.1, x.2.2)) := by
  unfold measS measT
  cases hc : cutAt s k with
  | none =>
    cases Num.numOf (s.data.toList.take k) with
    | none => rfl
    | some n => exact (pick_none n most hc L h).symm
  | some sg =>
    cases Num.numOf (s.data.toList.take k) with
    | none => rfl
    | some n => exact (pick_some n most hc L h).symm

def amtL : List ((Int × Int) × List UInt8 × Int) := [((-1, -1), [], 1000), ((109, -1), [109], 1), ((107, -1), [107], 1000000), ((75, 105), [75, 105], 1024000)]
def spanL : List ((Int × Int) × List UInt8 × Int) := [((104, -1), [104], 3600), ((109, -1), [109], 60), ((115, -1), [115], 1)]

theorem amt_fits : ∀ x ∈ amtL, Fits x.1 x.2.1 ∧ 0 < x.2.2 := by
  intro x hx
  simp only [amtL, List.mem_cons, List.not_mem_nil, or_false] at hx
  rcases hx with rfl | rfl | rfl | rfl
  · exact ⟨.none, by decide⟩
  · exact ⟨.one 109 (by decide), by decide⟩
  · exact ⟨.one 107 (by decide), by decide⟩
  · exact ⟨.two 75 105 (by decide) (by decide), by decide⟩
theorem span_fits : ∀ x ∈ spanL, Fits x.1 x.2.1 ∧ 0 < x.2.2 := by
  intro x hx
  simp only [spanL, List.mem_cons, List.not_mem_nil, or_false] at hx
  rcases hx with rfl | rfl | rfl
  · exact ⟨.one 104 (by decide), by decide⟩
  · exact ⟨.one 109 (by decide), by decide⟩
  · exact ⟨.one 115 (by decide), by decide⟩

def amtT : List (List UInt8 × Int) := [([], 1000), ([109], 1), ([107], 1000000), ([75, 105], 1024000)]
def amtS : List ((Int × Int) × Int) := [((-1, -1), 1000), ((109, -1), 1), ((107, -1), 1000000), ((75, 105), 1024000)]
def spanT : List (List UInt8 × Int) := [([104], 3600), ([109], 60), ([115], 1)]
def spanS : List ((Int × Int) × Int) := [((104, -1), 3600), ((109, -1), 60), ((115, -1), 1)]

theorem amt_same (s : ByteArray) (k : Nat) : measS s k 1000000000000 amtS = measT s k 1000000000000 amtT := meas_same s k _ amtL amt_fits
theorem span_same (s : ByteArray) (k : Nat) : measS s k 1000000 spanS = measT s k 1000000 spanT := meas_same s k _ spanL span_fits

/-! ### What is told is read as it was -/

def amtText (n : Int) : List UInt8 :=
  if n < 0 ∨ 1000000000000 < n then [] else if n ≠ 0 ∧ n % 1000000 = 0 then Lib.itoa (n / 1000000) ++ [107] else if n % 1000 = 0 then Lib.itoa (n / 1000) else Lib.itoa n ++ [109]
def spanText (n : Int) : List UInt8 :=
  if n < 0 ∨ 1000000 < n then [] else if n ≠ 0 ∧ n % 3600 = 0 then Lib.itoa (n / 3600) ++ [104] else if n ≠ 0 ∧ n % 60 = 0 then Lib.itoa (n / 60) ++ [109] else Lib.itoa n ++ [115]

theorem itoa_digit {m : Int} (h : 0 ≤ m) : ∀ b ∈ Lib.itoa m, 48 ≤ b.toNat ∧ b.toNat ≤ 57 := by
  unfold Lib.itoa
  rw [if_neg (by omega)]
  exact Num.decDigits_digit _

/-- Digits and an end: where the digits stop. -/
theorem told {s : ByteArray} {k : Nat} (hk : HeadAt s k) {m : Int} (h : 0 ≤ m) {e : List UInt8} (he : ∀ b, e.head? = some b → ¬ (48 ≤ b.toNat ∧ b.toNat ≤ 57)) (hs : s.data.toList = Lib.itoa m ++ e) :
    s.data.toList.take k = Lib.itoa m ∧ s.data.toList.drop k = e := by
  have hsz : s.size = (Lib.itoa m).length + e.length := by
    have := congrArg List.length hs
    simp only [Array.length_toList, List.length_append] at this
    exact this
  have hat : ∀ (j : Nat) (hj : j < s.size), some s[j] = (Lib.itoa m ++ e)[j]? := fun j hj => by
    rw [← hs]
    have h0 : j < s.data.toList.length := by simp only [Array.length_toList]; exact hj
    exact (List.getElem?_eq_getElem h0).symm
  have e1 : k = (Lib.itoa m).length := by
    rcases Nat.lt_trichotomy k (Lib.itoa m).length with hl | hl | hl
    · have hlt : k < s.size := by omega
      have := hat k hlt
      rw [List.getElem?_append_left hl, List.getElem?_eq_getElem hl, Option.some.injEq] at this
      exact absurd (itoa_digit h _ (List.getElem_mem hl)) (by rw [← this]; exact hk.stop hlt)
    · exact hl
    · have hlt : (Lib.itoa m).length < s.size := Nat.lt_of_lt_of_le hl hk.le
      have h2 := hat _ hlt
      rw [List.getElem?_append_right (Nat.le_refl _), Nat.sub_self, ← List.head?_eq_getElem?] at h2
      exact absurd (hk.dig _ hlt hl) (he _ h2.symm)
  subst e1
  rw [hs]
  exact ⟨List.take_left' rfl, List.drop_left' rfl⟩

theorem told_meas {s : ByteArray} {k : Nat} (hk : HeadAt s k) {m : Int} (h : 0 ≤ m) (h1 : m ≤ 1000000000000) {e : List UInt8} (he : ∀ b, e.head? = some b → ¬ (48 ≤ b.toNat ∧ b.toNat ≤ 57)) (hs : s.data.toList = Lib.itoa m ++ e) (most : Int) (L : List (List UInt8 × Int)) :
    measT s k most L = pickT m most e L := by
  obtain ⟨e1, e2⟩ := told hk h he hs
  unfold measT
  rw [e1, e2, Num.numOf_itoa (by omega) h1]; rfl

theorem amt_back {s : ByteArray} {k : Nat} (hk : HeadAt s k) {n : Int} (h0 : 0 ≤ n) (h1 : n ≤ 1000000000000) (hs : s.data.toList = amtText n) : measT s k 1000000000000 amtT = some n := by
  unfold amtText at hs
  rw [if_neg (by omega)] at hs
  by_cases h2 : n ≠ 0 ∧ n % 1000000 = 0
  · rw [if_pos h2] at hs
    rw [told_meas hk (by omega) (by omega) (by intro b hb; cases hb; decide) hs]
    simp only [amtT, pickT]
    rw [if_neg (by simp), if_neg (by simp), if_pos (And.intro (by trivial) (by omega))]
    congr 1; omega
  · rw [if_neg h2] at hs
    by_cases h3 : n % 1000 = 0
    · rw [if_pos h3] at hs
      rw [told_meas hk (m := n / 1000) (e := []) (by omega) (by omega) (by intro b hb; cases hb) (by rw [List.append_nil]; exact hs)]
      simp only [amtT, pickT]
      rw [if_pos (And.intro (by trivial) (by omega))]
      congr 1; omega
    · rw [if_neg h3] at hs
      rw [told_meas hk (by omega) (by omega) (by intro b hb; cases hb; decide) hs]
      simp only [amtT, pickT]
      rw [if_neg (by simp), if_pos (And.intro (by trivial) (by omega))]
      congr 1; omega

theorem span_back {s : ByteArray} {k : Nat} (hk : HeadAt s k) {n : Int} (h0 : 0 ≤ n) (h1 : n ≤ 1000000) (hs : s.data.toList = spanText n) : measT s k 1000000 spanT = some n := by
  unfold spanText at hs
  rw [if_neg (by omega)] at hs
  by_cases h2 : n ≠ 0 ∧ n % 3600 = 0
  · rw [if_pos h2] at hs
    rw [told_meas hk (by omega) (by omega) (by intro b hb; cases hb; decide) hs]
    simp only [spanT, pickT]
    rw [if_pos (And.intro (by trivial) (by omega))]
    congr 1; omega
  · rw [if_neg h2] at hs
    by_cases h3 : n ≠ 0 ∧ n % 60 = 0
    · rw [if_pos h3] at hs
      rw [told_meas hk (by omega) (by omega) (by intro b hb; cases hb; decide) hs]
      simp only [spanT, pickT]
      rw [if_neg (by simp), if_pos (And.intro (by trivial) (by omega))]
      congr 1; omega
    · rw [if_neg h3] at hs
      rw [told_meas hk (by omega) (by omega) (by intro b hb; cases hb; decide) hs]
      simp only [spanT, pickT]
      rw [if_neg (by simp), if_neg (by simp), if_pos (And.intro (by trivial) (by omega))]
      congr 1; omega

theorem head_plain {s : ByteArray} {k : Nat} (hk : HeadAt s k) : (s.data.toList.take k).head? ≠ some 45 := by
  intro h
  rcases Nat.eq_zero_or_pos k with h0 | h0
  · subst h0; simp at h
  · have hlt : 0 < s.size := Nat.lt_of_lt_of_le h0 hk.le
    have h2 := hk.dig 0 hlt h0
    have h3 : (s.data.toList.take k).head? = some s[0] := by
      rw [List.head?_take, if_neg (by omega), List.head?_eq_getElem?]
      exact List.getElem?_eq_getElem (by simp only [Array.length_toList]; exact hlt)
    rw [h3, Option.some.injEq] at h
    rw [h] at h2
    revert h2; decide

theorem head_num {s : ByteArray} {k : Nat} (hk : HeadAt s k) {n : Int} (h : Num.numOf (s.data.toList.take k) = some n) : 0 ≤ n ∧ n ≤ 1000000000000 := by
  obtain ⟨u, rfl, hu, _⟩ := Num.plain_some (head_plain hk) h
  omega

theorem pick_bounds {n most : Int} (hn : 0 ≤ n) {rest : List UInt8} : ∀ {L : List (List UInt8 × Int)} {a : Int}, (∀ x ∈ L, 0 < x.2) → pickT n most rest L = some a → 0 ≤ a ∧ a ≤ most
  | [], _, _, h => by cases h
  | (e, t) :: L, a, hL, h => by
    have ht : 0 < t := hL (e, t) (by simp)
    unfold pickT at h
    split at h
    · rename_i hc
      obtain rfl := Option.some.inj h
      exact ⟨Int.mul_nonneg hn (by omega), (Int.le_ediv_iff_mul_le ht).1 hc.2⟩
    · exact pick_bounds hn (fun x hx => hL x (by simp [hx])) h

theorem amt_bounds {s : ByteArray} {k : Nat} (hk : HeadAt s k) {a : Int} (h : measT s k 1000000000000 amtT = some a) : 0 ≤ a ∧ a ≤ 1000000000000 := by
  unfold measT at h
  cases hn : Num.numOf (s.data.toList.take k) with
  | none => rw [hn] at h; cases h
  | some n =>
    rw [hn] at h
    exact pick_bounds (head_num hk hn).1 (by intro x hx; simp only [amtT, List.mem_cons, List.not_mem_nil, or_false] at hx; rcases hx with rfl | rfl | rfl | rfl <;> decide) h

end Go.Proofs.YtfmkhogpnnobeaaGreatDoor

/- the model's Digits hands back the decimal numeral of any int; it makes memory and turns none that was there. -/
namespace Go.Proofs.YtfmkhogpnnobeaaGreatDoor
open Go Go.RowKit

/-- 'string([]byte{x})' in the world in which that row has just been laid. -/
theorem conv_one (w : World) (x : Int) : (convert 123 9 (.slice (some ⟨w.heap.size, 0, none⟩) 1 1)).run Tryz.prog (w.alloc (.cells #[.int .u8 x] 5)) = .ok (.string ⟨#[UInt8.ofNat x.toNat]⟩) (w.alloc (.cells #[.int .u8 x] 5)) := by
  rw [run_convert_bytes_string _ 123 9 5 _ 1 1 Tryz.underlying123 Tryz.underlying5 Tryz.underlying9]
  have hl := run_loadCells_list (P := Tryz.prog) (w.alloc (.cells #[.int .u8 x] 5)) ⟨w.heap.size, 0, none⟩ [Value.int .u8 x] (fun j v hj => by
    have h := World.cell?_alloc_mark w #[.int .u8 x] 5 (0, 0) j
    cases j with
    | zero => simp at hj; subst hj; simp [Addr.add]
    | succ j => simp at hj)
  rw [run_bytesToString _ _ 1 1 [x] hl]
  rfl

theorem ret_str {a b : List UInt8} (h : a = b) : Ending.returned (.string ⟨a.toArray⟩) = .returned (.string ⟨b.toArray⟩) := by rw [h]

theorem step_end {m : Nat} (hm : ¬ m = 0) {out fin : List UInt8} (hr : Num.rest m out = fin) (x : UInt8) (hx : x = UInt8.ofNat (48 + m % 10)) :
    Value.string ({ data := #[x] } ++ { data := out.toArray }) = Value.string { data := (x :: out).toArray } ∧ Num.rest (m / 10) (x :: out) = fin := by
  refine ⟨?_, ?_⟩
  · rw [ByteArray.mk_append_mk]; simp
  · rw [hx, Num.rest_step hm, hr]

theorem neg_end {n : Int} (h : n < 0) {out : List UInt8} (hr : out = Num.rest n.natAbs []) : Ending.returned (Value.string ({ data := #[45] } ++ { data := out.toArray })) = .returned (.string ⟨(Lib.itoa n).toArray⟩) := by
  rw [Num.itoa_neg h, hr, ByteArray.mk_append_mk]; simp

set_option maxHeartbeats 400000 in
theorem spec_digits_pos (n : Int) (h : 0 < n) (hn : n ≤ 9223372036854775807) (w : World) :
    Calls Tryz.prog 119 #[.int .i64 n] w fun e w' => e = .returned (.string ⟨(Lib.itoa n).toArray⟩) ∧ Below w.heap.size w w' := by
  have hz : (n == 0) = false := by simp; omega
  have hl : ¬ n < 0 := by omega
  go_enter Tryz.func119, Tryz.ntmps119
  go_wp2
  go_loopw [0, 4] (fun t o wr => ∃ (m : Nat) (out : List UInt8), t = .int .i64 m ∧ m ≤ n ∧ o = .string ⟨out.toArray⟩ ∧ Num.rest m out = Num.rest n.natAbs [] ∧ Below w.heap.size w wr) (fun t _ _ => (intOf t).toNat)
  case atStart => exact ⟨n.natAbs, [], by congr 1; omega, by omega, rfl, rfl, Below.refl _ _⟩
  case round =>
    obtain ⟨m, out, rfl, hm, rfl, hr, hb⟩ := hrel
    have hol : out.length ≤ 21 := by
      have h1 := Num.rest_length m out
      rw [hr, ← Num.itoa_pos h] at h1
      have h2 := Num.itoa_length n (by omega) hn
      omega
    have HR : Hid (Num.rest m out = Num.rest n.natAbs []) := hr
    clear hr
    by_cases hm0 : m = 0
    · subst hm0
      go_wp2
      go_ret
      have hr := HR.out
      rw [Num.rest_zero, ← Num.itoa_pos h] at hr
      exact ⟨ret_str hr, hb⟩
    · have hne : ((m : Int) == 0) = false := by simp; omega
      have kc := conv_one wr
      go_wp2
      go_roundw
      case rel =>
        have hs := step_end hm0 HR.out (48 + UInt8.ofNat (m % 10)) (by simp)
        exact ⟨m / 10, _, by go_num, by omega, hs.1, hs.2, hb.alloc hb.size _⟩
      case measure => simp [intOf]; omega

set_option maxHeartbeats 400000 in
theorem spec_digits_neg (n : Int) (h : n < 0) (hn : -9223372036854775808 ≤ n) (w : World) :
    Calls Tryz.prog 119 #[.int .i64 n] w fun e w' => e = .returned (.string ⟨(Lib.itoa n).toArray⟩) ∧ Below w.heap.size w w' := by
  have hz : (n == 0) = false := by simp; omega
  go_enter Tryz.func119, Tryz.ntmps119
  go_wp2
  go_loopw [0, 4] (fun t o wr => ∃ (m : Nat) (out : List UInt8), t = .int .i64 (-m) ∧ n ≤ -m ∧ o = .string ⟨out.toArray⟩ ∧ Num.rest m out = Num.rest n.natAbs [] ∧ Below w.heap.size w wr) (fun t _ _ => (intOf t).natAbs)
  case atStart => exact ⟨n.natAbs, [], by congr 1; omega, by omega, rfl, rfl, Below.refl _ _⟩
  case round =>
    obtain ⟨m, out, rfl, hm, rfl, hr, hb⟩ := hrel
    have hol : out.length ≤ 21 := by
      have h1 := Num.rest_length m out
      have h2 := Num.itoa_length n hn (by omega)
      rw [hr] at h1
      rw [Num.itoa_neg h] at h2
      simp at h2
      omega
    have HR : Hid (Num.rest m out = Num.rest n.natAbs []) := hr
    clear hr
    by_cases hm0 : m = 0
    · subst hm0
      go_wp2
      go_ret
      have hr := HR.out
      rw [Num.rest_zero] at hr
      exact ⟨neg_end h hr, hb⟩
    · have hne : ((-(m : Int)) == 0) = false := by simp; omega
      have kc := conv_one wr
      go_wp2
      · go_roundw
        case rel =>
          have hs := step_end hm0 HR.out (48 + UInt8.ofNat (m % 10)) (by simp)
          exact ⟨m / 10, _, by go_num, by omega, hs.1, hs.2, hb.alloc hb.size _⟩
        case measure => simp [intOf]; omega
      · go_roundw
        case rel =>
          have hs := step_end hm0 HR.out (UInt8.ofNat (48 + -((m : Int) % 10)).toNat) (by congr 1; omega)
          exact ⟨m / 10, _, by go_num, by omega, hs.1, hs.2, hb.alloc hb.size _⟩
        case measure => simp [intOf]; omega

theorem spec_digits_zero (w : World) :
    Calls Tryz.prog 119 #[.int .i64 0] w fun e w' => e = .returned (.string ⟨(Lib.itoa 0).toArray⟩) ∧ Below w.heap.size w w' := by
  go_enter Tryz.func119, Tryz.ntmps119
  go_wp2
  go_ret
  exact ⟨ret_str (a := [48]) Num.itoa_zero.symm, Below.refl _ _⟩

/-- The model's Digits, at every int. -/
theorem spec_digits (n : Int) (h0 : -9223372036854775808 ≤ n) (h1 : n ≤ 9223372036854775807) (w : World) :
    Calls Tryz.prog 119 #[.int .i64 n] w fun e w' => e = .returned (.string ⟨(Lib.itoa n).toArray⟩) ∧ Below w.heap.size w w' := by
  rcases Int.lt_trichotomy n 0 with h | h | h
  · exact spec_digits_neg n h h0 w
  · subst h; exact spec_digits_zero w
  · exact spec_digits_pos n h h1 w
end Go.Proofs.YtfmkhogpnnobeaaGreatDoor

/- the program's Digits at every int, and what a row's list of package-level variables says of the table of powers of ten and of three errors; condition: those variables start as the program's text lays them. -/
namespace Go.Proofs.YtfmkhogpnnobeaaGreatDoor
open Go Go.ChangeShapes Go.WideShapes Go.ChangeAt Go.RowKit

theorem own : ownKnob Tryz.prog.godebug = none := by kernel_rfl
theorem gPow : Tryz.prog.globalNamed "internal/strconv.uint64pow10" = some 1 := by kernel_rfl
theorem tPow : (Tryz.prog.globals[1]?).map (·.type) = some 191 := by kernel_rfl
theorem cellsU64 : Tryz.prog.cellsOf 184 = 1 := by kernel_rfl
theorem cellsTab : Tryz.prog.cellsOf 191 = 20 := by kernel_rfl
theorem powData : (Rows.laid_internal_strconv_uint64pow10 : DataW Unit) = Lib.tabData .u64 Lib.pow10Tab := by kernel_rfl

/-- The program's Digits: strconv.Itoa by its contract. -/
theorem impl_digits (n : Int) (h0 : -9223372036854775808 ≤ n) (h1 : n ≤ 9223372036854775807) (w : World) (htab : Lib.TabIs Tryz.prog w "internal/strconv.uint64pow10" .u64 Lib.pow10Tab) :
    Calls Tryz.prog 143 #[.int .i64 n] w fun e w' => e = .returned (.string ⟨(Lib.itoa n).toArray⟩) ∧ Below w.heap.size w w' := by
  go_enter Tryz.func143, Tryz.ntmps143
  go_wp2_with (go_at_call 169; refine (Tryz.strconv_Itoa n h0 h1 _ htab).mono ?_; rintro e w1 ⟨rfl, k, os, rfl⟩)
  go_ret
  exact ⟨rfl, Lib.below_grow _ _ (Nat.le_refl _) _ _⟩

/-- What a row's condition says of the table of powers of ten. -/
theorem pow_of_laid {W : World} {r : List (String × DataW Unit)} (hL : laidMet Tryz.prog (("internal/strconv.uint64pow10", Rows.laid_internal_strconv_uint64pow10) :: r) W) :
    Lib.TabIs Tryz.prog W "internal/strconv.uint64pow10" .u64 Lib.pow10Tab := by
  rw [powData] at hL
  exact Lib.tabIs_of_head gPow tPow Tryz.underlying191 Tryz.underlying184 cellsU64 cellsTab hL

theorem wf64 {n : Int} (h : (Lit.int .i64 n).wf = true) : -9223372036854775808 ≤ n ∧ n ≤ 9223372036854775807 := by
  have e1 : IntKind.i64.min = -9223372036854775808 := rfl
  have e2 : IntKind.i64.max = 9223372036854775807 := rfl
  simp [Lit.wf, e1, e2] at h
  omega

theorem cellsStr : Tryz.prog.cellsOf 9 = 1 := by kernel_rfl
theorem star : "*" ++ "errors.errorString" = "*errors.errorString" := by decide
theorem old_of_cell {W : World} {g : Nat} {v : Value} (hc : W.cell? ⟨g, 0, none⟩ = some v) : g < W.heap.size := by
  rcases Nat.lt_or_ge g W.heap.size with h | h
  · exact h
  · simp [World.cell?, Array.getElem?_eq_none h] at hc

end Go.Proofs.YtfmkhogpnnobeaaGreatDoor
