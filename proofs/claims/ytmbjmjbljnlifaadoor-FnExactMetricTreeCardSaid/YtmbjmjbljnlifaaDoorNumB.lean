/-
  What is proved: plain facts on reading decimal numerals back: a number within a trillion of nought is what its own numeral is read as, and no other text is read so; no program.
-/
import Derived.Test.YtmbjmjbljnlifaaDoorNum
import Derived.Lib.AtoiTie
import Derived.Lib.AtoiAllCases
namespace Go.Proofs.YtmbjmjbljnlifaaDoor.Num
open Go

theorem digitVal_of {d : Nat} (h : d < 10) : Lib.digitVal (UInt8.ofNat (48 + d)) = some d := by
  have e : (UInt8.ofNat (48 + d)).toNat = 48 + d := by rw [UInt8.toNat_ofNat']; omega
  unfold Lib.digitVal
  rw [e, if_pos (by omega)]
  congr 1
  omega

theorem decFrom_snoc : ∀ (l : List UInt8) (acc n : Nat) (b : UInt8) (d : Nat), Lib.decFrom acc l = some n → Lib.digitVal b = some d → Lib.decFrom acc (l ++ [b]) = some (n * 10 + d)
  | [], acc, n, b, d, h, hd => by
    simp only [Lib.decFrom, Option.some.injEq] at h
    subst h
    simp [Lib.decFrom, hd]
  | a :: l, acc, n, b, d, h, hd => by
    simp only [Lib.decFrom, List.cons_append] at h ⊢
    cases ha : Lib.digitVal a with
    | none => rw [ha] at h; cases h
    | some x => rw [ha] at h; exact decFrom_snoc l _ n b d h hd

theorem decFrom_decDigits (u : Nat) : Lib.decFrom 0 (Lib.decDigits u) = some u := by
  induction u using Nat.strongRecOn with
  | _ u ih =>
    by_cases h : u < 10
    · rw [Lib.decDigits, dif_pos h]
      simp only [Lib.decFrom]
      rw [digitVal_of h]
      simp
    · rw [Lib.decDigits, dif_neg h, decFrom_snoc _ _ _ _ _ (ih (u / 10) (by omega)) (digitVal_of (Nat.mod_lt _ (by decide)))]
      congr 1
      omega

theorem decDigits_ne (u : Nat) : Lib.decDigits u ≠ [] := by
  intro h
  have := Lib.decDigits_length u
  rw [h] at this
  have h2 := Lib.nDigits_pos u
  simp at this
  omega

theorem decFrom_digit : ∀ (l : List UInt8) (acc n : Nat), Lib.decFrom acc l = some n → ∀ b ∈ l, 48 ≤ b.toNat ∧ b.toNat ≤ 57
  | [], _, _, _, b, hb => by cases hb
  | a :: l, acc, n, h, b, hb => by
    simp only [Lib.decFrom] at h
    cases ha : Lib.digitVal a with
    | none => rw [ha] at h; cases h
    | some x =>
      rw [ha] at h
      rcases List.mem_cons.1 hb with rfl | hb
      · unfold Lib.digitVal at ha
        split at ha
        · assumption
        · cases ha
      · exact decFrom_digit l _ n h b hb

theorem decDigits_digit (u : Nat) : ∀ b ∈ Lib.decDigits u, 48 ≤ b.toNat ∧ b.toNat ≤ 57 := decFrom_digit _ 0 u (decFrom_decDigits u)

theorem decNat_decDigits (u : Nat) : Lib.decNat (Lib.decDigits u) = some u := by
  unfold Lib.decNat
  have h := decDigits_ne u
  rw [if_neg (by simpa using h), decFrom_decDigits]

theorem atoi_plain (u : Nat) : Lib.atoi (Lib.decDigits u) = some (u : Int) := by
  cases hd : Lib.decDigits u with
  | nil => exact absurd hd (decDigits_ne u)
  | cons b r =>
    have hb := decDigits_digit u b (by rw [hd]; exact List.mem_cons_self)
    have h45 : (b == 45) = false := by
      rw [beq_eq_false_iff_ne]; rintro rfl; exact absurd hb.1 (by decide)
    have h43 : (b == 43) = false := by
      rw [beq_eq_false_iff_ne]; rintro rfl; exact absurd hb.1 (by decide)
    simp only [Lib.atoi, h45, h43, Bool.false_eq_true, if_false]
    rw [← hd, decNat_decDigits]
    rfl

theorem atoi_itoa (v : Int) : Lib.atoi (Lib.itoa v) = some v := by
  unfold Lib.itoa
  split
  · rename_i h
    simp only [Lib.atoi, beq_self_eq_true, if_true]
    rw [decNat_decDigits]
    simp only [Option.map_some, Option.some.injEq]
    omega
  · rename_i h
    rw [atoi_plain]
    simp only [Option.some.injEq]
    omega

theorem itoa_inj {v u : Int} (h : Lib.itoa v = Lib.itoa u) : v = u := by
  have := atoi_itoa v
  rw [h, atoi_itoa] at this
  exact (Option.some.inj this).symm

theorem nDigits_le {u : Nat} (h : u ≤ 1000000000000) : Lib.nDigits u ≤ 13 := by
  rcases Nat.lt_or_ge 13 (Lib.nDigits u) with h13 | h13
  · exfalso
    have key : ∀ (k u : Nat), u < 10 ^ (k + 1) → Lib.nDigits u ≤ k + 1 := by
      intro k
      induction k with
      | zero => intro u hu; rw [Lib.nDigits_small (by simpa using hu)]; exact Nat.le_refl _
      | succ k ih =>
        intro u hu
        by_cases hs : u < 10
        · rw [Lib.nDigits_small hs]; omega
        · rw [Lib.nDigits_big hs]
          have := ih (u / 10) (by rw [Nat.pow_succ] at hu; omega)
          omega
    have := key 12 u (by omega)
    omega
  · exact h13

theorem itoa_short {v : Int} (h0 : -1000000000000 ≤ v) (h1 : v ≤ 1000000000000) : (Lib.itoa v).length ≤ 18 := by
  unfold Lib.itoa
  split
  · rw [List.length_cons, Lib.decDigits_length]
    have := nDigits_le (u := v.natAbs) (by omega)
    omega
  · rw [Lib.decDigits_length]
    have := nDigits_le (u := v.toNat) (by omega)
    omega

theorem atoiAll_itoa {v : Int} (h0 : -1000000000000 ≤ v) (h1 : v ≤ 1000000000000) : Lib.atoiAll (Lib.itoa v) = .ok v := by
  rw [Lib.atoiAll_short _ (itoa_short h0 h1), atoi_itoa]
  rfl

/-- The number that a text is, if it is one. -/
def numOf (l : List UInt8) : Option Int :=
  match Lib.atoi l with
  | some v => if -1000000000000 ≤ v ∧ v ≤ 1000000000000 ∧ Lib.itoa v = l then some v else none
  | none => none

theorem numOf_itoa {v : Int} (h0 : -1000000000000 ≤ v) (h1 : v ≤ 1000000000000) : numOf (Lib.itoa v) = some v := by
  unfold numOf
  rw [atoi_itoa]
  simp [h0, h1]

theorem numOf_some {l : List UInt8} {v : Int} (h : numOf l = some v) : -1000000000000 ≤ v ∧ v ≤ 1000000000000 ∧ Lib.itoa v = l := by
  unfold numOf at h
  split at h
  · split at h
    · rename_i hc
      obtain rfl := Option.some.inj h
      exact hc
    · cases h
  · cases h

theorem numOf_none {l : List UInt8} (h : ∀ v : Int, -1000000000000 ≤ v → v ≤ 1000000000000 → Lib.itoa v ≠ l) : numOf l = none := by
  cases hn : numOf l with
  | none => rfl
  | some v => exact absurd (numOf_some hn).2.2 (h v (numOf_some hn).1 (numOf_some hn).2.1)

/-! ### Texts without a sign -/

theorem plain_some {l : List UInt8} (hp : l.head? ≠ some 45) {v : Int} (h : numOf l = some v) : ∃ u : Nat, v = u ∧ u ≤ 1000000000000 ∧ l = Lib.decDigits u := by
  obtain ⟨h0, h1, h2⟩ := numOf_some h
  unfold Lib.itoa at h2
  split at h2
  · exact absurd (by rw [← h2]; rfl) hp
  · exact ⟨v.toNat, by omega, by omega, h2.symm⟩

theorem plain_ok {l : List UInt8} {m : Nat} (h : Lib.itoa m = l) (hm : m ≤ 1000000000000) : numOf l = some (m : Int) := by
  rw [← h]; exact numOf_itoa (by omega) (by omega)

theorem plain_out {l : List UInt8} {m : Nat} (h : Lib.itoa m = l) (hm : ¬ m ≤ 1000000000000) : numOf l = none :=
  numOf_none fun v h0 h1 hv => by
    have := itoa_inj (hv.trans h.symm)
    omega

theorem plain_ne {l : List UInt8} (hp : l.head? ≠ some 45) {m : Nat} (hd : Lib.decFrom 0 l = some m) (hne : Lib.itoa m ≠ l) : numOf l = none := by
  cases hn : numOf l with
  | none => rfl
  | some v =>
    obtain ⟨u, rfl, _, hl⟩ := plain_some hp hn
    have e := decFrom_decDigits u
    rw [← hl, hd] at e
    obtain rfl := Option.some.inj e
    exact absurd (numOf_some hn).2.2 hne

theorem plain_bad {l : List UInt8} (hp : l.head? ≠ some 45) {b : UInt8} (hb : b ∈ l) (hd : ¬ (48 ≤ b.toNat ∧ b.toNat ≤ 57)) : numOf l = none := by
  cases hn : numOf l with
  | none => rfl
  | some v =>
    obtain ⟨u, rfl, _, hl⟩ := plain_some hp hn
    exact absurd (decDigits_digit u b (hl ▸ hb)) hd

theorem plain_length {l : List UInt8} (hp : l.head? ≠ some 45) (hl : l.length < 1 ∨ 13 < l.length) : numOf l = none := by
  cases hn : numOf l with
  | none => rfl
  | some v =>
    obtain ⟨u, rfl, hu, rfl⟩ := plain_some hp hn
    rw [Lib.decDigits_length] at hl
    have := Lib.nDigits_pos u
    have := nDigits_le hu
    omega

/-! ### Texts behind a minus -/

theorem minus_some {t : List UInt8} {v : Int} (h : numOf (45 :: t) = some v) : ∃ u : Nat, v = -(u : Int) ∧ u ≤ 1000000000000 ∧ t = Lib.decDigits u := by
  obtain ⟨h0, h1, h2⟩ := numOf_some h
  unfold Lib.itoa at h2
  split at h2
  · exact ⟨v.natAbs, by omega, by omega, (List.cons.inj h2).2.symm⟩
  · have := decDigits_digit v.toNat 45 (by rw [h2]; exact List.mem_cons_self)
    exact absurd this.1 (by decide)

theorem minus_ok {t : List UInt8} {m : Nat} (h : Lib.itoa (-(m : Int)) = 45 :: t) (hm : m ≤ 1000000000000) : numOf (45 :: t) = some (-(m : Int)) := by
  rw [← h]; exact numOf_itoa (by omega) (by omega)

theorem minus_out {t : List UInt8} {m : Nat} (h : Lib.itoa (-(m : Int)) = 45 :: t) (hm : ¬ m ≤ 1000000000000) : numOf (45 :: t) = none :=
  numOf_none fun v h0 h1 hv => by
    have := itoa_inj (hv.trans h.symm)
    omega

theorem minus_ne {t : List UInt8} {m : Nat} (hd : Lib.decFrom 0 t = some m) (hne : Lib.itoa (-(m : Int)) ≠ 45 :: t) : numOf (45 :: t) = none := by
  cases hn : numOf (45 :: t) with
  | none => rfl
  | some v =>
    obtain ⟨u, rfl, _, hl⟩ := minus_some hn
    have e := decFrom_decDigits u
    rw [← hl, hd] at e
    obtain rfl := Option.some.inj e
    exact absurd (numOf_some hn).2.2 hne

theorem minus_bad {t : List UInt8} {b : UInt8} (hb : b ∈ t) (hd : ¬ (48 ≤ b.toNat ∧ b.toNat ≤ 57)) : numOf (45 :: t) = none := by
  cases hn : numOf (45 :: t) with
  | none => rfl
  | some v =>
    obtain ⟨u, rfl, _, hl⟩ := minus_some hn
    exact absurd (decDigits_digit u b (hl ▸ hb)) hd

theorem minus_length {t : List UInt8} (hl : t.length < 1 ∨ 13 < t.length) : numOf (45 :: t) = none := by
  cases hn : numOf (45 :: t) with
  | none => rfl
  | some v =>
    obtain ⟨u, rfl, hu, rfl⟩ := minus_some hn
    rw [Lib.decDigits_length] at hl
    have := Lib.nDigits_pos u
    have := nDigits_le hu
    omega

end Go.Proofs.YtmbjmjbljnlifaaDoor.Num
