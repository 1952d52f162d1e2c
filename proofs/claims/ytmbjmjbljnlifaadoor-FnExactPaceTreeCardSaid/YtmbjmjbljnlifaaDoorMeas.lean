/-
  What is proved: plain facts on texts that are digits with an end behind them: the runes behind the digits are an end's signs just where the bytes are; no program, no condition beyond each theorem's own.
-/
import Derived.Test.YtmbjmjbljnlifaaDoorNumB
import Derived.Laws.RangeAny
namespace Go.Proofs.YtmbjmjbljnlifaaDoor
open Go

/-- The text begins with k digits, and no more. -/
structure HeadAt (s : ByteArray) (k : Nat) : Prop where
  le : k ≤ s.size
  dig : ∀ j (h : j < s.size), j < k → 48 ≤ s[j].toNat ∧ s[j].toNat ≤ 57
  stop : ∀ h : k < s.size, ¬ (48 ≤ s[k].toNat ∧ s[k].toNat ≤ 57)

theorem head_from (s : ByteArray) : ∀ (n j : Nat), s.size - j = n → j ≤ s.size → (∀ i (h : i < s.size), i < j → 48 ≤ s[i].toNat ∧ s[i].toNat ≤ 57) → ∃ k, HeadAt s k
  | 0, j, hn, hj, hd => ⟨j, hj, hd, fun h => absurd h (by omega)⟩
  | n + 1, j, hn, hj, hd => by
    have hlt : j < s.size := by omega
    by_cases hb : 48 ≤ s[j].toNat ∧ s[j].toNat ≤ 57
    · refine head_from s n (j + 1) (by omega) (by omega) fun i h hi => ?_
      by_cases he : i = j
      · subst he; exact hb
      · exact hd i h (by omega)
    · exact ⟨j, hj, hd, fun _ => hb⟩

theorem head_any (s : ByteArray) : ∃ k, HeadAt s k := head_from s _ 0 rfl (Nat.zero_le _) fun _ _ h => absurd h (by omega)

/-- The signs behind the first k bytes, rune by rune: at most two; -1 where there is none. -/
def cutAt (s : ByteArray) (k : Nat) : Option (Int × Int) :=
  if k < s.size then
    if k + (Utf8.decode s k).2 < s.size then
      if k + (Utf8.decode s k).2 + (Utf8.decode s (k + (Utf8.decode s k).2)).2 < s.size then none
      else some ((Utf8.decode s k).1, (Utf8.decode s (k + (Utf8.decode s k).2)).1)
    else some ((Utf8.decode s k).1, -1)
  else some (-1, -1)

theorem cut_end {s : ByteArray} {k : Nat} (h : ¬ k < s.size) : cutAt s k = some (-1, -1) := if_neg h
theorem cut_one {s : ByteArray} {k : Nat} (h : k < s.size) (h1 : ¬ k + (Utf8.decode s k).2 < s.size) : cutAt s k = some (((Utf8.decode s k).1 : Int), (-1 : Int)) := (if_pos h).trans (if_neg h1)
theorem cut_two {s : ByteArray} {k : Nat} (h : k < s.size) (h1 : k + (Utf8.decode s k).2 < s.size) (h2 : ¬ k + (Utf8.decode s k).2 + (Utf8.decode s (k + (Utf8.decode s k).2)).2 < s.size) :
    cutAt s k = some (((Utf8.decode s k).1 : Int), ((Utf8.decode s (k + (Utf8.decode s k).2)).1 : Int)) := (if_pos h).trans ((if_pos h1).trans (if_neg h2))
theorem cut_more {s : ByteArray} {k : Nat} (h : k < s.size) (h1 : k + (Utf8.decode s k).2 < s.size) (h2 : k + (Utf8.decode s k).2 + (Utf8.decode s (k + (Utf8.decode s k).2)).2 < s.size) :
    cutAt s k = none := (if_pos h).trans ((if_pos h1).trans (if_pos h2))

theorem width_pos {s : ByteArray} {k : Nat} (h : k < s.size) : 1 ≤ (Utf8.decode s k).2 := by
  by_cases ha : s[k].toNat < 128
  · rw [decode_ascii s k h ha]; exact Nat.le_refl _
  · exact (decode_high s k h (by omega)).2

theorem drop_cons {s : ByteArray} {k : Nat} (h : k < s.size) : s.data.toList.drop k = s[k] :: s.data.toList.drop (k + 1) := by
  have h0 : k < s.data.toList.length := by simp only [Array.length_toList]; exact h
  exact List.drop_eq_getElem_cons h0
theorem drop_end {s : ByteArray} {k : Nat} (h : ¬ k < s.size) : s.data.toList.drop k = [] :=
  List.drop_of_length_le (by simp only [Array.length_toList]; have : s.size = s.data.size := rfl; omega)
theorem drop_nil {s : ByteArray} {k : Nat} : s.data.toList.drop k = [] ↔ ¬ k < s.size :=
  ⟨fun h hk => by rw [drop_cons hk] at h; exact List.cons_ne_nil _ _ h, drop_end⟩

/-- A rune below 128 stands just where its byte stands. -/
theorem rune_byte {s : ByteArray} {k : Nat} (h : k < s.size) (c : UInt8) (hc : c.toNat < 128) : (Utf8.decode s k).1 = c.toNat ↔ s[k] = c := by
  by_cases ha : s[k].toNat < 128
  · rw [decode_ascii s k h ha]; exact UInt8.toNat_inj
  · have := (decode_high s k h (by omega)).1
    refine ⟨fun e => by omega, fun e => by rw [e] at ha; omega⟩
theorem byte_width {s : ByteArray} {k : Nat} (h : k < s.size) (c : UInt8) (hc : c.toNat < 128) (e : s[k] = c) : (Utf8.decode s k).2 = 1 := by
  rw [decode_ascii s k h (by rw [e]; exact hc)]

/-- An end's signs and its bytes. -/
inductive Fits : Int × Int → List UInt8 → Prop
  | none : Fits (-1, -1) []
  | one (c : UInt8) : c.toNat < 128 → Fits (c.toNat, -1) [c]
  | two (c d : UInt8) : c.toNat < 128 → d.toNat < 128 → Fits (c.toNat, d.toNat) [c, d]

theorem cut_fits {s : ByteArray} {k : Nat} {sg : Int × Int} {e : List UInt8} (hf : Fits sg e) : cutAt s k = some sg ↔ s.data.toList.drop k = e := by
  by_cases hk : k < s.size
  · have hw := width_pos hk
    rw [drop_cons hk]
    by_cases h1 : k + (Utf8.decode s k).2 < s.size
    · have hw1 := width_pos h1
      have hk1 : k + 1 < s.size := by omega
      rw [drop_cons hk1]
      by_cases h2 : k + (Utf8.decode s k).2 + (Utf8.decode s (k + (Utf8.decode s k).2)).2 < s.size
      · rw [cut_more hk h1 h2, drop_cons (show k + 1 + 1 < s.size by omega)]
        cases hf <;> simp
      · rw [cut_two hk h1 h2]
        cases hf with
        | none => simp
        | one c hc => simp
        | two c d hc hd =>
          constructor
          · intro e
            simp only [Option.some.injEq, Prod.mk.injEq] at e
            have e1 := (rune_byte hk c hc).1 (by omega)
            have hw0 := byte_width hk c hc e1
            have e2 := (rune_byte h1 d hd).1 (by omega)
            have hw2 := byte_width h1 d hd e2
            simp only [hw0] at e2 h2 hw2
            rw [e1, e2, drop_end (by omega)]
          · intro e
            simp only [List.cons.injEq] at e
            obtain ⟨e1, e2, e3⟩ := e
            have hw0 := byte_width hk c hc e1
            have r1 := (rune_byte hk c hc).2 e1
            have r2 := (rune_byte hk1 d hd).2 e2
            rw [r1, hw0, r2]
    · rw [cut_one hk h1]
      cases hf with
      | none => simp
      | one c hc =>
        constructor
        · intro e
          simp only [Option.some.injEq, Prod.mk.injEq] at e
          have e1 := (rune_byte hk c hc).1 (by omega)
          have hw0 := byte_width hk c hc e1
          rw [e1, drop_end (by omega)]
        · intro e
          simp only [List.cons.injEq] at e
          rw [(rune_byte hk c hc).2 e.1]
      | two c d hc hd =>
        constructor
        · intro e
          simp only [Option.some.injEq, Prod.mk.injEq] at e
          omega
        · intro e
          simp only [List.cons.injEq] at e
          have hw0 := byte_width hk c hc e.1
          rw [drop_end (by omega)] at e
          cases e.2
  · rw [cut_end hk, drop_end hk]
    cases hf with
    | none => simp
    | one c hc => simp
    | two c d hc hd => simp

/-- The first end that stands there and is not too much, by its bytes. -/
def pickT (n most : Int) (rest : List UInt8) : List (List UInt8 × Int) → Option Int
  | [] => none
  | (e, t) :: l => if rest = e ∧ n ≤ most / t then some (n * t) else pickT n most rest l

/-- The same, by its signs. -/
def pickS (n most : Int) (sg : Int × Int) : List ((Int × Int) × Int) → Option Int
  | [] => none
  | (e, t) :: l => if e = sg ∧ n * t ≤ most then some (n * t) else pickS n most sg l

theorem pick_none {s : ByteArray} {k : Nat} (n most : Int) (hc : cutAt s k = none) : ∀ L : List ((Int × Int) × List UInt8 × Int), (∀ x ∈ L, Fits x.1 x.2.1 ∧ 0 < x.2.2) →
    pickT n most (s.data.toList.drop k) (L.map fun x => (x.2.1, x.2.2)) = none
  | [], _ => rfl
  | x :: L, h => by
    have hx := (cut_fits (s := s) (k := k) (h x (by simp)).1).2
    show (if _ then _ else _) = _
    rw [if_neg (fun e => by rw [hc] at hx; cases hx e.1)]
    exact pick_none n most hc L fun y hy => h y (by simp [hy])

theorem pick_some {s : ByteArray} {k : Nat} (n most : Int) {sg : Int × Int} (hc : cutAt s k = some sg) : ∀ L : List ((Int × Int) × List UInt8 × Int), (∀ x ∈ L, Fits x.1 x.2.1 ∧ 0 < x.2.2) →
    pickT n most (s.data.toList.drop k) (L.map fun x => (x.2.1, x.2.2)) = pickS n most sg (L.map fun x => (x.1, x.2.2))
  | [], _ => rfl
  | x :: L, h => by
    obtain ⟨hf, ht⟩ := h x (by simp)
    have hx := cut_fits (s := s) (k := k) hf
    rw [hc, Option.some.injEq] at hx
    have hm : n ≤ most / x.2.2 ↔ n * x.2.2 ≤ most := Int.le_ediv_iff_mul_le ht
    show (if _ then _ else _) = (if _ then _ else _)
    simp only [← hx, hm, eq_comm (a := sg)]
    rw [pick_some n most hc L fun y hy => h y (by simp [hy])]

/-- What is read: digits, and an end behind them. -/
def measT (s : ByteArray) (k : Nat) (most : Int) (L : List (List UInt8 × Int)) : Option Int := (Num.numOf (s.data.toList.take k)).bind fun n => pickT n most (s.data.toList.drop k) L
def measS (s : ByteArray) (k : Nat) (most : Int) (L : List ((Int × Int) × Int)) : Option Int := (cutAt s k).bind fun sg => (Num.numOf (s.data.toList.take k)).bind fun n => pickS n most sg L

theorem meas_same (s : ByteArray) (k : Nat) (most : Int) (L : List ((Int × Int) × List UInt8 × Int)) (h : ∀ x ∈ L, Fits x.1 x.2.1 ∧ 0 < x.2.2) :
    measS s k most (L.map fun x => (x.1, x.2.2)) = measT s k most (L.map fun x => (x.2.1, x.2.2)) := by
  unfold measS measT
  cases hc : cutAt s k with
  | none =>
    cases Num.numOf (s.data.toList.take k) with
    | none => rfl
    | some n => exact (pick_none n most hc L h).symm
  | some sg =>
    cases Num.numOf (s.data.toList.take k) with
    | none => rfl
    | some n => exact (pick_some n most hc L h).symm

def amtL : List ((Int × Int) × List UInt8 × Int) := [((-1, -1), [], 1000), ((109, -1), [109], 1), ((107, -1), [107], 1000000), ((75, 105), [75, 105], 1024000)]
def spanL : List ((Int × Int) × List UInt8 × Int) := [((104, -1), [104], 3600), ((109, -1), [109], 60), ((115, -1), [115], 1)]

theorem amt_fits : ∀ x ∈ amtL, Fits x.1 x.2.1 ∧ 0 < x.2.2 := by
  intro x hx
  simp only [amtL, List.mem_cons, List.not_mem_nil, or_false] at hx
  rcases hx with rfl | rfl | rfl | rfl
  · exact ⟨.none, by decide⟩
  · exact ⟨.one 109 (by decide), by decide⟩
  · exact ⟨.one 107 (by decide), by decide⟩
  · exact ⟨.two 75 105 (by decide) (by decide), by decide⟩
theorem span_fits : ∀ x ∈ spanL, Fits x.1 x.2.1 ∧ 0 < x.2.2 := by
  intro x hx
  simp only [spanL, List.mem_cons, List.not_mem_nil, or_false] at hx
  rcases hx with rfl | rfl | rfl
  · exact ⟨.one 104 (by decide), by decide⟩
  · exact ⟨.one 109 (by decide), by decide⟩
  · exact ⟨.one 115 (by decide), by decide⟩

def amtT : List (List UInt8 × Int) := [([], 1000), ([109], 1), ([107], 1000000), ([75, 105], 1024000)]
def amtS : List ((Int × Int) × Int) := [((-1, -1), 1000), ((109, -1), 1), ((107, -1), 1000000), ((75, 105), 1024000)]
def spanT : List (List UInt8 × Int) := [([104], 3600), ([109], 60), ([115], 1)]
def spanS : List ((Int × Int) × Int) := [((104, -1), 3600), ((109, -1), 60), ((115, -1), 1)]

theorem amt_same (s : ByteArray) (k : Nat) : measS s k 1000000000000 amtS = measT s k 1000000000000 amtT := meas_same s k _ amtL amt_fits
theorem span_same (s : ByteArray) (k : Nat) : measS s k 1000000 spanS = measT s k 1000000 spanT := meas_same s k _ spanL span_fits

/-! ### What is told is read as it was -/

def amtText (n : Int) : List UInt8 :=
  if n < 0 ∨ 1000000000000 < n then [] else if n ≠ 0 ∧ n % 1000000 = 0 then Lib.itoa (n / 1000000) ++ [107] else if n % 1000 = 0 then Lib.itoa (n / 1000) else Lib.itoa n ++ [109]
def spanText (n : Int) : List UInt8 :=
  if n < 0 ∨ 1000000 < n then [] else if n ≠ 0 ∧ n % 3600 = 0 then Lib.itoa (n / 3600) ++ [104] else if n ≠ 0 ∧ n % 60 = 0 then Lib.itoa (n / 60) ++ [109] else Lib.itoa n ++ [115]

theorem itoa_digit {m : Int} (h : 0 ≤ m) : ∀ b ∈ Lib.itoa m, 48 ≤ b.toNat ∧ b.toNat ≤ 57 := by
  unfold Lib.itoa
  rw [if_neg (by omega)]
  exact Num.decDigits_digit _

/-- Digits and an end: where the digits stop. -/
theorem told {s : ByteArray} {k : Nat} (hk : HeadAt s k) {m : Int} (h : 0 ≤ m) {e : List UInt8} (he : ∀ b, e.head? = some b → ¬ (48 ≤ b.toNat ∧ b.toNat ≤ 57)) (hs : s.data.toList = Lib.itoa m ++ e) :
    s.data.toList.take k = Lib.itoa m ∧ s.data.toList.drop k = e := by
  have hsz : s.size = (Lib.itoa m).length + e.length := by
    have := congrArg List.length hs
    simp only [Array.length_toList, List.length_append] at this
    exact this
  have hat : ∀ (j : Nat) (hj : j < s.size), some s[j] = (Lib.itoa m ++ e)[j]? := fun j hj => by
    rw [← hs]
    have h0 : j < s.data.toList.length := by simp only [Array.length_toList]; exact hj
    exact (List.getElem?_eq_getElem h0).symm
  have e1 : k = (Lib.itoa m).length := by
    rcases Nat.lt_trichotomy k (Lib.itoa m).length with hl | hl | hl
    · have hlt : k < s.size := by omega
      have := hat k hlt
      rw [List.getElem?_append_left hl, List.getElem?_eq_getElem hl, Option.some.injEq] at this
      exact absurd (itoa_digit h _ (List.getElem_mem hl)) (by rw [← this]; exact hk.stop hlt)
    · exact hl
    · have hlt : (Lib.itoa m).length < s.size := Nat.lt_of_lt_of_le hl hk.le
      have h2 := hat _ hlt
      rw [List.getElem?_append_right (Nat.le_refl _), Nat.sub_self, ← List.head?_eq_getElem?] at h2
      exact absurd (hk.dig _ hlt hl) (he _ h2.symm)
  subst e1
  rw [hs]
  exact ⟨List.take_left' rfl, List.drop_left' rfl⟩

theorem told_meas {s : ByteArray} {k : Nat} (hk : HeadAt s k) {m : Int} (h : 0 ≤ m) (h1 : m ≤ 1000000000000) {e : List UInt8} (he : ∀ b, e.head? = some b → ¬ (48 ≤ b.toNat ∧ b.toNat ≤ 57)) (hs : s.data.toList = Lib.itoa m ++ e) (most : Int) (L : List (List UInt8 × Int)) :
    measT s k most L = pickT m most e L := by
  obtain ⟨e1, e2⟩ := told hk h he hs
  unfold measT
  rw [e1, e2, Num.numOf_itoa (by omega) h1]; rfl

theorem amt_back {s : ByteArray} {k : Nat} (hk : HeadAt s k) {n : Int} (h0 : 0 ≤ n) (h1 : n ≤ 1000000000000) (hs : s.data.toList = amtText n) : measT s k 1000000000000 amtT = some n := by
  unfold amtText at hs
  rw [if_neg (by omega)] at hs
  by_cases h2 : n ≠ 0 ∧ n % 1000000 = 0
  · rw [if_pos h2] at hs
    rw [told_meas hk (by omega) (by omega) (by intro b hb; cases hb; decide) hs]
    simp only [amtT, pickT]
    rw [if_neg (by simp), if_neg (by simp), if_pos (And.intro (by trivial) (by omega))]
    congr 1; omega
  · rw [if_neg h2] at hs
    by_cases h3 : n % 1000 = 0
    · rw [if_pos h3] at hs
      rw [told_meas hk (m := n / 1000) (e := []) (by omega) (by omega) (by intro b hb; cases hb) (by rw [List.append_nil]; exact hs)]
      simp only [amtT, pickT]
      rw [if_pos (And.intro (by trivial) (by omega))]
      congr 1; omega
    · rw [if_neg h3] at hs
      rw [told_meas hk (by omega) (by omega) (by intro b hb; cases hb; decide) hs]
      simp only [amtT, pickT]
      rw [if_neg (by simp), if_pos (And.intro (by trivial) (by omega))]
      congr 1; omega

theorem span_back {s : ByteArray} {k : Nat} (hk : HeadAt s k) {n : Int} (h0 : 0 ≤ n) (h1 : n ≤ 1000000) (hs : s.data.toList = spanText n) : measT s k 1000000 spanT = some n := by
  unfold spanText at hs
  rw [if_neg (by omega)] at hs
  by_cases h2 : n ≠ 0 ∧ n % 3600 = 0
  · rw [if_pos h2] at hs
    rw [told_meas hk (by omega) (by omega) (by intro b hb; cases hb; decide) hs]
    simp only [spanT, pickT]
    rw [if_pos (And.intro (by trivial) (by omega))]
    congr 1; omega
  · rw [if_neg h2] at hs
    by_cases h3 : n ≠ 0 ∧ n % 60 = 0
    · rw [if_pos h3] at hs
      rw [told_meas hk (by omega) (by omega) (by intro b hb; cases hb; decide) hs]
      simp only [spanT, pickT]
      rw [if_neg (by simp), if_pos (And.intro (by trivial) (by omega))]
      congr 1; omega
    · rw [if_neg h3] at hs
      rw [told_meas hk (by omega) (by omega) (by intro b hb; cases hb; decide) hs]
      simp only [spanT, pickT]
      rw [if_neg (by simp), if_neg (by simp), if_pos (And.intro (by trivial) (by omega))]
      congr 1; omega

theorem head_plain {s : ByteArray} {k : Nat} (hk : HeadAt s k) : (s.data.toList.take k).head? ≠ some 45 := by
  intro h
  rcases Nat.eq_zero_or_pos k with h0 | h0
  · subst h0; simp at h
  · have hlt : 0 < s.size := Nat.lt_of_lt_of_le h0 hk.le
    have h2 := hk.dig 0 hlt h0
    have h3 : (s.data.toList.take k).head? = some s[0] := by
      rw [List.head?_take, if_neg (by omega), List.head?_eq_getElem?]
      exact List.getElem?_eq_getElem (by simp only [Array.length_toList]; exact hlt)
    rw [h3, Option.some.injEq] at h
    rw [h] at h2
    revert h2; decide

theorem head_num {s : ByteArray} {k : Nat} (hk : HeadAt s k) {n : Int} (h : Num.numOf (s.data.toList.take k) = some n) : 0 ≤ n ∧ n ≤ 1000000000000 := by
  obtain ⟨u, rfl, hu, _⟩ := Num.plain_some (head_plain hk) h
  omega

theorem pick_bounds {n most : Int} (hn : 0 ≤ n) {rest : List UInt8} : ∀ {L : List (List UInt8 × Int)} {a : Int}, (∀ x ∈ L, 0 < x.2) → pickT n most rest L = some a → 0 ≤ a ∧ a ≤ most
  | [], _, _, h => by cases h
  | (e, t) :: L, a, hL, h => by
    have ht : 0 < t := hL (e, t) (by simp)
    unfold pickT at h
    split at h
    · rename_i hc
      obtain rfl := Option.some.inj h
      exact ⟨Int.mul_nonneg hn (by omega), (Int.le_ediv_iff_mul_le ht).1 hc.2⟩
    · exact pick_bounds hn (fun x hx => hL x (by simp [hx])) h

theorem amt_bounds {s : ByteArray} {k : Nat} (hk : HeadAt s k) {a : Int} (h : measT s k 1000000000000 amtT = some a) : 0 ≤ a ∧ a ≤ 1000000000000 := by
  unfold measT at h
  cases hn : Num.numOf (s.data.toList.take k) with
  | none => rw [hn] at h; cases h
  | some n =>
    rw [hn] at h
    exact pick_bounds (head_num hk hn).1 (by intro x hx; simp only [amtT, List.mem_cons, List.not_mem_nil, or_false] at hx; rcases hx with rfl | rfl | rfl | rfl <;> decide) h

end Go.Proofs.YtmbjmjbljnlifaaDoor
