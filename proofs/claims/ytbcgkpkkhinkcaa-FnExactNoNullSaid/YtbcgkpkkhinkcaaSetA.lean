/-
  What is proved: where a key stands in a list of texts, and where it would come to stand: slices.Index and the program's placeOf; the model's l3At; the program's isMap.
-/
import Derived.Test.YtbcgkpkkhinkcaaOkK
import Derived.Test.YtbcgkpkkhinkcaaTreeTo
namespace Go.Proofs.Ytbcgkpkkhinkcaa
open Go Go.RowKit

theorem str_gtr (t : TypeId) (a b : ByteArray) : binOp .gtr t (.string a) (.string b) = pure (.bool !(Op.bytesLess a.toList b.toList || a.toList == b.toList)) := by simp [binOp, Op.stringOp]

/-- The first place of a key. -/
def FirstAt (ks : List ByteArray) (key : ByteArray) (i : Nat) : Prop := ∃ h : i < ks.length, ks[i] = key ∧ ∀ j (hj : j < i), ¬ ks[j] = key
/-- A key that is not there. -/
def Absent (ks : List ByteArray) (key : ByteArray) : Prop := ∀ i (h : i < ks.length), ¬ ks[i] = key

/-- How many keys at the head are below a key. -/
def placeN (ks : List ByteArray) (key : ByteArray) : Nat := (ks.takeWhile fun k => Op.bytesLess k.toList key.toList).length

theorem placeN_le (ks : List ByteArray) (key : ByteArray) : placeN ks key ≤ ks.length := by
  unfold placeN
  exact (List.takeWhile_prefix _).length_le

theorem place_unique {ks : List ByteArray} {key : ByteArray} {i : Nat} (hi : i ≤ ks.length) (h1 : ∀ j (h : j < ks.length), j < i → Op.bytesLess ks[j].toList key.toList = true) (h2 : ∀ h : i < ks.length, Op.bytesLess ks[i].toList key.toList = false) : placeN ks key = i := by
  induction ks generalizing i with
  | nil => simp at hi; subst hi; rfl
  | cons k ks ih =>
    cases i with
    | zero =>
      have := h2 (by simp)
      simp only [List.getElem_cons_zero] at this
      simp [placeN, this]
    | succ i =>
      have h0 := h1 0 (by simp) (by omega)
      simp only [List.getElem_cons_zero] at h0
      have := ih (i := i) (by simpa using hi) (fun j hj hji => by have := h1 (j + 1) (by simpa using hj) (by omega); simpa using this) (fun h => by have := h2 (by simpa using h); simpa using this)
      simp only [placeN] at this ⊢
      rw [List.takeWhile_cons, if_pos h0, List.length_cons, this]

set_option maxHeartbeats 400000 in
theorem slices_index {v : Value} {ks : List ByteArray} {F : List Nat} (w : World) (hs : StrsAt w v ks F) (key : ByteArray) :
    Calls Try.prog 34 #[v, .string key] w fun e w' => ((∃ i : Nat, FirstAt ks key i ∧ e = .returned (.int .i64 i)) ∨ (Absent ks key ∧ e = .returned (.int .i64 (-1)))) ∧ w' = w := by
  obtain ⟨o, cap, b, off, rfl, hlc, hcm, ho, -, hcell, -⟩ := hs
  have HC := Lib.hid hcell
  have HO := Lib.hid ho
  clear hcell ho
  unfold maxLen at hcm
  go_enter Try.func34, Try.ntmps34
  go_wp2
  go_loop [8] (fun i => ∃ k : Nat, k ≤ ks.length ∧ i = .int .i64 k ∧ Hid (∀ j (h : j < ks.length), j < k → ¬ ks[j] = key)) (fun i => ks.length - (intOf i).toNat)
  case atStart => exact ⟨0, Nat.zero_le _, rfl, fun j _ h => absurd h (by omega)⟩
  case round =>
    obtain ⟨k, hk, rfl, hr⟩ := hrel
    by_cases hlt : k < ks.length
    · have ho := HO.out (by omega)
      subst ho
      obtain ⟨c0, -⟩ := HC.out k hlt
      by_cases he : ks[k] = key
      · have HE : Hid (FirstAt ks key k) := ⟨hlt, he, fun j hj => hr.out j (by omega) hj⟩
        rw [he] at c0
        clear he
        go_wp2
        go_ret
        exact ⟨.inl ⟨k, HE.out, rfl⟩, rfl⟩
      · have HS : Hid (∀ j (h : j < ks.length), j < k + 1 → ¬ ks[j] = key) := fun j h hj => by
          by_cases e : j = k
          · subst e; exact he
          · exact hr.out j h (by omega)
        have he' := bytes_ne (fun h => he h.symm)
        clear he
        generalize ks[k] = x at *
        go_wp2
        go_round
        case rel => exact ⟨k + 1, by omega, by go_num, HS.out⟩
        case measure => simp [intOf]; omega
    · have HA : Hid (Absent ks key) := fun i h => hr.out i h (by omega)
      go_wp2
      go_ret
      exact ⟨.inr ⟨HA.out, rfl⟩, rfl⟩

set_option maxHeartbeats 400000 in
theorem impl_placeOf {v : Value} {ks : List ByteArray} {F : List Nat} (w : World) (hs : StrsAt w v ks F) (key : ByteArray) (ha : Absent ks key) :
    Calls Try.prog 35 #[v, .string key] w fun e w' => e = .returned (.int .i64 (placeN ks key : Nat)) ∧ w' = w := by
  obtain ⟨o, cap, b, off, rfl, hlc, hcm, ho, -, hcell, -⟩ := hs
  have HC := Lib.hid hcell
  have HO := Lib.hid ho
  have HA := Lib.hid ha
  clear hcell ho ha
  unfold maxLen at hcm
  have hgt := str_gtr
  go_enter Try.func35, Try.ntmps35
  go_wp2
  go_loop [9] (fun i => ∃ k : Nat, k ≤ ks.length ∧ i = .int .i64 k ∧ Hid (∀ j (h : j < ks.length), j < k → Op.bytesLess ks[j].toList key.toList = true)) (fun i => ks.length - (intOf i).toNat)
  case atStart => exact ⟨0, Nat.zero_le _, rfl, fun j _ h => absurd h (by omega)⟩
  case round =>
    obtain ⟨k, hk, rfl, hr⟩ := hrel
    by_cases hlt : k < ks.length
    · have ho := HO.out (by omega)
      subst ho
      obtain ⟨c0, -⟩ := HC.out k hlt
      have he' := bytes_ne (HA.out k hlt)
      by_cases hl : Op.bytesLess ks[k].toList key.toList = true
      · have HS : Hid (∀ j (h : j < ks.length), j < k + 1 → Op.bytesLess ks[j].toList key.toList = true) := fun j h hj => by
          by_cases e : j = k
          · subst e; exact hl
          · exact hr.out j h (by omega)
        generalize ks[k] = x at *
        go_wp2
        go_round
        case rel => exact ⟨k + 1, by omega, by go_num, HS.out⟩
        case measure => simp [intOf]; omega
      · have hl' : Op.bytesLess ks[k].toList key.toList = false := by simpa using hl
        have HP : Hid (placeN ks key = k) := place_unique hk hr.out (fun _ => hl')
        clear hl
        generalize ks[k] = x at *
        go_wp2
        go_ret
        exact ⟨by rw [HP.out]; rfl, rfl⟩
    · have HP : Hid (placeN ks key = ks.length) := place_unique (Nat.le_refl _) (fun j h _ => hr.out j h (by omega)) (fun h => absurd h (by omega))
      go_wp2
      go_ret
      exact ⟨by rw [HP.out]; rfl, rfl⟩

set_option maxRecDepth 100000 in
set_option maxHeartbeats 800000 in
/-- The model's l3At of a map with as many keys as kids. -/
theorem spec_at (w : World) {kv : Value} {keys : List ByteArray} {FK : List Nat} (hK : StrsAt w kv keys FK) (n : Int) (s : ByteArray) (o : Option Addr) (q : Nat) (key : ByteArray) :
    Calls Try.prog 17 #[.agg #[.int .i64 5, .int .i64 n, .string s, kv, .slice o keys.length q], .string key] w fun e w' => ((∃ i : Nat, FirstAt keys key i ∧ e = .returned (.int .i64 i)) ∨ (Absent keys key ∧ e = .returned (.int .i64 (-1)))) ∧ Below w.heap.size w w' := by
  obtain ⟨ko, cap, b, off, rfl, hlc, hcm, ho, -, hcell, -⟩ := hK
  have HX := Lib.hid (Box.start w (.int .i64 5) (.int .i64 n) (.string s) (.slice ko keys.length cap) (.slice o keys.length q) 29)
  have HC := Lib.hid fun i h => ((Below.refl _ w).alloc (Nat.le_refl _) (.cells #[.int .i64 5, .int .i64 n, .string s, .slice ko keys.length cap, .slice o keys.length q] 29)).cell (p := ⟨b, off + i, none⟩) (World.block_lt_of_cell? _ _ (hcell i h).1) |>.trans (hcell i h).1
  have HO := Lib.hid ho
  clear hcell ho
  unfold maxLen at hcm
  go_enter Try.func17, Try.ntmps17
  go_wp2
  go_loop [5] (fun i => ∃ k : Nat, k ≤ keys.length ∧ i = .int .i64 k ∧ Hid (∀ j (h : j < keys.length), j < k → ¬ keys[j] = key)) (fun i => keys.length - (intOf i).toNat)
  case atStart => exact ⟨0, Nat.zero_le _, rfl, fun j _ h => absurd h (by omega)⟩
  case round =>
    obtain ⟨k, hk, rfl, hr⟩ := hrel
    by_cases hlt : k < keys.length
    · have ho := HO.out (by omega)
      subst ho
      have c0 := HC.out k hlt
      by_cases he : keys[k] = key
      · have HE : Hid (FirstAt keys key k) := ⟨hlt, he, fun j hj => hr.out j (by omega) hj⟩
        rw [he] at c0
        clear he
        go_wp2
        go_ret
        exact ⟨.inl ⟨k, HE.out, rfl⟩, HX.out.below⟩
      · have HS : Hid (∀ j (h : j < keys.length), j < k + 1 → ¬ keys[j] = key) := fun j h hj => by
          by_cases e : j = k
          · subst e; exact he
          · exact hr.out j h (by omega)
        have he' := bytes_ne he
        clear he
        generalize keys[k] = x at *
        go_wp2
        go_round
        case rel => exact ⟨k + 1, by omega, by go_num, HS.out⟩
        case measure => simp [intOf]; omega
    · have HA : Hid (Absent keys key) := fun i h => hr.out i h (by omega)
      go_wp2
      go_ret
      exact ⟨.inr ⟨HA.out, rfl⟩, HX.out.below⟩

set_option maxRecDepth 100000 in
set_option maxHeartbeats 400000 in
theorem impl_isMap (k n : Int) (s : ByteArray) (ko o : Option Addr) (kl kc dl dc : Nat) (w : World) :
    Calls Try.prog 21 #[.agg #[.int .i64 k, .int .i64 n, .string s, .slice ko kl kc, .slice o dl dc]] w fun e w' => e = .returned (.bool (decide (k = 5) && decide (kl = dl))) ∧ Below w.heap.size w w' := by
  by_cases h5 : k = 5
  · subst h5
    by_cases h : kl = dl
    · subst h
      go_enter Try.func21, Try.ntmps21
      go_wp2
      go_ret
      exact ⟨ret_bool (by simp), (Below.refl _ w).alloc (Nat.le_refl _) _⟩
    · have h' : ¬ (kl : Int) = dl := by omega
      go_enter Try.func21, Try.ntmps21
      go_wp2
      go_ret
      exact ⟨ret_bool (by simp [h, h']), (Below.refl _ w).alloc (Nat.le_refl _) _⟩
  · go_enter Try.func21, Try.ntmps21
    go_wp2
    go_ret
    exact ⟨ret_bool (by simp [h5]), (Below.refl _ w).alloc (Nat.le_refl _) _⟩
end Go.Proofs.Ytbcgkpkkhinkcaa
