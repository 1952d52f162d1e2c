/-
  What is proved: where a key stands in a list of texts, and where it would come to stand: slices.Index and the program's placeOf; the model's l3At; the program's isMap.
-/
import Derived.Test.YtmbjmjbljnlifaaDoorOkK
import Derived.Test.YtmbjmjbljnlifaaDoorTreeTo
namespace Go.Proofs.YtmbjmjbljnlifaaDoor
open Go Go.RowKit

theorem str_gtr (t : TypeId) (a b : ByteArray) : binOp .gtr t (.string a) (.string b) = pure (.bool !(Op.bytesLess a.toList b.toList || a.toList == b.toList)) := by simp [binOp, Op.stringOp]

/-- The first place of a key. -/
def FirstAt (ks : List ByteArray) (key : ByteArray) (i : Nat) : Prop := ∃ h : i < ks.length, ks[i] = key ∧ ∀ j (hj : j < i), ¬ ks[j] = key
/-- A key that is not there. -/
def Absent (ks : List ByteArray) (key : ByteArray) : Prop := ∀ i (h : i < ks.length), ¬ ks[i] = key

/-- How many keys at the head are below a key. -/
def placeN (ks : List ByteArray) (key : ByteArray) : Nat := (ks.takeWhile fun k => Op.bytesLess k.toList key.toList).length

theorem placeN_le (ks : List ByteArray) (key : ByteArray) : placeN ks key ≤ ks.length := by
  unfold placeN
  exact (List.takeWhile_prefix _).length_le

theorem place_unique {ks : List ByteArray} {key : ByteArray} {i : Nat} (hi : i ≤ ks.length) (h1 : ∀ j (h : j < ks.length), j < i → Op.bytesLess ks[j].toList key.toList = true) (h2 : ∀ h : i < ks.length, Op.bytesLess ks[i].toList key.toList = false) : placeN ks key = i := by
  induction ks generalizing i with
  | nil => simp at hi; subst hi; rfl
  | cons k ks ih =>
    cases i with
    | zero =>
      have := h2 (by simp)
      simp only [List.getElem_cons_zero] at this
      simp [placeN, this]
    | succ i =>
      have h0 := h1 0 (by simp) (by omega)
      simp only [List.getElem_cons_zero] at h0
      have := ih (i := i) (by simpa using hi) (fun j hj hji => by have := h1 (j + 1) (by simpa using hj) (by omega); simpa using this) (fun h => by have := h2 (by simpa using h); simpa using this)
      simp only [placeN] at this ⊢
      rw [List.takeWhile_cons, if_pos h0, List.length_cons, this]

set_option maxRecDepth 100000 in
set_option maxHeartbeats 800000 in
/-- The model's l3At of a map with as many keys as kids. -/
theorem spec_at (w : World) {kv : Value} {keys : List ByteArray} {FK : List Nat} (hK : StrsAt w kv keys FK) (n : Int) (s : ByteArray) (o : Option Addr) (q : Nat) (key : ByteArray) :
    Calls Tryd.prog 41 #[.agg #[.int .i64 5, .int .i64 n, .string s, kv, .slice o keys.length q], .string key] w fun e w' => ((∃ i : Nat, FirstAt keys key i ∧ e = .returned (.int .i64 i)) ∨ (Absent keys key ∧ e = .returned (.int .i64 (-1)))) ∧ Below w.heap.size w w' := by
  obtain ⟨ko, cap, b, off, rfl, hlc, hcm, ho, -, hcell, -⟩ := hK
  have HX := Lib.hid (Box.start w (.int .i64 5) (.int .i64 n) (.string s) (.slice ko keys.length cap) (.slice o keys.length q) 28)
  have HC := Lib.hid fun i h => ((Below.refl _ w).alloc (Nat.le_refl _) (.cells #[.int .i64 5, .int .i64 n, .string s, .slice ko keys.length cap, .slice o keys.length q] 28)).cell (p := ⟨b, off + i, none⟩) (World.block_lt_of_cell? _ _ (hcell i h).1) |>.trans (hcell i h).1
  have HO := Lib.hid ho
  clear hcell ho
  unfold maxLen at hcm
  go_enter Tryd.func41, Tryd.ntmps41
  go_wp2
  go_loop [5] (fun i => ∃ k : Nat, k ≤ keys.length ∧ i = .int .i64 k ∧ Hid (∀ j (h : j < keys.length), j < k → ¬ keys[j] = key)) (fun i => keys.length - (intOf i).toNat)
  case atStart => exact ⟨0, Nat.zero_le _, rfl, fun j _ h => absurd h (by omega)⟩
  case round =>
    obtain ⟨k, hk, rfl, hr⟩ := hrel
    by_cases hlt : k < keys.length
    · have ho := HO.out (by omega)
      subst ho
      have c0 := HC.out k hlt
      by_cases he : keys[k] = key
      · have HE : Hid (FirstAt keys key k) := ⟨hlt, he, fun j hj => hr.out j (by omega) hj⟩
        rw [he] at c0
        clear he
        go_wp2
        go_ret
        exact ⟨.inl ⟨k, HE.out, rfl⟩, HX.out.below⟩
      · have HS : Hid (∀ j (h : j < keys.length), j < k + 1 → ¬ keys[j] = key) := fun j h hj => by
          by_cases e : j = k
          · subst e; exact he
          · exact hr.out j h (by omega)
        have he' := bytes_ne he
        clear he
        generalize keys[k] = x at *
        go_wp2
        go_round
        case rel => exact ⟨k + 1, by omega, by go_num, HS.out⟩
        case measure => simp [intOf]; omega
    · have HA : Hid (Absent keys key) := fun i h => hr.out i h (by omega)
      go_wp2
      go_ret
      exact ⟨.inr ⟨HA.out, rfl⟩, HX.out.below⟩

end Go.Proofs.YtmbjmjbljnlifaaDoor
