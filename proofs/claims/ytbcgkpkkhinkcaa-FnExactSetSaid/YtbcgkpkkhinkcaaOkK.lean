/-
  What is proved: the program's keysOk and the model's l3Keys answer the same of every list of texts: each is TextOk, and they ascend.
-/
import Derived.Test.YtbcgkpkkhinkcaaTextOk
import Derived.Test.YtbcgkpkkhinkcaaTreeEq
import Derived.Deep.RegionHeld3
namespace Go.Proofs.Ytbcgkpkkhinkcaa
open Go Go.RowKit

theorem str_geq (t : TypeId) (a b : ByteArray) : binOp .geq t (.string a) (.string b) = pure (.bool !(Op.bytesLess a.toList b.toList)) := by simp [binOp, Op.stringOp]

/-- What is asked of the i-th key. -/
def KeyAt (ks : List ByteArray) (i : Nat) (h : i < ks.length) : Prop := textOk ks[i] = true ∧ (∀ _h : 0 < i, Op.bytesLess (ks[i - 1]'(by omega)).toList ks[i].toList = true)

/-- Keys that are TextOk and ascend. -/
noncomputable def keysOk (ks : List ByteArray) : Bool := @decide (∀ i (h : i < ks.length), KeyAt ks i h) (Classical.propDecidable _)

theorem keysOk_yes {ks : List ByteArray} (h : ∀ i (h : i < ks.length), KeyAt ks i h) : keysOk ks = true := @decide_eq_true _ (Classical.propDecidable _) h
theorem keysOk_no {ks : List ByteArray} {i : Nat} (h : i < ks.length) (hn : ¬ KeyAt ks i h) : keysOk ks = false := @decide_eq_false _ (Classical.propDecidable _) (fun h' => hn (h' i h))

set_option maxRecDepth 100000 in
set_option maxHeartbeats 800000 in
theorem impl_keysOk {v : Value} {ks : List ByteArray} {F : List Nat} (w : World) (hs : StrsAt w v ks F) :
    Calls Try.prog 60 #[v] w fun e w' => e = .returned (.bool (keysOk ks)) ∧ w' = w := by
  obtain ⟨o, cap, b, off, rfl, hlc, hcm, ho, -, hcell, -⟩ := hs
  have HC := Lib.hid hcell
  have HO := Lib.hid ho
  clear hcell ho
  unfold maxLen at hcm
  have hge := str_geq
  go_enter Try.func60, Try.ntmps60
  go_wp2
  go_loop [7] (fun i => ∃ k : Nat, k ≤ ks.length ∧ i = .int .i64 k ∧ Hid (∀ i (h : i < ks.length), i < k → KeyAt ks i h)) (fun i => ks.length - (intOf i).toNat)
  case atStart => exact ⟨0, Nat.zero_le _, rfl, fun i _ h => absurd h (by omega)⟩
  case round =>
    obtain ⟨k, hk, rfl, hr⟩ := hrel
    by_cases hlt : k < ks.length
    · have ho := HO.out (by omega)
      subst ho
      obtain ⟨c0, m0⟩ := HC.out k hlt
      have HT := Lib.hid (impl_textOk ks[k] m0)
      have HS : Hid (KeyAt ks k hlt → ∀ i (h : i < ks.length), i < k + 1 → KeyAt ks i h) := fun hk1 i h hi => by
        by_cases e : i = k
        · subst e; exact hk1
        · exact hr.out i h (by omega)
      by_cases ht : textOk ks[k] = true
      · rw [ht] at HT
        by_cases hp : 0 < k
        · obtain ⟨j, rfl⟩ : ∃ j, k = j + 1 := ⟨k - 1, by omega⟩
          obtain ⟨c1, m1⟩ := HC.out j (by omega)
          have e1 : (((j + 1 : Nat) : Int) - 1) = j := by omega
          by_cases hle : Op.bytesLess ks[j].toList ks[j + 1].toList = true
          · have HY := Lib.hid (HS.out ⟨ht, fun _ => hle⟩)
            clear HS ht m0 m1
            generalize ks[j] = y at *
            generalize ks[j + 1] = x at *
            go_wp2_with (first
              | (go_at_call 59; refine (HT.out _).mono ?_; rintro e w1 ⟨rfl, e1⟩; subst e1)
              | go_in)
            go_round
            case rel => exact ⟨j + 1 + 1, by omega, by go_num, HY.out⟩
            case measure => simp [intOf]; omega
          · have HN := Lib.hid (keysOk_no hlt (fun h => hle (h.2 hp)))
            have hle' : Op.bytesLess ks[j].toList ks[j + 1].toList = false := by simpa using hle
            clear HS ht m0 m1 hle
            generalize ks[j] = y at *
            generalize ks[j + 1] = x at *
            go_wp2_with (first
              | (go_at_call 59; refine (HT.out _).mono ?_; rintro e w1 ⟨rfl, e1⟩; subst e1)
              | go_in)
            go_ret
            exact ⟨by rw [HN.out]; rfl, rfl⟩
        · have e0 : k = 0 := by omega
          subst e0
          have HY := Lib.hid (HS.out ⟨ht, fun h => absurd h hp⟩)
          clear HS ht m0
          rw [Nat.add_zero] at c0
          generalize ks[0] = x at *
          go_wp2_with (first
            | (go_at_call 59; refine (HT.out _).mono ?_; rintro e w1 ⟨rfl, e1⟩; subst e1)
            | go_in)
          go_round
          case rel => exact ⟨1, by omega, by go_num, HY.out⟩
          case measure => simp [intOf]; omega
      · have HN := Lib.hid (keysOk_no hlt (fun h => ht h.1))
        have ht' : textOk ks[k] = false := by simpa using ht
        rw [ht'] at HT
        clear HS ht ht' m0
        generalize ks[k] = x at *
        go_wp2_with (first
          | (go_at_call 59; refine (HT.out _).mono ?_; rintro e w1 ⟨rfl, e1⟩; subst e1)
          | go_in)
        go_ret
        exact ⟨by rw [HN.out]; rfl, rfl⟩
    · have HY := Lib.hid (keysOk_yes (ks := ks) (fun i h => hr.out i h (by omega)))
      go_wp2
      go_ret
      exact ⟨by rw [HY.out]; rfl, rfl⟩

set_option maxRecDepth 100000 in
set_option maxHeartbeats 800000 in
theorem spec_keys {v : Value} {ks : List ByteArray} {F : List Nat} (w : World) (hs : StrsAt w v ks F) :
    Calls Try.prog 49 #[v] w fun e w' => e = .returned (.bool (keysOk ks)) ∧ Below w.heap.size w w' := by
  obtain ⟨o, cap, b, off, rfl, hlc, hcm, ho, -, hcell, -⟩ := hs
  have HC := Lib.hid hcell
  have HO := Lib.hid ho
  clear hcell ho
  unfold maxLen at hcm
  have hge := str_geq
  go_enter Try.func49, Try.ntmps49
  go_wp2
  go_loopw [3] (fun i wr => ∃ k : Nat, k ≤ ks.length ∧ i = .int .i64 k ∧ Hid (∀ i (h : i < ks.length), i < k → KeyAt ks i h) ∧ Hid (Below w.heap.size w wr)) (fun i _ => ks.length - (intOf i).toNat)
  case atStart => exact ⟨0, Nat.zero_le _, rfl, fun i _ h => absurd h (by omega), Below.refl _ _⟩
  case round =>
    obtain ⟨k, hk, rfl, hr, hb⟩ := hrel
    by_cases hlt : k < ks.length
    · have ho := HO.out (by omega)
      subst ho
      obtain ⟨cw, m0⟩ := HC.out k hlt
      have c0 : wr.cell? ⟨b, off + k, none⟩ = some (.string ks[k]) := by
        rw [hb.out.cell (by exact World.block_lt_of_cell? _ _ cw)]; exact cw
      clear cw
      have HT := Lib.hid (spec_textOk ks[k] m0)
      have hi0 : (0 : Int) ≤ (k : Int) := by omega
      have hi1 : (k : Int) < (ks.length : Int) := by omega
      have HS : Hid (KeyAt ks k hlt → ∀ i (h : i < ks.length), i < k + 1 → KeyAt ks i h) := fun hk1 i h hi => by
        by_cases e : i = k
        · subst e; exact hk1
        · exact hr.out i h (by omega)
      by_cases ht : textOk ks[k] = true
      · rw [ht] at HT
        by_cases hp : 0 < k
        · obtain ⟨j, rfl⟩ : ∃ j, k = j + 1 := ⟨k - 1, by omega⟩
          obtain ⟨cw, m1⟩ := HC.out j (by omega)
          have c1 : wr.cell? ⟨b, off + j, none⟩ = some (.string ks[j]) := by
            rw [hb.out.cell (by exact World.block_lt_of_cell? _ _ cw)]; exact cw
          clear cw
          have hi2 : (0 : Int) ≤ (j : Int) := by omega
          have hi3 : (j : Int) < (ks.length : Int) := by omega
          have e1 : (((j + 1 : Nat) : Int) - 1) = j := by omega
          by_cases hle : Op.bytesLess ks[j].toList ks[j + 1].toList = true
          · have HY := Lib.hid (HS.out ⟨ht, fun _ => hle⟩)
            clear HS ht m0 m1
            generalize ks[j] = y at *
            generalize ks[j + 1] = x at *
            go_wp2
            go_quiet (first | (go_at_call 54; exact Calls.quiet_of_same (HT.out _)))
            go_wp2
            exact ⟨⟨j + 1 + 1, by omega, by go_num, HY.out, below_drewN hb.out _⟩, by simp [intOf]; omega⟩
          · have HN := Lib.hid (keysOk_no hlt (fun h => hle (h.2 hp)))
            have hle' : Op.bytesLess ks[j].toList ks[j + 1].toList = false := by simpa using hle
            clear HS ht m0 m1 hle
            generalize ks[j] = y at *
            generalize ks[j + 1] = x at *
            go_wp2
            go_quiet (first | (go_at_call 54; exact Calls.quiet_of_same (HT.out _)))
            go_wp2
            go_ret
            exact ⟨by rw [HN.out]; rfl, below_drewN hb.out _⟩
        · have e0 : k = 0 := by omega
          subst e0
          have HY := Lib.hid (HS.out ⟨ht, fun h => absurd h hp⟩)
          clear HS ht m0
          rw [Nat.add_zero] at c0
          generalize ks[0] = x at *
          go_wp2
          go_quiet (first | (go_at_call 54; exact Calls.quiet_of_same (HT.out _)))
          go_wp2
          exact ⟨⟨1, by omega, by go_num, HY.out, below_drewN hb.out _⟩, by simp [intOf]; omega⟩
      · have HN := Lib.hid (keysOk_no hlt (fun h => ht h.1))
        have ht' : textOk ks[k] = false := by simpa using ht
        rw [ht'] at HT
        clear HS ht ht' m0
        generalize ks[k] = x at *
        go_wp2
        go_quiet (first | (go_at_call 54; exact Calls.quiet_of_same (HT.out _)))
        go_wp2
        go_ret
        exact ⟨by rw [HN.out]; rfl, below_drewN hb.out _⟩
    · have HY := Lib.hid (keysOk_yes (ks := ks) (fun i h => hr.out i h (by omega)))
      go_wp2
      go_ret
      exact ⟨by rw [HY.out]; rfl, hb.out⟩
end Go.Proofs.Ytbcgkpkkhinkcaa
