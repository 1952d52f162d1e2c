/-
  What is proved: the program's metricsOk and notesOk tell of a list whether it is as an order's must be.
-/
import Derived.Test.YtjopjdidbkhmnaaOrdIn
import Derived.Test.YtjopjdidbkhmnaaOrdOkN
namespace Go.Proofs.Ytjopjdidbkhmnaa
open Go Go.RowKit

set_option maxRecDepth 100000 in
set_option maxHeartbeats 2000000 in
theorem impl_not (x : Not) (hx : x.ok) (w : World) : Calls Try.prog 52 #[.agg #[.string x.key, .string x.text]] w fun e w' => e = .returned (.bool x.okB) ∧ Below w.heap.size w w' := by
  have HB : Hid (∀ o, Below w.heap.size w (w.alloc o)) := fun o => (Below.refl _ w).alloc (Nat.le_refl _) o
  have h1 := hx.1
  have h2 := hx.2
  have h3 := h2
  unfold maxLen at h3
  have hP := Try.strings_HasPrefix x.key ⟨#[113, 117, 97, 121, 47]⟩
  rw [show Lib.hasPrefix x.key.data.toList (⟨#[113, 117, 97, 121, 47]⟩ : ByteArray).data.toList = oursB x.key from rfl] at hP
  clear hx
  unfold Not.okB
  rcases b1 : plainB x.key
  · go_enter Try.func52, Try.ntmps52
    go_wp2_with (first
      | (go_at_call 59; refine (impl_plainOk _ h1 _).mono ?_; rintro e w1 ⟨rfl, e1⟩; subst e1; rw [b1])
      | fail)
    go_ret
    exact ⟨rfl, HB.out _⟩
  rcases b2 : oursB x.key
  case true =>
    go_enter Try.func52, Try.ntmps52
    go_wp2_with (first
      | (go_at_call 59; refine (impl_plainOk _ h1 _).mono ?_; rintro e w1 ⟨rfl, e1⟩; subst e1; rw [b1])
      | (go_at_call 60; refine (hP _).mono ?_; rintro e w1 ⟨rfl, e1⟩; subst e1; rw [b2])
      | fail)
    go_ret
    exact ⟨rfl, HB.out _⟩
  rcases b3 : textOk x.text
  · go_enter Try.func52, Try.ntmps52
    go_wp2_with (first
      | (go_at_call 59; refine (impl_plainOk _ h1 _).mono ?_; rintro e w1 ⟨rfl, e1⟩; subst e1; rw [b1])
      | (go_at_call 60; refine (hP _).mono ?_; rintro e w1 ⟨rfl, e1⟩; subst e1; rw [b2])
      | (go_at_call 61; refine (impl_textOk _ h2 _).mono ?_; rintro e w1 ⟨rfl, e1⟩; subst e1; rw [b3])
      | fail)
    go_ret
    exact ⟨rfl, HB.out _⟩
  go_enter Try.func52, Try.ntmps52
  go_wp2_with (first
    | (go_at_call 59; refine (impl_plainOk _ h1 _).mono ?_; rintro e w1 ⟨rfl, e1⟩; subst e1; rw [b1])
    | (go_at_call 60; refine (hP _).mono ?_; rintro e w1 ⟨rfl, e1⟩; subst e1; rw [b2])
    | (go_at_call 61; refine (impl_textOk _ h2 _).mono ?_; rintro e w1 ⟨rfl, e1⟩; subst e1; rw [b3])
    | fail)
  go_ret
  refine ⟨?_, HB.out _⟩
  simp
  omega

theorem impl_met (x : Met) (hx : x.ok) (w : World) : Calls Try.prog 14 #[.agg #[.string x.name, .int .i64 x.kind, .int .i64 x.goal]] w fun e w' => e = .returned (.bool x.okB) ∧ Below w.heap.size w w' :=
  impl_metricOk x.name x.kind x.goal hx.1 w


set_option maxRecDepth 100000 in
set_option maxHeartbeats 2000000 in
theorem impl_mets {v : Value} {xs : List Met} {FF : List Nat} (w : World) (hs : MetsAt w v xs FF) :
    Calls Try.prog 38 #[v] w fun e w' => e = .returned (.bool (dec (Els Met.name Met.okB xs))) ∧ Below w.heap.size w w' := by
  rw [dec_iff (els_iff Met.name Met.okB xs)]
  have HS := Lib.hid hs
  obtain ⟨o, cap, b, off, rfl, hlc, hcm, ho, -, hcell, -⟩ := hs
  have HC := Lib.hid hcell
  have HO := Lib.hid ho
  clear hcell ho
  unfold maxLen at hcm
  by_cases h4 : xs.length ≤ 4
  case neg =>
    have HN : Hid (dec (xs.length ≤ 4 ∧ (∀ x ∈ xs, x.okB = true) ∧ Asc Met.name xs) = false) := dec_no fun h => h4 h.1
    have h4' : (4 : Int) < xs.length := by omega
    go_enter Try.func38, Try.ntmps38
    go_wp2
    go_ret
    exact ⟨by rw [HN.out]; rfl, Below.refl _ _⟩
  have h4' : ¬ (4 : Int) < xs.length := by omega
  go_enter Try.func38, Try.ntmps38
  go_wp2
  go_loopw [10] (fun i wr => ∃ k : Nat, k ≤ xs.length ∧ i = .int .i64 k ∧ Hid (∀ i (h : i < xs.length), i < k → xs[i].okB = true) ∧ Hid (Below w.heap.size w wr)) (fun i _ => xs.length - (intOf i).toNat)
  case atStart => exact ⟨0, Nat.zero_le _, rfl, fun i _ h => absurd h (by omega), Below.refl _ _⟩
  case round =>
    obtain ⟨k, hk, rfl, hr, HB⟩ := hrel
    by_cases hlt : k < xs.length
    · have ho := HO.out (by omega)
      subst ho
      have c0 : wr.cell? ⟨b, off + k * 3, none⟩ = some (.string xs[k].name) := by
        have := (HC.out k hlt).2 0 (by decide)
        rw [HB.out.cell (by exact World.block_lt_of_cell? _ _ this)]; exact this
      have c1 : wr.cell? ⟨b, off + k * 3 + 1, none⟩ = some (.int .i64 xs[k].kind) := by
        have := (HC.out k hlt).2 1 (by decide)
        rw [HB.out.cell (by exact World.block_lt_of_cell? _ _ this)]; exact this
      have c2 : wr.cell? ⟨b, off + k * 3 + 2, none⟩ = some (.int .i64 xs[k].goal) := by
        have := (HC.out k hlt).2 2 (by decide)
        rw [HB.out.cell (by exact World.block_lt_of_cell? _ _ this)]; exact this
      have hM := Lib.hid (impl_met xs[k] (HC.out k hlt).1)
      rcases hb : xs[k].okB
      · have HN : Hid (dec (xs.length ≤ 4 ∧ (∀ x ∈ xs, x.okB = true) ∧ Asc Met.name xs) = false) := dec_no fun h => by rw [h.2.1 _ (List.getElem_mem hlt)] at hb; cases hb
        rw [hb] at hM
        clear hb
        generalize xs[k] = x at *
        go_wp2_with (first
          | (go_at_call 14; refine (hM.out _).mono ?_; rintro e w1 ⟨rfl, hb1⟩; replace HB := Lib.hid ((HB.out.alloc HB.out.size (.cells #[.string x.name, .int .i64 x.kind, .int .i64 x.goal] 27)).trans (hb1.mono (Nat.le_trans HB.out.size (by simp)))); clear hb1)
          | fail)
        go_ret
        exact ⟨by rw [HN.out]; rfl, HB.out⟩
      · have HS' : Hid (∀ i (h : i < xs.length), i < k + 1 → xs[i].okB = true) := fun i h hi => by
          by_cases e : i = k
          · subst e; exact hb
          · exact hr.out i h (by omega)
        rw [hb] at hM
        clear hb
        generalize xs[k] = x at *
        go_wp2_with (first
          | (go_at_call 14; refine (hM.out _).mono ?_; rintro e w1 ⟨rfl, hb1⟩; replace HB := Lib.hid ((HB.out.alloc HB.out.size (.cells #[.string x.name, .int .i64 x.kind, .int .i64 x.goal] 27)).trans (hb1.mono (Nat.le_trans HB.out.size (by simp)))); clear hb1)
          | fail)
        exact ⟨⟨k + 1, by omega, by go_num, HS'.out, HB.out⟩, by simp [intOf]; omega⟩
    · have HN : Hid (dec (Asc Met.name xs) = dec (xs.length ≤ 4 ∧ (∀ x ∈ xs, x.okB = true) ∧ Asc Met.name xs)) := dec_iff ⟨fun h => ⟨h4, fun x hx => by
          obtain ⟨i, hi, rfl⟩ := List.getElem_of_mem hx
          exact hr.out i hi (by omega), h⟩, fun h => h.2.2⟩
      have HI := Lib.hid (inOrder_met wr (RowAt.stay HS.out (by decide) HB.out (Nat.le_refl _)) h4)
      go_wp2_with (first
        | (go_at_call 50; refine HI.out.mono ?_; rintro e w1 ⟨rfl, hb1⟩; replace HB := Lib.hid (HB.out.trans (hb1.mono HB.out.size)); clear hb1)
        | fail)
      go_ret
      exact ⟨by rw [← HN.out]; rfl, HB.out⟩


set_option maxRecDepth 100000 in
set_option maxHeartbeats 2000000 in
theorem impl_nots {v : Value} {xs : List Not} {FF : List Nat} (w : World) (hs : NotsAt w v xs FF) :
    Calls Try.prog 39 #[v] w fun e w' => e = .returned (.bool (dec (Els Not.key Not.okB xs))) ∧ Below w.heap.size w w' := by
  rw [dec_iff (els_iff Not.key Not.okB xs)]
  have HS := Lib.hid hs
  obtain ⟨o, cap, b, off, rfl, hlc, hcm, ho, -, hcell, -⟩ := hs
  have HC := Lib.hid hcell
  have HO := Lib.hid ho
  clear hcell ho
  unfold maxLen at hcm
  by_cases h4 : xs.length ≤ 4
  case neg =>
    have HN : Hid (dec (xs.length ≤ 4 ∧ (∀ x ∈ xs, x.okB = true) ∧ Asc Not.key xs) = false) := dec_no fun h => h4 h.1
    have h4' : (4 : Int) < xs.length := by omega
    go_enter Try.func39, Try.ntmps39
    go_wp2
    go_ret
    exact ⟨by rw [HN.out]; rfl, Below.refl _ _⟩
  have h4' : ¬ (4 : Int) < xs.length := by omega
  go_enter Try.func39, Try.ntmps39
  go_wp2
  go_loopw [10] (fun i wr => ∃ k : Nat, k ≤ xs.length ∧ i = .int .i64 k ∧ Hid (∀ i (h : i < xs.length), i < k → xs[i].okB = true) ∧ Hid (Below w.heap.size w wr)) (fun i _ => xs.length - (intOf i).toNat)
  case atStart => exact ⟨0, Nat.zero_le _, rfl, fun i _ h => absurd h (by omega), Below.refl _ _⟩
  case round =>
    obtain ⟨k, hk, rfl, hr, HB⟩ := hrel
    by_cases hlt : k < xs.length
    · have ho := HO.out (by omega)
      subst ho
      have c0 : wr.cell? ⟨b, off + k * 2, none⟩ = some (.string xs[k].key) := by
        have := (HC.out k hlt).2 0 (by decide)
        rw [HB.out.cell (by exact World.block_lt_of_cell? _ _ this)]; exact this
      have c1 : wr.cell? ⟨b, off + k * 2 + 1, none⟩ = some (.string xs[k].text) := by
        have := (HC.out k hlt).2 1 (by decide)
        rw [HB.out.cell (by exact World.block_lt_of_cell? _ _ this)]; exact this
      have hM := Lib.hid (impl_not xs[k] (HC.out k hlt).1)
      rcases hb : xs[k].okB
      · have HN : Hid (dec (xs.length ≤ 4 ∧ (∀ x ∈ xs, x.okB = true) ∧ Asc Not.key xs) = false) := dec_no fun h => by rw [h.2.1 _ (List.getElem_mem hlt)] at hb; cases hb
        rw [hb] at hM
        clear hb
        generalize xs[k] = x at *
        go_wp2_with (first
          | (go_at_call 52; refine (hM.out _).mono ?_; rintro e w1 ⟨rfl, hb1⟩; replace HB := Lib.hid ((HB.out.alloc HB.out.size (.cells #[.string x.key, .string x.text] 64)).trans (hb1.mono (Nat.le_trans HB.out.size (by simp)))); clear hb1)
          | fail)
        go_ret
        exact ⟨by rw [HN.out]; rfl, HB.out⟩
      · have HS' : Hid (∀ i (h : i < xs.length), i < k + 1 → xs[i].okB = true) := fun i h hi => by
          by_cases e : i = k
          · subst e; exact hb
          · exact hr.out i h (by omega)
        rw [hb] at hM
        clear hb
        generalize xs[k] = x at *
        go_wp2_with (first
          | (go_at_call 52; refine (hM.out _).mono ?_; rintro e w1 ⟨rfl, hb1⟩; replace HB := Lib.hid ((HB.out.alloc HB.out.size (.cells #[.string x.key, .string x.text] 64)).trans (hb1.mono (Nat.le_trans HB.out.size (by simp)))); clear hb1)
          | fail)
        exact ⟨⟨k + 1, by omega, by go_num, HS'.out, HB.out⟩, by simp [intOf]; omega⟩
    · have HN : Hid (dec (Asc Not.key xs) = dec (xs.length ≤ 4 ∧ (∀ x ∈ xs, x.okB = true) ∧ Asc Not.key xs)) := dec_iff ⟨fun h => ⟨h4, fun x hx => by
          obtain ⟨i, hi, rfl⟩ := List.getElem_of_mem hx
          exact hr.out i hi (by omega), h⟩, fun h => h.2.2⟩
      have HI := Lib.hid (inOrder_not wr (RowAt.stay HS.out (by decide) HB.out (Nat.le_refl _)) h4)
      go_wp2_with (first
        | (go_at_call 53; refine HI.out.mono ?_; rintro e w1 ⟨rfl, hb1⟩; replace HB := Lib.hid (HB.out.trans (hb1.mono HB.out.size)); clear hb1)
        | fail)
      go_ret
      exact ⟨by rw [← HN.out]; rfl, HB.out⟩

end Go.Proofs.Ytjopjdidbkhmnaa
