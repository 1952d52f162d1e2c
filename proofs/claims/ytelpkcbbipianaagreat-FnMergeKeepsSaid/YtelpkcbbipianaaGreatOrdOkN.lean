/-
  What is proved: the model's l6Notes tells of a list of notes whether it is as an order's must be.
-/
import Derived.Test.YtelpkcbbipianaaGreatPartAL
import Derived.Test.YtelpkcbbipianaaGreatPartAA
namespace Go.Proofs.YtelpkcbbipianaaGreat
open Go Go.RowKit

/-- Whether a Key is one of ours. -/
def oursB (s : ByteArray) : Bool := Lib.hasPrefix s.data.toList [113, 117, 97, 121, 47]
def Not.okB (n : Not) : Bool := ((plainB n.key && !oursB n.key) && textOk n.text) && decide (n.text.size ≤ 40)

theorem ours_short {s : ByteArray} (h : ¬ 5 ≤ s.size) : oursB s = false := by
  have hl : s.data.toList.length = s.size := by simp
  unfold oursB Lib.hasPrefix
  rcases Bool.eq_false_or_eq_true (List.isPrefixOf [113, 117, 97, 121, 47] s.data.toList) with h1 | h1
  · have := (List.isPrefixOf_iff_prefix.1 h1).length_le
    simp only [List.length_cons, List.length_nil] at this
    omega
  · exact h1

theorem ours_cut {s : ByteArray} (h : 5 ≤ s.size) : ((s.extract 0 5).toList == [113, 117, 97, 121, 47]) = oursB s := by
  have e : (s.extract 0 5).toList = s.data.toList.take 5 := by
    rw [Lib.toList_data]
    simp [ByteArray.data_extract, List.extract_eq_take_drop]
  have hl : s.data.toList.length = s.size := by simp
  rw [e]
  unfold oursB Lib.hasPrefix
  generalize s.data.toList = l at *
  match l, hl with
  | [], hl => simp at hl; omega
  | [_], hl => simp at hl; omega
  | [_, _], hl => simp at hl; omega
  | [_, _, _], hl => simp at hl; omega
  | [_, _, _, _], hl => simp at hl; omega
  | a :: b :: c :: d :: e :: l, _ =>
    rw [Bool.eq_iff_iff]
    simp only [List.take_succ_cons, List.take_zero, List.isPrefixOf, Bool.and_eq_true, beq_iff_eq, List.cons.injEq, and_true]
    constructor
    · rintro ⟨rfl, rfl, rfl, rfl, rfl⟩; simp
    · rintro ⟨rfl, rfl, rfl, rfl, rfl⟩; simp

set_option maxHeartbeats 1000000 in
theorem spec_ours (s : ByteArray) (hm : s.size ≤ maxLen) (w : World) : Calls Tryz.prog 104 #[.string s] w fun e w' => e = .returned (.bool (oursB s)) ∧ w' = w := by
  unfold maxLen at hm
  by_cases h : 5 ≤ s.size
  · have h' : (5 : Int) ≤ s.size := by omega
    have HC := Lib.hid (ours_cut h)
    go_enter Tryz.func104, Tryz.ntmps104
    go_wp2
    go_ret
    exact ⟨by rw [← HC.out]; rfl, rfl⟩
  · have HC := Lib.hid (ours_short h)
    have h' : ¬ (5 : Int) ≤ s.size := by omega
    go_enter Tryz.func104, Tryz.ntmps104
    go_wp2
    go_ret
    exact ⟨by rw [HC.out]; rfl, rfl⟩

set_option maxRecDepth 100000 in
set_option maxHeartbeats 4000000 in
theorem spec_nots {v : Value} {xs : List Not} {F : List Nat} (w : World) (hs : NotsAt w v xs F) :
    Calls Tryz.prog 86 #[v] w fun e w' => e = .returned (.bool (dec (Els Not.key Not.okB xs))) ∧ Below w.heap.size w w' := by
  obtain ⟨o, cap, b, off, rfl, hlc, hcm, ho, -, hcell, -⟩ := hs
  have HC := Lib.hid hcell
  have HO := Lib.hid ho
  clear hcell ho
  unfold maxLen at hcm
  have hge := str_geqO
  go_enter Tryz.func86, Tryz.ntmps86
  go_wp2
  go_loopw [3] (fun i wr => ∃ k : Nat, k ≤ xs.length ∧ i = .int .i64 k ∧ Hid (∀ i (h : i < xs.length), i < k → ElAt Not.key Not.okB xs i h) ∧ Hid (Below w.heap.size w wr)) (fun i _ => xs.length - (intOf i).toNat)
  case atStart => exact ⟨0, Nat.zero_le _, rfl, fun i _ h => absurd h (by omega), Below.refl _ _⟩
  case round =>
    obtain ⟨k, hk, rfl, hr, HB⟩ := hrel
    by_cases hlt : k < xs.length
    · have ho := HO.out (by omega)
      subst ho
      have hcx : wr.cell? ⟨b, off + k * 2, none⟩ = some (.string xs[k].key) ∧ wr.cell? ⟨b, off + k * 2 + 1, none⟩ = some (.string xs[k].text) := by
        have a0 := (HC.out k hlt).2 0 (by decide)
        have a1 := (HC.out k hlt).2 1 (by decide)
        have hl := World.block_lt_of_cell? _ _ a0
        exact ⟨(HB.out.cell (by exact hl)).trans a0, (HB.out.cell (by exact hl)).trans a1⟩
      have hP := Lib.hid (spec_plainOk xs[k].key (HC.out k hlt).1.1)
      have hO := Lib.hid (spec_ours xs[k].key (HC.out k hlt).1.1)
      have hT := Lib.hid (spec_textOk xs[k].text (HC.out k hlt).1.2)
      have hm1 := (HC.out k hlt).1.2
      unfold maxLen at hm1
      obtain ⟨c0, c1⟩ := hcx
      have g0 : ¬ xs.length ≤ k := by omega
      have HK : Hid (xs[k].okB = (((plainB xs[k].key && !oursB xs[k].key) && textOk xs[k].text) && decide (xs[k].text.size ≤ 40))) := rfl
      have HNo : Hid (xs[k].okB = false → dec (Els Not.key Not.okB xs) = false) := fun h => els_no (nm := Not.key) (ok := Not.okB) hlt fun h' => by rw [h'.1] at h; cases h
      by_cases b1 : plainB xs[k].key = true
      case neg =>
        have b1' : plainB xs[k].key = false := by simpa using b1
        rw [b1'] at hP
        have HN := Lib.hid (HNo.out (by rw [HK.out, b1']; rfl))
        clear b1 b1' HK HNo hO hT
        generalize xs[k] = x at *
        go_wp2
        refine wp_region_held_drew (S := (fun w' => w'.cell? ⟨b, off + k * 2, none⟩ = some (.string x.key) ∧ w'.cell? ⟨b, off + k * 2 + 1, none⟩ = some (.string x.text))) (by kernel_rfl) ?_ (fun hHeld => ?_)
        · go_keep
        refine takeV 0 10 (.slice (some ⟨b, off, none⟩) xs.length cap) rfl rfl (Or.inl ⟨by rfl, ?_⟩) ?_
        · intro w hSw
          go_simp
        simp only [Act.put, List.setIfInBounds_toArray, List.set_cons_zero, List.set_cons_succ]
        refine takeV 1 11 (.int .i64 (k)) rfl rfl (Or.inl ⟨by rfl, ?_⟩) ?_
        · intro w hSw
          go_simp
        simp only [Act.put, List.setIfInBounds_toArray, List.set_cons_zero, List.set_cons_succ]
        refine takeV 2 12 (.pointer (some ⟨b, off + k * 2, none⟩)) rfl rfl (Or.inl ⟨by rfl, ?_⟩) ?_
        · intro w hSw
          go_simp
        simp only [Act.put, List.setIfInBounds_toArray, List.set_cons_zero, List.set_cons_succ]
        refine takeV 3 13 (.pointer (some ⟨b, off + k * 2, none⟩)) rfl rfl (Or.inl ⟨by rfl, ?_⟩) ?_
        · intro w hSw
          go_simp
        simp only [Act.put, List.setIfInBounds_toArray, List.set_cons_zero, List.set_cons_succ]
        refine takeV 4 14 (.string x.key) rfl rfl (Or.inl ⟨by rfl, ?_⟩) ?_
        · intro w hSw
          go_simp
        simp only [Act.put, List.setIfInBounds_toArray, List.set_cons_zero, List.set_cons_succ]
        refine wpAnyH_ready (rs := [5]) (by kernel_rfl) (by simp) ?_
        refine AllReadyH.cons (o := { dst := some 15, op := Op.call { callee := Callee.value (Operand.func 103), args := #[Operand.tmp 14], argTypes := #[9] }, type := 4, pos := "l06_order.go:31", after := #[{ on := 4, ground := Ground.data }], guard := none }) rfl (fun K hK => ?_) AllReadyH.nil
        go_simp
        refine (hP.out _).mono ?_
        rintro e w1 ⟨rfl, e1⟩
        subst e1
        go_wp2_with fail
        refine hK.out _ _ ?_ (fun hHeld => ?_)
        · go_keep
        clear hK K
        refine takeV 6 16 (.bool true) rfl rfl (Or.inl ⟨by rfl, ?_⟩) ?_
        · intro w hSw
          go_simp
        simp only [Act.put, List.setIfInBounds_toArray, List.set_cons_zero, List.set_cons_succ]
        refine takeV 7 17 (.bool true) rfl rfl (Or.inl ⟨by rfl, ?_⟩) ?_
        · intro w hSw
          go_simp
        simp only [Act.put, List.setIfInBounds_toArray, List.set_cons_zero, List.set_cons_succ]
        refine takeV 8 18 undef rfl rfl (Or.inr ⟨by rfl, rfl⟩) ?_
        simp only [Act.put, List.setIfInBounds_toArray, List.set_cons_zero, List.set_cons_succ]
        refine takeV 9 19 undef rfl rfl (Or.inr ⟨by rfl, rfl⟩) ?_
        simp only [Act.put, List.setIfInBounds_toArray, List.set_cons_zero, List.set_cons_succ]
        refine takeV 10 20 undef rfl rfl (Or.inr ⟨by rfl, rfl⟩) ?_
        simp only [Act.put, List.setIfInBounds_toArray, List.set_cons_zero, List.set_cons_succ]
        refine takeV 11 21 undef rfl rfl (Or.inr ⟨by rfl, rfl⟩) ?_
        simp only [Act.put, List.setIfInBounds_toArray, List.set_cons_zero, List.set_cons_succ]
        refine takeV 12 22 undef rfl rfl (Or.inr ⟨by rfl, rfl⟩) ?_
        simp only [Act.put, List.setIfInBounds_toArray, List.set_cons_zero, List.set_cons_succ]
        refine takeV 13 23 undef rfl rfl (Or.inr ⟨by rfl, rfl⟩) ?_
        simp only [Act.put, List.setIfInBounds_toArray, List.set_cons_zero, List.set_cons_succ]
        refine takeV 14 24 (.bool true) rfl rfl (Or.inl ⟨by rfl, ?_⟩) ?_
        · intro w hSw
          go_simp
        simp only [Act.put, List.setIfInBounds_toArray, List.set_cons_zero, List.set_cons_succ]
        refine takeV 15 25 (.bool true) rfl rfl (Or.inl ⟨by rfl, ?_⟩) ?_
        · intro w hSw
          go_simp
        simp only [Act.put, List.setIfInBounds_toArray, List.set_cons_zero, List.set_cons_succ]
        refine takeV 16 26 undef rfl rfl (Or.inr ⟨by rfl, rfl⟩) ?_
        simp only [Act.put, List.setIfInBounds_toArray, List.set_cons_zero, List.set_cons_succ]
        refine takeV 17 27 undef rfl rfl (Or.inr ⟨by rfl, rfl⟩) ?_
        simp only [Act.put, List.setIfInBounds_toArray, List.set_cons_zero, List.set_cons_succ]
        refine takeV 18 28 undef rfl rfl (Or.inr ⟨by rfl, rfl⟩) ?_
        simp only [Act.put, List.setIfInBounds_toArray, List.set_cons_zero, List.set_cons_succ]
        refine takeV 19 29 undef rfl rfl (Or.inr ⟨by rfl, rfl⟩) ?_
        simp only [Act.put, List.setIfInBounds_toArray, List.set_cons_zero, List.set_cons_succ]
        refine takeV 20 30 undef rfl rfl (Or.inr ⟨by rfl, rfl⟩) ?_
        simp only [Act.put, List.setIfInBounds_toArray, List.set_cons_zero, List.set_cons_succ]
        refine takeV 21 31 undef rfl rfl (Or.inr ⟨by rfl, rfl⟩) ?_
        simp only [Act.put, List.setIfInBounds_toArray, List.set_cons_zero, List.set_cons_succ]
        refine takeV 22 32 undef rfl rfl (Or.inr ⟨by rfl, rfl⟩) ?_
        simp only [Act.put, List.setIfInBounds_toArray, List.set_cons_zero, List.set_cons_succ]
        refine takeV 23 33 (.bool true) rfl rfl (Or.inl ⟨by rfl, ?_⟩) ?_
        · intro w hSw
          go_simp
        simp only [Act.put, List.setIfInBounds_toArray, List.set_cons_zero, List.set_cons_succ]
        refine takeV 24 34 (.bool true) rfl rfl (Or.inl ⟨by rfl, ?_⟩) ?_
        · intro w hSw
          go_simp
        simp only [Act.put, List.setIfInBounds_toArray, List.set_cons_zero, List.set_cons_succ]
        refine takeV 25 35 undef rfl rfl (Or.inr ⟨by rfl, rfl⟩) ?_
        simp only [Act.put, List.setIfInBounds_toArray, List.set_cons_zero, List.set_cons_succ]
        refine takeV 26 36 undef rfl rfl (Or.inr ⟨by rfl, rfl⟩) ?_
        simp only [Act.put, List.setIfInBounds_toArray, List.set_cons_zero, List.set_cons_succ]
        refine takeV 27 37 undef rfl rfl (Or.inr ⟨by rfl, rfl⟩) ?_
        simp only [Act.put, List.setIfInBounds_toArray, List.set_cons_zero, List.set_cons_succ]
        refine takeV 28 38 undef rfl rfl (Or.inr ⟨by rfl, rfl⟩) ?_
        simp only [Act.put, List.setIfInBounds_toArray, List.set_cons_zero, List.set_cons_succ]
        refine takeV 29 39 undef rfl rfl (Or.inr ⟨by rfl, rfl⟩) ?_
        simp only [Act.put, List.setIfInBounds_toArray, List.set_cons_zero, List.set_cons_succ]
        refine takeV 30 40 undef rfl rfl (Or.inr ⟨by rfl, rfl⟩) ?_
        simp only [Act.put, List.setIfInBounds_toArray, List.set_cons_zero, List.set_cons_succ]
        refine takeV 31 41 undef rfl rfl (Or.inr ⟨by rfl, rfl⟩) ?_
        simp only [Act.put, List.setIfInBounds_toArray, List.set_cons_zero, List.set_cons_succ]
        refine takeV 32 42 (.bool true) rfl rfl (Or.inl ⟨by rfl, ?_⟩) ?_
        · intro w hSw
          go_simp
        simp only [Act.put, List.setIfInBounds_toArray, List.set_cons_zero, List.set_cons_succ]
        refine takeV 33 43 (.bool true) rfl rfl (Or.inl ⟨by rfl, ?_⟩) ?_
        · intro w hSw
          go_simp
        simp only [Act.put, List.setIfInBounds_toArray, List.set_cons_zero, List.set_cons_succ]
        refine takeV 34 44 undef rfl rfl (Or.inr ⟨by rfl, rfl⟩) ?_
        simp only [Act.put, List.setIfInBounds_toArray, List.set_cons_zero, List.set_cons_succ]
        refine takeV 35 45 undef rfl rfl (Or.inr ⟨by rfl, rfl⟩) ?_
        simp only [Act.put, List.setIfInBounds_toArray, List.set_cons_zero, List.set_cons_succ]
        refine takeV 36 46 undef rfl rfl (Or.inr ⟨by rfl, rfl⟩) ?_
        simp only [Act.put, List.setIfInBounds_toArray, List.set_cons_zero, List.set_cons_succ]
        refine takeV 37 47 undef rfl rfl (Or.inr ⟨by rfl, rfl⟩) ?_
        simp only [Act.put, List.setIfInBounds_toArray, List.set_cons_zero, List.set_cons_succ]
        refine takeV 38 48 undef rfl rfl (Or.inr ⟨by rfl, rfl⟩) ?_
        simp only [Act.put, List.setIfInBounds_toArray, List.set_cons_zero, List.set_cons_succ]
        refine takeV 39 49 undef rfl rfl (Or.inr ⟨by rfl, rfl⟩) ?_
        simp only [Act.put, List.setIfInBounds_toArray, List.set_cons_zero, List.set_cons_succ]
        refine takeV 40 50 undef rfl rfl (Or.inr ⟨by rfl, rfl⟩) ?_
        simp only [Act.put, List.setIfInBounds_toArray, List.set_cons_zero, List.set_cons_succ]
        refine takeV 41 51 undef rfl rfl (Or.inr ⟨by rfl, rfl⟩) ?_
        simp only [Act.put, List.setIfInBounds_toArray, List.set_cons_zero, List.set_cons_succ]
        refine takeV 42 52 undef rfl rfl (Or.inr ⟨by rfl, rfl⟩) ?_
        simp only [Act.put, List.setIfInBounds_toArray, List.set_cons_zero, List.set_cons_succ]
        refine takeV 43 53 undef rfl rfl (Or.inr ⟨by rfl, rfl⟩) ?_
        simp only [Act.put, List.setIfInBounds_toArray, List.set_cons_zero, List.set_cons_succ]
        refine takeV 44 54 undef rfl rfl (Or.inr ⟨by rfl, rfl⟩) ?_
        simp only [Act.put, List.setIfInBounds_toArray, List.set_cons_zero, List.set_cons_succ]
        refine takeV 45 55 undef rfl rfl (Or.inr ⟨by rfl, rfl⟩) ?_
        simp only [Act.put, List.setIfInBounds_toArray, List.set_cons_zero, List.set_cons_succ]
        refine takeV 46 56 undef rfl rfl (Or.inr ⟨by rfl, rfl⟩) ?_
        simp only [Act.put, List.setIfInBounds_toArray, List.set_cons_zero, List.set_cons_succ]
        refine takeV 47 57 undef rfl rfl (Or.inr ⟨by rfl, rfl⟩) ?_
        simp only [Act.put, List.setIfInBounds_toArray, List.set_cons_zero, List.set_cons_succ]
        refine takeV 48 58 undef rfl rfl (Or.inr ⟨by rfl, rfl⟩) ?_
        simp only [Act.put, List.setIfInBounds_toArray, List.set_cons_zero, List.set_cons_succ]
        refine takeV 49 59 undef rfl rfl (Or.inr ⟨by rfl, rfl⟩) ?_
        simp only [Act.put, List.setIfInBounds_toArray, List.set_cons_zero, List.set_cons_succ]
        refine takeV 50 60 (.bool true) rfl rfl (Or.inl ⟨by rfl, ?_⟩) ?_
        · intro w hSw
          go_simp
        simp only [Act.put, List.setIfInBounds_toArray, List.set_cons_zero, List.set_cons_succ]
        refine wpAnyH_done (by kernel_rfl) ?_ _
        go_wp2
        go_ret
        exact ⟨by rw [HN.out]; rfl, below_drewO HB.out _⟩
      rw [b1] at hP
      by_cases b2 : oursB xs[k].key = true
      · rw [b2] at hO
        have HN := Lib.hid (HNo.out (by rw [HK.out, b1, b2]; rfl))
        clear b1 b2 HK HNo hT
        generalize xs[k] = x at *
        go_wp2
        refine wp_region_held_drew (S := (fun w' => w'.cell? ⟨b, off + k * 2, none⟩ = some (.string x.key) ∧ w'.cell? ⟨b, off + k * 2 + 1, none⟩ = some (.string x.text))) (by kernel_rfl) ?_ (fun hHeld => ?_)
        · go_keep
        refine takeV 0 10 (.slice (some ⟨b, off, none⟩) xs.length cap) rfl rfl (Or.inl ⟨by rfl, ?_⟩) ?_
        · intro w hSw
          go_simp
        simp only [Act.put, List.setIfInBounds_toArray, List.set_cons_zero, List.set_cons_succ]
        refine takeV 1 11 (.int .i64 (k)) rfl rfl (Or.inl ⟨by rfl, ?_⟩) ?_
        · intro w hSw
          go_simp
        simp only [Act.put, List.setIfInBounds_toArray, List.set_cons_zero, List.set_cons_succ]
        refine takeV 2 12 (.pointer (some ⟨b, off + k * 2, none⟩)) rfl rfl (Or.inl ⟨by rfl, ?_⟩) ?_
        · intro w hSw
          go_simp
        simp only [Act.put, List.setIfInBounds_toArray, List.set_cons_zero, List.set_cons_succ]
        refine takeV 3 13 (.pointer (some ⟨b, off + k * 2, none⟩)) rfl rfl (Or.inl ⟨by rfl, ?_⟩) ?_
        · intro w hSw
          go_simp
        simp only [Act.put, List.setIfInBounds_toArray, List.set_cons_zero, List.set_cons_succ]
        refine takeV 4 14 (.string x.key) rfl rfl (Or.inl ⟨by rfl, ?_⟩) ?_
        · intro w hSw
          go_simp
        simp only [Act.put, List.setIfInBounds_toArray, List.set_cons_zero, List.set_cons_succ]
        refine wpAnyH_ready (rs := [5]) (by kernel_rfl) (by simp) ?_
        refine AllReadyH.cons (o := { dst := some 15, op := Op.call { callee := Callee.value (Operand.func 103), args := #[Operand.tmp 14], argTypes := #[9] }, type := 4, pos := "l06_order.go:31", after := #[{ on := 4, ground := Ground.data }], guard := none }) rfl (fun K hK => ?_) AllReadyH.nil
        go_simp
        refine (hP.out _).mono ?_
        rintro e w1 ⟨rfl, e1⟩
        subst e1
        go_wp2_with fail
        refine hK.out _ _ ?_ (fun hHeld => ?_)
        · go_keep
        clear hK K
        refine takeV 6 16 (.bool false) rfl rfl (Or.inl ⟨by rfl, ?_⟩) ?_
        · intro w hSw
          go_simp
        simp only [Act.put, List.setIfInBounds_toArray, List.set_cons_zero, List.set_cons_succ]
        refine takeV 7 17 (.bool false) rfl rfl (Or.inl ⟨by rfl, ?_⟩) ?_
        · intro w hSw
          go_simp
        simp only [Act.put, List.setIfInBounds_toArray, List.set_cons_zero, List.set_cons_succ]
        refine takeV 8 18 (.slice (some ⟨b, off, none⟩) xs.length cap) rfl rfl (Or.inl ⟨by rfl, ?_⟩) ?_
        · intro w hSw
          go_simp
        simp only [Act.put, List.setIfInBounds_toArray, List.set_cons_zero, List.set_cons_succ]
        refine takeV 9 19 (.int .i64 (k)) rfl rfl (Or.inl ⟨by rfl, ?_⟩) ?_
        · intro w hSw
          go_simp
        simp only [Act.put, List.setIfInBounds_toArray, List.set_cons_zero, List.set_cons_succ]
        refine takeV 10 20 (.pointer (some ⟨b, off + k * 2, none⟩)) rfl rfl (Or.inl ⟨by rfl, ?_⟩) ?_
        · intro w hSw
          go_simp
        simp only [Act.put, List.setIfInBounds_toArray, List.set_cons_zero, List.set_cons_succ]
        refine takeV 11 21 (.pointer (some ⟨b, off + k * 2, none⟩)) rfl rfl (Or.inl ⟨by rfl, ?_⟩) ?_
        · intro w hSw
          go_simp
        simp only [Act.put, List.setIfInBounds_toArray, List.set_cons_zero, List.set_cons_succ]
        refine takeV 12 22 (.string x.key) rfl rfl (Or.inl ⟨by rfl, ?_⟩) ?_
        · intro w hSw
          go_simp
        simp only [Act.put, List.setIfInBounds_toArray, List.set_cons_zero, List.set_cons_succ]
        refine wpAnyH_ready (rs := [13]) (by kernel_rfl) (by simp) ?_
        refine AllReadyH.cons (o := { dst := some 23, op := Op.call { callee := Callee.value (Operand.func 104), args := #[Operand.tmp 22], argTypes := #[9] }, type := 4, pos := "l06_order.go:31", after := #[{ on := 12, ground := Ground.data }, { on := 7, ground := Ground.chain }, { on := 7, ground := Ground.guard }], guard := some (7, false) }) rfl (fun K hK => ?_) AllReadyH.nil
        go_simp
        refine (hO.out _).mono ?_
        rintro e w1 ⟨rfl, e1⟩
        subst e1
        go_wp2_with fail
        refine hK.out _ _ ?_ (fun hHeld => ?_)
        · go_keep
        clear hK K
        refine takeV 14 24 (.bool true) rfl rfl (Or.inl ⟨by rfl, ?_⟩) ?_
        · intro w hSw
          go_simp
        simp only [Act.put, List.setIfInBounds_toArray, List.set_cons_zero, List.set_cons_succ]
        refine takeV 15 25 (.bool true) rfl rfl (Or.inl ⟨by rfl, ?_⟩) ?_
        · intro w hSw
          go_simp
        simp only [Act.put, List.setIfInBounds_toArray, List.set_cons_zero, List.set_cons_succ]
        refine takeV 16 26 undef rfl rfl (Or.inr ⟨by rfl, rfl⟩) ?_
        simp only [Act.put, List.setIfInBounds_toArray, List.set_cons_zero, List.set_cons_succ]
        refine takeV 17 27 undef rfl rfl (Or.inr ⟨by rfl, rfl⟩) ?_
        simp only [Act.put, List.setIfInBounds_toArray, List.set_cons_zero, List.set_cons_succ]
        refine takeV 18 28 undef rfl rfl (Or.inr ⟨by rfl, rfl⟩) ?_
        simp only [Act.put, List.setIfInBounds_toArray, List.set_cons_zero, List.set_cons_succ]
        refine takeV 19 29 undef rfl rfl (Or.inr ⟨by rfl, rfl⟩) ?_
        simp only [Act.put, List.setIfInBounds_toArray, List.set_cons_zero, List.set_cons_succ]
        refine takeV 20 30 undef rfl rfl (Or.inr ⟨by rfl, rfl⟩) ?_
        simp only [Act.put, List.setIfInBounds_toArray, List.set_cons_zero, List.set_cons_succ]
        refine takeV 21 31 undef rfl rfl (Or.inr ⟨by rfl, rfl⟩) ?_
        simp only [Act.put, List.setIfInBounds_toArray, List.set_cons_zero, List.set_cons_succ]
        refine takeV 22 32 undef rfl rfl (Or.inr ⟨by rfl, rfl⟩) ?_
        simp only [Act.put, List.setIfInBounds_toArray, List.set_cons_zero, List.set_cons_succ]
        refine takeV 23 33 (.bool true) rfl rfl (Or.inl ⟨by rfl, ?_⟩) ?_
        · intro w hSw
          go_simp
        simp only [Act.put, List.setIfInBounds_toArray, List.set_cons_zero, List.set_cons_succ]
        refine takeV 24 34 (.bool true) rfl rfl (Or.inl ⟨by rfl, ?_⟩) ?_
        · intro w hSw
          go_simp
        simp only [Act.put, List.setIfInBounds_toArray, List.set_cons_zero, List.set_cons_succ]
        refine takeV 25 35 undef rfl rfl (Or.inr ⟨by rfl, rfl⟩) ?_
        simp only [Act.put, List.setIfInBounds_toArray, List.set_cons_zero, List.set_cons_succ]
        refine takeV 26 36 undef rfl rfl (Or.inr ⟨by rfl, rfl⟩) ?_
        simp only [Act.put, List.setIfInBounds_toArray, List.set_cons_zero, List.set_cons_succ]
        refine takeV 27 37 undef rfl rfl (Or.inr ⟨by rfl, rfl⟩) ?_
        simp only [Act.put, List.setIfInBounds_toArray, List.set_cons_zero, List.set_cons_succ]
        refine takeV 28 38 undef rfl rfl (Or.inr ⟨by rfl, rfl⟩) ?_
        simp only [Act.put, List.setIfInBounds_toArray, List.set_cons_zero, List.set_cons_succ]
        refine takeV 29 39 undef rfl rfl (Or.inr ⟨by rfl, rfl⟩) ?_
        simp only [Act.put, List.setIfInBounds_toArray, List.set_cons_zero, List.set_cons_succ]
        refine takeV 30 40 undef rfl rfl (Or.inr ⟨by rfl, rfl⟩) ?_
        simp only [Act.put, List.setIfInBounds_toArray, List.set_cons_zero, List.set_cons_succ]
        refine takeV 31 41 undef rfl rfl (Or.inr ⟨by rfl, rfl⟩) ?_
        simp only [Act.put, List.setIfInBounds_toArray, List.set_cons_zero, List.set_cons_succ]
        refine takeV 32 42 (.bool true) rfl rfl (Or.inl ⟨by rfl, ?_⟩) ?_
        · intro w hSw
          go_simp
        simp only [Act.put, List.setIfInBounds_toArray, List.set_cons_zero, List.set_cons_succ]
        refine takeV 33 43 (.bool true) rfl rfl (Or.inl ⟨by rfl, ?_⟩) ?_
        · intro w hSw
          go_simp
        simp only [Act.put, List.setIfInBounds_toArray, List.set_cons_zero, List.set_cons_succ]
        refine takeV 34 44 undef rfl rfl (Or.inr ⟨by rfl, rfl⟩) ?_
        simp only [Act.put, List.setIfInBounds_toArray, List.set_cons_zero, List.set_cons_succ]
        refine takeV 35 45 undef rfl rfl (Or.inr ⟨by rfl, rfl⟩) ?_
        simp only [Act.put, List.setIfInBounds_toArray, List.set_cons_zero, List.set_cons_succ]
        refine takeV 36 46 undef rfl rfl (Or.inr ⟨by rfl, rfl⟩) ?_
        simp only [Act.put, List.setIfInBounds_toArray, List.set_cons_zero, List.set_cons_succ]
        refine takeV 37 47 undef rfl rfl (Or.inr ⟨by rfl, rfl⟩) ?_
        simp only [Act.put, List.setIfInBounds_toArray, List.set_cons_zero, List.set_cons_succ]
        refine takeV 38 48 undef rfl rfl (Or.inr ⟨by rfl, rfl⟩) ?_
        simp only [Act.put, List.setIfInBounds_toArray, List.set_cons_zero, List.set_cons_succ]
        refine takeV 39 49 undef rfl rfl (Or.inr ⟨by rfl, rfl⟩) ?_
        simp only [Act.put, List.setIfInBounds_toArray, List.set_cons_zero, List.set_cons_succ]
        refine takeV 40 50 undef rfl rfl (Or.inr ⟨by rfl, rfl⟩) ?_
        simp only [Act.put, List.setIfInBounds_toArray, List.set_cons_zero, List.set_cons_succ]
        refine takeV 41 51 undef rfl rfl (Or.inr ⟨by rfl, rfl⟩) ?_
        simp only [Act.put, List.setIfInBounds_toArray, List.set_cons_zero, List.set_cons_succ]
        refine takeV 42 52 undef rfl rfl (Or.inr ⟨by rfl, rfl⟩) ?_
        simp only [Act.put, List.setIfInBounds_toArray, List.set_cons_zero, List.set_cons_succ]
        refine takeV 43 53 undef rfl rfl (Or.inr ⟨by rfl, rfl⟩) ?_
        simp only [Act.put, List.setIfInBounds_toArray, List.set_cons_zero, List.set_cons_succ]
        refine takeV 44 54 undef rfl rfl (Or.inr ⟨by rfl, rfl⟩) ?_
        simp only [Act.put, List.setIfInBounds_toArray, List.set_cons_zero, List.set_cons_succ]
        refine takeV 45 55 undef rfl rfl (Or.inr ⟨by rfl, rfl⟩) ?_
        simp only [Act.put, List.setIfInBounds_toArray, List.set_cons_zero, List.set_cons_succ]
        refine takeV 46 56 undef rfl rfl (Or.inr ⟨by rfl, rfl⟩) ?_
        simp only [Act.put, List.setIfInBounds_toArray, List.set_cons_zero, List.set_cons_succ]
        refine takeV 47 57 undef rfl rfl (Or.inr ⟨by rfl, rfl⟩) ?_
        simp only [Act.put, List.setIfInBounds_toArray, List.set_cons_zero, List.set_cons_succ]
        refine takeV 48 58 undef rfl rfl (Or.inr ⟨by rfl, rfl⟩) ?_
        simp only [Act.put, List.setIfInBounds_toArray, List.set_cons_zero, List.set_cons_succ]
        refine takeV 49 59 undef rfl rfl (Or.inr ⟨by rfl, rfl⟩) ?_
        simp only [Act.put, List.setIfInBounds_toArray, List.set_cons_zero, List.set_cons_succ]
        refine takeV 50 60 (.bool true) rfl rfl (Or.inl ⟨by rfl, ?_⟩) ?_
        · intro w hSw
          go_simp
        simp only [Act.put, List.setIfInBounds_toArray, List.set_cons_zero, List.set_cons_succ]
        refine wpAnyH_done (by kernel_rfl) ?_ _
        go_wp2
        go_ret
        exact ⟨by rw [HN.out]; rfl, below_drewO HB.out _⟩
      have b2' : oursB xs[k].key = false := by simpa using b2
      rw [b2'] at hO
      by_cases b3 : textOk xs[k].text = true
      case neg =>
        have b3' : textOk xs[k].text = false := by simpa using b3
        rw [b3'] at hT
        have HN := Lib.hid (HNo.out (by rw [HK.out, b1, b2', b3']; rfl))
        clear b1 b2 b2' b3 b3' HK HNo
        generalize xs[k] = x at *
        go_wp2
        refine wp_region_held_drew (S := (fun w' => w'.cell? ⟨b, off + k * 2, none⟩ = some (.string x.key) ∧ w'.cell? ⟨b, off + k * 2 + 1, none⟩ = some (.string x.text))) (by kernel_rfl) ?_ (fun hHeld => ?_)
        · go_keep
        refine takeV 0 10 (.slice (some ⟨b, off, none⟩) xs.length cap) rfl rfl (Or.inl ⟨by rfl, ?_⟩) ?_
        · intro w hSw
          go_simp
        simp only [Act.put, List.setIfInBounds_toArray, List.set_cons_zero, List.set_cons_succ]
        refine takeV 1 11 (.int .i64 (k)) rfl rfl (Or.inl ⟨by rfl, ?_⟩) ?_
        · intro w hSw
          go_simp
        simp only [Act.put, List.setIfInBounds_toArray, List.set_cons_zero, List.set_cons_succ]
        refine takeV 2 12 (.pointer (some ⟨b, off + k * 2, none⟩)) rfl rfl (Or.inl ⟨by rfl, ?_⟩) ?_
        · intro w hSw
          go_simp
        simp only [Act.put, List.setIfInBounds_toArray, List.set_cons_zero, List.set_cons_succ]
        refine takeV 3 13 (.pointer (some ⟨b, off + k * 2, none⟩)) rfl rfl (Or.inl ⟨by rfl, ?_⟩) ?_
        · intro w hSw
          go_simp
        simp only [Act.put, List.setIfInBounds_toArray, List.set_cons_zero, List.set_cons_succ]
        refine takeV 4 14 (.string x.key) rfl rfl (Or.inl ⟨by rfl, ?_⟩) ?_
        · intro w hSw
          go_simp
        simp only [Act.put, List.setIfInBounds_toArray, List.set_cons_zero, List.set_cons_succ]
        refine wpAnyH_ready (rs := [5]) (by kernel_rfl) (by simp) ?_
        refine AllReadyH.cons (o := { dst := some 15, op := Op.call { callee := Callee.value (Operand.func 103), args := #[Operand.tmp 14], argTypes := #[9] }, type := 4, pos := "l06_order.go:31", after := #[{ on := 4, ground := Ground.data }], guard := none }) rfl (fun K hK => ?_) AllReadyH.nil
        go_simp
        refine (hP.out _).mono ?_
        rintro e w1 ⟨rfl, e1⟩
        subst e1
        go_wp2_with fail
        refine hK.out _ _ ?_ (fun hHeld => ?_)
        · go_keep
        clear hK K
        refine takeV 6 16 (.bool false) rfl rfl (Or.inl ⟨by rfl, ?_⟩) ?_
        · intro w hSw
          go_simp
        simp only [Act.put, List.setIfInBounds_toArray, List.set_cons_zero, List.set_cons_succ]
        refine takeV 7 17 (.bool false) rfl rfl (Or.inl ⟨by rfl, ?_⟩) ?_
        · intro w hSw
          go_simp
        simp only [Act.put, List.setIfInBounds_toArray, List.set_cons_zero, List.set_cons_succ]
        refine takeV 8 18 (.slice (some ⟨b, off, none⟩) xs.length cap) rfl rfl (Or.inl ⟨by rfl, ?_⟩) ?_
        · intro w hSw
          go_simp
        simp only [Act.put, List.setIfInBounds_toArray, List.set_cons_zero, List.set_cons_succ]
        refine takeV 9 19 (.int .i64 (k)) rfl rfl (Or.inl ⟨by rfl, ?_⟩) ?_
        · intro w hSw
          go_simp
        simp only [Act.put, List.setIfInBounds_toArray, List.set_cons_zero, List.set_cons_succ]
        refine takeV 10 20 (.pointer (some ⟨b, off + k * 2, none⟩)) rfl rfl (Or.inl ⟨by rfl, ?_⟩) ?_
        · intro w hSw
          go_simp
        simp only [Act.put, List.setIfInBounds_toArray, List.set_cons_zero, List.set_cons_succ]
        refine takeV 11 21 (.pointer (some ⟨b, off + k * 2, none⟩)) rfl rfl (Or.inl ⟨by rfl, ?_⟩) ?_
        · intro w hSw
          go_simp
        simp only [Act.put, List.setIfInBounds_toArray, List.set_cons_zero, List.set_cons_succ]
        refine takeV 12 22 (.string x.key) rfl rfl (Or.inl ⟨by rfl, ?_⟩) ?_
        · intro w hSw
          go_simp
        simp only [Act.put, List.setIfInBounds_toArray, List.set_cons_zero, List.set_cons_succ]
        refine wpAnyH_ready (rs := [13]) (by kernel_rfl) (by simp) ?_
        refine AllReadyH.cons (o := { dst := some 23, op := Op.call { callee := Callee.value (Operand.func 104), args := #[Operand.tmp 22], argTypes := #[9] }, type := 4, pos := "l06_order.go:31", after := #[{ on := 12, ground := Ground.data }, { on := 7, ground := Ground.chain }, { on := 7, ground := Ground.guard }], guard := some (7, false) }) rfl (fun K hK => ?_) AllReadyH.nil
        go_simp
        refine (hO.out _).mono ?_
        rintro e w1 ⟨rfl, e1⟩
        subst e1
        go_wp2_with fail
        refine hK.out _ _ ?_ (fun hHeld => ?_)
        · go_keep
        clear hK K
        refine takeV 14 24 (.bool false) rfl rfl (Or.inl ⟨by rfl, ?_⟩) ?_
        · intro w hSw
          go_simp
        simp only [Act.put, List.setIfInBounds_toArray, List.set_cons_zero, List.set_cons_succ]
        refine takeV 15 25 (.bool false) rfl rfl (Or.inl ⟨by rfl, ?_⟩) ?_
        · intro w hSw
          go_simp
        simp only [Act.put, List.setIfInBounds_toArray, List.set_cons_zero, List.set_cons_succ]
        refine takeV 16 26 (.slice (some ⟨b, off, none⟩) xs.length cap) rfl rfl (Or.inl ⟨by rfl, ?_⟩) ?_
        · intro w hSw
          go_simp
        simp only [Act.put, List.setIfInBounds_toArray, List.set_cons_zero, List.set_cons_succ]
        refine takeV 17 27 (.int .i64 (k)) rfl rfl (Or.inl ⟨by rfl, ?_⟩) ?_
        · intro w hSw
          go_simp
        simp only [Act.put, List.setIfInBounds_toArray, List.set_cons_zero, List.set_cons_succ]
        refine takeV 18 28 (.pointer (some ⟨b, off + k * 2, none⟩)) rfl rfl (Or.inl ⟨by rfl, ?_⟩) ?_
        · intro w hSw
          go_simp
        simp only [Act.put, List.setIfInBounds_toArray, List.set_cons_zero, List.set_cons_succ]
        refine takeV 19 29 (.pointer (some ⟨b, off + k * 2 + 1, none⟩)) rfl rfl (Or.inl ⟨by rfl, ?_⟩) ?_
        · intro w hSw
          go_simp
        simp only [Act.put, List.setIfInBounds_toArray, List.set_cons_zero, List.set_cons_succ]
        refine takeV 20 30 (.string x.text) rfl rfl (Or.inl ⟨by rfl, ?_⟩) ?_
        · intro w hSw
          go_simp
        simp only [Act.put, List.setIfInBounds_toArray, List.set_cons_zero, List.set_cons_succ]
        refine wpAnyH_ready (rs := [21]) (by kernel_rfl) (by simp) ?_
        refine AllReadyH.cons (o := { dst := some 31, op := Op.call { callee := Callee.value (Operand.func 48), args := #[Operand.tmp 30], argTypes := #[9] }, type := 4, pos := "l06_order.go:31", after := #[{ on := 20, ground := Ground.data }, { on := 15, ground := Ground.chain }, { on := 15, ground := Ground.guard }], guard := some (15, false) }) rfl (fun K hK => ?_) AllReadyH.nil
        go_simp
        refine (hT.out _).mono ?_
        rintro e w1 ⟨rfl, e1⟩
        subst e1
        go_wp2_with fail
        refine hK.out _ _ ?_ (fun hHeld => ?_)
        · go_keep
        clear hK K
        refine takeV 22 32 (.bool true) rfl rfl (Or.inl ⟨by rfl, ?_⟩) ?_
        · intro w hSw
          go_simp
        simp only [Act.put, List.setIfInBounds_toArray, List.set_cons_zero, List.set_cons_succ]
        refine takeV 23 33 (.bool true) rfl rfl (Or.inl ⟨by rfl, ?_⟩) ?_
        · intro w hSw
          go_simp
        simp only [Act.put, List.setIfInBounds_toArray, List.set_cons_zero, List.set_cons_succ]
        refine takeV 24 34 (.bool true) rfl rfl (Or.inl ⟨by rfl, ?_⟩) ?_
        · intro w hSw
          go_simp
        simp only [Act.put, List.setIfInBounds_toArray, List.set_cons_zero, List.set_cons_succ]
        refine takeV 25 35 undef rfl rfl (Or.inr ⟨by rfl, rfl⟩) ?_
        simp only [Act.put, List.setIfInBounds_toArray, List.set_cons_zero, List.set_cons_succ]
        refine takeV 26 36 undef rfl rfl (Or.inr ⟨by rfl, rfl⟩) ?_
        simp only [Act.put, List.setIfInBounds_toArray, List.set_cons_zero, List.set_cons_succ]
        refine takeV 27 37 undef rfl rfl (Or.inr ⟨by rfl, rfl⟩) ?_
        simp only [Act.put, List.setIfInBounds_toArray, List.set_cons_zero, List.set_cons_succ]
        refine takeV 28 38 undef rfl rfl (Or.inr ⟨by rfl, rfl⟩) ?_
        simp only [Act.put, List.setIfInBounds_toArray, List.set_cons_zero, List.set_cons_succ]
        refine takeV 29 39 undef rfl rfl (Or.inr ⟨by rfl, rfl⟩) ?_
        simp only [Act.put, List.setIfInBounds_toArray, List.set_cons_zero, List.set_cons_succ]
        refine takeV 30 40 undef rfl rfl (Or.inr ⟨by rfl, rfl⟩) ?_
        simp only [Act.put, List.setIfInBounds_toArray, List.set_cons_zero, List.set_cons_succ]
        refine takeV 31 41 undef rfl rfl (Or.inr ⟨by rfl, rfl⟩) ?_
        simp only [Act.put, List.setIfInBounds_toArray, List.set_cons_zero, List.set_cons_succ]
        refine takeV 32 42 (.bool true) rfl rfl (Or.inl ⟨by rfl, ?_⟩) ?_
        · intro w hSw
          go_simp
        simp only [Act.put, List.setIfInBounds_toArray, List.set_cons_zero, List.set_cons_succ]
        refine takeV 33 43 (.bool true) rfl rfl (Or.inl ⟨by rfl, ?_⟩) ?_
        · intro w hSw
          go_simp
        simp only [Act.put, List.setIfInBounds_toArray, List.set_cons_zero, List.set_cons_succ]
        refine takeV 34 44 undef rfl rfl (Or.inr ⟨by rfl, rfl⟩) ?_
        simp only [Act.put, List.setIfInBounds_toArray, List.set_cons_zero, List.set_cons_succ]
        refine takeV 35 45 undef rfl rfl (Or.inr ⟨by rfl, rfl⟩) ?_
        simp only [Act.put, List.setIfInBounds_toArray, List.set_cons_zero, List.set_cons_succ]
        refine takeV 36 46 undef rfl rfl (Or.inr ⟨by rfl, rfl⟩) ?_
        simp only [Act.put, List.setIfInBounds_toArray, List.set_cons_zero, List.set_cons_succ]
        refine takeV 37 47 undef rfl rfl (Or.inr ⟨by rfl, rfl⟩) ?_
        simp only [Act.put, List.setIfInBounds_toArray, List.set_cons_zero, List.set_cons_succ]
        refine takeV 38 48 undef rfl rfl (Or.inr ⟨by rfl, rfl⟩) ?_
        simp only [Act.put, List.setIfInBounds_toArray, List.set_cons_zero, List.set_cons_succ]
        refine takeV 39 49 undef rfl rfl (Or.inr ⟨by rfl, rfl⟩) ?_
        simp only [Act.put, List.setIfInBounds_toArray, List.set_cons_zero, List.set_cons_succ]
        refine takeV 40 50 undef rfl rfl (Or.inr ⟨by rfl, rfl⟩) ?_
        simp only [Act.put, List.setIfInBounds_toArray, List.set_cons_zero, List.set_cons_succ]
        refine takeV 41 51 undef rfl rfl (Or.inr ⟨by rfl, rfl⟩) ?_
        simp only [Act.put, List.setIfInBounds_toArray, List.set_cons_zero, List.set_cons_succ]
        refine takeV 42 52 undef rfl rfl (Or.inr ⟨by rfl, rfl⟩) ?_
        simp only [Act.put, List.setIfInBounds_toArray, List.set_cons_zero, List.set_cons_succ]
        refine takeV 43 53 undef rfl rfl (Or.inr ⟨by rfl, rfl⟩) ?_
        simp only [Act.put, List.setIfInBounds_toArray, List.set_cons_zero, List.set_cons_succ]
        refine takeV 44 54 undef rfl rfl (Or.inr ⟨by rfl, rfl⟩) ?_
        simp only [Act.put, List.setIfInBounds_toArray, List.set_cons_zero, List.set_cons_succ]
        refine takeV 45 55 undef rfl rfl (Or.inr ⟨by rfl, rfl⟩) ?_
        simp only [Act.put, List.setIfInBounds_toArray, List.set_cons_zero, List.set_cons_succ]
        refine takeV 46 56 undef rfl rfl (Or.inr ⟨by rfl, rfl⟩) ?_
        simp only [Act.put, List.setIfInBounds_toArray, List.set_cons_zero, List.set_cons_succ]
        refine takeV 47 57 undef rfl rfl (Or.inr ⟨by rfl, rfl⟩) ?_
        simp only [Act.put, List.setIfInBounds_toArray, List.set_cons_zero, List.set_cons_succ]
        refine takeV 48 58 undef rfl rfl (Or.inr ⟨by rfl, rfl⟩) ?_
        simp only [Act.put, List.setIfInBounds_toArray, List.set_cons_zero, List.set_cons_succ]
        refine takeV 49 59 undef rfl rfl (Or.inr ⟨by rfl, rfl⟩) ?_
        simp only [Act.put, List.setIfInBounds_toArray, List.set_cons_zero, List.set_cons_succ]
        refine takeV 50 60 (.bool true) rfl rfl (Or.inl ⟨by rfl, ?_⟩) ?_
        · intro w hSw
          go_simp
        simp only [Act.put, List.setIfInBounds_toArray, List.set_cons_zero, List.set_cons_succ]
        refine wpAnyH_done (by kernel_rfl) ?_ _
        go_wp2
        go_ret
        exact ⟨by rw [HN.out]; rfl, below_drewO HB.out _⟩
      rw [b3] at hT
      by_cases b4 : xs[k].text.size ≤ 40
      case neg =>
        have HN := Lib.hid (HNo.out (by rw [HK.out, b1, b2', b3, decide_eq_false b4]; rfl))
        clear b1 b2 b2' b3 HK HNo
        generalize xs[k] = x at *
        have b5 : (40 : Int) < x.text.size := by omega
        have b6 : decide ((40 : Int) < x.text.size) = true := by simpa using b5
        have b7 : decide (40 < x.text.size) = true := by simp; omega
        go_wp2
        refine wp_region_held_drew (S := (fun w' => w'.cell? ⟨b, off + k * 2, none⟩ = some (.string x.key) ∧ w'.cell? ⟨b, off + k * 2 + 1, none⟩ = some (.string x.text))) (by kernel_rfl) ?_ (fun hHeld => ?_)
        · go_keep
        refine takeV 0 10 (.slice (some ⟨b, off, none⟩) xs.length cap) rfl rfl (Or.inl ⟨by rfl, ?_⟩) ?_
        · intro w hSw
          go_simp
        simp only [Act.put, List.setIfInBounds_toArray, List.set_cons_zero, List.set_cons_succ]
        refine takeV 1 11 (.int .i64 (k)) rfl rfl (Or.inl ⟨by rfl, ?_⟩) ?_
        · intro w hSw
          go_simp
        simp only [Act.put, List.setIfInBounds_toArray, List.set_cons_zero, List.set_cons_succ]
        refine takeV 2 12 (.pointer (some ⟨b, off + k * 2, none⟩)) rfl rfl (Or.inl ⟨by rfl, ?_⟩) ?_
        · intro w hSw
          go_simp
        simp only [Act.put, List.setIfInBounds_toArray, List.set_cons_zero, List.set_cons_succ]
        refine takeV 3 13 (.pointer (some ⟨b, off + k * 2, none⟩)) rfl rfl (Or.inl ⟨by rfl, ?_⟩) ?_
        · intro w hSw
          go_simp
        simp only [Act.put, List.setIfInBounds_toArray, List.set_cons_zero, List.set_cons_succ]
        refine takeV 4 14 (.string x.key) rfl rfl (Or.inl ⟨by rfl, ?_⟩) ?_
        · intro w hSw
          go_simp
        simp only [Act.put, List.setIfInBounds_toArray, List.set_cons_zero, List.set_cons_succ]
        refine wpAnyH_ready (rs := [5]) (by kernel_rfl) (by simp) ?_
        refine AllReadyH.cons (o := { dst := some 15, op := Op.call { callee := Callee.value (Operand.func 103), args := #[Operand.tmp 14], argTypes := #[9] }, type := 4, pos := "l06_order.go:31", after := #[{ on := 4, ground := Ground.data }], guard := none }) rfl (fun K hK => ?_) AllReadyH.nil
        go_simp
        refine (hP.out _).mono ?_
        rintro e w1 ⟨rfl, e1⟩
        subst e1
        go_wp2_with fail
        refine hK.out _ _ ?_ (fun hHeld => ?_)
        · go_keep
        clear hK K
        refine takeV 6 16 (.bool false) rfl rfl (Or.inl ⟨by rfl, ?_⟩) ?_
        · intro w hSw
          go_simp
        simp only [Act.put, List.setIfInBounds_toArray, List.set_cons_zero, List.set_cons_succ]
        refine takeV 7 17 (.bool false) rfl rfl (Or.inl ⟨by rfl, ?_⟩) ?_
        · intro w hSw
          go_simp
        simp only [Act.put, List.setIfInBounds_toArray, List.set_cons_zero, List.set_cons_succ]
        refine takeV 8 18 (.slice (some ⟨b, off, none⟩) xs.length cap) rfl rfl (Or.inl ⟨by rfl, ?_⟩) ?_
        · intro w hSw
          go_simp
        simp only [Act.put, List.setIfInBounds_toArray, List.set_cons_zero, List.set_cons_succ]
        refine takeV 9 19 (.int .i64 (k)) rfl rfl (Or.inl ⟨by rfl, ?_⟩) ?_
        · intro w hSw
          go_simp
        simp only [Act.put, List.setIfInBounds_toArray, List.set_cons_zero, List.set_cons_succ]
        refine takeV 10 20 (.pointer (some ⟨b, off + k * 2, none⟩)) rfl rfl (Or.inl ⟨by rfl, ?_⟩) ?_
        · intro w hSw
          go_simp
        simp only [Act.put, List.setIfInBounds_toArray, List.set_cons_zero, List.set_cons_succ]
        refine takeV 11 21 (.pointer (some ⟨b, off + k * 2, none⟩)) rfl rfl (Or.inl ⟨by rfl, ?_⟩) ?_
        · intro w hSw
          go_simp
        simp only [Act.put, List.setIfInBounds_toArray, List.set_cons_zero, List.set_cons_succ]
        refine takeV 12 22 (.string x.key) rfl rfl (Or.inl ⟨by rfl, ?_⟩) ?_
        · intro w hSw
          go_simp
        simp only [Act.put, List.setIfInBounds_toArray, List.set_cons_zero, List.set_cons_succ]
        refine wpAnyH_ready (rs := [13]) (by kernel_rfl) (by simp) ?_
        refine AllReadyH.cons (o := { dst := some 23, op := Op.call { callee := Callee.value (Operand.func 104), args := #[Operand.tmp 22], argTypes := #[9] }, type := 4, pos := "l06_order.go:31", after := #[{ on := 12, ground := Ground.data }, { on := 7, ground := Ground.chain }, { on := 7, ground := Ground.guard }], guard := some (7, false) }) rfl (fun K hK => ?_) AllReadyH.nil
        go_simp
        refine (hO.out _).mono ?_
        rintro e w1 ⟨rfl, e1⟩
        subst e1
        go_wp2_with fail
        refine hK.out _ _ ?_ (fun hHeld => ?_)
        · go_keep
        clear hK K
        refine takeV 14 24 (.bool false) rfl rfl (Or.inl ⟨by rfl, ?_⟩) ?_
        · intro w hSw
          go_simp
        simp only [Act.put, List.setIfInBounds_toArray, List.set_cons_zero, List.set_cons_succ]
        refine takeV 15 25 (.bool false) rfl rfl (Or.inl ⟨by rfl, ?_⟩) ?_
        · intro w hSw
          go_simp
        simp only [Act.put, List.setIfInBounds_toArray, List.set_cons_zero, List.set_cons_succ]
        refine takeV 16 26 (.slice (some ⟨b, off, none⟩) xs.length cap) rfl rfl (Or.inl ⟨by rfl, ?_⟩) ?_
        · intro w hSw
          go_simp
        simp only [Act.put, List.setIfInBounds_toArray, List.set_cons_zero, List.set_cons_succ]
        refine takeV 17 27 (.int .i64 (k)) rfl rfl (Or.inl ⟨by rfl, ?_⟩) ?_
        · intro w hSw
          go_simp
        simp only [Act.put, List.setIfInBounds_toArray, List.set_cons_zero, List.set_cons_succ]
        refine takeV 18 28 (.pointer (some ⟨b, off + k * 2, none⟩)) rfl rfl (Or.inl ⟨by rfl, ?_⟩) ?_
        · intro w hSw
          go_simp
        simp only [Act.put, List.setIfInBounds_toArray, List.set_cons_zero, List.set_cons_succ]
        refine takeV 19 29 (.pointer (some ⟨b, off + k * 2 + 1, none⟩)) rfl rfl (Or.inl ⟨by rfl, ?_⟩) ?_
        · intro w hSw
          go_simp
        simp only [Act.put, List.setIfInBounds_toArray, List.set_cons_zero, List.set_cons_succ]
        refine takeV 20 30 (.string x.text) rfl rfl (Or.inl ⟨by rfl, ?_⟩) ?_
        · intro w hSw
          go_simp
        simp only [Act.put, List.setIfInBounds_toArray, List.set_cons_zero, List.set_cons_succ]
        refine wpAnyH_ready (rs := [21]) (by kernel_rfl) (by simp) ?_
        refine AllReadyH.cons (o := { dst := some 31, op := Op.call { callee := Callee.value (Operand.func 48), args := #[Operand.tmp 30], argTypes := #[9] }, type := 4, pos := "l06_order.go:31", after := #[{ on := 20, ground := Ground.data }, { on := 15, ground := Ground.chain }, { on := 15, ground := Ground.guard }], guard := some (15, false) }) rfl (fun K hK => ?_) AllReadyH.nil
        go_simp
        refine (hT.out _).mono ?_
        rintro e w1 ⟨rfl, e1⟩
        subst e1
        go_wp2_with fail
        refine hK.out _ _ ?_ (fun hHeld => ?_)
        · go_keep
        clear hK K
        refine takeV 22 32 (.bool false) rfl rfl (Or.inl ⟨by rfl, ?_⟩) ?_
        · intro w hSw
          go_simp
        simp only [Act.put, List.setIfInBounds_toArray, List.set_cons_zero, List.set_cons_succ]
        refine takeV 23 33 (.bool false) rfl rfl (Or.inl ⟨by rfl, ?_⟩) ?_
        · intro w hSw
          go_simp
        simp only [Act.put, List.setIfInBounds_toArray, List.set_cons_zero, List.set_cons_succ]
        refine takeV 24 34 (.bool false) rfl rfl (Or.inl ⟨by rfl, ?_⟩) ?_
        · intro w hSw
          go_simp
        simp only [Act.put, List.setIfInBounds_toArray, List.set_cons_zero, List.set_cons_succ]
        refine takeV 25 35 (.slice (some ⟨b, off, none⟩) xs.length cap) rfl rfl (Or.inl ⟨by rfl, ?_⟩) ?_
        · intro w hSw
          go_simp
        simp only [Act.put, List.setIfInBounds_toArray, List.set_cons_zero, List.set_cons_succ]
        refine takeV 26 36 (.int .i64 (k)) rfl rfl (Or.inl ⟨by rfl, ?_⟩) ?_
        · intro w hSw
          go_simp
        simp only [Act.put, List.setIfInBounds_toArray, List.set_cons_zero, List.set_cons_succ]
        refine takeV 27 37 (.pointer (some ⟨b, off + k * 2, none⟩)) rfl rfl (Or.inl ⟨by rfl, ?_⟩) ?_
        · intro w hSw
          go_simp
        simp only [Act.put, List.setIfInBounds_toArray, List.set_cons_zero, List.set_cons_succ]
        refine takeV 28 38 (.pointer (some ⟨b, off + k * 2 + 1, none⟩)) rfl rfl (Or.inl ⟨by rfl, ?_⟩) ?_
        · intro w hSw
          go_simp
        simp only [Act.put, List.setIfInBounds_toArray, List.set_cons_zero, List.set_cons_succ]
        refine takeV 29 39 (.string x.text) rfl rfl (Or.inl ⟨by rfl, ?_⟩) ?_
        · intro w hSw
          go_simp
        simp only [Act.put, List.setIfInBounds_toArray, List.set_cons_zero, List.set_cons_succ]
        refine takeV 30 40 (.int .i64 x.text.size) rfl rfl (Or.inl ⟨by rfl, ?_⟩) ?_
        · intro w hSw
          go_simp
        simp only [Act.put, List.setIfInBounds_toArray, List.set_cons_zero, List.set_cons_succ]
        refine takeV 31 41 (.bool true) rfl rfl (Or.inl ⟨by rfl, ?_⟩) ?_
        · intro w hSw
          go_simp
        simp only [Act.put, List.setIfInBounds_toArray, List.set_cons_zero, List.set_cons_succ]
        refine takeV 32 42 (.bool true) rfl rfl (Or.inl ⟨by rfl, ?_⟩) ?_
        · intro w hSw
          go_simp
        simp only [Act.put, List.setIfInBounds_toArray, List.set_cons_zero, List.set_cons_succ]
        refine takeV 33 43 (.bool true) rfl rfl (Or.inl ⟨by rfl, ?_⟩) ?_
        · intro w hSw
          go_simp
        simp only [Act.put, List.setIfInBounds_toArray, List.set_cons_zero, List.set_cons_succ]
        refine takeV 34 44 undef rfl rfl (Or.inr ⟨by rfl, rfl⟩) ?_
        simp only [Act.put, List.setIfInBounds_toArray, List.set_cons_zero, List.set_cons_succ]
        refine takeV 35 45 undef rfl rfl (Or.inr ⟨by rfl, rfl⟩) ?_
        simp only [Act.put, List.setIfInBounds_toArray, List.set_cons_zero, List.set_cons_succ]
        refine takeV 36 46 undef rfl rfl (Or.inr ⟨by rfl, rfl⟩) ?_
        simp only [Act.put, List.setIfInBounds_toArray, List.set_cons_zero, List.set_cons_succ]
        refine takeV 37 47 undef rfl rfl (Or.inr ⟨by rfl, rfl⟩) ?_
        simp only [Act.put, List.setIfInBounds_toArray, List.set_cons_zero, List.set_cons_succ]
        refine takeV 38 48 undef rfl rfl (Or.inr ⟨by rfl, rfl⟩) ?_
        simp only [Act.put, List.setIfInBounds_toArray, List.set_cons_zero, List.set_cons_succ]
        refine takeV 39 49 undef rfl rfl (Or.inr ⟨by rfl, rfl⟩) ?_
        simp only [Act.put, List.setIfInBounds_toArray, List.set_cons_zero, List.set_cons_succ]
        refine takeV 40 50 undef rfl rfl (Or.inr ⟨by rfl, rfl⟩) ?_
        simp only [Act.put, List.setIfInBounds_toArray, List.set_cons_zero, List.set_cons_succ]
        refine takeV 41 51 undef rfl rfl (Or.inr ⟨by rfl, rfl⟩) ?_
        simp only [Act.put, List.setIfInBounds_toArray, List.set_cons_zero, List.set_cons_succ]
        refine takeV 42 52 undef rfl rfl (Or.inr ⟨by rfl, rfl⟩) ?_
        simp only [Act.put, List.setIfInBounds_toArray, List.set_cons_zero, List.set_cons_succ]
        refine takeV 43 53 undef rfl rfl (Or.inr ⟨by rfl, rfl⟩) ?_
        simp only [Act.put, List.setIfInBounds_toArray, List.set_cons_zero, List.set_cons_succ]
        refine takeV 44 54 undef rfl rfl (Or.inr ⟨by rfl, rfl⟩) ?_
        simp only [Act.put, List.setIfInBounds_toArray, List.set_cons_zero, List.set_cons_succ]
        refine takeV 45 55 undef rfl rfl (Or.inr ⟨by rfl, rfl⟩) ?_
        simp only [Act.put, List.setIfInBounds_toArray, List.set_cons_zero, List.set_cons_succ]
        refine takeV 46 56 undef rfl rfl (Or.inr ⟨by rfl, rfl⟩) ?_
        simp only [Act.put, List.setIfInBounds_toArray, List.set_cons_zero, List.set_cons_succ]
        refine takeV 47 57 undef rfl rfl (Or.inr ⟨by rfl, rfl⟩) ?_
        simp only [Act.put, List.setIfInBounds_toArray, List.set_cons_zero, List.set_cons_succ]
        refine takeV 48 58 undef rfl rfl (Or.inr ⟨by rfl, rfl⟩) ?_
        simp only [Act.put, List.setIfInBounds_toArray, List.set_cons_zero, List.set_cons_succ]
        refine takeV 49 59 undef rfl rfl (Or.inr ⟨by rfl, rfl⟩) ?_
        simp only [Act.put, List.setIfInBounds_toArray, List.set_cons_zero, List.set_cons_succ]
        refine takeV 50 60 (.bool true) rfl rfl (Or.inl ⟨by rfl, ?_⟩) ?_
        · intro w hSw
          go_simp
        simp only [Act.put, List.setIfInBounds_toArray, List.set_cons_zero, List.set_cons_succ]
        refine wpAnyH_done (by kernel_rfl) ?_ _
        go_wp2
        go_ret
        exact ⟨by rw [HN.out]; rfl, below_drewO HB.out _⟩
      have hb : xs[k].okB = true := by rw [HK.out, b1, b2', b3, decide_eq_true b4]; rfl
      clear b1 b2 b2' b3 HK HNo
      rcases Nat.eq_zero_or_pos k with rfl | hp
      · have HS := Lib.hid (el_step hlt hr.out ⟨hb, fun h => absurd h (by omega)⟩)
        clear hb
        rw [show off + 0 * 2 = off by omega] at c0 c1
        generalize xs[0] = x at *
        have b5 : ¬ (40 : Int) < x.text.size := by omega
        have b6 : decide ((40 : Int) < x.text.size) = false := by simpa using b5
        have b7 : decide (40 < x.text.size) = false := by simp; omega
        go_wp2
        refine wp_region_held_drew (S := (fun w' => w'.cell? ⟨b, off, none⟩ = some (.string x.key) ∧ w'.cell? ⟨b, off + 1, none⟩ = some (.string x.text))) (by kernel_rfl) ?_ (fun hHeld => ?_)
        · go_keep
        refine takeV 0 10 (.slice (some ⟨b, off, none⟩) xs.length cap) rfl rfl (Or.inl ⟨by rfl, ?_⟩) ?_
        · intro w hSw
          go_simp
        simp only [Act.put, List.setIfInBounds_toArray, List.set_cons_zero, List.set_cons_succ]
        refine takeV 1 11 (.int .i64 (0)) rfl rfl (Or.inl ⟨by rfl, ?_⟩) ?_
        · intro w hSw
          go_simp
        simp only [Act.put, List.setIfInBounds_toArray, List.set_cons_zero, List.set_cons_succ]
        refine takeV 2 12 (.pointer (some ⟨b, off, none⟩)) rfl rfl (Or.inl ⟨by rfl, ?_⟩) ?_
        · intro w hSw
          go_simp
        simp only [Act.put, List.setIfInBounds_toArray, List.set_cons_zero, List.set_cons_succ]
        refine takeV 3 13 (.pointer (some ⟨b, off, none⟩)) rfl rfl (Or.inl ⟨by rfl, ?_⟩) ?_
        · intro w hSw
          go_simp
        simp only [Act.put, List.setIfInBounds_toArray, List.set_cons_zero, List.set_cons_succ]
        refine takeV 4 14 (.string x.key) rfl rfl (Or.inl ⟨by rfl, ?_⟩) ?_
        · intro w hSw
          go_simp
        simp only [Act.put, List.setIfInBounds_toArray, List.set_cons_zero, List.set_cons_succ]
        refine wpAnyH_ready (rs := [5]) (by kernel_rfl) (by simp) ?_
        refine AllReadyH.cons (o := { dst := some 15, op := Op.call { callee := Callee.value (Operand.func 103), args := #[Operand.tmp 14], argTypes := #[9] }, type := 4, pos := "l06_order.go:31", after := #[{ on := 4, ground := Ground.data }], guard := none }) rfl (fun K hK => ?_) AllReadyH.nil
        go_simp
        refine (hP.out _).mono ?_
        rintro e w1 ⟨rfl, e1⟩
        subst e1
        go_wp2_with fail
        refine hK.out _ _ ?_ (fun hHeld => ?_)
        · go_keep
        clear hK K
        refine takeV 6 16 (.bool false) rfl rfl (Or.inl ⟨by rfl, ?_⟩) ?_
        · intro w hSw
          go_simp
        simp only [Act.put, List.setIfInBounds_toArray, List.set_cons_zero, List.set_cons_succ]
        refine takeV 7 17 (.bool false) rfl rfl (Or.inl ⟨by rfl, ?_⟩) ?_
        · intro w hSw
          go_simp
        simp only [Act.put, List.setIfInBounds_toArray, List.set_cons_zero, List.set_cons_succ]
        refine takeV 8 18 (.slice (some ⟨b, off, none⟩) xs.length cap) rfl rfl (Or.inl ⟨by rfl, ?_⟩) ?_
        · intro w hSw
          go_simp
        simp only [Act.put, List.setIfInBounds_toArray, List.set_cons_zero, List.set_cons_succ]
        refine takeV 9 19 (.int .i64 (0)) rfl rfl (Or.inl ⟨by rfl, ?_⟩) ?_
        · intro w hSw
          go_simp
        simp only [Act.put, List.setIfInBounds_toArray, List.set_cons_zero, List.set_cons_succ]
        refine takeV 10 20 (.pointer (some ⟨b, off, none⟩)) rfl rfl (Or.inl ⟨by rfl, ?_⟩) ?_
        · intro w hSw
          go_simp
        simp only [Act.put, List.setIfInBounds_toArray, List.set_cons_zero, List.set_cons_succ]
        refine takeV 11 21 (.pointer (some ⟨b, off, none⟩)) rfl rfl (Or.inl ⟨by rfl, ?_⟩) ?_
        · intro w hSw
          go_simp
        simp only [Act.put, List.setIfInBounds_toArray, List.set_cons_zero, List.set_cons_succ]
        refine takeV 12 22 (.string x.key) rfl rfl (Or.inl ⟨by rfl, ?_⟩) ?_
        · intro w hSw
          go_simp
        simp only [Act.put, List.setIfInBounds_toArray, List.set_cons_zero, List.set_cons_succ]
        refine wpAnyH_ready (rs := [13]) (by kernel_rfl) (by simp) ?_
        refine AllReadyH.cons (o := { dst := some 23, op := Op.call { callee := Callee.value (Operand.func 104), args := #[Operand.tmp 22], argTypes := #[9] }, type := 4, pos := "l06_order.go:31", after := #[{ on := 12, ground := Ground.data }, { on := 7, ground := Ground.chain }, { on := 7, ground := Ground.guard }], guard := some (7, false) }) rfl (fun K hK => ?_) AllReadyH.nil
        go_simp
        refine (hO.out _).mono ?_
        rintro e w1 ⟨rfl, e1⟩
        subst e1
        go_wp2_with fail
        refine hK.out _ _ ?_ (fun hHeld => ?_)
        · go_keep
        clear hK K
        refine takeV 14 24 (.bool false) rfl rfl (Or.inl ⟨by rfl, ?_⟩) ?_
        · intro w hSw
          go_simp
        simp only [Act.put, List.setIfInBounds_toArray, List.set_cons_zero, List.set_cons_succ]
        refine takeV 15 25 (.bool false) rfl rfl (Or.inl ⟨by rfl, ?_⟩) ?_
        · intro w hSw
          go_simp
        simp only [Act.put, List.setIfInBounds_toArray, List.set_cons_zero, List.set_cons_succ]
        refine takeV 16 26 (.slice (some ⟨b, off, none⟩) xs.length cap) rfl rfl (Or.inl ⟨by rfl, ?_⟩) ?_
        · intro w hSw
          go_simp
        simp only [Act.put, List.setIfInBounds_toArray, List.set_cons_zero, List.set_cons_succ]
        refine takeV 17 27 (.int .i64 (0)) rfl rfl (Or.inl ⟨by rfl, ?_⟩) ?_
        · intro w hSw
          go_simp
        simp only [Act.put, List.setIfInBounds_toArray, List.set_cons_zero, List.set_cons_succ]
        refine takeV 18 28 (.pointer (some ⟨b, off, none⟩)) rfl rfl (Or.inl ⟨by rfl, ?_⟩) ?_
        · intro w hSw
          go_simp
        simp only [Act.put, List.setIfInBounds_toArray, List.set_cons_zero, List.set_cons_succ]
        refine takeV 19 29 (.pointer (some ⟨b, off + 1, none⟩)) rfl rfl (Or.inl ⟨by rfl, ?_⟩) ?_
        · intro w hSw
          go_simp
        simp only [Act.put, List.setIfInBounds_toArray, List.set_cons_zero, List.set_cons_succ]
        refine takeV 20 30 (.string x.text) rfl rfl (Or.inl ⟨by rfl, ?_⟩) ?_
        · intro w hSw
          go_simp
        simp only [Act.put, List.setIfInBounds_toArray, List.set_cons_zero, List.set_cons_succ]
        refine wpAnyH_ready (rs := [21]) (by kernel_rfl) (by simp) ?_
        refine AllReadyH.cons (o := { dst := some 31, op := Op.call { callee := Callee.value (Operand.func 48), args := #[Operand.tmp 30], argTypes := #[9] }, type := 4, pos := "l06_order.go:31", after := #[{ on := 20, ground := Ground.data }, { on := 15, ground := Ground.chain }, { on := 15, ground := Ground.guard }], guard := some (15, false) }) rfl (fun K hK => ?_) AllReadyH.nil
        go_simp
        refine (hT.out _).mono ?_
        rintro e w1 ⟨rfl, e1⟩
        subst e1
        go_wp2_with fail
        refine hK.out _ _ ?_ (fun hHeld => ?_)
        · go_keep
        clear hK K
        refine takeV 22 32 (.bool false) rfl rfl (Or.inl ⟨by rfl, ?_⟩) ?_
        · intro w hSw
          go_simp
        simp only [Act.put, List.setIfInBounds_toArray, List.set_cons_zero, List.set_cons_succ]
        refine takeV 23 33 (.bool false) rfl rfl (Or.inl ⟨by rfl, ?_⟩) ?_
        · intro w hSw
          go_simp
        simp only [Act.put, List.setIfInBounds_toArray, List.set_cons_zero, List.set_cons_succ]
        refine takeV 24 34 (.bool false) rfl rfl (Or.inl ⟨by rfl, ?_⟩) ?_
        · intro w hSw
          go_simp
        simp only [Act.put, List.setIfInBounds_toArray, List.set_cons_zero, List.set_cons_succ]
        refine takeV 25 35 (.slice (some ⟨b, off, none⟩) xs.length cap) rfl rfl (Or.inl ⟨by rfl, ?_⟩) ?_
        · intro w hSw
          go_simp
        simp only [Act.put, List.setIfInBounds_toArray, List.set_cons_zero, List.set_cons_succ]
        refine takeV 26 36 (.int .i64 (0)) rfl rfl (Or.inl ⟨by rfl, ?_⟩) ?_
        · intro w hSw
          go_simp
        simp only [Act.put, List.setIfInBounds_toArray, List.set_cons_zero, List.set_cons_succ]
        refine takeV 27 37 (.pointer (some ⟨b, off, none⟩)) rfl rfl (Or.inl ⟨by rfl, ?_⟩) ?_
        · intro w hSw
          go_simp
        simp only [Act.put, List.setIfInBounds_toArray, List.set_cons_zero, List.set_cons_succ]
        refine takeV 28 38 (.pointer (some ⟨b, off + 1, none⟩)) rfl rfl (Or.inl ⟨by rfl, ?_⟩) ?_
        · intro w hSw
          go_simp
        simp only [Act.put, List.setIfInBounds_toArray, List.set_cons_zero, List.set_cons_succ]
        refine takeV 29 39 (.string x.text) rfl rfl (Or.inl ⟨by rfl, ?_⟩) ?_
        · intro w hSw
          go_simp
        simp only [Act.put, List.setIfInBounds_toArray, List.set_cons_zero, List.set_cons_succ]
        refine takeV 30 40 (.int .i64 x.text.size) rfl rfl (Or.inl ⟨by rfl, ?_⟩) ?_
        · intro w hSw
          go_simp
        simp only [Act.put, List.setIfInBounds_toArray, List.set_cons_zero, List.set_cons_succ]
        refine takeV 31 41 (.bool false) rfl rfl (Or.inl ⟨by rfl, ?_⟩) ?_
        · intro w hSw
          go_simp
        simp only [Act.put, List.setIfInBounds_toArray, List.set_cons_zero, List.set_cons_succ]
        refine takeV 32 42 (.bool false) rfl rfl (Or.inl ⟨by rfl, ?_⟩) ?_
        · intro w hSw
          go_simp
        simp only [Act.put, List.setIfInBounds_toArray, List.set_cons_zero, List.set_cons_succ]
        refine takeV 33 43 (.bool false) rfl rfl (Or.inl ⟨by rfl, ?_⟩) ?_
        · intro w hSw
          go_simp
        simp only [Act.put, List.setIfInBounds_toArray, List.set_cons_zero, List.set_cons_succ]
        refine takeV 34 44 (.int .i64 0) rfl rfl (Or.inl ⟨by rfl, ?_⟩) ?_
        · intro w hSw
          go_simp
        simp only [Act.put, List.setIfInBounds_toArray, List.set_cons_zero, List.set_cons_succ]
        refine takeV 35 45 (.bool false) rfl rfl (Or.inl ⟨by rfl, ?_⟩) ?_
        · intro w hSw
          go_simp
        simp only [Act.put, List.setIfInBounds_toArray, List.set_cons_zero, List.set_cons_succ]
        refine takeV 36 46 (.bool false) rfl rfl (Or.inl ⟨by rfl, ?_⟩) ?_
        · intro w hSw
          go_simp
        simp only [Act.put, List.setIfInBounds_toArray, List.set_cons_zero, List.set_cons_succ]
        refine takeV 37 47 undef rfl rfl (Or.inr ⟨by rfl, rfl⟩) ?_
        simp only [Act.put, List.setIfInBounds_toArray, List.set_cons_zero, List.set_cons_succ]
        refine takeV 38 48 undef rfl rfl (Or.inr ⟨by rfl, rfl⟩) ?_
        simp only [Act.put, List.setIfInBounds_toArray, List.set_cons_zero, List.set_cons_succ]
        refine takeV 39 49 undef rfl rfl (Or.inr ⟨by rfl, rfl⟩) ?_
        simp only [Act.put, List.setIfInBounds_toArray, List.set_cons_zero, List.set_cons_succ]
        refine takeV 40 50 undef rfl rfl (Or.inr ⟨by rfl, rfl⟩) ?_
        simp only [Act.put, List.setIfInBounds_toArray, List.set_cons_zero, List.set_cons_succ]
        refine takeV 41 51 undef rfl rfl (Or.inr ⟨by rfl, rfl⟩) ?_
        simp only [Act.put, List.setIfInBounds_toArray, List.set_cons_zero, List.set_cons_succ]
        refine takeV 42 52 undef rfl rfl (Or.inr ⟨by rfl, rfl⟩) ?_
        simp only [Act.put, List.setIfInBounds_toArray, List.set_cons_zero, List.set_cons_succ]
        refine takeV 43 53 undef rfl rfl (Or.inr ⟨by rfl, rfl⟩) ?_
        simp only [Act.put, List.setIfInBounds_toArray, List.set_cons_zero, List.set_cons_succ]
        refine takeV 44 54 undef rfl rfl (Or.inr ⟨by rfl, rfl⟩) ?_
        simp only [Act.put, List.setIfInBounds_toArray, List.set_cons_zero, List.set_cons_succ]
        refine takeV 45 55 undef rfl rfl (Or.inr ⟨by rfl, rfl⟩) ?_
        simp only [Act.put, List.setIfInBounds_toArray, List.set_cons_zero, List.set_cons_succ]
        refine takeV 46 56 undef rfl rfl (Or.inr ⟨by rfl, rfl⟩) ?_
        simp only [Act.put, List.setIfInBounds_toArray, List.set_cons_zero, List.set_cons_succ]
        refine takeV 47 57 undef rfl rfl (Or.inr ⟨by rfl, rfl⟩) ?_
        simp only [Act.put, List.setIfInBounds_toArray, List.set_cons_zero, List.set_cons_succ]
        refine takeV 48 58 undef rfl rfl (Or.inr ⟨by rfl, rfl⟩) ?_
        simp only [Act.put, List.setIfInBounds_toArray, List.set_cons_zero, List.set_cons_succ]
        refine takeV 49 59 (.bool false) rfl rfl (Or.inl ⟨by rfl, ?_⟩) ?_
        · intro w hSw
          go_simp
        simp only [Act.put, List.setIfInBounds_toArray, List.set_cons_zero, List.set_cons_succ]
        refine takeV 50 60 (.bool false) rfl rfl (Or.inl ⟨by rfl, ?_⟩) ?_
        · intro w hSw
          go_simp
        simp only [Act.put, List.setIfInBounds_toArray, List.set_cons_zero, List.set_cons_succ]
        refine wpAnyH_done (by kernel_rfl) ?_ _
        go_wp2
        exact ⟨⟨1, by omega, rfl, HS.out, below_drewO HB.out _⟩, by simp [intOf]; omega⟩
      · obtain ⟨j, rfl⟩ : ∃ j, k = j + 1 := ⟨k - 1, by omega⟩
        have g1 : ¬ ((j : Int) + 1 < 0) := by omega
        have g2 : ¬ xs.length ≤ j := by omega
        have g3 : IntKind.i64.wrap (j : Int) = j := by rw [IntKind.wrap_i64]; omega
        have g4 : ((j : Int) + 1 - 1) = j := by omega
        have d0 : wr.cell? ⟨b, off + j * 2, none⟩ = some (.string xs[j].key) := by
          have a0 := (HC.out j (by omega)).2 0 (by decide)
          exact (HB.out.cell (by exact World.block_lt_of_cell? _ _ a0)).trans a0
        by_cases hle : Op.bytesLess xs[j].key.toList xs[j + 1].key.toList = true
        · have HS := Lib.hid (el_step hlt hr.out ⟨hb, fun _ => hle⟩)
          clear hb
          generalize xs[j + 1] = x at *
          generalize xs[j] = y at *
          have b5 : ¬ (40 : Int) < x.text.size := by omega
          have b6 : decide ((40 : Int) < x.text.size) = false := by simpa using b5
          have b7 : decide (40 < x.text.size) = false := by simp; omega
          go_wp2
          refine wp_region_held_drew (S := (fun w' => w'.cell? ⟨b, off + (j + 1) * 2, none⟩ = some (.string x.key) ∧ w'.cell? ⟨b, off + (j + 1) * 2 + 1, none⟩ = some (.string x.text) ∧ w'.cell? ⟨b, off + j * 2, none⟩ = some (.string y.key))) (by kernel_rfl) ?_ (fun hHeld => ?_)
          · go_keep
          refine takeV 0 10 (.slice (some ⟨b, off, none⟩) xs.length cap) rfl rfl (Or.inl ⟨by rfl, ?_⟩) ?_
          · intro w hSw
            go_simp
          simp only [Act.put, List.setIfInBounds_toArray, List.set_cons_zero, List.set_cons_succ]
          refine takeV 1 11 (.int .i64 ((j : Int) + 1)) rfl rfl (Or.inl ⟨by rfl, ?_⟩) ?_
          · intro w hSw
            go_simp
          simp only [Act.put, List.setIfInBounds_toArray, List.set_cons_zero, List.set_cons_succ]
          refine takeV 2 12 (.pointer (some ⟨b, off + (j + 1) * 2, none⟩)) rfl rfl (Or.inl ⟨by rfl, ?_⟩) ?_
          · intro w hSw
            go_simp
          simp only [Act.put, List.setIfInBounds_toArray, List.set_cons_zero, List.set_cons_succ]
          refine takeV 3 13 (.pointer (some ⟨b, off + (j + 1) * 2, none⟩)) rfl rfl (Or.inl ⟨by rfl, ?_⟩) ?_
          · intro w hSw
            go_simp
          simp only [Act.put, List.setIfInBounds_toArray, List.set_cons_zero, List.set_cons_succ]
          refine takeV 4 14 (.string x.key) rfl rfl (Or.inl ⟨by rfl, ?_⟩) ?_
          · intro w hSw
            go_simp
          simp only [Act.put, List.setIfInBounds_toArray, List.set_cons_zero, List.set_cons_succ]
          refine wpAnyH_ready (rs := [5]) (by kernel_rfl) (by simp) ?_
          refine AllReadyH.cons (o := { dst := some 15, op := Op.call { callee := Callee.value (Operand.func 103), args := #[Operand.tmp 14], argTypes := #[9] }, type := 4, pos := "l06_order.go:31", after := #[{ on := 4, ground := Ground.data }], guard := none }) rfl (fun K hK => ?_) AllReadyH.nil
          go_simp
          refine (hP.out _).mono ?_
          rintro e w1 ⟨rfl, e1⟩
          subst e1
          go_wp2_with fail
          refine hK.out _ _ ?_ (fun hHeld => ?_)
          · go_keep
          clear hK K
          refine takeV 6 16 (.bool false) rfl rfl (Or.inl ⟨by rfl, ?_⟩) ?_
          · intro w hSw
            go_simp
          simp only [Act.put, List.setIfInBounds_toArray, List.set_cons_zero, List.set_cons_succ]
          refine takeV 7 17 (.bool false) rfl rfl (Or.inl ⟨by rfl, ?_⟩) ?_
          · intro w hSw
            go_simp
          simp only [Act.put, List.setIfInBounds_toArray, List.set_cons_zero, List.set_cons_succ]
          refine takeV 8 18 (.slice (some ⟨b, off, none⟩) xs.length cap) rfl rfl (Or.inl ⟨by rfl, ?_⟩) ?_
          · intro w hSw
            go_simp
          simp only [Act.put, List.setIfInBounds_toArray, List.set_cons_zero, List.set_cons_succ]
          refine takeV 9 19 (.int .i64 ((j : Int) + 1)) rfl rfl (Or.inl ⟨by rfl, ?_⟩) ?_
          · intro w hSw
            go_simp
          simp only [Act.put, List.setIfInBounds_toArray, List.set_cons_zero, List.set_cons_succ]
          refine takeV 10 20 (.pointer (some ⟨b, off + (j + 1) * 2, none⟩)) rfl rfl (Or.inl ⟨by rfl, ?_⟩) ?_
          · intro w hSw
            go_simp
          simp only [Act.put, List.setIfInBounds_toArray, List.set_cons_zero, List.set_cons_succ]
          refine takeV 11 21 (.pointer (some ⟨b, off + (j + 1) * 2, none⟩)) rfl rfl (Or.inl ⟨by rfl, ?_⟩) ?_
          · intro w hSw
            go_simp
          simp only [Act.put, List.setIfInBounds_toArray, List.set_cons_zero, List.set_cons_succ]
          refine takeV 12 22 (.string x.key) rfl rfl (Or.inl ⟨by rfl, ?_⟩) ?_
          · intro w hSw
            go_simp
          simp only [Act.put, List.setIfInBounds_toArray, List.set_cons_zero, List.set_cons_succ]
          refine wpAnyH_ready (rs := [13]) (by kernel_rfl) (by simp) ?_
          refine AllReadyH.cons (o := { dst := some 23, op := Op.call { callee := Callee.value (Operand.func 104), args := #[Operand.tmp 22], argTypes := #[9] }, type := 4, pos := "l06_order.go:31", after := #[{ on := 12, ground := Ground.data }, { on := 7, ground := Ground.chain }, { on := 7, ground := Ground.guard }], guard := some (7, false) }) rfl (fun K hK => ?_) AllReadyH.nil
          go_simp
          refine (hO.out _).mono ?_
          rintro e w1 ⟨rfl, e1⟩
          subst e1
          go_wp2_with fail
          refine hK.out _ _ ?_ (fun hHeld => ?_)
          · go_keep
          clear hK K
          refine takeV 14 24 (.bool false) rfl rfl (Or.inl ⟨by rfl, ?_⟩) ?_
          · intro w hSw
            go_simp
          simp only [Act.put, List.setIfInBounds_toArray, List.set_cons_zero, List.set_cons_succ]
          refine takeV 15 25 (.bool false) rfl rfl (Or.inl ⟨by rfl, ?_⟩) ?_
          · intro w hSw
            go_simp
          simp only [Act.put, List.setIfInBounds_toArray, List.set_cons_zero, List.set_cons_succ]
          refine takeV 16 26 (.slice (some ⟨b, off, none⟩) xs.length cap) rfl rfl (Or.inl ⟨by rfl, ?_⟩) ?_
          · intro w hSw
            go_simp
          simp only [Act.put, List.setIfInBounds_toArray, List.set_cons_zero, List.set_cons_succ]
          refine takeV 17 27 (.int .i64 ((j : Int) + 1)) rfl rfl (Or.inl ⟨by rfl, ?_⟩) ?_
          · intro w hSw
            go_simp
          simp only [Act.put, List.setIfInBounds_toArray, List.set_cons_zero, List.set_cons_succ]
          refine takeV 18 28 (.pointer (some ⟨b, off + (j + 1) * 2, none⟩)) rfl rfl (Or.inl ⟨by rfl, ?_⟩) ?_
          · intro w hSw
            go_simp
          simp only [Act.put, List.setIfInBounds_toArray, List.set_cons_zero, List.set_cons_succ]
          refine takeV 19 29 (.pointer (some ⟨b, off + (j + 1) * 2 + 1, none⟩)) rfl rfl (Or.inl ⟨by rfl, ?_⟩) ?_
          · intro w hSw
            go_simp
          simp only [Act.put, List.setIfInBounds_toArray, List.set_cons_zero, List.set_cons_succ]
          refine takeV 20 30 (.string x.text) rfl rfl (Or.inl ⟨by rfl, ?_⟩) ?_
          · intro w hSw
            go_simp
          simp only [Act.put, List.setIfInBounds_toArray, List.set_cons_zero, List.set_cons_succ]
          refine wpAnyH_ready (rs := [21]) (by kernel_rfl) (by simp) ?_
          refine AllReadyH.cons (o := { dst := some 31, op := Op.call { callee := Callee.value (Operand.func 48), args := #[Operand.tmp 30], argTypes := #[9] }, type := 4, pos := "l06_order.go:31", after := #[{ on := 20, ground := Ground.data }, { on := 15, ground := Ground.chain }, { on := 15, ground := Ground.guard }], guard := some (15, false) }) rfl (fun K hK => ?_) AllReadyH.nil
          go_simp
          refine (hT.out _).mono ?_
          rintro e w1 ⟨rfl, e1⟩
          subst e1
          go_wp2_with fail
          refine hK.out _ _ ?_ (fun hHeld => ?_)
          · go_keep
          clear hK K
          refine takeV 22 32 (.bool false) rfl rfl (Or.inl ⟨by rfl, ?_⟩) ?_
          · intro w hSw
            go_simp
          simp only [Act.put, List.setIfInBounds_toArray, List.set_cons_zero, List.set_cons_succ]
          refine takeV 23 33 (.bool false) rfl rfl (Or.inl ⟨by rfl, ?_⟩) ?_
          · intro w hSw
            go_simp
          simp only [Act.put, List.setIfInBounds_toArray, List.set_cons_zero, List.set_cons_succ]
          refine takeV 24 34 (.bool false) rfl rfl (Or.inl ⟨by rfl, ?_⟩) ?_
          · intro w hSw
            go_simp
          simp only [Act.put, List.setIfInBounds_toArray, List.set_cons_zero, List.set_cons_succ]
          refine takeV 25 35 (.slice (some ⟨b, off, none⟩) xs.length cap) rfl rfl (Or.inl ⟨by rfl, ?_⟩) ?_
          · intro w hSw
            go_simp
          simp only [Act.put, List.setIfInBounds_toArray, List.set_cons_zero, List.set_cons_succ]
          refine takeV 26 36 (.int .i64 ((j : Int) + 1)) rfl rfl (Or.inl ⟨by rfl, ?_⟩) ?_
          · intro w hSw
            go_simp
          simp only [Act.put, List.setIfInBounds_toArray, List.set_cons_zero, List.set_cons_succ]
          refine takeV 27 37 (.pointer (some ⟨b, off + (j + 1) * 2, none⟩)) rfl rfl (Or.inl ⟨by rfl, ?_⟩) ?_
          · intro w hSw
            go_simp
          simp only [Act.put, List.setIfInBounds_toArray, List.set_cons_zero, List.set_cons_succ]
          refine takeV 28 38 (.pointer (some ⟨b, off + (j + 1) * 2 + 1, none⟩)) rfl rfl (Or.inl ⟨by rfl, ?_⟩) ?_
          · intro w hSw
            go_simp
          simp only [Act.put, List.setIfInBounds_toArray, List.set_cons_zero, List.set_cons_succ]
          refine takeV 29 39 (.string x.text) rfl rfl (Or.inl ⟨by rfl, ?_⟩) ?_
          · intro w hSw
            go_simp
          simp only [Act.put, List.setIfInBounds_toArray, List.set_cons_zero, List.set_cons_succ]
          refine takeV 30 40 (.int .i64 x.text.size) rfl rfl (Or.inl ⟨by rfl, ?_⟩) ?_
          · intro w hSw
            go_simp
          simp only [Act.put, List.setIfInBounds_toArray, List.set_cons_zero, List.set_cons_succ]
          refine takeV 31 41 (.bool false) rfl rfl (Or.inl ⟨by rfl, ?_⟩) ?_
          · intro w hSw
            go_simp
          simp only [Act.put, List.setIfInBounds_toArray, List.set_cons_zero, List.set_cons_succ]
          refine takeV 32 42 (.bool false) rfl rfl (Or.inl ⟨by rfl, ?_⟩) ?_
          · intro w hSw
            go_simp
          simp only [Act.put, List.setIfInBounds_toArray, List.set_cons_zero, List.set_cons_succ]
          refine takeV 33 43 (.bool false) rfl rfl (Or.inl ⟨by rfl, ?_⟩) ?_
          · intro w hSw
            go_simp
          simp only [Act.put, List.setIfInBounds_toArray, List.set_cons_zero, List.set_cons_succ]
          refine takeV 34 44 (.int .i64 ((j : Int) + 1)) rfl rfl (Or.inl ⟨by rfl, ?_⟩) ?_
          · intro w hSw
            go_simp
          simp only [Act.put, List.setIfInBounds_toArray, List.set_cons_zero, List.set_cons_succ]
          refine takeV 35 45 (.bool true) rfl rfl (Or.inl ⟨by rfl, ?_⟩) ?_
          · intro w hSw
            go_simp
          simp only [Act.put, List.setIfInBounds_toArray, List.set_cons_zero, List.set_cons_succ]
          refine takeV 36 46 (.bool true) rfl rfl (Or.inl ⟨by rfl, ?_⟩) ?_
          · intro w hSw
            go_simp
          simp only [Act.put, List.setIfInBounds_toArray, List.set_cons_zero, List.set_cons_succ]
          refine takeV 37 47 (.slice (some ⟨b, off, none⟩) xs.length cap) rfl rfl (Or.inl ⟨by rfl, ?_⟩) ?_
          · intro w hSw
            go_simp
          simp only [Act.put, List.setIfInBounds_toArray, List.set_cons_zero, List.set_cons_succ]
          refine takeV 38 48 (.int .i64 ((j : Int) + 1)) rfl rfl (Or.inl ⟨by rfl, ?_⟩) ?_
          · intro w hSw
            go_simp
          simp only [Act.put, List.setIfInBounds_toArray, List.set_cons_zero, List.set_cons_succ]
          refine takeV 39 49 (.int .i64 j) rfl rfl (Or.inl ⟨by rfl, ?_⟩) ?_
          · intro w hSw
            go_simp
          simp only [Act.put, List.setIfInBounds_toArray, List.set_cons_zero, List.set_cons_succ]
          refine takeV 40 50 (.pointer (some ⟨b, off + j * 2, none⟩)) rfl rfl (Or.inl ⟨by rfl, ?_⟩) ?_
          · intro w hSw
            go_simp
          simp only [Act.put, List.setIfInBounds_toArray, List.set_cons_zero, List.set_cons_succ]
          refine takeV 41 51 (.pointer (some ⟨b, off + j * 2, none⟩)) rfl rfl (Or.inl ⟨by rfl, ?_⟩) ?_
          · intro w hSw
            go_simp
          simp only [Act.put, List.setIfInBounds_toArray, List.set_cons_zero, List.set_cons_succ]
          refine takeV 42 52 (.string y.key) rfl rfl (Or.inl ⟨by rfl, ?_⟩) ?_
          · intro w hSw
            go_simp
          simp only [Act.put, List.setIfInBounds_toArray, List.set_cons_zero, List.set_cons_succ]
          refine takeV 43 53 (.slice (some ⟨b, off, none⟩) xs.length cap) rfl rfl (Or.inl ⟨by rfl, ?_⟩) ?_
          · intro w hSw
            go_simp
          simp only [Act.put, List.setIfInBounds_toArray, List.set_cons_zero, List.set_cons_succ]
          refine takeV 44 54 (.int .i64 ((j : Int) + 1)) rfl rfl (Or.inl ⟨by rfl, ?_⟩) ?_
          · intro w hSw
            go_simp
          simp only [Act.put, List.setIfInBounds_toArray, List.set_cons_zero, List.set_cons_succ]
          refine takeV 45 55 (.pointer (some ⟨b, off + (j + 1) * 2, none⟩)) rfl rfl (Or.inl ⟨by rfl, ?_⟩) ?_
          · intro w hSw
            go_simp
          simp only [Act.put, List.setIfInBounds_toArray, List.set_cons_zero, List.set_cons_succ]
          refine takeV 46 56 (.pointer (some ⟨b, off + (j + 1) * 2, none⟩)) rfl rfl (Or.inl ⟨by rfl, ?_⟩) ?_
          · intro w hSw
            go_simp
          simp only [Act.put, List.setIfInBounds_toArray, List.set_cons_zero, List.set_cons_succ]
          refine takeV 47 57 (.string x.key) rfl rfl (Or.inl ⟨by rfl, ?_⟩) ?_
          · intro w hSw
            go_simp
          simp only [Act.put, List.setIfInBounds_toArray, List.set_cons_zero, List.set_cons_succ]
          refine takeV 48 58 (.bool false) rfl rfl (Or.inl ⟨by rfl, ?_⟩) ?_
          · intro w hSw
            go_simp
          simp only [Act.put, List.setIfInBounds_toArray, List.set_cons_zero, List.set_cons_succ]
          refine takeV 49 59 (.bool false) rfl rfl (Or.inl ⟨by rfl, ?_⟩) ?_
          · intro w hSw
            go_simp
          simp only [Act.put, List.setIfInBounds_toArray, List.set_cons_zero, List.set_cons_succ]
          refine takeV 50 60 (.bool false) rfl rfl (Or.inl ⟨by rfl, ?_⟩) ?_
          · intro w hSw
            go_simp
          simp only [Act.put, List.setIfInBounds_toArray, List.set_cons_zero, List.set_cons_succ]
          refine wpAnyH_done (by kernel_rfl) ?_ _
          go_wp2
          exact ⟨⟨j + 1 + 1, by omega, by go_num, HS.out, below_drewO HB.out _⟩, by simp [intOf]; omega⟩
        · have hle' : Op.bytesLess xs[j].key.toList xs[j + 1].key.toList = false := by simpa using hle
          have HN := Lib.hid (els_no (nm := Not.key) (ok := Not.okB) hlt fun h => hle (h.2 (by omega)))
          clear hb hle
          generalize xs[j + 1] = x at *
          generalize xs[j] = y at *
          have b5 : ¬ (40 : Int) < x.text.size := by omega
          have b6 : decide ((40 : Int) < x.text.size) = false := by simpa using b5
          have b7 : decide (40 < x.text.size) = false := by simp; omega
          go_wp2
          refine wp_region_held_drew (S := (fun w' => w'.cell? ⟨b, off + (j + 1) * 2, none⟩ = some (.string x.key) ∧ w'.cell? ⟨b, off + (j + 1) * 2 + 1, none⟩ = some (.string x.text) ∧ w'.cell? ⟨b, off + j * 2, none⟩ = some (.string y.key))) (by kernel_rfl) ?_ (fun hHeld => ?_)
          · go_keep
          refine takeV 0 10 (.slice (some ⟨b, off, none⟩) xs.length cap) rfl rfl (Or.inl ⟨by rfl, ?_⟩) ?_
          · intro w hSw
            go_simp
          simp only [Act.put, List.setIfInBounds_toArray, List.set_cons_zero, List.set_cons_succ]
          refine takeV 1 11 (.int .i64 ((j : Int) + 1)) rfl rfl (Or.inl ⟨by rfl, ?_⟩) ?_
          · intro w hSw
            go_simp
          simp only [Act.put, List.setIfInBounds_toArray, List.set_cons_zero, List.set_cons_succ]
          refine takeV 2 12 (.pointer (some ⟨b, off + (j + 1) * 2, none⟩)) rfl rfl (Or.inl ⟨by rfl, ?_⟩) ?_
          · intro w hSw
            go_simp
          simp only [Act.put, List.setIfInBounds_toArray, List.set_cons_zero, List.set_cons_succ]
          refine takeV 3 13 (.pointer (some ⟨b, off + (j + 1) * 2, none⟩)) rfl rfl (Or.inl ⟨by rfl, ?_⟩) ?_
          · intro w hSw
            go_simp
          simp only [Act.put, List.setIfInBounds_toArray, List.set_cons_zero, List.set_cons_succ]
          refine takeV 4 14 (.string x.key) rfl rfl (Or.inl ⟨by rfl, ?_⟩) ?_
          · intro w hSw
            go_simp
          simp only [Act.put, List.setIfInBounds_toArray, List.set_cons_zero, List.set_cons_succ]
          refine wpAnyH_ready (rs := [5]) (by kernel_rfl) (by simp) ?_
          refine AllReadyH.cons (o := { dst := some 15, op := Op.call { callee := Callee.value (Operand.func 103), args := #[Operand.tmp 14], argTypes := #[9] }, type := 4, pos := "l06_order.go:31", after := #[{ on := 4, ground := Ground.data }], guard := none }) rfl (fun K hK => ?_) AllReadyH.nil
          go_simp
          refine (hP.out _).mono ?_
          rintro e w1 ⟨rfl, e1⟩
          subst e1
          go_wp2_with fail
          refine hK.out _ _ ?_ (fun hHeld => ?_)
          · go_keep
          clear hK K
          refine takeV 6 16 (.bool false) rfl rfl (Or.inl ⟨by rfl, ?_⟩) ?_
          · intro w hSw
            go_simp
          simp only [Act.put, List.setIfInBounds_toArray, List.set_cons_zero, List.set_cons_succ]
          refine takeV 7 17 (.bool false) rfl rfl (Or.inl ⟨by rfl, ?_⟩) ?_
          · intro w hSw
            go_simp
          simp only [Act.put, List.setIfInBounds_toArray, List.set_cons_zero, List.set_cons_succ]
          refine takeV 8 18 (.slice (some ⟨b, off, none⟩) xs.length cap) rfl rfl (Or.inl ⟨by rfl, ?_⟩) ?_
          · intro w hSw
            go_simp
          simp only [Act.put, List.setIfInBounds_toArray, List.set_cons_zero, List.set_cons_succ]
          refine takeV 9 19 (.int .i64 ((j : Int) + 1)) rfl rfl (Or.inl ⟨by rfl, ?_⟩) ?_
          · intro w hSw
            go_simp
          simp only [Act.put, List.setIfInBounds_toArray, List.set_cons_zero, List.set_cons_succ]
          refine takeV 10 20 (.pointer (some ⟨b, off + (j + 1) * 2, none⟩)) rfl rfl (Or.inl ⟨by rfl, ?_⟩) ?_
          · intro w hSw
            go_simp
          simp only [Act.put, List.setIfInBounds_toArray, List.set_cons_zero, List.set_cons_succ]
          refine takeV 11 21 (.pointer (some ⟨b, off + (j + 1) * 2, none⟩)) rfl rfl (Or.inl ⟨by rfl, ?_⟩) ?_
          · intro w hSw
            go_simp
          simp only [Act.put, List.setIfInBounds_toArray, List.set_cons_zero, List.set_cons_succ]
          refine takeV 12 22 (.string x.key) rfl rfl (Or.inl ⟨by rfl, ?_⟩) ?_
          · intro w hSw
            go_simp
          simp only [Act.put, List.setIfInBounds_toArray, List.set_cons_zero, List.set_cons_succ]
          refine wpAnyH_ready (rs := [13]) (by kernel_rfl) (by simp) ?_
          refine AllReadyH.cons (o := { dst := some 23, op := Op.call { callee := Callee.value (Operand.func 104), args := #[Operand.tmp 22], argTypes := #[9] }, type := 4, pos := "l06_order.go:31", after := #[{ on := 12, ground := Ground.data }, { on := 7, ground := Ground.chain }, { on := 7, ground := Ground.guard }], guard := some (7, false) }) rfl (fun K hK => ?_) AllReadyH.nil
          go_simp
          refine (hO.out _).mono ?_
          rintro e w1 ⟨rfl, e1⟩
          subst e1
          go_wp2_with fail
          refine hK.out _ _ ?_ (fun hHeld => ?_)
          · go_keep
          clear hK K
          refine takeV 14 24 (.bool false) rfl rfl (Or.inl ⟨by rfl, ?_⟩) ?_
          · intro w hSw
            go_simp
          simp only [Act.put, List.setIfInBounds_toArray, List.set_cons_zero, List.set_cons_succ]
          refine takeV 15 25 (.bool false) rfl rfl (Or.inl ⟨by rfl, ?_⟩) ?_
          · intro w hSw
            go_simp
          simp only [Act.put, List.setIfInBounds_toArray, List.set_cons_zero, List.set_cons_succ]
          refine takeV 16 26 (.slice (some ⟨b, off, none⟩) xs.length cap) rfl rfl (Or.inl ⟨by rfl, ?_⟩) ?_
          · intro w hSw
            go_simp
          simp only [Act.put, List.setIfInBounds_toArray, List.set_cons_zero, List.set_cons_succ]
          refine takeV 17 27 (.int .i64 ((j : Int) + 1)) rfl rfl (Or.inl ⟨by rfl, ?_⟩) ?_
          · intro w hSw
            go_simp
          simp only [Act.put, List.setIfInBounds_toArray, List.set_cons_zero, List.set_cons_succ]
          refine takeV 18 28 (.pointer (some ⟨b, off + (j + 1) * 2, none⟩)) rfl rfl (Or.inl ⟨by rfl, ?_⟩) ?_
          · intro w hSw
            go_simp
          simp only [Act.put, List.setIfInBounds_toArray, List.set_cons_zero, List.set_cons_succ]
          refine takeV 19 29 (.pointer (some ⟨b, off + (j + 1) * 2 + 1, none⟩)) rfl rfl (Or.inl ⟨by rfl, ?_⟩) ?_
          · intro w hSw
            go_simp
          simp only [Act.put, List.setIfInBounds_toArray, List.set_cons_zero, List.set_cons_succ]
          refine takeV 20 30 (.string x.text) rfl rfl (Or.inl ⟨by rfl, ?_⟩) ?_
          · intro w hSw
            go_simp
          simp only [Act.put, List.setIfInBounds_toArray, List.set_cons_zero, List.set_cons_succ]
          refine wpAnyH_ready (rs := [21]) (by kernel_rfl) (by simp) ?_
          refine AllReadyH.cons (o := { dst := some 31, op := Op.call { callee := Callee.value (Operand.func 48), args := #[Operand.tmp 30], argTypes := #[9] }, type := 4, pos := "l06_order.go:31", after := #[{ on := 20, ground := Ground.data }, { on := 15, ground := Ground.chain }, { on := 15, ground := Ground.guard }], guard := some (15, false) }) rfl (fun K hK => ?_) AllReadyH.nil
          go_simp
          refine (hT.out _).mono ?_
          rintro e w1 ⟨rfl, e1⟩
          subst e1
          go_wp2_with fail
          refine hK.out _ _ ?_ (fun hHeld => ?_)
          · go_keep
          clear hK K
          refine takeV 22 32 (.bool false) rfl rfl (Or.inl ⟨by rfl, ?_⟩) ?_
          · intro w hSw
            go_simp
          simp only [Act.put, List.setIfInBounds_toArray, List.set_cons_zero, List.set_cons_succ]
          refine takeV 23 33 (.bool false) rfl rfl (Or.inl ⟨by rfl, ?_⟩) ?_
          · intro w hSw
            go_simp
          simp only [Act.put, List.setIfInBounds_toArray, List.set_cons_zero, List.set_cons_succ]
          refine takeV 24 34 (.bool false) rfl rfl (Or.inl ⟨by rfl, ?_⟩) ?_
          · intro w hSw
            go_simp
          simp only [Act.put, List.setIfInBounds_toArray, List.set_cons_zero, List.set_cons_succ]
          refine takeV 25 35 (.slice (some ⟨b, off, none⟩) xs.length cap) rfl rfl (Or.inl ⟨by rfl, ?_⟩) ?_
          · intro w hSw
            go_simp
          simp only [Act.put, List.setIfInBounds_toArray, List.set_cons_zero, List.set_cons_succ]
          refine takeV 26 36 (.int .i64 ((j : Int) + 1)) rfl rfl (Or.inl ⟨by rfl, ?_⟩) ?_
          · intro w hSw
            go_simp
          simp only [Act.put, List.setIfInBounds_toArray, List.set_cons_zero, List.set_cons_succ]
          refine takeV 27 37 (.pointer (some ⟨b, off + (j + 1) * 2, none⟩)) rfl rfl (Or.inl ⟨by rfl, ?_⟩) ?_
          · intro w hSw
            go_simp
          simp only [Act.put, List.setIfInBounds_toArray, List.set_cons_zero, List.set_cons_succ]
          refine takeV 28 38 (.pointer (some ⟨b, off + (j + 1) * 2 + 1, none⟩)) rfl rfl (Or.inl ⟨by rfl, ?_⟩) ?_
          · intro w hSw
            go_simp
          simp only [Act.put, List.setIfInBounds_toArray, List.set_cons_zero, List.set_cons_succ]
          refine takeV 29 39 (.string x.text) rfl rfl (Or.inl ⟨by rfl, ?_⟩) ?_
          · intro w hSw
            go_simp
          simp only [Act.put, List.setIfInBounds_toArray, List.set_cons_zero, List.set_cons_succ]
          refine takeV 30 40 (.int .i64 x.text.size) rfl rfl (Or.inl ⟨by rfl, ?_⟩) ?_
          · intro w hSw
            go_simp
          simp only [Act.put, List.setIfInBounds_toArray, List.set_cons_zero, List.set_cons_succ]
          refine takeV 31 41 (.bool false) rfl rfl (Or.inl ⟨by rfl, ?_⟩) ?_
          · intro w hSw
            go_simp
          simp only [Act.put, List.setIfInBounds_toArray, List.set_cons_zero, List.set_cons_succ]
          refine takeV 32 42 (.bool false) rfl rfl (Or.inl ⟨by rfl, ?_⟩) ?_
          · intro w hSw
            go_simp
          simp only [Act.put, List.setIfInBounds_toArray, List.set_cons_zero, List.set_cons_succ]
          refine takeV 33 43 (.bool false) rfl rfl (Or.inl ⟨by rfl, ?_⟩) ?_
          · intro w hSw
            go_simp
          simp only [Act.put, List.setIfInBounds_toArray, List.set_cons_zero, List.set_cons_succ]
          refine takeV 34 44 (.int .i64 ((j : Int) + 1)) rfl rfl (Or.inl ⟨by rfl, ?_⟩) ?_
          · intro w hSw
            go_simp
          simp only [Act.put, List.setIfInBounds_toArray, List.set_cons_zero, List.set_cons_succ]
          refine takeV 35 45 (.bool true) rfl rfl (Or.inl ⟨by rfl, ?_⟩) ?_
          · intro w hSw
            go_simp
          simp only [Act.put, List.setIfInBounds_toArray, List.set_cons_zero, List.set_cons_succ]
          refine takeV 36 46 (.bool true) rfl rfl (Or.inl ⟨by rfl, ?_⟩) ?_
          · intro w hSw
            go_simp
          simp only [Act.put, List.setIfInBounds_toArray, List.set_cons_zero, List.set_cons_succ]
          refine takeV 37 47 (.slice (some ⟨b, off, none⟩) xs.length cap) rfl rfl (Or.inl ⟨by rfl, ?_⟩) ?_
          · intro w hSw
            go_simp
          simp only [Act.put, List.setIfInBounds_toArray, List.set_cons_zero, List.set_cons_succ]
          refine takeV 38 48 (.int .i64 ((j : Int) + 1)) rfl rfl (Or.inl ⟨by rfl, ?_⟩) ?_
          · intro w hSw
            go_simp
          simp only [Act.put, List.setIfInBounds_toArray, List.set_cons_zero, List.set_cons_succ]
          refine takeV 39 49 (.int .i64 j) rfl rfl (Or.inl ⟨by rfl, ?_⟩) ?_
          · intro w hSw
            go_simp
          simp only [Act.put, List.setIfInBounds_toArray, List.set_cons_zero, List.set_cons_succ]
          refine takeV 40 50 (.pointer (some ⟨b, off + j * 2, none⟩)) rfl rfl (Or.inl ⟨by rfl, ?_⟩) ?_
          · intro w hSw
            go_simp
          simp only [Act.put, List.setIfInBounds_toArray, List.set_cons_zero, List.set_cons_succ]
          refine takeV 41 51 (.pointer (some ⟨b, off + j * 2, none⟩)) rfl rfl (Or.inl ⟨by rfl, ?_⟩) ?_
          · intro w hSw
            go_simp
          simp only [Act.put, List.setIfInBounds_toArray, List.set_cons_zero, List.set_cons_succ]
          refine takeV 42 52 (.string y.key) rfl rfl (Or.inl ⟨by rfl, ?_⟩) ?_
          · intro w hSw
            go_simp
          simp only [Act.put, List.setIfInBounds_toArray, List.set_cons_zero, List.set_cons_succ]
          refine takeV 43 53 (.slice (some ⟨b, off, none⟩) xs.length cap) rfl rfl (Or.inl ⟨by rfl, ?_⟩) ?_
          · intro w hSw
            go_simp
          simp only [Act.put, List.setIfInBounds_toArray, List.set_cons_zero, List.set_cons_succ]
          refine takeV 44 54 (.int .i64 ((j : Int) + 1)) rfl rfl (Or.inl ⟨by rfl, ?_⟩) ?_
          · intro w hSw
            go_simp
          simp only [Act.put, List.setIfInBounds_toArray, List.set_cons_zero, List.set_cons_succ]
          refine takeV 45 55 (.pointer (some ⟨b, off + (j + 1) * 2, none⟩)) rfl rfl (Or.inl ⟨by rfl, ?_⟩) ?_
          · intro w hSw
            go_simp
          simp only [Act.put, List.setIfInBounds_toArray, List.set_cons_zero, List.set_cons_succ]
          refine takeV 46 56 (.pointer (some ⟨b, off + (j + 1) * 2, none⟩)) rfl rfl (Or.inl ⟨by rfl, ?_⟩) ?_
          · intro w hSw
            go_simp
          simp only [Act.put, List.setIfInBounds_toArray, List.set_cons_zero, List.set_cons_succ]
          refine takeV 47 57 (.string x.key) rfl rfl (Or.inl ⟨by rfl, ?_⟩) ?_
          · intro w hSw
            go_simp
          simp only [Act.put, List.setIfInBounds_toArray, List.set_cons_zero, List.set_cons_succ]
          refine takeV 48 58 (.bool true) rfl rfl (Or.inl ⟨by rfl, ?_⟩) ?_
          · intro w hSw
            go_simp
          simp only [Act.put, List.setIfInBounds_toArray, List.set_cons_zero, List.set_cons_succ]
          refine takeV 49 59 (.bool true) rfl rfl (Or.inl ⟨by rfl, ?_⟩) ?_
          · intro w hSw
            go_simp
          simp only [Act.put, List.setIfInBounds_toArray, List.set_cons_zero, List.set_cons_succ]
          refine takeV 50 60 (.bool true) rfl rfl (Or.inl ⟨by rfl, ?_⟩) ?_
          · intro w hSw
            go_simp
          simp only [Act.put, List.setIfInBounds_toArray, List.set_cons_zero, List.set_cons_succ]
          refine wpAnyH_done (by kernel_rfl) ?_ _
          go_wp2
          go_ret
          exact ⟨by rw [HN.out]; rfl, below_drewO HB.out _⟩
    · have HE : Hid (dec (Els Not.key Not.okB xs) = decide ((xs.length : Int) ≤ 4)) := by
        show _ = _
        by_cases h : xs.length ≤ 4
        · rw [dec_yes ⟨fun i hi => hr.out i hi (by omega), h⟩]; simp; omega
        · rw [dec_no fun h' => h h'.2]; simp; omega
      go_wp2
      go_ret
      exact ⟨by rw [HE.out]; rfl, HB.out⟩
end Go.Proofs.YtelpkcbbipianaaGreat
