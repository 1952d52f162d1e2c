/-
  What is proved: the program's TreeSame tells whether two trees are the same; so do slices.Equal of two lists of texts, and slices.EqualFunc of two lists of trees by it.
-/
import Derived.Test.YthbphkakbjheeaaTreeEq
namespace Go.Proofs.Ythbphkakbjheeaa
open Go Go.RowKit

/-- What the program's TreeSame answers of one tree, and of any other one. -/
def ImplSameAt (T : RT) : Prop := ∀ (w : World) (kv dv : Value) (F : List Nat), Lies w T kv dv F → ∀ (T' : RT) (kv' dv' : Value) (F' : List Nat), Lies w T' kv' dv' F' →
  Calls Try.prog 21 #[T.val kv dv, T'.val kv' dv'] w fun e w' => e = .returned (.bool (same T T')) ∧ Below w.heap.size w w'

set_option maxHeartbeats 400000 in
theorem slices_eq {v v' : Value} {ks ks' : List ByteArray} {F F' : List Nat} (w : World) (hs : StrsAt w v ks F) (hs' : StrsAt w v' ks' F') :
    Calls Try.prog 52 #[v, v'] w fun e w' => e = .returned (.bool (same ks ks')) ∧ Below w.heap.size w w' := by
  obtain ⟨o, cap, b, off, rfl, hlc, hcm, ho, -, hcell, -⟩ := hs
  obtain ⟨o', cap', b', off', rfl, hlc', hcm', ho', -, hcell', -⟩ := hs'
  have HC := Lib.hid hcell
  have HO := Lib.hid ho
  have HC' := Lib.hid hcell'
  have HO' := Lib.hid ho'
  clear hcell ho hcell' ho'
  unfold maxLen at hcm hcm'
  by_cases hl : ks.length = ks'.length
  · have HE := Lib.hid hl
    rw [← hl]
    clear hl
    rw [← HE.out] at hlc'
    go_enter Try.func52, Try.ntmps52
    go_wp2
    go_loopw [13] (fun i wr => ∃ k : Nat, k ≤ ks.length ∧ i = .int .i64 k ∧ Hid (ks.take k = ks'.take k) ∧ Below w.heap.size w wr) (fun i _ => ks.length - (intOf i).toNat)
    case atStart => exact ⟨0, Nat.zero_le _, rfl, rfl, Below.refl _ _⟩
    case round =>
      obtain ⟨k, hk, rfl, hr, hb⟩ := hrel
      have HB := Lib.hid hb
      by_cases hlt : k < ks.length
      · have l2 : k < ks'.length := by rw [← HE.out]; exact hlt
        have c0 : wr.cell? ⟨b, off + k, none⟩ = some (.string ks[k]) := by
          have := (HC.out k hlt).1
          rw [hb.cell (by exact World.block_lt_of_cell? _ _ this)]; exact this
        have c1 : wr.cell? ⟨b', off' + k, none⟩ = some (.string ks'[k]) := by
          have := (HC'.out k l2).1
          rw [hb.cell (by exact World.block_lt_of_cell? _ _ this)]; exact this
        have ho := HO.out (by omega)
        have ho' := HO'.out (by omega)
        subst ho ho'
        clear hb
        by_cases he : ks[k] = ks'[k]
        · have HR := Lib.hid (take_step hr.out hlt l2 he)
          rw [he] at c0
          clear he
          generalize hx : ks'[k] = x at *
          clear hx
          go_wp2
          go_quiet (fail)
          go_wp2
          exact ⟨⟨k + 1, by omega, by go_num, HR.out, below_drewN HB.out _⟩, by simp [intOf]; omega⟩
        · have HR := Lib.hid (ne_at hlt l2 he)
          have he' := bytes_ne he
          generalize hx : ks[k] = x at *
          generalize hy : ks'[k] = y at *
          clear hx hy
          go_wp2
          go_quiet (fail)
          go_wp2
          go_ret
          refine ⟨?_, below_drewN HB.out _⟩
          rw [same_no HR.out]
          rfl
      · have HR := Lib.hid (take_end hr.out hlt HE.out)
        go_wp2
        go_ret
        refine ⟨?_, HB.out⟩
        rw [same_yes HR.out]
        rfl
  · have hl' : ¬ ((ks.length : Int) = ks'.length) := by omega
    go_enter Try.func52, Try.ntmps52
    go_wp2
    go_ret
    refine ⟨?_, Below.refl _ _⟩
    rw [same_no (fun h => hl (by rw [h]))]
    rfl

set_option maxRecDepth 100000 in
set_option maxHeartbeats 800000 in
theorem slices_eq_func {dv dv' : Value} {kids kids' : List RT} {F F' : List Nat} (ih : ∀ t ∈ kids, ImplSameAt t) (w : World) (hs : KidsLie w dv kids F) (hs' : KidsLie w dv' kids' F') :
    Calls Try.prog 53 #[dv, dv', .func (.func 21) #[] #[]] w fun e w' => e = .returned (.bool (same kids kids')) ∧ Below w.heap.size w w' := by
  obtain ⟨o, cap, b, off, FF, KV, DV, rfl, hlc, hcm, ho, -, hcell, hlies, -⟩ := hs
  obtain ⟨o', cap', b', off', FF', KV', DV', rfl, hlc', hcm', ho', -, hcell', hlies', -⟩ := hs'
  have HC := Lib.hid hcell
  have HO := Lib.hid ho
  have HL := Lib.hid hlies
  have HC' := Lib.hid hcell'
  have HO' := Lib.hid ho'
  have HL' := Lib.hid hlies'
  clear hcell ho hcell' ho' hlies hlies'
  unfold maxLen at hcm hcm'
  by_cases hl : kids.length = kids'.length
  · have HE := Lib.hid hl
    rw [← hl]
    clear hl
    rw [← HE.out] at hlc'
    go_enter Try.func53, Try.ntmps53
    go_wp2
    go_loopw [17] (fun i wr => ∃ k : Nat, k ≤ kids.length ∧ i = .int .i64 k ∧ Hid (kids.take k = kids'.take k) ∧ Below w.heap.size w wr) (fun i _ => kids.length - (intOf i).toNat)
    case atStart => exact ⟨0, Nat.zero_le _, rfl, rfl, Below.refl _ _⟩
    case round =>
      obtain ⟨k, hk, rfl, hr, hb⟩ := hrel
      have HB := Lib.hid hb
      by_cases hlt : k < kids.length
      · have l2 : k < kids'.length := by rw [← HE.out]; exact hlt
        obtain ⟨c0, c1, c2, c3, c4⟩ := kid_cells (HC.out k hlt) hb
        obtain ⟨g0, g1, g2, g3, g4⟩ := kid_cells (HC'.out k l2) hb
        have ho := HO.out (by omega)
        have ho' := HO'.out (by omega)
        subst ho ho'
        have hih := Lib.hid (fun (w1 : World) (hb1 : Below w.heap.size w w1) => ih _ (List.getElem_mem hlt) w1 _ _ _ ((HL.out k hlt).stay hb1 (Nat.le_refl _)) _ _ _ _ ((HL'.out k l2).stay hb1 (Nat.le_refl _)))
        obtain ⟨⟨o1, q1, s1⟩, ⟨o2, q2, s2⟩⟩ := (HL.out k hlt).slices
        obtain ⟨⟨o3, q3, s3⟩, ⟨o4, q4, s4⟩⟩ := (HL'.out k l2).slices
        generalize KV k = v1 at *
        generalize DV k = v2 at *
        generalize KV' k = v3 at *
        generalize DV' k = v4 at *
        subst s1 s2 s3 s4
        have hB1 : Hid (∀ o1 o2, Below w.heap.size w ((wr.alloc o1).alloc o2)) := fun o1 o2 => (hb.alloc hb.size _).alloc (by have := hb.size; simp; omega) _
        have hlt' : b' < wr.heap.size := World.block_lt_of_cell? _ _ g0
        have ga0 : ∀ o, (wr.alloc o).cell? ⟨b', off' + k * 5, none⟩ = _ := fun o => (World.cell?_alloc_lt wr o ⟨b', off' + k * 5, none⟩ hlt').trans g0
        have ga1 : ∀ o, (wr.alloc o).cell? ⟨b', off' + k * 5 + 1, none⟩ = _ := fun o => (World.cell?_alloc_lt wr o ⟨b', off' + k * 5 + 1, none⟩ hlt').trans g1
        have ga2 : ∀ o, (wr.alloc o).cell? ⟨b', off' + k * 5 + 2, none⟩ = _ := fun o => (World.cell?_alloc_lt wr o ⟨b', off' + k * 5 + 2, none⟩ hlt').trans g2
        have ga3 : ∀ o, (wr.alloc o).cell? ⟨b', off' + k * 5 + 3, none⟩ = _ := fun o => (World.cell?_alloc_lt wr o ⟨b', off' + k * 5 + 3, none⟩ hlt').trans g3
        have ga4 : ∀ o, (wr.alloc o).cell? ⟨b', off' + k * 5 + 4, none⟩ = _ := fun o => (World.cell?_alloc_lt wr o ⟨b', off' + k * 5 + 4, none⟩ hlt').trans g4
        clear hb g0 g1 g2 g3 g4 hlt'
        by_cases he : kids[k] = kids'[k]
        · have HR := Lib.hid (take_step hr.out hlt l2 he)
          rw [he] at c0 c1 c2 c3 c4
          rw [same_yes he, he] at hih
          clear he
          generalize hx : kids'[k] = x at *
          clear hx
          go_wp2_with (first
            | (go_at_call 21; refine (hih.out _ (hB1.out _ _)).mono ?_; rintro e w1 ⟨rfl, hb1⟩)
            | go_in)
          exact ⟨⟨k + 1, by omega, by go_num, HR.out, (hB1.out _ _).trans (hb1.mono (hB1.out _ _).size)⟩, by simp [intOf]; omega⟩
        · have HR := Lib.hid (ne_at hlt l2 he)
          rw [same_no he] at hih
          clear he
          generalize kids[k] = x at *
          generalize kids'[k] = y at *
          go_wp2_with (first
            | (go_at_call 21; refine (hih.out _ (hB1.out _ _)).mono ?_; rintro e w1 ⟨rfl, hb1⟩)
            | go_in)
          go_ret
          refine ⟨?_, (hB1.out _ _).trans (hb1.mono (hB1.out _ _).size)⟩
          rw [same_no HR.out]
          rfl
      · have HR := Lib.hid (take_end hr.out hlt HE.out)
        go_wp2
        go_ret
        refine ⟨?_, HB.out⟩
        rw [same_yes HR.out]
        rfl
  · have hl' : ¬ ((kids.length : Int) = kids'.length) := by omega
    go_enter Try.func53, Try.ntmps53
    go_wp2
    go_ret
    refine ⟨?_, Below.refl _ _⟩
    rw [same_no (fun h => hl (by rw [h]))]
    rfl

set_option maxRecDepth 100000 in
set_option maxHeartbeats 800000 in
theorem impl_same (T : RT) : ImplSameAt T := by
  induction T using RT.ind with
  | h k n s keys kids ih =>
    intro w kv dv F hl T' kv' dv' F' hl'
    obtain ⟨k', n', s', keys', kids'⟩ := T'
    obtain ⟨-, -, -, FK, FD, hK, hD, -⟩ := hl.outn
    obtain ⟨-, -, -, FK', FD', hK', hD', -⟩ := hl'.outn
    clear hl hl'
    have b2 := Box2.start w (.int .i64 k) (.int .i64 n) (.string s) kv dv (.int .i64 k') (.int .i64 n') (.string s') kv' dv' 30 30
    have HK := Lib.hid fun (wr : World) (hb : Below w.heap.size w wr) => slices_eq wr (hK.stay hb (Nat.le_refl _)) (hK'.stay hb (Nat.le_refl _))
    have HD := Lib.hid fun (wr : World) (hb : Below w.heap.size w wr) => slices_eq_func ih wr (hD.stay hb (Nat.le_refl _)) (hD'.stay hb (Nat.le_refl _))
    have HX := Lib.hid b2
    clear hK hK' hD hD' ih b2
    show Calls Try.prog 21 #[.agg #[.int .i64 k, .int .i64 n, .string s, kv, dv], .agg #[.int .i64 k', .int .i64 n', .string s', kv', dv']] w _
    by_cases e1 : k = k'
    · by_cases e2 : n = n'
      · by_cases e3 : s = s'
        · subst e1 e2 e3
          by_cases e4 : keys = keys'
          · subst e4
            by_cases e5 : kids = kids'
            · subst e5
              rw [same_yes rfl]
              go_enter Try.func21, Try.ntmps21
              go_wp2_with (first
                | (go_at_call 52; refine (HK.out _ HX.out.below).mono ?_; rintro e w1 ⟨rfl, hb1⟩; rw [same_yes rfl]; have hx := HX.out.next hb1; have hB := Lib.hid hx.below; obtain ⟨-, -, -, -, -, -, c4, -, -, -, -, g4⟩ := hx; clear hb1)
                | (go_at_call 53; refine (HD.out _ hB.out).mono ?_; rintro e w2 ⟨rfl, hb2⟩; rw [same_yes rfl])
                | go_in)
              go_ret
              exact ⟨rfl, hB.out.trans (hb2.mono hB.out.size)⟩
            · rw [same_no (fun h => e5 (by injection h))]
              go_enter Try.func21, Try.ntmps21
              go_wp2_with (first
                | (go_at_call 52; refine (HK.out _ HX.out.below).mono ?_; rintro e w1 ⟨rfl, hb1⟩; rw [same_yes rfl]; have hx := HX.out.next hb1; have hB := Lib.hid hx.below; obtain ⟨-, -, -, -, -, -, c4, -, -, -, -, g4⟩ := hx; clear hb1)
                | (go_at_call 53; refine (HD.out _ hB.out).mono ?_; rintro e w2 ⟨rfl, hb2⟩; rw [same_no e5])
                | go_in)
              go_ret
              exact ⟨rfl, hB.out.trans (hb2.mono hB.out.size)⟩
          · rw [same_no (fun h => e4 (by injection h))]
            go_enter Try.func21, Try.ntmps21
            go_wp2_with (first
              | (go_at_call 52; refine (HK.out _ HX.out.below).mono ?_; rintro e w1 ⟨rfl, hb1⟩; rw [same_no e4]; have hB := Lib.hid (HX.out.next hb1).below; clear hb1)
              | go_in)
            go_ret
            exact ⟨rfl, hB.out⟩
        · have e3' := bytes_ne e3
          rw [same_no (fun h => e3 (by injection h))]
          go_enter Try.func21, Try.ntmps21
          go_wp2
          go_ret
          exact ⟨rfl, ((Below.refl _ w).alloc (Nat.le_refl _) _).alloc (by simp) _⟩
      · rw [same_no (fun h => e2 (by injection h))]
        go_enter Try.func21, Try.ntmps21
        go_wp2
        go_ret
        exact ⟨rfl, ((Below.refl _ w).alloc (Nat.le_refl _) _).alloc (by simp) _⟩
    · rw [same_no (fun h => e1 (by injection h))]
      go_enter Try.func21, Try.ntmps21
      go_wp2
      go_ret
      exact ⟨rfl, ((Below.refl _ w).alloc (Nat.le_refl _) _).alloc (by simp) _⟩
end Go.Proofs.Ythbphkakbjheeaa
