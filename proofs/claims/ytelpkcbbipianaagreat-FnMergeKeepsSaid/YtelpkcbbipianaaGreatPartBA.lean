/-
  What is proved: the program's TreeSame tells whether two trees are the same; so do slices.Equal of two lists of texts, and slices.EqualFunc of two lists of trees by it.; trees in boxes (NB); what the law FnMergeKeeps asks of a round, as Booleans; the law at a code that is too long.; plain facts on maps whose elements are trees: what such a map reads as, Key by Key; what behind a store and a delete.; the program's maps of trees at their operations (a look-up with and without its second value, a store, a delete); what kidsOf makes of a row of maps, and what stands at a Key of it.; the program's kidsOf makes a map of the first Kids at each Key of a row of maps; what stands at a Key of it.; rows of one map and of three, as they are handed to kidsOf.
-/
import Derived.Test.YtelpkcbbipianaaGreatPartAA
import Derived.Test.YtelpkcbbipianaaGreatPartAN
import Derived.Test.YtelpkcbbipianaaGreatPartAZ
import Derived.Test.YtelpkcbbipianaaGreatPartAG
import Derived.Test.YtelpkcbbipianaaGreatPartAH
import Derived.Test.YtelpkcbbipianaaGreatPartAD
import Derived.Test.YtelpkcbbipianaaGreatPartAC
import Derived.Maps.RangeWalk
import Derived.Maps.OwnOps
import Derived.Sort.KeysCollected
import Derived.Test.YtelpkcbbipianaaGreatPartAB
/- the program's TreeSame tells whether two trees are the same; so do slices.Equal of two lists of texts, and slices.EqualFunc of two lists of trees by it. -/
namespace Go.Proofs.YtelpkcbbipianaaGreat
open Go Go.RowKit

/-- What the program's TreeSame answers of one tree, and of any other one. -/
def ImplSameAt (T : RT) : Prop := ∀ (w : World) (kv dv : Value) (F : List Nat), Lies w T kv dv F → ∀ (T' : RT) (kv' dv' : Value) (F' : List Nat), Lies w T' kv' dv' F' →
  Calls Tryz.prog 10 #[T.val kv dv, T'.val kv' dv'] w fun e w' => e = .returned (.bool (same T T')) ∧ Below w.heap.size w w'

set_option maxHeartbeats 400000 in
theorem slices_eq {v v' : Value} {ks ks' : List ByteArray} {F F' : List Nat} (w : World) (hs : StrsAt w v ks F) (hs' : StrsAt w v' ks' F') :
    Calls Tryz.prog 19 #[v, v'] w fun e w' => e = .returned (.bool (same ks ks')) ∧ Below w.heap.size w w' := by
  obtain ⟨o, cap, b, off, rfl, hlc, hcm, ho, -, hcell, -⟩ := hs
  obtain ⟨o', cap', b', off', rfl, hlc', hcm', ho', -, hcell', -⟩ := hs'
  have HC := Lib.hid hcell
  have HO := Lib.hid ho
  have HC' := Lib.hid hcell'
  have HO' := Lib.hid ho'
  clear hcell ho hcell' ho'
  unfold maxLen at hcm hcm'
  by_cases hl : ks.length = ks'.length
  · have HE := Lib.hid hl
    rw [← hl]
    clear hl
    rw [← HE.out] at hlc'
    go_enter Tryz.func19, Tryz.ntmps19
    go_wp2
    go_loopw [13] (fun i wr => ∃ k : Nat, k ≤ ks.length ∧ i = .int .i64 k ∧ Hid (ks.take k = ks'.take k) ∧ Below w.heap.size w wr) (fun i _ => ks.length - (intOf i).toNat)
    case atStart => exact ⟨0, Nat.zero_le _, rfl, rfl, Below.refl _ _⟩
    case round =>
      obtain ⟨k, hk, rfl, hr, hb⟩ := hrel
      have HB := Lib.hid hb
      by_cases hlt : k < ks.length
      · have l2 : k < ks'.length := by rw [← HE.out]; exact hlt
        have c0 : wr.cell? ⟨b, off + k, none⟩ = some (.string ks[k]) := by
          have := (HC.out k hlt).1
          rw [hb.cell (by exact World.block_lt_of_cell? _ _ this)]; exact this
        have c1 : wr.cell? ⟨b', off' + k, none⟩ = some (.string ks'[k]) := by
          have := (HC'.out k l2).1
          rw [hb.cell (by exact World.block_lt_of_cell? _ _ this)]; exact this
        have ho := HO.out (by omega)
        have ho' := HO'.out (by omega)
        subst ho ho'
        clear hb
        by_cases he : ks[k] = ks'[k]
        · have HR := Lib.hid (take_step hr.out hlt l2 he)
          rw [he] at c0
          clear he
          generalize hx : ks'[k] = x at *
          clear hx
          go_wp2
          go_quiet (fail)
          go_wp2
          exact ⟨⟨k + 1, by omega, by go_num, HR.out, below_drewN HB.out _⟩, by simp [intOf]; omega⟩
        · have HR := Lib.hid (ne_at hlt l2 he)
          have he' := bytes_ne he
          generalize hx : ks[k] = x at *
          generalize hy : ks'[k] = y at *
          clear hx hy
          go_wp2
          go_quiet (fail)
          go_wp2
          go_ret
          refine ⟨?_, below_drewN HB.out _⟩
          rw [same_no HR.out]
          rfl
      · have HR := Lib.hid (take_end hr.out hlt HE.out)
        go_wp2
        go_ret
        refine ⟨?_, HB.out⟩
        rw [same_yes HR.out]
        rfl
  · have hl' : ¬ ((ks.length : Int) = ks'.length) := by omega
    go_enter Tryz.func19, Tryz.ntmps19
    go_wp2
    go_ret
    refine ⟨?_, Below.refl _ _⟩
    rw [same_no (fun h => hl (by rw [h]))]
    rfl

set_option maxRecDepth 100000 in
set_option maxHeartbeats 800000 in
theorem slices_eq_func {dv dv' : Value} {kids kids' : List RT} {F F' : List Nat} (ih : ∀ t ∈ kids, ImplSameAt t) (w : World) (hs : KidsLie w dv kids F) (hs' : KidsLie w dv' kids' F') :
    Calls Tryz.prog 20 #[dv, dv', .func (.func 10) #[] #[]] w fun e w' => e = .returned (.bool (same kids kids')) ∧ Below w.heap.size w w' := by
  obtain ⟨o, cap, b, off, FF, KV, DV, rfl, hlc, hcm, ho, -, hcell, hlies, -⟩ := hs
  obtain ⟨o', cap', b', off', FF', KV', DV', rfl, hlc', hcm', ho', -, hcell', hlies', -⟩ := hs'
  have HC := Lib.hid hcell
  have HO := Lib.hid ho
  have HL := Lib.hid hlies
  have HC' := Lib.hid hcell'
  have HO' := Lib.hid ho'
  have HL' := Lib.hid hlies'
  clear hcell ho hcell' ho' hlies hlies'
  unfold maxLen at hcm hcm'
  by_cases hl : kids.length = kids'.length
  · have HE := Lib.hid hl
    rw [← hl]
    clear hl
    rw [← HE.out] at hlc'
    go_enter Tryz.func20, Tryz.ntmps20
    go_wp2
    go_loopw [17] (fun i wr => ∃ k : Nat, k ≤ kids.length ∧ i = .int .i64 k ∧ Hid (kids.take k = kids'.take k) ∧ Below w.heap.size w wr) (fun i _ => kids.length - (intOf i).toNat)
    case atStart => exact ⟨0, Nat.zero_le _, rfl, rfl, Below.refl _ _⟩
    case round =>
      obtain ⟨k, hk, rfl, hr, hb⟩ := hrel
      have HB := Lib.hid hb
      by_cases hlt : k < kids.length
      · have l2 : k < kids'.length := by rw [← HE.out]; exact hlt
        obtain ⟨c0, c1, c2, c3, c4⟩ := kid_cells (HC.out k hlt) hb
        obtain ⟨g0, g1, g2, g3, g4⟩ := kid_cells (HC'.out k l2) hb
        have ho := HO.out (by omega)
        have ho' := HO'.out (by omega)
        subst ho ho'
        have hih := Lib.hid (fun (w1 : World) (hb1 : Below w.heap.size w w1) => ih _ (List.getElem_mem hlt) w1 _ _ _ ((HL.out k hlt).stay hb1 (Nat.le_refl _)) _ _ _ _ ((HL'.out k l2).stay hb1 (Nat.le_refl _)))
        obtain ⟨⟨o1, q1, s1⟩, ⟨o2, q2, s2⟩⟩ := (HL.out k hlt).slices
        obtain ⟨⟨o3, q3, s3⟩, ⟨o4, q4, s4⟩⟩ := (HL'.out k l2).slices
        generalize KV k = v1 at *
        generalize DV k = v2 at *
        generalize KV' k = v3 at *
        generalize DV' k = v4 at *
        subst s1 s2 s3 s4
        have hB1 : Hid (∀ o1 o2, Below w.heap.size w ((wr.alloc o1).alloc o2)) := fun o1 o2 => (hb.alloc hb.size _).alloc (by have := hb.size; simp; omega) _
        have hlt' : b' < wr.heap.size := World.block_lt_of_cell? _ _ g0
        have ga0 : ∀ o, (wr.alloc o).cell? ⟨b', off' + k * 5, none⟩ = _ := fun o => (World.cell?_alloc_lt wr o ⟨b', off' + k * 5, none⟩ hlt').trans g0
        have ga1 : ∀ o, (wr.alloc o).cell? ⟨b', off' + k * 5 + 1, none⟩ = _ := fun o => (World.cell?_alloc_lt wr o ⟨b', off' + k * 5 + 1, none⟩ hlt').trans g1
        have ga2 : ∀ o, (wr.alloc o).cell? ⟨b', off' + k * 5 + 2, none⟩ = _ := fun o => (World.cell?_alloc_lt wr o ⟨b', off' + k * 5 + 2, none⟩ hlt').trans g2
        have ga3 : ∀ o, (wr.alloc o).cell? ⟨b', off' + k * 5 + 3, none⟩ = _ := fun o => (World.cell?_alloc_lt wr o ⟨b', off' + k * 5 + 3, none⟩ hlt').trans g3
        have ga4 : ∀ o, (wr.alloc o).cell? ⟨b', off' + k * 5 + 4, none⟩ = _ := fun o => (World.cell?_alloc_lt wr o ⟨b', off' + k * 5 + 4, none⟩ hlt').trans g4
        clear hb g0 g1 g2 g3 g4 hlt'
        by_cases he : kids[k] = kids'[k]
        · have HR := Lib.hid (take_step hr.out hlt l2 he)
          rw [he] at c0 c1 c2 c3 c4
          rw [same_yes he, he] at hih
          clear he
          generalize hx : kids'[k] = x at *
          clear hx
          go_wp2_with (first
            | (go_at_call 10; refine (hih.out _ (hB1.out _ _)).mono ?_; rintro e w1 ⟨rfl, hb1⟩)
            | go_in)
          exact ⟨⟨k + 1, by omega, by go_num, HR.out, (hB1.out _ _).trans (hb1.mono (hB1.out _ _).size)⟩, by simp [intOf]; omega⟩
        · have HR := Lib.hid (ne_at hlt l2 he)
          rw [same_no he] at hih
          clear he
          generalize kids[k] = x at *
          generalize kids'[k] = y at *
          go_wp2_with (first
            | (go_at_call 10; refine (hih.out _ (hB1.out _ _)).mono ?_; rintro e w1 ⟨rfl, hb1⟩)
            | go_in)
          go_ret
          refine ⟨?_, (hB1.out _ _).trans (hb1.mono (hB1.out _ _).size)⟩
          rw [same_no HR.out]
          rfl
      · have HR := Lib.hid (take_end hr.out hlt HE.out)
        go_wp2
        go_ret
        refine ⟨?_, HB.out⟩
        rw [same_yes HR.out]
        rfl
  · have hl' : ¬ ((kids.length : Int) = kids'.length) := by omega
    go_enter Tryz.func20, Tryz.ntmps20
    go_wp2
    go_ret
    refine ⟨?_, Below.refl _ _⟩
    rw [same_no (fun h => hl (by rw [h]))]
    rfl

set_option maxRecDepth 100000 in
set_option maxHeartbeats 800000 in
theorem impl_same (T : RT) : ImplSameAt T := by
  induction T using RT.ind with
  | h k n s keys kids ih =>
    intro w kv dv F hl T' kv' dv' F' hl'
    obtain ⟨k', n', s', keys', kids'⟩ := T'
    obtain ⟨-, -, -, FK, FD, hK, hD, -⟩ := hl.outn
    obtain ⟨-, -, -, FK', FD', hK', hD', -⟩ := hl'.outn
    clear hl hl'
    have b2 := Box2.start w (.int .i64 k) (.int .i64 n) (.string s) kv dv (.int .i64 k') (.int .i64 n') (.string s') kv' dv' 27 27
    have HK := Lib.hid fun (wr : World) (hb : Below w.heap.size w wr) => slices_eq wr (hK.stay hb (Nat.le_refl _)) (hK'.stay hb (Nat.le_refl _))
    have HD := Lib.hid fun (wr : World) (hb : Below w.heap.size w wr) => slices_eq_func ih wr (hD.stay hb (Nat.le_refl _)) (hD'.stay hb (Nat.le_refl _))
    have HX := Lib.hid b2
    clear hK hK' hD hD' ih b2
    show Calls Tryz.prog 10 #[.agg #[.int .i64 k, .int .i64 n, .string s, kv, dv], .agg #[.int .i64 k', .int .i64 n', .string s', kv', dv']] w _
    by_cases e1 : k = k'
    · by_cases e2 : n = n'
      · by_cases e3 : s = s'
        · subst e1 e2 e3
          by_cases e4 : keys = keys'
          · subst e4
            by_cases e5 : kids = kids'
            · subst e5
              rw [same_yes rfl]
              go_enter Tryz.func10, Tryz.ntmps10
              go_wp2_with (first
                | (go_at_call 19; refine (HK.out _ HX.out.below).mono ?_; rintro e w1 ⟨rfl, hb1⟩; rw [same_yes rfl]; have hx := HX.out.next hb1; have hB := Lib.hid hx.below; obtain ⟨-, -, -, -, -, -, c4, -, -, -, -, g4⟩ := hx; clear hb1)
                | (go_at_call 20; refine (HD.out _ hB.out).mono ?_; rintro e w2 ⟨rfl, hb2⟩; rw [same_yes rfl])
                | go_in)
              go_ret
              exact ⟨rfl, hB.out.trans (hb2.mono hB.out.size)⟩
            · rw [same_no (fun h => e5 (by injection h))]
              go_enter Tryz.func10, Tryz.ntmps10
              go_wp2_with (first
                | (go_at_call 19; refine (HK.out _ HX.out.below).mono ?_; rintro e w1 ⟨rfl, hb1⟩; rw [same_yes rfl]; have hx := HX.out.next hb1; have hB := Lib.hid hx.below; obtain ⟨-, -, -, -, -, -, c4, -, -, -, -, g4⟩ := hx; clear hb1)
                | (go_at_call 20; refine (HD.out _ hB.out).mono ?_; rintro e w2 ⟨rfl, hb2⟩; rw [same_no e5])
                | go_in)
              go_ret
              exact ⟨rfl, hB.out.trans (hb2.mono hB.out.size)⟩
          · rw [same_no (fun h => e4 (by injection h))]
            go_enter Tryz.func10, Tryz.ntmps10
            go_wp2_with (first
              | (go_at_call 19; refine (HK.out _ HX.out.below).mono ?_; rintro e w1 ⟨rfl, hb1⟩; rw [same_no e4]; have hB := Lib.hid (HX.out.next hb1).below; clear hb1)
              | go_in)
            go_ret
            exact ⟨rfl, hB.out⟩
        · have e3' := bytes_ne e3
          rw [same_no (fun h => e3 (by injection h))]
          go_enter Tryz.func10, Tryz.ntmps10
          go_wp2
          go_ret
          exact ⟨rfl, ((Below.refl _ w).alloc (Nat.le_refl _) _).alloc (by simp) _⟩
      · rw [same_no (fun h => e2 (by injection h))]
        go_enter Tryz.func10, Tryz.ntmps10
        go_wp2
        go_ret
        exact ⟨rfl, ((Below.refl _ w).alloc (Nat.le_refl _) _).alloc (by simp) _⟩
    · rw [same_no (fun h => e1 (by injection h))]
      go_enter Tryz.func10, Tryz.ntmps10
      go_wp2
      go_ret
      exact ⟨rfl, ((Below.refl _ w).alloc (Nat.le_refl _) _).alloc (by simp) _⟩
end Go.Proofs.YtelpkcbbipianaaGreat

/- trees in boxes (NB); what the law FnMergeKeeps asks of a round, as Booleans; the law at a code that is too long. -/
namespace Go.Proofs.YtelpkcbbipianaaGreat
open Go Go.RowKit

/-- Trees in boxes. -/
structure NB (w wr : World) (l : List (Nat × RT × Value × Value × List Nat)) : Prop where
  below : Below w.heap.size w wr
  box : ∀ x ∈ l, wr.heap[x.1]? = some (.cells #[.int .i64 x.2.1.k, .int .i64 x.2.1.n, .string x.2.1.s, x.2.2.1, x.2.2.2.1] 27 (0, 0)) ∧ Lies wr x.2.1 x.2.2.1 x.2.2.2.1 x.2.2.2.2

theorem NB.next {w wr w1 : World} {l : List (Nat × RT × Value × Value × List Nat)} (h : NB w wr l) (hb : Below wr.heap.size wr w1) : NB w w1 l :=
  ⟨h.below.trans (hb.mono h.below.size), fun x hx => ⟨(hb.block _ (Array.getElem?_eq_some_iff.1 (h.box x hx).1).1).trans (h.box x hx).1, (h.box x hx).2.stay hb (Nat.le_refl _)⟩⟩

theorem NB.add {w wr : World} {l : List (Nat × RT × Value × Value × List Nat)} (h : NB w wr l) {T : RT} {kv dv : Value} {F : List Nat} (hl : Lies wr T kv dv F) : NB w (wr.alloc (.cells #[.int .i64 T.k, .int .i64 T.n, .string T.s, kv, dv] 27)) ((wr.heap.size, T, kv, dv, F) :: l) := by
  have hb := (Below.refl _ wr).alloc (Nat.le_refl _) (.cells #[.int .i64 T.k, .int .i64 T.n, .string T.s, kv, dv] 27)
  have h1 := h.next hb
  refine ⟨h1.below, fun x hx => ?_⟩
  rcases List.mem_cons.1 hx with rfl | hx
  · exact ⟨heap_last wr _, hl.stay hb (Nat.le_refl _)⟩
  · exact h1.box x hx

theorem NB.less {w wr : World} {l l' : List (Nat × RT × Value × Value × List Nat)} (h : NB w wr l) (hs : ∀ x ∈ l', x ∈ l) : NB w wr l' := ⟨h.below, fun x hx => h.box x (hs x hx)⟩

theorem key_cell {w : World} {T : RT} {o : Option Addr} {q : Nat} {dv : Value} {F : List Nat} (h : Lies w T (.slice o T.keys.length q) dv F) {j : Nat} (hj : j < T.keys.length) : ∃ b off, o = some ⟨b, off, none⟩ ∧ w.cell? ⟨b, off + j, none⟩ = some (.string T.keys[j]) := by
  obtain ⟨k, n, s, keys, kids⟩ := T
  obtain ⟨-, -, -, FK, FD, hK, -⟩ := h.outn
  obtain ⟨o', cap, b, off, e, h1, h2, h3, -, h4, -⟩ := hK
  injection e with e1 e2 e3
  subst e1 e3
  exact ⟨b, off, h3 (by simp only [RT.keys] at hj; omega), (h4 j hj).1⟩

theorem same_eq {X Y : RT} : same X Y = true ↔ X = Y := ⟨fun h => @of_decide_eq_true _ (Classical.propDecidable _) h, same_yes⟩

theorem ways_b {X Y Z G : RT} {p q r : Bool} (h : ((if p = true then some Y else none) = some X → (if r = true then some G else none) = (if q = true then some Z else none)) ∧ ((if q = true then some Z else none) = some X → (if r = true then some G else none) = (if p = true then some Y else none))) :
    (p = true → same Y X = true → r = q ∧ (q = true → same G Z = true)) ∧ (q = true → same Z X = true → r = p ∧ (p = true → same G Y = true)) ∧ (p = true → q = true → same Y X = true → same Z X = true → same G X = true) := by
  simp only [same_eq]
  obtain ⟨h1, h2⟩ := h
  refine ⟨fun hp e => ?_, fun hq e => ?_, fun hp hq e e' => ?_⟩
  · subst hp e
    have := h1 rfl
    cases r <;> cases q <;> simp_all
  · subst hq e
    have := h2 rfl
    cases r <;> cases p <;> simp_all
  · subst hp hq e e'
    have := h1 rfl
    cases r <;> simp_all

theorem ways9 {p q r y z g gz gy : Bool} (h : (p = true → y = true → r = q ∧ (q = true → gz = true)) ∧ (q = true → z = true → r = p ∧ (p = true → gy = true)) ∧ (p = true → q = true → y = true → z = true → g = true)) :
    (p = false ∧ q = false) ∨ (p = false ∧ q = true ∧ z = false) ∨ (p = false ∧ q = true ∧ z = true ∧ r = false) ∨ (p = true ∧ q = false ∧ y = false) ∨ (p = true ∧ q = false ∧ y = true ∧ r = false) ∨ (p = true ∧ q = true ∧ y = false ∧ z = false) ∨ (p = true ∧ q = true ∧ y = false ∧ z = true ∧ r = true ∧ gy = true) ∨ (p = true ∧ q = true ∧ y = true ∧ z = false ∧ r = true ∧ gz = true) ∨ (p = true ∧ q = true ∧ y = true ∧ z = true ∧ r = true ∧ g = true) := by
  obtain ⟨h1, h2, h3⟩ := h
  cases p <;> cases q <;> cases y <;> cases z <;> simp_all

theorem mk_big (a : Option Addr) (len cap : Nat) (hs : ¬ (1048576 : Int) < len) (w : World) : Calls Tryz.prog 4 #[.slice a len cap] w fun e w' => e = .returned (.bool false) ∧ w' = w := by
  go_enter Tryz.func4, Tryz.ntmps4
  go_wp2
  go_ret
  exact ⟨rfl, rfl⟩

set_option maxRecDepth 100000 in
theorem mk_long (a : Option Addr) (len cap : Nat) (_hm : len ≤ 9223372036854775807) (hs : (1048576 : Int) < len) (w : World) :
    Calls Tryz.prog 3 #[.slice a len cap] w fun e w' => e = .returned (.bool true) ∧ Below w.heap.size w w' := by
  have hbig : Calls Tryz.prog 4 #[.slice a len cap] w fun e w' => e = .returned (.bool true) ∧ w' = w := by
    go_enter Tryz.func4, Tryz.ntmps4
    go_wp2
    go_ret
    exact ⟨rfl, rfl⟩
  go_enter Tryz.func3, Tryz.ntmps3
  go_wp2_with fail
  refine hbig.mono ?_
  rintro e w0 ⟨rfl, e0⟩
  subst w0
  go_wp2
  go_ret
  exact ⟨rfl, Below.refl _ _⟩
end Go.Proofs.YtelpkcbbipianaaGreat

/- plain facts on maps whose elements are trees: what such a map reads as, Key by Key; what behind a store and a delete. -/
namespace Go.Proofs.YtelpkcbbipianaaGreat
open Go Go.RowKit Go.Maps

abbrev DV := DataW Value

/-- An element as what is kept. -/
def heldV (v : Value) : Option (DV × List MemPlace) := some (.held v, [])

/-- What a Key reads as. -/
def keyL (k : ByteArray) : Lit := .string k.data.toList

theorem keyL_inj {a b : ByteArray} (h : keyL a = keyL b) : a = b := by
  unfold keyL at h
  injection h with h
  exact ByteArray.ext (Array.toList_inj.1 h)

theorem keyL_key (k : ByteArray) : WideAt.IsKeyLit (keyL k) := trivial

/-- The map's datum reads as G: at each Key a tree that lies in w, in blocks of which P holds; or nothing. -/
def MapIs (w : World) (D : DV) (G : ByteArray → Option RT) (P : Nat → Prop) : Prop := ∀ key,
  (G key = none → has D (keyL key) = false) ∧
  ∀ X, G key = some X → ∃ kv dv F, (∀ z, D.atKey (keyL key) z = .held (.agg #[.int .i64 X.k, .int .i64 X.n, .string X.s, kv, dv])) ∧ Lies w X kv dv F ∧ ∀ y ∈ F, P y

theorem MapIs.start (w : World) (P : Nat → Prop) : MapIs w (.map []) (fun _ => none) P := fun _ => ⟨fun _ => rfl, fun _ h => absurd h (by simp)⟩

theorem MapIs.congr {w : World} {D : DV} {G G' : ByteArray → Option RT} {P : Nat → Prop} (h : MapIs w D G P) (e : ∀ key, G' key = G key) : MapIs w D G' P := fun key => ⟨fun h0 => (h key).1 (by rw [← e]; exact h0), fun X hX => (h key).2 X (by rw [← e]; exact hX)⟩

theorem MapIs.has {w : World} {D : DV} {G : ByteArray → Option RT} {P : Nat → Prop} (h : MapIs w D G P) (key : ByteArray) : has D (keyL key) = (G key).isSome := by
  cases hg : G key with
  | none => exact (h key).1 hg
  | some X =>
    obtain ⟨kv, dv, F, h1, -⟩ := (h key).2 X hg
    exact has_true_of_atKey h1

theorem MapIs.put {w : World} {D : DV} {G : ByteArray → Option RT} {P : Nat → Prop} (h : MapIs w D G P) (hD : IsMap D) (k : ByteArray) {X : RT} {kv dv : Value} {F : List Nat} (hl : Lies w X kv dv F) (hP : ∀ y ∈ F, P y) :
    MapIs w (D.put (keyL k) (.held (.agg #[.int .i64 X.k, .int .i64 X.n, .string X.s, kv, dv]))) (fun k' => if k' = k then some X else G k') P := fun key => by
  by_cases e : key = k
  · subst e
    simp only [if_true]
    refine ⟨fun h0 => absurd h0 (by simp), fun Y hY => ?_⟩
    injection hY with hY
    subst hY
    exact ⟨kv, dv, F, fun z => atKey_put_same hD (keyL_key _) _ _, hl, hP⟩
  · have hne : keyL key ≠ keyL k := fun h' => e (keyL_inj h')
    simp only [e, if_false]
    refine ⟨fun h0 => by rw [has_put_other hne]; exact (h key).1 h0, fun Y hY => ?_⟩
    obtain ⟨kv', dv', F', h1, h2⟩ := (h key).2 Y hY
    exact ⟨kv', dv', F', fun z => by rw [atKey_put_other hne]; exact h1 z, h2⟩

theorem MapIs.del {w : World} {D : DV} {G : ByteArray → Option RT} {P : Nat → Prop} (h : MapIs w D G P) (k : ByteArray) :
    MapIs w (D.del (keyL k)) (fun k' => if k' = k then none else G k') P := fun key => by
  by_cases e : key = k
  · subst e
    simp only [if_true]
    exact ⟨fun _ => has_del_same, fun Y hY => absurd hY (by simp)⟩
  · have hne : keyL key ≠ keyL k := fun h' => e (keyL_inj h')
    simp only [e, if_false]
    refine ⟨fun h0 => by rw [has_del_other hne]; exact (h key).1 h0, fun Y hY => ?_⟩
    obtain ⟨kv', dv', F', h1, h2⟩ := (h key).2 Y hY
    exact ⟨kv', dv', F', fun z => by rw [atKey_del_other hne]; exact h1 z, h2⟩

theorem MapIs.carry {w w' : World} {D : DV} {G : ByteArray → Option RT} {P P' : Nat → Prop} (h : MapIs w D G P) (hk : ∀ y, P y → y < w.heap.size → w'.heap[y]? = w.heap[y]? ∧ P' y) : MapIs w' D G P' := fun key => ⟨(h key).1, fun X hX => by
  obtain ⟨kv, dv, F, h1, h2, h3⟩ := (h key).2 X hX
  exact ⟨kv, dv, F, h1, h2.carry fun y hy => (hk y (h3 y hy) (h2.lt y hy)).1, fun y hy => (hk y (h3 y hy) (h2.lt y hy)).2⟩⟩

/-- What stands at a Key among the first i of a map's. -/
def atN (T : RT) (i : Nat) (key : ByteArray) : Option RT := (((T.keys.zip T.kids).take i).find? fun x => decide (x.1 = key)).map (·.2)

theorem atN_zero (T : RT) (key : ByteArray) : atN T 0 key = none := rfl

theorem atN_all {T : RT} (h : T.isMap) {i : Nat} (hi : T.keys.length ≤ i) (key : ByteArray) : atN T i key = T.at key := by
  rw [at_zip h, atN, List.take_of_length_le (by rw [List.length_zip, h.2, Nat.min_self]; have := h.2; omega)]

theorem atN_succ {T : RT} {i : Nat} (h1 : i < T.keys.length) (h2 : i < T.kids.length) (key : ByteArray) : atN T (i + 1) key = (atN T i key).or (if key = T.keys[i] then some T.kids[i] else none) := by
  have hz : i < (T.keys.zip T.kids).length := by rw [List.length_zip]; omega
  rw [atN, atN, List.take_succ_eq_append_getElem hz, List.find?_append, List.getElem_zip]
  cases hf : ((T.keys.zip T.kids).take i).find? fun x => decide (x.1 = key) with
  | some p => simp
  | none =>
    by_cases e : key = T.keys[i]
    · simp [e]
    · have e' : ¬ T.keys[i] = key := fun h => e h.symm
      simp [e, e']

/-- What stands at a Key in the first of some maps that has it. -/
def firstAt : List RT → ByteArray → Option RT
  | [], _ => none
  | T :: l, key => (T.at key).or (firstAt l key)

theorem firstAt_snoc (l : List RT) (T : RT) (key : ByteArray) : firstAt (l ++ [T]) key = (firstAt l key).or (T.at key) := by
  induction l with
  | nil => simp [firstAt]
  | cons t l ih => simp [firstAt, ih, Option.or_assoc]

theorem firstAt_take {l : List RT} {j : Nat} (h : j < l.length) (key : ByteArray) : firstAt (l.take (j + 1)) key = (firstAt (l.take j) key).or (l[j].at key) := by
  rw [List.take_succ_eq_append_getElem h, firstAt_snoc]
end Go.Proofs.YtelpkcbbipianaaGreat

/- the program's maps of trees at their operations (a look-up with and without its second value, a store, a delete); what kidsOf makes of a row of maps, and what stands at a Key of it. -/
namespace Go.Proofs.YtelpkcbbipianaaGreat
open Go Go.RowKit Go.Maps

theorem strK : Keyed Tryz.prog 9 := string_keyed Tryz.underlying9

theorem keyOf_key {key : ByteArray} (h : key.size ≤ maxLen) : keyOf Tryz.prog 9 (.string key) = some (keyL key) := Go.WideMaps.keyOf_string_mk Tryz.underlying9 h

theorem zero_node (w : World) : (zeroValue 27).run Tryz.prog w = .ok (.agg #[.int .i64 0, .int .i64 0, .string ⟨#[]⟩, .slice none 0 0, .slice none 0 0]) w := by kernel_rfl

/-- The node that a look-up answers where nothing stands. -/
def zeroT : RT := .node 0 0 ⟨#[]⟩ [] []

theorem zeroT_lies (w : World) : Lies w zeroT (.slice none 0 0) (.slice none 0 0) [] := by
  have h := Lies.into (w := w) (k := 0) (n := 0) (s := ⟨#[]⟩) (by unfold Fit; omega) (by unfold Fit; omega) (by decide) (strs_nil w none) (show KidsLie w (.slice none 0 0) [] [] from ⟨none, 0, 0, 0, fun _ => [], fun _ => .bool true, fun _ => .bool true, rfl, Nat.le_refl _, Nat.zero_le _, fun h => absurd h (by simp), rfl, fun i hi => absurd hi (by simp), fun i hi => absurd hi (by simp), Room.nil _ _ _⟩)
  exact h

/-- What a look-up hands over. -/
structure Kid (w : World) (P : Nat → Prop) (o : Option RT) (x1 : Option Addr) (c1 : Nat) (x2 : Option Addr) (c2 : Nat) (F : List Nat) : Prop where
  lies : Lies w (o.getD zeroT) (.slice x1 (o.getD zeroT).keys.length c1) (.slice x2 (o.getD zeroT).kids.length c2) F
  off : ∀ y ∈ F, P y

theorem MapIs.kid {w : World} {D : DV} {G : ByteArray → Option RT} {P : Nat → Prop} (h : MapIs w D G P) (key : ByteArray) :
    ∃ x1 c1 x2 c2 F, Kid w P (G key) x1 c1 x2 c2 F ∧ D.atKey (keyL key) (.held (.agg #[.int .i64 0, .int .i64 0, .string ⟨#[]⟩, .slice none 0 0, .slice none 0 0])) = .held (.agg #[.int .i64 ((G key).getD zeroT).k, .int .i64 ((G key).getD zeroT).n, .string ((G key).getD zeroT).s, .slice x1 ((G key).getD zeroT).keys.length c1, .slice x2 ((G key).getD zeroT).kids.length c2]) := by
  cases hg : G key with
  | none => exact ⟨none, 0, none, 0, [], ⟨zeroT_lies w, fun y hy => absurd hy (by simp)⟩, atKey_of_not_has ((h key).1 hg) _⟩
  | some X =>
    obtain ⟨kv, dv, F, h1, h2, h3⟩ := (h key).2 X hg
    obtain ⟨⟨o1, q1, rfl⟩, ⟨o2, q2, rfl⟩⟩ := h2.slices
    exact ⟨o1, q1, o2, q2, F, ⟨h2, h3⟩, h1 _⟩

section
variable (w : World) {ops : Array Oper} {rest : List Oper} {o : Oper} {a : Act} {Q : Exit → Act → World → Prop}

/-- 'v, ok := m[k]'. -/
theorem wpList_look_kid (hg : o.guard = none) (m x : Operand) (hop : o.op = Op.lookup 84 m x true) (b n : Nat) (D : DV) (hm : a.eval m = .map (some b)) (hown : w.ownsMap Tryz.prog 9 heldV b n D)
    {w0 : World} {G : ByteArray → Option RT} {P : Nat → Prop} (hG : MapIs w0 D G P) (key : ByteArray) (hx : a.eval x = .string key) (hkey : key.size ≤ maxLen)
    (hK : ∀ x1 c1 x2 c2 F, Kid w0 P (G key) x1 c1 x2 c2 F → wpList Tryz.prog ops Q rest (a.put o.dst (.tuple #[.agg #[.int .i64 ((G key).getD zeroT).k, .int .i64 ((G key).getD zeroT).n, .string ((G key).getD zeroT).s, .slice x1 ((G key).getD zeroT).keys.length c1, .slice x2 ((G key).getD zeroT).kids.length c2], .bool (G key).isSome])) w) :
    wpList Tryz.prog ops Q (o :: rest) a w := by
  refine wpList_plain hg fun K' hK' => ?_
  obtain ⟨v, ps, hrun, hv⟩ := hown.look_ok strK Tryz.underlying84 (zero_node w) (show heldV _ = some (.held _, []) from rfl) (keyOf_key hkey)
  obtain ⟨x1, c1, x2, c2, F, hk, hat⟩ := hG.kid key
  rw [hat] at hv
  rw [hG.has key] at hrun
  unfold heldV at hv
  injection hv with hv
  injection hv with hv _
  injection hv with hv
  subst hv
  unfold Oper.wp
  simp only [execOp, hop, hm, hx, Sem.run_bind, hrun, Result.andThen]
  exact hK' _ _ (hK x1 c1 x2 c2 F hk)

/-- 'm[k]' alone. -/
theorem wpList_look1_kid (hg : o.guard = none) (m x : Operand) (hop : o.op = Op.lookup 84 m x false) (b n : Nat) (D : DV) (hm : a.eval m = .map (some b)) (hown : w.ownsMap Tryz.prog 9 heldV b n D)
    {w0 : World} {G : ByteArray → Option RT} {P : Nat → Prop} (hG : MapIs w0 D G P) (key : ByteArray) (hx : a.eval x = .string key) (hkey : key.size ≤ maxLen)
    (hK : ∀ x1 c1 x2 c2 F, Kid w0 P (G key) x1 c1 x2 c2 F → wpList Tryz.prog ops Q rest (a.put o.dst (.agg #[.int .i64 ((G key).getD zeroT).k, .int .i64 ((G key).getD zeroT).n, .string ((G key).getD zeroT).s, .slice x1 ((G key).getD zeroT).keys.length c1, .slice x2 ((G key).getD zeroT).kids.length c2])) w) :
    wpList Tryz.prog ops Q (o :: rest) a w := by
  refine wpList_plain hg fun K' hK' => ?_
  obtain ⟨v, ps, hrun, hv⟩ := hown.lookup strK Tryz.underlying84 (zero_node w) (show heldV _ = some (.held _, []) from rfl) (keyOf_key hkey)
  obtain ⟨x1, c1, x2, c2, F, hk, hat⟩ := hG.kid key
  rw [hat] at hv
  unfold heldV at hv
  injection hv with hv
  injection hv with hv _
  injection hv with hv
  subst hv
  unfold Oper.wp
  simp only [execOp, hop, hm, hx, Sem.run_bind, hrun, Result.andThen]
  exact hK' _ _ (hK x1 c1 x2 c2 F hk)

/-- 'm[k] = v'. -/
theorem wpList_put_kid (hg : o.guard = none) (m x v : Operand) (hop : o.op = Op.mapUpdate 84 m x v) (b n : Nat) (D : DV) (hm : a.eval m = .map (some b)) (hown : w.ownsMap Tryz.prog 9 heldV b n D) (hn : n < maxLen)
    (key : ByteArray) (hx : a.eval x = .string key) (hkey : key.size ≤ maxLen) (val : Value) (hv : a.eval v = val)
    (hK : ∀ w', w'.ownsMap Tryz.prog 9 heldV b (n + 1) (D.put (keyL key) (.held val)) → w.grownBy w' (some b) → wpList Tryz.prog ops Q rest (a.put o.dst undef) w') :
    wpList Tryz.prog ops Q (o :: rest) a w :=
  wpList_mapUpdate_own w hg m x v 84 hop 9 27 strK Tryz.underlying84 heldV b n D hm hown hn (.string key) val (keyL key) hx hv (keyOf_key hkey) (.held val) [] rfl hK

theorem wpList_look_none (hg : o.guard = none) (m x : Operand) (hop : o.op = Op.lookup 84 m x true) (b n : Nat) (D : DV) (hm : a.eval m = .map (some b)) (hown : w.ownsMap Tryz.prog 9 heldV b n D)
    {w0 : World} {G : ByteArray → Option RT} {P : Nat → Prop} (hG : MapIs w0 D G P) (key : ByteArray) (hx : a.eval x = .string key) (hkey : key.size ≤ maxLen) (h0 : G key = none)
    (hK : wpList Tryz.prog ops Q rest (a.put o.dst (.tuple #[.agg #[.int .i64 0, .int .i64 0, .string ⟨#[]⟩, .slice none 0 0, .slice none 0 0], .bool false])) w) :
    wpList Tryz.prog ops Q (o :: rest) a w := by
  refine wpList_plain hg fun K' hK' => ?_
  obtain ⟨v, ps, hrun, hv⟩ := hown.look_ok strK Tryz.underlying84 (zero_node w) (show heldV _ = some (.held _, []) from rfl) (keyOf_key hkey)
  rw [atKey_of_not_has ((hG key).1 h0)] at hv
  rw [hG.has key, h0] at hrun
  unfold heldV at hv
  injection hv with hv
  injection hv with hv _
  injection hv with hv
  subst hv
  unfold Oper.wp
  simp only [execOp, hop, hm, hx, Sem.run_bind, hrun, Result.andThen]
  exact hK' _ _ hK

theorem wpList_look_some (hg : o.guard = none) (m x : Operand) (hop : o.op = Op.lookup 84 m x true) (b n : Nat) (D : DV) (hm : a.eval m = .map (some b)) (hown : w.ownsMap Tryz.prog 9 heldV b n D)
    {w0 : World} {G : ByteArray → Option RT} {P : Nat → Prop} (hG : MapIs w0 D G P) (key : ByteArray) (hx : a.eval x = .string key) (hkey : key.size ≤ maxLen) (X : RT) (h0 : G key = some X)
    (hK : ∀ x1 c1 x2 c2 F, Kid w0 P (some X) x1 c1 x2 c2 F → wpList Tryz.prog ops Q rest (a.put o.dst (.tuple #[.agg #[.int .i64 X.k, .int .i64 X.n, .string X.s, .slice x1 X.keys.length c1, .slice x2 X.kids.length c2], .bool true])) w) :
    wpList Tryz.prog ops Q (o :: rest) a w := by
  refine wpList_look_kid w hg m x hop b n D hm hown hG key hx hkey ?_
  rw [h0]
  exact hK
end

/-! ### kidsOf -/

/-- The map under way: what has been put into it. -/
structure KO (w wr : World) (n : Nat) (D : DV) (G : ByteArray → Option RT) (F : List Nat) : Prop where
  own : wr.ownsMap Tryz.prog 9 heldV w.heap.size n D
  is : MapIs w D G (· ∈ F)
  below : Below w.heap.size w wr
  size : w.heap.size < wr.heap.size

theorem KO.alloc {w wr : World} {n : Nat} {D : DV} {G : ByteArray → Option RT} {F : List Nat} (h : KO w wr n D G F) (o : Obj) : KO w (wr.alloc o) n D G F :=
  ⟨h.own.alloc o, h.is, h.below.alloc (by have := h.size; omega) o, by have := h.size; simp; omega⟩

theorem KO.put {w wr w' : World} {n : Nat} {D : DV} {G : ByteArray → Option RT} {F : List Nat} (h : KO w wr n D G F) {key : ByteArray} {X : RT} {kv dv : Value} {FX : List Nat} (hl : Lies w X kv dv FX) (hF : ∀ y ∈ FX, y ∈ F)
    (hown : w'.ownsMap Tryz.prog 9 heldV w.heap.size (n + 1) (D.put (keyL key) (.held (.agg #[.int .i64 X.k, .int .i64 X.n, .string X.s, kv, dv])))) (hg : wr.grownBy w' (some w.heap.size)) :
    KO w w' (n + 1) (D.put (keyL key) (.held (.agg #[.int .i64 X.k, .int .i64 X.n, .string X.s, kv, dv]))) (fun k' => if k' = key then some X else G k') F :=
  ⟨hown, h.is.put h.own.isMap key hl hF, h.below.grown hg (by have := h.size; omega) (fun j hj => by cases hj; exact Nat.le_refl _), Nat.lt_of_lt_of_le h.size hg.size⟩

theorem KO.congr {w wr : World} {n : Nat} {D : DV} {G G' : ByteArray → Option RT} {F : List Nat} (h : KO w wr n D G F) (e : ∀ key, G' key = G key) : KO w wr n D G' F := ⟨h.own, h.is.congr e, h.below, h.size⟩

/-- How many Keys the first j have. -/
def keysTo (Ts : List RT) (j : Nat) : Nat := ((Ts.take j).map fun T => T.keys.length).sum

theorem keysTo_succ {Ts : List RT} {j : Nat} (h : j < Ts.length) : keysTo Ts (j + 1) = keysTo Ts j + Ts[j].keys.length := by
  unfold keysTo
  rw [List.take_succ_eq_append_getElem h, List.map_append, List.sum_append]
  rfl

theorem keysTo_le : (Ts : List RT) → (j : Nat) → keysTo Ts j ≤ szAll Ts
  | [], _ => by simp [keysTo]
  | _ :: _, 0 => by simp [keysTo]
  | t :: l, j + 1 => by
    have h1 := keysTo_le l j
    have h2 := (keys_le t).1
    unfold keysTo at h1 ⊢
    rw [List.take_succ_cons, List.map_cons, List.sum_cons, szAll]
    omega

/-- A Key that is met: it counts if nothing stands there yet. -/
theorem at_met {Ts : List RT} {j i : Nat} (hj : j < Ts.length) (h1 : i < Ts[j].keys.length) (h2 : i < Ts[j].kids.length) (key : ByteArray) (hk : Ts[j].keys[i] = key) :
    (∀ v, ((firstAt (Ts.take j) key).or (atN Ts[j] i key)) = some v → ∀ k', (firstAt (Ts.take j) k').or (atN Ts[j] (i + 1) k') = (firstAt (Ts.take j) k').or (atN Ts[j] i k')) ∧
    (((firstAt (Ts.take j) key).or (atN Ts[j] i key)) = none → ∀ k', (firstAt (Ts.take j) k').or (atN Ts[j] (i + 1) k') = if k' = key then some Ts[j].kids[i] else (firstAt (Ts.take j) k').or (atN Ts[j] i k')) := by
  subst hk
  refine ⟨fun v hv k' => ?_, fun hv k' => ?_⟩
  · rw [atN_succ h1 h2, ← Option.or_assoc]
    by_cases e : k' = Ts[j].keys[i]
    · subst e; rw [hv]; rfl
    · simp [e]
  · rw [atN_succ h1 h2, ← Option.or_assoc]
    by_cases e : k' = Ts[j].keys[i]
    · subst e; rw [hv]; simp
    · simp [e]
end Go.Proofs.YtelpkcbbipianaaGreat

/- the program's kidsOf makes a map of the first Kids at each Key of a row of maps; what stands at a Key of it. -/
namespace Go.Proofs.YtelpkcbbipianaaGreat
open Go Go.RowKit Go.Maps

set_option maxRecDepth 100000 in
set_option maxHeartbeats 1600000 in
theorem impl_kidsOf (Ts : List RT) (w : World) (dv : Value) (F : List Nat) (hK : KidsLie w dv Ts F) (hm : ∀ T ∈ Ts, T.isMap) (hsz : szAll Ts ≤ 4000000) :
    Calls Tryz.prog 49 #[dv] w fun e w' => ∃ (n : Nat) (D : DV), e = .returned (.map (some w.heap.size)) ∧ w'.ownsMap Tryz.prog 9 heldV w.heap.size n D ∧ n ≤ szAll Ts ∧ MapIs w D (firstAt Ts) (· ∈ F) ∧ Below w.heap.size w w' ∧ w.heap.size < w'.heap.size := by
  obtain ⟨o, cap, b, off, FF, KV, DV', rfl, hlc, hcm, ho, hFF, hcell, hlies, -⟩ := hK
  have HC := Lib.hid hcell
  have HO := Lib.hid ho
  have HL := Lib.hid hlies
  have HF : Hid (∀ j, j < Ts.length → ∀ y ∈ FF j, y ∈ F) := fun j hj y hy => by rw [hFF]; exact List.mem_append_right _ (List.mem_flatMap.2 ⟨j, List.mem_range.2 hj, hy⟩)
  have HM := Lib.hid hm
  have HZ := Lib.hid hsz
  clear hcell ho hlies hFF hm hsz
  have hmm := @run_makeMap Tryz.prog
  go_enter Tryz.func49, Tryz.ntmps49
  go_wp2
  go_loopw [13] (fun i wr => ∃ (j n : Nat) (D : DV), j ≤ Ts.length ∧ i = .int .i64 j ∧ Hid (KO w wr n D (firstAt (Ts.take j)) F ∧ n ≤ keysTo Ts j)) (fun i _ => Ts.length - (intOf i).toNat)
  case atStart => exact ⟨0, 0, .map [], Nat.zero_le _, rfl, ⟨World.ownsMap_made _ _ _ _, MapIs.start _ _, (Below.refl _ _).alloc (Nat.le_refl _) _, by simp⟩, Nat.zero_le _⟩
  case round =>
    obtain ⟨j, n, D, hj, rfl, hr⟩ := hrel
    by_cases hlt : j < Ts.length
    · obtain ⟨c0, c1, c2, c3, c4⟩ := kid_cells (HC.out j hlt) hr.out.1.below
      have ho := HO.out (by omega)
      subst ho
      have HL' := Lib.hid (HL.out j hlt)
      have HM' := Lib.hid (HM.out _ (List.getElem_mem hlt))
      have hs := HL'.out.slices
      generalize KV j = v1 at *
      generalize DV' j = v2 at *
      obtain ⟨⟨o1, q1, rfl⟩, ⟨o2, q2, rfl⟩⟩ := hs
      have HC0 := Lib.hid (And.intro c0 (And.intro c1 (And.intro c2 (And.intro c3 c4))))
      obtain ⟨-, -, -, FK, FD, hK, hD, hFKD⟩ := HL'.out.out
      obtain ⟨ko, kcap, kb, koff, ek, hk1, hk2, hk3, -, hk4, -⟩ := hK
      obtain ⟨do', dcap, db, doff, FF2, KV2, DV2, ed, hd1, hd2, hd3, hd4, hd5, hd6, -⟩ := hD
      injection ek with ek1 ek2 ek3
      injection ed with ed1 ed2 ed3
      subst ek1 ek3 ed1 ed3
      have HK1 := Lib.hid hk3
      have HK2 := Lib.hid hk4
      have HD1 := Lib.hid hd3
      have HD2 := Lib.hid hd5
      have HD3 := Lib.hid hd6
      have HFD : Hid (∀ i, i < Ts[j].kids.length → ∀ y ∈ FF2 i, y ∈ F) := fun i hi y hy => HF.out j hlt y (by rw [hFKD, hd4]; exact List.mem_append_right _ (List.mem_append_right _ (List.mem_flatMap.2 ⟨i, List.mem_range.2 hi, hy⟩)))
      clear hk3 hk4 hd3 hd5 hd6 hFKD hd4 ek2 ed2
      have HR0 := Lib.hid hr.out
      have HE1 : Hid (wrap64 ((j : Int) + 1) = ((j + 1 : Nat) : Int)) := by
        have : cap ≤ 9223372036854775807 := hcm
        show wrap64 _ = _
        unfold wrap64; omega
      rename World => wo
      go_wp2
      go_loopw [20] (fun i wi => ∃ (m n : Nat) (D : DV), m ≤ Ts[j].keys.length ∧ i = .int .i64 m ∧ Hid (KO w wi n D (fun key => (firstAt (Ts.take j) key).or (atN Ts[j] m key)) F ∧ n ≤ keysTo Ts j + m ∧ wo.heap.size < wi.heap.size ∧ wi.heap[wo.heap.size]? = some (.cells #[.int .i64 Ts[j].k, .int .i64 Ts[j].n, .string Ts[j].s, .slice o1 Ts[j].keys.length q1, .slice o2 Ts[j].kids.length q2] 27 (0, 0)))) (fun i _ => Ts[j].keys.length - (intOf i).toNat)
      case atStart => exact ⟨0, n, D, Nat.zero_le _, rfl, (HR0.out.1.alloc _).congr fun key => by rw [atN_zero, Option.or_none], by have := HR0.out.2; omega, by simp, heap_last _ _⟩
      case round =>
        obtain ⟨m, n', D', hmle, rfl, hri⟩ := hrel
        by_cases hml : m < Ts[j].keys.length
        · have hmk : m < Ts[j].kids.length := by have := HM'.out.2; omega
          have ho1 := HK1.out (by omega)
          have ho2 := HD1.out (by omega)
          subst ho1 ho2
          have hkc := (HK2.out m hml)
          have hks := hkc.2
          have hkc := (hri.out.1.below.cell (p := ⟨kb, koff + m, none⟩) (World.block_lt_of_cell? _ _ hkc.1)).trans hkc.1
          have HI := Lib.hid hri.out
          have HE2 : Hid (wrap64 ((m : Int) + 1) = ((m + 1 : Nat) : Int)) := by
            have : q1 ≤ 9223372036854775807 := hk2
            show wrap64 _ = _
            unfold wrap64; omega
          have hmet := at_met hlt hml hmk Ts[j].keys[m] rfl
          have HX := Lib.hid (And.intro (HD3.out m hmk) (HFD.out m hmk))
          have hkb : ∀ c, c < 5 → ∀ ob, (wr.alloc ob).cell? ⟨db, doff + m * 5 + c, none⟩ = (Ts[j].kids[m].row (KV2 m) (DV2 m))[c]? := fun c hc ob => by
            have h1 := HD2.out m hmk c hc
            have h2 : db < w.heap.size := World.block_lt_of_cell? _ _ (show w.cell? ⟨db, doff + m * 5 + 0, none⟩ = some (.int .i64 Ts[j].kids[m].k) from HD2.out m hmk 0 (by omega))
            rw [World.cell?_alloc_lt wr ob ⟨db, doff + m * 5 + c, none⟩ (by have := HI.out.1.size; show db < _; omega), HI.out.1.below.cell (by exact h2)]
            exact h1
          have g0 : ∀ ob, (wr.alloc ob).cell? ⟨db, doff + m * 5, none⟩ = some (.int .i64 Ts[j].kids[m].k) := hkb 0 (by omega)
          have g1 : ∀ ob, (wr.alloc ob).cell? ⟨db, doff + m * 5 + 1, none⟩ = some (.int .i64 Ts[j].kids[m].n) := hkb 1 (by omega)
          have g2 : ∀ ob, (wr.alloc ob).cell? ⟨db, doff + m * 5 + 2, none⟩ = some (.string Ts[j].kids[m].s) := hkb 2 (by omega)
          have g3 : ∀ ob, (wr.alloc ob).cell? ⟨db, doff + m * 5 + 3, none⟩ = some (KV2 m) := hkb 3 (by omega)
          have g4 : ∀ ob, (wr.alloc ob).cell? ⟨db, doff + m * 5 + 4, none⟩ = some (DV2 m) := hkb 4 (by omega)
          have t4 : ∀ ob, (wr.alloc ob).cell? ⟨wo.heap.size, 4, none⟩ = some (.slice (some ⟨db, doff, none⟩) Ts[j].kids.length q2) := fun ob => by
            rw [World.cell?_alloc_lt wr ob ⟨wo.heap.size, 4, none⟩ (by exact HI.out.2.2.1), cell_of HI.out.2.2.2]
            rfl
          have HKo : Hid (∀ ob, KO w (wr.alloc ob) n' D' (fun key => (firstAt (Ts.take j) key).or (atN Ts[j] m key)) F) := fun ob => HI.out.1.alloc ob
          clear hkb
          cases hG : (firstAt (Ts.take j) Ts[j].keys[m]).or (atN Ts[j] m Ts[j].keys[m]) with
          | some X =>
            have HE := Lib.hid (hmet.1 X hG)
            clear hmet
            generalize Ts[j].keys[m] = key at *
            go_wp2_with (first
              | (at_lookup; refine wpList_look_some _ rfl _ _ rfl w.heap.size n' D' rfl HI.out.1.own HI.out.1.is key rfl hks X hG ?_; intro x1 c1 x2 c2 FX hk; clear hk)
              | go_in)
            go_roundw
            case rel => exact ⟨m + 1, n', D', by omega, by rw [HE2.out], (HKo.out _).congr HE.out, by have := HI.out.2.1; omega, by have := HI.out.2.2.1; simp; omega, (Below.heap_alloc _ _ _ HI.out.2.2.1).trans HI.out.2.2.2⟩
            case measure => rw [HE2.out]; simp [intOf]; omega
          | none =>
            have HE := Lib.hid (hmet.2 hG)
            have hlx := HX.out.1.slices
            have HB : Hid (n' ≤ 4000000) := by
              have h1 := HI.out.2.1
              have h2 := keysTo_le Ts (j + 1)
              rw [keysTo_succ hlt] at h2
              have := HZ.out
              show n' ≤ 4000000
              omega
            clear hmet
            generalize Ts[j].keys[m] = key at *
            generalize KV2 m = kv2 at *
            generalize DV2 m = dv2 at *
            obtain ⟨⟨p1, r1, rfl⟩, ⟨p2, r2, rfl⟩⟩ := hlx
            generalize hXX : Ts[j].kids[m] = X at *
            go_wp2_with (first
              | (at_lookup; refine wpList_look_none _ rfl _ _ rfl w.heap.size n' D' rfl HI.out.1.own HI.out.1.is key rfl hks hG ?_)
              | (at_mapUpdate; refine wpList_put_kid _ rfl _ _ _ rfl w.heap.size n' D' rfl (HKo.out _).own (by have := HB.out; unfold maxLen; omega) key rfl hks _ rfl ?_; intro w5 hown5 hg5; have H5 := Lib.hid (And.intro hown5 hg5); clear hown5 hg5)
              | go_in)
            go_roundw
            case rel =>
              have hput := (HKo.out _).put HX.out.1 HX.out.2 H5.out.1 H5.out.2
              have hgs := H5.out.2.size
              refine ⟨m + 1, n' + 1, _, by omega, by rw [HE2.out], hput.congr HE.out, by have := HI.out.2.1; omega, by have := HI.out.2.2.1; simp at hgs; omega, ?_⟩
              rw [H5.out.2.block wo.heap.size (by have := HI.out.2.2.1; simp; omega) (by have := HR0.out.1.size; intro e; injection e with e; omega)]
              exact (Below.heap_alloc _ _ _ HI.out.2.2.1).trans HI.out.2.2.2
            case measure => rw [HE2.out]; simp [intOf]; omega
        · have em : m = Ts[j].keys.length := by omega
          have HI := Lib.hid hri.out
          go_wp2
          go_roundw
          case rel =>
            refine ⟨j + 1, n', D', by omega, by rw [HE1.out], HI.out.1.congr fun key => ?_, ?_⟩
            · rw [firstAt_take hlt, atN_all HM'.out (by omega)]
            · rw [keysTo_succ hlt]; have := HI.out.2.1; omega
          case measure => rw [HE1.out]; simp [intOf]; omega
    · have HR := Lib.hid hr.out
      have e : Ts.take j = Ts := List.take_of_length_le (by omega)
      rw [e] at HR
      go_wp2
      go_ret
      exact ⟨n, D, rfl, HR.out.1.own, by have := HR.out.2; have := keysTo_le Ts j; omega, HR.out.1.is, HR.out.1.below, HR.out.1.size⟩
end Go.Proofs.YtelpkcbbipianaaGreat

/- rows of one map and of three, as they are handed to kidsOf. -/
namespace Go.Proofs.YtelpkcbbipianaaGreat
open Go Go.RowKit Go.Maps

theorem kids_one {W : World} {b : Nat} {A : RT} {kv dv : Value} {F : List Nat} (hb : W.heap[b]? = some (.cells #[.int .i64 A.k, .int .i64 A.n, .string A.s, kv, dv] 27 (0, 0))) (h : Lies W A kv dv F) :
    KidsLie W (.slice (some ⟨b, 0, none⟩) 1 1) [A] (b :: F) := by
  refine ⟨_, 1, b, 0, fun _ => F, fun _ => kv, fun _ => dv, rfl, Nat.le_refl _, by decide, fun _ => rfl, by simp, fun i hi j hj => ?_, fun i hi => ?_, room_of hb (by simp)⟩
  · have hi : i = 0 := by simp at hi; omega
    subst hi
    rw [cell_of hb]
    have hj : j = 0 ∨ j = 1 ∨ j = 2 ∨ j = 3 ∨ j = 4 := by omega
    rcases hj with rfl | rfl | rfl | rfl | rfl <;> simp [RT.row]
  · have hi : i = 0 := by simp at hi; omega
    subst hi
    exact h

theorem kids_three {W : World} {b : Nat} {A B C : RT} {k1 d1 k2 d2 k3 d3 : Value} {F1 F2 F3 : List Nat}
    (hb : W.heap[b]? = some (.cells #[.int .i64 A.k, .int .i64 A.n, .string A.s, k1, d1, .int .i64 B.k, .int .i64 B.n, .string B.s, k2, d2, .int .i64 C.k, .int .i64 C.n, .string C.s, k3, d3] 27 (0, 0))) (h1 : Lies W A k1 d1 F1) (h2 : Lies W B k2 d2 F2) (h3 : Lies W C k3 d3 F3) :
    KidsLie W (.slice (some ⟨b, 0, none⟩) 3 3) [A, B, C] (b :: (F1 ++ F2 ++ F3)) := by
  refine ⟨_, 3, b, 0, fun i => if i = 0 then F1 else if i = 1 then F2 else F3, fun i => if i = 0 then k1 else if i = 1 then k2 else k3, fun i => if i = 0 then d1 else if i = 1 then d2 else d3, rfl, Nat.le_refl _, by decide, fun _ => rfl, by simp [List.range, List.range.loop], fun i hi j hj => ?_, fun i hi => ?_, room_of hb (by simp)⟩
  · have hi : i = 0 ∨ i = 1 ∨ i = 2 := by simp at hi; omega
    rw [cell_of hb]
    have hj : j = 0 ∨ j = 1 ∨ j = 2 ∨ j = 3 ∨ j = 4 := by omega
    rcases hi with rfl | rfl | rfl <;> rcases hj with rfl | rfl | rfl | rfl | rfl <;> simp [RT.row]
  · have hi : i = 0 ∨ i = 1 ∨ i = 2 := by simp at hi; omega
    rcases hi with rfl | rfl | rfl
    · exact h1
    · exact h2
    · exact h3

theorem first_one (A : RT) (key : ByteArray) : A.at key = firstAt [A] key := by
  unfold firstAt firstAt
  simp

/-- kidsOf of one map. -/
theorem kids_of_one {W : World} {b : Nat} {A : RT} {kv dv : Value} {F : List Nat} (hm : A.isMap) (hs : A.sz ≤ 1000000) (hb : W.heap[b]? = some (.cells #[.int .i64 A.k, .int .i64 A.n, .string A.s, kv, dv] 27 (0, 0))) (h : Lies W A kv dv F) :
    Calls Tryz.prog 49 #[.slice (some ⟨b, 0, none⟩) 1 1] W fun e w' => ∃ (n : Nat) (D : DV), e = .returned (.map (some W.heap.size)) ∧ w'.ownsMap Tryz.prog 9 heldV W.heap.size n D ∧ MapIs W D A.at (· ∈ b :: F) ∧ Below W.heap.size W w' ∧ W.heap.size < w'.heap.size := by
  refine (impl_kidsOf [A] W _ _ (kids_one hb h) (fun T hT => by simp at hT; subst hT; exact hm) (by simp [szAll]; omega)).mono ?_
  rintro e w' ⟨n, D, he, h1, -, h2, h3, h4⟩
  exact ⟨n, D, he, h1, h2.congr fun key => first_one A key, h3, h4⟩

end Go.Proofs.YtelpkcbbipianaaGreat
