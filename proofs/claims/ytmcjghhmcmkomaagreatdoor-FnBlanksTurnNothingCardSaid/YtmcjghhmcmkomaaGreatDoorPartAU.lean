/-
  What is proved: the program's TreeSame tells whether two trees are the same; so do slices.Equal of two lists of texts, and slices.EqualFunc of two lists of trees by it.; plain facts on texts that are laid one behind the other by append, and on strings.Join of them.; for any text the program's Quote answers as the model's Quote does: empty when it is not right; else its bytes between two marks, with a stroke ahead of a mark or a stroke.; the program's Digits at every int, and what a row's list of package-level variables says of the table of powers of ten and of three errors; condition: those variables start as the program's text lays them.
-/
import Derived.Test.YtmcjghhmcmkomaaGreatDoorPartAC
import Derived.Test.YtmcjghhmcmkomaaGreatDoorPartAA
import Derived.Test.YtmcjghhmcmkomaaGreatDoorShelf
import Derived.Laws.AppendOwn
import Derived.Laws.OwnMore
import Derived.Maps.AppendAt
import Derived.Deep.AppendLies
import Derived.Test.YtmcjghhmcmkomaaGreatDoorRows
import Derived.WalkKit
import Derived.WalkLawsBesides
import Derived.ProofKit
import Derived.OpenShut
import Derived.LaidMore
import Derived.Stop.Joined
import Derived.Stop.LaidErr
import Derived.Lib.LaidTab
import Derived.Lib.AppendIntMem
import Derived.WalkSmall
import Derived.MakeChecks
/- the program's TreeSame tells whether two trees are the same; so do slices.Equal of two lists of texts, and slices.EqualFunc of two lists of trees by it. -/
namespace Go.Proofs.YtmcjghhmcmkomaaGreatDoor
open Go Go.RowKit

/-- What the program's TreeSame answers of one tree, and of any other one. -/
def ImplSameAt (T : RT) : Prop := ∀ (w : World) (kv dv : Value) (F : List Nat), Lies w T kv dv F → ∀ (T' : RT) (kv' dv' : Value) (F' : List Nat), Lies w T' kv' dv' F' →
  Calls Tryz.prog 10 #[T.val kv dv, T'.val kv' dv'] w fun e w' => e = .returned (.bool (same T T')) ∧ Below w.heap.size w w'

set_option maxHeartbeats 400000 in
theorem slices_eq {v v' : Value} {ks ks' : List ByteArray} {F F' : List Nat} (w : World) (hs : StrsAt w v ks F) (hs' : StrsAt w v' ks' F') :
    Calls Tryz.prog 23 #[v, v'] w fun e w' => e = .returned (.bool (same ks ks')) ∧ Below w.heap.size w w' := by
  obtain ⟨o, cap, b, off, rfl, hlc, hcm, ho, -, hcell, -⟩ := hs
  obtain ⟨o', cap', b', off', rfl, hlc', hcm', ho', -, hcell', -⟩ := hs'
  have HC := Lib.hid hcell
  have HO := Lib.hid ho
  have HC' := Lib.hid hcell'
  have HO' := Lib.hid ho'
  clear hcell ho hcell' ho'
  unfold maxLen at hcm hcm'
  by_cases hl : ks.length = ks'.length
  · have HE := Lib.hid hl
    rw [← hl]
    clear hl
    rw [← HE.out] at hlc'
    go_enter Tryz.func23, Tryz.ntmps23
    go_wp2
    go_loopw [13] (fun i wr => ∃ k : Nat, k ≤ ks.length ∧ i = .int .i64 k ∧ Hid (ks.take k = ks'.take k) ∧ Below w.heap.size w wr) (fun i _ => ks.length - (intOf i).toNat)
    case atStart => exact ⟨0, Nat.zero_le _, rfl, rfl, Below.refl _ _⟩
    case round =>
      obtain ⟨k, hk, rfl, hr, hb⟩ := hrel
      have HB := Lib.hid hb
      by_cases hlt : k < ks.length
      · have l2 : k < ks'.length := by rw [← HE.out]; exact hlt
        have c0 : wr.cell? ⟨b, off + k, none⟩ = some (.string ks[k]) := by
          have := (HC.out k hlt).1
          rw [hb.cell (by exact World.block_lt_of_cell? _ _ this)]; exact this
        have c1 : wr.cell? ⟨b', off' + k, none⟩ = some (.string ks'[k]) := by
          have := (HC'.out k l2).1
          rw [hb.cell (by exact World.block_lt_of_cell? _ _ this)]; exact this
        have ho := HO.out (by omega)
        have ho' := HO'.out (by omega)
        subst ho ho'
        clear hb
        by_cases he : ks[k] = ks'[k]
        · have HR := Lib.hid (take_step hr.out hlt l2 he)
          rw [he] at c0
          clear he
          generalize hx : ks'[k] = x at *
          clear hx
          go_wp2
          go_quiet (fail)
          go_wp2
          exact ⟨⟨k + 1, by omega, by go_num, HR.out, below_drewN HB.out _⟩, by simp [intOf]; omega⟩
        · have HR := Lib.hid (ne_at hlt l2 he)
          have he' := bytes_ne he
          generalize hx : ks[k] = x at *
          generalize hy : ks'[k] = y at *
          clear hx hy
          go_wp2
          go_quiet (fail)
          go_wp2
          go_ret
          refine ⟨?_, below_drewN HB.out _⟩
          rw [same_no HR.out]
          rfl
      · have HR := Lib.hid (take_end hr.out hlt HE.out)
        go_wp2
        go_ret
        refine ⟨?_, HB.out⟩
        rw [same_yes HR.out]
        rfl
  · have hl' : ¬ ((ks.length : Int) = ks'.length) := by omega
    go_enter Tryz.func23, Tryz.ntmps23
    go_wp2
    go_ret
    refine ⟨?_, Below.refl _ _⟩
    rw [same_no (fun h => hl (by rw [h]))]
    rfl

set_option maxRecDepth 100000 in
set_option maxHeartbeats 800000 in
theorem slices_eq_func {dv dv' : Value} {kids kids' : List RT} {F F' : List Nat} (ih : ∀ t ∈ kids, ImplSameAt t) (w : World) (hs : KidsLie w dv kids F) (hs' : KidsLie w dv' kids' F') :
    Calls Tryz.prog 24 #[dv, dv', .func (.func 10) #[] #[]] w fun e w' => e = .returned (.bool (same kids kids')) ∧ Below w.heap.size w w' := by
  obtain ⟨o, cap, b, off, FF, KV, DV, rfl, hlc, hcm, ho, -, hcell, hlies, -⟩ := hs
  obtain ⟨o', cap', b', off', FF', KV', DV', rfl, hlc', hcm', ho', -, hcell', hlies', -⟩ := hs'
  have HC := Lib.hid hcell
  have HO := Lib.hid ho
  have HL := Lib.hid hlies
  have HC' := Lib.hid hcell'
  have HO' := Lib.hid ho'
  have HL' := Lib.hid hlies'
  clear hcell ho hcell' ho' hlies hlies'
  unfold maxLen at hcm hcm'
  by_cases hl : kids.length = kids'.length
  · have HE := Lib.hid hl
    rw [← hl]
    clear hl
    rw [← HE.out] at hlc'
    go_enter Tryz.func24, Tryz.ntmps24
    go_wp2
    go_loopw [17] (fun i wr => ∃ k : Nat, k ≤ kids.length ∧ i = .int .i64 k ∧ Hid (kids.take k = kids'.take k) ∧ Below w.heap.size w wr) (fun i _ => kids.length - (intOf i).toNat)
    case atStart => exact ⟨0, Nat.zero_le _, rfl, rfl, Below.refl _ _⟩
    case round =>
      obtain ⟨k, hk, rfl, hr, hb⟩ := hrel
      have HB := Lib.hid hb
      by_cases hlt : k < kids.length
      · have l2 : k < kids'.length := by rw [← HE.out]; exact hlt
        obtain ⟨c0, c1, c2, c3, c4⟩ := kid_cells (HC.out k hlt) hb
        obtain ⟨g0, g1, g2, g3, g4⟩ := kid_cells (HC'.out k l2) hb
        have ho := HO.out (by omega)
        have ho' := HO'.out (by omega)
        subst ho ho'
        have hih := Lib.hid (fun (w1 : World) (hb1 : Below w.heap.size w w1) => ih _ (List.getElem_mem hlt) w1 _ _ _ ((HL.out k hlt).stay hb1 (Nat.le_refl _)) _ _ _ _ ((HL'.out k l2).stay hb1 (Nat.le_refl _)))
        obtain ⟨⟨o1, q1, s1⟩, ⟨o2, q2, s2⟩⟩ := (HL.out k hlt).slices
        obtain ⟨⟨o3, q3, s3⟩, ⟨o4, q4, s4⟩⟩ := (HL'.out k l2).slices
        generalize KV k = v1 at *
        generalize DV k = v2 at *
        generalize KV' k = v3 at *
        generalize DV' k = v4 at *
        subst s1 s2 s3 s4
        have hB1 : Hid (∀ o1 o2, Below w.heap.size w ((wr.alloc o1).alloc o2)) := fun o1 o2 => (hb.alloc hb.size _).alloc (by have := hb.size; simp; omega) _
        have hlt' : b' < wr.heap.size := World.block_lt_of_cell? _ _ g0
        have ga0 : ∀ o, (wr.alloc o).cell? ⟨b', off' + k * 5, none⟩ = _ := fun o => (World.cell?_alloc_lt wr o ⟨b', off' + k * 5, none⟩ hlt').trans g0
        have ga1 : ∀ o, (wr.alloc o).cell? ⟨b', off' + k * 5 + 1, none⟩ = _ := fun o => (World.cell?_alloc_lt wr o ⟨b', off' + k * 5 + 1, none⟩ hlt').trans g1
        have ga2 : ∀ o, (wr.alloc o).cell? ⟨b', off' + k * 5 + 2, none⟩ = _ := fun o => (World.cell?_alloc_lt wr o ⟨b', off' + k * 5 + 2, none⟩ hlt').trans g2
        have ga3 : ∀ o, (wr.alloc o).cell? ⟨b', off' + k * 5 + 3, none⟩ = _ := fun o => (World.cell?_alloc_lt wr o ⟨b', off' + k * 5 + 3, none⟩ hlt').trans g3
        have ga4 : ∀ o, (wr.alloc o).cell? ⟨b', off' + k * 5 + 4, none⟩ = _ := fun o => (World.cell?_alloc_lt wr o ⟨b', off' + k * 5 + 4, none⟩ hlt').trans g4
        clear hb g0 g1 g2 g3 g4 hlt'
        by_cases he : kids[k] = kids'[k]
        · have HR := Lib.hid (take_step hr.out hlt l2 he)
          rw [he] at c0 c1 c2 c3 c4
          rw [same_yes he, he] at hih
          clear he
          generalize hx : kids'[k] = x at *
          clear hx
          go_wp2_with (first
            | (go_at_call 10; refine (hih.out _ (hB1.out _ _)).mono ?_; rintro e w1 ⟨rfl, hb1⟩)
            | go_in)
          exact ⟨⟨k + 1, by omega, by go_num, HR.out, (hB1.out _ _).trans (hb1.mono (hB1.out _ _).size)⟩, by simp [intOf]; omega⟩
        · have HR := Lib.hid (ne_at hlt l2 he)
          rw [same_no he] at hih
          clear he
          generalize kids[k] = x at *
          generalize kids'[k] = y at *
          go_wp2_with (first
            | (go_at_call 10; refine (hih.out _ (hB1.out _ _)).mono ?_; rintro e w1 ⟨rfl, hb1⟩)
            | go_in)
          go_ret
          refine ⟨?_, (hB1.out _ _).trans (hb1.mono (hB1.out _ _).size)⟩
          rw [same_no HR.out]
          rfl
      · have HR := Lib.hid (take_end hr.out hlt HE.out)
        go_wp2
        go_ret
        refine ⟨?_, HB.out⟩
        rw [same_yes HR.out]
        rfl
  · have hl' : ¬ ((kids.length : Int) = kids'.length) := by omega
    go_enter Tryz.func24, Tryz.ntmps24
    go_wp2
    go_ret
    refine ⟨?_, Below.refl _ _⟩
    rw [same_no (fun h => hl (by rw [h]))]
    rfl

set_option maxRecDepth 100000 in
set_option maxHeartbeats 800000 in
theorem impl_same (T : RT) : ImplSameAt T := by
  induction T using RT.ind with
  | h k n s keys kids ih =>
    intro w kv dv F hl T' kv' dv' F' hl'
    obtain ⟨k', n', s', keys', kids'⟩ := T'
    obtain ⟨-, -, -, FK, FD, hK, hD, -⟩ := hl.outn
    obtain ⟨-, -, -, FK', FD', hK', hD', -⟩ := hl'.outn
    clear hl hl'
    have b2 := Box2.start w (.int .i64 k) (.int .i64 n) (.string s) kv dv (.int .i64 k') (.int .i64 n') (.string s') kv' dv' 27 27
    have HK := Lib.hid fun (wr : World) (hb : Below w.heap.size w wr) => slices_eq wr (hK.stay hb (Nat.le_refl _)) (hK'.stay hb (Nat.le_refl _))
    have HD := Lib.hid fun (wr : World) (hb : Below w.heap.size w wr) => slices_eq_func ih wr (hD.stay hb (Nat.le_refl _)) (hD'.stay hb (Nat.le_refl _))
    have HX := Lib.hid b2
    clear hK hK' hD hD' ih b2
    show Calls Tryz.prog 10 #[.agg #[.int .i64 k, .int .i64 n, .string s, kv, dv], .agg #[.int .i64 k', .int .i64 n', .string s', kv', dv']] w _
    by_cases e1 : k = k'
    · by_cases e2 : n = n'
      · by_cases e3 : s = s'
        · subst e1 e2 e3
          by_cases e4 : keys = keys'
          · subst e4
            by_cases e5 : kids = kids'
            · subst e5
              rw [same_yes rfl]
              go_enter Tryz.func10, Tryz.ntmps10
              go_wp2_with (first
                | (go_at_call 23; refine (HK.out _ HX.out.below).mono ?_; rintro e w1 ⟨rfl, hb1⟩; rw [same_yes rfl]; have hx := HX.out.next hb1; have hB := Lib.hid hx.below; obtain ⟨-, -, -, -, -, -, c4, -, -, -, -, g4⟩ := hx; clear hb1)
                | (go_at_call 24; refine (HD.out _ hB.out).mono ?_; rintro e w2 ⟨rfl, hb2⟩; rw [same_yes rfl])
                | go_in)
              go_ret
              exact ⟨rfl, hB.out.trans (hb2.mono hB.out.size)⟩
            · rw [same_no (fun h => e5 (by injection h))]
              go_enter Tryz.func10, Tryz.ntmps10
              go_wp2_with (first
                | (go_at_call 23; refine (HK.out _ HX.out.below).mono ?_; rintro e w1 ⟨rfl, hb1⟩; rw [same_yes rfl]; have hx := HX.out.next hb1; have hB := Lib.hid hx.below; obtain ⟨-, -, -, -, -, -, c4, -, -, -, -, g4⟩ := hx; clear hb1)
                | (go_at_call 24; refine (HD.out _ hB.out).mono ?_; rintro e w2 ⟨rfl, hb2⟩; rw [same_no e5])
                | go_in)
              go_ret
              exact ⟨rfl, hB.out.trans (hb2.mono hB.out.size)⟩
          · rw [same_no (fun h => e4 (by injection h))]
            go_enter Tryz.func10, Tryz.ntmps10
            go_wp2_with (first
              | (go_at_call 23; refine (HK.out _ HX.out.below).mono ?_; rintro e w1 ⟨rfl, hb1⟩; rw [same_no e4]; have hB := Lib.hid (HX.out.next hb1).below; clear hb1)
              | go_in)
            go_ret
            exact ⟨rfl, hB.out⟩
        · have e3' := bytes_ne e3
          rw [same_no (fun h => e3 (by injection h))]
          go_enter Tryz.func10, Tryz.ntmps10
          go_wp2
          go_ret
          exact ⟨rfl, ((Below.refl _ w).alloc (Nat.le_refl _) _).alloc (by simp) _⟩
      · rw [same_no (fun h => e2 (by injection h))]
        go_enter Tryz.func10, Tryz.ntmps10
        go_wp2
        go_ret
        exact ⟨rfl, ((Below.refl _ w).alloc (Nat.le_refl _) _).alloc (by simp) _⟩
    · rw [same_no (fun h => e1 (by injection h))]
      go_enter Tryz.func10, Tryz.ntmps10
      go_wp2
      go_ret
      exact ⟨rfl, ((Below.refl _ w).alloc (Nat.le_refl _) _).alloc (by simp) _⟩
end Go.Proofs.YtmcjghhmcmkomaaGreatDoor

/- plain facts on texts that are laid one behind the other by append, and on strings.Join of them. -/
namespace Go.Proofs.YtmcjghhmcmkomaaGreatDoor
open Go Go.RowKit

/-- The texts l, in a row that was made since w. -/
def Txts (w wr : World) (v : Value) (l : List ByteArray) : Prop := wr.ownsRow w.heap.size 9 1 v l.length (l.map Value.string)

section
variable {w wr w1 : World} {v : Value} {l : List ByteArray}

theorem Txts.nil (w wr : World) : Txts w wr (.slice none 0 0) [] := ⟨rfl, .inl ⟨rfl, rfl⟩⟩

theorem Txts.slice (h : Txts w wr v l) : ∃ o c, v = .slice o l.length c := by
  rcases h.2 with ⟨rfl, h0⟩ | ⟨g, cap, cur, rfl, _⟩
  · exact ⟨none, 0, by rw [h0]⟩
  · exact ⟨_, _, rfl⟩

theorem Txts.form (h : Txts w wr v l) (h0 : 0 < l.length) : ∃ g c, v = .slice (some ⟨g, 0, none⟩) l.length c ∧ l.length ≤ c ∧ c ≤ maxLen ∧ w.heap.size ≤ g ∧ g < wr.heap.size := by
  rcases h.2 with ⟨rfl, e0⟩ | ⟨g, cap, cur, rfl, hg, hc, h1, h2, _⟩
  · omega
  · exact ⟨g, cap, rfl, h1, h2, hg, (Array.getElem?_eq_some_iff.1 hc).1⟩

theorem Txts.on (h : Txts w wr v l) (hb : Below wr.heap.size wr w1) : Txts w w1 v l :=
  World.ownsRow.kept (row := none) h ⟨hb.os, hb.tape, hb.output, hb.size, fun k hk _ => hb.block k hk⟩ (by
    rcases v.ownBlock with _ | k
    · exact .inl rfl
    · exact .inr (by simp))

theorem Txts.early {wa : World} (h : Txts wa wr v l) (hs : w.heap.size ≤ wa.heap.size) : Txts w wr v l := by
  refine ⟨h.1, ?_⟩
  rcases h.2 with h2 | ⟨g, cap, cur, hv, hg, r⟩
  · exact .inl h2
  · exact .inr ⟨g, cap, cur, hv, by omega, r⟩

/-- One text more. -/
theorem Txts.more (h : Txts w wr v l) (hs : w.heap.size ≤ wr.heap.size) (b : ByteArray) (hl : l.length < 1000000000) (ty : TypeId) :
    ∃ v' w', (Builtin.append_ #[24, 24] ty #[v, .slice (some ⟨wr.heap.size, 0, none⟩) 1 1]).run Tryz.prog (wr.alloc (.cells #[.string b] 9)) = .ok v' w' ∧
      ∃ o' c', v' = .slice o' (l.length + 1) c' ∧ Txts w w' (.slice o' (l.length + 1) c') (l ++ [b]) ∧ Below w.heap.size wr w' := by
  obtain ⟨i0, hi0, hz0, hz1, hz2⟩ := info_parts info_string
  have hba := (Below.refl wr.heap.size wr).alloc (Nat.le_refl _) (.cells #[.string b] 9)
  have hlast : (wr.alloc (.cells #[.string b] 9)).heap[wr.heap.size]? = some (.cells #[.string b] 9 (0, 0)) := by show (wr.heap.push _)[wr.heap.size]? = _; simp
  have hown := World.ownsRow.alloc h (.cells #[.string b] 9)
  obtain ⟨v', w', hr, h2, h3, -, -⟩ := run_append_own_at (P := Tryz.prog) (wr.alloc (.cells #[.string b] 9)) w.heap.size 24 ty 9 i0 _ 1 16 Tryz.underlying24 hi0 hz0 hz1 hz2 rfl (by decide) v l.length (l.map Value.string) hown
    ⟨wr.heap.size, 0, none⟩ 1 1 [.string b] rfl (World.news_of_block hlast) (by simp [Value.oneCell']) (by unfold maxLen; omega) (by omega) (by have := hba.size; omega)
  have hb : Txts w w' v' (l ++ [b]) := by
    unfold Txts
    rw [List.length_append, List.map_append]
    exact h2
  obtain ⟨o', c', rfl⟩ := hb.slice
  rw [List.length_append, List.length_singleton] at hb hr
  refine ⟨_, w', hr, o', c', rfl, hb, h3.os.trans hba.os, h3.tape.trans hba.tape, h3.output.trans hba.output, Nat.le_trans hba.size h3.size, fun k hk => (h3.block k (by have := hba.size; omega) (fun e => ?_)).trans (hba.block k (by omega))⟩
  have := (World.ownsRow.lt hown k e.symm).1
  omega

theorem Txts.cell {g c : Nat} (h : Txts w wr (.slice (some ⟨g, 0, none⟩) l.length c) l) (j : Nat) (x : ByteArray) (hx : l[j]? = some x) : wr.cell? ⟨g, j, none⟩ = some (.string x) := by
  have hj : j < l.length := (List.getElem?_eq_some_iff.1 hx).1
  rw [World.ownsRow.cellAt h j (by omega), List.getElem?_map, hx]; rfl

/-- One of them put anew. -/
theorem Txts.put {g c : Nat} (h : Txts w wr (.slice (some ⟨g, 0, none⟩) l.length c) l) (j : Nat) (x : ByteArray) : Txts w (wr.setCell ⟨g, j, none⟩ (.string x)) (.slice (some ⟨g, 0, none⟩) l.length c) (l.set j x) := by
  have := (World.ownsRow.stored h j (.string x)).1
  unfold Txts
  rw [List.length_set, List.map_set]
  exact this

theorem Txts.free {g c : Nat} (h : Txts w wr (.slice (some ⟨g, 0, none⟩) l.length c) l) (j : Nat) : wr.frozen? ⟨g, j, none⟩ = false := World.ownsRow.frozenAt h j
end

/-- strings.Join of such a row, with a comma between. -/
theorem join_row {w wr : World} {v : Value} {l : List ByteArray} (h : Txts w wr v l) (hn : l.length ≤ 1000000) (hl : (Lib.join (l.map (·.data.toList)) [44]).length ≤ 1000000000) :
    Calls Tryz.prog 41 #[v, .string ⟨#[44]⟩] wr fun e w' => e = .returned (.string ⟨(Lib.join (l.map (·.data.toList)) [44]).toArray⟩) ∧ Below wr.heap.size wr w' := by
  by_cases h0 : 0 < l.length
  · obtain ⟨g, c, rfl, h1, h2, h3, h4⟩ := h.form h0
    exact Tryz.strings_Join g 0 c l ⟨#[44]⟩ wr (fun j x hx => by rw [Nat.zero_add]; exact h.cell j x hx) h4 (by omega) h1 (by show (Lib.join (l.map (·.data.toList)) [44]).length ≤ _; omega)
  · have : l = [] := List.length_eq_zero_iff.1 (by omega)
    subst this
    obtain ⟨o, c, rfl⟩ := h.slice
    exact (Tryz.strings_Join_none o c ⟨#[44]⟩ wr).mono fun e w' ⟨he, hw⟩ => ⟨by rw [he]; rfl, hw ▸ Below.refl _ _⟩
end Go.Proofs.YtmcjghhmcmkomaaGreatDoor

/- for any text the program's Quote answers as the model's Quote does: empty when it is not right; else its bytes between two marks, with a stroke ahead of a mark or a stroke. -/
namespace Go.Proofs.YtmcjghhmcmkomaaGreatDoor
open Go Go.RowKit

set_option maxRecDepth 100000 in
set_option maxHeartbeats 1000000 in
theorem impl_quote (s : ByteArray) (hm : s.size ≤ maxLen) (w : World) :
    Calls Tryz.prog 40 #[.string s] w fun e w' => e = .returned (.string (quoteT s)) ∧ Below w.heap.size w w' := by
  by_cases hok : textOk s = true
  · have hlen : s.size ≤ 400 := by
      unfold textOk at hok
      simp only [Bool.and_eq_true, decide_eq_true_eq] at hok
      exact hok.1
    have hq : Hid (quoteT s = ⟨(quoteL s.data.toList).toArray⟩) := if_pos hok
    have HT : Hid (∀ (wr : World) (v : Value) (l : List UInt8), Byts w wr v l → (convert 22 9 v).run Tryz.prog wr = .ok (.string ⟨l.toArray⟩) wr) := fun wr v l h => h.text
    have t1 : True := trivial
    go_enter Tryz.func40, Tryz.ntmps40
    go_wp2_with (first
      | (go_at_call 69; refine (impl_textOk s hm _).mono ?_; rintro e w1 ⟨rfl, hb1⟩; subst w1; rw [hok]; clear t1)
      | fail)
    unfold maxLen at hm
    go_loopw [3, 11] (fun v q wr => ∃ (k n : Nat) (o : Option Addr) (c : Nat), k ≤ s.size ∧ n ≤ 1 + 2 * k ∧ v = .slice o n c ∧ q = .int .i64 k ∧ Hid (∃ l : List UInt8, l = [34] ++ escAll (s.data.toList.take k) ∧ l.length = n ∧ Byts w wr (.slice o n c) l ∧ Below w.heap.size w wr)) (fun _ q _ => s.size - (intOf q).toNat)
    case atStart => exact ⟨0, 1, _, 1, Nat.zero_le _, by omega, rfl, rfl, [34], rfl, rfl, Byts.one (Nat.le_refl _) 34, (Below.refl _ w).alloc (Nat.le_refl _) _⟩
    case round =>
      obtain ⟨k, n, o, c, hk, hn, rfl, rfl, hr⟩ := hrel
      obtain ⟨l, hl, hln, hby, hbl⟩ := hr.out
      subst hln
      have HB := Lib.hid (And.intro hby hbl)
      have HLL := Lib.hid hl
      clear hby hbl hr hl
      by_cases hlt : k < s.size
      · have HL : Hid (l ++ esc s[k] = [34] ++ escAll (s.data.toList.take (k + 1))) := by
          show _ = _
          rw [escAll_take hlt, HLL.out, List.append_assoc]
        have hlt' : (k : Int) < (s.size : Int) := by omega
        have t2 : True := trivial
        have HM : Hid (∀ (wr1 : World) (o1 : Option Addr) (n1 c1 : Nat) (l1 : List UInt8) (z : Int) (b : UInt8), z = b.toNat → l1.length = n1 → Byts w wr1 (.slice o1 n1 c1) l1 → Below w.heap.size w wr1 → n1 ≤ 1000 → ∀ ty, ∃ v' w', (Builtin.append_ #[22, 22] ty #[.slice o1 n1 c1, .slice (some ⟨wr1.heap.size, 0, none⟩) 1 1]).run Tryz.prog (wr1.alloc (.cells #[.int .u8 z] 5)) = .ok v' w' ∧ ∃ o' c', v' = .slice o' (n1 + 1) c' ∧ Byts w w' (.slice o' (n1 + 1) c') (l1 ++ [b]) ∧ Below w.heap.size w w') := fun wr1 o1 n1 c1 l1 z b hz hn1 h1 h2 h3 ty => by
          subst hn1 hz
          obtain ⟨v', w', g1, o', c', g2, g3, g4⟩ := h1.more h2.size b (by omega) ty
          exact ⟨v', w', g1, o', c', g2, g3, h2.trans g4⟩
        obtain ⟨b, hb⟩ : ∃ b : UInt8, s[k] = b := ⟨_, rfl⟩
        rw [hb] at HL
        by_cases hq : b = 34 ∨ b = 92
        · have HE : Hid (esc b = [92, b]) := if_pos hq
          have HL2 : Hid ((l ++ [92]) ++ [b] = [34] ++ escAll (s.data.toList.take (k + 1))) := by
            have h1 := HL.out
            rw [HE.out] at h1
            show _ = _
            rw [← h1]
            simp
          clear HL HE
          rcases hq with hq | hq
          · subst hq
            have e1 : ((s[k].toNat : Int) == 34) = true := by rw [hb]; rfl
            go_wp2_with (first
              | (at_builtin; clear t2; refine list_append rfl _ _ 22 rfl _ _ rfl rfl (HM.out _ o l.length c l 92 92 rfl rfl HB.out.1 HB.out.2 (by omega) _) ?_; rintro v2 w2 ⟨o2, c2, rfl, h1, h2⟩; have H2 := Lib.hid (And.intro h1 h2); clear h1 h2)
              | (at_builtin; refine list_append rfl _ _ 22 rfl _ _ rfl rfl (HM.out _ o2 (l.length + 1) c2 (l ++ [92]) 34 34 rfl (by simp) H2.out.1 H2.out.2 (by omega) _) ?_; rintro v3 w3 ⟨o3, c3, rfl, h1, h2⟩; have H3 := Lib.hid (And.intro h1 h2); clear h1 h2)
              | fail)
            exact ⟨⟨k + 1, l.length + 1 + 1, o3, c3, hlt, by omega, rfl, by go_num, _, HL2.out, by simp, H3.out.1, H3.out.2⟩, by simp [intOf]; omega⟩
          · subst hq
            have e1 : ((s[k].toNat : Int) == 34) = false := by rw [hb]; rfl
            have e2 : ((s[k].toNat : Int) == 92) = true := by rw [hb]; rfl
            go_wp2_with (first
              | (at_builtin; clear t2; refine list_append rfl _ _ 22 rfl _ _ rfl rfl (HM.out _ o l.length c l 92 92 rfl rfl HB.out.1 HB.out.2 (by omega) _) ?_; rintro v2 w2 ⟨o2, c2, rfl, h1, h2⟩; have H2 := Lib.hid (And.intro h1 h2); clear h1 h2)
              | (at_builtin; refine list_append rfl _ _ 22 rfl _ _ rfl rfl (HM.out _ o2 (l.length + 1) c2 (l ++ [92]) 92 92 rfl (by simp) H2.out.1 H2.out.2 (by omega) _) ?_; rintro v3 w3 ⟨o3, c3, rfl, h1, h2⟩; have H3 := Lib.hid (And.intro h1 h2); clear h1 h2)
              | fail)
            exact ⟨⟨k + 1, l.length + 1 + 1, o3, c3, hlt, by omega, rfl, by go_num, _, HL2.out, by simp, H3.out.1, H3.out.2⟩, by simp [intOf]; omega⟩
        · have HE : Hid (esc b = [b]) := if_neg hq
          have e1 : ((b.toNat : Int) == 34) = false := by simpa using u8_ne (fun h => hq (.inl h))
          have e2 : ((b.toNat : Int) == 92) = false := by simpa using u8_ne (fun h => hq (.inr h))
          go_wp2_with (first
            | (at_builtin; refine list_append rfl _ _ 22 rfl _ _ rfl rfl (HM.out _ o l.length c l _ b rfl rfl HB.out.1 HB.out.2 (by omega) _) ?_; rintro v2 w2 ⟨o2, c2, rfl, h1, h2⟩; have H2 := Lib.hid (And.intro h1 h2); clear h1 h2)
            | fail)
          have HF : Hid (l ++ [b] = [34] ++ escAll (s.data.toList.take (k + 1))) := by
            have h1 := HL.out
            rw [HE.out] at h1
            exact h1
          exact ⟨⟨k + 1, l.length + 1, o2, c2, hlt, by omega, rfl, by go_num, l ++ [b], HF.out, by simp, H2.out.1, H2.out.2⟩, by simp [intOf]; omega⟩
      · have e : k = s.size := by omega
        subst e
        have HM : Hid (∀ ty, ∃ v' w', (Builtin.append_ #[22, 22] ty #[.slice o l.length c, .slice (some ⟨wr.heap.size, 0, none⟩) 1 1]).run Tryz.prog (wr.alloc (.cells #[.int .u8 34] 5)) = .ok v' w' ∧ ∃ o' c', v' = .slice o' (l.length + 1) c' ∧ Byts w w' (.slice o' (l.length + 1) c') (l ++ [34]) ∧ Below w.heap.size w w') := fun ty => by
          obtain ⟨v', w', g1, o', c', g2, g3, g4⟩ := HB.out.1.more HB.out.2.size 34 (by omega) ty
          exact ⟨v', w', g1, o', c', g2, g3, HB.out.2.trans g4⟩
        have HQ : Hid (quoteT s = ⟨(l ++ [34]).toArray⟩) := by
          have h1 := hq.out
          have h2 := HLL.out
          rw [List.take_of_length_le (by simp)] at h2
          show _ = _
          rw [h1, h2]
          rfl
        go_wp2_with (first
          | (at_builtin; refine list_append rfl _ _ 22 rfl _ _ rfl rfl (HM.out _) ?_; rintro v2 w2 ⟨o2, c2, rfl, h1, h2⟩; have H2 := Lib.hid (And.intro h1 h2); have ht := HT.out _ _ _ h1; clear h1 h2)
          | fail)
        go_ret
        exact ⟨by rw [HQ.out]; rfl, H2.out.2⟩
  · have hq : Hid (quoteT s = ⟨#[]⟩) := if_neg hok
    have hok' : textOk s = false := by simpa using hok
    go_enter Tryz.func40, Tryz.ntmps40
    go_wp2_with (first
      | (go_at_call 69; refine (impl_textOk s hm _).mono ?_; rintro e w1 ⟨rfl, hb1⟩; subst w1; rw [hok'])
      | fail)
    go_ret
    exact ⟨by rw [hq.out]; rfl, Below.refl _ _⟩

end Go.Proofs.YtmcjghhmcmkomaaGreatDoor

/- the program's Digits at every int, and what a row's list of package-level variables says of the table of powers of ten and of three errors; condition: those variables start as the program's text lays them. -/
namespace Go.Proofs.YtmcjghhmcmkomaaGreatDoor
open Go Go.ChangeShapes Go.WideShapes Go.ChangeAt Go.RowKit

theorem own : ownKnob Tryz.prog.godebug = none := by kernel_rfl
theorem gPow : Tryz.prog.globalNamed "internal/strconv.uint64pow10" = some 5 := by kernel_rfl
theorem tPow : (Tryz.prog.globals[5]?).map (·.type) = some 204 := by kernel_rfl
theorem cellsU64 : Tryz.prog.cellsOf 190 = 1 := by kernel_rfl
theorem cellsTab : Tryz.prog.cellsOf 204 = 20 := by kernel_rfl
theorem powData : (Rows.laid_internal_strconv_uint64pow10 : DataW Unit) = Lib.tabData .u64 Lib.pow10Tab := by kernel_rfl

/-- The program's Digits: strconv.Itoa by its contract. -/
theorem impl_digits (n : Int) (h0 : -9223372036854775808 ≤ n) (h1 : n ≤ 9223372036854775807) (w : World) (htab : Lib.TabIs Tryz.prog w "internal/strconv.uint64pow10" .u64 Lib.pow10Tab) :
    Calls Tryz.prog 39 #[.int .i64 n] w fun e w' => e = .returned (.string ⟨(Lib.itoa n).toArray⟩) ∧ Below w.heap.size w w' := by
  go_enter Tryz.func39, Tryz.ntmps39
  go_wp2_with (go_at_call 68; refine (Tryz.strconv_Itoa n h0 h1 _ htab).mono ?_; rintro e w1 ⟨rfl, k, os, rfl⟩)
  go_ret
  exact ⟨rfl, Lib.below_grow _ _ (Nat.le_refl _) _ _⟩

/-- What a row's condition says of the table of powers of ten. -/
theorem pow_of_laid {W : World} {r : List (String × DataW Unit)} (hL : laidMet Tryz.prog (("internal/strconv.uint64pow10", Rows.laid_internal_strconv_uint64pow10) :: r) W) :
    Lib.TabIs Tryz.prog W "internal/strconv.uint64pow10" .u64 Lib.pow10Tab := by
  rw [powData] at hL
  exact Lib.tabIs_of_head gPow tPow Tryz.underlying204 Tryz.underlying190 cellsU64 cellsTab hL

theorem wf64 {n : Int} (h : (Lit.int .i64 n).wf = true) : -9223372036854775808 ≤ n ∧ n ≤ 9223372036854775807 := by
  have e1 : IntKind.i64.min = -9223372036854775808 := rfl
  have e2 : IntKind.i64.max = 9223372036854775807 := rfl
  simp [Lit.wf, e1, e2] at h
  omega

theorem cellsErr : Tryz.prog.cellsOf 235 = 1 := by kernel_rfl
theorem cellsStr : Tryz.prog.cellsOf 9 = 1 := by kernel_rfl
theorem star : "*" ++ "errors.errorString" = "*errors.errorString" := by decide
theorem rowErr (u : TypeId) (h : Tryz.prog.typeName? 3 u = some "*errors.errorString") : u = 216 :=
  typeName_ptr_named (nm := "errors.errorString") (by rw [star]; kernel_rfl) (by kernel_rfl) (by decide) u (by rw [star]; exact h)

theorem old_of_cell {W : World} {g : Nat} {v : Value} (hc : W.cell? ⟨g, 0, none⟩ = some v) : g < W.heap.size := by
  rcases Nat.lt_or_ge g W.heap.size with h | h
  · exact h
  · simp [World.cell?, Array.getElem?_eq_none h] at hc

end Go.Proofs.YtmcjghhmcmkomaaGreatDoor
