/-
  What is proved: the program's roomBehind tells how many of the nodes that there is room for are left behind a tree; its TreeOk whether a tree is right, not too deep and not too great.
-/
import Derived.Test.YtbcgkpkkhinkcaaOkW
namespace Go.Proofs.Ytbcgkpkkhinkcaa
open Go Go.RowKit

/-- A tree fits: right, so deep at most, so many nodes at most. -/
def FitsK (T : RT) (d r : Nat) : Prop := T.deep ≤ d ∧ T.size ≤ r ∧ T.right = true

def RoomAt (T : RT) : Prop := ∀ (w : World) (kv dv : Value) (F : List Nat), Lies w T kv dv F → ∀ d r : Nat, d ≤ 8 → r ≤ 200 →
  Calls Try.prog 42 #[T.val kv dv, .int .i64 d, .int .i64 r] w fun e w' => ((FitsK T d r ∧ e = .returned (.tuple #[.int .i64 (r - T.size : Nat), .bool true])) ∨ (¬ FitsK T d r ∧ e = .returned (.tuple #[.int .i64 0, .bool false]))) ∧ Below w.heap.size w w'

theorem fits_head {T : RT} {d r : Nat} (h : FitsK T d r) : 0 < d ∧ 0 < r ∧ headOk T = true := by
  obtain ⟨h1, h2, h3⟩ := h
  obtain ⟨k, n, s, keys, kids⟩ := T
  rw [RT.deep] at h1
  rw [RT.size] at h2
  rw [RT.right, Bool.and_eq_true] at h3
  exact ⟨by omega, by omega, h3.1⟩

theorem fits_kid {k n : Int} {s : ByteArray} {keys : List ByteArray} {kids : List RT} {d r j : Nat} (h : FitsK (.node k n s keys kids) d r) (hj : j < kids.length) : FitsK kids[j] (d - 1) (r - 1 - sizeAll (kids.take j)) := by
  obtain ⟨h1, h2, h3⟩ := h
  rw [RT.deep] at h1
  rw [RT.size] at h2
  rw [RT.right, Bool.and_eq_true, rightAll_iff] at h3
  have e1 := deepAll_take kids j hj
  have e2 := deepAll_take_le kids (j + 1)
  have e3 := sizeAll_take kids j hj
  have e4 := sizeAll_take_le kids (j + 1)
  exact ⟨by omega, by omega, h3.2 j hj⟩

theorem fits_all {k n : Int} {s : ByteArray} {keys : List ByteArray} {kids : List RT} {d r : Nat} (h0 : 0 < d) (h1 : 0 < r) (hh : headOk (.node k n s keys kids) = true) (hd : deepAll kids ≤ d - 1) (hs : sizeAll kids ≤ r - 1) (hr : ∀ i (h : i < kids.length), kids[i].right = true) : FitsK (.node k n s keys kids) d r := by
  refine ⟨by rw [RT.deep]; omega, by rw [RT.size]; omega, ?_⟩
  rw [RT.right, hh, Bool.true_and, rightAll_iff]
  exact hr

set_option maxRecDepth 100000 in
set_option maxHeartbeats 1600000 in
theorem impl_room (T : RT) : RoomAt T := by
  induction T using RT.ind with
  | h k n s keys kids ih =>
    intro w kv dv F hl d r hd hr
    have HN := Lib.hid fun (wr : World) (hb : Below w.heap.size w wr) => impl_nodeOk (.node k n s keys kids) wr kv dv F (hl.stay hb (Nat.le_refl _))
    obtain ⟨-, -, -, FK, FD, -, hD, -⟩ := hl.outn
    obtain ⟨o, cap, b, off, FF, KV, DV, rfl, hlc, hcm, ho, -, hcell, hlies, -⟩ := hD
    have HX := Lib.hid (Box.start w (.int .i64 k) (.int .i64 n) (.string s) kv (.slice o kids.length cap) 29)
    have HC := Lib.hid hcell
    have HL := Lib.hid hlies
    have HO := Lib.hid ho
    clear hcell hlies ho hl
    unfold maxLen at hcm
    show Calls Try.prog 42 #[.agg #[.int .i64 k, .int .i64 n, .string s, kv, .slice o kids.length cap], .int .i64 d, .int .i64 r] w _
    by_cases d0 : d = 0
    · have hnf : Hid (¬ FitsK (.node k n s keys kids) d r) := fun h => by have := (fits_head h).1; omega
      subst d0
      go_enter Try.func42, Try.ntmps42
      go_wp2
      go_ret2
      exact ⟨.inr ⟨hnf.out, rfl⟩, (Below.refl _ w).alloc (Nat.le_refl _) _⟩
    by_cases r0 : r = 0
    · have hnf : Hid (¬ FitsK (.node k n s keys kids) d r) := fun h => by have := (fits_head h).2.1; omega
      have d1 : ¬ (d : Int) = 0 := by omega
      subst r0
      go_enter Try.func42, Try.ntmps42
      go_wp2
      go_ret2
      exact ⟨.inr ⟨hnf.out, rfl⟩, (Below.refl _ w).alloc (Nat.le_refl _) _⟩
    have d1 : ((d : Int) == 0) = false := by simp; omega
    have r1 : ((r : Int) == 0) = false := by simp; omega
    by_cases hh : headOk (.node k n s keys kids) = true
    · rw [hh] at HN
      go_enter Try.func42, Try.ntmps42
      go_wp2_with (first
        | (go_at_call 50; refine (HN.out _ HX.out.below).mono ?_; rintro e w1 ⟨rfl, hb1⟩; have HX1 := Lib.hid (HX.out.next hb1); obtain ⟨-, -, x0, x1, x2, x3, x4⟩ := HX1.out; clear hb1)
        | fail)
      go_loopw [2, 28] (fun m i wr => ∃ j : Nat, j ≤ kids.length ∧ i = .int .i64 j ∧ m = .int .i64 (r - 1 - sizeAll (kids.take j) : Nat) ∧ Hid (deepAll (kids.take j) ≤ d - 1 ∧ sizeAll (kids.take j) ≤ r - 1 ∧ ∀ i (h : i < kids.length), i < j → kids[i].right = true) ∧ Hid (Below w.heap.size w wr)) (fun _ i _ => kids.length - (intOf i).toNat)
      case atStart => exact ⟨0, Nat.zero_le _, rfl, by simp [sizeAll]; omega, ⟨by simp [deepAll], by simp [sizeAll], fun i _ h => absurd h (by omega)⟩, HX1.out.below⟩
      case round =>
        obtain ⟨j, hj, rfl, rfl, hr, hb⟩ := hrel
        by_cases hlt : j < kids.length
        · have ho := HO.out (by omega)
          subst ho
          obtain ⟨c0, c1, c2, c3, c4⟩ := kid_cells (HC.out j hlt) hb.out
          obtain ⟨⟨o1, q1, s1⟩, ⟨o2, q2, s2⟩⟩ := (HL.out j hlt).slices
          have HI := Lib.hid (fun (w1 : World) (hb1 : Below w.heap.size w w1) => ih _ (List.getElem_mem hlt) w1 _ _ _ ((HL.out j hlt).stay hb1 (Nat.le_refl _)) (d - 1) (r - 1 - sizeAll (kids.take j)) (by omega) (by omega))
          have HE := Lib.hid (And.intro (deepAll_take kids j hlt) (sizeAll_take kids j hlt))
          have HF := Lib.hid (fun h : FitsK (.node k n s keys kids) d r => fits_kid h hlt)
          have HY : Hid (kids[j].right = true → ∀ i (h : i < kids.length), i < j + 1 → kids[i].right = true) := fun h i hi hij => by
            by_cases e : i = j
            · subst e; exact h
            · exact hr.out.2.2 i hi (by omega)
          have hB1 : Hid (∀ ob, Below w.heap.size w (wr.alloc ob)) := fun ob => hb.out.alloc hb.out.size _
          have ed : ((d : Int) - 1) = ((d - 1 : Nat) : Int) := by omega
          generalize kids[j] = x at *
          generalize KV j = v1 at *
          generalize DV j = v2 at *
          subst s1 s2
          generalize hq : r - 1 - sizeAll (kids.take j) = q at *
          have HQ := Lib.hid hq
          clear hq
          go_wp2_with fail
          refine (HI.out _ (hB1.out _)).mono ?_
          rintro e w2 ⟨hor, hb2⟩
          have HB2 := Lib.hid ((hB1.out _).trans (hb2.mono (hB1.out _).size))
          clear hb2
          rcases hor with ⟨hf, rfl⟩ | ⟨hf, rfl⟩
          · have HFt := Lib.hid hf
            clear hf
            go_wp2
            obtain ⟨f1, f2, f3⟩ := HFt.out
            obtain ⟨g1, g2⟩ := HE.out
            obtain ⟨u1, u2, -⟩ := hr.out
            have := HQ.out
            refine ⟨⟨j + 1, by omega, by go_num, ?_, ⟨by omega, by omega, HY.out f3⟩, HB2.out⟩, by simp [intOf]; omega⟩
            congr 1; omega
          · have HFt := Lib.hid (fun h => hf (HF.out h))
            clear hf
            go_wp2
            go_ret2
            exact ⟨.inr ⟨HFt.out, rfl⟩, HB2.out⟩
        · have e : kids.take j = kids := List.take_of_length_le (by omega)
          have HFt : Hid (FitsK (.node k n s keys kids) d r) := by
            have := hr.out
            rw [e] at this
            exact fits_all (by omega) (by omega) hh this.1 this.2.1 (fun i h => this.2.2 i h (by omega))
          rw [e]
          go_wp2
          go_ret2
          refine ⟨.inl ⟨HFt.out, ?_⟩, hb.out⟩
          rw [RT.size]
          exact congrArg (fun z => Ending.returned (.tuple #[.int .i64 z, .bool true])) (by omega)
    · have hh' : headOk (.node k n s keys kids) = false := by simpa using hh
      have hnf : Hid (¬ FitsK (.node k n s keys kids) d r) := fun h => hh (fits_head h).2.2
      rw [hh'] at HN
      go_enter Try.func42, Try.ntmps42
      go_wp2_with (first
        | (go_at_call 50; refine (HN.out _ HX.out.below).mono ?_; rintro e w1 ⟨rfl, hb1⟩; have HB := Lib.hid (HX.out.next hb1).below; clear hb1)
        | fail)
      go_ret2
      exact ⟨.inr ⟨hnf.out, rfl⟩, HB.out⟩
end Go.Proofs.Ytbcgkpkkhinkcaa
