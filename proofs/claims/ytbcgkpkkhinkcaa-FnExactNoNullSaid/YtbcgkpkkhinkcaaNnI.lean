/-
  What is proved: the program's NoNull at every tree: it is right, and no Kid of a map in it is nothing; no condition.
-/
import Derived.Test.YtbcgkpkkhinkcaaNnS
import Derived.Test.YtbcgkpkkhinkcaaTreeOk
import Derived.Test.YtbcgkpkkhinkcaaSetA
namespace Go.Proofs.Ytbcgkpkkhinkcaa
open Go Go.RowKit

def NnIAt (T : RT) : Prop := T.right = true → ∀ (w : World) (kv dv : Value) (F : List Nat), Lies w T kv dv F → Calls Try.prog 32 #[.agg #[.int .i64 T.k, .int .i64 T.n, .string T.s, kv, dv]] w fun e w' => e = .returned (.bool T.nn) ∧ Below w.heap.size w w'

set_option maxRecDepth 100000 in
set_option maxHeartbeats 1600000 in
theorem nnI_kids (k n : Int) (s : ByteArray) {kl : Nat} {kids : List RT} (hh : k = 5 → kl = kids.length) (ih : ∀ t ∈ kids, NnIAt t) (hrt : ∀ i (h : i < kids.length), kids[i].right = true) (w : World) (ko : Option Addr) (kc : Nat) {dv : Value} {F : List Nat} (hD : KidsLie w dv kids F) :
    Calls Try.prog 32 #[.agg #[.int .i64 k, .int .i64 n, .string s, .slice ko kl kc, dv]] w fun e w' => e = .returned (.bool (nnAll k kids)) ∧ Below w.heap.size w w' := by
  obtain ⟨o, cap, b, off, FF, KV, DV, rfl, hlc, hcm, ho, -, hcell, hlies, -⟩ := hD
  have HX := Lib.hid (Box.start w (.int .i64 k) (.int .i64 n) (.string s) (.slice ko kl kc) (.slice o kids.length cap) 29)
  have HC := Lib.hid hcell
  have HL := Lib.hid hlies
  have HO := Lib.hid ho
  have HDec : Hid ((decide (k = 5) && decide (kl = kids.length)) = decide (k = 5)) := by
    show _ = _
    by_cases h5 : k = 5
    · simp [h5, hh h5]
    · simp [h5]
  clear hcell hlies ho hh
  unfold maxLen at hcm
  go_enter Try.func32, Try.ntmps32
  obtain ⟨-, -, x0, x1, x2, x3, x4⟩ := HX.out
  go_wp2
  clear x0 x1 x2 x3 x4
  go_loopw [8] (fun i wr => ∃ j : Nat, j ≤ kids.length ∧ i = .int .i64 j ∧ Hid (∀ i (h : i < kids.length), i < j → (k = 5 → ¬ kids[i].k = 0) ∧ kids[i].nn = true) ∧ Hid (Box w wr (.int .i64 k) (.int .i64 n) (.string s) (.slice ko kl kc) (.slice o kids.length cap))) (fun i _ => kids.length - (intOf i).toNat)
  case atStart => exact ⟨0, Nat.zero_le _, rfl, fun i _ h => absurd h (by omega), HX.out⟩
  case round =>
    obtain ⟨j, hj, rfl, hr, hx⟩ := hrel
    obtain ⟨hb, hbl, x0, x1, x2, x3, x4⟩ := hx.out
    by_cases hlt : j < kids.length
    · have ho := HO.out (by omega)
      subst ho
      obtain ⟨c0, c1, c2, c3, c4⟩ := kid_cells (HC.out j hlt) hb
      obtain ⟨⟨o1, q1, s1⟩, ⟨o2, q2, s2⟩⟩ := (HL.out j hlt).slices
      have HI := Lib.hid (fun (w1 : World) (hb1 : Below w.heap.size w w1) => ih _ (List.getElem_mem hlt) (hrt j hlt) w1 _ _ _ ((HL.out j hlt).stay hb1 (Nat.le_refl _)))
      have HGo : Hid ((k = 5 → ¬ kids[j].k = 0) → kids[j].nn = true → ∀ i (h : i < kids.length), i < j + 1 → (k = 5 → ¬ kids[i].k = 0) ∧ kids[i].nn = true) := fun g1 g2 i h hi => by
        by_cases e : i = j
        · subst e; exact ⟨g1, g2⟩
        · exact hr.out i h (by omega)
      have HNo : Hid ((k = 5 → ¬ kids[j].k = 0) → kids[j].nn = true → False → nnAll k kids = false) := fun _ _ h => h.elim
      have HN : Hid (¬ ((k = 5 → ¬ kids[j].k = 0) ∧ kids[j].nn = true) → nnAll k kids = false) := fun hg => by
        rw [← Bool.not_eq_true, nnAll_iff]
        exact fun h => hg (h j hlt)
      have HKB := Lib.hid (Box.start wr (.int .i64 kids[j].k) (.int .i64 kids[j].n) (.string kids[j].s) (KV j) (DV j) 29)
      have HA : Hid (∀ ob, Box w (wr.alloc ob) (.int .i64 k) (.int .i64 n) (.string s) (.slice ko kl kc) (.slice (some ⟨b, off, none⟩) kids.length cap)) := fun ob => hx.out.next ((Below.refl _ wr).alloc (Nat.le_refl _) ob)
      have hz : ∀ ob, (wr.alloc ob).cell? ⟨w.heap.size, 0, none⟩ = _ ∧ (wr.alloc ob).cell? ⟨w.heap.size, 1, none⟩ = _ ∧ (wr.alloc ob).cell? ⟨w.heap.size, 2, none⟩ = _ ∧ (wr.alloc ob).cell? ⟨w.heap.size, 3, none⟩ = _ ∧ (wr.alloc ob).cell? ⟨w.heap.size, 4, none⟩ = _ := fun ob => ⟨(HA.out ob).c0, (HA.out ob).c1, (HA.out ob).c2, (HA.out ob).c3, (HA.out ob).c4⟩
      have z0 := fun ob => (hz ob).1
      have z1 := fun ob => (hz ob).2.1
      have z2 := fun ob => (hz ob).2.2.1
      have z3 := fun ob => (hz ob).2.2.2.1
      have z4 := fun ob => (hz ob).2.2.2.2
      clear hz HNo hb hbl x0 x1 x2 x3 x4
      generalize kids[j] = x at *
      generalize KV j = v1 at *
      generalize DV j = v2 at *
      subst s1 s2
      by_cases h5 : k = 5
      · subst h5
        by_cases h0 : x.k = 0
        · have e0 : (x.k == 0) = true := by simp [h0]
          have HF := Lib.hid (HN.out (fun h => h.1 rfl h0))
          clear h0 HI HN HGo
          go_wp2_with (first
            | (go_at_call 21; refine (impl_isMap _ _ _ _ _ _ _ _ _ _).mono ?_; rintro e w1 ⟨rfl, hb1⟩; rw [HDec.out]; have HB1 := Lib.hid ((HA.out _).next hb1); obtain ⟨-, -, y0, y1, y2, y3, y4⟩ := (HKB.out).next hb1; clear hb1)
            | (go_at_call 32; refine (HI.out _ HB1.out.below).mono ?_; rintro e w2 ⟨rfl, hb2⟩; have HB2 := Lib.hid (HB1.out.next hb2); clear hb2)
            | fail)
          go_ret
          exact ⟨by rw [HF.out]; rfl, HB1.out.below⟩
        · have e0 : (x.k == 0) = false := by simp [h0]
          cases hn : x.nn
          · have HF := Lib.hid (HN.out (fun h => by rw [hn] at h; cases h.2))
            rw [hn] at HI
            clear h0 HN HGo hn
            go_wp2_with (first
            | (go_at_call 21; refine (impl_isMap _ _ _ _ _ _ _ _ _ _).mono ?_; rintro e w1 ⟨rfl, hb1⟩; rw [HDec.out]; have HB1 := Lib.hid ((HA.out _).next hb1); obtain ⟨-, -, y0, y1, y2, y3, y4⟩ := (HKB.out).next hb1; clear hb1)
            | (go_at_call 32; refine (HI.out _ HB1.out.below).mono ?_; rintro e w2 ⟨rfl, hb2⟩; have HB2 := Lib.hid (HB1.out.next hb2); clear hb2)
            | fail)
            go_ret
            exact ⟨by rw [HF.out]; rfl, HB2.out.below⟩
          · have HF := Lib.hid (HGo.out (fun _ => h0) hn)
            rw [hn] at HI
            clear h0 HN HGo hn
            go_wp2_with (first
            | (go_at_call 21; refine (impl_isMap _ _ _ _ _ _ _ _ _ _).mono ?_; rintro e w1 ⟨rfl, hb1⟩; rw [HDec.out]; have HB1 := Lib.hid ((HA.out _).next hb1); obtain ⟨-, -, y0, y1, y2, y3, y4⟩ := (HKB.out).next hb1; clear hb1)
            | (go_at_call 32; refine (HI.out _ HB1.out.below).mono ?_; rintro e w2 ⟨rfl, hb2⟩; have HB2 := Lib.hid (HB1.out.next hb2); clear hb2)
            | fail)
            exact ⟨⟨j + 1, by omega, by go_num, HF.out, HB2.out⟩, by simp [intOf]; omega⟩
      · replace HDec := Lib.hid (HDec.out.trans (show decide (k = 5) = false by simp [h5]))
        cases hn : x.nn
        · have HF := Lib.hid (HN.out (fun h => by rw [hn] at h; cases h.2))
          rw [hn] at HI
          clear HN HGo hn
          go_wp2_with (first
            | (go_at_call 21; refine (impl_isMap _ _ _ _ _ _ _ _ _ _).mono ?_; rintro e w1 ⟨rfl, hb1⟩; rw [HDec.out]; have HB1 := Lib.hid ((HA.out _).next hb1); obtain ⟨-, -, y0, y1, y2, y3, y4⟩ := (HKB.out).next hb1; clear hb1)
            | (go_at_call 32; refine (HI.out _ HB1.out.below).mono ?_; rintro e w2 ⟨rfl, hb2⟩; have HB2 := Lib.hid (HB1.out.next hb2); clear hb2)
            | fail)
          go_ret
          exact ⟨by rw [HF.out]; rfl, HB2.out.below⟩
        · have HF := Lib.hid (HGo.out (fun h => absurd h h5) hn)
          rw [hn] at HI
          clear HN HGo hn
          go_wp2_with (first
            | (go_at_call 21; refine (impl_isMap _ _ _ _ _ _ _ _ _ _).mono ?_; rintro e w1 ⟨rfl, hb1⟩; rw [HDec.out]; have HB1 := Lib.hid ((HA.out _).next hb1); obtain ⟨-, -, y0, y1, y2, y3, y4⟩ := (HKB.out).next hb1; clear hb1)
            | (go_at_call 32; refine (HI.out _ HB1.out.below).mono ?_; rintro e w2 ⟨rfl, hb2⟩; have HB2 := Lib.hid (HB1.out.next hb2); clear hb2)
            | fail)
          exact ⟨⟨j + 1, by omega, by go_num, HF.out, HB2.out⟩, by simp [intOf]; omega⟩
    · have HY : Hid (nnAll k kids = true) := (nnAll_iff k kids).2 fun i h => hr.out i h (by omega)
      have HB := Lib.hid hb
      clear hb
      go_wp2
      go_ret
      exact ⟨by rw [HY.out]; rfl, HB.out⟩

theorem nnI (T : RT) : NnIAt T := by
  induction T using RT.ind with
  | h k n s keys kids ih =>
    intro hr w kv dv F hl
    obtain ⟨-, -, -, FK, FD, hK, hD, -⟩ := hl.outn
    obtain ⟨ko, kc, rfl⟩ := hK.slice
    rw [RT.right, Bool.and_eq_true, rightAll_iff] at hr
    have hh : HeadOk (.node k n s keys kids) := by
      have := hr.1
      unfold headOk at this
      simpa using this
    exact nnI_kids k n s (fun h5 => by subst h5; exact (head5.1 hh).2.2.1) ih hr.2 w ko kc hD

set_option maxRecDepth 100000 in
set_option maxHeartbeats 800000 in
theorem impl_noNull (T : RT) (w : World) (kv dv : Value) (F : List Nat) (hl : Lies w T kv dv F) :
    Calls Try.prog 13 #[.agg #[.int .i64 T.k, .int .i64 T.n, .string T.s, kv, dv]] w fun e w' => e = .returned (.bool (noNullT T)) ∧ Below w.heap.size w w' := by
  have HX := Lib.hid (Box.start w (.int .i64 T.k) (.int .i64 T.n) (.string T.s) kv dv 29)
  have HR := Lib.hid (fun wr (hb : Below w.heap.size w wr) => impl_treeOk T wr kv dv F (hl.stay hb (Nat.le_refl _)))
  have HN := Lib.hid (fun wr (hr : T.right = true) (hb : Below w.heap.size w wr) => nnI T hr wr kv dv F (hl.stay hb (Nat.le_refl _)))
  obtain ⟨⟨o1, c1, rfl⟩, ⟨o2, c2, rfl⟩⟩ := hl.slices
  have HOk := Lib.hid (fun h : treeOk T = true => ((treeOk_fits T).1 h).2.2)
  unfold noNullT
  clear hl
  generalize T.nn = r at *
  cases hok : treeOk T
  · rw [hok] at HR
    clear hok
    go_enter Try.func13, Try.ntmps13
    go_wp2_with fail
    refine (HR.out _ HX.out.below).mono ?_
    rintro e w1 ⟨rfl, hb1⟩
    have HX1 := Lib.hid (HX.out.next hb1)
    clear hb1
    obtain ⟨-, -, x0, x1, x2, x3, x4⟩ := HX1.out
    go_wp2
    go_ret
    exact ⟨rfl, HX1.out.below⟩
  · rw [hok] at HR
    have HRt := Lib.hid (HOk.out hok)
    clear hok HOk
    go_enter Try.func13, Try.ntmps13
    go_wp2_with fail
    refine (HR.out _ HX.out.below).mono ?_
    rintro e w1 ⟨rfl, hb1⟩
    have HX1 := Lib.hid (HX.out.next hb1)
    clear hb1
    obtain ⟨-, -, x0, x1, x2, x3, x4⟩ := HX1.out
    go_wp2_with fail
    refine (HN.out _ HRt.out HX1.out.below).mono ?_
    rintro e w2 ⟨rfl, hb2⟩
    have HX2 := Lib.hid (HX1.out.next hb2)
    clear hb2 x0 x1 x2 x3 x4
    obtain ⟨-, -, x0, x1, x2, x3, x4⟩ := HX2.out
    go_wp2
    go_ret
    exact ⟨rfl, HX2.out.below⟩
end Go.Proofs.Ytbcgkpkkhinkcaa
