/-
  What is proved: the model's NoNull at every tree: it is right, and no Kid of a map in it is nothing.
-/
import Derived.Test.YtbcgkpkkhinkcaaOkW
namespace Go.Proofs.Ytbcgkpkkhinkcaa
open Go Go.RowKit

mutual
/-- No Kid of a map is nothing. -/
def RT.nn : RT → Bool
  | .node k _ _ _ kids => nnAll k kids
def nnAll : Int → List RT → Bool
  | _, [] => true
  | k, t :: ts => ((!(decide (k = 5) && decide (t.k = 0))) && t.nn) && nnAll k ts
end

theorem nnAll_iff (k : Int) (l : List RT) : nnAll k l = true ↔ ∀ i (h : i < l.length), (k = 5 → ¬ l[i].k = 0) ∧ l[i].nn = true := by
  induction l with
  | nil => simp [nnAll]
  | cons t ts ih =>
    simp only [nnAll, Bool.and_eq_true, ih]
    constructor
    · rintro ⟨⟨h1, h2⟩, h3⟩ i hi
      cases i with
      | zero => exact ⟨fun h5 h0 => by have h0 : t.k = 0 := h0; simp [h5, h0] at h1, h2⟩
      | succ i => exact h3 i (by simpa using hi)
    · intro h
      refine ⟨⟨?_, (h 0 (by simp)).2⟩, fun i hi => h (i + 1) (by simpa using hi)⟩
      have h1 := (h 0 (by simp)).1
      by_cases h5 : k = 5
      · have h2 : ¬ t.k = 0 := h1 h5
        simp [h2]
      · simp [h5]

def NnAt (T : RT) : Prop := ∀ (w : World) (kv dv : Value) (F : List Nat), Lies w T kv dv F → Calls Try.prog 30 #[.agg #[.int .i64 T.k, .int .i64 T.n, .string T.s, kv, dv]] w fun e w' => e = .returned (.bool T.nn) ∧ Below w.heap.size w w'

set_option maxRecDepth 100000 in
set_option maxHeartbeats 1600000 in
theorem nn_kids (k n : Int) (s : ByteArray) {kids : List RT} (ih : ∀ t ∈ kids, NnAt t) (w : World) (ko : Option Addr) (kl kc : Nat) {dv : Value} {F : List Nat} (hD : KidsLie w dv kids F) :
    Calls Try.prog 30 #[.agg #[.int .i64 k, .int .i64 n, .string s, .slice ko kl kc, dv]] w fun e w' => e = .returned (.bool (nnAll k kids)) ∧ Below w.heap.size w w' := by
  obtain ⟨o, cap, b, off, FF, KV, DV, rfl, hlc, hcm, ho, -, hcell, hlies, -⟩ := hD
  have HX := Lib.hid (Box.start w (.int .i64 k) (.int .i64 n) (.string s) (.slice ko kl kc) (.slice o kids.length cap) 29)
  have HC := Lib.hid hcell
  have HL := Lib.hid hlies
  have HO := Lib.hid ho
  clear hcell hlies ho
  unfold maxLen at hcm
  go_enter Try.func30, Try.ntmps30
  go_wp2
  go_loopw [3] (fun i wr => ∃ j : Nat, j ≤ kids.length ∧ i = .int .i64 j ∧ Hid (∀ i (h : i < kids.length), i < j → (k = 5 → ¬ kids[i].k = 0) ∧ kids[i].nn = true) ∧ Hid (Box w wr (.int .i64 k) (.int .i64 n) (.string s) (.slice ko kl kc) (.slice o kids.length cap))) (fun i _ => kids.length - (intOf i).toNat)
  case atStart => exact ⟨0, Nat.zero_le _, rfl, fun i _ h => absurd h (by omega), HX.out⟩
  case round =>
    obtain ⟨j, hj, rfl, hr, hx⟩ := hrel
    obtain ⟨hb, -, x0, x1, x2, x3, x4⟩ := hx.out
    by_cases hlt : j < kids.length
    · have ho := HO.out (by omega)
      subst ho
      obtain ⟨c0, c1, c2, c3, c4⟩ := kid_cells (HC.out j hlt) hb
      have HI := Lib.hid (ih _ (List.getElem_mem hlt) wr _ _ _ ((HL.out j hlt).stay hb (Nat.le_refl _)))
      by_cases hg : (k = 5 → ¬ kids[j].k = 0) ∧ kids[j].nn = true
      · have HY : Hid (∀ i (h : i < kids.length), i < j + 1 → (k = 5 → ¬ kids[i].k = 0) ∧ kids[i].nn = true) := fun i h hi => by
          by_cases e : i = j
          · subst e; exact hg
          · exact hr.out i h (by omega)
        rw [hg.2] at HI
        have hg1 := hg.1
        clear hb hg
        generalize kids[j] = x at *
        by_cases h5 : k = 5
        · subst h5
          have e0 : (x.k == 0) = false := by simpa using hg1 rfl
          clear hg1
          go_wp2_with (first
            | (go_at_call 30; refine HI.out.mono ?_; rintro e w1 ⟨rfl, hb1⟩; have HB1 := Lib.hid hb1; clear hb1)
            | go_in)
          exact ⟨⟨j + 1, by omega, by go_num, HY.out, hx.out.next HB1.out⟩, by simp [intOf]; omega⟩
        · have e5 : (k == 5) = false := by simp [h5]
          clear hg1
          go_wp2_with (first
            | (go_at_call 30; refine HI.out.mono ?_; rintro e w1 ⟨rfl, hb1⟩; have HB1 := Lib.hid hb1; clear hb1)
            | go_in)
          exact ⟨⟨j + 1, by omega, by go_num, HY.out, hx.out.next HB1.out⟩, by simp [intOf]; omega⟩
      · have HN : Hid (nnAll k kids = false) := by
          show nnAll k kids = false
          rw [← Bool.not_eq_true, nnAll_iff]
          exact fun h => hg (h j hlt)
        have HB := Lib.hid hb
        clear hb
        by_cases h5 : k = 5
        · subst h5
          by_cases h0 : kids[j].k = 0
          · clear HI hg
            generalize kids[j] = x at *
            have e0 : (x.k == 0) = true := by simp [h0]
            go_wp2
            go_ret
            exact ⟨by rw [HN.out]; rfl, HB.out⟩
          · have hn : kids[j].nn = false := by
              cases e : kids[j].nn with
              | false => rfl
              | true => exact absurd ⟨fun _ => h0, e⟩ hg
            rw [hn] at HI
            clear hg hn
            generalize kids[j] = x at *
            have e0 : (x.k == 0) = false := by simpa using h0
            go_wp2_with (first
              | (go_at_call 30; refine HI.out.mono ?_; rintro e w1 ⟨rfl, hb1⟩; have HB1 := Lib.hid (hx.out.next hb1).below; clear hb1)
              | go_in)
            go_ret
            exact ⟨by rw [HN.out]; rfl, HB1.out⟩
        · have e5 : (k == 5) = false := by simp [h5]
          have hn : kids[j].nn = false := by
            cases e : kids[j].nn with
            | false => rfl
            | true => exact absurd ⟨fun h => absurd h h5, e⟩ hg
          rw [hn] at HI
          clear hg hn
          generalize kids[j] = x at *
          go_wp2_with (first
            | (go_at_call 30; refine HI.out.mono ?_; rintro e w1 ⟨rfl, hb1⟩; have HB1 := Lib.hid (hx.out.next hb1).below; clear hb1)
            | go_in)
          go_ret
          exact ⟨by rw [HN.out]; rfl, HB1.out⟩
    · have HY : Hid (nnAll k kids = true) := (nnAll_iff k kids).2 fun i h => hr.out i h (by omega)
      have HB := Lib.hid hb
      clear hb
      go_wp2
      go_ret
      exact ⟨by rw [HY.out]; rfl, HB.out⟩

theorem spec_nn (T : RT) : NnAt T := by
  induction T using RT.ind with
  | h k n s keys kids ih =>
    intro w kv dv F hl
    obtain ⟨-, -, -, FK, FD, hK, hD, -⟩ := hl.outn
    obtain ⟨ko, kc, rfl⟩ := hK.slice
    exact nn_kids k n s ih w ko _ kc hD

/-- What NoNull answers. -/
noncomputable def noNullT (T : RT) : Bool := treeOk T && T.nn

set_option maxRecDepth 100000 in
set_option maxHeartbeats 800000 in
theorem spec_noNull (T : RT) (w : World) (kv dv : Value) (F : List Nat) (hl : Lies w T kv dv F) (hsz : T.sz ≤ 1048576) :
    Calls Try.prog 12 #[.agg #[.int .i64 T.k, .int .i64 T.n, .string T.s, kv, dv]] w fun e w' => e = .returned (.bool (noNullT T)) ∧ Below w.heap.size w w' := by
  have HX := Lib.hid (Box.start w (.int .i64 T.k) (.int .i64 T.n) (.string T.s) kv dv 29)
  have HR := Lib.hid (fun wr (hb : Below w.heap.size w wr) => spec_treeOk T wr kv dv F (hl.stay hb (Nat.le_refl _)) hsz)
  have HN := Lib.hid (fun wr (hb : Below w.heap.size w wr) => spec_nn T wr kv dv F (hl.stay hb (Nat.le_refl _)))
  obtain ⟨⟨o1, c1, rfl⟩, ⟨o2, c2, rfl⟩⟩ := hl.slices
  unfold noNullT
  clear hl hsz
  generalize T.nn = r at *
  cases hok : treeOk T
  · rw [hok] at HR
    clear hok
    go_enter Try.func12, Try.ntmps12
    go_wp2_with fail
    refine (HR.out _ HX.out.below).mono ?_
    rintro e w1 ⟨rfl, hb1⟩
    have HX1 := Lib.hid (HX.out.next hb1)
    clear hb1
    obtain ⟨-, -, x0, x1, x2, x3, x4⟩ := HX1.out
    go_wp2
    go_ret
    exact ⟨rfl, HX1.out.below⟩
  · rw [hok] at HR
    clear hok
    go_enter Try.func12, Try.ntmps12
    go_wp2_with fail
    refine (HR.out _ HX.out.below).mono ?_
    rintro e w1 ⟨rfl, hb1⟩
    have HX1 := Lib.hid (HX.out.next hb1)
    clear hb1
    obtain ⟨-, -, x0, x1, x2, x3, x4⟩ := HX1.out
    go_wp2_with fail
    refine (HN.out _ HX1.out.below).mono ?_
    rintro e w2 ⟨rfl, hb2⟩
    have HX2 := Lib.hid (HX1.out.next hb2)
    clear hb2 x0 x1 x2 x3 x4
    obtain ⟨-, -, x0, x1, x2, x3, x4⟩ := HX2.out
    go_wp2
    go_ret
    exact ⟨rfl, HX2.out.below⟩
end Go.Proofs.Ytbcgkpkkhinkcaa
