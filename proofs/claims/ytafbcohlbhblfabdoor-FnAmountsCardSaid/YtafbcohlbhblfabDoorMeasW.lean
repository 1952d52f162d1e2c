/-
  What is proved: the model's AmountOf and SpanOf at every text of at most a million bytes.
-/
import Derived.Test.YtafbcohlbhblfabDoorMeas
import Derived.Test.YtafbcohlbhblfabDoorNumberW
import Derived.Lib.Hide
import Derived.Deep.QuietTactic
import Derived.BigQuiet
namespace Go.Proofs.YtafbcohlbhblfabDoor
open Go Go.RowKit

theorem extract_take (s : ByteArray) (k : Nat) : (s.extract 0 k).data.toList = s.data.toList.take k := by
  simp [ByteArray.data_extract]

theorem extract_drop (s : ByteArray) (k : Nat) : (s.extract k s.size).toList = s.data.toList.drop k := by
  rw [ByteArray.toList_eq, Lib.extract_to_end]

set_option maxHeartbeats 400000 in
theorem spec_head (s : ByteArray) (hs : s.size ≤ 1048576) (k : Nat) (hk : HeadAt s k) (w : World) :
    Calls Tryd.prog 42 #[.string s] w fun e w' => e = .returned (.int .i64 k) ∧ w' = w := by
  have HK := Lib.hid hk
  have hle := hk.le
  clear hk
  go_enter Tryd.func42, Tryd.ntmps42
  go_wp2
  go_loop [3] (fun i => ∃ j : Nat, j ≤ k ∧ i = .int .i64 j) (fun i => k - (intOf i).toNat)
  case atStart => exact ⟨0, Nat.zero_le _, rfl⟩
  case round =>
    obtain ⟨j, hj, rfl⟩ := hrel
    by_cases hlt : j < s.size
    · by_cases hjk : j < k
      · obtain ⟨d1, d2⟩ := HK.out.dig j hlt hjk
        go_wp2
        go_round
        case rel => exact ⟨j + 1, hjk, by go_num⟩
        case measure => simp [intOf]; omega
      · have hst : ¬ (48 ≤ s[j].toNat ∧ s[j].toNat ≤ 57) := by
          have : j = k := by omega
          subst this
          exact HK.out.stop hlt
        by_cases d1 : 48 ≤ s[j].toNat
        · have d2 : 57 < s[j].toNat := by omega
          clear hst
          go_wp2
          go_ret
          exact ⟨by have : j = k := by omega
                    subst this; rfl, rfl⟩
        · clear hst
          go_wp2
          go_ret
          exact ⟨by have : j = k := by omega
                    subst this; rfl, rfl⟩
    · go_wp2
      go_ret
      exact ⟨by have : j = k := by omega
                subst this; rfl, rfl⟩

theorem mul_in {m t : Int} (h0 : 0 ≤ m) (h1 : m ≤ 1000000000000) (t0 : 1 ≤ t) (t1 : t ≤ 1024000) : 0 ≤ m * t ∧ m * t ≤ 1024000000000000000 := by
  refine ⟨Int.mul_nonneg h0 (by omega), ?_⟩
  have a := Int.mul_le_mul_of_nonneg_right h1 (show 0 ≤ t by omega)
  have b := Int.mul_le_mul_of_nonneg_left t1 (show (0 : Int) ≤ 1000000000000 by decide)
  omega

theorem quo_in {m t : Int} (h0 : 0 ≤ m) (h1 : m ≤ 1000000000000) (t0 : 1 ≤ t) : 0 ≤ m / t ∧ m / t ≤ 1000000000000 :=
  ⟨Int.ediv_nonneg h0 (by omega), Int.le_trans (Int.ediv_le_self t h0) h1⟩

theorem wrap_id {z : Int} (h0 : -9223372036854775808 ≤ z) (h1 : z ≤ 9223372036854775807) : IntKind.i64.wrap z = z := by
  rw [IntKind.wrap_i64]; omega

theorem below_draw {B : Nat} {w w' : World} (h : Below B w w') (n : Nat) : Below B w (w'.drewN n) := h.trans ⟨rfl, rfl, rfl, Nat.le_refl _, fun _ _ => rfl⟩

set_option maxHeartbeats 800000 in
theorem spec_times (s : ByteArray) (hs : s.size ≤ 1048576) (k : Nat) (hk : HeadAt s k) (n : Nat) (L : List (List UInt8 × Int)) (hn : n = L.length) (hn1 : n ≤ 100) (hL : ∀ x ∈ L, 1 ≤ x.2 ∧ x.2 ≤ 1024000) (most : Int) (hm0 : 0 ≤ most) (hm1 : most ≤ 1000000000000)
    (E T c d : Nat) (w : World) (hE : E < w.heap.size) (hT : T < w.heap.size) (cE : ∀ i (h : i < L.length), w.cell? ⟨E, i, none⟩ = some (.string ⟨L[i].1.toArray⟩)) (cT : ∀ i (h : i < L.length), w.cell? ⟨T, i, none⟩ = some (.int .i64 L[i].2)) (r : Option Int) (hr : Hid (r = measT s k most L)) :
    Calls Tryd.prog 34 #[.string s, .slice (some ⟨E, 0, none⟩) n c, .slice (some ⟨T, 0, none⟩) n d, .int .i64 most] w fun e w' => e = .returned (.tuple #[.int .i64 (r.getD 0), .bool r.isSome]) ∧ Below w.heap.size w w' := by
  have HK := Lib.hid hk
  have hle := hk.le
  have HE := Lib.hid cE
  have HT := Lib.hid cT
  have HL := Lib.hid hL
  have HN := Lib.hid hn
  clear hk cE cT hL hn
  obtain ⟨q, hq⟩ : ∃ q, Hid (q = Num.numOf (s.extract 0 k).data.toList) := ⟨_, rfl⟩
  have hq2 : Hid (q = Num.numOf (s.data.toList.take k)) := by have := hq.out; rw [extract_take] at this; exact this
  have hsz : (s.extract 0 k).size ≤ 1048576 := by simp; omega
  cases q with
  | none =>
    have hr0 : Hid (r = none) := by
      have := hr.out
      unfold measT at this
      rw [← hq2.out] at this
      exact this
    go_enter Tryd.func34, Tryd.ntmps34
    go_wp2_with (first
      | (go_at_call 42; refine (spec_head s hs k HK.out _).mono ?_; rintro e w0 ⟨rfl, hw0⟩; subst w0)
      | (go_at_call 21; refine (spec_number (s.extract 0 k) hsz _ none hq).mono ?_; rintro e w1 ⟨rfl, hb1⟩))
    go_loop [13] (fun i => i = .int .i64 0) (fun _ => 0)
    case atStart => exact rfl
    case round =>
      subst hrel
      by_cases hpos : 0 < n
      · go_wp2
        go_ret2
        exact ⟨by rw [hr0.out]; rfl, hb1⟩
      · go_wp2
        go_ret2
        exact ⟨by rw [hr0.out]; rfl, hb1⟩
  | some m =>
    obtain ⟨hb0, hb1'⟩ := head_num HK.out hq2.out.symm
    have hr1 : Hid (r = pickT m most (s.data.toList.drop k) L) := by
      have := hr.out
      unfold measT at this
      rw [← hq2.out] at this
      exact this
    go_enter Tryd.func34, Tryd.ntmps34
    go_wp2_with (first
      | (go_at_call 42; refine (spec_head s hs k HK.out _).mono ?_; rintro e w0 ⟨rfl, hw0⟩; subst w0)
      | (go_at_call 21; refine (spec_number (s.extract 0 k) hsz _ (some m) hq).mono ?_; rintro e w1 ⟨rfl, hb1⟩))
    go_loopw [13] (fun i wr => ∃ j : Nat, j ≤ n ∧ i = .int .i64 j ∧ pickT m most (s.data.toList.drop k) (L.drop j) = r ∧ Below w.heap.size w wr) (fun i _ => n - (intOf i).toNat)
    case atStart => exact ⟨0, Nat.zero_le _, rfl, hr1.out.symm, hb1⟩
    case round =>
      obtain ⟨j, hj, rfl, hp, hbr⟩ := hrel
      clear hb1
      have HP := Lib.hid hp
      clear hp
      by_cases hlt : j < n
      · have hlt' : j < L.length := by have := HN.out; omega
        have hltI : (j : Int) < (n : Int) := by omega
        obtain ⟨e, t, het⟩ : ∃ e t, L[j] = (e, t) := ⟨_, _, rfl⟩
        have hce := (hbr.cell (p := ⟨E, j, none⟩) hE).trans (HE.out j hlt')
        have hct := (hbr.cell (p := ⟨T, j, none⟩) hT).trans (HT.out j hlt')
        obtain ⟨t0, t1⟩ := HL.out L[j] (List.getElem_mem hlt')
        rw [het] at hce hct t0 t1
        simp only at hce hct t0 t1
        have HD : Hid (L.drop j = (e, t) :: L.drop (j + 1)) := by show _ = _; rw [← het]; exact List.drop_eq_getElem_cons hlt'
        have z1 : ¬ t = 0 := by omega
        have z2 : (t == 0) = false := by rw [beq_eq_false_iff_ne]; exact z1
        obtain ⟨p0, p1⟩ := mul_in hb0 hb1' t0 t1
        obtain ⟨q0, q1⟩ := quo_in hm0 hm1 t0
        have e1 : most.tdiv t = most / t := Int.tdiv_eq_ediv_of_nonneg hm0
        have e2 : IntKind.i64.wrap (most / t) = most / t := wrap_id (by omega) (by omega)
        have e3 : IntKind.i64.wrap (m * t) = m * t := wrap_id (by omega) (by omega)
        clear het
        by_cases he : s.data.toList.drop k = e
        · have he1 : ((s.extract k s.size).toList == e) = true := by rw [beq_iff_eq, extract_drop]; exact he
          have HR := Lib.hid he
          clear he
          by_cases hlq : m ≤ most / t
          · have HZ : Hid (r = some (m * t)) := by
              have h1 := HP.out
              rw [HD.out] at h1
              rw [← h1]
              exact if_pos ⟨HR.out, hlq⟩
            go_wp2
            go_quiet (fail)
            go_wp2
            go_ret2
            exact ⟨by rw [HZ.out]; rfl, below_draw hbr _⟩
          · have HZ : Hid (pickT m most (s.data.toList.drop k) (L.drop (j + 1)) = r) := by
              have h1 := HP.out
              rw [HD.out] at h1
              exact (if_neg (fun h => hlq h.2)).symm.trans h1
            go_wp2
            go_quiet (fail)
            go_wp2
            go_roundw
            case rel => exact ⟨j + 1, hlt, by go_num, HZ.out, below_draw hbr _⟩
            case measure => simp [intOf]; omega
        · have he1 : ((s.extract k s.size).toList == e) = false := by rw [beq_eq_false_iff_ne, extract_drop]; exact he
          have HZ : Hid (pickT m most (s.data.toList.drop k) (L.drop (j + 1)) = r) := by
            have h1 := HP.out
            rw [HD.out] at h1
            exact (if_neg (fun h => he h.1)).symm.trans h1
          clear he
          go_wp2
          go_quiet (fail)
          go_wp2
          go_roundw
          case rel => exact ⟨j + 1, hlt, by go_num, HZ.out, below_draw hbr _⟩
          case measure => simp [intOf]; omega
      · have HZ : Hid (r = none) := by
          have h1 := HP.out
          have hnil : L.drop j = [] := List.drop_of_length_le (by have := HN.out; omega)
          rw [hnil] at h1
          exact h1.symm
        go_wp2
        go_ret2
        exact ⟨by rw [HZ.out]; rfl, hbr⟩

theorem two_lists {α β : Type} {f : α → Value} {g : β → Value} (xs : List α) (ys : List β) (w : World) (t u : TypeId) :
    (∀ i (h : i < xs.length), ((w.alloc (.cells (xs.map f).toArray t)).alloc (.cells (ys.map g).toArray u)).cell? ⟨w.heap.size, i, none⟩ = some (f xs[i])) ∧
    (∀ i (h : i < ys.length), ((w.alloc (.cells (xs.map f).toArray t)).alloc (.cells (ys.map g).toArray u)).cell? ⟨w.heap.size + 1, i, none⟩ = some (g ys[i])) := by
  constructor
  · intro i h
    have hb := ((Below.refl _ (w.alloc (.cells (xs.map f).toArray t))).alloc (Nat.le_refl _) (.cells (ys.map g).toArray u)).cell (p := ⟨w.heap.size, i, none⟩) (by simp)
    rw [hb, World.cell?_alloc_mark]
    simp [h]
  · intro i h
    have e : w.heap.size + 1 = (w.alloc (.cells (xs.map f).toArray t)).heap.size := by simp
    rw [e, World.cell?_alloc_mark]
    simp [h]

theorem amtT_in : ∀ x ∈ amtT, 1 ≤ x.2 ∧ x.2 ≤ 1024000 := by
  intro x hx
  simp only [amtT, List.mem_cons, List.not_mem_nil, or_false] at hx
  rcases hx with rfl | rfl | rfl | rfl <;> decide
theorem spanT_in : ∀ x ∈ spanT, 1 ≤ x.2 ∧ x.2 ≤ 1024000 := by
  intro x hx
  simp only [spanT, List.mem_cons, List.not_mem_nil, or_false] at hx
  rcases hx with rfl | rfl | rfl <;> decide

theorem cells_of {L : List (List UInt8 × Int)} {w : World} {t u : TypeId} {A B : Array Value} (hA : A = (L.map fun x => Value.string ⟨x.1.toArray⟩).toArray) (hB : B = (L.map fun x => Value.int .i64 x.2).toArray) :
    (∀ i (h : i < L.length), ((w.alloc (.cells A t)).alloc (.cells B u)).cell? ⟨w.heap.size, i, none⟩ = some (.string ⟨L[i].1.toArray⟩)) ∧
    (∀ i (h : i < L.length), ((w.alloc (.cells A t)).alloc (.cells B u)).cell? ⟨w.heap.size + 1, i, none⟩ = some (.int .i64 L[i].2)) := by
  subst hA hB
  exact two_lists (f := fun x : List UInt8 × Int => Value.string ⟨x.1.toArray⟩) (g := fun x : List UInt8 × Int => Value.int .i64 x.2) L L w t u

theorem laid_two' (w : World) (o1 o2 : Obj) : Below w.heap.size w ((w.alloc o1).alloc o2) := ((Below.refl _ w).alloc (Nat.le_refl _) _).alloc (by simp) _

set_option maxHeartbeats 400000 in
/-- The model's AmountOf. -/
theorem spec_amountOf (s : ByteArray) (hs : s.size ≤ 1048576) (k : Nat) (hk : HeadAt s k) (w : World) (r : Option Int) (hr : Hid (r = measT s k 1000000000000 amtT)) :
    Calls Tryd.prog 11 #[.string s] w fun e w' => e = .returned (.tuple #[.int .i64 (r.getD 0), .bool r.isSome]) ∧ Below w.heap.size w w' := by
  have HK := Lib.hid hk
  clear hk
  go_enter Tryd.func11, Tryd.ntmps11
  go_wp2_with (go_at_call 34; refine (spec_times s hs k HK.out 4 amtT rfl (by decide) amtT_in 1000000000000 (by decide) (by decide) w.heap.size (w.heap.size + 1) 4 4 _ (by simp; omega) (by simp) (cells_of rfl rfl).1 (cells_of rfl rfl).2 r hr).mono ?_; rintro e w1 ⟨rfl, hb1⟩)
  go_ret2
  exact ⟨rfl, (laid_two' w _ _).trans (hb1.mono (by simp; omega))⟩

set_option maxHeartbeats 400000 in
/-- The model's SpanOf. -/
theorem spec_spanOf (s : ByteArray) (hs : s.size ≤ 1048576) (k : Nat) (hk : HeadAt s k) (w : World) (r : Option Int) (hr : Hid (r = measT s k 1000000 spanT)) :
    Calls Tryd.prog 13 #[.string s] w fun e w' => e = .returned (.tuple #[.int .i64 (r.getD 0), .bool r.isSome]) ∧ Below w.heap.size w w' := by
  have HK := Lib.hid hk
  clear hk
  go_enter Tryd.func13, Tryd.ntmps13
  go_wp2_with (go_at_call 34; refine (spec_times s hs k HK.out 3 spanT rfl (by decide) spanT_in 1000000 (by decide) (by decide) w.heap.size (w.heap.size + 1) 3 3 _ (by simp; omega) (by simp) (cells_of rfl rfl).1 (cells_of rfl rfl).2 r hr).mono ?_; rintro e w1 ⟨rfl, hb1⟩)
  go_ret2
  exact ⟨rfl, (laid_two' w _ _).trans (hb1.mono (by simp; omega))⟩
end Go.Proofs.YtafbcohlbhblfabDoor
