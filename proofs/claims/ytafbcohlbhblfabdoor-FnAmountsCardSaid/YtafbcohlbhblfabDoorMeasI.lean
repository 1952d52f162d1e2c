/-
  What is proved: the program's AmountOf and SpanOf at every text of at most a million bytes, valid UTF-8 or not; conditions: the library's table of powers of ten and three error variables start as the program's text lays them.
-/
import Derived.Test.YtafbcohlbhblfabDoorMeasC
import Derived.Test.YtafbcohlbhblfabDoorNumberI
import Derived.Lib.Hide
import Derived.ChangeKeysEq
namespace Go.Proofs.YtafbcohlbhblfabDoor
open Go Go.RowKit

theorem infoI32 : Tryd.prog.info? 21 = some ((Tryd.prog.info? 21).get!) := by kernel_rfl
theorem cellsI32 : Tryd.prog.cellsOf 21 = 1 := by kernel_rfl
theorem part_sign (xs : Array Value) (i : Nat) (x : Int) (h : xs[i]? = some (.int .i32 x)) (w : World) : (part 21 xs i).run Tryd.prog w = .ok (.int .i32 x) w := by
  simp [part, isAgg, run_underlying Tryd.underlying21, h]
/-- Two arrays of two signs are held against each other as a whole. -/
theorem eq_signs (a b c d : Int) (w : World) : (Op.equalIn 10000 42 (.agg #[.int .i32 a, .int .i32 b]) (.agg #[.int .i32 c, .int .i32 d])).run Tryd.prog w = .ok (a == c && b == d) w := by
  rw [run_equalIn_array w 9999 _ _ Tryd.underlying42 infoI32, cellsI32]
  have r : List.range 2 = [0, 1] := rfl
  have p0 := part_sign #[.int .i32 a, .int .i32 b] 0 a rfl
  have p1 := part_sign #[.int .i32 a, .int .i32 b] 1 b rfl
  have q0 := part_sign #[.int .i32 c, .int .i32 d] 0 c rfl
  have q1 := part_sign #[.int .i32 c, .int .i32 d] 1 d rfl
  have e0 := run_equalIn_int w 9998 21 .i32 .i32 a c Tryd.underlying21
  have e1 := run_equalIn_int w 9998 21 .i32 .i32 b d Tryd.underlying21
  rw [r]
  simp only [Op.eqItems, Sem.run_bind, Nat.zero_mul, Nat.one_mul, p0, q0, e0, Result.andThen_ok]
  cases (a == c)
  · simp
  · simp only [Bool.not_true, Bool.false_eq_true, if_false, Sem.run_bind, p1, q1, e1, Result.andThen_ok, Bool.true_and]
    cases (b == d) <;> simp

theorem mul_in' {m t : Int} (h0 : 0 ≤ m) (h1 : m ≤ 1000000000000) (t0 : 1 ≤ t) (t1 : t ≤ 1024000) : 0 ≤ m * t ∧ m * t ≤ 1024000000000000000 := by
  refine ⟨Int.mul_nonneg h0 (by omega), ?_⟩
  have a := Int.mul_le_mul_of_nonneg_right h1 (show 0 ≤ t by omega)
  have b := Int.mul_le_mul_of_nonneg_left t1 (show (0 : Int) ≤ 1000000000000 by decide)
  omega

theorem wrap_id' {z : Int} (h0 : -9223372036854775808 ≤ z) (h1 : z ≤ 9223372036854775807) : IntKind.i64.wrap z = z := by
  rw [IntKind.wrap_i64]; omega

theorem cut_none_calls (s : ByteArray) (hs : s.size ≤ 1048576) (k : Nat) (hk : HeadAt s k) (hc : cutAt s k = none) (w : World) :
    Calls Tryd.prog 41 #[.string s] w fun e w' => (∃ (d : ByteArray) (a b : Int), e = .returned (.tuple #[.string d, .agg #[.int .i32 a, .int .i32 b], .bool false])) ∧ Below w.heap.size w w' := by
  refine (impl_cut s hs k hk w).mono ?_
  rintro e w' ⟨⟨d, a, b, rfl, _⟩ | ⟨a, b, rfl, h⟩, hb⟩
  · exact ⟨⟨d, a, b, rfl⟩, hb⟩
  · rw [hc] at h; cases h

theorem cut_some_calls (s : ByteArray) (hs : s.size ≤ 1048576) (k : Nat) (hk : HeadAt s k) (a b : Int) (hc : cutAt s k = some (a, b)) (w : World) :
    Calls Tryd.prog 41 #[.string s] w fun e w' => e = .returned (.tuple #[.string (s.extract 0 k), .agg #[.int .i32 a, .int .i32 b], .bool true]) ∧ Below w.heap.size w w' := by
  refine (impl_cut s hs k hk w).mono ?_
  rintro e w' ⟨⟨d, a', b', rfl, h⟩ | ⟨a', b', rfl, h⟩, hb⟩
  · rw [hc] at h; cases h
  · rw [hc] at h; cases h; exact ⟨rfl, hb⟩

set_option maxRecDepth 100000 in
set_option maxHeartbeats 1600000 in
theorem impl_measure (s : ByteArray) (hs : s.size ≤ 1048576) (k : Nat) (hk : HeadAt s k) (n : Nat) (L : List ((Int × Int) × Int)) (hn : n = L.length) (hn1 : n ≤ 100) (hL : ∀ x ∈ L, 1 ≤ x.2 ∧ x.2 ≤ 1024000) (most : Int)
    (E c : Nat) (w : World) (V : Vars w) (hE : E < w.heap.size) (cE : ∀ i (h : i < L.length), w.cell? ⟨E, i * 3, none⟩ = some (.int .i32 L[i].1.1) ∧ w.cell? ⟨E, i * 3 + 1, none⟩ = some (.int .i32 L[i].1.2) ∧ w.cell? ⟨E, i * 3 + 2, none⟩ = some (.int .i64 L[i].2)) (r : Option Int) (hr : Hid (r = measS s k most L)) :
    Calls Tryd.prog 33 #[.string s, .int .i64 most, .slice (some ⟨E, 0, none⟩) n c] w fun e w' => e = .returned (.tuple #[.int .i64 (r.getD 0), .bool r.isSome]) ∧ Below w.heap.size w w' := by
  have HK := Lib.hid hk
  have hle := hk.le
  have HE := Lib.hid cE
  have HL := Lib.hid hL
  have HN := Lib.hid hn
  clear hk cE hL hn
  obtain ⟨q, hq⟩ : ∃ q, Hid (q = Num.numOf (s.extract 0 k).data.toList) := ⟨_, rfl⟩
  have hq2 : Hid (q = Num.numOf (s.data.toList.take k)) := by have := hq.out; rw [extract_take'] at this; exact this
  have hsz : (s.extract 0 k).size ≤ 1048576 := by simp; omega
  cases hcut : cutAt s k with
  | none =>
    have hr0 : Hid (r = none) := by
      have := hr.out
      unfold measS at this
      rw [hcut] at this
      exact this
    have HCU := Lib.hid hcut
    clear hcut
    go_enter Tryd.func33, Tryd.ntmps33
    go_wp2_with (go_at_call 41; refine (cut_none_calls s hs k HK.out HCU.out _).mono ?_; rintro e w1 ⟨⟨d, a, b, rfl⟩, hb1⟩)
    go_ret2
    exact ⟨by rw [hr0.out]; rfl, hb1.alloc hb1.size _⟩
  | some sg =>
    obtain ⟨a, b⟩ := sg
    have HCU := Lib.hid hcut
    cases q with
    | none =>
      have hr0 : Hid (r = none) := by
        have := hr.out
        unfold measS at this
        rw [hcut, ← hq2.out] at this
        exact this
      clear hcut
      go_enter Tryd.func33, Tryd.ntmps33
      go_wp2_with (first
        | (go_at_call 41; refine (cut_some_calls s hs k HK.out a b HCU.out _).mono ?_; rintro e w1 ⟨rfl, hb1⟩; have B1 := hb1.alloc hb1.size (.cells #[.int .i32 a, .int .i32 b] 42))
        | (go_at_call 20; refine (impl_number (s.extract 0 k) hsz _ (V.on B1) none hq).mono ?_; rintro e w2 ⟨rfl, hb2⟩))
      go_ret2
      exact ⟨by rw [hr0.out]; rfl, B1.trans (hb2.mono B1.size)⟩
    | some m =>
      have hr1 : Hid (r = pickS m most (a, b) L) := by
        have := hr.out
        unfold measS at this
        rw [hcut, ← hq2.out] at this
        exact this
      clear hcut
      obtain ⟨hb0, hb1'⟩ := head_num HK.out hq2.out.symm
      go_enter Tryd.func33, Tryd.ntmps33
      go_wp2_with (first
        | (go_at_call 41; refine (cut_some_calls s hs k HK.out a b HCU.out _).mono ?_; rintro e w1 ⟨rfl, hb1⟩; have B1 := hb1.alloc hb1.size (.cells #[.int .i32 a, .int .i32 b] 42))
        | (go_at_call 20; refine (impl_number (s.extract 0 k) hsz _ (V.on B1) (some m) hq).mono ?_; rintro e w2 ⟨rfl, hb2⟩))
      have B2 := B1.trans (hb2.mono B1.size)
      have hS0 : w2.cell? ⟨w1.heap.size, 0, none⟩ = some (.int .i32 a) := by
        rw [hb2.cell (p := ⟨w1.heap.size, 0, none⟩) (by simp), World.cell?_alloc_mark]; rfl
      have hS1 : w2.cell? ⟨w1.heap.size, 1, none⟩ = some (.int .i32 b) := by
        rw [hb2.cell (p := ⟨w1.heap.size, 1, none⟩) (by simp), World.cell?_alloc_mark]; rfl
      have hS : w1.heap.size < w2.heap.size := by have := hb2.size; simp at this; omega
      have hE2 : E < w2.heap.size := Nat.lt_of_lt_of_le hE B2.size
      generalize w1.heap.size = S at *
      go_loopw [31] (fun i wr => ∃ j : Nat, j ≤ n ∧ i = .int .i64 j ∧ pickS m most (a, b) (L.drop j) = r ∧ Below w2.heap.size w2 wr) (fun i _ => n - (intOf i).toNat)
      case atStart => exact ⟨0, Nat.zero_le _, rfl, hr1.out.symm, Below.refl _ _⟩
      case round =>
        obtain ⟨j, hj, rfl, hp, hbr⟩ := hrel
        have HP := Lib.hid hp
        clear hp
        have B3 := B2.trans (hbr.mono B2.size)
        by_cases hlt : j < n
        · have hlt' : j < L.length := by have := HN.out; omega
          have hltI : (j : Int) < (n : Int) := by omega
          obtain ⟨c0, d0, t, het⟩ : ∃ c d t, L[j] = ((c, d), t) := ⟨_, _, _, rfl⟩
          obtain ⟨x0, x1, x2⟩ := HE.out j hlt'
          obtain ⟨t0, t1⟩ := HL.out L[j] (List.getElem_mem hlt')
          rw [het] at x0 x1 x2 t0 t1
          simp only at x0 x1 x2 t0 t1
          have y0 := (hbr.cell (p := ⟨E, j * 3, none⟩) hE2).trans ((B2.cell (p := ⟨E, j * 3, none⟩) hE).trans x0)
          have y1 := (hbr.cell (p := ⟨E, j * 3 + 1, none⟩) hE2).trans ((B2.cell (p := ⟨E, j * 3 + 1, none⟩) hE).trans x1)
          have y2 := (hbr.cell (p := ⟨E, j * 3 + 2, none⟩) hE2).trans ((B2.cell (p := ⟨E, j * 3 + 2, none⟩) hE).trans x2)
          have s0 := (hbr.cell (p := ⟨S, 0, none⟩) hS).trans hS0
          have s1 := (hbr.cell (p := ⟨S, 1, none⟩) hS).trans hS1
          have hSr : S < wr.heap.size := Nat.lt_of_lt_of_le hS hbr.size
          have B4 := (Below.refl wr.heap.size wr).alloc (Nat.le_refl _) (.cells #[.int .i32 c0, .int .i32 d0, .int .i64 t] 44)
          have s2 := (B4.cell (p := ⟨S, 0, none⟩) hSr).trans s0
          have s3 := (B4.cell (p := ⟨S, 1, none⟩) hSr).trans s1
          have B5 := B3.alloc B3.size (.cells #[.int .i32 c0, .int .i32 d0, .int .i64 t] 44)
          have B6 := hbr.alloc hbr.size (.cells #[.int .i32 c0, .int .i32 d0, .int .i64 t] 44)
          have HD : Hid (L.drop j = ((c0, d0), t) :: L.drop (j + 1)) := by show _ = _; rw [← het]; exact List.drop_eq_getElem_cons hlt'
          obtain ⟨p0, p1⟩ := mul_in' hb0 hb1' t0 t1
          have e3 : IntKind.i64.wrap (m * t) = m * t := wrap_id' (by omega) (by omega)
          have HQ := eq_signs c0 d0 a b
          clear het x0 x1 x2 s0 s1 B4
          by_cases he : (c0, d0) = (a, b)
          · have he1 : (c0 == a && d0 == b) = true := by cases he; simp
            have HR := Lib.hid he
            clear he
            by_cases hlq : m * t ≤ most
            · have HZ : Hid (r = some (m * t)) := by
                have h1 := HP.out
                rw [HD.out] at h1
                rw [← h1]
                exact if_pos ⟨HR.out, hlq⟩
              go_wp2
              go_ret2
              exact ⟨by rw [HZ.out]; rfl, B5⟩
            · have HZ : Hid (pickS m most (a, b) (L.drop (j + 1)) = r) := by
                have h1 := HP.out
                rw [HD.out] at h1
                exact (if_neg (fun h => hlq h.2)).symm.trans h1
              go_wp2
              go_roundw
              case rel => exact ⟨j + 1, hlt, by go_num, HZ.out, B6⟩
              case measure => simp [intOf]; omega
          · have he1 : (c0 == a && d0 == b) = false := by
              rw [Bool.eq_false_iff]
              intro h
              simp only [Bool.and_eq_true, beq_iff_eq] at h
              exact he (by rw [h.1, h.2])
            have HZ : Hid (pickS m most (a, b) (L.drop (j + 1)) = r) := by
              have h1 := HP.out
              rw [HD.out] at h1
              exact (if_neg (fun h => he h.1)).symm.trans h1
            clear he
            go_wp2
            go_roundw
            case rel => exact ⟨j + 1, hlt, by go_num, HZ.out, B6⟩
            case measure => simp [intOf]; omega
        · have HZ : Hid (r = none) := by
            have h1 := HP.out
            have hnil : L.drop j = [] := List.drop_of_length_le (by have := HN.out; omega)
            rw [hnil] at h1
            exact h1.symm
          go_wp2
          go_ret2
          exact ⟨by rw [HZ.out]; rfl, B3⟩
theorem amountOf_cells (w : World) (t : TypeId) : ∀ i (_ : i < amtS.length), (w.alloc (.cells #[.int .i32 (-1), .int .i32 (-1), .int .i64 1000, .int .i32 109, .int .i32 (-1), .int .i64 1, .int .i32 107, .int .i32 (-1), .int .i64 1000000, .int .i32 75, .int .i32 105, .int .i64 1024000] t)).cell? ⟨w.heap.size, i * 3, none⟩ = some (.int .i32 amtS[i].1.1) ∧ (w.alloc (.cells #[.int .i32 (-1), .int .i32 (-1), .int .i64 1000, .int .i32 109, .int .i32 (-1), .int .i64 1, .int .i32 107, .int .i32 (-1), .int .i64 1000000, .int .i32 75, .int .i32 105, .int .i64 1024000] t)).cell? ⟨w.heap.size, i * 3 + 1, none⟩ = some (.int .i32 amtS[i].1.2) ∧ (w.alloc (.cells #[.int .i32 (-1), .int .i32 (-1), .int .i64 1000, .int .i32 109, .int .i32 (-1), .int .i64 1, .int .i32 107, .int .i32 (-1), .int .i64 1000000, .int .i32 75, .int .i32 105, .int .i64 1024000] t)).cell? ⟨w.heap.size, i * 3 + 2, none⟩ = some (.int .i64 amtS[i].2) := by
  intro i h
  rw [World.cell?_alloc_mark, World.cell?_alloc_mark, World.cell?_alloc_mark]
  have h4 : i < 4 := h
  match i, h4 with
  | 0, _ => exact ⟨rfl, rfl, rfl⟩
  | 1, _ => exact ⟨rfl, rfl, rfl⟩
  | 2, _ => exact ⟨rfl, rfl, rfl⟩
  | 3, _ => exact ⟨rfl, rfl, rfl⟩

theorem amountOf_in : ∀ x ∈ amtS, 1 ≤ x.2 ∧ x.2 ≤ 1024000 := by
  intro x hx
  simp only [amtS, List.mem_cons, List.not_mem_nil, or_false] at hx
  rcases hx with rfl | rfl | rfl | rfl <;> decide

set_option maxRecDepth 100000 in
set_option maxHeartbeats 400000 in
/-- The program's AmountOf. -/
theorem impl_amountOf (s : ByteArray) (hs : s.size ≤ 1048576) (k : Nat) (hk : HeadAt s k) (w : World) (V : Vars w) (r : Option Int) (hr : Hid (r = measT s k 1000000000000 amtT)) :
    Calls Tryd.prog 10 #[.string s] w fun e w' => e = .returned (.tuple #[.int .i64 (r.getD 0), .bool r.isSome]) ∧ Below w.heap.size w w' := by
  have HK := Lib.hid hk
  have hr2 : Hid (r = measS s k 1000000000000 amtS) := hr.out.trans (amt_same s k).symm
  have B1 := (Below.refl _ w).alloc (Nat.le_refl _) (.cells #[.int .i32 (-1), .int .i32 (-1), .int .i64 1000, .int .i32 109, .int .i32 (-1), .int .i64 1, .int .i32 107, .int .i32 (-1), .int .i64 1000000, .int .i32 75, .int .i32 105, .int .i64 1024000] 44)
  clear hk
  go_enter Tryd.func10, Tryd.ntmps10
  go_wp2_with (go_at_call 33; refine (impl_measure s hs k HK.out 4 amtS rfl (by decide) amountOf_in 1000000000000 w.heap.size 4 _ (V.on B1) (by simp) (amountOf_cells w _) r hr2).mono ?_; rintro e w1 ⟨rfl, hb1⟩)
  go_ret2
  exact ⟨rfl, B1.trans (hb1.mono B1.size)⟩
theorem spanOf_cells (w : World) (t : TypeId) : ∀ i (_ : i < spanS.length), (w.alloc (.cells #[.int .i32 104, .int .i32 (-1), .int .i64 3600, .int .i32 109, .int .i32 (-1), .int .i64 60, .int .i32 115, .int .i32 (-1), .int .i64 1] t)).cell? ⟨w.heap.size, i * 3, none⟩ = some (.int .i32 spanS[i].1.1) ∧ (w.alloc (.cells #[.int .i32 104, .int .i32 (-1), .int .i64 3600, .int .i32 109, .int .i32 (-1), .int .i64 60, .int .i32 115, .int .i32 (-1), .int .i64 1] t)).cell? ⟨w.heap.size, i * 3 + 1, none⟩ = some (.int .i32 spanS[i].1.2) ∧ (w.alloc (.cells #[.int .i32 104, .int .i32 (-1), .int .i64 3600, .int .i32 109, .int .i32 (-1), .int .i64 60, .int .i32 115, .int .i32 (-1), .int .i64 1] t)).cell? ⟨w.heap.size, i * 3 + 2, none⟩ = some (.int .i64 spanS[i].2) := by
  intro i h
  rw [World.cell?_alloc_mark, World.cell?_alloc_mark, World.cell?_alloc_mark]
  have h4 : i < 3 := h
  match i, h4 with
  | 0, _ => exact ⟨rfl, rfl, rfl⟩
  | 1, _ => exact ⟨rfl, rfl, rfl⟩
  | 2, _ => exact ⟨rfl, rfl, rfl⟩

theorem spanOf_in : ∀ x ∈ spanS, 1 ≤ x.2 ∧ x.2 ≤ 1024000 := by
  intro x hx
  simp only [spanS, List.mem_cons, List.not_mem_nil, or_false] at hx
  rcases hx with rfl | rfl | rfl <;> decide

set_option maxRecDepth 100000 in
set_option maxHeartbeats 400000 in
/-- The program's SpanOf. -/
theorem impl_spanOf (s : ByteArray) (hs : s.size ≤ 1048576) (k : Nat) (hk : HeadAt s k) (w : World) (V : Vars w) (r : Option Int) (hr : Hid (r = measT s k 1000000 spanT)) :
    Calls Tryd.prog 12 #[.string s] w fun e w' => e = .returned (.tuple #[.int .i64 (r.getD 0), .bool r.isSome]) ∧ Below w.heap.size w w' := by
  have HK := Lib.hid hk
  have hr2 : Hid (r = measS s k 1000000 spanS) := hr.out.trans (span_same s k).symm
  have B1 := (Below.refl _ w).alloc (Nat.le_refl _) (.cells #[.int .i32 104, .int .i32 (-1), .int .i64 3600, .int .i32 109, .int .i32 (-1), .int .i64 60, .int .i32 115, .int .i32 (-1), .int .i64 1] 44)
  clear hk
  go_enter Tryd.func12, Tryd.ntmps12
  go_wp2_with (go_at_call 33; refine (impl_measure s hs k HK.out 3 spanS rfl (by decide) spanOf_in 1000000 w.heap.size 3 _ (V.on B1) (by simp) (spanOf_cells w _) r hr2).mono ?_; rintro e w1 ⟨rfl, hb1⟩)
  go_ret2
  exact ⟨rfl, B1.trans (hb1.mono B1.size)⟩
end Go.Proofs.YtafbcohlbhblfabDoor
