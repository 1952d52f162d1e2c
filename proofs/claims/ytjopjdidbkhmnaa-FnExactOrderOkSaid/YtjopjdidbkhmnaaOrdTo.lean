/-
  What is proved: the laws' toMetricS, toNoteS and toOrder lay the same metrics, notes and orders into new memory.
-/
import Derived.Test.YtjopjdidbkhmnaaOrdRow
import Derived.Test.YtjopjdidbkhmnaaOrdSz
import Derived.Test.YtjopjdidbkhmnaaMet
namespace Go.Proofs.Ytjopjdidbkhmnaa
open Go Go.RowKit

theorem ret_note {fn : Func} {i : Nat} (hres : fn.results = #[ResultVar.cell i 64]) {tmps : Array Value} {w : World} {b : Nat} {t : TypeId} {a0 a1 : Value}
    (ht : tmps[i]?.getD undef = .pointer (some ⟨b, 0, none⟩)) (h : w.heap[b]? = some (.cells #[a0, a1] t (0, 0))) : (results fn tmps).run Try.prog w = .ok (.agg #[a0, a1]) w := by
  have c0 : w.cell? ⟨b, 0, none⟩ = some a0 := by simp [World.cell?, h]
  have c1 : w.cell? ⟨b, 1, none⟩ = some a1 := by simp [World.cell?, h]
  simp [results, hres, ht, go_sem, c0, c1]

set_option maxHeartbeats 1000000 in
theorem to_note (s t : ByteArray) (w : World) :
    Calls Try.prog 49 #[.agg #[.string s, .string t]] w fun e w' => e = .returned (.agg #[.string s, .string t]) ∧ Below w.heap.size w w' := by
  have HZ := Lib.hid (three_new w (.cells #[.string s, .string t] 69) (.cells #[.string s, .string t] 64) (.cells #[.string s, .string t] 64))
  go_enter Try.func49, Try.ntmps49
  go_wp2
  exact bodyPost_ret (ret_note Try.results49 rfl HZ.out.2.1) rfl ⟨rfl, HZ.out.2.2.2.1⟩


theorem info_met : (Try.prog.info? 27).map (fun i => (i.zero, i.size, i.bytes)) = some (some (.agg #[.string ⟨#[]⟩, .int .i64 0, .int .i64 0]), 3, 32) := by kernel_rfl

theorem run_make_met (n : Nat) (h : n ≤ 1048576) (w : World) :
    (Instr.makeSlice 45 (.int .i64 (n : Int)) (.int .i64 (n : Int))).run Try.prog w = .ok (.slice (some ⟨w.heap.size, 0, none⟩) n n) (w.alloc (.cells (madeCells #[.string ⟨#[]⟩, .int .i64 0, .int .i64 0] (n * 3)) 27)) := by
  obtain ⟨i, hi, hzz⟩ := Option.map_eq_some_iff.1 info_met
  simp only [Prod.mk.injEq] at hzz
  obtain ⟨hz, hs, hb⟩ := hzz
  have hr := run_make (P := Try.prog) w 45 27 i _ Try.underlying45 hi hz .i64 .i64 n n (by omega) (Int.le_refl _) (by rw [hb]; omega) (by omega)
  simp only [Int.toNat_natCast, hs] at hr
  exact hr

set_option maxHeartbeats 1000000 in
theorem to_mets {v : Value} {xs : List Met} {F : List Nat} (w : World) (hs : MetsAt w v xs F) (h1 : xs.length ≤ 1048576) :
    Calls Try.prog 36 #[v] w fun e w' => ∃ F', e = .returned (.slice (some ⟨w.heap.size, 0, none⟩) xs.length xs.length) ∧ MetsAt w' (.slice (some ⟨w.heap.size, 0, none⟩) xs.length xs.length) xs F' ∧ Fresh w w' F' ∧ (∀ b ∈ F', b = w.heap.size) ∧ Below w.heap.size w w' := by
  have HOK := Lib.hid (RowAt.every hs)
  obtain ⟨o, cap, b, off, rfl, hlc, hcm, ho, -, hcell, -⟩ := hs
  have HC := Lib.hid hcell
  have HO := Lib.hid ho
  clear hcell ho
  have hmk := run_make_met xs.length (by omega)
  go_enter Try.func36, Try.ntmps36
  go_wp2
  go_loopw [4] (fun i wr => ∃ k : Nat, k ≤ xs.length ∧ i = .int .i64 k ∧ Hid (LaidRow Met.row 3 27 w wr xs k)) (fun i _ => xs.length - (intOf i).toNat)
  case atStart =>
    obtain ⟨f, hf⟩ := rowIs_made w #[.string ⟨#[]⟩, .int .i64 0, .int .i64 0] (xs.length * 3) 27
    exact ⟨0, Nat.zero_le _, rfl, LaidRow.start hf ((Below.refl _ w).alloc (Nat.le_refl _) _)⟩
  case round =>
    obtain ⟨k, hk, rfl, hr⟩ := hrel
    by_cases hlt : k < xs.length
    · have hrr := hr.out
      obtain ⟨f, hrow, _, hb⟩ := hrr
      have c0 : wr.cell? ⟨b, off + k * 3, none⟩ = some (.string xs[k].name) := by
        have := (HC.out k hlt).2 0 (by decide)
        rw [hb.cell (by exact World.block_lt_of_cell? _ _ this)]; exact this
      have c1 : wr.cell? ⟨b, off + k * 3 + 1, none⟩ = some (.int .i64 xs[k].kind) := by
        have := (HC.out k hlt).2 1 (by decide)
        rw [hb.cell (by exact World.block_lt_of_cell? _ _ this)]; exact this
      have c2 : wr.cell? ⟨b, off + k * 3 + 2, none⟩ = some (.int .i64 xs[k].goal) := by
        have := (HC.out k hlt).2 2 (by decide)
        rw [hb.cell (by exact World.block_lt_of_cell? _ _ this)]; exact this
      have ho := HO.out (by omega)
      subst ho
      have HR := Lib.hid hrow
      have HS := Lib.hid fun (w1 : World) => LaidRow.step (enc := Met.row) (k := 3) (w1 := w1) (fun _ => rfl) hr.out hlt
      clear hrow hb
      generalize xs[k] = x at *
      have hB : Hid (w.heap.size < wr.heap.size) := HR.out.lt
      generalize w.heap.size = B at *
      go_wp2_with (first
        | (go_at_call 13; refine (to_metric _ _ _ _).mono ?_; rintro e w1 ⟨rfl, hb1⟩
           have hrow1 := HR.out.of_block (hb1.block _ hB.out)
           have r0 := hrow1.cell (i := k * 3) (by omega)
           have f0 := hrow1.frozen (k * 3)
           have r1 := hrow1.cell (i := k * 3 + 1) (by omega)
           have f1 := hrow1.frozen (k * 3 + 1)
           have r2 := hrow1.cell (i := k * 3 + 2) (by omega)
           have f2 := hrow1.frozen (k * 3 + 2)
           have HS1 := Lib.hid (HS.out w1 hb1)
           clear hrow1 hb1)
        | fail)
      exact ⟨⟨k + 1, by omega, by go_num, HS1.out⟩, by simp [intOf]; omega⟩
    · have e : k = xs.length := by omega
      subst e
      have HD := Lib.hid (hr.out.done (by unfold maxLen; omega) HOK.out)
      go_wp2
      go_ret
      obtain ⟨F', g⟩ := HD.out
      exact ⟨F', rfl, g⟩


theorem info_not : (Try.prog.info? 64).map (fun i => (i.zero, i.size, i.bytes)) = some (some (.agg #[.string ⟨#[]⟩, .string ⟨#[]⟩]), 2, 32) := by kernel_rfl

theorem run_make_not (n : Nat) (h : n ≤ 1048576) (w : World) :
    (Instr.makeSlice 46 (.int .i64 (n : Int)) (.int .i64 (n : Int))).run Try.prog w = .ok (.slice (some ⟨w.heap.size, 0, none⟩) n n) (w.alloc (.cells (madeCells #[.string ⟨#[]⟩, .string ⟨#[]⟩] (n * 2)) 64)) := by
  obtain ⟨i, hi, hzz⟩ := Option.map_eq_some_iff.1 info_not
  simp only [Prod.mk.injEq] at hzz
  obtain ⟨hz, hs, hb⟩ := hzz
  have hr := run_make (P := Try.prog) w 46 64 i _ Try.underlying46 hi hz .i64 .i64 n n (by omega) (Int.le_refl _) (by rw [hb]; omega) (by omega)
  simp only [Int.toNat_natCast, hs] at hr
  exact hr

set_option maxHeartbeats 1000000 in
theorem to_nots {v : Value} {xs : List Not} {F : List Nat} (w : World) (hs : NotsAt w v xs F) (h1 : xs.length ≤ 1048576) :
    Calls Try.prog 37 #[v] w fun e w' => ∃ F', e = .returned (.slice (some ⟨w.heap.size, 0, none⟩) xs.length xs.length) ∧ NotsAt w' (.slice (some ⟨w.heap.size, 0, none⟩) xs.length xs.length) xs F' ∧ Fresh w w' F' ∧ (∀ b ∈ F', b = w.heap.size) ∧ Below w.heap.size w w' := by
  have HOK := Lib.hid (RowAt.every hs)
  obtain ⟨o, cap, b, off, rfl, hlc, hcm, ho, -, hcell, -⟩ := hs
  have HC := Lib.hid hcell
  have HO := Lib.hid ho
  clear hcell ho
  have hmk := run_make_not xs.length (by omega)
  go_enter Try.func37, Try.ntmps37
  go_wp2
  go_loopw [4] (fun i wr => ∃ k : Nat, k ≤ xs.length ∧ i = .int .i64 k ∧ Hid (LaidRow Not.row 2 64 w wr xs k)) (fun i _ => xs.length - (intOf i).toNat)
  case atStart =>
    obtain ⟨f, hf⟩ := rowIs_made w #[.string ⟨#[]⟩, .string ⟨#[]⟩] (xs.length * 2) 64
    exact ⟨0, Nat.zero_le _, rfl, LaidRow.start hf ((Below.refl _ w).alloc (Nat.le_refl _) _)⟩
  case round =>
    obtain ⟨k, hk, rfl, hr⟩ := hrel
    by_cases hlt : k < xs.length
    · have hrr := hr.out
      obtain ⟨f, hrow, _, hb⟩ := hrr
      have c0 : wr.cell? ⟨b, off + k * 2, none⟩ = some (.string xs[k].key) := by
        have := (HC.out k hlt).2 0 (by decide)
        rw [hb.cell (by exact World.block_lt_of_cell? _ _ this)]; exact this
      have c1 : wr.cell? ⟨b, off + k * 2 + 1, none⟩ = some (.string xs[k].text) := by
        have := (HC.out k hlt).2 1 (by decide)
        rw [hb.cell (by exact World.block_lt_of_cell? _ _ this)]; exact this
      have ho := HO.out (by omega)
      subst ho
      have HR := Lib.hid hrow
      have HS := Lib.hid fun (w1 : World) => LaidRow.step (enc := Not.row) (k := 2) (w1 := w1) (fun _ => rfl) hr.out hlt
      clear hrow hb
      generalize xs[k] = x at *
      have hB : Hid (w.heap.size < wr.heap.size) := HR.out.lt
      generalize w.heap.size = B at *
      go_wp2_with (first
        | (go_at_call 49; refine (to_note _ _ _).mono ?_; rintro e w1 ⟨rfl, hb1⟩
           have hrow1 := HR.out.of_block (hb1.block _ hB.out)
           have r0 := hrow1.cell (i := k * 2) (by omega)
           have f0 := hrow1.frozen (k * 2)
           have r1 := hrow1.cell (i := k * 2 + 1) (by omega)
           have f1 := hrow1.frozen (k * 2 + 1)
           have HS1 := Lib.hid (HS.out w1 hb1)
           clear hrow1 hb1)
        | fail)
      exact ⟨⟨k + 1, by omega, by go_num, HS1.out⟩, by simp [intOf]; omega⟩
    · have e : k = xs.length := by omega
      subst e
      have HD := Lib.hid (hr.out.done (by unfold maxLen; omega) HOK.out)
      go_wp2
      go_ret
      obtain ⟨F', g⟩ := HD.out
      exact ⟨F', rfl, g⟩

end Go.Proofs.Ytjopjdidbkhmnaa
