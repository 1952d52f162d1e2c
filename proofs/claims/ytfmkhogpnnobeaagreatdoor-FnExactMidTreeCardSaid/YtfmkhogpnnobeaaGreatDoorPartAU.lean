/-
  What is proved: the laws' toMetricS, toNoteS and toOrder lay the same metrics, notes and orders into new memory.; the program's inOrder tells of at most four metrics, or notes, whether their names ascend.; the program's metricsOk and notesOk tell of a list whether it is as an order's must be.
-/
import Derived.Test.YtfmkhogpnnobeaaGreatDoorPartAT
import Derived.Test.YtfmkhogpnnobeaaGreatDoorPartAK
import Derived.Test.YtfmkhogpnnobeaaGreatDoorOrdOkN
/- the laws' toMetricS, toNoteS and toOrder lay the same metrics, notes and orders into new memory. -/
namespace Go.Proofs.YtfmkhogpnnobeaaGreatDoor
open Go Go.RowKit

theorem ret_note {fn : Func} {i : Nat} (hres : fn.results = #[ResultVar.cell i 98]) {tmps : Array Value} {w : World} {b : Nat} {t : TypeId} {a0 a1 : Value}
    (ht : tmps[i]?.getD undef = .pointer (some ⟨b, 0, none⟩)) (h : w.heap[b]? = some (.cells #[a0, a1] t (0, 0))) : (results fn tmps).run Tryz.prog w = .ok (.agg #[a0, a1]) w := by
  have c0 : w.cell? ⟨b, 0, none⟩ = some a0 := by simp [World.cell?, h]
  have c1 : w.cell? ⟨b, 1, none⟩ = some a1 := by simp [World.cell?, h]
  simp [results, hres, ht, go_sem, c0, c1]

set_option maxHeartbeats 1000000 in
theorem to_note (s t : ByteArray) (w : World) :
    Calls Tryz.prog 65 #[.agg #[.string s, .string t]] w fun e w' => e = .returned (.agg #[.string s, .string t]) ∧ Below w.heap.size w w' := by
  have HZ := Lib.hid (three_new w (.cells #[.string s, .string t] 83) (.cells #[.string s, .string t] 98) (.cells #[.string s, .string t] 98))
  go_enter Tryz.func65, Tryz.ntmps65
  go_wp2
  exact bodyPost_ret (ret_note Tryz.results65 rfl HZ.out.2.1) rfl ⟨rfl, HZ.out.2.2.2.1⟩


theorem info_met : (Tryz.prog.info? 93).map (fun i => (i.zero, i.size, i.bytes)) = some (some (.agg #[.string ⟨#[]⟩, .int .i64 0, .int .i64 0]), 3, 32) := by kernel_rfl

theorem run_make_met (n : Nat) (h : n ≤ 1048576) (w : World) :
    (Instr.makeSlice 34 (.int .i64 (n : Int)) (.int .i64 (n : Int))).run Tryz.prog w = .ok (.slice (some ⟨w.heap.size, 0, none⟩) n n) (w.alloc (.cells (madeCells #[.string ⟨#[]⟩, .int .i64 0, .int .i64 0] (n * 3)) 93)) := by
  obtain ⟨i, hi, hzz⟩ := Option.map_eq_some_iff.1 info_met
  simp only [Prod.mk.injEq] at hzz
  obtain ⟨hz, hs, hb⟩ := hzz
  have hr := run_make (P := Tryz.prog) w 34 93 i _ Tryz.underlying34 hi hz .i64 .i64 n n (by omega) (Int.le_refl _) (by rw [hb]; omega) (by omega)
  simp only [Int.toNat_natCast, hs] at hr
  exact hr

set_option maxHeartbeats 1000000 in
theorem to_mets {v : Value} {xs : List Met} {F : List Nat} (w : World) (hs : MetsAt w v xs F) (h1 : xs.length ≤ 1048576) :
    Calls Tryz.prog 26 #[v] w fun e w' => ∃ F', e = .returned (.slice (some ⟨w.heap.size, 0, none⟩) xs.length xs.length) ∧ MetsAt w' (.slice (some ⟨w.heap.size, 0, none⟩) xs.length xs.length) xs F' ∧ Fresh w w' F' ∧ (∀ b ∈ F', b = w.heap.size) ∧ Below w.heap.size w w' := by
  have HOK := Lib.hid (RowAt.every hs)
  obtain ⟨o, cap, b, off, rfl, hlc, hcm, ho, -, hcell, -⟩ := hs
  have HC := Lib.hid hcell
  have HO := Lib.hid ho
  clear hcell ho
  have hmk := run_make_met xs.length (by omega)
  go_enter Tryz.func26, Tryz.ntmps26
  go_wp2
  go_loopw [4] (fun i wr => ∃ k : Nat, k ≤ xs.length ∧ i = .int .i64 k ∧ Hid (LaidRow Met.row 3 93 w wr xs k)) (fun i _ => xs.length - (intOf i).toNat)
  case atStart =>
    obtain ⟨f, hf⟩ := rowIs_made w #[.string ⟨#[]⟩, .int .i64 0, .int .i64 0] (xs.length * 3) 93
    exact ⟨0, Nat.zero_le _, rfl, LaidRow.start hf ((Below.refl _ w).alloc (Nat.le_refl _) _)⟩
  case round =>
    obtain ⟨k, hk, rfl, hr⟩ := hrel
    by_cases hlt : k < xs.length
    · have hrr := hr.out
      obtain ⟨f, hrow, _, hb⟩ := hrr
      have c0 : wr.cell? ⟨b, off + k * 3, none⟩ = some (.string xs[k].name) := by
        have := (HC.out k hlt).2 0 (by decide)
        rw [hb.cell (by exact World.block_lt_of_cell? _ _ this)]; exact this
      have c1 : wr.cell? ⟨b, off + k * 3 + 1, none⟩ = some (.int .i64 xs[k].kind) := by
        have := (HC.out k hlt).2 1 (by decide)
        rw [hb.cell (by exact World.block_lt_of_cell? _ _ this)]; exact this
      have c2 : wr.cell? ⟨b, off + k * 3 + 2, none⟩ = some (.int .i64 xs[k].goal) := by
        have := (HC.out k hlt).2 2 (by decide)
        rw [hb.cell (by exact World.block_lt_of_cell? _ _ this)]; exact this
      have ho := HO.out (by omega)
      subst ho
      have HR := Lib.hid hrow
      have HS := Lib.hid fun (w1 : World) => LaidRow.step (enc := Met.row) (k := 3) (w1 := w1) (fun _ => rfl) hr.out hlt
      clear hrow hb
      generalize xs[k] = x at *
      have hB : Hid (w.heap.size < wr.heap.size) := HR.out.lt
      generalize w.heap.size = B at *
      go_wp2_with (first
        | (go_at_call 64; refine (to_metric _ _ _ _).mono ?_; rintro e w1 ⟨rfl, hb1⟩
           have hrow1 := HR.out.of_block (hb1.block _ hB.out)
           have r0 := hrow1.cell (i := k * 3) (by omega)
           have f0 := hrow1.frozen (k * 3)
           have r1 := hrow1.cell (i := k * 3 + 1) (by omega)
           have f1 := hrow1.frozen (k * 3 + 1)
           have r2 := hrow1.cell (i := k * 3 + 2) (by omega)
           have f2 := hrow1.frozen (k * 3 + 2)
           have HS1 := Lib.hid (HS.out w1 hb1)
           clear hrow1 hb1)
        | fail)
      exact ⟨⟨k + 1, by omega, by go_num, HS1.out⟩, by simp [intOf]; omega⟩
    · have e : k = xs.length := by omega
      subst e
      have HD := Lib.hid (hr.out.done (by unfold maxLen; omega) HOK.out)
      go_wp2
      go_ret
      obtain ⟨F', g⟩ := HD.out
      exact ⟨F', rfl, g⟩


theorem info_not : (Tryz.prog.info? 98).map (fun i => (i.zero, i.size, i.bytes)) = some (some (.agg #[.string ⟨#[]⟩, .string ⟨#[]⟩]), 2, 32) := by kernel_rfl

theorem run_make_not (n : Nat) (h : n ≤ 1048576) (w : World) :
    (Instr.makeSlice 36 (.int .i64 (n : Int)) (.int .i64 (n : Int))).run Tryz.prog w = .ok (.slice (some ⟨w.heap.size, 0, none⟩) n n) (w.alloc (.cells (madeCells #[.string ⟨#[]⟩, .string ⟨#[]⟩] (n * 2)) 98)) := by
  obtain ⟨i, hi, hzz⟩ := Option.map_eq_some_iff.1 info_not
  simp only [Prod.mk.injEq] at hzz
  obtain ⟨hz, hs, hb⟩ := hzz
  have hr := run_make (P := Tryz.prog) w 36 98 i _ Tryz.underlying36 hi hz .i64 .i64 n n (by omega) (Int.le_refl _) (by rw [hb]; omega) (by omega)
  simp only [Int.toNat_natCast, hs] at hr
  exact hr

set_option maxHeartbeats 1000000 in
theorem to_nots {v : Value} {xs : List Not} {F : List Nat} (w : World) (hs : NotsAt w v xs F) (h1 : xs.length ≤ 1048576) :
    Calls Tryz.prog 28 #[v] w fun e w' => ∃ F', e = .returned (.slice (some ⟨w.heap.size, 0, none⟩) xs.length xs.length) ∧ NotsAt w' (.slice (some ⟨w.heap.size, 0, none⟩) xs.length xs.length) xs F' ∧ Fresh w w' F' ∧ (∀ b ∈ F', b = w.heap.size) ∧ Below w.heap.size w w' := by
  have HOK := Lib.hid (RowAt.every hs)
  obtain ⟨o, cap, b, off, rfl, hlc, hcm, ho, -, hcell, -⟩ := hs
  have HC := Lib.hid hcell
  have HO := Lib.hid ho
  clear hcell ho
  have hmk := run_make_not xs.length (by omega)
  go_enter Tryz.func28, Tryz.ntmps28
  go_wp2
  go_loopw [4] (fun i wr => ∃ k : Nat, k ≤ xs.length ∧ i = .int .i64 k ∧ Hid (LaidRow Not.row 2 98 w wr xs k)) (fun i _ => xs.length - (intOf i).toNat)
  case atStart =>
    obtain ⟨f, hf⟩ := rowIs_made w #[.string ⟨#[]⟩, .string ⟨#[]⟩] (xs.length * 2) 98
    exact ⟨0, Nat.zero_le _, rfl, LaidRow.start hf ((Below.refl _ w).alloc (Nat.le_refl _) _)⟩
  case round =>
    obtain ⟨k, hk, rfl, hr⟩ := hrel
    by_cases hlt : k < xs.length
    · have hrr := hr.out
      obtain ⟨f, hrow, _, hb⟩ := hrr
      have c0 : wr.cell? ⟨b, off + k * 2, none⟩ = some (.string xs[k].key) := by
        have := (HC.out k hlt).2 0 (by decide)
        rw [hb.cell (by exact World.block_lt_of_cell? _ _ this)]; exact this
      have c1 : wr.cell? ⟨b, off + k * 2 + 1, none⟩ = some (.string xs[k].text) := by
        have := (HC.out k hlt).2 1 (by decide)
        rw [hb.cell (by exact World.block_lt_of_cell? _ _ this)]; exact this
      have ho := HO.out (by omega)
      subst ho
      have HR := Lib.hid hrow
      have HS := Lib.hid fun (w1 : World) => LaidRow.step (enc := Not.row) (k := 2) (w1 := w1) (fun _ => rfl) hr.out hlt
      clear hrow hb
      generalize xs[k] = x at *
      have hB : Hid (w.heap.size < wr.heap.size) := HR.out.lt
      generalize w.heap.size = B at *
      go_wp2_with (first
        | (go_at_call 65; refine (to_note _ _ _).mono ?_; rintro e w1 ⟨rfl, hb1⟩
           have hrow1 := HR.out.of_block (hb1.block _ hB.out)
           have r0 := hrow1.cell (i := k * 2) (by omega)
           have f0 := hrow1.frozen (k * 2)
           have r1 := hrow1.cell (i := k * 2 + 1) (by omega)
           have f1 := hrow1.frozen (k * 2 + 1)
           have HS1 := Lib.hid (HS.out w1 hb1)
           clear hrow1 hb1)
        | fail)
      exact ⟨⟨k + 1, by omega, by go_num, HS1.out⟩, by simp [intOf]; omega⟩
    · have e : k = xs.length := by omega
      subst e
      have HD := Lib.hid (hr.out.done (by unfold maxLen; omega) HOK.out)
      go_wp2
      go_ret
      obtain ⟨F', g⟩ := HD.out
      exact ⟨F', rfl, g⟩

end Go.Proofs.YtfmkhogpnnobeaaGreatDoor

/- the program's inOrder tells of at most four metrics, or notes, whether their names ascend. -/
namespace Go.Proofs.YtfmkhogpnnobeaaGreatDoor
open Go Go.RowKit Go.Sort

theorem add_plainO (b o j : Nat) : (⟨b, o, none⟩ : Addr).add j = ⟨b, o + j, none⟩ := by unfold Addr.add; split <;> simp_all

theorem ext_all {α : Type} (d : Array α) (n : Nat) (h : d.size = n) : d.extract 0 n = d := by subst h; exact Array.extract_size

section
variable {P : Program}

/-- 'copy' of n structs of k cells. -/
theorem copyK_run (w : World) (dT sT ty elem : TypeId) (k b o n dCap : Nat) (a : Addr) (sCap : Nat) (cs : List Value)
    (hu : P.underlying dT = some (.slice elem)) (hs : (P.info? elem).map (·.size) = some k) (hn : cs.length = n * k)
    (hsrc : ∀ j v, cs[j]? = some v → w.cell? (a.add j) = some v) (hc : ∀ j, j < cs.length → (w.cell? ⟨b, o + j, none⟩).isSome = true) (hf : ∀ j, j < cs.length → w.frozen? ⟨b, o + j, none⟩ = false) (h1 : ∀ v ∈ cs, v.oneCell' = true) :
    (Builtin.copy_ #[dT, sT] ty #[.slice (some ⟨b, o, none⟩) n dCap, .slice (some a) n sCap]).run P w = .ok (goInt n) (w.setCells b o cs) := by
  have hl := run_loadCells_list (P := P) w a cs hsrc
  have hst := run_storeCells_cells (P := P) b o cs 0 w (by simpa using hc) (by simpa using hf) h1
  have hmin : Nat.min n n = n := Nat.min_self n
  cases hq : P.info? elem with
  | none => simp [hq] at hs
  | some i =>
    have hi : i.size = k := by simpa [hq] using hs
    simp [Builtin.copy_, run_underlying hu, Builtin.lenOf, Builtin.firstCells, sizeOf, typeInfo, hq, hi, ← hn, hl, hst, hmin]

/-- 'copy' of nothing. -/
theorem copyK_none (w : World) (dT sT ty elem : TypeId) (d a : Option Addr) (dCap sCap : Nat) (hu : P.underlying dT = some (.slice elem)) (hs : ((P.info? elem).map (·.size)).isSome = true) :
    (Builtin.copy_ #[dT, sT] ty #[.slice d 0 dCap, .slice a 0 sCap]).run P w = .ok (goInt 0) w := by
  cases hq : P.info? elem with
  | none => simp [hq] at hs
  | some i =>
    have hl : ∀ (x : Addr), (loadCells x 0).run P w = .ok #[] w := fun x => by simpa using run_loadCells_list (P := P) w x [] (by simp)
    cases d <;> cases a <;> simp [Builtin.copy_, run_underlying hu, Builtin.lenOf, Builtin.firstCells, sizeOf, typeInfo, hq, storeCells, hl]
end

section
variable {α : Type} {enc : α → List Value} {k : Nat}

theorem row_of_rw {ok : α → Prop} {w wr : World} {blk : Nat} {es : List α} (hk : ∀ a, (enc a).length = k) (h0 : 0 < k) (h : Rw enc k w wr blk es) (hok : ∀ x ∈ es, ok x) (hl : es.length ≤ maxLen) : ∃ F, RowAt enc ok k wr (.slice (some ⟨blk, 0, none⟩) es.length es.length) es F := by
  refine ⟨_, _, _, blk, 0, rfl, Nat.le_refl _, hl, fun _ => rfl, rfl, fun i hi => ⟨hok _ (List.getElem_mem hi), fun j hj => by rw [Nat.zero_add]; exact h.cell i hi j hj⟩, fun i hi => ?_⟩
  have hi' : i / k < es.length := Nat.div_lt_of_lt_mul (by rw [Nat.mul_comm]; exact hi)
  have := h.cell (i / k) hi' (i % k) (Nat.mod_lt _ h0)
  rw [show i / k * k + i % k = i by rw [Nat.mul_comm]; exact Nat.div_add_mod i k] at this
  rw [Nat.zero_add, this, List.getElem?_eq_getElem (by rw [hk]; exact Nat.mod_lt _ h0)]
  rfl

theorem side_asc {nm : α → ByteArray} {xs : List α} (h : Side nm xs) : ¬ Asc nm xs := fun ha => by
  obtain ⟨i, hi, h0, he⟩ := h
  have := ha i hi h0
  rw [he, less_irrefl] at this
  cases this

end

section
variable {α : Type} [Inhabited α] {enc : α → List Value} {k : Nat}

theorem grw_sort (w : World) (blk off m : Nat) (d : Array α) (os : Array Obj) : w.grownBy (sortWorldK enc k w blk off m d os) (some blk) := by
  refine ⟨rfl, rfl, rfl, size_sortWorldK_c enc k w blk off m d os, fun b hb hr => ?_⟩
  have hne : ¬ blk = b := fun e => hr (by rw [e])
  show ((putRowK enc k (Sort.ahead w m) blk off d).heap ++ os)[b]? = _
  rw [Array.getElem?_append_left (by rw [size_putRowK]; exact hb)]
  simp [putRowK, putRow, mapBlock, Sort.ahead, Array.getElem?_modify, hne]

theorem free_sort (w : World) (blk off m : Nat) (d : Array α) (os : Array Obj) (hb : blk < w.heap.size) (o : Nat) : (sortWorldK enc k w blk off m d os).frozen? ⟨blk, o, none⟩ = w.frozen? ⟨blk, o, none⟩ := by
  have e : (sortWorldK enc k w blk off m d os).heap[blk]? = (putRowK enc k (Sort.ahead w m) blk off d).heap[blk]? := by
    show ((putRowK enc k (Sort.ahead w m) blk off d).heap ++ os)[blk]? = _
    rw [Array.getElem?_append_left (by rw [size_putRowK]; exact hb)]
  rw [World.frozen?_of_block (w := putRowK enc k (Sort.ahead w m) blk off d) e]
  show (putRow id _ _ _ _).frozen? _ = _
  rw [frozen?_putRow]
  rfl

theorem rw_of_holds {w wr : World} {blk : Nat} {d : Array α} (hk : ∀ a, (enc a).length = k) (hH : HoldsK enc k wr blk 0 d) (hf : ∀ o, wr.frozen? ⟨blk, o, none⟩ = false) (hg : w.grownBy wr (some blk)) : Rw enc k w wr blk d.toList := by
  refine ⟨fun i hi j hj => ?_, hf, hg⟩
  have hi' : i < d.size := by simpa using hi
  have := (hH.cell hi' hj).1
  rw [Nat.zero_add, getElem!_pos d i hi', getElem!_pos (enc d[i]) j (by rw [hk]; exact hj)] at this
  rw [this]
  simp only [Array.getElem_toList]
  rw [List.getElem?_eq_getElem (by rw [hk]; exact hj)]

/-- What is laid in by copy. -/
theorem holds_copy {wr : World} {b : Nat} {xs : List α} (hc : ∀ j, j < xs.length * k → (wr.cell? ⟨b, 0 + j, none⟩).isSome = true) (hf : ∀ o, wr.frozen? ⟨b, o, none⟩ = false) :
    HoldsK enc k (wr.setCells b 0 (flatK enc k xs.toArray).toList) b 0 xs.toArray := by
  intro j hj
  rw [size_flatK] at hj
  simp only [List.size_toArray] at hj
  have hj' : j < (flatK enc k xs.toArray).toList.length := by simp; exact hj
  refine ⟨?_, by rw [World.frozen?_setCells]; exact hf _⟩
  have := World.cell?_setCells_in b (flatK enc k xs.toArray).toList 0 wr (fun j hj => hc j (by simpa using hj)) j hj'
  rw [this, getElem!_pos _ j (by simpa using hj)]
  rfl
end


theorem size_met : (Tryz.prog.info? 93).map (·.size) = some 3 := by kernel_rfl

/-- What is copied of a list. -/
theorem flat_met {w w1 : World} {v : Value} {xs : List Met} {F : List Nat} (hs : MetsAt w v xs F) (hb : Below w.heap.size w w1) (hx : 0 < xs.length) : ∃ a c, v = .slice (some a) xs.length c ∧ ∀ j u, (flatK Met.row 3 xs.toArray).toList[j]? = some u → w1.cell? (a.add j) = some u := by
  obtain ⟨o, cap, b, off, rfl, hlc, hcm, ho, -, hcell, -⟩ := hs
  have ho' := ho (by omega)
  subst ho'
  refine ⟨_, _, rfl, fun j u hu => ?_⟩
  obtain ⟨hj, rfl⟩ := List.getElem?_eq_some_iff.1 hu
  have hj' : j < xs.length * 3 := by simpa using hj
  have hd : j / 3 < xs.length := by omega
  have hc := (hcell (j / 3) hd).2 (j % 3) (by omega)
  rw [Nat.add_assoc, show j / 3 * 3 + j % 3 = j by omega] at hc
  rw [add_plainO, hb.cell (by exact World.block_lt_of_cell? (u := (Met.row xs[j / 3])[j % 3]'(by show _ < 3; omega)) _ _ (by rw [hc, List.getElem?_eq_getElem (by show _ < 3; omega)])), hc]
  have e := get_flatK Met.row 3 xs.toArray j (by simpa using hj')
  rw [getElem!_pos _ j (by simpa using hj'), get!_toArray xs hd] at e
  rw [List.getElem?_eq_getElem (by show _ < 3; omega)]
  have e2 : (flatK Met.row 3 xs.toArray).toList[j] = (flatK Met.row 3 xs.toArray)[j]'(by simpa using hj') := rfl
  rw [e2, e, getElem!_pos _ _ (by show _ < 3; omega)]

theorem copied_met {w w0 : World} {o1 : Option Addr} {c1 b : Nat} {xs : List Met} {F : List Nat} {f : Nat → Value} (hs : MetsAt w (.slice o1 xs.length c1) xs F) (hb : Below w.heap.size w w0) (hrow : w0.rowIs b 93 (xs.length * 3) f) :
    ∃ wc, (∀ ty, (Builtin.copy_ #[34, 34] ty #[.slice (some ⟨b, 0, none⟩) xs.length xs.length, .slice o1 xs.length c1]).run Tryz.prog w0 = .ok (goInt xs.length) wc) ∧ HoldsK Met.row 3 wc b 0 xs.toArray ∧ (∀ o, wc.frozen? ⟨b, o, none⟩ = false) ∧ w0.grownBy wc (some b) := by
  have hfree : ∀ o, w0.frozen? ⟨b, o, none⟩ = false := fun o => hrow.frozen o
  have hsome : ∀ j, j < xs.length * 3 → (w0.cell? ⟨b, 0 + j, none⟩).isSome = true := fun j hj => by rw [Nat.zero_add, hrow.cell hj]; rfl
  rcases Nat.eq_zero_or_pos xs.length with h0 | h0
  · have e : xs = [] := List.eq_nil_of_length_eq_zero h0
    subst e
    exact ⟨w0, fun ty => copyK_none w0 _ _ ty 93 _ _ _ _ Tryz.underlying34 (by rw [size_met]; rfl), fun j hj => absurd hj (by simp), hfree, ⟨rfl, rfl, rfl, Nat.le_refl _, fun _ _ _ => rfl⟩⟩
  · obtain ⟨a, c, e, hsrc⟩ := flat_met hs hb h0
    injection e with e1 e2 e3
    subst e1 e3
    refine ⟨w0.setCells b 0 (flatK Met.row 3 xs.toArray).toList, fun ty => copyK_run w0 _ _ ty 93 3 b 0 xs.length _ a _ _ Tryz.underlying34 size_met (by simp) hsrc (fun j hj => hsome j (by simpa using hj)) (fun j _ => hfree _) (fun u hu => ?_), holds_copy hsome hfree, fun o => by rw [World.frozen?_setCells]; exact hfree o, grw_setCells _ _ _ _⟩
    obtain ⟨j, hj, rfl⟩ := List.getElem_of_mem hu
    have hj' : j < xs.length * 3 := by simpa using hj
    have e := get_flatK Met.row 3 xs.toArray j (by simpa using hj')
    rw [getElem!_pos _ j (by simpa using hj')] at e
    have e2 : (flatK Met.row 3 xs.toArray).toList[j] = (flatK Met.row 3 xs.toArray)[j]'(by simpa using hj') := rfl
    rw [e2, e, getElem!_pos _ _ (by show _ < 3; omega)]
    generalize hv0 : (Met.row (xs.toArray)[j / 3]!)[j % 3]'(by show _ < 3; omega) = v
    have hv : v ∈ Met.row (xs.toArray)[j / 3]! := by rw [← hv0]; exact List.getElem_mem _
    clear hv0
    simp [Met.row] at hv; rcases hv with rfl | rfl | rfl <;> rfl

theorem sorted_met {B blk : Nat} {xs : List Met} (w : World) (hB : w.cell? ⟨B, 0, none⟩ = some (.func (.func 100) #[] #[])) (hne : B ≠ blk) (hH : HoldsK Met.row 3 w blk 0 xs.toArray) (hf : ∀ o, w.frozen? ⟨blk, o, none⟩ = false) (hblk : blk < w.heap.size) (h4 : xs.length ≤ 4) :
    Calls Tryz.prog 152 #[.slice (some ⟨blk, 0, none⟩) xs.length xs.length, .func (.func 153) #[] #[.pointer (some ⟨B, 0, none⟩)]] w fun e ws =>
      e = .returned (.tuple #[]) ∧ ∃ ys : List Met, ys.length = xs.length ∧ Rw Met.row 3 ws ws blk ys ∧ w.grownBy ws (some blk) ∧ (∀ y ∈ ys, y ∈ xs) ∧ (Asc Met.name xs → ys = xs) ∧ (¬ Side Met.name ys → Asc Met.name ys) := by
  have h := sort_met (cap := xs.length) xs.toArray w hB hne hH hblk (by simpa using h4)
  simp only [List.size_toArray] at h
  refine h.mono ?_
  rintro e ws ⟨rfl, n, os, rfl⟩
  have hh := insertionSort_holds (swoN Met.name) xs.toArray 0 xs.length (Nat.zero_le _) (by simp)
  have hsz : (insertionSort (ltOf (cmpN Met.name)) xs.toArray 0 xs.length).size = xs.toArray.size := hh.1.1
  have hsz' : (insertionSort (ltOf (cmpN Met.name)) xs.toArray 0 xs.length).size = xs.length := by rw [hsz]; simp
  refine ⟨rfl, (insertionSort (ltOf (cmpN Met.name)) xs.toArray 0 xs.length).toList, by rw [Array.length_toList, hsz'], rw_of_holds (fun _ => rfl) (holdsK_sortWorldK_c Met.row 3 w blk 0 xs.toArray _ n os hH hblk hsz) (fun o => by rw [free_sort _ _ _ _ _ _ hblk]; exact hf o) ⟨rfl, rfl, rfl, Nat.le_refl _, fun _ _ _ => rfl⟩, grw_sort _ _ _ _ _ _, fun y hy => ?_, fun ha => by rw [ins_asc Met.name ha], fun hn => ?_⟩
  · have hp := hh.1.2.2
    rw [show (insertionSort (ltOf (cmpN Met.name)) xs.toArray 0 xs.length).extract 0 xs.length = insertionSort (ltOf (cmpN Met.name)) xs.toArray 0 xs.length from ext_all _ _ hsz'] at hp
    have := hp.mem_iff.1 hy
    simpa using this
  · refine asc_of_sorted Met.name (by rw [hsz']; exact hh.2) fun i hi h0 he => hn ⟨i, by simpa using hi, h0, by simpa using he⟩

set_option maxRecDepth 100000 in
set_option maxHeartbeats 8000000 in
theorem ordered_met {v : Value} {xs : List Met} {FF : List Nat} (w : World) (hs : MetsAt w v xs FF) (h4 : xs.length ≤ 4) :
    Calls Tryz.prog 129 #[v, .func (.func 100) #[] #[]] w fun e w' => ∃ v', e = .returned v' ∧ Below w.heap.size w w' ∧
      ((∃ o m c, v' = .slice o m c ∧ ¬ m = xs.length ∧ ¬ Asc Met.name xs) ∨ ∃ ys F', MetsAt w' v' ys F' ∧ (xs = ys ↔ Asc Met.name xs)) := by
  have HOK := Lib.hid (RowAt.every hs)
  obtain ⟨o1, c1, rfl, hlm⟩ := RowAt.slice hs
  have HLm := Lib.hid hlm
  have hmk := run_make_met xs.length (by omega)
  have HZ := Lib.hid ((Bx.start w #[.func (.func 100) #[] #[]] 111).alloc (.cells (madeCells #[.string ⟨#[]⟩, .int .i64 0, .int .i64 0] (xs.length * 3)) 93))
  obtain ⟨f, hrow⟩ := rowIs_made (w.alloc (.cells #[.func (.func 100) #[] #[]] 111)) #[.string ⟨#[]⟩, .int .i64 0, .int .i64 0] (xs.length * 3) 93
  simp only [World.size_alloc] at hrow
  obtain ⟨wc, hcp, hH, hf, hg⟩ := copied_met hs HZ.out.below hrow
  have hlt0 := hrow.lt
  have hltc : w.heap.size + 1 < wc.heap.size := Nat.lt_of_lt_of_le hlt0 hg.size
  have hBc : wc.cell? ⟨w.heap.size, 0, none⟩ = some (.func (.func 100) #[] #[]) := by
    rw [World.cell?_of_block (w := (w.alloc (.cells #[.func (.func 100) #[] #[]] 111)).alloc (.cells (madeCells #[.string ⟨#[]⟩, .int .i64 0, .int .i64 0] (xs.length * 3)) 93)) (hg.block w.heap.size (by simp; omega) (by simp))]
    exact HZ.out.cell 0
  have HBw := Lib.hid (HZ.out.below.grown hg (by simp; omega) (fun k hk => by injection hk with hk; omega))
  have HSo := Lib.hid (sorted_met wc hBc (by omega) hH hf hltc h4)
  have HCo := Lib.hid fun (ws : World) (ys : List Met) (hl : ys.length = xs.length) (hgs : wc.grownBy ws (some (w.heap.size + 1))) (hR : Rw Met.row 3 ws ws (w.heap.size + 1) ys) => compact_met (B := w.heap.size) ys ws (by
      rw [World.cell?_of_block (w := wc) (hgs.block w.heap.size (by omega) (by simp))]; exact hBc) (by omega) hR (Nat.lt_of_lt_of_le hltc hgs.size) (by omega)
  have HNe := Lib.hid hltc
  clear hs hlm hrow hH hf hg hlt0 hltc hBc HZ
  go_enter Tryz.func129, Tryz.ntmps129
  go_wp2_with (first
    | (go_at_call 152; refine HSo.out.mono ?_; rintro e ws ⟨rfl, ys, hl, hR, hgs, hmem, ha1, ha2⟩
       have HCo2 := HCo.out ws ys hl hgs hR
       rw [hl] at HCo2
       replace HCo2 := Lib.hid HCo2
       have HAll := Lib.hid (And.intro hl (And.intro hgs (And.intro hmem (And.intro ha1 ha2))))
       clear hl hR hgs hmem ha1 ha2)
    | (go_at_call 155; refine HCo2.out.mono ?_; rintro e w2 ⟨m, rfl, hg2, hcase⟩)
    | fail)
  go_ret
  obtain ⟨hl, hgs, hmem, ha1, ha2⟩ := HAll.out
  have hltc := HNe.out
  refine ⟨_, rfl, ((HBw.out.grown hgs (by omega) (fun k hk => by injection hk with hk; omega)).grown hg2 (Nat.le_trans (by omega) hgs.size) (fun k hk => by injection hk with hk; omega)), ?_⟩
  rcases hcase with ⟨rfl, hns, hR⟩ | ⟨hlt, hsd⟩
  · right
    obtain ⟨F', hrow⟩ := row_of_rw (enc := Met.row) (k := 3) (ok := Met.ok) (fun _ => rfl) (by decide) hR (fun x hx => HOK.out x (hmem x hx)) (by rw [hl]; exact HLm.out)
    rw [hl] at hrow
    exact ⟨ys, F', hrow, fun e => by rw [e]; exact ha2 hns, fun h => (ha1 h).symm⟩
  · left
    exact ⟨_, m, _, rfl, by omega, fun h => side_asc hsd (by rw [ha1 h]; exact h)⟩

/-- Two lists of which one is longer are not the same, whatever they hold. -/
theorem equal_len_met (o1 o2 : Option Addr) (n1 c1 n2 c2 : Nat) (hne : ¬ n2 = n1) (w : World) : Calls Tryz.prog 128 #[.slice o1 n1 c1, .slice o2 n2 c2] w fun e w' => e = .returned (.bool false) ∧ w' = w := by
  have h : ¬ ((n1 : Int) = n2) := by omega
  clear hne
  go_enter Tryz.func128, Tryz.ntmps128
  go_wp2
  go_ret
  exact ⟨rfl, rfl⟩

set_option maxHeartbeats 2000000 in
theorem inOrder_met {v : Value} {xs : List Met} {FF : List Nat} (w : World) (hs : MetsAt w v xs FF) (h4 : xs.length ≤ 4) :
    Calls Tryz.prog 99 #[v, .func (.func 100) #[] #[]] w fun e w' => e = .returned (.bool (dec (Asc Met.name xs))) ∧ Below w.heap.size w w' := by
  have HO := Lib.hid (ordered_met w hs h4)
  have HS := Lib.hid hs
  obtain ⟨o1, c1, rfl, -⟩ := RowAt.slice hs
  clear hs
  go_enter Tryz.func99, Tryz.ntmps99
  go_wp2_with (first
    | (go_at_call 129; refine HO.out.mono ?_; rintro e w1 ⟨v', rfl, hb, hcase⟩)
    | fail)
  rcases hcase with ⟨o, m, c, rfl, hne, hna⟩ | ⟨ys, F', hrow, hiff⟩
  · have HN := Lib.hid (dec_no hna)
    have HB := Lib.hid hb
    refine (equal_len_met _ _ _ _ _ _ hne _).mono ?_
    rintro e w2 ⟨rfl, rfl⟩
    clear hb hna hne
    go_wp2
    go_ret
    exact ⟨by rw [HN.out]; rfl, HB.out⟩
  · refine (equal_met _ (RowAt.stay HS.out (by decide) hb (Nat.le_refl _)) hrow).mono ?_
    rintro e w2 ⟨rfl, q, rfl⟩
    have HN : Hid (sameO xs ys = dec (Asc Met.name xs)) := by
      show _ = _
      by_cases h : xs = ys
      · rw [sameO_yes h, dec_yes (hiff.1 h)]
      · rw [sameO_no h, dec_no (fun h' => h (hiff.2 h'))]
    have HB := Lib.hid hb
    clear hb hiff hrow
    generalize sameO xs ys = r at *
    go_wp2
    go_ret
    exact ⟨by rw [← HN.out]; rfl, below_drewO HB.out q⟩


theorem size_not : (Tryz.prog.info? 98).map (·.size) = some 2 := by kernel_rfl

/-- What is copied of a list. -/
theorem flat_not {w w1 : World} {v : Value} {xs : List Not} {F : List Nat} (hs : NotsAt w v xs F) (hb : Below w.heap.size w w1) (hx : 0 < xs.length) : ∃ a c, v = .slice (some a) xs.length c ∧ ∀ j u, (flatK Not.row 2 xs.toArray).toList[j]? = some u → w1.cell? (a.add j) = some u := by
  obtain ⟨o, cap, b, off, rfl, hlc, hcm, ho, -, hcell, -⟩ := hs
  have ho' := ho (by omega)
  subst ho'
  refine ⟨_, _, rfl, fun j u hu => ?_⟩
  obtain ⟨hj, rfl⟩ := List.getElem?_eq_some_iff.1 hu
  have hj' : j < xs.length * 2 := by simpa using hj
  have hd : j / 2 < xs.length := by omega
  have hc := (hcell (j / 2) hd).2 (j % 2) (by omega)
  rw [Nat.add_assoc, show j / 2 * 2 + j % 2 = j by omega] at hc
  rw [add_plainO, hb.cell (by exact World.block_lt_of_cell? (u := (Not.row xs[j / 2])[j % 2]'(by show _ < 2; omega)) _ _ (by rw [hc, List.getElem?_eq_getElem (by show _ < 2; omega)])), hc]
  have e := get_flatK Not.row 2 xs.toArray j (by simpa using hj')
  rw [getElem!_pos _ j (by simpa using hj'), get!_toArray xs hd] at e
  rw [List.getElem?_eq_getElem (by show _ < 2; omega)]
  have e2 : (flatK Not.row 2 xs.toArray).toList[j] = (flatK Not.row 2 xs.toArray)[j]'(by simpa using hj') := rfl
  rw [e2, e, getElem!_pos _ _ (by show _ < 2; omega)]

theorem copied_not {w w0 : World} {o1 : Option Addr} {c1 b : Nat} {xs : List Not} {F : List Nat} {f : Nat → Value} (hs : NotsAt w (.slice o1 xs.length c1) xs F) (hb : Below w.heap.size w w0) (hrow : w0.rowIs b 98 (xs.length * 2) f) :
    ∃ wc, (∀ ty, (Builtin.copy_ #[36, 36] ty #[.slice (some ⟨b, 0, none⟩) xs.length xs.length, .slice o1 xs.length c1]).run Tryz.prog w0 = .ok (goInt xs.length) wc) ∧ HoldsK Not.row 2 wc b 0 xs.toArray ∧ (∀ o, wc.frozen? ⟨b, o, none⟩ = false) ∧ w0.grownBy wc (some b) := by
  have hfree : ∀ o, w0.frozen? ⟨b, o, none⟩ = false := fun o => hrow.frozen o
  have hsome : ∀ j, j < xs.length * 2 → (w0.cell? ⟨b, 0 + j, none⟩).isSome = true := fun j hj => by rw [Nat.zero_add, hrow.cell hj]; rfl
  rcases Nat.eq_zero_or_pos xs.length with h0 | h0
  · have e : xs = [] := List.eq_nil_of_length_eq_zero h0
    subst e
    exact ⟨w0, fun ty => copyK_none w0 _ _ ty 98 _ _ _ _ Tryz.underlying36 (by rw [size_not]; rfl), fun j hj => absurd hj (by simp), hfree, ⟨rfl, rfl, rfl, Nat.le_refl _, fun _ _ _ => rfl⟩⟩
  · obtain ⟨a, c, e, hsrc⟩ := flat_not hs hb h0
    injection e with e1 e2 e3
    subst e1 e3
    refine ⟨w0.setCells b 0 (flatK Not.row 2 xs.toArray).toList, fun ty => copyK_run w0 _ _ ty 98 2 b 0 xs.length _ a _ _ Tryz.underlying36 size_not (by simp) hsrc (fun j hj => hsome j (by simpa using hj)) (fun j _ => hfree _) (fun u hu => ?_), holds_copy hsome hfree, fun o => by rw [World.frozen?_setCells]; exact hfree o, grw_setCells _ _ _ _⟩
    obtain ⟨j, hj, rfl⟩ := List.getElem_of_mem hu
    have hj' : j < xs.length * 2 := by simpa using hj
    have e := get_flatK Not.row 2 xs.toArray j (by simpa using hj')
    rw [getElem!_pos _ j (by simpa using hj')] at e
    have e2 : (flatK Not.row 2 xs.toArray).toList[j] = (flatK Not.row 2 xs.toArray)[j]'(by simpa using hj') := rfl
    rw [e2, e, getElem!_pos _ _ (by show _ < 2; omega)]
    generalize hv0 : (Not.row (xs.toArray)[j / 2]!)[j % 2]'(by show _ < 2; omega) = v
    have hv : v ∈ Not.row (xs.toArray)[j / 2]! := by rw [← hv0]; exact List.getElem_mem _
    clear hv0
    simp [Not.row] at hv; rcases hv with rfl | rfl <;> rfl

theorem sorted_not {B blk : Nat} {xs : List Not} (w : World) (hB : w.cell? ⟨B, 0, none⟩ = some (.func (.func 103) #[] #[])) (hne : B ≠ blk) (hH : HoldsK Not.row 2 w blk 0 xs.toArray) (hf : ∀ o, w.frozen? ⟨blk, o, none⟩ = false) (hblk : blk < w.heap.size) (h4 : xs.length ≤ 4) :
    Calls Tryz.prog 160 #[.slice (some ⟨blk, 0, none⟩) xs.length xs.length, .func (.func 161) #[] #[.pointer (some ⟨B, 0, none⟩)]] w fun e ws =>
      e = .returned (.tuple #[]) ∧ ∃ ys : List Not, ys.length = xs.length ∧ Rw Not.row 2 ws ws blk ys ∧ w.grownBy ws (some blk) ∧ (∀ y ∈ ys, y ∈ xs) ∧ (Asc Not.key xs → ys = xs) ∧ (¬ Side Not.key ys → Asc Not.key ys) := by
  have h := sort_not (cap := xs.length) xs.toArray w hB hne hH hblk (by simpa using h4)
  simp only [List.size_toArray] at h
  refine h.mono ?_
  rintro e ws ⟨rfl, n, os, rfl⟩
  have hh := insertionSort_holds (swoN Not.key) xs.toArray 0 xs.length (Nat.zero_le _) (by simp)
  have hsz : (insertionSort (ltOf (cmpN Not.key)) xs.toArray 0 xs.length).size = xs.toArray.size := hh.1.1
  have hsz' : (insertionSort (ltOf (cmpN Not.key)) xs.toArray 0 xs.length).size = xs.length := by rw [hsz]; simp
  refine ⟨rfl, (insertionSort (ltOf (cmpN Not.key)) xs.toArray 0 xs.length).toList, by rw [Array.length_toList, hsz'], rw_of_holds (fun _ => rfl) (holdsK_sortWorldK_c Not.row 2 w blk 0 xs.toArray _ n os hH hblk hsz) (fun o => by rw [free_sort _ _ _ _ _ _ hblk]; exact hf o) ⟨rfl, rfl, rfl, Nat.le_refl _, fun _ _ _ => rfl⟩, grw_sort _ _ _ _ _ _, fun y hy => ?_, fun ha => by rw [ins_asc Not.key ha], fun hn => ?_⟩
  · have hp := hh.1.2.2
    rw [show (insertionSort (ltOf (cmpN Not.key)) xs.toArray 0 xs.length).extract 0 xs.length = insertionSort (ltOf (cmpN Not.key)) xs.toArray 0 xs.length from ext_all _ _ hsz'] at hp
    have := hp.mem_iff.1 hy
    simpa using this
  · refine asc_of_sorted Not.key (by rw [hsz']; exact hh.2) fun i hi h0 he => hn ⟨i, by simpa using hi, h0, by simpa using he⟩

set_option maxRecDepth 100000 in
set_option maxHeartbeats 8000000 in
theorem ordered_not {v : Value} {xs : List Not} {FF : List Nat} (w : World) (hs : NotsAt w v xs FF) (h4 : xs.length ≤ 4) :
    Calls Tryz.prog 134 #[v, .func (.func 103) #[] #[]] w fun e w' => ∃ v', e = .returned v' ∧ Below w.heap.size w w' ∧
      ((∃ o m c, v' = .slice o m c ∧ ¬ m = xs.length ∧ ¬ Asc Not.key xs) ∨ ∃ ys F', NotsAt w' v' ys F' ∧ (xs = ys ↔ Asc Not.key xs)) := by
  have HOK := Lib.hid (RowAt.every hs)
  obtain ⟨o1, c1, rfl, hlm⟩ := RowAt.slice hs
  have HLm := Lib.hid hlm
  have hmk := run_make_not xs.length (by omega)
  have HZ := Lib.hid ((Bx.start w #[.func (.func 103) #[] #[]] 114).alloc (.cells (madeCells #[.string ⟨#[]⟩, .string ⟨#[]⟩] (xs.length * 2)) 98))
  obtain ⟨f, hrow⟩ := rowIs_made (w.alloc (.cells #[.func (.func 103) #[] #[]] 114)) #[.string ⟨#[]⟩, .string ⟨#[]⟩] (xs.length * 2) 98
  simp only [World.size_alloc] at hrow
  obtain ⟨wc, hcp, hH, hf, hg⟩ := copied_not hs HZ.out.below hrow
  have hlt0 := hrow.lt
  have hltc : w.heap.size + 1 < wc.heap.size := Nat.lt_of_lt_of_le hlt0 hg.size
  have hBc : wc.cell? ⟨w.heap.size, 0, none⟩ = some (.func (.func 103) #[] #[]) := by
    rw [World.cell?_of_block (w := (w.alloc (.cells #[.func (.func 103) #[] #[]] 114)).alloc (.cells (madeCells #[.string ⟨#[]⟩, .string ⟨#[]⟩] (xs.length * 2)) 98)) (hg.block w.heap.size (by simp; omega) (by simp))]
    exact HZ.out.cell 0
  have HBw := Lib.hid (HZ.out.below.grown hg (by simp; omega) (fun k hk => by injection hk with hk; omega))
  have HSo := Lib.hid (sorted_not wc hBc (by omega) hH hf hltc h4)
  have HCo := Lib.hid fun (ws : World) (ys : List Not) (hl : ys.length = xs.length) (hgs : wc.grownBy ws (some (w.heap.size + 1))) (hR : Rw Not.row 2 ws ws (w.heap.size + 1) ys) => compact_not (B := w.heap.size) ys ws (by
      rw [World.cell?_of_block (w := wc) (hgs.block w.heap.size (by omega) (by simp))]; exact hBc) (by omega) hR (Nat.lt_of_lt_of_le hltc hgs.size) (by omega)
  have HNe := Lib.hid hltc
  clear hs hlm hrow hH hf hg hlt0 hltc hBc HZ
  go_enter Tryz.func134, Tryz.ntmps134
  go_wp2_with (first
    | (go_at_call 160; refine HSo.out.mono ?_; rintro e ws ⟨rfl, ys, hl, hR, hgs, hmem, ha1, ha2⟩
       have HCo2 := HCo.out ws ys hl hgs hR
       rw [hl] at HCo2
       replace HCo2 := Lib.hid HCo2
       have HAll := Lib.hid (And.intro hl (And.intro hgs (And.intro hmem (And.intro ha1 ha2))))
       clear hl hR hgs hmem ha1 ha2)
    | (go_at_call 162; refine HCo2.out.mono ?_; rintro e w2 ⟨m, rfl, hg2, hcase⟩)
    | fail)
  go_ret
  obtain ⟨hl, hgs, hmem, ha1, ha2⟩ := HAll.out
  have hltc := HNe.out
  refine ⟨_, rfl, ((HBw.out.grown hgs (by omega) (fun k hk => by injection hk with hk; omega)).grown hg2 (Nat.le_trans (by omega) hgs.size) (fun k hk => by injection hk with hk; omega)), ?_⟩
  rcases hcase with ⟨rfl, hns, hR⟩ | ⟨hlt, hsd⟩
  · right
    obtain ⟨F', hrow⟩ := row_of_rw (enc := Not.row) (k := 2) (ok := Not.ok) (fun _ => rfl) (by decide) hR (fun x hx => HOK.out x (hmem x hx)) (by rw [hl]; exact HLm.out)
    rw [hl] at hrow
    exact ⟨ys, F', hrow, fun e => by rw [e]; exact ha2 hns, fun h => (ha1 h).symm⟩
  · left
    exact ⟨_, m, _, rfl, by omega, fun h => side_asc hsd (by rw [ha1 h]; exact h)⟩

/-- Two lists of which one is longer are not the same, whatever they hold. -/
theorem equal_len_not (o1 o2 : Option Addr) (n1 c1 n2 c2 : Nat) (hne : ¬ n2 = n1) (w : World) : Calls Tryz.prog 133 #[.slice o1 n1 c1, .slice o2 n2 c2] w fun e w' => e = .returned (.bool false) ∧ w' = w := by
  have h : ¬ ((n1 : Int) = n2) := by omega
  clear hne
  go_enter Tryz.func133, Tryz.ntmps133
  go_wp2
  go_ret
  exact ⟨rfl, rfl⟩

set_option maxHeartbeats 2000000 in
theorem inOrder_not {v : Value} {xs : List Not} {FF : List Nat} (w : World) (hs : NotsAt w v xs FF) (h4 : xs.length ≤ 4) :
    Calls Tryz.prog 102 #[v, .func (.func 103) #[] #[]] w fun e w' => e = .returned (.bool (dec (Asc Not.key xs))) ∧ Below w.heap.size w w' := by
  have HO := Lib.hid (ordered_not w hs h4)
  have HS := Lib.hid hs
  obtain ⟨o1, c1, rfl, -⟩ := RowAt.slice hs
  clear hs
  go_enter Tryz.func102, Tryz.ntmps102
  go_wp2_with (first
    | (go_at_call 134; refine HO.out.mono ?_; rintro e w1 ⟨v', rfl, hb, hcase⟩)
    | fail)
  rcases hcase with ⟨o, m, c, rfl, hne, hna⟩ | ⟨ys, F', hrow, hiff⟩
  · have HN := Lib.hid (dec_no hna)
    have HB := Lib.hid hb
    refine (equal_len_not _ _ _ _ _ _ hne _).mono ?_
    rintro e w2 ⟨rfl, rfl⟩
    clear hb hna hne
    go_wp2
    go_ret
    exact ⟨by rw [HN.out]; rfl, HB.out⟩
  · refine (equal_not _ (RowAt.stay HS.out (by decide) hb (Nat.le_refl _)) hrow).mono ?_
    rintro e w2 ⟨rfl, q, rfl⟩
    have HN : Hid (sameO xs ys = dec (Asc Not.key xs)) := by
      show _ = _
      by_cases h : xs = ys
      · rw [sameO_yes h, dec_yes (hiff.1 h)]
      · rw [sameO_no h, dec_no (fun h' => h (hiff.2 h'))]
    have HB := Lib.hid hb
    clear hb hiff hrow
    generalize sameO xs ys = r at *
    go_wp2
    go_ret
    exact ⟨by rw [← HN.out]; rfl, below_drewO HB.out q⟩

end Go.Proofs.YtfmkhogpnnobeaaGreatDoor

/- the program's metricsOk and notesOk tell of a list whether it is as an order's must be. -/
namespace Go.Proofs.YtfmkhogpnnobeaaGreatDoor
open Go Go.RowKit

set_option maxRecDepth 100000 in
set_option maxHeartbeats 2000000 in
theorem impl_not (x : Not) (hx : x.ok) (w : World) : Calls Tryz.prog 101 #[.agg #[.string x.key, .string x.text]] w fun e w' => e = .returned (.bool x.okB) ∧ Below w.heap.size w w' := by
  have HB : Hid (∀ o, Below w.heap.size w (w.alloc o)) := fun o => (Below.refl _ w).alloc (Nat.le_refl _) o
  have h1 := hx.1
  have h2 := hx.2
  have h3 := h2
  unfold maxLen at h3
  have hP := Tryz.strings_HasPrefix x.key ⟨#[113, 117, 97, 121, 47]⟩
  rw [show Lib.hasPrefix x.key.data.toList (⟨#[113, 117, 97, 121, 47]⟩ : ByteArray).data.toList = oursB x.key from rfl] at hP
  clear hx
  unfold Not.okB
  rcases b1 : plainB x.key
  · go_enter Tryz.func101, Tryz.ntmps101
    go_wp2_with (first
      | (go_at_call 130; refine (impl_plainOk _ h1 _).mono ?_; rintro e w1 ⟨rfl, e1⟩; subst e1; rw [b1])
      | fail)
    go_ret
    exact ⟨rfl, HB.out _⟩
  rcases b2 : oursB x.key
  case true =>
    go_enter Tryz.func101, Tryz.ntmps101
    go_wp2_with (first
      | (go_at_call 130; refine (impl_plainOk _ h1 _).mono ?_; rintro e w1 ⟨rfl, e1⟩; subst e1; rw [b1])
      | (go_at_call 131; refine (hP _).mono ?_; rintro e w1 ⟨rfl, e1⟩; subst e1; rw [b2])
      | fail)
    go_ret
    exact ⟨rfl, HB.out _⟩
  rcases b3 : textOk x.text
  · go_enter Tryz.func101, Tryz.ntmps101
    go_wp2_with (first
      | (go_at_call 130; refine (impl_plainOk _ h1 _).mono ?_; rintro e w1 ⟨rfl, e1⟩; subst e1; rw [b1])
      | (go_at_call 131; refine (hP _).mono ?_; rintro e w1 ⟨rfl, e1⟩; subst e1; rw [b2])
      | (go_at_call 132; refine (impl_textOk _ h2 _).mono ?_; rintro e w1 ⟨rfl, e1⟩; subst e1; rw [b3])
      | fail)
    go_ret
    exact ⟨rfl, HB.out _⟩
  go_enter Tryz.func101, Tryz.ntmps101
  go_wp2_with (first
    | (go_at_call 130; refine (impl_plainOk _ h1 _).mono ?_; rintro e w1 ⟨rfl, e1⟩; subst e1; rw [b1])
    | (go_at_call 131; refine (hP _).mono ?_; rintro e w1 ⟨rfl, e1⟩; subst e1; rw [b2])
    | (go_at_call 132; refine (impl_textOk _ h2 _).mono ?_; rintro e w1 ⟨rfl, e1⟩; subst e1; rw [b3])
    | fail)
  go_ret
  refine ⟨?_, HB.out _⟩
  simp
  omega

theorem impl_met (x : Met) (hx : x.ok) (w : World) : Calls Tryz.prog 98 #[.agg #[.string x.name, .int .i64 x.kind, .int .i64 x.goal]] w fun e w' => e = .returned (.bool x.okB) ∧ Below w.heap.size w w' :=
  impl_metricOk x.name x.kind x.goal hx.1 w


set_option maxRecDepth 100000 in
set_option maxHeartbeats 2000000 in
theorem impl_mets {v : Value} {xs : List Met} {FF : List Nat} (w : World) (hs : MetsAt w v xs FF) :
    Calls Tryz.prog 68 #[v] w fun e w' => e = .returned (.bool (dec (Els Met.name Met.okB xs))) ∧ Below w.heap.size w w' := by
  rw [dec_iff (els_iff Met.name Met.okB xs)]
  have HS := Lib.hid hs
  obtain ⟨o, cap, b, off, rfl, hlc, hcm, ho, -, hcell, -⟩ := hs
  have HC := Lib.hid hcell
  have HO := Lib.hid ho
  clear hcell ho
  unfold maxLen at hcm
  by_cases h4 : xs.length ≤ 4
  case neg =>
    have HN : Hid (dec (xs.length ≤ 4 ∧ (∀ x ∈ xs, x.okB = true) ∧ Asc Met.name xs) = false) := dec_no fun h => h4 h.1
    have h4' : (4 : Int) < xs.length := by omega
    go_enter Tryz.func68, Tryz.ntmps68
    go_wp2
    go_ret
    exact ⟨by rw [HN.out]; rfl, Below.refl _ _⟩
  have h4' : ¬ (4 : Int) < xs.length := by omega
  go_enter Tryz.func68, Tryz.ntmps68
  go_wp2
  go_loopw [10] (fun i wr => ∃ k : Nat, k ≤ xs.length ∧ i = .int .i64 k ∧ Hid (∀ i (h : i < xs.length), i < k → xs[i].okB = true) ∧ Hid (Below w.heap.size w wr)) (fun i _ => xs.length - (intOf i).toNat)
  case atStart => exact ⟨0, Nat.zero_le _, rfl, fun i _ h => absurd h (by omega), Below.refl _ _⟩
  case round =>
    obtain ⟨k, hk, rfl, hr, HB⟩ := hrel
    by_cases hlt : k < xs.length
    · have ho := HO.out (by omega)
      subst ho
      have c0 : wr.cell? ⟨b, off + k * 3, none⟩ = some (.string xs[k].name) := by
        have := (HC.out k hlt).2 0 (by decide)
        rw [HB.out.cell (by exact World.block_lt_of_cell? _ _ this)]; exact this
      have c1 : wr.cell? ⟨b, off + k * 3 + 1, none⟩ = some (.int .i64 xs[k].kind) := by
        have := (HC.out k hlt).2 1 (by decide)
        rw [HB.out.cell (by exact World.block_lt_of_cell? _ _ this)]; exact this
      have c2 : wr.cell? ⟨b, off + k * 3 + 2, none⟩ = some (.int .i64 xs[k].goal) := by
        have := (HC.out k hlt).2 2 (by decide)
        rw [HB.out.cell (by exact World.block_lt_of_cell? _ _ this)]; exact this
      have hM := Lib.hid (impl_met xs[k] (HC.out k hlt).1)
      rcases hb : xs[k].okB
      · have HN : Hid (dec (xs.length ≤ 4 ∧ (∀ x ∈ xs, x.okB = true) ∧ Asc Met.name xs) = false) := dec_no fun h => by rw [h.2.1 _ (List.getElem_mem hlt)] at hb; cases hb
        rw [hb] at hM
        clear hb
        generalize xs[k] = x at *
        go_wp2_with (first
          | (go_at_call 98; refine (hM.out _).mono ?_; rintro e w1 ⟨rfl, hb1⟩; replace HB := Lib.hid ((HB.out.alloc HB.out.size (.cells #[.string x.name, .int .i64 x.kind, .int .i64 x.goal] 93)).trans (hb1.mono (Nat.le_trans HB.out.size (by simp)))); clear hb1)
          | fail)
        go_ret
        exact ⟨by rw [HN.out]; rfl, HB.out⟩
      · have HS' : Hid (∀ i (h : i < xs.length), i < k + 1 → xs[i].okB = true) := fun i h hi => by
          by_cases e : i = k
          · subst e; exact hb
          · exact hr.out i h (by omega)
        rw [hb] at hM
        clear hb
        generalize xs[k] = x at *
        go_wp2_with (first
          | (go_at_call 98; refine (hM.out _).mono ?_; rintro e w1 ⟨rfl, hb1⟩; replace HB := Lib.hid ((HB.out.alloc HB.out.size (.cells #[.string x.name, .int .i64 x.kind, .int .i64 x.goal] 93)).trans (hb1.mono (Nat.le_trans HB.out.size (by simp)))); clear hb1)
          | fail)
        exact ⟨⟨k + 1, by omega, by go_num, HS'.out, HB.out⟩, by simp [intOf]; omega⟩
    · have HN : Hid (dec (Asc Met.name xs) = dec (xs.length ≤ 4 ∧ (∀ x ∈ xs, x.okB = true) ∧ Asc Met.name xs)) := dec_iff ⟨fun h => ⟨h4, fun x hx => by
          obtain ⟨i, hi, rfl⟩ := List.getElem_of_mem hx
          exact hr.out i hi (by omega), h⟩, fun h => h.2.2⟩
      have HI := Lib.hid (inOrder_met wr (RowAt.stay HS.out (by decide) HB.out (Nat.le_refl _)) h4)
      go_wp2_with (first
        | (go_at_call 99; refine HI.out.mono ?_; rintro e w1 ⟨rfl, hb1⟩; replace HB := Lib.hid (HB.out.trans (hb1.mono HB.out.size)); clear hb1)
        | fail)
      go_ret
      exact ⟨by rw [← HN.out]; rfl, HB.out⟩


set_option maxRecDepth 100000 in
set_option maxHeartbeats 2000000 in
theorem impl_nots {v : Value} {xs : List Not} {FF : List Nat} (w : World) (hs : NotsAt w v xs FF) :
    Calls Tryz.prog 70 #[v] w fun e w' => e = .returned (.bool (dec (Els Not.key Not.okB xs))) ∧ Below w.heap.size w w' := by
  rw [dec_iff (els_iff Not.key Not.okB xs)]
  have HS := Lib.hid hs
  obtain ⟨o, cap, b, off, rfl, hlc, hcm, ho, -, hcell, -⟩ := hs
  have HC := Lib.hid hcell
  have HO := Lib.hid ho
  clear hcell ho
  unfold maxLen at hcm
  by_cases h4 : xs.length ≤ 4
  case neg =>
    have HN : Hid (dec (xs.length ≤ 4 ∧ (∀ x ∈ xs, x.okB = true) ∧ Asc Not.key xs) = false) := dec_no fun h => h4 h.1
    have h4' : (4 : Int) < xs.length := by omega
    go_enter Tryz.func70, Tryz.ntmps70
    go_wp2
    go_ret
    exact ⟨by rw [HN.out]; rfl, Below.refl _ _⟩
  have h4' : ¬ (4 : Int) < xs.length := by omega
  go_enter Tryz.func70, Tryz.ntmps70
  go_wp2
  go_loopw [10] (fun i wr => ∃ k : Nat, k ≤ xs.length ∧ i = .int .i64 k ∧ Hid (∀ i (h : i < xs.length), i < k → xs[i].okB = true) ∧ Hid (Below w.heap.size w wr)) (fun i _ => xs.length - (intOf i).toNat)
  case atStart => exact ⟨0, Nat.zero_le _, rfl, fun i _ h => absurd h (by omega), Below.refl _ _⟩
  case round =>
    obtain ⟨k, hk, rfl, hr, HB⟩ := hrel
    by_cases hlt : k < xs.length
    · have ho := HO.out (by omega)
      subst ho
      have c0 : wr.cell? ⟨b, off + k * 2, none⟩ = some (.string xs[k].key) := by
        have := (HC.out k hlt).2 0 (by decide)
        rw [HB.out.cell (by exact World.block_lt_of_cell? _ _ this)]; exact this
      have c1 : wr.cell? ⟨b, off + k * 2 + 1, none⟩ = some (.string xs[k].text) := by
        have := (HC.out k hlt).2 1 (by decide)
        rw [HB.out.cell (by exact World.block_lt_of_cell? _ _ this)]; exact this
      have hM := Lib.hid (impl_not xs[k] (HC.out k hlt).1)
      rcases hb : xs[k].okB
      · have HN : Hid (dec (xs.length ≤ 4 ∧ (∀ x ∈ xs, x.okB = true) ∧ Asc Not.key xs) = false) := dec_no fun h => by rw [h.2.1 _ (List.getElem_mem hlt)] at hb; cases hb
        rw [hb] at hM
        clear hb
        generalize xs[k] = x at *
        go_wp2_with (first
          | (go_at_call 101; refine (hM.out _).mono ?_; rintro e w1 ⟨rfl, hb1⟩; replace HB := Lib.hid ((HB.out.alloc HB.out.size (.cells #[.string x.key, .string x.text] 98)).trans (hb1.mono (Nat.le_trans HB.out.size (by simp)))); clear hb1)
          | fail)
        go_ret
        exact ⟨by rw [HN.out]; rfl, HB.out⟩
      · have HS' : Hid (∀ i (h : i < xs.length), i < k + 1 → xs[i].okB = true) := fun i h hi => by
          by_cases e : i = k
          · subst e; exact hb
          · exact hr.out i h (by omega)
        rw [hb] at hM
        clear hb
        generalize xs[k] = x at *
        go_wp2_with (first
          | (go_at_call 101; refine (hM.out _).mono ?_; rintro e w1 ⟨rfl, hb1⟩; replace HB := Lib.hid ((HB.out.alloc HB.out.size (.cells #[.string x.key, .string x.text] 98)).trans (hb1.mono (Nat.le_trans HB.out.size (by simp)))); clear hb1)
          | fail)
        exact ⟨⟨k + 1, by omega, by go_num, HS'.out, HB.out⟩, by simp [intOf]; omega⟩
    · have HN : Hid (dec (Asc Not.key xs) = dec (xs.length ≤ 4 ∧ (∀ x ∈ xs, x.okB = true) ∧ Asc Not.key xs)) := dec_iff ⟨fun h => ⟨h4, fun x hx => by
          obtain ⟨i, hi, rfl⟩ := List.getElem_of_mem hx
          exact hr.out i hi (by omega), h⟩, fun h => h.2.2⟩
      have HI := Lib.hid (inOrder_not wr (RowAt.stay HS.out (by decide) HB.out (Nat.le_refl _)) h4)
      go_wp2_with (first
        | (go_at_call 102; refine HI.out.mono ?_; rintro e w1 ⟨rfl, hb1⟩; replace HB := Lib.hid (HB.out.trans (hb1.mono HB.out.size)); clear hb1)
        | fail)
      go_ret
      exact ⟨by rw [← HN.out]; rfl, HB.out⟩

end Go.Proofs.YtfmkhogpnnobeaaGreatDoor
