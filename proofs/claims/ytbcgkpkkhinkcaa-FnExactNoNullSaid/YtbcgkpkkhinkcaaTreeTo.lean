/-
  What is proved: the laws' toStringS, toNodeS and toNode lay the same texts and trees into new memory.
-/
import Derived.Test.YtbcgkpkkhinkcaaTreeEq
import Derived.Test.YtbcgkpkkhinkcaaTreeSz
import Derived.Deep.OwnRows
import Derived.Deep.Slices
namespace Go.Proofs.Ytbcgkpkkhinkcaa
open Go Go.RowKit

/-- The blocks F were made since w, each once, and may be written in w'. -/
structure Fresh (w w' : World) (F : List Nat) : Prop where
  nodup : F.Nodup
  old : ∀ b ∈ F, w.heap.size ≤ b
  free : ∀ b ∈ F, ∀ o, w'.frozen? ⟨b, o, none⟩ = false

theorem Fresh.nil (w w' : World) : Fresh w w' [] := ⟨List.nodup_nil, fun b h => absurd h (by simp), fun b h => absurd h (by simp)⟩

theorem Fresh.carry {w w1 w2 : World} {F : List Nat} (h : Fresh w w1 F) (hF : ∀ b ∈ F, w2.heap[b]? = w1.heap[b]?) : Fresh w w2 F :=
  ⟨h.nodup, h.old, fun b hb o => by rw [World.frozen?_of_block (w := w1) (hF b hb)]; exact h.free b hb o⟩

theorem Fresh.earlier {w w1 w2 : World} {F : List Nat} (h : Fresh w1 w2 F) (hs : w.heap.size ≤ w1.heap.size) : Fresh w w2 F :=
  ⟨h.nodup, fun b hb => Nat.le_trans hs (h.old b hb), h.free⟩

/-- Two lots of blocks, the second made behind the first. -/
theorem Fresh.append {w w1 w2 : World} {F G : List Nat} (h : Fresh w w2 F) (hl : ∀ b ∈ F, b < w1.heap.size) (h' : Fresh w1 w2 G) (hs : w.heap.size ≤ w1.heap.size) : Fresh w w2 (F ++ G) := by
  refine ⟨List.nodup_append.2 ⟨h.nodup, h'.nodup, fun a ha b hb e => ?_⟩, fun b hb => ?_, fun b hb => ?_⟩
  · have := hl a ha
    have := h'.old b hb
    omega
  · rcases List.mem_append.1 hb with hb | hb
    · exact h.old b hb
    · exact Nat.le_trans hs (h'.old b hb)
  · rcases List.mem_append.1 hb with hb | hb
    · exact h.free b hb
    · exact h'.free b hb

theorem info_string : (Try.prog.info? 9).map (fun i => (i.zero, i.size, i.bytes)) = some (some (.string ⟨#[]⟩), 1, 16) := by kernel_rfl

/-- A row of texts that has been laid up to k. -/
def LaidStrs (w wr : World) (ks : List ByteArray) (k : Nat) : Prop :=
  ∃ f : Nat → Value, wr.rowIs w.heap.size 9 ks.length f ∧ (∀ j (h : j < ks.length), j < k → f j = .string ks[j]) ∧ Below w.heap.size w wr

theorem LaidStrs.start (w : World) (ks : List ByteArray) (z : Value) : LaidStrs w (w.alloc (.cells (madeCells #[z] ks.length) 9)) ks 0 :=
  ⟨_, World.rowIs_made w z ks.length 9, fun _ _ h => absurd h (by omega), (Below.refl _ w).alloc (Nat.le_refl _) _⟩

theorem LaidStrs.step {w wr : World} {ks : List ByteArray} {k : Nat} (h : LaidStrs w wr ks k) (hk : k < ks.length) : LaidStrs w (wr.setCell ⟨w.heap.size, k, none⟩ (.string ks[k])) ks (k + 1) := by
  obtain ⟨f, hr, hf, hb⟩ := h
  refine ⟨_, hr.set k _, fun j hj hjk => ?_, hb.setCell (Nat.le_refl _) _⟩
  by_cases e : j = k
  · subst e; simp
  · simp only [e, if_false]
    exact hf j hj (by omega)

theorem LaidStrs.done {w wr : World} {ks : List ByteArray} (h : LaidStrs w wr ks ks.length) (hm : ks.length ≤ maxLen) (hs : ∀ i (h : i < ks.length), ks[i].size ≤ maxLen) :
    ∃ F, StrsAt wr (.slice (some ⟨w.heap.size, 0, none⟩) ks.length ks.length) ks F ∧ Fresh w wr F ∧ (∀ b ∈ F, b = w.heap.size) := by
  obtain ⟨f, hr, hf, hb⟩ := h
  refine ⟨_, ⟨_, _, w.heap.size, 0, rfl, Nat.le_refl _, hm, fun _ => rfl, rfl, fun i hi => ⟨?_, hs i hi⟩, fun i hi => by rw [Nat.zero_add, hr.cell hi]; rfl⟩, ?_, ?_⟩
  · rw [Nat.zero_add, hr.cell hi, hf i hi hi]
  · split
    · exact Fresh.nil _ _
    · exact ⟨by simp, fun b h => by simp at h; omega, fun b h o => by simp at h; subst h; exact hr.frozen o⟩
  · split <;> simp

set_option maxHeartbeats 400000 in
theorem to_strs {v : Value} {ks : List ByteArray} {F : List Nat} (w : World) (hs : StrsAt w v ks F) (h1 : ks.length ≤ 1048576) :
    Calls Try.prog 18 #[v] w fun e w' => ∃ v' F', e = .returned v' ∧ StrsAt w' v' ks F' ∧ Fresh w w' F' ∧ Below w.heap.size w w' := by
  obtain ⟨o, cap, b, off, rfl, hlc, hcm, ho, -, hcell, -⟩ := hs
  have HC := Lib.hid hcell
  have HO := Lib.hid ho
  clear hcell ho
  have hmk := run_make_row' (P := Try.prog) 22 9 (.string ⟨#[]⟩) 16 Try.underlying22 info_string rfl .i64 .i64 ks.length (by omega) (by omega)
  go_enter Try.func18, Try.ntmps18
  go_wp2
  go_loopw [4] (fun i wr => ∃ k : Nat, k ≤ ks.length ∧ i = .int .i64 k ∧ Hid (LaidStrs w wr ks k)) (fun i _ => ks.length - (intOf i).toNat)
  case atStart => exact ⟨0, Nat.zero_le _, rfl, LaidStrs.start w ks _⟩
  case round =>
    obtain ⟨k, hk, rfl, hr⟩ := hrel
    by_cases hlt : k < ks.length
    · obtain ⟨f, hrow, hf, hb⟩ := hr.out
      have c0 : wr.cell? ⟨b, off + k, none⟩ = some (.string ks[k]) := by
        have := (HC.out k hlt).1
        rw [hb.cell (by exact World.block_lt_of_cell? _ _ this)]; exact this
      have ho := HO.out (by omega)
      subst ho
      have HR := Lib.hid (hr.out.step hlt)
      have r0 := hrow.cell hlt
      have r1 := hrow.frozen k
      clear hrow hf hb
      generalize ks[k] = x at *
      generalize f k = y at *
      generalize w.heap.size = B at *
      go_wp2
      exact ⟨⟨k + 1, by omega, by go_num, HR.out⟩, by simp [intOf]; omega⟩
    · have e : k = ks.length := by omega
      subst e
      have HD := Lib.hid (hr.out.done (by unfold maxLen; omega) (fun i hi => (HC.out i hi).2))
      have HB : Hid (Below w.heap.size w wr) := by obtain ⟨_, _, _, hb⟩ := hr.out; exact hb
      go_wp2
      go_ret
      obtain ⟨F', g1, g2, -⟩ := HD.out
      exact ⟨_, F', rfl, g1, g2, HB.out⟩

/-! ### Lists of trees -/

/-- The five cells of a node, stored. -/
def set5 (w : World) (b o : Nat) (v0 v1 v2 v3 v4 : Value) : World :=
  ((((w.setCell ⟨b, o, none⟩ v0).setCell ⟨b, o + 1, none⟩ v1).setCell ⟨b, o + 2, none⟩ v2).setCell ⟨b, o + 3, none⟩ v3).setCell ⟨b, o + 4, none⟩ v4

theorem set5_other (w : World) (b o : Nat) (v0 v1 v2 v3 v4 : Value) (k : Nat) (h : k ≠ b) : (set5 w b o v0 v1 v2 v3 v4).heap[k]? = w.heap[k]? := by
  unfold set5
  rw [Below.heap_setCell _ _ _ _ h, Below.heap_setCell _ _ _ _ h, Below.heap_setCell _ _ _ _ h, Below.heap_setCell _ _ _ _ h, Below.heap_setCell _ _ _ _ h]

theorem set5_below {B : Nat} {a w : World} (h : Below B a w) {b : Nat} (hb : B ≤ b) (o : Nat) (v0 v1 v2 v3 v4 : Value) : Below B a (set5 w b o v0 v1 v2 v3 v4) := by
  unfold set5
  exact ((((h.setCell hb _).setCell hb _).setCell hb _).setCell hb _).setCell hb _

theorem set5_row {w : World} {b : Nat} {t : TypeId} {N : Nat} {f : Nat → Value} (h : w.rowIs b t N f) (o : Nat) (T : RT) (kv dv : Value) :
    ∃ g, (set5 w b o (.int .i64 T.k) (.int .i64 T.n) (.string T.s) kv dv).rowIs b t N g ∧ (∀ c, c < 5 → some (g (o + c)) = (T.row kv dv)[c]?) ∧ ∀ j, (j < o ∨ o + 5 ≤ j) → g j = f j := by
  refine ⟨_, ((((h.set o _).set (o + 1) _).set (o + 2) _).set (o + 3) _).set (o + 4) _, fun c hc => ?_, fun j hj => ?_⟩
  · match c, hc with
    | 0, _ => simp [RT.row]
    | 1, _ => simp [RT.row]
    | 2, _ => simp [RT.row]
    | 3, _ => simp [RT.row]
    | 4, _ => simp [RT.row]
  · have e0 : ¬ j = o := by omega
    have e1 : ¬ j = o + 1 := by omega
    have e2 : ¬ j = o + 2 := by omega
    have e3 : ¬ j = o + 3 := by omega
    have e4 : ¬ j = o + 4 := by omega
    simp [e0, e1, e2, e3, e4]

theorem set5_end {w : World} {b : Nat} {t : TypeId} {a0 a1 a2 a3 a4 : Value} (h : w.heap[b]? = some (.cells #[a0, a1, a2, a3, a4] t (0, 0))) (v0 v1 v2 v3 v4 : Value) :
    (set5 w b 0 v0 v1 v2 v3 v4).heap[b]? = some (.cells #[v0, v1, v2, v3, v4] t (0, 0)) :=
  heap_set (heap_set (heap_set (heap_set (heap_set h 0 v0) 1 v1) 2 v2) 3 v3) 4 v4

/-- A row of trees that has been laid up to k. -/
def LaidKids (t : TypeId) (w wr : World) (kids : List RT) (k : Nat) : Prop :=
  ∃ (f : Nat → Value) (KV DV : Nat → Value) (FF : Nat → List Nat), wr.rowIs w.heap.size t (kids.length * 5) f ∧
    (∀ j (h : j < kids.length), j < k → (∀ c, c < 5 → some (f (j * 5 + c)) = (kids[j].row (KV j) (DV j))[c]?) ∧ Lies wr kids[j] (KV j) (DV j) (FF j)) ∧
    Fresh w wr ((List.range k).flatMap FF) ∧ (∀ b ∈ (List.range k).flatMap FF, w.heap.size < b) ∧ Below w.heap.size w wr

theorem LaidKids.start {t : TypeId} {w wr : World} {kids : List RT} {f : Nat → Value} (h : wr.rowIs w.heap.size t (kids.length * 5) f) (hb : Below w.heap.size w wr) : LaidKids t w wr kids 0 :=
  ⟨f, fun _ => .bool true, fun _ => .bool true, fun _ => [], h, fun _ _ h => absurd h (by omega), Fresh.nil _ _, fun b h => absurd h (by simp), hb⟩

theorem flat_succ (FF : Nat → List Nat) (k : Nat) (F : List Nat) : (List.range (k + 1)).flatMap (fun j => if j = k then F else FF j) = (List.range k).flatMap FF ++ F := by
  rw [List.range_succ, List.flatMap_append]
  congr 1
  · exact Go.Deep.flatMap_congr_range fun j hj => by rw [if_neg (by omega)]
  · simp

theorem LaidKids.step {t : TypeId} {w wr w1 : World} {kids : List RT} {k : Nat} (h : LaidKids t w wr kids k) (hk : k < kids.length) {kv dv : Value} {F : List Nat} (hb1 : Below wr.heap.size wr w1) (hl : Lies w1 kids[k] kv dv F) (hf : Fresh wr w1 F) :
    LaidKids t w (set5 w1 w.heap.size (k * 5) (.int .i64 kids[k].k) (.int .i64 kids[k].n) (.string kids[k].s) kv dv) kids (k + 1) := by
  obtain ⟨f, KV, DV, FF, hrow, hall, hfr, hgt, hb⟩ := h
  have hsz := hrow.lt
  have hrow1 := hrow.of_block (hb1.block _ hsz)
  obtain ⟨g, hg, hg1, hg2⟩ := set5_row hrow1 (k * 5) kids[k] kv dv
  have hlt : ∀ j (hj : j < kids.length), j < k → ∀ b ∈ FF j, b < wr.heap.size ∧ w.heap.size < b := fun j hj hjk b hbF => ⟨(hall j hj hjk).2.lt b hbF, hgt b (List.mem_flatMap.2 ⟨j, List.mem_range.2 hjk, hbF⟩)⟩
  have hold : ∀ b ∈ (List.range k).flatMap FF, b < wr.heap.size := fun b hbF => by
    obtain ⟨j, hj, hbj⟩ := List.mem_flatMap.1 hbF
    have hjk := List.mem_range.1 hj
    exact (hlt j (by omega) hjk b hbj).1
  have hcarry : ∀ b ∈ (List.range k).flatMap FF, (set5 w1 w.heap.size (k * 5) (.int .i64 kids[k].k) (.int .i64 kids[k].n) (.string kids[k].s) kv dv).heap[b]? = wr.heap[b]? := fun b hbF => by
    rw [set5_other _ _ _ _ _ _ _ _ _ (by have := hgt b hbF; omega), hb1.block b (hold b hbF)]
  have hcarry1 : ∀ b ∈ F, (set5 w1 w.heap.size (k * 5) (.int .i64 kids[k].k) (.int .i64 kids[k].n) (.string kids[k].s) kv dv).heap[b]? = w1.heap[b]? := fun b hbF => by
    rw [set5_other _ _ _ _ _ _ _ _ _ (by have := hf.old b hbF; omega)]
  refine ⟨g, fun j => if j = k then kv else KV j, fun j => if j = k then dv else DV j, fun j => if j = k then F else FF j, hg, fun j hj hjk => ?_, ?_, ?_, ?_⟩
  · by_cases e : j = k
    · subst e
      simp only [if_true]
      exact ⟨hg1, hl.carry hcarry1⟩
    · simp only [e, if_false]
      obtain ⟨q1, q2⟩ := hall j hj (by omega)
      refine ⟨fun c hc => ?_, q2.carry fun b hbF => hcarry b (List.mem_flatMap.2 ⟨j, List.mem_range.2 (by omega), hbF⟩)⟩
      rw [hg2 _ (by omega)]
      exact q1 c hc
  · rw [flat_succ]
    exact (hfr.carry hcarry).append hold (hf.carry hcarry1) hb.size
  · rw [flat_succ]
    intro b hbF
    rcases List.mem_append.1 hbF with hbF | hbF
    · exact hgt b hbF
    · have := hf.old b hbF; omega
  · exact set5_below (hb.trans (hb1.mono hb.size)) (Nat.le_refl _) _ _ _ _ _ _

theorem LaidKids.done {t : TypeId} {w wr : World} {kids : List RT} (h : LaidKids t w wr kids kids.length) (hm : kids.length ≤ maxLen) :
    ∃ F, KidsLie wr (.slice (some ⟨w.heap.size, 0, none⟩) kids.length kids.length) kids F ∧ Fresh w wr F ∧ Below w.heap.size w wr := by
  obtain ⟨f, KV, DV, FF, hrow, hall, hfr, hgt, hb⟩ := h
  refine ⟨_, ⟨_, _, w.heap.size, 0, FF, KV, DV, rfl, Nat.le_refl _, hm, fun _ => rfl, rfl, fun i hi j hj => ?_, fun i hi => (hall i hi hi).2, fun i hi => by rw [Nat.zero_add, hrow.cell hi]; rfl⟩, ?_, hb⟩
  · rw [Nat.zero_add, hrow.cell (by omega)]
    exact (hall i hi hi).1 j hj
  · split
    · simpa using hfr
    · refine ⟨?_, ?_, ?_⟩
      · simp only [List.singleton_append, List.nodup_cons]
        exact ⟨fun hm => by have := hgt _ hm; omega, hfr.nodup⟩
      · intro b hbF
        rcases List.mem_append.1 hbF with hbF | hbF
        · simp at hbF; omega
        · exact hfr.old b hbF
      · intro b hbF o
        rcases List.mem_append.1 hbF with hbF | hbF
        · simp at hbF; subst hbF; exact hrow.frozen o
        · exact hfr.free b hbF o


/-- What the laws' toNode answers of one tree. -/
def ToAt (T : RT) : Prop := ∀ (w : World) (kv dv : Value) (F : List Nat), Lies w T kv dv F → T.sz ≤ 1048576 →
  Calls Try.prog 7 #[T.val kv dv] w fun e w' => ∃ kv' dv' F', e = .returned (.agg #[.int .i64 T.k, .int .i64 T.n, .string T.s, kv', dv']) ∧ Lies w' T kv' dv' F' ∧ Fresh w w' F' ∧ Below w.heap.size w w'

theorem info_node : (Try.prog.info? 29).map (fun i => (i.zero, i.size, i.bytes)) = some (some (.agg #[.int .i64 0, .int .i64 0, .string ⟨#[]⟩, .slice none 0 0, .slice none 0 0]), 5, 80) := by kernel_rfl

theorem run_make_nodes (n : Nat) (h : n ≤ 1048576) (w : World) :
    (Instr.makeSlice 27 (.int .i64 (n : Int)) (.int .i64 (n : Int))).run Try.prog w = .ok (.slice (some ⟨w.heap.size, 0, none⟩) n n) (w.alloc (.cells (madeCells #[.int .i64 0, .int .i64 0, .string ⟨#[]⟩, .slice none 0 0, .slice none 0 0] (n * 5)) 29)) := by
  obtain ⟨i, hi, hzz⟩ := Option.map_eq_some_iff.1 info_node
  simp only [Prod.mk.injEq] at hzz
  obtain ⟨hz, hs, hb⟩ := hzz
  have hr := run_make (P := Try.prog) w 27 29 i _ Try.underlying27 hi hz .i64 .i64 n n (by omega) (Int.le_refl _) (by rw [hb]; omega) (by omega)
  simp only [Int.toNat_natCast, hs] at hr
  exact hr

theorem rowIs_nodes (w : World) (z : Array Value) (n : Nat) (t : TypeId) : ∃ f, (w.alloc (.cells (madeCells z n) t)).rowIs w.heap.size t n f :=
  ⟨fun i => (madeCells z n)[i]?.getD default, by
    have := World.rowIs_alloc w (madeCells z n) t (fun i => (madeCells z n)[i]?.getD default) (fun i hi => by rw [Array.getElem?_eq_getElem hi]; rfl)
    rwa [size_madeCells] at this⟩

theorem sz_take (kids : List RT) {t : RT} (h : t ∈ kids) : t.sz ≤ szAll kids := by
  induction kids with
  | nil => simp at h
  | cons x l ih =>
    rw [szAll]
    rcases List.mem_cons.1 h with e | e
    · rw [e]; omega
    · have := ih e; omega

set_option maxHeartbeats 400000 in
theorem to_kids {dv : Value} {kids : List RT} {F : List Nat} (ih : ∀ t ∈ kids, ToAt t) (w : World) (hs : KidsLie w dv kids F) (h1 : kids.length + szAll kids ≤ 1048576) :
    Calls Try.prog 19 #[dv] w fun e w' => ∃ v' F', e = .returned v' ∧ KidsLie w' v' kids F' ∧ Fresh w w' F' ∧ Below w.heap.size w w' := by
  obtain ⟨o, cap, b, off, FF, KV, DV, rfl, hlc, hcm, ho, -, hcell, hlies, -⟩ := hs
  have HC := Lib.hid hcell
  have HO := Lib.hid ho
  have HL := Lib.hid hlies
  clear hcell ho hlies
  have hmk := run_make_nodes kids.length (by omega)
  go_enter Try.func19, Try.ntmps19
  go_wp2
  go_loopw [4] (fun i wr => ∃ k : Nat, k ≤ kids.length ∧ i = .int .i64 k ∧ Hid (LaidKids 29 w wr kids k)) (fun i _ => kids.length - (intOf i).toNat)
  case atStart =>
    obtain ⟨f, hf⟩ := rowIs_nodes w #[.int .i64 0, .int .i64 0, .string ⟨#[]⟩, .slice none 0 0, .slice none 0 0] (kids.length * 5) 29
    exact ⟨0, Nat.zero_le _, rfl, LaidKids.start hf ((Below.refl _ w).alloc (Nat.le_refl _) _)⟩
  case round =>
    obtain ⟨k, hk, rfl, hr⟩ := hrel
    by_cases hlt : k < kids.length
    · have hrr := hr.out
      obtain ⟨f, _, _, _, hrow, _, _, _, hb⟩ := hrr
      obtain ⟨c0, c1, c2, c3, c4⟩ := kid_cells (HC.out k hlt) hb
      have ho := HO.out (by omega)
      subst ho
      have HI := Lib.hid (ih _ (List.getElem_mem hlt) wr _ _ _ ((HL.out k hlt).stay hb (Nat.le_refl _)) (Nat.le_trans (sz_take kids (List.getElem_mem hlt)) (by omega)))
      have HR := Lib.hid hrow
      have HS := Lib.hid fun (w1 : World) (kv dv : Value) (F : List Nat) => hr.out.step (w1 := w1) (kv := kv) (dv := dv) (F := F) hlt
      clear hrow hb
      generalize kids[k] = x at *
      have hB : Hid (w.heap.size < wr.heap.size) := HR.out.lt
      generalize w.heap.size = B at *
      go_wp2_with (first
        | (go_at_call 7; refine HI.out.mono ?_; rintro e w1 ⟨kv', dv', F1, rfl, hl1, hf1, hb1⟩
           have hrow1 := HR.out.of_block (hb1.block _ hB.out)
           have r0 := hrow1.cell (i := k * 5) (by omega)
           have r1 := hrow1.cell (i := k * 5 + 1) (by omega)
           have r2 := hrow1.cell (i := k * 5 + 2) (by omega)
           have r3 := hrow1.cell (i := k * 5 + 3) (by omega)
           have r4 := hrow1.cell (i := k * 5 + 4) (by omega)
           have f0 := hrow1.frozen (k * 5)
           have f1 := hrow1.frozen (k * 5 + 1)
           have f2 := hrow1.frozen (k * 5 + 2)
           have f3 := hrow1.frozen (k * 5 + 3)
           have f4 := hrow1.frozen (k * 5 + 4)
           have HS1 := Lib.hid (HS.out w1 kv' dv' F1 hb1 hl1 hf1)
           obtain ⟨⟨o1, q1, rfl⟩, ⟨o2, q2, rfl⟩⟩ := hl1.slices
           clear hrow1 hl1 hf1 hb1)
        | go_in)
      exact ⟨⟨k + 1, by omega, by go_num, HS1.out⟩, by simp [intOf]; omega⟩
    · have e : k = kids.length := by omega
      subst e
      have HD := Lib.hid (hr.out.done (by unfold maxLen; omega))
      go_wp2
      go_ret
      obtain ⟨F', g1, g2, g3⟩ := HD.out
      exact ⟨_, F', rfl, g1, g2, g3⟩

/-- A function that answers a node out of its own block. -/
theorem ret_node {fn : Func} {i : Nat} (hres : fn.results = #[ResultVar.cell i 29]) {tmps : Array Value} {w : World} {b : Nat} {t : TypeId} {a0 a1 a2 a3 a4 : Value}
    (ht : tmps[i]?.getD undef = .pointer (some ⟨b, 0, none⟩)) (h : w.heap[b]? = some (.cells #[a0, a1, a2, a3, a4] t (0, 0))) : (results fn tmps).run Try.prog w = .ok (.agg #[a0, a1, a2, a3, a4]) w := by
  obtain ⟨c0, c1, c2, c3, c4, -⟩ := five h
  simp [results, hres, ht, go_sem, c0, c1, c2, c3, c4]

/-- Three new blocks. -/
theorem zero_blocks (w : World) (a b c : Obj) : (((w.alloc a).alloc b).alloc c).heap[w.heap.size]? = some a ∧ (((w.alloc a).alloc b).alloc c).heap[w.heap.size + 1]? = some b ∧ (((w.alloc a).alloc b).alloc c).heap[w.heap.size + 1 + 1]? = some c ∧
    Below w.heap.size w (((w.alloc a).alloc b).alloc c) ∧ (((w.alloc a).alloc b).alloc c).heap.size = w.heap.size + 3 := by
  have e1 : (w.alloc a).heap.size = w.heap.size + 1 := by simp
  have e2 : ((w.alloc a).alloc b).heap.size = w.heap.size + 1 + 1 := by simp
  refine ⟨?_, ?_, ?_, ((((Below.refl _ w).alloc (Nat.le_refl _) _).alloc (by simp) _).alloc (by simp; omega) _), by simp⟩
  · rw [Below.heap_alloc _ _ _ (by simp; omega), Below.heap_alloc _ _ _ (by simp), heap_last]
  · rw [Below.heap_alloc _ _ _ (by simp), ← e1, heap_last]
  · rw [← e2, heap_last]

set_option maxHeartbeats 800000 in
theorem to_node (T : RT) : ToAt T := by
  induction T using RT.ind with
  | h k n s keys kids ih =>
    intro w kv dv F hl h1
    obtain ⟨hk, hn, hs, FK, FD, hK, hD, -⟩ := hl.outn
    clear hl
    rw [RT.sz] at h1
    have HK := Lib.hid fun (wr : World) (hb : Below w.heap.size w wr) => to_strs wr (hK.stay hb (Nat.le_refl _)) (by omega)
    have HD := Lib.hid fun (wr : World) (hb : Below w.heap.size w wr) => to_kids ih wr (hD.stay hb (Nat.le_refl _)) (by omega)
    have HF : Hid (Fit k ∧ Fit n ∧ s.size ≤ maxLen) := ⟨hk, hn, hs⟩
    clear hK hD ih hk hn hs
    show Calls Try.prog 7 #[.agg #[.int .i64 k, .int .i64 n, .string s, kv, dv]] w fun e w' => ∃ kv' dv' F', e = .returned (.agg #[.int .i64 k, .int .i64 n, .string s, kv', dv']) ∧ Lies w' (.node k n s keys kids) kv' dv' F' ∧ Fresh w w' F' ∧ Below w.heap.size w w'
    have Z := zero_blocks w (.cells #[.int .i64 k, .int .i64 n, .string s, kv, dv] 25) (.cells #[.int .i64 0, .int .i64 0, .string ⟨#[]⟩, .slice none 0 0, .slice none 0 0] 29) (.cells #[.int .i64 k, .int .i64 n, .string s, .slice none 0 0, .slice none 0 0] 29)
    have HZ := Lib.hid Z
    clear Z
    go_enter Try.func7, Try.ntmps7
    go_wp2_with (first
      | (go_at_call 18; refine (HK.out _ HZ.out.2.2.2.1).mono ?_; rintro e w1 ⟨kv', F1, rfl, hs1, hf1, hb1⟩
         obtain ⟨z0, z1, z2, z3, z4⟩ := HZ.out
         have b0 := (hb1.block _ (by rw [z4]; omega)).trans z0
         have b1 := (hb1.block _ (by rw [z4]; omega)).trans z1
         have b2 := (hb1.block _ (by rw [z4]; omega)).trans z2
         have q1 : w.heap.size + 3 ≤ w1.heap.size := by rw [← z4]; exact hb1.size
         have hB1 := z3.trans (hb1.mono z3.size)
         obtain ⟨o1, p1, rfl⟩ := hs1.slice
         obtain ⟨-, -, -, -, x4, -⟩ := five b0
         obtain ⟨y0, y1, y2, y3, y4, y5⟩ := five b2
         have HX1 := Lib.hid (And.intro b0 (And.intro b1 (And.intro b2 (And.intro hB1 (And.intro hs1 (And.intro hf1 (And.intro hb1 q1)))))))
         clear b0 b1 b2 hB1 hs1 hf1 hb1 q1 z0 z1 z2 z3 z4)
      | (go_at_call 19
         go_loud (
         obtain ⟨b0, b1, b2, hB1, hs1, hf1, hb1, q1⟩ := HX1.out
         refine (HD.out _ (hB1.setCell (by show _ ≤ w.heap.size + 1 + 1; omega) _)).mono ?_; rintro e w2 ⟨dv', F2, rfl, hk2, hf2, hb2⟩
         have q2 : (w1.setCell ⟨w.heap.size + 1 + 1, 3, none⟩ (Value.slice o1 keys.length p1)).heap.size = w1.heap.size := by simp [World.setCell]
         have d1 := (hb2.block _ (by rw [q2]; omega)).trans ((Below.heap_setCell w1 ⟨w.heap.size + 1 + 1, 3, none⟩ (Value.slice o1 keys.length p1) (w.heap.size + 1) (by show _ ≠ w.heap.size + 1 + 1; omega)).trans b1)
         have d2 := (hb2.block _ (by rw [q2]; omega)).trans (heap_set b2 3 (Value.slice o1 keys.length p1))
         have hB2 := (hB1.setCell (p := ⟨w.heap.size + 1 + 1, 3, none⟩) (by show _ ≤ w.heap.size + 1 + 1; omega) (Value.slice o1 keys.length p1)).trans (hb2.mono (by rw [q2]; omega))
         obtain ⟨o2, p2, rfl⟩ := hk2.slice
         obtain ⟨g0, g1, g2, g3, g4, g5⟩ := five d1
         have d3 : w2.heap[w.heap.size + 1 + 1]? = some (Obj.cells #[.int .i64 k, .int .i64 n, .string s, .slice o1 keys.length p1, .slice none 0 0] 29 (0, 0)) := d2
         obtain ⟨e0, e1, e2, e3, e4, e5⟩ := five d3
         have HX2 := Lib.hid (And.intro hB2 (And.intro hk2 (And.intro hf2 (And.intro hb2 q2))))
         clear b0 b1 b2 hB1 hs1 hf1 hb1 q1 d1 d2 d3 hB2 hk2 hf2 hb2 q2))
      | go_in)
    obtain ⟨-, b1, -, hB1, hs1, hf1, hb1, q1⟩ := HX1.out
    obtain ⟨hB2, hk2, hf2, hb2, q2⟩ := HX2.out
    have hz := HZ.out.2.2.2.2
    have d1 := (hb2.block _ (by rw [q2]; omega)).trans ((Below.heap_setCell w1 ⟨w.heap.size + 1 + 1, 3, none⟩ (Value.slice o1 keys.length p1) (w.heap.size + 1) (by show _ ≠ w.heap.size + 1 + 1; omega)).trans b1)
    have hend := set5_end ((Below.heap_setCell w2 ⟨w.heap.size + 1 + 1, 4, none⟩ (.slice o2 kids.length p2) (w.heap.size + 1) (by show _ ≠ w.heap.size + 1 + 1; omega)).trans d1) (.int .i64 k) (.int .i64 n) (.string s) (.slice o1 keys.length p1) (.slice o2 kids.length p2)
    have hkeep : ∀ b, b ≠ w.heap.size + 1 → b ≠ w.heap.size + 1 + 1 → (set5 (w2.setCell ⟨w.heap.size + 1 + 1, 4, none⟩ (.slice o2 kids.length p2)) (w.heap.size + 1) 0 (.int .i64 k) (.int .i64 n) (.string s) (.slice o1 keys.length p1) (.slice o2 kids.length p2)).heap[b]? = w2.heap[b]? := fun b n1 n2 => by
      rw [set5_other _ _ _ _ _ _ _ _ _ n1, Below.heap_setCell _ _ _ _ n2]
    have hW := set5_below ((hB2.setCell (p := ⟨w.heap.size + 1 + 1, 4, none⟩) (by show _ ≤ w.heap.size + 1 + 1; omega) (.slice o2 kids.length p2))) (b := w.heap.size + 1) (by omega) 0 (.int .i64 k) (.int .i64 n) (.string s) (.slice o1 keys.length p1) (.slice o2 kids.length p2)
    have hF1 : ∀ b ∈ F1, w.heap.size + 3 ≤ b ∧ b < w1.heap.size := fun b hb => ⟨by have := hf1.old b hb; omega, hs1.lt b hb⟩
    have hF2 : ∀ b ∈ F2, w1.heap.size ≤ b := fun b hb => by have := hf2.old b hb; omega
    have k1 : ∀ b ∈ F1, (set5 (w2.setCell ⟨w.heap.size + 1 + 1, 4, none⟩ (.slice o2 kids.length p2)) (w.heap.size + 1) 0 (.int .i64 k) (.int .i64 n) (.string s) (.slice o1 keys.length p1) (.slice o2 kids.length p2)).heap[b]? = w1.heap[b]? := fun b hb => by
      obtain ⟨g1, g2⟩ := hF1 b hb
      rw [hkeep b (by omega) (by omega), hb2.block b (by omega), Below.heap_setCell _ _ _ _ (by show _ ≠ w.heap.size + 1 + 1; omega)]
    have k2 : ∀ b ∈ F2, (set5 (w2.setCell ⟨w.heap.size + 1 + 1, 4, none⟩ (.slice o2 kids.length p2)) (w.heap.size + 1) 0 (.int .i64 k) (.int .i64 n) (.string s) (.slice o1 keys.length p1) (.slice o2 kids.length p2)).heap[b]? = w2.heap[b]? := fun b hb => by
      have := hF2 b hb
      exact hkeep b (by omega) (by omega)
    refine bodyPost_ret (ret_node Try.results7 rfl hend) rfl ⟨_, _, F1 ++ F2, rfl, Lies.into HF.out.1 HF.out.2.1 HF.out.2.2 (hs1.carry k1) (hk2.carry k2), ?_, hW⟩
    exact ((hf1.carry k1).earlier (by omega)).append (fun b hb => (hF1 b hb).2) ((hf2.carry k2).earlier (by omega)) (by omega)
end Go.Proofs.Ytbcgkpkkhinkcaa
