/-
  What is proved: the laws' markText tells a text of a number; markStringS, markNodeS and markNode write these texts and numbers into the lists of a tree, and into nothing else; heldStringS, heldNodeS and heldNode find them there.; the laws' markNodeS and markNode write their marks into the lists of a tree whose lists lie apart, and into nothing else.; the laws' markNode marks a whole tree; heldStringS, heldNodeS and heldNode find the marks where they are.; the laws' heldNodeS and heldNode find the marks of a tree where they are.; the laws' eqNode tells whether two trees are the same.
-/
import Derived.Test.YtfmkhogpnnobeaaGreatDoorPartAA
import Derived.WalkLawsBesides
import Derived.ProofKit
import Derived.Laws.IdiomStrings
import Derived.Deep.RegionHeld3
/- the laws' markText tells a text of a number; markStringS, markNodeS and markNode write these texts and numbers into the lists of a tree, and into nothing else; heldStringS, heldNodeS and heldNode find them there. -/
namespace Go.Proofs.YtfmkhogpnnobeaaGreatDoor
open Go Go.RowKit

/-- What markText makes of a number, ahead of what it has. -/
def mkGo (k : Nat) (out : ByteArray) : ByteArray :=
  if _h : k = 0 then out else mkGo (k / 10) ((ByteArray.mk #[48 + UInt8.ofNat (k % 10)]) ++ out)
termination_by k
decreasing_by omega

def markTxt (k : Nat) : ByteArray := (ByteArray.mk #[109]) ++ mkGo k ⟨#[]⟩

theorem mkGo_size (k : Nat) (out : ByteArray) : (mkGo k out).size ≤ k + out.size := by
  induction k using Nat.strongRecOn generalizing out with
  | _ k ih =>
    rw [mkGo]
    split
    · omega
    · have h := ih (k / 10) (by omega) ((ByteArray.mk #[48 + UInt8.ofNat (k % 10)]) ++ out)
      rw [ByteArray.size_append] at h
      have e : (ByteArray.mk #[48 + UInt8.ofNat (k % 10)]).size = 1 := rfl
      omega

theorem markTxt_size (k : Nat) (h : k ≤ 1000000000000) : (markTxt k).size ≤ maxLen := by
  unfold markTxt
  rw [ByteArray.size_append]
  have h1 := mkGo_size k ⟨#[]⟩
  have e : (ByteArray.mk #[109]).size = 1 := rfl
  have e2 : (ByteArray.mk #[]).size = 0 := rfl
  unfold maxLen
  omega

/-- 'string([]byte{x})' in the world in which that row has just been laid. -/
theorem mark_conv (w : World) (x : Int) : (convert 123 9 (.slice (some ⟨w.heap.size, 0, none⟩) 1 1)).run Tryz.prog (w.alloc (.cells #[.int .u8 x] 5)) = .ok (.string ⟨#[UInt8.ofNat x.toNat]⟩) (w.alloc (.cells #[.int .u8 x] 5)) := by
  rw [run_convert_bytes_string _ 123 9 5 _ 1 1 Tryz.underlying123 Tryz.underlying5 Tryz.underlying9]
  have hl := run_loadCells_list (P := Tryz.prog) (w.alloc (.cells #[.int .u8 x] 5)) ⟨w.heap.size, 0, none⟩ [Value.int .u8 x] (fun j v hj => by
    have h := World.cell?_alloc_mark w #[.int .u8 x] 5 (0, 0) j
    cases j with
    | zero => simp at hj; subst hj; simp [Addr.add]
    | succ j => simp at hj)
  rw [run_bytesToString _ _ 1 1 [x] hl]
  rfl

theorem few {q n : Nat} (h0 : 0 < q) (h : q * 10 ^ n ≤ 1000000000000) : n ≤ 12 := by
  have h1 : 10 ^ n ≤ 10 ^ 12 := by
    have : 1 * 10 ^ n ≤ q * 10 ^ n := Nat.mul_le_mul_right _ h0
    omega
  exact (Nat.pow_le_pow_iff_right (by decide)).1 h1

theorem fewer {q n : Nat} (h : q * 10 ^ n ≤ 1000000000000) : q / 10 * 10 ^ (n + 1) ≤ 1000000000000 := by
  have : q / 10 * 10 ^ (n + 1) = q / 10 * 10 * 10 ^ n := by rw [Nat.pow_succ, Nat.mul_assoc, Nat.mul_comm 10]
  rw [this]
  exact Nat.le_trans (Nat.mul_le_mul_right _ (by omega)) h

set_option maxHeartbeats 400000 in
theorem mark_text (k : Nat) (h0 : 0 < k) (h1 : k ≤ 1000000000000) (w : World) :
    Calls Tryz.prog 81 #[.int .i64 k] w fun e w' => e = .returned (.string (markTxt k)) ∧ Below w.heap.size w w' := by
  go_enter Tryz.func81, Tryz.ntmps81
  go_wp2
  go_loopw [0, 3] (fun i o wr => ∃ (q : Nat) (out : ByteArray), Hid (q * 10 ^ out.size ≤ 1000000000000) ∧ out.size ≤ 13 ∧ q ≤ 1000000000000 ∧ i = .int .i64 q ∧ o = .string out ∧ Hid (mkGo q out = mkGo k ⟨#[]⟩) ∧ Hid (Below w.heap.size w wr)) (fun i _ _ => (intOf i).toNat)
  case atStart => exact ⟨k, ⟨#[]⟩, by show k * 10 ^ 0 ≤ _; omega, by decide, h1, rfl, rfl, rfl, Below.refl _ _⟩
  case round =>
    obtain ⟨q, out, hp, hs, hq, rfl, rfl, hr, hb⟩ := hrel
    by_cases hlt : 0 < q
    · have h12 := few hlt hp.out
      have HP := Lib.hid (fewer hp.out)
      have HM : Hid (mkGo (q / 10) ((ByteArray.mk #[48 + UInt8.ofNat (q % 10)]) ++ out) = mkGo k ⟨#[]⟩) := by
        have := hr.out
        rw [mkGo, dif_neg (by omega)] at this
        exact this
      have kc := mark_conv wr
      have hsz : ((ByteArray.mk #[48 + UInt8.ofNat (q % 10)]) ++ out).size = out.size + 1 := by
        rw [ByteArray.size_append]
        show 1 + out.size = _
        omega
      have HZ := Lib.hid hsz
      clear hsz
      go_wp2
      exact ⟨⟨q / 10, _, by show _ ≤ _; rw [HZ.out]; exact HP.out, by rw [HZ.out]; omega, by omega, by go_num, rfl, HM.out, hb.out.alloc hb.out.size _⟩, by simp [intOf]; omega⟩
    · have e : q = 0 := by omega
      subst e
      have HE : Hid (out = mkGo k ⟨#[]⟩) := by
        have := hr.out
        rw [mkGo, dif_pos rfl] at this
        exact this
      go_wp2
      go_ret
      refine ⟨?_, hb.out⟩
      unfold markTxt
      rw [← HE.out]
      rfl

/-! ### What is written -/

/-- The blocks of F alone may have turned; all others that were there are as they were. -/
structure But (F : List Nat) (w w' : World) : Prop where
  os : w'.os = w.os
  tape : w'.tape = w.tape
  output : w'.output = w.output
  size : w.heap.size ≤ w'.heap.size
  block : ∀ k, k < w.heap.size → k ∉ F → w'.heap[k]? = w.heap[k]?
  free : ∀ k, k < w.heap.size → ∀ o, w'.frozen? ⟨k, o, none⟩ = w.frozen? ⟨k, o, none⟩
  room : ∀ k, k < w.heap.size → ∀ o, (w.cell? ⟨k, o, none⟩).isSome = true → (w'.cell? ⟨k, o, none⟩).isSome = true

theorem But.of_below {F : List Nat} {w w' : World} (h : Below w.heap.size w w') : But F w w' :=
  ⟨h.os, h.tape, h.output, h.size, fun k hk _ => h.block k hk, fun k hk _ => World.frozen?_of_block (w := w) (h.block k hk), fun k hk o ho => by rw [World.cell?_of_block (w := w) (a := ⟨k, o, none⟩) (h.block k hk)]; exact ho⟩

theorem But.refl (F : List Nat) (w : World) : But F w w := .of_below (Below.refl _ w)

theorem But.trans {F : List Nat} {a b c : World} (h : But F a b) (k : But F b c) : But F a c :=
  ⟨k.os.trans h.os, k.tape.trans h.tape, k.output.trans h.output, Nat.le_trans h.size k.size, fun i hi hF => (k.block i (Nat.lt_of_lt_of_le hi h.size) hF).trans (h.block i hi hF),
    fun i hi o => (k.free i (Nat.lt_of_lt_of_le hi h.size) o).trans (h.free i hi o), fun i hi o ho => k.room i (Nat.lt_of_lt_of_le hi h.size) o (h.room i hi o ho)⟩

theorem But.mono {F G : List Nat} {a b : World} (h : But F a b) (hs : ∀ x ∈ F, x ∈ G) : But G a b :=
  ⟨h.os, h.tape, h.output, h.size, fun i hi hG => h.block i hi (fun hF => hG (hs i hF)), h.free, h.room⟩

theorem But.cell {F : List Nat} {a b : World} (h : But F a b) {k : Nat} (hk : k < a.heap.size) (hF : k ∉ F) (o : Nat) : b.cell? ⟨k, o, none⟩ = a.cell? ⟨k, o, none⟩ :=
  World.cell?_of_block (w := a) (h.block k hk hF)

theorem frozen_set (w : World) (a : Addr) (v : Value) (k o : Nat) : (w.setCell a v).frozen? ⟨k, o, none⟩ = w.frozen? ⟨k, o, none⟩ := World.frozen?_setCell w a ⟨k, o, none⟩ v

theorem But.set {F : List Nat} {a w : World} (h : But F a w) {p : Addr} (hp : p.block ∈ F) (v : Value) : But F a (w.setCell p v) :=
  h.trans ⟨rfl, rfl, rfl, by simp [World.setCell], fun k _ hF => Below.heap_setCell _ _ _ _ (fun e => hF (e ▸ hp)), fun k _ o => frozen_set w p v k o, fun k _ o ho => by
    obtain ⟨u, hu⟩ := Option.isSome_iff_exists.1 ho
    obtain ⟨u', hu'⟩ := cell?_setCell_some (p := p) (x := v) hu
    rw [hu']; rfl⟩

theorem Room.but {F : List Nat} {w w' : World} {b off n : Nat} (h : Room w b off n) (hb : But F w w') : Room w' b off n := fun i hi => hb.room b (h.lt (by omega)) _ (h i hi)

/-- What lies outside F lies there still. -/
theorem Lies.but {w w' : World} {T : RT} {kv dv : Value} {F G : List Nat} (h : Lies w T kv dv F) (hb : But G w w') (hd : ∀ b ∈ F, b ∉ G) : Lies w' T kv dv F :=
  h.carry fun b hF => hb.block b (h.lt b hF) (hd b hF)

/-- The texts that markStringS writes. -/
def markStrs (n k : Nat) : List ByteArray := (List.range n).map fun i => markTxt (k + i)

theorem markStrs_length (n k : Nat) : (markStrs n k).length = n := by simp [markStrs]

mutual
/-- How many marks a tree takes; its head takes none. -/
def RT.cnt : RT → Nat
  | .node _ _ _ keys kids => keys.length + cntAll kids
def cntAll : List RT → Nat
  | [] => 0
  | t :: ts => 3 + t.cnt + cntAll ts
end

mutual
/-- A tree with its marks. -/
def RT.mark : RT → Nat → RT
  | .node a n s keys kids, k => .node a n s (markStrs keys.length k) (markAll kids (k + keys.length))
def markAll : List RT → Nat → List RT
  | [], _ => []
  | t :: ts, k => .node k (k + 1 : Nat) (markTxt (k + 2)) (t.mark (k + 3)).keys (t.mark (k + 3)).kids :: markAll ts (k + 3 + t.cnt)
end

theorem markAll_length (l : List RT) (k : Nat) : (markAll l k).length = l.length := by
  induction l generalizing k with
  | nil => rfl
  | cons t l ih => simp [markAll, ih]


theorem cntAll_take (l : List RT) (i : Nat) (h : i < l.length) : cntAll (l.take (i + 1)) = cntAll (l.take i) + (3 + l[i].cnt) := by
  induction l generalizing i with
  | nil => simp at h
  | cons t l ih =>
    cases i with
    | zero => simp [cntAll]
    | succ i =>
      have := ih i (by simpa using h)
      simp only [List.take_succ_cons, cntAll, List.getElem_cons_succ]
      omega

theorem cntAll_take_le (l : List RT) (i : Nat) : cntAll (l.take i) ≤ cntAll l := by
  induction l generalizing i with
  | nil => simp
  | cons t l ih =>
    cases i with
    | zero => simp [cntAll]
    | succ i =>
      have := ih i
      simp only [List.take_succ_cons, cntAll]
      omega

theorem cnt_node (T : RT) : T.cnt = T.keys.length + cntAll T.kids := by cases T; rfl

theorem mark_keys (T : RT) (k : Nat) : (T.mark k).keys = markStrs T.keys.length k := by cases T; rfl
theorem mark_kids (T : RT) (k : Nat) : (T.mark k).kids = markAll T.kids (k + T.keys.length) := by cases T; rfl

/-- The i-th of a list of trees with its marks. -/
def markOne (T : RT) (k : Nat) : RT := .node k (k + 1 : Nat) (markTxt (k + 2)) (markStrs T.keys.length (k + 3)) (markAll T.kids (k + 3 + T.keys.length))

theorem markAll_get (l : List RT) (k i : Nat) (h : i < l.length) : (markAll l k)[i]'(by rw [markAll_length]; exact h) = markOne l[i] (k + cntAll (l.take i)) := by
  induction l generalizing i k with
  | nil => simp at h
  | cons t l ih =>
    cases i with
    | zero => simp [markAll, markOne, cntAll, mark_keys, mark_kids]
    | succ i =>
      have := ih (k + 3 + t.cnt) i (by simpa using h)
      simp only [markAll, List.getElem_cons_succ, List.take_succ_cons, cntAll]
      rw [this]
      congr 1
      omega

theorem set_cell {w : World} {b o : Nat} {u : Value} (h : w.cell? ⟨b, o, none⟩ = some u) (v : Value) (o' : Nat) : (w.setCell ⟨b, o, none⟩ v).cell? ⟨b, o', none⟩ = if o' = o then some v else w.cell? ⟨b, o', none⟩ := by
  by_cases e : o' = o
  · subst e
    rw [if_pos rfl, World.cell?_setCell_same _ _ _ h]
  · rw [if_neg e, World.cell?_setCell_other _ _ _ _ (fun h => e (by injection h with _ h2; exact h2.symm))]

set_option maxHeartbeats 400000 in
theorem mark_strs {v : Value} {ks : List ByteArray} {F : List Nat} (w : World) (hs : StrsAt w v ks F) (hf : ∀ b ∈ F, ∀ o, w.frozen? ⟨b, o, none⟩ = false) (k : Nat) (h0 : 0 < k) (h1 : k + ks.length ≤ 1000000000) :
    Calls Tryz.prog 38 #[v, .int .i64 k] w fun e w' => e = .returned (.int .i64 (k + ks.length : Nat)) ∧ StrsAt w' v (markStrs ks.length k) F ∧ But F w w' := by
  obtain ⟨o, cap, b, off, rfl, hlc, hcm, ho, hFe, hcell, hroom⟩ := hs
  have HC := Lib.hid hcell
  have HRm := Lib.hid hroom
  have HO := Lib.hid ho
  have HF := Lib.hid hf
  have HFe := Lib.hid hFe
  clear hcell ho hf hFe hroom
  go_enter Tryz.func38, Tryz.ntmps38
  go_wp2
  go_loopw [1, 5] (fun l i wr => ∃ j : Nat, j ≤ ks.length ∧ i = .int .i64 j ∧ l = .int .i64 (k + j : Nat) ∧ Hid (But F w wr ∧ (∀ q (h : q < ks.length), wr.cell? ⟨b, off + q, none⟩ = some (.string (if q < j then markTxt (k + q) else ks[q]))) ∧ Room wr b off cap)) (fun _ i _ => ks.length - (intOf i).toNat)
  case atStart => exact ⟨0, Nat.zero_le _, rfl, rfl, But.refl _ _, fun q h => (by rw [if_neg (by omega)]; exact (HC.out q h).1), HRm.out⟩
  case round =>
    obtain ⟨j, hj, rfl, rfl, hr⟩ := hrel
    by_cases hlt : j < ks.length
    · have ho := HO.out (by omega)
      subst ho
      have HT := Lib.hid (mark_text (k + j) (by omega) (by omega) wr)
      have HW : Hid (b < wr.heap.size) := World.block_lt_of_cell? _ _ (hr.out.2.1 j hlt)
      go_wp2_with (first
        | (go_at_call 81; refine HT.out.mono ?_; rintro e w1 ⟨rfl, hb1⟩
           have hB := Lib.hid hb1
           have r0 : w1.cell? ⟨b, off + j, none⟩ = _ := (hb1.cell (by exact HW.out)).trans (hr.out.2.1 j hlt)
           have r1 : w1.frozen? ⟨b, off + j, none⟩ = false := (hb1.frozen (by exact HW.out)).trans ((hr.out.1.free b (World.block_lt_of_cell? _ _ (HC.out j hlt).1) _).trans (HF.out b (by rw [HFe.out, if_neg (by omega)]; simp) _))
           clear hb1)
        | go_in)
      refine ⟨⟨j + 1, by omega, by go_num, by go_num, (hr.out.1.trans (But.of_below hB.out)).set (by rw [HFe.out, if_neg (by omega)]; simp) _, fun q h => ?_, (hr.out.2.2.below hB.out).set _ _⟩, by simp [intOf]; omega⟩
      rw [set_cell r0]
      by_cases e : q = j
      · subst e
        rw [if_pos rfl, if_pos (by omega)]
      · rw [if_neg (by omega), hB.out.cell (by exact HW.out), hr.out.2.1 q h]
        by_cases e2 : q < j
        · rw [if_pos e2, if_pos (by omega)]
        · rw [if_neg e2, if_neg (by omega)]
    · have e : j = ks.length := by omega
      subst e
      go_wp2
      go_ret
      refine ⟨rfl, ⟨o, cap, b, off, by rw [markStrs_length], by rw [markStrs_length]; exact hlc, hcm, HO.out, HFe.out, fun i hi => ?_, hr.out.2.2⟩, hr.out.1⟩
      rw [markStrs_length] at hi
      refine ⟨?_, ?_⟩
      · rw [hr.out.2.1 i hi, if_pos hi]
        simp [markStrs]
      · simp only [markStrs, List.getElem_map, List.getElem_range]
        exact markTxt_size _ (by omega)
end Go.Proofs.YtfmkhogpnnobeaaGreatDoor

/- the laws' markNodeS and markNode write their marks into the lists of a tree whose lists lie apart, and into nothing else. -/
namespace Go.Proofs.YtfmkhogpnnobeaaGreatDoor
open Go Go.RowKit

theorem flat_apart {FF : Nat → List Nat} {n : Nat} (h : ((List.range n).flatMap FF).Nodup) : (∀ i, i < n → (FF i).Nodup) ∧ ∀ i j, i < n → j < n → i ≠ j → ∀ x ∈ FF i, x ∉ FF j := by
  induction n with
  | zero => exact ⟨fun i hi => absurd hi (by omega), fun i j hi => absurd hi (by omega)⟩
  | succ n ih =>
    rw [List.range_succ, List.flatMap_append] at h
    simp only [List.flatMap_cons, List.flatMap_nil, List.append_nil] at h
    obtain ⟨h1, h2, h3⟩ := List.nodup_append.1 h
    obtain ⟨i1, i2⟩ := ih h1
    have mem : ∀ i, i < n → ∀ x ∈ FF i, x ∈ (List.range n).flatMap FF := fun i hi x hx => List.mem_flatMap.2 ⟨i, List.mem_range.2 hi, hx⟩
    refine ⟨fun i hi => ?_, fun i j hi hj hij x hx hx' => ?_⟩
    · by_cases e : i = n
      · subst e; exact h2
      · exact i1 i (by omega)
    · by_cases e : i = n
      · subst e
        exact h3 x (mem j (by omega) x hx') x hx rfl
      · by_cases e2 : j = n
        · subst e2
          exact h3 x (mem i (by omega) x hx) x hx' rfl
        · exact i2 i j (by omega) (by omega) hij x hx hx'

/-- A row of trees, some of which have their marks: all that has turned lies in F. -/
structure MState (F : List Nat) (w wr : World) (b off n : Nat) (KV DV : Nat → Value) (FF : Nat → List Nat) (M : Nat → RT) : Prop where
  but : But F w wr
  row : ∀ j, j < n → ∀ c, c < 5 → wr.cell? ⟨b, off + j * 5 + c, none⟩ = ((M j).row (KV j) (DV j))[c]?
  lie : ∀ j, j < n → Lies wr (M j) (KV j) (DV j) (FF j)

theorem MState.step {F : List Nat} {w wr w' : World} {b off n : Nat} {KV DV : Nat → Value} {FF : Nat → List Nat} {M : Nat → RT} (h : MState F w wr b off n KV DV FF M) {i : Nat} (hi : i < n) (X : RT)
    (hbF : b ∈ F) (hbF' : ∀ j, j < n → b ∉ FF j) (hFF : ∀ x ∈ FF i, x ∈ F) (hap : ∀ j, j < n → j ≠ i → ∀ x ∈ FF j, x ∉ FF i)
    (hbut : But (b :: FF i) wr w') (hrow : ∀ c, c < 5 → w'.cell? ⟨b, off + i * 5 + c, none⟩ = (X.row (KV i) (DV i))[c]?)
    (hoth : ∀ j, j < n → j ≠ i → ∀ c, c < 5 → w'.cell? ⟨b, off + j * 5 + c, none⟩ = wr.cell? ⟨b, off + j * 5 + c, none⟩) (hl : Lies w' X (KV i) (DV i) (FF i)) :
    MState F w w' b off n KV DV FF (fun j => if j = i then X else M j) where
  but := h.but.trans (hbut.mono fun x hx => by
    rcases List.mem_cons.1 hx with e | e
    · rw [e]; exact hbF
    · exact hFF x e)
  row := fun j hj c hc => by
    by_cases e : j = i
    · subst e
      simp only [if_true]
      exact hrow c hc
    · simp only [e, if_false]
      rw [hoth j hj e c hc]
      exact h.row j hj c hc
  lie := fun j hj => by
    by_cases e : j = i
    · subst e
      simp only [if_true]
      exact hl
    · simp only [e, if_false]
      refine (h.lie j hj).but hbut fun x hx hx' => ?_
      rcases List.mem_cons.1 hx' with e' | e'
      · exact hbF' j hj (e' ▸ hx)
      · exact hap j hj e x hx e'

/-- The first three cells of a node, written, with a call between. -/
theorem mark_head {wr w1 : World} {b p : Nat} {x : RT} {kv dv : Value} (q : Nat) (hrow : ∀ c, c < 5 → wr.cell? ⟨b, p + c, none⟩ = (x.row kv dv)[c]?)
    (hb1 : Below ((wr.setCell ⟨b, p, none⟩ (.int .i64 (q : Nat))).setCell ⟨b, p + 1, none⟩ (.int .i64 (q + 1 : Nat))).heap.size ((wr.setCell ⟨b, p, none⟩ (.int .i64 (q : Nat))).setCell ⟨b, p + 1, none⟩ (.int .i64 (q + 1 : Nat))) w1) :
    But [b] wr (w1.setCell ⟨b, p + 2, none⟩ (.string (markTxt (q + 2)))) ∧ (∀ c, c < 5 → (w1.setCell ⟨b, p + 2, none⟩ (.string (markTxt (q + 2)))).cell? ⟨b, p + c, none⟩ = ((markOne x q).row kv dv)[c]?) ∧
    (∀ o, (o < p ∨ p + 5 ≤ o) → (w1.setCell ⟨b, p + 2, none⟩ (.string (markTxt (q + 2)))).cell? ⟨b, o, none⟩ = wr.cell? ⟨b, o, none⟩) ∧ w1.cell? ⟨b, p + 2, none⟩ = some (.string x.s) ∧ w1.cell? ⟨b, p + 3, none⟩ = some kv ∧ w1.cell? ⟨b, p + 4, none⟩ = some dv ∧ But [b] wr w1 := by
  have c0 : wr.cell? ⟨b, p, none⟩ = some (.int .i64 x.k) := hrow 0 (by omega)
  have c1 : wr.cell? ⟨b, p + 1, none⟩ = some (.int .i64 x.n) := hrow 1 (by omega)
  have c2 : wr.cell? ⟨b, p + 2, none⟩ = some (.string x.s) := hrow 2 (by omega)
  have c3 : wr.cell? ⟨b, p + 3, none⟩ = some kv := hrow 3 (by omega)
  have c4 : wr.cell? ⟨b, p + 4, none⟩ = some dv := hrow 4 (by omega)
  have hlt : b < wr.heap.size := World.block_lt_of_cell? _ _ c0
  have hA1 : (wr.setCell ⟨b, p, none⟩ (.int .i64 (q : Nat))).cell? ⟨b, p + 1, none⟩ = some (.int .i64 x.n) := by rw [set_cell c0, if_neg (by omega)]; exact c1
  have hA : ∀ o, ((wr.setCell ⟨b, p, none⟩ (.int .i64 (q : Nat))).setCell ⟨b, p + 1, none⟩ (.int .i64 (q + 1 : Nat))).cell? ⟨b, o, none⟩ = if o = p + 1 then some (.int .i64 (q + 1 : Nat)) else if o = p then some (.int .i64 (q : Nat)) else wr.cell? ⟨b, o, none⟩ := fun o => by
    rw [set_cell hA1, set_cell c0]
  have hw1 : ∀ o, w1.cell? ⟨b, o, none⟩ = if o = p + 1 then some (.int .i64 (q + 1 : Nat)) else if o = p then some (.int .i64 (q : Nat)) else wr.cell? ⟨b, o, none⟩ := fun o => by
    rw [hb1.cell (by simp [World.setCell]; exact hlt), hA]
  have h2 : w1.cell? ⟨b, p + 2, none⟩ = some (.string x.s) := by rw [hw1, if_neg (by omega), if_neg (by omega)]; exact c2
  have hbut : But [b] wr w1 := ((((But.refl [b] wr).set (p := ⟨b, p, none⟩) (by simp) _).set (p := ⟨b, p + 1, none⟩) (by simp) _).trans (But.of_below hb1))
  refine ⟨hbut.set (by simp) _, fun c hc => ?_, fun o ho => ?_, h2, ?_, ?_, hbut⟩
  · rw [set_cell h2, hw1]
    match c, hc with
    | 0, _ => rw [if_neg (by omega), if_neg (by omega), if_pos (by omega)]; rfl
    | 1, _ => rw [if_neg (by omega), if_pos rfl]; rfl
    | 2, _ => rw [if_pos rfl]; rfl
    | 3, _ => rw [if_neg (by omega), if_neg (by omega), if_neg (by omega)]; exact c3
    | 4, _ => rw [if_neg (by omega), if_neg (by omega), if_neg (by omega)]; exact c4
  · rw [set_cell h2, hw1, if_neg (by omega), if_neg (by omega), if_neg (by omega)]
  · rw [hw1, if_neg (by omega), if_neg (by omega)]; exact c3
  · rw [hw1, if_neg (by omega), if_neg (by omega)]; exact c4

/-- What markNodeS does to the kids of one tree. -/
def MarkAt (T : RT) : Prop := ∀ (w : World) (dv : Value) (F : List Nat), KidsLie w dv T.kids F → F.Nodup → (∀ b ∈ F, ∀ o, w.frozen? ⟨b, o, none⟩ = false) → ∀ k : Nat, 0 < k → k + cntAll T.kids ≤ 1000000000 →
  Calls Tryz.prog 39 #[dv, .int .i64 k] w fun e w' => e = .returned (.int .i64 (k + cntAll T.kids : Nat)) ∧ KidsLie w' dv (markAll T.kids k) F ∧ But F w w'

set_option maxRecDepth 100000 in
set_option maxHeartbeats 1600000 in
theorem mark_nodes (T : RT) : MarkAt T := by
  induction T using RT.ind with
  | h kk nn ss keys kids ih =>
    intro w dv F hs hnd hfz k h0 h1
    have h1' : k + cntAll kids ≤ 1000000000 := h1
    clear h1
    show Calls Tryz.prog 39 #[dv, .int .i64 k] w fun e w' => e = .returned (.int .i64 (k + cntAll kids : Nat)) ∧ KidsLie w' dv (markAll kids k) F ∧ But F w w'
    obtain ⟨o, cap, b, off, FF, KV, DV, rfl, hlc, hcm, ho, hFe, hcell, hlies, hroom⟩ := (show KidsLie w dv kids F from hs)
    have HRm := Lib.hid hroom
    clear hs
    have H0 : Hid (MState F w w b off kids.length KV DV FF (fun j => kids.getD j default)) := by
      refine ⟨But.refl _ _, fun j hj => ?_, fun j hj => ?_⟩
      · simp only [List.getD, List.getElem?_eq_getElem hj, Option.getD_some]; exact hcell j hj
      · simp only [List.getD, List.getElem?_eq_getElem hj, Option.getD_some]; exact hlies j hj
    have HO := Lib.hid ho
    have HAp : Hid (0 < kids.length → b ∈ F ∧ (∀ j, j < kids.length → b ∉ FF j) ∧ (∀ i, i < kids.length → (∀ x ∈ FF i, x ∈ F) ∧ (FF i).Nodup ∧ ∀ j, j < kids.length → j ≠ i → ∀ x ∈ FF j, x ∉ FF i)) := by
      intro hp
      rw [if_neg (by omega)] at hFe
      rw [hFe] at hnd
      obtain ⟨_, n2, n3⟩ := List.nodup_append.1 hnd
      obtain ⟨a1, a2⟩ := flat_apart n2
      have mem : ∀ i, i < kids.length → ∀ x ∈ FF i, x ∈ (List.range kids.length).flatMap FF := fun i hi x hx => List.mem_flatMap.2 ⟨i, List.mem_range.2 hi, hx⟩
      refine ⟨by rw [hFe]; simp, fun j hj hb => n3 b (by simp) b (mem j hj b hb) rfl, fun i hi => ⟨fun x hx => by rw [hFe]; exact List.mem_append_right _ (mem i hi x hx), a1 i hi, fun j hj hji => a2 j i hj hi hji⟩⟩
    have HFe := Lib.hid hFe
    have HFz := Lib.hid hfz
    clear hcell hlies ho hFe hnd hfz hroom
    have hcm' := hcm
    unfold maxLen at hcm'
    go_enter Tryz.func39, Tryz.ntmps39
    go_wp2
    go_loopw [1, 5] (fun l i wr => ∃ j : Nat, j ≤ kids.length ∧ i = .int .i64 j ∧ l = .int .i64 (k + cntAll (kids.take j) : Nat) ∧ Hid (MState F w wr b off kids.length KV DV FF (fun q => if q < j then markOne (kids.getD q default) (k + cntAll (kids.take q)) else kids.getD q default))) (fun _ i _ => kids.length - (intOf i).toNat)
    case atStart =>
      refine ⟨0, Nat.zero_le _, rfl, by simp [cntAll], ?_⟩
      show MState _ _ _ _ _ _ _ _ _ _
      simp only [Nat.not_lt_zero, if_false]
      exact H0.out
    case round =>
      obtain ⟨j, hj, rfl, rfl, hr⟩ := hrel
      by_cases hlt : j < kids.length
      · have ho := HO.out (by omega)
        subst ho
        obtain ⟨hbF, hbF', hap⟩ := HAp.out (by omega)
        have hrow := hr.out.row j hlt
        have hlie := hr.out.lie j hlt
        have HB := Lib.hid hr.out.but
        have HR := Lib.hid hr
        clear hr
        have ecnt := cntAll_take kids j hlt
        have elt := cntAll_take_le kids (j + 1)
        simp only [Nat.lt_irrefl, if_false, List.getD, List.getElem?_eq_getElem hlt, Option.getD_some] at hrow hlie
        have hmem := ih _ (List.getElem_mem hlt)
        generalize hx : kids[j] = x at *
        have HX := Lib.hid hx
        rw [cnt_node] at ecnt
        generalize hq : k + cntAll (kids.take j) = q at *
        have hq0 : 0 < q := by omega
        have hqb : q + 3 + (x.keys.length + cntAll x.kids) ≤ 1000000000 := by omega
        have HQ := Lib.hid (And.intro hq ecnt)
        clear hx hq ecnt elt
        obtain ⟨fk, fn, fs, FK, FD, hK, hD, hFF⟩ := hlie.out
        obtain ⟨ap1, ap2, ap3⟩ := hap j hlt
        rw [hFF] at ap2
        obtain ⟨nd1, nd2, nd3⟩ := List.nodup_append.1 ap2
        have c0 : wr.cell? ⟨b, off + j * 5, none⟩ = some (.int .i64 x.k) := hrow 0 (by omega)
        have c1 : wr.cell? ⟨b, off + j * 5 + 1, none⟩ = some (.int .i64 x.n) := hrow 1 (by omega)
        have hbl : b < wr.heap.size := World.block_lt_of_cell? _ _ c0
        have hfr : ∀ x ∈ F, x < w.heap.size → ∀ o, wr.frozen? ⟨x, o, none⟩ = false := fun x hx hl o => (HB.out.free x hl o).trans (HFz.out x hx o)
        have hbw : b < w.heap.size := World.block_lt_of_cell? _ _ (H0.out.row 0 (by omega) 0 (by omega))
        have hFw : ∀ x ∈ FF j, x < w.heap.size := (H0.out.lie j hlt).lt
        have f0 : ∀ o, wr.frozen? ⟨b, o, none⟩ = false := hfr b hbF hbw
        have HY := Lib.hid (And.intro hrow (And.intro hlie (And.intro hK (And.intro hD (And.intro hFF (And.intro ap1 (And.intro ap3 (And.intro nd1 (And.intro nd2 (And.intro nd3 (And.intro hbF (And.intro hbF' (And.intro hbl (And.intro hfr (And.intro hFw hmem)))))))))))))))
        have HT := Lib.hid (mark_text (q + 2) (by omega) (by omega))
        clear hrow hlie hK hD hFF ap1 ap2 ap3 nd1 nd2 nd3 hbF hbF' hfr hFw hmem hap fk fn fs ih
        go_wp2_with (first
          | (go_at_call 81; refine (HT.out _).mono ?_; rintro e w1 ⟨rfl, hb1⟩
             obtain ⟨hrow, hlie, hK, hD, hFF, ap1, ap3, nd1, nd2, nd3, hbF, hbF', hbl, hfr, hFw, hmem⟩ := HY.out
             obtain ⟨m1, m2, m3, m4, m5, m6, m7⟩ := mark_head q hrow hb1
             have HM := Lib.hid (And.intro m1 (And.intro m2 m3))
             have f1 : ∀ o, w1.frozen? ⟨b, o, none⟩ = false := fun o => (m7.free b hbl o).trans (f0 o)
             clear hrow hlie hK hD hFF ap1 ap3 nd1 nd2 nd3 hbF hbF' hbl hfr hFw hmem m1 m2 m3 m7 hb1)
          | fail)
        obtain ⟨hrow, hlie, hK, hD, hFF, ap1, ap3, nd1, nd2, nd3, hbF, hbF', hbl, hfr, hFw, hmem⟩ := HY.out
        obtain ⟨m1, m2, m3⟩ := HM.out
        have hbK : ∀ c ∈ FK, c ∉ [b] := fun c hc hcb => hbF' j hlt (by simp at hcb; subst hcb; rw [hFF]; exact List.mem_append_left _ hc)
        have hbD : ∀ c ∈ FD, c ∉ [b] := fun c hc hcb => hbF' j hlt (by simp at hcb; subst hcb; rw [hFF]; exact List.mem_append_right _ hc)
        have hbK' : b ∉ FK := fun h => hbK b h (by simp)
        have hbD' : b ∉ FD := fun h => hbD b h (by simp)
        have hinK : ∀ c ∈ FK, c ∈ FF j := fun c hc => by rw [hFF]; exact List.mem_append_left _ hc
        have hinD : ∀ c ∈ FD, c ∈ FF j := fun c hc => by rw [hFF]; exact List.mem_append_right _ hc
        have e3 : ((q : Int) + 1 + 1 + 1) = ((q + 3 : Nat) : Int) := by omega
        rw [e3]
        refine (mark_strs _ (hK.carry fun c hc => m1.block c (hK.lt c hc) (hbK c hc)) (fun c hc o => (m1.free c (hK.lt c hc) o).trans (hfr c (ap1 c (hinK c hc)) (hFw c (hinK c hc)) o)) (q + 3) (by omega) (by omega)).mono ?_
        rintro e w2 ⟨rfl, hs2, hb2⟩
        have hsz : wr.heap.size ≤ (w1.setCell ⟨b, off + j * 5 + 2, none⟩ (.string (markTxt (q + 2)))).heap.size := m1.size
        have d4 : w2.cell? ⟨b, off + j * 5 + 4, none⟩ = some (DV j) := (hb2.cell (Nat.lt_of_lt_of_le hbl hsz) hbK' _).trans (m2 4 (by omega))
        have HZ := Lib.hid (And.intro hs2 (And.intro hb2 (And.intro hsz (And.intro hbK (And.intro hbD (And.intro hbK' (And.intro hbD' (And.intro hinK hinD))))))))
        clear hrow hlie hK hD hFF ap1 ap3 nd1 nd2 nd3 hbF hbF' hfr hFw hmem hs2 hb2 hsz hbK hbD hbK' hbD' hinK hinD m1 m2 m3 m4 m5 m6 c0 c1 f0 f1 hbl
        go_wp2_with fail
        obtain ⟨hrow, hlie, hK, hD, hFF, ap1, ap3, nd1, nd2, nd3, hbF, hbF', hbl, hfr, hFw, hmem⟩ := HY.out
        obtain ⟨m1, m2, m3⟩ := HM.out
        obtain ⟨hs2, hb2, hsz, hbK, hbD, hbK', hbD', hinK, hinD⟩ := HZ.out
        have m12 : But (b :: FF j) wr w2 := (m1.mono (fun x hx => by simp at hx; simp [hx])).trans (hb2.mono fun x hx => List.mem_cons_of_mem _ (hinK x hx))
        have hD2 : KidsLie w2 (DV j) x.kids FD := hD.carry fun c hc => (hb2.block c (Nat.lt_of_lt_of_le (hD.lt c hc) hsz) (fun hcK => nd3 c hcK c hc rfl)).trans (m1.block c (hD.lt c hc) (hbD c hc))
        refine (hmem w2 (DV j) FD hD2 nd2 (fun c hc o => (m12.free c (hD.lt c hc) o).trans (hfr c (ap1 c (hinD c hc)) (hFw c (hinD c hc)) o)) (q + 3 + x.keys.length) (by omega) (by omega)).mono ?_
        rintro e w3 ⟨rfl, hk3, hb3⟩
        have m13 : But (b :: FF j) wr w3 := m12.trans (hb3.mono fun x hx => List.mem_cons_of_mem _ (hinD x hx))
        have hcell : ∀ o, w3.cell? ⟨b, o, none⟩ = (w1.setCell ⟨b, off + j * 5 + 2, none⟩ (.string (markTxt (q + 2)))).cell? ⟨b, o, none⟩ := fun o =>
          (hb3.cell (Nat.lt_of_lt_of_le (Nat.lt_of_lt_of_le hbl hsz) hb2.size) hbD' o).trans (hb2.cell (Nat.lt_of_lt_of_le hbl hsz) hbK' o)
        have hL : Lies w3 (markOne x q) (KV j) (DV j) (FF j) := by
          rw [hFF]
          exact Lies.into ⟨by omega, by omega⟩ ⟨by omega, by omega⟩ (markTxt_size _ (by omega)) (hs2.carry fun c hc => hb3.block c (hs2.lt c hc) (fun hcD => nd3 c hc c hcD rfl)) hk3
        have HS := Lib.hid (HR.out.out.step hlt (markOne x q) hbF hbF' ap1 ap3 m13 (fun c hc => (hcell _).trans (m2 c hc)) (fun i hi hij c hc => (hcell _).trans (m3 _ (by omega))) hL)
        clear hrow hlie hK hD hFF ap1 ap3 nd1 nd2 nd3 hbF hbF' hfr hFw hmem hs2 hb2 hsz hbK hbD hbK' hbD' hinK hinD m1 m2 m3 m12 m13 hbl hk3 hb3 hcell hL hD2 d4
        go_wp2
        obtain ⟨q1, q2⟩ := HQ.out
        refine ⟨⟨j + 1, by omega, by go_num, ?_, ?_⟩, by simp [intOf]; omega⟩
        · congr 1; omega
        · have := HS.out
          show MState _ _ _ _ _ _ _ _ _ _
          have ef : (fun q' => if q' < j + 1 then markOne (kids.getD q' default) (k + cntAll (kids.take q')) else kids.getD q' default) = (fun q' => if q' = j then markOne x q else if q' < j then markOne (kids.getD q' default) (k + cntAll (kids.take q')) else kids.getD q' default) := by
            funext q'
            by_cases e1 : q' = j
            · subst e1
              rw [if_pos (by omega), if_pos rfl, q1]
              have : kids.getD q' default = x := by rw [← HX.out]; simp [List.getD, List.getElem?_eq_getElem hlt]
              rw [this]
            · by_cases e2 : q' < j
              · rw [if_pos (by omega), if_neg e1, if_pos e2]
              · rw [if_neg (by omega), if_neg e1, if_neg e2]
          rw [ef]
          exact this
      · have e : j = kids.length := by omega
        subst e
        go_wp2
        go_ret
        have hm := hr.out
        refine ⟨?_, ⟨o, cap, b, off, FF, KV, DV, by rw [markAll_length], by rw [markAll_length]; exact hlc, hcm, HO.out, by rw [markAll_length]; exact HFe.out, fun i hi c hc => ?_, fun i hi => ?_, HRm.out.but hm.but⟩, hm.but⟩
        · rw [List.take_of_length_le (Nat.le_refl _)]
          rfl
        · rw [markAll_length] at hi
          have := hm.row i hi c hc
          simp only [hi, if_true, List.getD, List.getElem?_eq_getElem hi, Option.getD_some] at this
          rw [markAll_get kids k i hi]
          exact this
        · rw [markAll_length] at hi
          have := hm.lie i hi
          simp only [hi, if_true, List.getD, List.getElem?_eq_getElem hi, Option.getD_some] at this
          rw [markAll_get kids k i hi]
          exact this
end Go.Proofs.YtfmkhogpnnobeaaGreatDoor

/- the laws' markNode marks a whole tree; heldStringS, heldNodeS and heldNode find the marks where they are. -/
namespace Go.Proofs.YtfmkhogpnnobeaaGreatDoor
open Go Go.RowKit

theorem StrsAt.but {w w' : World} {v : Value} {ks : List ByteArray} {F G : List Nat} (h : StrsAt w v ks F) (hb : But G w w') (hd : ∀ b ∈ F, b ∉ G) : StrsAt w' v ks F :=
  h.carry fun b hF => hb.block b (h.lt b hF) (hd b hF)
theorem KidsLie.but {w w' : World} {v : Value} {ks : List RT} {F G : List Nat} (h : KidsLie w v ks F) (hb : But G w w') (hd : ∀ b ∈ F, b ∉ G) : KidsLie w' v ks F :=
  h.carry fun b hF => hb.block b (h.lt b hF) (hd b hF)

set_option maxHeartbeats 400000 in
theorem mark_node (T : RT) (w : World) (kv dv : Value) (F : List Nat) (hl : Lies w T kv dv F) (hnd : F.Nodup) (hfz : ∀ b ∈ F, ∀ o, w.frozen? ⟨b, o, none⟩ = false) (k : Nat) (h0 : 0 < k) (h1 : k + T.cnt ≤ 1000000000) :
    Calls Tryz.prog 13 #[.agg #[.int .i64 T.k, .int .i64 T.n, .string T.s, kv, dv], .int .i64 k] w fun e w' => e = .returned (.int .i64 (k + T.cnt : Nat)) ∧ Lies w' (T.mark k) kv dv F ∧ But F w w' := by
  obtain ⟨f1, f2, f3, FK, FD, hK, hD, rfl⟩ := hl.out
  obtain ⟨nd1, nd2, nd3⟩ := List.nodup_append.1 hnd
  rw [cnt_node] at h1 ⊢
  have hb0 := (Box.start w (.int .i64 T.k) (.int .i64 T.n) (.string T.s) kv dv 32)
  have HX := Lib.hid (And.intro hb0 (And.intro hK (And.intro hD (And.intro nd2 (And.intro nd3 (And.intro hfz (And.intro f1 (And.intro f2 f3))))))))
  have HK := Lib.hid (mark_strs _ (hK.stay hb0.below (Nat.le_refl _)) (fun b hb o => (hb0.below.frozen (by exact hK.lt b hb)).trans (hfz b (List.mem_append_left _ hb) o)) k h0 (by omega))
  clear hl hnd hfz f1 f2 f3 hK hD nd1 nd2 nd3 hb0
  go_enter Tryz.func13, Tryz.ntmps13
  go_wp2_with (first
    | (go_at_call 38; refine HK.out.mono ?_; rintro e w1 ⟨rfl, hs1, hb1⟩
       obtain ⟨hb0, hK, hD, nd2, nd3, hfz, f1, f2, f3⟩ := HX.out
       have c4 : w1.cell? ⟨w.heap.size, 4, none⟩ = some dv := (hb1.cell (by simp) (fun h => by have := hK.lt _ h; omega) 4).trans hb0.c4
       have H1 := Lib.hid (And.intro hs1 hb1)
       clear hb0 hK hD nd2 nd3 hfz f1 f2 f3 hs1 hb1)
    | fail)
  obtain ⟨hb0, hK, hD, nd2, nd3, hfz, f1, f2, f3⟩ := HX.out
  obtain ⟨hs1, hb1⟩ := H1.out
  have hbw : But FK w w1 := (But.of_below hb0.below).trans hb1
  refine (mark_nodes T _ _ _ (hD.but hbw (fun c hc hcK => nd3 c hcK c hc rfl)) nd2 (fun b hb o => (hbw.free b (hD.lt b hb) o).trans (hfz b (List.mem_append_right _ hb) o)) (k + T.keys.length) (by omega) (by omega)).mono ?_
  rintro e w2 ⟨rfl, hk2, hb2⟩
  have HE : Hid (Lies w2 (T.mark k) kv dv (FK ++ FD) ∧ But (FK ++ FD) w w2) := by
    refine ⟨?_, (hbw.mono fun x hx => List.mem_append_left _ hx).trans (hb2.mono fun x hx => List.mem_append_right _ hx)⟩
    rw [RT.eta (T.mark k), mark_keys, mark_kids]
    have e1 : (T.mark k).k = T.k := by cases T; rfl
    have e2 : (T.mark k).n = T.n := by cases T; rfl
    have e3 : (T.mark k).s = T.s := by cases T; rfl
    rw [e1, e2, e3]
    exact Lies.into f1 f2 f3 (hs1.but hb2 fun c hc hcD => nd3 c hc c hcD rfl) hk2
  clear hb0 hK hD nd2 nd3 hfz f1 f2 f3 hs1 hb1 hbw hk2 hb2
  go_wp2
  go_ret
  refine ⟨?_, HE.out⟩
  exact ret_int (by omega)

set_option maxHeartbeats 400000 in
theorem held_strs {v : Value} {n : Nat} {F : List Nat} (w : World) (k : Nat) (hs : StrsAt w v (markStrs n k) F) (h0 : 0 < k) (h1 : k + n ≤ 1000000000) :
    Calls Tryz.prog 40 #[v, .int .i64 k] w fun e w' => e = .returned (.int .i64 (k + n : Nat)) ∧ Below w.heap.size w w' := by
  obtain ⟨o, cap, b, off, rfl, hlc, hcm, ho, -, hcell, -⟩ := hs
  rw [markStrs_length] at hlc ⊢
  have HC : Hid (∀ i, i < n → w.cell? ⟨b, off + i, none⟩ = some (.string (markTxt (k + i)))) := fun i hi => by
    have := (hcell i (by rw [markStrs_length]; exact hi)).1
    simpa [markStrs] using this
  have HO := Lib.hid ho
  clear hcell ho
  unfold maxLen at hcm
  go_enter Tryz.func40, Tryz.ntmps40
  go_wp2
  go_loopw [1, 5] (fun l i wr => ∃ j : Nat, j ≤ n ∧ i = .int .i64 j ∧ l = .int .i64 (k + j : Nat) ∧ Hid (Below w.heap.size w wr)) (fun _ i _ => n - (intOf i).toNat)
  case atStart => exact ⟨0, Nat.zero_le _, rfl, rfl, Below.refl _ _⟩
  case round =>
    obtain ⟨j, hj, rfl, rfl, hb⟩ := hrel
    by_cases hlt : j < n
    · have c0 : wr.cell? ⟨b, off + j, none⟩ = some (.string (markTxt (k + j))) := by
        have := HC.out j hlt
        rw [hb.out.cell (by exact World.block_lt_of_cell? _ _ this)]; exact this
      have ho := HO.out (by omega)
      subst ho
      have hi0 : (0 : Int) ≤ (j : Int) := by omega
      have hi1 : (j : Int) < (n : Int) := by omega
      have HT := Lib.hid (mark_text (k + j) (by omega) (by omega))
      go_wp2
      go_region_held3 (fun w' => w'.cell? ⟨b, off + j, none⟩ = some (.string (markTxt (k + j)))) (go_keep)
        (first
          | (go_at_call 81; refine (HT.out _).mono ?_; rintro e w1 ⟨rfl, hb1⟩; have HB1 := Lib.hid (below_drewN hb.out 1 |>.trans (hb1.mono (below_drewN hb.out 1).size)); have r0 : w1.cell? ⟨b, off + j, none⟩ = some (.string (markTxt (k + j))) := (HB1.out.cell (by exact World.block_lt_of_cell? _ _ (HC.out j hlt))).trans (HC.out j hlt); clear hb1))
      all_goals go_wp2
      all_goals exact ⟨⟨j + 1, by omega, by go_num, by go_num, HB1.out⟩, by simp [intOf]; omega⟩
    · have e : j = n := by omega
      subst e
      go_wp2
      go_ret
      exact ⟨rfl, hb.out⟩
end Go.Proofs.YtfmkhogpnnobeaaGreatDoor

/- the laws' heldNodeS and heldNode find the marks of a tree where they are. -/
namespace Go.Proofs.YtfmkhogpnnobeaaGreatDoor
open Go Go.RowKit

/-- What heldNodeS answers of the marked kids of one tree. -/
def HeldAt (T : RT) : Prop := ∀ (w : World) (dv : Value) (F : List Nat) (k : Nat), KidsLie w dv (markAll T.kids k) F → 0 < k → k + cntAll T.kids ≤ 1000000000 →
  Calls Tryz.prog 41 #[dv, .int .i64 k] w fun e w' => e = .returned (.int .i64 (k + cntAll T.kids : Nat)) ∧ Below w.heap.size w w'

set_option maxRecDepth 100000 in
set_option maxHeartbeats 1600000 in
theorem held_nodes (T : RT) : HeldAt T := by
  induction T using RT.ind with
  | h kk nn ss keys kids ih =>
    intro w dv F k hs h0 h1
    have h1' : k + cntAll kids ≤ 1000000000 := h1
    clear h1
    show Calls Tryz.prog 41 #[dv, .int .i64 k] w fun e w' => e = .returned (.int .i64 (k + cntAll kids : Nat)) ∧ Below w.heap.size w w'
    obtain ⟨o, cap, b, off, FF, KV, DV, rfl, hlc, hcm, ho, hFe, hcell, hlies, -⟩ := (show KidsLie w dv (markAll kids k) F from hs)
    clear hs hFe
    rw [markAll_length] at hlc ⊢
    have HC : Hid (∀ i (h : i < kids.length), (∀ j, j < 5 → w.cell? ⟨b, off + i * 5 + j, none⟩ = ((markOne kids[i] (k + cntAll (kids.take i))).row (KV i) (DV i))[j]?) ∧ Lies w (markOne kids[i] (k + cntAll (kids.take i))) (KV i) (DV i) (FF i)) := fun i hi => by
      rw [← markAll_get kids k i hi]
      exact ⟨hcell i (by rw [markAll_length]; exact hi), hlies i (by rw [markAll_length]; exact hi)⟩
    have HO := Lib.hid ho
    clear hcell ho hlies
    unfold maxLen at hcm
    go_enter Tryz.func41, Tryz.ntmps41
    go_wp2
    go_loopw [1, 5] (fun l i wr => ∃ j : Nat, j ≤ kids.length ∧ i = .int .i64 j ∧ l = .int .i64 (k + cntAll (kids.take j) : Nat) ∧ Hid (Below w.heap.size w wr)) (fun _ i _ => kids.length - (intOf i).toNat)
    case atStart => exact ⟨0, Nat.zero_le _, rfl, by simp [cntAll], Below.refl _ _⟩
    case round =>
      obtain ⟨j, hj, rfl, rfl, hb⟩ := hrel
      by_cases hlt : j < kids.length
      · have ho := HO.out (by omega)
        subst ho
        obtain ⟨hrow, hlie⟩ := HC.out j hlt
        obtain ⟨c0, c1, c2, c3, c4⟩ := kid_cells hrow hb.out
        have hbw : b < w.heap.size := World.block_lt_of_cell? _ _ (show w.cell? ⟨b, off + j * 5 + 0, none⟩ = some (.int .i64 _) from hrow 0 (by omega))
        have ecnt := cntAll_take kids j hlt
        have elt := cntAll_take_le kids (j + 1)
        have hmem := ih _ (List.getElem_mem hlt)
        obtain ⟨-, -, -, FK, FD, hK, hD, -⟩ := hlie.outn
        generalize hx : kids[j] = x at *
        rw [cnt_node] at ecnt
        generalize hq : k + cntAll (kids.take j) = q at *
        have hq0 : 0 < q := by omega
        have hqb : q + 3 + (x.keys.length + cntAll x.kids) ≤ 1000000000 := by omega
        have HQ := Lib.hid (And.intro hq ecnt)
        have HK := Lib.hid (And.intro hK (And.intro hD hmem))
        have c0' : wr.cell? ⟨b, off + j * 5, none⟩ = some (.int .i64 (q : Int)) := c0
        have c1' : wr.cell? ⟨b, off + j * 5 + 1, none⟩ = some (.int .i64 ((q : Int) + 1)) := c1.trans (by show some (Value.int .i64 ((q + 1 : Nat) : Int)) = _; simp)
        have c2' : wr.cell? ⟨b, off + j * 5 + 2, none⟩ = some (.string (markTxt (q + 2))) := c2
        clear hx hq ecnt elt hK hD hlie hrow hmem c0 c1 c2 ih
        have hi0 : (0 : Int) ≤ (j : Int) := by omega
        have hi1 : (j : Int) < (kids.length : Int) := by omega
        have HT := Lib.hid (mark_text (q + 2) (by omega) (by omega))
        have HCells : Hid (∀ w1, Below w.heap.size w w1 → w1.cell? ⟨b, off + j * 5 + 2, none⟩ = some (.string (markTxt (q + 2))) ∧ w1.cell? ⟨b, off + j * 5 + 3, none⟩ = some (KV j) ∧ w1.cell? ⟨b, off + j * 5 + 4, none⟩ = some (DV j)) := fun w1 h1 => by
          refine ⟨?_, ?_, ?_⟩
          · rw [h1.cell (by exact hbw), ← hb.out.cell (by exact hbw)]; exact c2'
          · rw [h1.cell (by exact hbw), ← hb.out.cell (by exact hbw)]; exact c3
          · rw [h1.cell (by exact hbw), ← hb.out.cell (by exact hbw)]; exact c4
        have e2 : ((q : Int) + 1 + 1) = ((q + 2 : Nat) : Int) := by omega
        have e3 : ((q : Int) + 2 + 1) = ((q + 3 : Nat) : Int) := by omega
        have E2 := Lib.hid e2
        have E3 := Lib.hid e3
        clear e2 e3
        go_wp2
        go_region_held3 (fun w' => w'.cell? ⟨b, off + j * 5 + 2, none⟩ = some (.string (markTxt (q + 2)))) (go_keep)
          (first
            | (go_at_call 81; rw [E2.out]; refine (HT.out _).mono ?_; rintro e w1 ⟨rfl, hb1⟩; have HB1 := Lib.hid (below_drewN hb.out 1 |>.trans (hb1.mono (below_drewN hb.out 1).size)); obtain ⟨r2, r3, r4⟩ := HCells.out _ HB1.out; clear hb1))
        go_wp2_with fail
        rw [E3.out]
        refine (held_strs _ (q + 3) (HK.out.1.stay HB1.out (Nat.le_refl _)) (by omega) (by omega)).mono ?_
        rintro e w2 ⟨rfl, hb2⟩
        have HB2 := Lib.hid (HB1.out.trans (hb2.mono HB1.out.size))
        clear r2 r3 r4 hb2
        obtain ⟨-, -, r4⟩ := HCells.out _ HB2.out
        go_wp2_with fail
        refine (HK.out.2.2 _ _ _ (q + 3 + x.keys.length) (HK.out.2.1.stay HB2.out (Nat.le_refl _)) (by omega) (by omega)).mono ?_
        rintro e w3 ⟨rfl, hb3⟩
        have HB3 := Lib.hid (HB2.out.trans (hb3.mono HB2.out.size))
        clear r4 hb3
        go_wp2
        obtain ⟨q1, q2⟩ := HQ.out
        refine ⟨⟨j + 1, by omega, by go_num, ?_, HB3.out⟩, by simp [intOf]; omega⟩
        congr 1; omega
      · have e : j = kids.length := by omega
        subst e
        go_wp2
        go_ret
        refine ⟨?_, hb.out⟩
        rw [List.take_of_length_le (Nat.le_refl _)]
        rfl

set_option maxHeartbeats 400000 in
theorem held_node (T : RT) (w : World) (kv dv : Value) (F : List Nat) (k : Nat) (hl : Lies w (T.mark k) kv dv F) (h0 : 0 < k) (h1 : k + T.cnt ≤ 1000000000) :
    Calls Tryz.prog 14 #[.agg #[.int .i64 T.k, .int .i64 T.n, .string T.s, kv, dv], .int .i64 k] w fun e w' => e = .returned (.int .i64 (k + T.cnt : Nat)) ∧ Below w.heap.size w w' := by
  obtain ⟨-, -, -, FK, FD, hK, hD, -⟩ := hl.out
  rw [mark_keys] at hK
  rw [mark_kids] at hD
  rw [cnt_node] at h1 ⊢
  have hb0 := (Box.start w (.int .i64 T.k) (.int .i64 T.n) (.string T.s) kv dv 32)
  have HX := Lib.hid (And.intro hb0 hD)
  have HK := Lib.hid (held_strs _ k (hK.stay hb0.below (Nat.le_refl _)) h0 (by omega))
  clear hl hK hD hb0
  go_enter Tryz.func14, Tryz.ntmps14
  go_wp2_with (first
    | (go_at_call 40; refine HK.out.mono ?_; rintro e w1 ⟨rfl, hb1⟩
       have hx := HX.out.1.next hb1
       have c4 := hx.c4
       have HB := Lib.hid hx.below
       clear hx hb1)
    | fail)
  refine (held_nodes T _ _ _ (k + T.keys.length) (HX.out.2.stay HB.out (Nat.le_refl _)) (by omega) (by omega)).mono ?_
  rintro e w2 ⟨rfl, hb2⟩
  have HB2 := Lib.hid (HB.out.trans (hb2.mono HB.out.size))
  clear hb2 c4
  go_wp2
  go_ret
  exact ⟨ret_int (by omega), HB2.out⟩
end Go.Proofs.YtfmkhogpnnobeaaGreatDoor

/- the laws' eqNode tells whether two trees are the same. -/
namespace Go.Proofs.YtfmkhogpnnobeaaGreatDoor
open Go Go.RowKit

set_option maxHeartbeats 800000 in
theorem eq_node (T : RT) : EqAt T := by
  induction T using RT.ind with
  | h k n s keys kids ih =>
    intro w kv dv F hl T' kv' dv' F' hl'
    obtain ⟨k', n', s', keys', kids'⟩ := T'
    obtain ⟨-, -, -, FK, FD, hK, hD, -⟩ := hl.outn
    obtain ⟨-, -, -, FK', FD', hK', hD', -⟩ := hl'.outn
    clear hl hl'
    have b2 := Box2.start w (.int .i64 k) (.int .i64 n) (.string s) kv dv (.int .i64 k') (.int .i64 n') (.string s') kv' dv' 32 32
    have HK := Lib.hid fun (wr : World) (hb : Below w.heap.size w wr) => eq_strs wr (hK.stay hb (Nat.le_refl _)) (hK'.stay hb (Nat.le_refl _))
    have HD := Lib.hid fun (wr : World) (hb : Below w.heap.size w wr) => eq_kids ih wr (hD.stay hb (Nat.le_refl _)) (hD'.stay hb (Nat.le_refl _))
    have HX := Lib.hid b2
    clear hK hK' hD hD' ih b2
    show Calls Tryz.prog 10 #[.agg #[.int .i64 k, .int .i64 n, .string s, kv, dv], .agg #[.int .i64 k', .int .i64 n', .string s', kv', dv']] w _
    by_cases e1 : k = k'
    · by_cases e2 : n = n'
      · by_cases e3 : s = s'
        · subst e1 e2 e3
          by_cases e4 : keys = keys'
          · subst e4
            by_cases e5 : kids = kids'
            · subst e5
              rw [same_yes rfl]
              go_enter Tryz.func10, Tryz.ntmps10
              go_wp2_with (first
                | (go_at_call 31; refine (HK.out _ HX.out.below).mono ?_; rintro e w1 ⟨rfl, hb1⟩; rw [same_yes rfl]; have hx := HX.out.next hb1; have hB := Lib.hid hx.below; obtain ⟨-, -, -, -, -, -, c4, -, -, -, -, g4⟩ := hx; clear hb1)
                | (go_at_call 32; refine (HD.out _ hB.out).mono ?_; rintro e w2 ⟨rfl, hb2⟩; rw [same_yes rfl])
                | go_in)
              go_ret
              exact ⟨rfl, hB.out.trans (hb2.mono hB.out.size)⟩
            · rw [same_no (fun h => e5 (by injection h))]
              go_enter Tryz.func10, Tryz.ntmps10
              go_wp2_with (first
                | (go_at_call 31; refine (HK.out _ HX.out.below).mono ?_; rintro e w1 ⟨rfl, hb1⟩; rw [same_yes rfl]; have hx := HX.out.next hb1; have hB := Lib.hid hx.below; obtain ⟨-, -, -, -, -, -, c4, -, -, -, -, g4⟩ := hx; clear hb1)
                | (go_at_call 32; refine (HD.out _ hB.out).mono ?_; rintro e w2 ⟨rfl, hb2⟩; rw [same_no e5])
                | go_in)
              go_ret
              exact ⟨rfl, hB.out.trans (hb2.mono hB.out.size)⟩
          · rw [same_no (fun h => e4 (by injection h))]
            go_enter Tryz.func10, Tryz.ntmps10
            go_wp2_with (first
              | (go_at_call 31; refine (HK.out _ HX.out.below).mono ?_; rintro e w1 ⟨rfl, hb1⟩; rw [same_no e4]; have hB := Lib.hid (HX.out.next hb1).below; clear hb1)
              | go_in)
            go_ret
            exact ⟨rfl, hB.out⟩
        · have e3' := bytes_ne e3
          rw [same_no (fun h => e3 (by injection h))]
          go_enter Tryz.func10, Tryz.ntmps10
          go_wp2
          go_ret
          exact ⟨rfl, ((Below.refl _ w).alloc (Nat.le_refl _) _).alloc (by simp) _⟩
      · rw [same_no (fun h => e2 (by injection h))]
        go_enter Tryz.func10, Tryz.ntmps10
        go_wp2
        go_ret
        exact ⟨rfl, ((Below.refl _ w).alloc (Nat.le_refl _) _).alloc (by simp) _⟩
    · rw [same_no (fun h => e1 (by injection h))]
      go_enter Tryz.func10, Tryz.ntmps10
      go_wp2
      go_ret
      exact ⟨rfl, ((Below.refl _ w).alloc (Nat.le_refl _) _).alloc (by simp) _⟩
end Go.Proofs.YtfmkhogpnnobeaaGreatDoor
