/-
  What is proved: the laws' markText tells a text of a number; markStringS, markNodeS and markNode write these texts and numbers into the lists of a tree, and into nothing else; heldStringS, heldNodeS and heldNode find them there.
-/
import Derived.Test.YtbcgkpkkhinkcaaTreeTo
import Derived.WalkLawsBesides
import Derived.ProofKit
import Derived.Laws.IdiomStrings
namespace Go.Proofs.Ytbcgkpkkhinkcaa
open Go Go.RowKit

/-- What markText makes of a number, ahead of what it has. -/
def mkGo (k : Nat) (out : ByteArray) : ByteArray :=
  if _h : k = 0 then out else mkGo (k / 10) ((ByteArray.mk #[48 + UInt8.ofNat (k % 10)]) ++ out)
termination_by k
decreasing_by omega

def markTxt (k : Nat) : ByteArray := (ByteArray.mk #[109]) ++ mkGo k ⟨#[]⟩

theorem mkGo_size (k : Nat) (out : ByteArray) : (mkGo k out).size ≤ k + out.size := by
  induction k using Nat.strongRecOn generalizing out with
  | _ k ih =>
    rw [mkGo]
    split
    · omega
    · have h := ih (k / 10) (by omega) ((ByteArray.mk #[48 + UInt8.ofNat (k % 10)]) ++ out)
      rw [ByteArray.size_append] at h
      have e : (ByteArray.mk #[48 + UInt8.ofNat (k % 10)]).size = 1 := rfl
      omega

theorem markTxt_size (k : Nat) (h : k ≤ 1000000000000) : (markTxt k).size ≤ maxLen := by
  unfold markTxt
  rw [ByteArray.size_append]
  have h1 := mkGo_size k ⟨#[]⟩
  have e : (ByteArray.mk #[109]).size = 1 := rfl
  have e2 : (ByteArray.mk #[]).size = 0 := rfl
  unfold maxLen
  omega

/-- 'string([]byte{x})' in the world in which that row has just been laid. -/
theorem mark_conv (w : World) (x : Int) : (convert 58 9 (.slice (some ⟨w.heap.size, 0, none⟩) 1 1)).run Try.prog (w.alloc (.cells #[.int .u8 x] 5)) = .ok (.string ⟨#[UInt8.ofNat x.toNat]⟩) (w.alloc (.cells #[.int .u8 x] 5)) := by
  rw [run_convert_bytes_string _ 58 9 5 _ 1 1 Try.underlying58 Try.underlying5 Try.underlying9]
  have hl := run_loadCells_list (P := Try.prog) (w.alloc (.cells #[.int .u8 x] 5)) ⟨w.heap.size, 0, none⟩ [Value.int .u8 x] (fun j v hj => by
    have h := World.cell?_alloc_mark w #[.int .u8 x] 5 (0, 0) j
    cases j with
    | zero => simp at hj; subst hj; simp [Addr.add]
    | succ j => simp at hj)
  rw [run_bytesToString _ _ 1 1 [x] hl]
  rfl

theorem few {q n : Nat} (h0 : 0 < q) (h : q * 10 ^ n ≤ 1000000000000) : n ≤ 12 := by
  have h1 : 10 ^ n ≤ 10 ^ 12 := by
    have : 1 * 10 ^ n ≤ q * 10 ^ n := Nat.mul_le_mul_right _ h0
    omega
  exact (Nat.pow_le_pow_iff_right (by decide)).1 h1

theorem fewer {q n : Nat} (h : q * 10 ^ n ≤ 1000000000000) : q / 10 * 10 ^ (n + 1) ≤ 1000000000000 := by
  have : q / 10 * 10 ^ (n + 1) = q / 10 * 10 * 10 ^ n := by rw [Nat.pow_succ, Nat.mul_assoc, Nat.mul_comm 10]
  rw [this]
  exact Nat.le_trans (Nat.mul_le_mul_right _ (by omega)) h

set_option maxHeartbeats 400000 in
theorem mark_text (k : Nat) (h0 : 0 < k) (h1 : k ≤ 1000000000000) (w : World) :
    Calls Try.prog 38 #[.int .i64 k] w fun e w' => e = .returned (.string (markTxt k)) ∧ Below w.heap.size w w' := by
  go_enter Try.func38, Try.ntmps38
  go_wp2
  go_loopw [0, 3] (fun i o wr => ∃ (q : Nat) (out : ByteArray), Hid (q * 10 ^ out.size ≤ 1000000000000) ∧ out.size ≤ 13 ∧ q ≤ 1000000000000 ∧ i = .int .i64 q ∧ o = .string out ∧ Hid (mkGo q out = mkGo k ⟨#[]⟩) ∧ Hid (Below w.heap.size w wr)) (fun i _ _ => (intOf i).toNat)
  case atStart => exact ⟨k, ⟨#[]⟩, by show k * 10 ^ 0 ≤ _; omega, by decide, h1, rfl, rfl, rfl, Below.refl _ _⟩
  case round =>
    obtain ⟨q, out, hp, hs, hq, rfl, rfl, hr, hb⟩ := hrel
    by_cases hlt : 0 < q
    · have h12 := few hlt hp.out
      have HP := Lib.hid (fewer hp.out)
      have HM : Hid (mkGo (q / 10) ((ByteArray.mk #[48 + UInt8.ofNat (q % 10)]) ++ out) = mkGo k ⟨#[]⟩) := by
        have := hr.out
        rw [mkGo, dif_neg (by omega)] at this
        exact this
      have kc := mark_conv wr
      have hsz : ((ByteArray.mk #[48 + UInt8.ofNat (q % 10)]) ++ out).size = out.size + 1 := by
        rw [ByteArray.size_append]
        show 1 + out.size = _
        omega
      have HZ := Lib.hid hsz
      clear hsz
      go_wp2
      exact ⟨⟨q / 10, _, by show _ ≤ _; rw [HZ.out]; exact HP.out, by rw [HZ.out]; omega, by omega, by go_num, rfl, HM.out, hb.out.alloc hb.out.size _⟩, by simp [intOf]; omega⟩
    · have e : q = 0 := by omega
      subst e
      have HE : Hid (out = mkGo k ⟨#[]⟩) := by
        have := hr.out
        rw [mkGo, dif_pos rfl] at this
        exact this
      go_wp2
      go_ret
      refine ⟨?_, hb.out⟩
      unfold markTxt
      rw [← HE.out]
      rfl

/-! ### What is written -/

/-- The blocks of F alone may have turned; all others that were there are as they were. -/
structure But (F : List Nat) (w w' : World) : Prop where
  os : w'.os = w.os
  tape : w'.tape = w.tape
  output : w'.output = w.output
  size : w.heap.size ≤ w'.heap.size
  block : ∀ k, k < w.heap.size → k ∉ F → w'.heap[k]? = w.heap[k]?
  free : ∀ k, k < w.heap.size → ∀ o, w'.frozen? ⟨k, o, none⟩ = w.frozen? ⟨k, o, none⟩
  room : ∀ k, k < w.heap.size → ∀ o, (w.cell? ⟨k, o, none⟩).isSome = true → (w'.cell? ⟨k, o, none⟩).isSome = true

theorem But.of_below {F : List Nat} {w w' : World} (h : Below w.heap.size w w') : But F w w' :=
  ⟨h.os, h.tape, h.output, h.size, fun k hk _ => h.block k hk, fun k hk _ => World.frozen?_of_block (w := w) (h.block k hk), fun k hk o ho => by rw [World.cell?_of_block (w := w) (a := ⟨k, o, none⟩) (h.block k hk)]; exact ho⟩

theorem But.refl (F : List Nat) (w : World) : But F w w := .of_below (Below.refl _ w)

theorem But.trans {F : List Nat} {a b c : World} (h : But F a b) (k : But F b c) : But F a c :=
  ⟨k.os.trans h.os, k.tape.trans h.tape, k.output.trans h.output, Nat.le_trans h.size k.size, fun i hi hF => (k.block i (Nat.lt_of_lt_of_le hi h.size) hF).trans (h.block i hi hF),
    fun i hi o => (k.free i (Nat.lt_of_lt_of_le hi h.size) o).trans (h.free i hi o), fun i hi o ho => k.room i (Nat.lt_of_lt_of_le hi h.size) o (h.room i hi o ho)⟩

theorem But.mono {F G : List Nat} {a b : World} (h : But F a b) (hs : ∀ x ∈ F, x ∈ G) : But G a b :=
  ⟨h.os, h.tape, h.output, h.size, fun i hi hG => h.block i hi (fun hF => hG (hs i hF)), h.free, h.room⟩

theorem But.cell {F : List Nat} {a b : World} (h : But F a b) {k : Nat} (hk : k < a.heap.size) (hF : k ∉ F) (o : Nat) : b.cell? ⟨k, o, none⟩ = a.cell? ⟨k, o, none⟩ :=
  World.cell?_of_block (w := a) (h.block k hk hF)

theorem frozen_set (w : World) (a : Addr) (v : Value) (k o : Nat) : (w.setCell a v).frozen? ⟨k, o, none⟩ = w.frozen? ⟨k, o, none⟩ := World.frozen?_setCell w a ⟨k, o, none⟩ v

theorem But.set {F : List Nat} {a w : World} (h : But F a w) {p : Addr} (hp : p.block ∈ F) (v : Value) : But F a (w.setCell p v) :=
  h.trans ⟨rfl, rfl, rfl, by simp [World.setCell], fun k _ hF => Below.heap_setCell _ _ _ _ (fun e => hF (e ▸ hp)), fun k _ o => frozen_set w p v k o, fun k _ o ho => by
    obtain ⟨u, hu⟩ := Option.isSome_iff_exists.1 ho
    obtain ⟨u', hu'⟩ := cell?_setCell_some (p := p) (x := v) hu
    rw [hu']; rfl⟩

theorem Room.but {F : List Nat} {w w' : World} {b off n : Nat} (h : Room w b off n) (hb : But F w w') : Room w' b off n := fun i hi => hb.room b (h.lt (by omega)) _ (h i hi)

/-- What lies outside F lies there still. -/
theorem Lies.but {w w' : World} {T : RT} {kv dv : Value} {F G : List Nat} (h : Lies w T kv dv F) (hb : But G w w') (hd : ∀ b ∈ F, b ∉ G) : Lies w' T kv dv F :=
  h.carry fun b hF => hb.block b (h.lt b hF) (hd b hF)

/-- The texts that markStringS writes. -/
def markStrs (n k : Nat) : List ByteArray := (List.range n).map fun i => markTxt (k + i)

theorem markStrs_length (n k : Nat) : (markStrs n k).length = n := by simp [markStrs]

mutual
/-- How many marks a tree takes; its head takes none. -/
def RT.cnt : RT → Nat
  | .node _ _ _ keys kids => keys.length + cntAll kids
def cntAll : List RT → Nat
  | [] => 0
  | t :: ts => 3 + t.cnt + cntAll ts
end

mutual
/-- A tree with its marks. -/
def RT.mark : RT → Nat → RT
  | .node a n s keys kids, k => .node a n s (markStrs keys.length k) (markAll kids (k + keys.length))
def markAll : List RT → Nat → List RT
  | [], _ => []
  | t :: ts, k => .node k (k + 1 : Nat) (markTxt (k + 2)) (t.mark (k + 3)).keys (t.mark (k + 3)).kids :: markAll ts (k + 3 + t.cnt)
end

theorem markAll_length (l : List RT) (k : Nat) : (markAll l k).length = l.length := by
  induction l generalizing k with
  | nil => rfl
  | cons t l ih => simp [markAll, ih]


theorem cntAll_take (l : List RT) (i : Nat) (h : i < l.length) : cntAll (l.take (i + 1)) = cntAll (l.take i) + (3 + l[i].cnt) := by
  induction l generalizing i with
  | nil => simp at h
  | cons t l ih =>
    cases i with
    | zero => simp [cntAll]
    | succ i =>
      have := ih i (by simpa using h)
      simp only [List.take_succ_cons, cntAll, List.getElem_cons_succ]
      omega

theorem cntAll_take_le (l : List RT) (i : Nat) : cntAll (l.take i) ≤ cntAll l := by
  induction l generalizing i with
  | nil => simp
  | cons t l ih =>
    cases i with
    | zero => simp [cntAll]
    | succ i =>
      have := ih i
      simp only [List.take_succ_cons, cntAll]
      omega

theorem cnt_node (T : RT) : T.cnt = T.keys.length + cntAll T.kids := by cases T; rfl

theorem mark_keys (T : RT) (k : Nat) : (T.mark k).keys = markStrs T.keys.length k := by cases T; rfl
theorem mark_kids (T : RT) (k : Nat) : (T.mark k).kids = markAll T.kids (k + T.keys.length) := by cases T; rfl

/-- The i-th of a list of trees with its marks. -/
def markOne (T : RT) (k : Nat) : RT := .node k (k + 1 : Nat) (markTxt (k + 2)) (markStrs T.keys.length (k + 3)) (markAll T.kids (k + 3 + T.keys.length))

theorem markAll_get (l : List RT) (k i : Nat) (h : i < l.length) : (markAll l k)[i]'(by rw [markAll_length]; exact h) = markOne l[i] (k + cntAll (l.take i)) := by
  induction l generalizing i k with
  | nil => simp at h
  | cons t l ih =>
    cases i with
    | zero => simp [markAll, markOne, cntAll, mark_keys, mark_kids]
    | succ i =>
      have := ih (k + 3 + t.cnt) i (by simpa using h)
      simp only [markAll, List.getElem_cons_succ, List.take_succ_cons, cntAll]
      rw [this]
      congr 1
      omega

theorem set_cell {w : World} {b o : Nat} {u : Value} (h : w.cell? ⟨b, o, none⟩ = some u) (v : Value) (o' : Nat) : (w.setCell ⟨b, o, none⟩ v).cell? ⟨b, o', none⟩ = if o' = o then some v else w.cell? ⟨b, o', none⟩ := by
  by_cases e : o' = o
  · subst e
    rw [if_pos rfl, World.cell?_setCell_same _ _ _ h]
  · rw [if_neg e, World.cell?_setCell_other _ _ _ _ (fun h => e (by injection h with _ h2; exact h2.symm))]

set_option maxHeartbeats 400000 in
theorem mark_strs {v : Value} {ks : List ByteArray} {F : List Nat} (w : World) (hs : StrsAt w v ks F) (hf : ∀ b ∈ F, ∀ o, w.frozen? ⟨b, o, none⟩ = false) (k : Nat) (h0 : 0 < k) (h1 : k + ks.length ≤ 1000000000) :
    Calls Try.prog 25 #[v, .int .i64 k] w fun e w' => e = .returned (.int .i64 (k + ks.length : Nat)) ∧ StrsAt w' v (markStrs ks.length k) F ∧ But F w w' := by
  obtain ⟨o, cap, b, off, rfl, hlc, hcm, ho, hFe, hcell, hroom⟩ := hs
  have HC := Lib.hid hcell
  have HRm := Lib.hid hroom
  have HO := Lib.hid ho
  have HF := Lib.hid hf
  have HFe := Lib.hid hFe
  clear hcell ho hf hFe hroom
  go_enter Try.func25, Try.ntmps25
  go_wp2
  go_loopw [1, 5] (fun l i wr => ∃ j : Nat, j ≤ ks.length ∧ i = .int .i64 j ∧ l = .int .i64 (k + j : Nat) ∧ Hid (But F w wr ∧ (∀ q (h : q < ks.length), wr.cell? ⟨b, off + q, none⟩ = some (.string (if q < j then markTxt (k + q) else ks[q]))) ∧ Room wr b off cap)) (fun _ i _ => ks.length - (intOf i).toNat)
  case atStart => exact ⟨0, Nat.zero_le _, rfl, rfl, But.refl _ _, fun q h => (by rw [if_neg (by omega)]; exact (HC.out q h).1), HRm.out⟩
  case round =>
    obtain ⟨j, hj, rfl, rfl, hr⟩ := hrel
    by_cases hlt : j < ks.length
    · have ho := HO.out (by omega)
      subst ho
      have HT := Lib.hid (mark_text (k + j) (by omega) (by omega) wr)
      have HW : Hid (b < wr.heap.size) := World.block_lt_of_cell? _ _ (hr.out.2.1 j hlt)
      go_wp2_with (first
        | (go_at_call 38; refine HT.out.mono ?_; rintro e w1 ⟨rfl, hb1⟩
           have hB := Lib.hid hb1
           have r0 : w1.cell? ⟨b, off + j, none⟩ = _ := (hb1.cell (by exact HW.out)).trans (hr.out.2.1 j hlt)
           have r1 : w1.frozen? ⟨b, off + j, none⟩ = false := (hb1.frozen (by exact HW.out)).trans ((hr.out.1.free b (World.block_lt_of_cell? _ _ (HC.out j hlt).1) _).trans (HF.out b (by rw [HFe.out, if_neg (by omega)]; simp) _))
           clear hb1)
        | go_in)
      refine ⟨⟨j + 1, by omega, by go_num, by go_num, (hr.out.1.trans (But.of_below hB.out)).set (by rw [HFe.out, if_neg (by omega)]; simp) _, fun q h => ?_, (hr.out.2.2.below hB.out).set _ _⟩, by simp [intOf]; omega⟩
      rw [set_cell r0]
      by_cases e : q = j
      · subst e
        rw [if_pos rfl, if_pos (by omega)]
      · rw [if_neg (by omega), hB.out.cell (by exact HW.out), hr.out.2.1 q h]
        by_cases e2 : q < j
        · rw [if_pos e2, if_pos (by omega)]
        · rw [if_neg e2, if_neg (by omega)]
    · have e : j = ks.length := by omega
      subst e
      go_wp2
      go_ret
      refine ⟨rfl, ⟨o, cap, b, off, by rw [markStrs_length], by rw [markStrs_length]; exact hlc, hcm, HO.out, HFe.out, fun i hi => ?_, hr.out.2.2⟩, hr.out.1⟩
      rw [markStrs_length] at hi
      refine ⟨?_, ?_⟩
      · rw [hr.out.2.1 i hi, if_pos hi]
        simp [markStrs]
      · simp only [markStrs, List.getElem_map, List.getElem_range]
        exact markTxt_size _ (by omega)
end Go.Proofs.Ytbcgkpkkhinkcaa
