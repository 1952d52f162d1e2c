/-
  What is proved: whatever reads as a tree of the laws' own type lies in memory as a tree does.; plain facts on trees without keys and kids.; plain facts on lists of trees that are laid one behind the other by append.; for any text the program's TextOk answers as the model's TextOk does: at most 400 bytes, each from 32 to 126.; the program's keysOk and the model's l3Keys answer the same of every list of texts: each is TextOk, and they ascend.; where a key stands in a list of texts, and where it would come to stand: slices.Index and the program's placeOf; the model's l3At; the program's isMap.
-/
import Derived.Test.YtfmkhogpnnobeaaGreatDoorPartAA
import Derived.Test.YtfmkhogpnnobeaaGreatDoorRows
import Derived.ProofKit
import Derived.OpenShut
import Derived.Carry
import Derived.Deep.Strs
import Derived.Test.YtfmkhogpnnobeaaGreatDoorPartAB
import Derived.Deep.AppendLies
import Derived.Deep.RegionHeld3
import Derived.OwnWalk
import Derived.Deep.Upon
import Derived.Below
import Derived.WalkKit
import Derived.WalkSpells
import Derived.Lib.Hide
/- whatever reads as a tree of the laws' own type lies in memory as a tree does. -/
namespace Go.Proofs.YtfmkhogpnnobeaaGreatDoor
open Go Go.RowKit Go.ChangeShapes Go.WideShapes

section
variable {H : Type} {enc : TypeId × Value → H} {w : World} {base : Nat} {held : Bool}

theorem fit_of_wf {x : Int} (h : (Lit.int .i64 x).wf = true) : Fit x := bounds_i64 h

theorem cells_string : Tryz.prog.cellsOf 9 = 1 := by kernel_rfl
theorem cells_int : Tryz.prog.cellsOf 3 = 1 := by kernel_rfl
theorem cells_strs : Tryz.prog.cellsOf 29 = 1 := by kernel_rfl
/-- A list of texts that is read. -/
theorem open_strsAt {fuel : Nat} {cs : List Value} {x : DataW H × List MemPlace} (h : DataW.trod enc Tryz.prog w base (fun _ => true) held fuel 29 cs = some x) : ∃ v ks F, cs = [v] ∧ StrsAt w v ks F := by
  rcases Go.Deep.open_strs Tryz.underlying29 Tryz.underlying9 cells_string h with ⟨rfl, -⟩ | ⟨a, len, cap, m, Sx, rfl, hb, hl, hm, hmm, -, hx⟩
  · exact ⟨_, [], [], rfl, none, 0, 0, 0, rfl, Nat.le_refl _, Nat.zero_le _, fun h => absurd h (by simp), rfl, fun i hi => absurd hi (by simp), Room.nil _ _ _⟩
  · have hmc : m = cap := by simpa using hmm
    subst hmc
    obtain ⟨ab, aoff, aspot⟩ := a
    by_cases h0 : m = 0
    · subst h0
      obtain rfl : len = 0 := by omega
      exact ⟨_, [], _, rfl, _, 0, 0, 0, rfl, Nat.zero_le _, hm, fun h => absurd h (by simp), rfl, fun i hi => absurd hi (by simp), Room.nil _ _ _⟩
    · have hspot : aspot = none := by simpa [Addr.add] using World.cell?_spot (hx 0 (by omega)).1
      subst hspot
      refine ⟨_, (List.range len).map Sx, _, rfl, _, m, ab, aoff, by simp, by simpa using hl, hm, fun _ => rfl, rfl, fun i hi => ?_, fun i hi => ?_⟩
      · simp only [List.length_map, List.length_range] at hi
        have := hx i (by omega)
        rw [add_plain] at this
        simpa using this
      · have := (hx i hi).1
        rw [add_plain] at this
        rw [this]; rfl

end
end Go.Proofs.YtfmkhogpnnobeaaGreatDoor

/- plain facts on trees without keys and kids. -/
namespace Go.Proofs.YtfmkhogpnnobeaaGreatDoor
open Go Go.RowKit

/-- A node without keys and kids lies in no memory. -/
theorem leaf_lies (w : World) {k n : Int} {s : ByteArray} (hk : Fit k) (hn : Fit n) (hs : s.size ≤ maxLen) : Lies w (.node k n s [] []) (.slice none 0 0) (.slice none 0 0) [] :=
  Lies.into (FK := []) (FD := []) hk hn hs ⟨none, 0, 0, 0, rfl, Nat.le_refl _, Nat.zero_le _, fun h => absurd h (by simp), rfl, fun i hi => absurd hi (by simp), Room.nil _ _ _⟩
    ⟨none, 0, 0, 0, fun _ => [], fun _ => .bool true, fun _ => .bool true, rfl, Nat.le_refl _, Nat.zero_le _, fun h => absurd h (by simp), rfl, fun i hi => absurd hi (by simp), fun i hi => absurd hi (by simp), Room.nil _ _ _⟩

theorem But.below {w w' : World} (h : But [] w w') : Below w.heap.size w w' := ⟨h.os, h.tape, h.output, h.size, fun k hk => h.block k hk (by simp)⟩

theorem mark_node1 (T : RT) (w : World) (kv dv : Value) (F : List Nat) (hl : Lies w T kv dv F) (hnd : F.Nodup) (hfz : ∀ b ∈ F, ∀ o, w.frozen? ⟨b, o, none⟩ = false) (h1 : 1 + T.cnt ≤ 1000000000) :
    Calls Tryz.prog 13 #[.agg #[.int .i64 T.k, .int .i64 T.n, .string T.s, kv, dv], .int .i64 1] w fun e w' => e = .returned (.int .i64 (1 + T.cnt : Nat)) ∧ Lies w' (T.mark 1) kv dv F ∧ But F w w' :=
  mark_node T w kv dv F hl hnd hfz 1 (by omega) h1

theorem held_node1 (T : RT) (w : World) (kv dv : Value) (F : List Nat) (hl : Lies w (T.mark 1) kv dv F) (h1 : 1 + T.cnt ≤ 1000000000) :
    Calls Tryz.prog 14 #[.agg #[.int .i64 T.k, .int .i64 T.n, .string T.s, kv, dv], .int .i64 1] w fun e w' => e = .returned (.int .i64 (1 + T.cnt : Nat)) ∧ Below w.heap.size w w' :=
  held_node T w kv dv F 1 hl (by omega) h1

/-- A function whose whole work is to hand on what another one answers, by a block of its own. -/
theorem hand_on {w w1 : World} {z0 z1 z2 z3 z4 : Value} {t : TypeId} (hb : Below (w.alloc (.cells #[z0, z1, z2, z3, z4] t)).heap.size (w.alloc (.cells #[z0, z1, z2, z3, z4] t)) w1) :
    w1.heap[w.heap.size]? = some (.cells #[z0, z1, z2, z3, z4] t (0, 0)) ∧ Below w.heap.size w w1 := by
  have h0 := (Below.refl _ w).alloc (Nat.le_refl _) (.cells #[z0, z1, z2, z3, z4] t)
  exact ⟨(hb.block _ (by simp)).trans (heap_last w _), h0.trans (hb.mono h0.size)⟩

end Go.Proofs.YtfmkhogpnnobeaaGreatDoor

/- plain facts on lists of trees that are laid one behind the other by append. -/
namespace Go.Proofs.YtfmkhogpnnobeaaGreatDoor
open Go Go.RowKit

/-- The cells of the first k of a list of trees. -/
def rowsOf (kids : List RT) (KV DV : Nat → Value) (k : Nat) : List Value := (List.range k).flatMap fun j => (kids.getD j default).row (KV j) (DV j)

theorem row_length (T : RT) (kv dv : Value) : (T.row kv dv).length = 5 := rfl

theorem rowsOf_succ (kids : List RT) (KV DV : Nat → Value) (k : Nat) : rowsOf kids KV DV (k + 1) = rowsOf kids KV DV k ++ (kids.getD k default).row (KV k) (DV k) := by
  unfold rowsOf
  rw [List.range_succ, List.flatMap_append]
  simp

theorem rowsOf_length (kids : List RT) (KV DV : Nat → Value) (k : Nat) : (rowsOf kids KV DV k).length = k * 5 := by
  induction k with
  | zero => rfl
  | succ k ih => rw [rowsOf_succ, List.length_append, ih, row_length]; omega

theorem rowsOf_get (kids : List RT) (KV DV : Nat → Value) (k i c : Nat) (hi : i < k) (hc : c < 5) : (rowsOf kids KV DV k)[i * 5 + c]? = ((kids.getD i default).row (KV i) (DV i))[c]? := by
  induction k with
  | zero => omega
  | succ k ih =>
    rw [rowsOf_succ]
    by_cases e : i < k
    · rw [List.getElem?_append_left (by rw [rowsOf_length]; omega)]
      exact ih e
    · have : i = k := by omega
      subst this
      rw [List.getElem?_append_right (by rw [rowsOf_length]; omega), rowsOf_length, Nat.add_sub_cancel_left]

theorem rowsOf_congr (kids : List RT) {KV DV KV' DV' : Nat → Value} {k : Nat} (h : ∀ j, j < k → KV j = KV' j ∧ DV j = DV' j) : rowsOf kids KV DV k = rowsOf kids KV' DV' k := by
  unfold rowsOf
  refine Go.Deep.flatMap_congr_range fun j hj => ?_
  rw [(h j hj).1, (h j hj).2]

theorem owns_below {w w' : World} {base : Nat} {e : TypeId} {size : Nat} {v : Value} {n : Nat} {xs : List Value} (h : w.ownsRow base e size v n xs) (hb : Below w.heap.size w w') : w'.ownsRow base e size v n xs := by
  refine ⟨h.1, ?_⟩
  rcases h.2 with h2 | ⟨g, cap, cur, hv, hg, hh, r⟩
  · exact .inl h2
  · have hlt : g < w.heap.size := (Array.getElem?_eq_some_iff.1 hh).1
    exact .inr ⟨g, cap, cur, hv, hg, (hb.block g hlt).trans hh, r⟩

/-- A list that a call owns: the whole of its block is its own; an empty one is nil. -/
def Whole (w : World) (base : Nat) (t : TypeId) (q : Nat) (v : Value) : Prop :=
  v = .slice none 0 0 ∨ ∃ g n cap cur, v = .slice (some ⟨g, 0, none⟩) n cap ∧ 0 < n ∧ base ≤ g ∧ w.heap[g]? = some (.cells cur t (0, 0)) ∧ n ≤ cap ∧ cap ≤ maxLen ∧ cur.size = cap * q

theorem Whole.carry {w w' : World} {base base' : Nat} {t : TypeId} {q : Nat} {v : Value} (h : Whole w base t q v) (hb : base' ≤ base) (hF : ∀ b, base ≤ b → b < w.heap.size → w'.heap[b]? = w.heap[b]?) : Whole w' base' t q v := by
  rcases h with h | ⟨g, n, cap, cur, h1, h2, h3, h4, h5⟩
  · exact .inl h
  · exact .inr ⟨g, n, cap, cur, h1, h2, by omega, (hF g h3 (Array.getElem?_eq_some_iff.1 h4).1).trans h4, h5⟩

theorem Whole.stay {w w' : World} {base : Nat} {t : TypeId} {q : Nat} {v : Value} (h : Whole w base t q v) (hb : Below w.heap.size w w') : Whole w' base t q v := h.carry (Nat.le_refl _) fun b _ hlt => hb.block b hlt

theorem Whole.of_owns {w : World} {base : Nat} {t : TypeId} {q : Nat} {v : Value} {n : Nat} {xs : List Value} (h : w.ownsRow base t q v n xs) (hn : n = 0 → v = .slice none 0 0) : Whole w base t q v := by
  rcases h.2 with ⟨h, _⟩ | ⟨g, cap, cur, h1, h2, h3, h4, h5, h6, -⟩
  · exact .inl h
  · by_cases h0 : n = 0
    · exact .inl (hn h0)
    · exact .inr ⟨g, n, cap, cur, h1, by omega, h2, h3, h4, h5, h6⟩

/-- The first k of a list of trees have been copied since w, and laid behind each other in the slice v; nothing has turned that lay there in w0. -/
structure LaidApp (t : TypeId) (w0 w wr : World) (kids : List RT) (k : Nat) (v : Value) (KV DV : Nat → Value) (FF : Nat → List Nat) : Prop where
  own : wr.ownsRow w.heap.size t 5 v k (rowsOf kids KV DV k)
  lie : ∀ j (h : j < kids.length), j < k → Lies wr kids[j] (KV j) (DV j) (FF j)
  fresh : Fresh w wr ((List.range k).flatMap FF)
  apart : ∀ g, v.ownBlock = some g → g ∉ (List.range k).flatMap FF
  below : Below w0.heap.size w0 wr
  size : w.heap.size ≤ wr.heap.size
  size0 : w0.heap.size ≤ w.heap.size
  nil : k = 0 → v = .slice none 0 0

theorem LaidApp.start (t : TypeId) {w0 w wr : World} (kids : List RT) (hb : Below w0.heap.size w0 wr) (hs : w.heap.size ≤ wr.heap.size) (h0 : w0.heap.size ≤ w.heap.size) : LaidApp t w0 w wr kids 0 (.slice none 0 0) (fun _ => .bool true) (fun _ => .bool true) (fun _ => []) :=
  ⟨⟨rfl, .inl ⟨rfl, rfl⟩⟩, fun _ _ h => absurd h (by omega), Fresh.nil _ _, fun _ h => by simp [Value.ownBlock] at h, hb, hs, h0, fun _ => rfl⟩

section
variable {t : TypeId} {w0 w wr w' : World} {kids : List RT} {k : Nat} {v : Value} {KV DV : Nat → Value} {FF : Nat → List Nat}

theorem LaidApp.lt (h : LaidApp t w0 w wr kids k v KV DV FF) (hk : k ≤ kids.length) : ∀ b ∈ (List.range k).flatMap FF, b < wr.heap.size := fun b hb => by
  obtain ⟨j, hj, hbj⟩ := List.mem_flatMap.1 hb
  have := List.mem_range.1 hj
  exact (h.lie j (by omega) this).lt b hbj

theorem LaidApp.ownlt (h : LaidApp t w0 w wr kids k v KV DV FF) : ∀ b, v.ownBlock = some b → w.heap.size ≤ b ∧ b < wr.heap.size := fun b e => by
  rcases h.own.2 with ⟨rfl, _⟩ | ⟨g', cap', cur, rfl, hg, hh, _⟩
  · simp [Value.ownBlock] at e
  · have : g' = b := by simpa [Value.ownBlock] using e
    subst this
    exact ⟨hg, (Array.getElem?_eq_some_iff.1 hh).1⟩

theorem LaidApp.slice (h : LaidApp t w0 w wr kids k v KV DV FF) : ∃ o c, v = .slice o k c := by
  rcases h.own.2 with ⟨rfl, e⟩ | ⟨g', cap', cur, rfl, hg, hh, _⟩
  · exact ⟨none, 0, by rw [e]⟩
  · exact ⟨_, _, rfl⟩

theorem LaidApp.stay (h : LaidApp t w0 w wr kids k v KV DV FF) (hk : k ≤ kids.length) (hb : Below wr.heap.size wr w') : LaidApp t w0 w w' kids k v KV DV FF :=
  ⟨owns_below h.own hb, fun j hj hjk => (h.lie j hj hjk).stay hb (Nat.le_refl _), h.fresh.carry fun b hbF => hb.block b (h.lt hk b hbF), h.apart, h.below.trans (hb.mono h.below.size), Nat.le_trans h.size hb.size, h.size0, h.nil⟩

/-- A store into a block that was there in w, but not in w0. -/
theorem LaidApp.set (h : LaidApp t w0 w wr kids k v KV DV FF) {p : Addr} (hp : p.block < w.heap.size) (hp0 : w0.heap.size ≤ p.block) (u : Value) : LaidApp t w0 w (wr.setCell p u) kids k v KV DV FF := by
  have keep : ∀ b, w.heap.size ≤ b → (wr.setCell p u).heap[b]? = wr.heap[b]? := fun b hb => Below.heap_setCell _ _ _ _ (by omega)
  refine ⟨⟨h.own.1, ?_⟩, fun j hj hjk => (h.lie j hj hjk).carry fun b hbF => keep b (h.fresh.old b (List.mem_flatMap.2 ⟨j, List.mem_range.2 hjk, hbF⟩)), h.fresh.carry fun b hbF => keep b (h.fresh.old b hbF), h.apart, h.below.setCell hp0 _, by simpa [World.setCell] using h.size, h.size0, h.nil⟩
  rcases h.own.2 with h2 | ⟨g, cap, cur, hv, hg, hh, r⟩
  · exact .inl h2
  · exact .inr ⟨g, cap, cur, hv, hg, (keep g hg).trans hh, r⟩
end

/-- One more: copied into w1, laid behind the others. -/
theorem LaidApp.step {t : TypeId} {w0 w wr w1 w2 w3 : World} {kids : List RT} {k : Nat} {v : Value} {KV DV : Nat → Value} {FF : Nat → List Nat} (h : LaidApp t w0 w wr kids k v KV DV FF) (hk : k < kids.length)
    (hb1 : Below wr.heap.size wr w1) {kv dv : Value} {F : List Nat} (hl : Lies w1 kids[k] kv dv F) (hf : Fresh wr w1 F) (hb2 : Below w1.heap.size w1 w2)
    {g cap : Nat} (hgrow : w2.grownBy w3 v.ownBlock) (hown : w3.ownsRow w.heap.size t 5 (.slice (some ⟨g, 0, none⟩) (k + 1) cap) (k + 1) (rowsOf kids KV DV k ++ kids[k].row kv dv)) (hat : v.ownBlock = some g ∨ g = w2.heap.size) :
    LaidApp t w0 w w3 kids (k + 1) (.slice (some ⟨g, 0, none⟩) (k + 1) cap) (fun j => if j = k then kv else KV j) (fun j => if j = k then dv else DV j) (fun j => if j = k then F else FF j) := by
  have hbw := hb1.trans (hb2.mono hb1.size)
  have hold := h.lt (by omega)
  have hvb : ∀ b, b < wr.heap.size → b ∈ (List.range k).flatMap FF → some b ≠ v.ownBlock := fun b _ hbF e => h.apart b e.symm hbF
  have keep : ∀ b ∈ (List.range k).flatMap FF, w3.heap[b]? = wr.heap[b]? := fun b hbF => by
    have hlt := hold b hbF
    rw [hgrow.block b (by have := hbw.size; omega) (hvb b hlt hbF), hbw.block b hlt]
  have keepN : ∀ b ∈ F, w3.heap[b]? = w1.heap[b]? := fun b hbF => by
    have hlt := hl.lt b hbF
    have hge := hf.old b hbF
    rw [hgrow.block b (by have := hb2.size; omega) (fun e => by have := (h.ownlt b e.symm).2; omega), hb2.block b hlt]
  refine ⟨?_, fun j hj hjk => ?_, ?_, fun g' hg' => ?_, ?_, ?_, h.size0, fun h0 => absurd h0 (by omega)⟩
  · rw [rowsOf_succ]
    have e1 : rowsOf kids (fun j => if j = k then kv else KV j) (fun j => if j = k then dv else DV j) k = rowsOf kids KV DV k := rowsOf_congr kids fun j hj => ⟨if_neg (by omega), if_neg (by omega)⟩
    have e2 : kids.getD k default = kids[k] := by simp [List.getD, List.getElem?_eq_getElem hk]
    rw [e1, e2]
    simp only [if_true]
    exact hown
  · by_cases e : j = k
    · subst e
      simp only [if_true]
      exact hl.carry keepN
    · simp only [e, if_false]
      exact (h.lie j hj (by omega)).carry fun b hbF => keep b (List.mem_flatMap.2 ⟨j, List.mem_range.2 (by omega), hbF⟩)
  · rw [flat_succ]
    exact (h.fresh.carry keep).append hold (hf.carry keepN) h.size
  · rw [flat_succ]
    have eg : g' = g := by simpa [Value.ownBlock] using hg'.symm
    subst eg
    intro hm
    rcases List.mem_append.1 hm with hm | hm
    · rcases hat with e | e
      · exact h.apart _ e hm
      · have := hold _ hm
        have := hbw.size
        omega
    · have h1 := hl.lt _ hm
      have h2 := hf.old _ hm
      rcases hat with e | e
      · have := (h.ownlt _ e).2; omega
      · have := hb2.size; omega
  · exact (h.below.trans (hbw.mono h.below.size)).grown hgrow (Nat.le_trans h.below.size hbw.size) (fun b e => Nat.le_trans h.size0 (h.ownlt b e).1)
  · exact Nat.le_trans h.size (Nat.le_trans hbw.size hgrow.size)

theorem LaidApp.whole {t : TypeId} {w0 w wr : World} {kids : List RT} {k : Nat} {v : Value} {KV DV : Nat → Value} {FF : Nat → List Nat} (h : LaidApp t w0 w wr kids k v KV DV FF) : Whole wr w.heap.size t 5 v := .of_owns h.own h.nil

theorem LaidApp.done {t : TypeId} {w0 w wr : World} {kids : List RT} {v : Value} {KV DV : Nat → Value} {FF : Nat → List Nat} (h : LaidApp t w0 w wr kids kids.length v KV DV FF) :
    ∃ F, KidsLie wr v kids F ∧ Fresh w wr F ∧ Below w0.heap.size w0 wr := by
  rcases h.own.2 with ⟨rfl, h0⟩ | ⟨g, cap, cur, rfl, hg, hh, hnc, hcm, hsz, htk⟩
  · have e : kids = [] := List.length_eq_zero_iff.1 h0
    subst e
    exact ⟨[], ⟨none, 0, 0, 0, fun _ => [], fun _ => .bool true, fun _ => .bool true, rfl, Nat.le_refl _, Nat.zero_le _, fun h => absurd h (by simp), rfl, fun i hi => absurd hi (by simp), fun i hi => absurd hi (by simp), Room.nil _ _ _⟩, Fresh.nil _ _, h.below⟩
  · refine ⟨_, ⟨_, cap, g, 0, FF, KV, DV, rfl, hnc, hcm, fun _ => rfl, rfl, fun i hi j hj => ?_, fun i hi => h.lie i hi hi, room_of hh (by omega)⟩, ?_, h.below⟩
    · have hget := rowsOf_get kids KV DV kids.length i j hi hj
      rw [← htk, List.getElem?_take_of_lt (by omega)] at hget
      rw [Nat.zero_add, cell_of hh]
      have e2 : kids.getD i default = kids[i] := by simp [List.getD, List.getElem?_eq_getElem hi]
      rw [e2] at hget
      simpa using hget
    · split
      · simpa using h.fresh
      · refine ⟨?_, ?_, ?_⟩
        · simp only [List.singleton_append, List.nodup_cons]
          exact ⟨h.apart g rfl, h.fresh.nodup⟩
        · intro b hbF
          rcases List.mem_append.1 hbF with hbF | hbF
          · simp at hbF; omega
          · exact h.fresh.old b hbF
        · intro b hbF o
          rcases List.mem_append.1 hbF with hbF | hbF
          · simp at hbF; subst hbF; simp [World.frozen?, hh]
          · exact h.fresh.free b hbF o

end Go.Proofs.YtfmkhogpnnobeaaGreatDoor

/- for any text the program's TextOk answers as the model's TextOk does: at most 400 bytes, each from 32 to 126. -/
namespace Go.Proofs.YtfmkhogpnnobeaaGreatDoor
open Go Go.RowKit

def okByte (b : UInt8) : Bool := decide (32 ≤ b.toNat) && decide (b.toNat ≤ 126)
def textOk (s : ByteArray) : Bool := decide (s.size ≤ 400) && s.data.toList.all okByte

theorem all_step {s : ByteArray} {k : Nat} (h : (s.data.toList.take k).all okByte = true) (hk : k < s.size) (h1 : 32 ≤ s[k].toNat) (h2 : s[k].toNat ≤ 126) : (s.data.toList.take (k + 1)).all okByte = true := by
  rw [List.take_succ_eq_append_getElem (by simpa using hk), List.all_append, h]
  have e : s.data.toList[k]'(by simpa using hk) = s[k] := rfl
  rw [e]
  simp [okByte, h1, h2]

theorem all_end {s : ByteArray} {k : Nat} (h : (s.data.toList.take k).all okByte = true) (hk : ¬ k < s.size) : s.data.toList.all okByte = true := by
  rwa [List.take_of_length_le (by simp only [Array.length_toList]; have : s.size = s.data.size := rfl; omega)] at h

theorem all_bad {s : ByteArray} {k : Nat} (hk : k < s.size) (h : ¬ (32 ≤ s[k].toNat ∧ s[k].toNat ≤ 126)) : textOk s = false := by
  have hm : s[k] ∈ s.data.toList := by
    have : s[k] = s.data.toList[k]'(by simpa using hk) := rfl
    rw [this]; exact List.getElem_mem _
  have : s.data.toList.all okByte = false := by
    rw [List.all_eq_false]
    refine ⟨_, hm, ?_⟩
    simp only [okByte, Bool.and_eq_true, decide_eq_true_eq]
    exact h
  simp [textOk, this]

set_option maxHeartbeats 400000 in
theorem spec_textOk (s : ByteArray) (hm : s.size ≤ maxLen) (w : World) :
    Calls Tryz.prog 92 #[.string s] w fun e w' => e = .returned (.bool (textOk s)) ∧ w' = w := by
  unfold maxLen at hm
  go_enter Tryz.func92, Tryz.ntmps92
  go_wp2
  go_loop [3] (fun i => ∃ k : Nat, k ≤ s.size ∧ i = .int .i64 k ∧ Hid ((s.data.toList.take k).all okByte = true)) (fun i => s.size - (intOf i).toNat)
  case atStart => exact ⟨0, Nat.zero_le _, rfl, rfl⟩
  case round =>
    obtain ⟨k, hk, rfl, hr⟩ := hrel
    by_cases hlt : k < s.size
    · by_cases h1 : 32 ≤ s[k].toNat
      · by_cases h2 : s[k].toNat ≤ 126
        · have HS := Lib.hid (all_step hr.out hlt h1 h2)
          go_wp2
          go_round
          case rel => exact ⟨k + 1, by omega, by go_num, HS.out⟩
          case measure => simp [intOf]; omega
        · have HN := Lib.hid (all_bad hlt (fun h => h2 h.2))
          go_wp2
          go_ret
          exact ⟨by rw [HN.out]; rfl, rfl⟩
      · have HN := Lib.hid (all_bad hlt (fun h => h1 h.1))
        go_wp2
        go_ret
        exact ⟨by rw [HN.out]; rfl, rfl⟩
    · have HE := Lib.hid (all_end hr.out hlt)
      go_wp2
      go_ret
      refine ⟨?_, rfl⟩
      unfold textOk
      rw [HE.out, Bool.and_true]
      refine congrArg (fun b => Ending.returned (.bool b)) ?_
      simp
      omega

set_option maxHeartbeats 400000 in
theorem impl_textOk (s : ByteArray) (hm : s.size ≤ maxLen) (w : World) :
    Calls Tryz.prog 132 #[.string s] w fun e w' => e = .returned (.bool (textOk s)) ∧ w' = w := by
  unfold maxLen at hm
  by_cases hs : s.size ≤ 400
  · have hs' : (s.size : Int) ≤ 400 := by omega
    go_enter Tryz.func132, Tryz.ntmps132
    go_wp2
    go_loop [9] (fun i => ∃ k : Nat, k ≤ s.size ∧ i = .int .i64 k ∧ Hid ((s.data.toList.take k).all okByte = true)) (fun i => s.size - (intOf i).toNat)
    case atStart => exact ⟨0, Nat.zero_le _, rfl, rfl⟩
    case round =>
      obtain ⟨k, hk, rfl, hr⟩ := hrel
      by_cases hlt : k < s.size
      · by_cases h1 : 32 ≤ s[k].toNat
        · by_cases h2 : s[k].toNat ≤ 126
          · have HS := Lib.hid (all_step hr.out hlt h1 h2)
            go_wp2
            go_round
            case rel => exact ⟨k + 1, by omega, by go_num, HS.out⟩
            case measure => simp [intOf]; omega
          · have HN := Lib.hid (all_bad hlt (fun h => h2 h.2))
            go_wp2
            go_ret
            exact ⟨by rw [HN.out]; rfl, rfl⟩
        · have HN := Lib.hid (all_bad hlt (fun h => h1 h.1))
          go_wp2
          go_ret
          exact ⟨by rw [HN.out]; rfl, rfl⟩
      · have HE := Lib.hid (all_end hr.out hlt)
        go_wp2
        go_ret
        refine ⟨?_, rfl⟩
        unfold textOk
        rw [HE.out, Bool.and_true, decide_eq_true hs]
        rfl
  · go_enter Tryz.func132, Tryz.ntmps132
    go_wp2
    go_ret
    refine ⟨?_, rfl⟩
    unfold textOk
    rw [decide_eq_false (p := s.size ≤ 400) (by omega), Bool.false_and]
    rfl

end Go.Proofs.YtfmkhogpnnobeaaGreatDoor

/- the program's keysOk and the model's l3Keys answer the same of every list of texts: each is TextOk, and they ascend. -/
namespace Go.Proofs.YtfmkhogpnnobeaaGreatDoor
open Go Go.RowKit

theorem str_geq (t : TypeId) (a b : ByteArray) : binOp .geq t (.string a) (.string b) = pure (.bool !(Op.bytesLess a.toList b.toList)) := by simp [binOp, Op.stringOp]

/-- What is asked of the i-th key. -/
def KeyAt (ks : List ByteArray) (i : Nat) (h : i < ks.length) : Prop := textOk ks[i] = true ∧ (∀ _h : 0 < i, Op.bytesLess (ks[i - 1]'(by omega)).toList ks[i].toList = true)

/-- Keys that are TextOk and ascend. -/
noncomputable def keysOk (ks : List ByteArray) : Bool := @decide (∀ i (h : i < ks.length), KeyAt ks i h) (Classical.propDecidable _)

theorem keysOk_yes {ks : List ByteArray} (h : ∀ i (h : i < ks.length), KeyAt ks i h) : keysOk ks = true := @decide_eq_true _ (Classical.propDecidable _) h
theorem keysOk_no {ks : List ByteArray} {i : Nat} (h : i < ks.length) (hn : ¬ KeyAt ks i h) : keysOk ks = false := @decide_eq_false _ (Classical.propDecidable _) (fun h' => hn (h' i h))

set_option maxRecDepth 100000 in
set_option maxHeartbeats 800000 in
theorem impl_keysOk {v : Value} {ks : List ByteArray} {F : List Nat} (w : World) (hs : StrsAt w v ks F) :
    Calls Tryz.prog 190 #[v] w fun e w' => e = .returned (.bool (keysOk ks)) ∧ w' = w := by
  obtain ⟨o, cap, b, off, rfl, hlc, hcm, ho, -, hcell, -⟩ := hs
  have HC := Lib.hid hcell
  have HO := Lib.hid ho
  clear hcell ho
  unfold maxLen at hcm
  have hge := str_geq
  go_enter Tryz.func190, Tryz.ntmps190
  go_wp2
  go_loop [7] (fun i => ∃ k : Nat, k ≤ ks.length ∧ i = .int .i64 k ∧ Hid (∀ i (h : i < ks.length), i < k → KeyAt ks i h)) (fun i => ks.length - (intOf i).toNat)
  case atStart => exact ⟨0, Nat.zero_le _, rfl, fun i _ h => absurd h (by omega)⟩
  case round =>
    obtain ⟨k, hk, rfl, hr⟩ := hrel
    by_cases hlt : k < ks.length
    · have ho := HO.out (by omega)
      subst ho
      obtain ⟨c0, m0⟩ := HC.out k hlt
      have HT := Lib.hid (impl_textOk ks[k] m0)
      have HS : Hid (KeyAt ks k hlt → ∀ i (h : i < ks.length), i < k + 1 → KeyAt ks i h) := fun hk1 i h hi => by
        by_cases e : i = k
        · subst e; exact hk1
        · exact hr.out i h (by omega)
      by_cases ht : textOk ks[k] = true
      · rw [ht] at HT
        by_cases hp : 0 < k
        · obtain ⟨j, rfl⟩ : ∃ j, k = j + 1 := ⟨k - 1, by omega⟩
          obtain ⟨c1, m1⟩ := HC.out j (by omega)
          have e1 : (((j + 1 : Nat) : Int) - 1) = j := by omega
          by_cases hle : Op.bytesLess ks[j].toList ks[j + 1].toList = true
          · have HY := Lib.hid (HS.out ⟨ht, fun _ => hle⟩)
            clear HS ht m0 m1
            generalize ks[j] = y at *
            generalize ks[j + 1] = x at *
            go_wp2_with (first
              | (go_at_call 132; refine (HT.out _).mono ?_; rintro e w1 ⟨rfl, e1⟩; subst e1)
              | go_in)
            go_round
            case rel => exact ⟨j + 1 + 1, by omega, by go_num, HY.out⟩
            case measure => simp [intOf]; omega
          · have HN := Lib.hid (keysOk_no hlt (fun h => hle (h.2 hp)))
            have hle' : Op.bytesLess ks[j].toList ks[j + 1].toList = false := by simpa using hle
            clear HS ht m0 m1 hle
            generalize ks[j] = y at *
            generalize ks[j + 1] = x at *
            go_wp2_with (first
              | (go_at_call 132; refine (HT.out _).mono ?_; rintro e w1 ⟨rfl, e1⟩; subst e1)
              | go_in)
            go_ret
            exact ⟨by rw [HN.out]; rfl, rfl⟩
        · have e0 : k = 0 := by omega
          subst e0
          have HY := Lib.hid (HS.out ⟨ht, fun h => absurd h hp⟩)
          clear HS ht m0
          rw [Nat.add_zero] at c0
          generalize ks[0] = x at *
          go_wp2_with (first
            | (go_at_call 132; refine (HT.out _).mono ?_; rintro e w1 ⟨rfl, e1⟩; subst e1)
            | go_in)
          go_round
          case rel => exact ⟨1, by omega, by go_num, HY.out⟩
          case measure => simp [intOf]; omega
      · have HN := Lib.hid (keysOk_no hlt (fun h => ht h.1))
        have ht' : textOk ks[k] = false := by simpa using ht
        rw [ht'] at HT
        clear HS ht ht' m0
        generalize ks[k] = x at *
        go_wp2_with (first
          | (go_at_call 132; refine (HT.out _).mono ?_; rintro e w1 ⟨rfl, e1⟩; subst e1)
          | go_in)
        go_ret
        exact ⟨by rw [HN.out]; rfl, rfl⟩
    · have HY := Lib.hid (keysOk_yes (ks := ks) (fun i h => hr.out i h (by omega)))
      go_wp2
      go_ret
      exact ⟨by rw [HY.out]; rfl, rfl⟩

set_option maxRecDepth 100000 in
set_option maxHeartbeats 800000 in
theorem spec_keys {v : Value} {ks : List ByteArray} {F : List Nat} (w : World) (hs : StrsAt w v ks F) :
    Calls Tryz.prog 149 #[v] w fun e w' => e = .returned (.bool (keysOk ks)) ∧ Below w.heap.size w w' := by
  obtain ⟨o, cap, b, off, rfl, hlc, hcm, ho, -, hcell, -⟩ := hs
  have HC := Lib.hid hcell
  have HO := Lib.hid ho
  clear hcell ho
  unfold maxLen at hcm
  have hge := str_geq
  go_enter Tryz.func149, Tryz.ntmps149
  go_wp2
  go_loopw [3] (fun i wr => ∃ k : Nat, k ≤ ks.length ∧ i = .int .i64 k ∧ Hid (∀ i (h : i < ks.length), i < k → KeyAt ks i h) ∧ Hid (Below w.heap.size w wr)) (fun i _ => ks.length - (intOf i).toNat)
  case atStart => exact ⟨0, Nat.zero_le _, rfl, fun i _ h => absurd h (by omega), Below.refl _ _⟩
  case round =>
    obtain ⟨k, hk, rfl, hr, hb⟩ := hrel
    by_cases hlt : k < ks.length
    · have ho := HO.out (by omega)
      subst ho
      obtain ⟨cw, m0⟩ := HC.out k hlt
      have c0 : wr.cell? ⟨b, off + k, none⟩ = some (.string ks[k]) := by
        rw [hb.out.cell (by exact World.block_lt_of_cell? _ _ cw)]; exact cw
      clear cw
      have HT := Lib.hid (spec_textOk ks[k] m0)
      have hi0 : (0 : Int) ≤ (k : Int) := by omega
      have hi1 : (k : Int) < (ks.length : Int) := by omega
      have HS : Hid (KeyAt ks k hlt → ∀ i (h : i < ks.length), i < k + 1 → KeyAt ks i h) := fun hk1 i h hi => by
        by_cases e : i = k
        · subst e; exact hk1
        · exact hr.out i h (by omega)
      by_cases ht : textOk ks[k] = true
      · rw [ht] at HT
        by_cases hp : 0 < k
        · obtain ⟨j, rfl⟩ : ∃ j, k = j + 1 := ⟨k - 1, by omega⟩
          obtain ⟨cw, m1⟩ := HC.out j (by omega)
          have c1 : wr.cell? ⟨b, off + j, none⟩ = some (.string ks[j]) := by
            rw [hb.out.cell (by exact World.block_lt_of_cell? _ _ cw)]; exact cw
          clear cw
          have hi2 : (0 : Int) ≤ (j : Int) := by omega
          have hi3 : (j : Int) < (ks.length : Int) := by omega
          have e1 : (((j + 1 : Nat) : Int) - 1) = j := by omega
          by_cases hle : Op.bytesLess ks[j].toList ks[j + 1].toList = true
          · have HY := Lib.hid (HS.out ⟨ht, fun _ => hle⟩)
            clear HS ht m0 m1
            generalize ks[j] = y at *
            generalize ks[j + 1] = x at *
            go_wp2
            go_quiet (first | (go_at_call 92; exact Calls.quiet_of_same (HT.out _)))
            go_wp2
            exact ⟨⟨j + 1 + 1, by omega, by go_num, HY.out, below_drewN hb.out _⟩, by simp [intOf]; omega⟩
          · have HN := Lib.hid (keysOk_no hlt (fun h => hle (h.2 hp)))
            have hle' : Op.bytesLess ks[j].toList ks[j + 1].toList = false := by simpa using hle
            clear HS ht m0 m1 hle
            generalize ks[j] = y at *
            generalize ks[j + 1] = x at *
            go_wp2
            go_quiet (first | (go_at_call 92; exact Calls.quiet_of_same (HT.out _)))
            go_wp2
            go_ret
            exact ⟨by rw [HN.out]; rfl, below_drewN hb.out _⟩
        · have e0 : k = 0 := by omega
          subst e0
          have HY := Lib.hid (HS.out ⟨ht, fun h => absurd h hp⟩)
          clear HS ht m0
          rw [Nat.add_zero] at c0
          generalize ks[0] = x at *
          go_wp2
          go_quiet (first | (go_at_call 92; exact Calls.quiet_of_same (HT.out _)))
          go_wp2
          exact ⟨⟨1, by omega, by go_num, HY.out, below_drewN hb.out _⟩, by simp [intOf]; omega⟩
      · have HN := Lib.hid (keysOk_no hlt (fun h => ht h.1))
        have ht' : textOk ks[k] = false := by simpa using ht
        rw [ht'] at HT
        clear HS ht ht' m0
        generalize ks[k] = x at *
        go_wp2
        go_quiet (first | (go_at_call 92; exact Calls.quiet_of_same (HT.out _)))
        go_wp2
        go_ret
        exact ⟨by rw [HN.out]; rfl, below_drewN hb.out _⟩
    · have HY := Lib.hid (keysOk_yes (ks := ks) (fun i h => hr.out i h (by omega)))
      go_wp2
      go_ret
      exact ⟨by rw [HY.out]; rfl, hb.out⟩
end Go.Proofs.YtfmkhogpnnobeaaGreatDoor

/- where a key stands in a list of texts, and where it would come to stand: slices.Index and the program's placeOf; the model's l3At; the program's isMap. -/
namespace Go.Proofs.YtfmkhogpnnobeaaGreatDoor
open Go Go.RowKit

theorem str_gtr (t : TypeId) (a b : ByteArray) : binOp .gtr t (.string a) (.string b) = pure (.bool !(Op.bytesLess a.toList b.toList || a.toList == b.toList)) := by simp [binOp, Op.stringOp]

/-- The first place of a key. -/
def FirstAt (ks : List ByteArray) (key : ByteArray) (i : Nat) : Prop := ∃ h : i < ks.length, ks[i] = key ∧ ∀ j (hj : j < i), ¬ ks[j] = key
/-- A key that is not there. -/
def Absent (ks : List ByteArray) (key : ByteArray) : Prop := ∀ i (h : i < ks.length), ¬ ks[i] = key

/-- How many keys at the head are below a key. -/
def placeN (ks : List ByteArray) (key : ByteArray) : Nat := (ks.takeWhile fun k => Op.bytesLess k.toList key.toList).length

theorem placeN_le (ks : List ByteArray) (key : ByteArray) : placeN ks key ≤ ks.length := by
  unfold placeN
  exact (List.takeWhile_prefix _).length_le

theorem place_unique {ks : List ByteArray} {key : ByteArray} {i : Nat} (hi : i ≤ ks.length) (h1 : ∀ j (h : j < ks.length), j < i → Op.bytesLess ks[j].toList key.toList = true) (h2 : ∀ h : i < ks.length, Op.bytesLess ks[i].toList key.toList = false) : placeN ks key = i := by
  induction ks generalizing i with
  | nil => simp at hi; subst hi; rfl
  | cons k ks ih =>
    cases i with
    | zero =>
      have := h2 (by simp)
      simp only [List.getElem_cons_zero] at this
      simp [placeN, this]
    | succ i =>
      have h0 := h1 0 (by simp) (by omega)
      simp only [List.getElem_cons_zero] at h0
      have := ih (i := i) (by simpa using hi) (fun j hj hji => by have := h1 (j + 1) (by simpa using hj) (by omega); simpa using this) (fun h => by have := h2 (by simpa using h); simpa using this)
      simp only [placeN] at this ⊢
      rw [List.takeWhile_cons, if_pos h0, List.length_cons, this]

set_option maxHeartbeats 400000 in
theorem slices_index {v : Value} {ks : List ByteArray} {F : List Nat} (w : World) (hs : StrsAt w v ks F) (key : ByteArray) :
    Calls Tryz.prog 136 #[v, .string key] w fun e w' => ((∃ i : Nat, FirstAt ks key i ∧ e = .returned (.int .i64 i)) ∨ (Absent ks key ∧ e = .returned (.int .i64 (-1)))) ∧ w' = w := by
  obtain ⟨o, cap, b, off, rfl, hlc, hcm, ho, -, hcell, -⟩ := hs
  have HC := Lib.hid hcell
  have HO := Lib.hid ho
  clear hcell ho
  unfold maxLen at hcm
  go_enter Tryz.func136, Tryz.ntmps136
  go_wp2
  go_loop [8] (fun i => ∃ k : Nat, k ≤ ks.length ∧ i = .int .i64 k ∧ Hid (∀ j (h : j < ks.length), j < k → ¬ ks[j] = key)) (fun i => ks.length - (intOf i).toNat)
  case atStart => exact ⟨0, Nat.zero_le _, rfl, fun j _ h => absurd h (by omega)⟩
  case round =>
    obtain ⟨k, hk, rfl, hr⟩ := hrel
    by_cases hlt : k < ks.length
    · have ho := HO.out (by omega)
      subst ho
      obtain ⟨c0, -⟩ := HC.out k hlt
      by_cases he : ks[k] = key
      · have HE : Hid (FirstAt ks key k) := ⟨hlt, he, fun j hj => hr.out j (by omega) hj⟩
        rw [he] at c0
        clear he
        go_wp2
        go_ret
        exact ⟨.inl ⟨k, HE.out, rfl⟩, rfl⟩
      · have HS : Hid (∀ j (h : j < ks.length), j < k + 1 → ¬ ks[j] = key) := fun j h hj => by
          by_cases e : j = k
          · subst e; exact he
          · exact hr.out j h (by omega)
        have he' := bytes_ne (fun h => he h.symm)
        clear he
        generalize ks[k] = x at *
        go_wp2
        go_round
        case rel => exact ⟨k + 1, by omega, by go_num, HS.out⟩
        case measure => simp [intOf]; omega
    · have HA : Hid (Absent ks key) := fun i h => hr.out i h (by omega)
      go_wp2
      go_ret
      exact ⟨.inr ⟨HA.out, rfl⟩, rfl⟩

set_option maxHeartbeats 400000 in
theorem impl_placeOf {v : Value} {ks : List ByteArray} {F : List Nat} (w : World) (hs : StrsAt w v ks F) (key : ByteArray) (ha : Absent ks key) :
    Calls Tryz.prog 137 #[v, .string key] w fun e w' => e = .returned (.int .i64 (placeN ks key : Nat)) ∧ w' = w := by
  obtain ⟨o, cap, b, off, rfl, hlc, hcm, ho, -, hcell, -⟩ := hs
  have HC := Lib.hid hcell
  have HO := Lib.hid ho
  have HA := Lib.hid ha
  clear hcell ho ha
  unfold maxLen at hcm
  have hgt := str_gtr
  go_enter Tryz.func137, Tryz.ntmps137
  go_wp2
  go_loop [9] (fun i => ∃ k : Nat, k ≤ ks.length ∧ i = .int .i64 k ∧ Hid (∀ j (h : j < ks.length), j < k → Op.bytesLess ks[j].toList key.toList = true)) (fun i => ks.length - (intOf i).toNat)
  case atStart => exact ⟨0, Nat.zero_le _, rfl, fun j _ h => absurd h (by omega)⟩
  case round =>
    obtain ⟨k, hk, rfl, hr⟩ := hrel
    by_cases hlt : k < ks.length
    · have ho := HO.out (by omega)
      subst ho
      obtain ⟨c0, -⟩ := HC.out k hlt
      have he' := bytes_ne (HA.out k hlt)
      by_cases hl : Op.bytesLess ks[k].toList key.toList = true
      · have HS : Hid (∀ j (h : j < ks.length), j < k + 1 → Op.bytesLess ks[j].toList key.toList = true) := fun j h hj => by
          by_cases e : j = k
          · subst e; exact hl
          · exact hr.out j h (by omega)
        generalize ks[k] = x at *
        go_wp2
        go_round
        case rel => exact ⟨k + 1, by omega, by go_num, HS.out⟩
        case measure => simp [intOf]; omega
      · have hl' : Op.bytesLess ks[k].toList key.toList = false := by simpa using hl
        have HP : Hid (placeN ks key = k) := place_unique hk hr.out (fun _ => hl')
        clear hl
        generalize ks[k] = x at *
        go_wp2
        go_ret
        exact ⟨by rw [HP.out]; rfl, rfl⟩
    · have HP : Hid (placeN ks key = ks.length) := place_unique (Nat.le_refl _) (fun j h _ => hr.out j h (by omega)) (fun h => absurd h (by omega))
      go_wp2
      go_ret
      exact ⟨by rw [HP.out]; rfl, rfl⟩

set_option maxRecDepth 100000 in
set_option maxHeartbeats 800000 in
/-- The model's l3At of a map with as many keys as kids. -/
theorem spec_at (w : World) {kv : Value} {keys : List ByteArray} {FK : List Nat} (hK : StrsAt w kv keys FK) (n : Int) (s : ByteArray) (o : Option Addr) (q : Nat) (key : ByteArray) :
    Calls Tryz.prog 58 #[.agg #[.int .i64 5, .int .i64 n, .string s, kv, .slice o keys.length q], .string key] w fun e w' => ((∃ i : Nat, FirstAt keys key i ∧ e = .returned (.int .i64 i)) ∨ (Absent keys key ∧ e = .returned (.int .i64 (-1)))) ∧ Below w.heap.size w w' := by
  obtain ⟨ko, cap, b, off, rfl, hlc, hcm, ho, -, hcell, -⟩ := hK
  have HX := Lib.hid (Box.start w (.int .i64 5) (.int .i64 n) (.string s) (.slice ko keys.length cap) (.slice o keys.length q) 32)
  have HC := Lib.hid fun i h => ((Below.refl _ w).alloc (Nat.le_refl _) (.cells #[.int .i64 5, .int .i64 n, .string s, .slice ko keys.length cap, .slice o keys.length q] 32)).cell (p := ⟨b, off + i, none⟩) (World.block_lt_of_cell? _ _ (hcell i h).1) |>.trans (hcell i h).1
  have HO := Lib.hid ho
  clear hcell ho
  unfold maxLen at hcm
  go_enter Tryz.func58, Tryz.ntmps58
  go_wp2
  go_loop [5] (fun i => ∃ k : Nat, k ≤ keys.length ∧ i = .int .i64 k ∧ Hid (∀ j (h : j < keys.length), j < k → ¬ keys[j] = key)) (fun i => keys.length - (intOf i).toNat)
  case atStart => exact ⟨0, Nat.zero_le _, rfl, fun j _ h => absurd h (by omega)⟩
  case round =>
    obtain ⟨k, hk, rfl, hr⟩ := hrel
    by_cases hlt : k < keys.length
    · have ho := HO.out (by omega)
      subst ho
      have c0 := HC.out k hlt
      by_cases he : keys[k] = key
      · have HE : Hid (FirstAt keys key k) := ⟨hlt, he, fun j hj => hr.out j (by omega) hj⟩
        rw [he] at c0
        clear he
        go_wp2
        go_ret
        exact ⟨.inl ⟨k, HE.out, rfl⟩, HX.out.below⟩
      · have HS : Hid (∀ j (h : j < keys.length), j < k + 1 → ¬ keys[j] = key) := fun j h hj => by
          by_cases e : j = k
          · subst e; exact he
          · exact hr.out j h (by omega)
        have he' := bytes_ne he
        clear he
        generalize keys[k] = x at *
        go_wp2
        go_round
        case rel => exact ⟨k + 1, by omega, by go_num, HS.out⟩
        case measure => simp [intOf]; omega
    · have HA : Hid (Absent keys key) := fun i h => hr.out i h (by omega)
      go_wp2
      go_ret
      exact ⟨.inr ⟨HA.out, rfl⟩, HX.out.below⟩

set_option maxRecDepth 100000 in
set_option maxHeartbeats 400000 in
theorem impl_isMap (k n : Int) (s : ByteArray) (ko o : Option Addr) (kl kc dl dc : Nat) (w : World) :
    Calls Tryz.prog 105 #[.agg #[.int .i64 k, .int .i64 n, .string s, .slice ko kl kc, .slice o dl dc]] w fun e w' => e = .returned (.bool (decide (k = 5) && decide (kl = dl))) ∧ Below w.heap.size w w' := by
  by_cases h5 : k = 5
  · subst h5
    by_cases h : kl = dl
    · subst h
      go_enter Tryz.func105, Tryz.ntmps105
      go_wp2
      go_ret
      exact ⟨ret_bool (by simp), (Below.refl _ w).alloc (Nat.le_refl _) _⟩
    · have h' : ¬ (kl : Int) = dl := by omega
      go_enter Tryz.func105, Tryz.ntmps105
      go_wp2
      go_ret
      exact ⟨ret_bool (by simp [h, h']), (Below.refl _ w).alloc (Nat.le_refl _) _⟩
  · go_enter Tryz.func105, Tryz.ntmps105
    go_wp2
    go_ret
    exact ⟨ret_bool (by simp [h5]), (Below.refl _ w).alloc (Nat.le_refl _) _⟩
end Go.Proofs.YtfmkhogpnnobeaaGreatDoor
