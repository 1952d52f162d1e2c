/-
  What is proved: the library's sort of a row of texts that a call owns; a map's Keys in their order.; what stands at a Key of a map of Kids (at); the Keys of such a map, in order (inOrder); whether two spots are the same; the way behind a Key.; the Keys of a map of Kids, in order (inOrder).; a map of Kids as a node, its Keys in order (node).; plain facts on what is merged of three maps: what stands at a Key of a node that is made of a map; how great it is.
-/
import Derived.Test.YtelpkcbbipianaaGreatPartBA
import Derived.Test.YtelpkcbbipianaaGreatSrtS
import Derived.Sort.OwnSorted
import Derived.Lib.Hide
import Derived.Lib.BitFns
import Derived.Test.YtelpkcbbipianaaGreatPartAN
/- the library's sort of a row of texts that a call owns; a map's Keys in their order. -/
namespace Go.Proofs.YtelpkcbbipianaaGreat
open Go Go.RowKit Go.Maps Go.Sort

set_option maxRecDepth 100000 in
theorem ins_nil (p : Option Addr) (cap : Nat) (w : World) : Calls Tryz.prog 91 #[.slice p 0 cap, .int .i64 0, .int .i64 0] w fun e w' => e = .returned (.tuple #[]) ∧ w' = w := by
  go_enter Tryz.func91, Tryz.ntmps91
  go_wp2
  refine wp_loop_rounds 1 ?_
  rw [rounds_succ]
  go_wp2
  go_end0
  exact ⟨rfl, rfl⟩

set_option maxRecDepth 100000 in
theorem pdq_nil (p : Option Addr) (cap : Nat) (w : World) : Calls Tryz.prog 81 #[.slice p 0 cap, .int .i64 0, .int .i64 0, .int .i64 0] w fun e w' => e = .returned (.tuple #[]) ∧ w' = w := by
  go_enter Tryz.func81, Tryz.ntmps81
  go_wp2
  refine wp_loop_rounds 1 ?_
  rw [rounds_succ]
  go_wp2_with (first | (go_at_call 91; refine (ins_nil p cap _).mono ?_; rintro e w' ⟨rfl, rfl⟩))
  refine bodyPost_ret (results_none rfl _ _ _) rfl ?_
  exact ⟨rfl, rfl⟩

set_option maxRecDepth 100000 in
theorem len64_nil (w : World) : Calls Tryz.prog 101 #[.int .u64 0] w fun e w' => e = .returned (.int .i64 0) ∧ w' = w := by
  go_enter Tryz.func101, Tryz.ntmps101
  go_wp2
  go_ret
  have e8 : wrap64 (wrap64 (Lib.len8 0)) = 0 := by
    have h := Lib.len8_of 0 (by omega) (by omega)
    have hz : Lib.bitLen (Int.toNat 0) = 0 := by simp [Lib.bitLen, Lib.bitLenAux]
    rw [h, hz]
    unfold wrap64
    omega
  refine ⟨?_, rfl⟩
  show Ending.returned (.int .i64 (wrap64 (wrap64 (Lib.len8 0)))) = _
  rw [e8]

set_option maxRecDepth 100000 in
theorem len_nil (w : World) : Calls Tryz.prog 82 #[.int .u64 0] w fun e w' => e = .returned (.int .i64 0) ∧ w' = w := by
  go_enter Tryz.func82, Tryz.ntmps82
  go_wp2_with (first | (go_at_call 101; refine (len64_nil _).mono ?_; rintro e w' ⟨rfl, rfl⟩))
  go_ret
  exact ⟨rfl, rfl⟩

set_option maxRecDepth 100000 in
theorem sort_nil (p : Option Addr) (cap : Nat) (w : World) : Calls Tryz.prog 68 #[.slice p 0 cap] w fun e w' => e = .returned (.tuple #[]) ∧ w' = w := by
  go_enter Tryz.func68, Tryz.ntmps68
  go_wp2_with (first
    | (go_at_call 82; refine (len_nil _).mono ?_; rintro e w' ⟨rfl, rfl⟩)
    | (go_at_call 81; refine (pdq_nil p cap _).mono ?_; rintro e w' ⟨rfl, rfl⟩))
  go_end0
  exact ⟨rfl, rfl⟩

/-- The order of Go's texts. -/
def sortT (ss : List (List UInt8)) : List (List UInt8) := ss.mergeSort fun x y => decide (x ≤ y)

/-- A row of texts that a call owns, in order. -/
theorem impl_sort {w : World} {base : Nat} {v : Value} {ss : List (List UInt8)} (hown : w.ownsRow base 9 1 v ss.length (ss.map encStr)) (hl : ss.length < 4611686018427387904) (h0 : ss = [] → ∃ p cap, v = .slice p 0 cap) :
    Calls Tryz.prog 68 #[v] w fun e w' => e = .returned (.tuple #[]) ∧ w'.ownsRow base 9 1 v ss.length ((sortT ss).map encStr) ∧ w.grownBy w' v.ownBlock := by
  by_cases hn : ss = []
  · subst hn
    obtain ⟨p, cap, rfl⟩ := h0 rfl
    refine (sort_nil p cap w).mono ?_
    rintro e w' ⟨rfl, rfl⟩
    refine ⟨rfl, ?_, World.grownBy.refl _ _⟩
    have : sortT [] = [] := by unfold sortT; simp
    rw [this]
    exact hown
  · have hlen : 0 < ss.length := List.length_pos_iff.2 hn
    rcases hown.2 with ⟨hnil, h⟩ | ⟨g, cap, cur, rfl, hbase, hb, h1, h2, h3, h4⟩
    · omega
    · have hH : Holds encStr w g 0 ss.toArray := holds_of_block hb (by simpa using h4)
      have hgl : g < w.heap.size := (Array.getElem?_eq_some_iff.1 hb).1
      refine (Any.slices_Sort_string Tryz.lays190 g 0 cap ss w hH hgl hl).mono ?_
      rintro e w' ⟨rfl, nn, os, rfl⟩
      exact ⟨rfl, ownsRow_sorted (by simp) hbase hb h1 h2 h3, grownBy_sorted _⟩
end Go.Proofs.YtelpkcbbipianaaGreat

/- what stands at a Key of a map of Kids (at); the Keys of such a map, in order (inOrder); whether two spots are the same; the way behind a Key. -/
namespace Go.Proofs.YtelpkcbbipianaaGreat
open Go Go.RowKit Go.Maps

theorem six {w : World} {b : Nat} {t : TypeId} {a0 a1 a2 a3 a4 a5 : Value} (h : w.heap[b]? = some (.cells #[a0, a1, a2, a3, a4, a5] t (0, 0))) :
    w.cell? ⟨b, 0, none⟩ = some a0 ∧ w.cell? ⟨b, 1, none⟩ = some a1 ∧ w.cell? ⟨b, 2, none⟩ = some a2 ∧ w.cell? ⟨b, 3, none⟩ = some a3 ∧ w.cell? ⟨b, 4, none⟩ = some a4 ∧ w.cell? ⟨b, 5, none⟩ = some a5 ∧ ∀ o, w.frozen? ⟨b, o, none⟩ = false := by
  refine ⟨cell_of h 0, cell_of h 1, cell_of h 2, cell_of h 3, cell_of h 4, cell_of h 5, fun o => ?_⟩
  simp [World.frozen?, h]

theorem ret_spot {fn : Func} {i : Nat} (hres : fn.results = #[ResultVar.cell i 40]) {tmps : Array Value} {w : World} {b : Nat} {t : TypeId} {a0 a1 a2 a3 a4 a5 : Value}
    (ht : tmps[i]?.getD undef = .pointer (some ⟨b, 0, none⟩)) (h : w.heap[b]? = some (.cells #[a0, a1, a2, a3, a4, a5] t (0, 0))) : (results fn tmps).run Tryz.prog w = .ok (.agg #[a0, a1, a2, a3, a4, a5]) w := by
  obtain ⟨c0, c1, c2, c3, c4, c5, -⟩ := six h
  simp [results, hres, ht, go_sem, c0, c1, c2, c3, c4, c5]

theorem ret_spotS {fn : Func} {i j : Nat} (hres : fn.results = #[ResultVar.cell i 40, ResultVar.tmp j]) {tmps : Array Value} {w : World} {b : Nat} {t : TypeId} {a0 a1 a2 a3 a4 a5 v : Value}
    (ht : tmps[i]?.getD undef = .pointer (some ⟨b, 0, none⟩)) (hv : tmps[j]?.getD undef = v) (h : w.heap[b]? = some (.cells #[a0, a1, a2, a3, a4, a5] t (0, 0))) : (results fn tmps).run Tryz.prog w = .ok (.tuple #[.agg #[a0, a1, a2, a3, a4, a5], v]) w := by
  obtain ⟨c0, c1, c2, c3, c4, c5, -⟩ := six h
  simp [results, hres, ht, hv, go_sem, c0, c1, c2, c3, c4, c5]

/-- The six cells of a spot, stored. -/
def set6 (w : World) (b : Nat) (v0 v1 v2 v3 v4 v5 : Value) : World := (set5 w b 0 v0 v1 v2 v3 v4).setCell ⟨b, 5, none⟩ v5

theorem set6_end {w : World} {b : Nat} {t : TypeId} {a0 a1 a2 a3 a4 a5 : Value} (h : w.heap[b]? = some (.cells #[a0, a1, a2, a3, a4, a5] t (0, 0))) (v0 v1 v2 v3 v4 v5 : Value) :
    (set6 w b v0 v1 v2 v3 v4 v5).heap[b]? = some (.cells #[v0, v1, v2, v3, v4, v5] t (0, 0)) :=
  heap_set (heap_set (heap_set (heap_set (heap_set (heap_set h 0 v0) 1 v1) 2 v2) 3 v3) 4 v4) 5 v5

theorem set6_below {B : Nat} {a w : World} (h : Below B a w) {b : Nat} (hb : B ≤ b) (v0 v1 v2 v3 v4 v5 : Value) : Below B a (set6 w b v0 v1 v2 v3 v4 v5) := (set5_below h hb 0 v0 v1 v2 v3 v4).setCell hb _

theorem set6_other (w : World) (b : Nat) (v0 v1 v2 v3 v4 v5 : Value) (k : Nat) (h : k ≠ b) : (set6 w b v0 v1 v2 v3 v4 v5).heap[k]? = w.heap[k]? := by
  unfold set6
  rw [Below.heap_setCell _ _ _ _ h, set5_other _ _ _ _ _ _ _ _ _ h]

set_option maxRecDepth 100000 in
theorem impl_kidsAt {w w0 : World} {b n : Nat} {D : DV} {G : ByteArray → Option RT} {P : Nat → Prop} (hown : w.ownsMap Tryz.prog 9 heldV b n D) (hG : MapIs w0 D G P) (key : ByteArray) (hkey : key.size ≤ maxLen) :
    Calls Tryz.prog 51 #[.map (some b), .string key] w fun e w' => ∃ x1 c1 x2 c2 F, e = .returned (.agg #[.int .i64 ((G key).getD zeroT).k, .int .i64 ((G key).getD zeroT).n, .string ((G key).getD zeroT).s, .slice x1 ((G key).getD zeroT).keys.length c1, .slice x2 ((G key).getD zeroT).kids.length c2, .bool (G key).isSome]) ∧ Kid w0 P (G key) x1 c1 x2 c2 F ∧ Below w.heap.size w w' := by
  go_enter Tryz.func51, Tryz.ntmps51
  go_wp2_with (first
    | (at_lookup; refine wpList_look_kid _ rfl _ _ rfl b n D rfl (hown.alloc _) hG key rfl hkey ?_; intro x1 c1 x2 c2 FX hk; have HK := Lib.hid hk; clear hk)
    | go_in)
  exact bodyPost_ret (ret_spot Tryz.results51 rfl ((Below.heap_alloc _ _ _ (by simp)).trans (heap_last w _))) rfl ⟨_, _, _, _, _, rfl, HK.out, ((Below.refl _ w).alloc (Nat.le_refl _) _).alloc (by simp) _⟩

set_option maxRecDepth 100000 in
theorem impl_wayBelow (key way : ByteArray) (w : World) (hs : key.size + way.size + 1 ≤ 140737488355328) :
    Calls Tryz.prog 52 #[.string key, .string way] w fun e w' => ∃ s : ByteArray, e = .returned (.string s) ∧ s.size ≤ key.size + way.size + 1 ∧ w' = w := by
  go_enter Tryz.func52, Tryz.ntmps52
  go_wp2
  · go_ret
    exact ⟨_, rfl, by omega, rfl⟩
  · go_ret
    exact ⟨_, rfl, by simp only [ByteArray.size_append]; show key.size + 1 + way.size ≤ _; omega, rfl⟩

/-- A spot: what stands there, or nothing. -/
structure Spot (w : World) (o : Option RT) (x1 : Option Addr) (c1 : Nat) (x2 : Option Addr) (c2 : Nat) (F : List Nat) : Prop where
  lies : Lies w (o.getD zeroT) (.slice x1 (o.getD zeroT).keys.length c1) (.slice x2 (o.getD zeroT).kids.length c2) F

/-- A spot as a value. -/
abbrev spotV (o : Option RT) (x1 : Option Addr) (c1 : Nat) (x2 : Option Addr) (c2 : Nat) : Value :=
  .agg #[.int .i64 (o.getD zeroT).k, .int .i64 (o.getD zeroT).n, .string (o.getD zeroT).s, .slice x1 (o.getD zeroT).keys.length c1, .slice x2 (o.getD zeroT).kids.length c2, .bool o.isSome]

theorem spot_eq {a b : Option RT} : (a.isSome = b.isSome ∧ a.getD zeroT = b.getD zeroT) ↔ a = b := by
  cases a <;> cases b <;> simp

set_option maxRecDepth 100000 in
theorem spot_same_raw (X Y : RT) (p q : Bool) (w : World) (x1 x2 y1 y2 : Option Addr) (n1 n2 m1 m2 c1 c2 d1 d2 : Nat) (F F' : List Nat) (ha : Lies w X (.slice x1 n1 c1) (.slice x2 n2 c2) F) (hb : Lies w Y (.slice y1 m1 d1) (.slice y2 m2 d2) F') :
    Calls Tryz.prog 30 #[.agg #[.int .i64 X.k, .int .i64 X.n, .string X.s, .slice x1 n1 c1, .slice x2 n2 c2, .bool p], .agg #[.int .i64 Y.k, .int .i64 Y.n, .string Y.s, .slice y1 m1 d1, .slice y2 m2 d2, .bool q]] w fun e w' => e = .returned (.bool (p == q && same X Y)) ∧ Below w.heap.size w w' := by
  have HS := Lib.hid (fun (w1 : World) (hb1 : Below w.heap.size w w1) => impl_same X w1 _ _ _ (ha.stay hb1 (Nat.le_refl _)) Y _ _ _ (hb.stay hb1 (Nat.le_refl _)))
  have HB := Lib.hid (fun (o1 o2 : Obj) => ((Below.refl _ w).alloc (Nat.le_refl _) o1).alloc (by simp) o2)
  clear ha hb
  cases p <;> cases q
  · go_enter Tryz.func30, Tryz.ntmps30
    go_wp2_with (first
      | (go_at_call 10; refine (HS.out _ (HB.out _ _)).mono ?_; rintro e w1 ⟨rfl, hb1⟩)
      | go_in)
    go_ret
    exact ⟨by simp, (HB.out _ _).trans (hb1.mono (HB.out _ _).size)⟩
  · go_enter Tryz.func30, Tryz.ntmps30
    go_wp2
    go_ret
    exact ⟨by simp, HB.out _ _⟩
  · go_enter Tryz.func30, Tryz.ntmps30
    go_wp2
    go_ret
    exact ⟨by simp, HB.out _ _⟩
  · go_enter Tryz.func30, Tryz.ntmps30
    go_wp2_with (first
      | (go_at_call 10; refine (HS.out _ (HB.out _ _)).mono ?_; rintro e w1 ⟨rfl, hb1⟩)
      | go_in)
    go_ret
    exact ⟨by simp, (HB.out _ _).trans (hb1.mono (HB.out _ _).size)⟩

theorem impl_spotSame (a b : Option RT) (w : World) (x1 x2 y1 y2 : Option Addr) (c1 c2 d1 d2 : Nat) (F F' : List Nat) (ha : Spot w a x1 c1 x2 c2 F) (hb : Spot w b y1 d1 y2 d2 F') :
    Calls Tryz.prog 30 #[spotV a x1 c1 x2 c2, spotV b y1 d1 y2 d2] w fun e w' => ∃ r : Bool, e = .returned (.bool r) ∧ (r = true ↔ a = b) ∧ Below w.heap.size w w' := by
  refine (spot_same_raw _ _ _ _ w _ _ _ _ _ _ _ _ _ _ _ _ _ _ ha.lies hb.lies).mono ?_
  rintro e w' ⟨rfl, hb⟩
  refine ⟨_, rfl, ?_, hb⟩
  rw [← spot_eq, Bool.and_eq_true, beq_iff_eq]
  by_cases e : a.getD zeroT = b.getD zeroT
  · simp [e, same_yes]
  · simp [e, same_no]
end Go.Proofs.YtelpkcbbipianaaGreat

/- the Keys of a map of Kids, in order (inOrder). -/
namespace Go.Proofs.YtelpkcbbipianaaGreat
open Go Go.RowKit Go.Maps Go.Sort

/-- Bytes as a text. -/
def txB (l : List UInt8) : ByteArray := ⟨l.toArray⟩

theorem map_encStr (ss : List (List UInt8)) : ss.map encStr = (ss.map txB).map Value.string := by
  rw [List.map_map]
  rfl

theorem txB_inj {a b : List UInt8} (h : txB a = txB b) : a = b := by
  have := congrArg (fun x : ByteArray => x.data.toList) h
  simpa [txB] using this

theorem keyL_txB (l : List UInt8) : keyL (txB l) = .string l := by
  unfold keyL txB
  simp

theorem txB_key (k : ByteArray) : txB k.data.toList = k := by
  unfold txB
  simp

theorem strs_of_row {w : World} {base : Nat} {v : Value} {ks : List ByteArray} (h : w.ownsRow base 9 1 v ks.length (ks.map Value.string)) (h0 : ks = [] → v = .slice none 0 0) (hs : ∀ k ∈ ks, k.size ≤ maxLen) :
    ∃ FK, StrsAt w v ks FK ∧ ∀ y ∈ FK, base ≤ y := by
  by_cases hn : ks = []
  · subst hn
    rw [h0 rfl]
    exact ⟨[], strs_nil w none, fun y hy => absurd hy (by simp)⟩
  · have hlen : 0 < ks.length := List.length_pos_iff.2 hn
    rcases h.2 with ⟨hnil, h⟩ | ⟨g, cap, cur, rfl, hbase, hb, h1, h2, h3, h4⟩
    · omega
    · refine ⟨[g], ⟨_, cap, g, 0, rfl, h1, h2, fun _ => rfl, by rw [if_neg (by omega)], fun i hi => ⟨?_, hs _ (List.getElem_mem hi)⟩, room_of hb (by omega)⟩, fun y hy => by simp at hy; omega⟩
      rw [Nat.zero_add, cell_of hb]
      have h5 : (cur.toList.take (ks.length * 1))[i]? = (ks.map Value.string)[i]? := by rw [h4]
      rw [List.getElem?_take_of_lt (by omega)] at h5
      simpa [List.getElem?_eq_getElem hi] using h5

set_option maxRecDepth 100000 in
set_option maxHeartbeats 800000 in
theorem impl_inOrder {w w0 : World} {b n : Nat} {D : DV} {G : ByteArray → Option RT} {P : Nat → Prop} (hown : w.ownsMap Tryz.prog 9 heldV b n D) (hG : MapIs w0 D G P) (hn : n ≤ 4000000) :
    Calls Tryz.prog 50 #[.map (some b)] w fun e w' => ∃ (v : Value) (ks : List ByteArray) (FK : List Nat), e = .returned v ∧ StrsAt w' v ks FK ∧ (∀ y ∈ FK, w.heap.size ≤ y) ∧ ks.Nodup ∧ (∀ key, key ∈ ks ↔ (G key).isSome = true) ∧ ks.length ≤ n ∧ Below w.heap.size w w' := by
  obtain ⟨i0, hi, hz0, hz1, hz2⟩ := info_parts info_string
  have hbl := hown.lt
  have hsize : Maps.size D ≤ n := hown.size_le
  go_enter Tryz.func50, Tryz.ntmps50
  go_wp2_with (first
    | (at_range; refine wpList_range_own _ rfl _ 84 rfl 9 27 strK Tryz.underlying84 heldV b n D rfl hown ?_; intro w1 hrg0 hg0 hs0)
    | go_in)
  go_frame
  go_loopw [3] (fun v wr => ∃ (left : Lit → Bool) (cnt : Nat) (ss : List (List UInt8)), wr.ranges Tryz.prog 9 heldV b w.heap.size n D left cnt ∧ ss.length + cnt ≤ Maps.size D ∧
      wr.ownsRow w.heap.size 9 1 v ss.length (ss.map encStr) ∧ (ss = [] → v = .slice none 0 0) ∧ Hid (Collected D left ss) ∧ (∀ x ∈ ss, x.length ≤ maxLen) ∧ Hid (Below w.heap.size w wr))
    (fun _ wr => wr.rangeLeft b w.heap.size)
  case atStart =>
    exact ⟨_, _, [], hrg0, by simp, ⟨rfl, .inl ⟨rfl, rfl⟩⟩, fun _ => rfl, Collected.start D, fun x hx => absurd hx (by simp), (Below.refl _ _).grown hg0 (Nat.le_refl _) (fun j hj => by cases hj)⟩
  case round =>
    obtain ⟨left, cnt, ss, hrg, hcs, hrow, hnil, hC, hlen, hnx⟩ := hrel
    go_wp2_with (first
      | (at_next; refine wpList_next_ranges _ rfl _ rfl 9 strK heldV encStr (fun v : Value => v) (fun key kl hk => by obtain ⟨x, hx, _⟩ := Maps.keyOf_str Tryz.underlying9 hk; exact ⟨x, hx⟩) (fun v y hv => ⟨v, rfl⟩) b w.heap.size n _ _ _ rfl hrg ?_ ?_)
      | go_in)
    · intro hc0 hl0
      have hperm := hC.out.perm hown strK Tryz.underlying9 hl0
      have HP := Lib.hid (And.intro hperm (And.intro hlen hcs))
      have HS := Lib.hid (impl_sort hrow (by omega) (fun h => ⟨none, 0, hnil h⟩))
      have HN := Lib.hid hnil
      have HC := Lib.hid (And.intro hC.out hl0)
      have HD := Lib.hid hrow
      clear hrow hrg hC hlen hcs hnil hperm
      go_wp2_with (first
        | (go_at_call 68; refine HS.out.mono ?_; rintro e w5 ⟨rfl, hown5, hg5⟩; have H5 := Lib.hid (And.intro hown5 hg5); clear hown5 hg5)
        | go_in)
      go_ret
      have hl5 : (sortT ss).length = ss.length := by unfold sortT; exact List.length_mergeSort _
      have hp5 : (sortT ss).Perm ss := by unfold sortT; exact List.mergeSort_perm _ _
      have hr5 := H5.out.1
      rw [map_encStr, ← hl5, ← List.length_map (f := txB)] at hr5
      obtain ⟨FK, g1, g2⟩ := strs_of_row hr5 (fun h => HN.out (by
        have := congrArg List.length h
        rw [List.length_map, List.length_nil, hl5] at this
        exact List.length_eq_zero_iff.1 this)) (fun k hk => by
        obtain ⟨l, hl, rfl⟩ := List.mem_map.1 hk
        have := HP.out.2.1 l (hp5.mem_iff.1 hl)
        simpa [txB, ByteArray.size] using this)
      refine ⟨_, _, FK, rfl, g1, g2, ?_, fun key => ?_, ?_, ?_⟩
      · exact List.pairwise_map.2 ((hp5.symm.nodup HC.out.1.1).imp fun hne e => hne (txB_inj e))
      · rw [← hG.has key]
        constructor
        · intro hk
          obtain ⟨l, hl, rfl⟩ := List.mem_map.1 hk
          rw [keyL_txB]
          exact ((HC.out.1.2 l).1 (hp5.mem_iff.1 hl)).1
        · intro hk
          refine List.mem_map.2 ⟨key.data.toList, hp5.mem_iff.2 ((HC.out.1.2 _).2 ⟨hk, HC.out.2 _⟩), txB_key key⟩
      · rw [List.length_map, hl5]; have := HP.out.2.2; omega
      · exact hnx.out.grown H5.out.2 hnx.out.size (fun j hj => (HD.out.lt j hj).1)
    · intro x c kl yd yp w2 cnt2 hkey hlk hv hat hrg2 hlt hg2 hs2 hen
      obtain ⟨x', ex, rfl, hxl⟩ := Maps.keyOf_str Tryz.underlying9 hkey
      obtain rfl : x = x' := encStr_inj ex
      have hrow2 := hrow.kept hg2 (Or.inr (row_ne_iter hrow hrg).symm)
      have HX := Lib.hid hs2
      clear hs2
      go_wp2_with (first
        | (at_builtin; refine wpList_append_own _ rfl _ _ 24 rfl w.heap.size 9 i0 (.string ⟨#[]⟩) 1 16 Tryz.underlying24 hi hz0 hz1 hz2 rfl (by decide) _ _ _ rfl (hrow2.alloc _) ⟨w2.heap.size, 0, none⟩ 1 1 [encStr x] rfl rfl (cell_one_new _ _ _) (by simp [Value.oneCell', encStr]) (by unfold maxLen at *; omega) (by omega) (by have := hnx.out.size; have := hg2.size; simp; omega) ?_; intro v' w3 hown' hg3 hnil3; go_frame)
        | go_in)
      have hrg3 := (hrg2.alloc _).kept hg3 (row_ne_low hrow2 hbl) (row_ne_iter hrow2 hrg2)
      refine ⟨⟨_, cnt2, ss ++ [x], hrg3, by simp; omega, by simpa using hown', fun h => absurd h (by simp), hC.out.step hlk hat, fun y hy => ?_, ?_⟩, by rw [hrg3.left_eq, hrg.left_eq]; exact hlt⟩
      · rcases List.mem_append.1 hy with hy | hy
        · exact hlen y hy
        · simp at hy; subst hy; exact hxl
      · exact ((hnx.out.grown hg2 hnx.out.size (fun j hj => by cases hj; exact Nat.le_refl _)).alloc (by have := hnx.out.size; have := hg2.size; omega) _).grown hg3 (by have := hnx.out.size; have := hg2.size; simp; omega) (fun j hj => (hrow2.lt j hj).1)
end Go.Proofs.YtelpkcbbipianaaGreat

/- a map of Kids as a node, its Keys in order (node). -/
namespace Go.Proofs.YtelpkcbbipianaaGreat
open Go Go.RowKit Go.Maps

set_option maxRecDepth 100000 in
theorem impl_mapForm (o1 o2 : Option Addr) (n1 c1 n2 c2 : Nat) (w : World) :
    Calls Tryz.prog 69 #[.agg #[.slice o1 n1 c1, .slice o2 n2 c2]] w fun e w' => e = .returned (.agg #[.int .i64 5, .int .i64 0, .string ⟨#[]⟩, .slice o1 n1 c1, .slice o2 n2 c2]) ∧ Below w.heap.size w w' := by
  go_enter Tryz.func69, Tryz.ntmps69
  go_wp2
  refine bodyPost_ret (ret_node Tryz.results69 rfl (t := 27) (b := w.heap.size + 1) ?_) rfl ⟨rfl, ((Below.refl _ w).alloc (Nat.le_refl _) _).alloc (by simp) _⟩
  have := heap_last (w.alloc (.cells #[.slice o1 n1 c1, .slice o2 n2 c2] 109)) (.cells #[.int .i64 5, .int .i64 0, .string ⟨#[]⟩, .slice o1 n1 c1, .slice o2 n2 c2] 27)
  simpa using this

theorem owns_map_below {w w' : World} {b n : Nat} {D : DV} (h : w.ownsMap Tryz.prog 9 heldV b n D) (hb : Below w.heap.size w w') : w'.ownsMap Tryz.prog 9 heldV b n D :=
  h.kept (row := none) ⟨hb.os, hb.tape, hb.output, hb.size, fun i hi _ => hb.block i hi⟩ (by simp)

section
variable (w : World) {ops : Array Oper} {rest : List Oper} {o : Oper} {a : Act} {Q : Exit → Act → World → Prop}

theorem wpList_look1_some (hg : o.guard = none) (m x : Operand) (hop : o.op = Op.lookup 84 m x false) (b n : Nat) (D : DV) (hm : a.eval m = .map (some b)) (hown : w.ownsMap Tryz.prog 9 heldV b n D)
    {w0 : World} {G : ByteArray → Option RT} {P : Nat → Prop} (hG : MapIs w0 D G P) (key : ByteArray) (hx : a.eval x = .string key) (hkey : key.size ≤ maxLen) (X : RT) (h0 : G key = some X)
    (hK : ∀ x1 c1 x2 c2 F, Kid w0 P (some X) x1 c1 x2 c2 F → wpList Tryz.prog ops Q rest (a.put o.dst (.agg #[.int .i64 X.k, .int .i64 X.n, .string X.s, .slice x1 X.keys.length c1, .slice x2 X.kids.length c2])) w) :
    wpList Tryz.prog ops Q (o :: rest) a w := by
  refine wpList_look1_kid w hg m x hop b n D hm hown hG key hx hkey ?_
  rw [h0]
  exact hK
end

/-- The node under way: so many of its Kids are laid. -/
structure NS (w w1 wr : World) (P : Nat → Prop) (kids : List RT) (v : Value) (k : Nat) (u : Value) (KV DV : Nat → Value) (FF : Nat → List Nat) : Prop where
  box : wr.heap[w1.heap.size]? = some (.cells #[v, u] 109 (0, 0))
  own : wr.ownsRow (w1.heap.size + 1) 27 5 u k (rowsOf kids KV DV k)
  lie : ∀ j (h : j < kids.length), j < k → Lies w kids[j] (KV j) (DV j) (FF j) ∧ ∀ y ∈ FF j, P y
  below : Below w1.heap.size w1 wr
  size : w1.heap.size < wr.heap.size
  nil : k = 0 → u = .slice none 0 0

theorem NS.box3 {w w1 wr w3 : World} {P : Nat → Prop} {kids : List RT} {v u : Value} {k : Nat} {KV DV : Nat → Value} {FF : Nat → List Nat} (h : NS w w1 wr P kids v k u KV DV FF) {ob : Obj} (hgrow : (wr.alloc ob).grownBy w3 u.ownBlock) :
    w3.heap[w1.heap.size]? = some (.cells #[v, u] 109 (0, 0)) := by
  have hub : ∀ j, u.ownBlock = some j → w1.heap.size + 1 ≤ j := fun j hj => (h.own.lt j hj).1
  rw [hgrow.block w1.heap.size (by have := h.size; simp; omega) (fun e => by have := hub _ e.symm; omega), Below.heap_alloc _ _ _ h.size]
  exact h.box

theorem NS.slice {w w1 wr : World} {P : Nat → Prop} {kids : List RT} {v u : Value} {k : Nat} {KV DV : Nat → Value} {FF : Nat → List Nat} (h : NS w w1 wr P kids v k u KV DV FF) : ∃ o c, u = .slice o k c := by
  rcases h.own.2 with ⟨rfl, e⟩ | ⟨g', cap', cur, rfl, hg, hh, _⟩
  · exact ⟨none, 0, by rw [e]⟩
  · exact ⟨_, _, rfl⟩

theorem NS.step {w w1 wr w3 : World} {P : Nat → Prop} {kids : List RT} {v u : Value} {k : Nat} {KV DV : Nat → Value} {FF : Nat → List Nat} (h : NS w w1 wr P kids v k u KV DV FF) (hk : k < kids.length) {ob : Obj}
    {kv dv : Value} {F : List Nat} (hl : Lies w kids[k] kv dv F) (hP : ∀ y ∈ F, P y) {g cap : Nat} (hgrow : (wr.alloc ob).grownBy w3 u.ownBlock) (hown : w3.ownsRow (w1.heap.size + 1) 27 5 (.slice (some ⟨g, 0, none⟩) (k + 1) cap) (k + 1) (rowsOf kids KV DV k ++ kids[k].row kv dv)) :
    NS w w1 (w3.setCell ⟨w1.heap.size, 1, none⟩ (.slice (some ⟨g, 0, none⟩) (k + 1) cap)) P kids v (k + 1) (.slice (some ⟨g, 0, none⟩) (k + 1) cap) (fun j => if j = k then kv else KV j) (fun j => if j = k then dv else DV j) (fun j => if j = k then F else FF j) := by
  have hub : ∀ j, u.ownBlock = some j → w1.heap.size + 1 ≤ j := fun j hj => (h.own.lt j hj).1
  have hb3 : Below w1.heap.size w1 w3 := (h.below.alloc h.below.size ob).grown hgrow (by have := h.below.size; simp; omega) (fun j hj => by have := hub j hj; omega)
  refine ⟨?_, ?_, fun j hj hjk => ?_, hb3.setCell (Nat.le_refl _) _, ?_, fun h0 => absurd h0 (by omega)⟩
  · have e : w3.heap[w1.heap.size]? = some (.cells #[v, u] 109 (0, 0)) := by
      rw [hgrow.block w1.heap.size (by have := h.size; simp; omega) (fun e => by have := hub _ e.symm; omega), Below.heap_alloc _ _ _ h.size]
      exact h.box
    exact heap_set e 1 _
  · rw [rowsOf_succ]
    have e1 : rowsOf kids (fun j => if j = k then kv else KV j) (fun j => if j = k then dv else DV j) k = rowsOf kids KV DV k := rowsOf_congr kids fun j hj => ⟨if_neg (by omega), if_neg (by omega)⟩
    have e2 : kids.getD k default = kids[k] := by simp [List.getD, List.getElem?_eq_getElem hk]
    rw [e1, e2]
    simp only [if_true]
    refine ⟨hown.1, ?_⟩
    rcases hown.2 with h2 | ⟨g', cap', cur, hv, hg, hh, r⟩
    · exact .inl h2
    · exact .inr ⟨g', cap', cur, hv, hg, (Below.heap_setCell _ _ _ _ (by show g' ≠ w1.heap.size; omega)).trans hh, r⟩
  · by_cases e : j = k
    · subst e
      simp only [if_true]
      exact ⟨hl, hP⟩
    · simp only [e, if_false]
      exact h.lie j hj (by omega)
  · have := h.size
    have := hgrow.size
    simp at this
    show _ < (w3.setCell _ _).heap.size
    simp [World.setCell]
    omega

/-- What the Kids are. -/
def kidsT (G : ByteArray → Option RT) (ks : List ByteArray) : List RT := ks.map fun k => (G k).getD zeroT

theorem NS.kids {w w1 wr : World} {P : Nat → Prop} {kids : List RT} {v u : Value} {KV DV : Nat → Value} {FF : Nat → List Nat} (h : NS w w1 wr P kids v kids.length u KV DV FF) (hb : Below w.heap.size w wr) :
    ∃ F, KidsLie wr u kids F ∧ ∀ y ∈ F, (P y ∧ y < w.heap.size) ∨ w1.heap.size ≤ y := by
  rcases h.own.2 with ⟨rfl, h0⟩ | ⟨g, cap, cur, rfl, hg, hh, hnc, hcm, hsz, htk⟩
  · have e : kids = [] := List.length_eq_zero_iff.1 h0
    subst e
    exact ⟨[], ⟨none, 0, 0, 0, fun _ => [], fun _ => .bool true, fun _ => .bool true, rfl, Nat.le_refl _, Nat.zero_le _, fun h => absurd h (by simp), rfl, fun i hi => absurd hi (by simp), fun i hi => absurd hi (by simp), Room.nil _ _ _⟩, fun y hy => absurd hy (by simp)⟩
  · refine ⟨_, ⟨_, cap, g, 0, FF, KV, DV, rfl, hnc, hcm, fun _ => rfl, rfl, fun i hi j hj => ?_, fun i hi => ((h.lie i hi hi).1).stay hb (Nat.le_refl _), room_of hh (by omega)⟩, fun y hy => ?_⟩
    · have hget := rowsOf_get kids KV DV kids.length i j hi hj
      rw [← htk, List.getElem?_take_of_lt (by omega)] at hget
      rw [Nat.zero_add, cell_of hh]
      have e2 : kids.getD i default = kids[i] := by simp [List.getD, List.getElem?_eq_getElem hi]
      rw [e2] at hget
      simpa using hget
    · rcases List.mem_append.1 hy with hy | hy
      · split at hy
        · exact absurd hy (by simp)
        · simp at hy; right; omega
      · obtain ⟨i, hi, hy⟩ := List.mem_flatMap.1 hy
        exact .inl ⟨(h.lie i (List.mem_range.1 hi) (List.mem_range.1 hi)).2 y hy, (h.lie i (List.mem_range.1 hi) (List.mem_range.1 hi)).1.lt y hy⟩

set_option maxRecDepth 100000 in
set_option maxHeartbeats 1600000 in
theorem impl_kidsNode {w : World} {b n : Nat} {D : DV} {G : ByteArray → Option RT} {P : Nat → Prop} (hown : w.ownsMap Tryz.prog 9 heldV b n D) (hG : MapIs w D G P) (hn : n ≤ 4000000) :
    Calls Tryz.prog 53 #[.map (some b)] w fun e w' => ∃ (ks : List ByteArray) (kv dv : Value) (F : List Nat), e = .returned (.agg #[.int .i64 5, .int .i64 0, .string ⟨#[]⟩, kv, dv]) ∧ Lies w' (.node 5 0 ⟨#[]⟩ ks (kidsT G ks)) kv dv F ∧ (∀ y ∈ F, P y ∨ w.heap.size ≤ y) ∧ ks.Nodup ∧ (∀ key, key ∈ ks ↔ (G key).isSome = true) ∧ Below w.heap.size w w' := by
  obtain ⟨i0, hi0, hz0, hz1, hz2⟩ := info_parts info_node
  have hb0 := (Below.refl _ w).alloc (Nat.le_refl _) (.cells #[.int .i64 0, .int .i64 0, .string ⟨#[]⟩, .slice none 0 0, .slice none 0 0] 27)
  have HR := Lib.hid (heap_last w (.cells #[.int .i64 0, .int .i64 0, .string ⟨#[]⟩, .slice none 0 0, .slice none 0 0] 27))
  have HI := Lib.hid (impl_inOrder (owns_map_below hown hb0) hG hn)
  have HB0 := Lib.hid hb0
  clear hb0
  go_enter Tryz.func53, Tryz.ntmps53
  go_wp2_with (first
    | (go_at_call 50; refine HI.out.mono ?_; rintro e w1 ⟨v, ks, FK, rfl, hS, hFK, hnd, hmem, hlen, hb1⟩; obtain ⟨ko, kc, kb, koff, ev, hs1, hs2, hs3, hs4, hs5, hs6⟩ := id hS; subst ev; have HS := Lib.hid (And.intro hS (And.intro hFK (And.intro hnd (And.intro hmem (And.intro hlen hb1))))); have HC := Lib.hid (And.intro hs3 hs5); clear hS hFK hnd hmem hlen hb1 hs3 hs4 hs5 hs6)
    | go_in)
  have hHS := HS.out
  obtain ⟨hS, hFK, hnd, hmem, hlen, hb1⟩ := hHS
  have hlk : (kidsT G ks).length = ks.length := by simp [kidsT]
  have HM := Lib.hid (And.intro hnd (And.intro hmem hlk))
  have HB1 := Lib.hid (HB0.out.trans (hb1.mono HB0.out.size))
  have HRes : Hid (w1.heap[w.heap.size]? = some (.cells #[.int .i64 0, .int .i64 0, .string ⟨#[]⟩, .slice none 0 0, .slice none 0 0] 27 (0, 0)) ∧ w.heap.size < w1.heap.size) := ⟨(hb1.block _ (by simp)).trans HR.out, by have := hb1.size; simp at this; omega⟩
  have HLen : Hid (ks.length ≤ 4000000) := Nat.le_trans hlen hn
  clear hS hFK hnd hmem hlen hb1 hlk
  go_loopw [12] (fun i wr => ∃ (k : Nat) (u : Value) (KV DV : Nat → Value) (FF : Nat → List Nat), k ≤ ks.length ∧ i = .int .i64 k ∧ Hid (NS w w1 wr P (kidsT G ks) (.slice ko ks.length kc) k u KV DV FF)) (fun i _ => ks.length - (intOf i).toNat)
  case atStart => exact ⟨0, .slice none 0 0, fun _ => .bool true, fun _ => .bool true, fun _ => [], Nat.zero_le _, rfl, ⟨heap_last _ _, ⟨rfl, .inl ⟨rfl, rfl⟩⟩, fun _ _ h => absurd h (by omega), (Below.refl _ _).alloc (Nat.le_refl _) _, by simp, fun _ => rfl⟩⟩
  case round =>
    obtain ⟨k, u, KV, DV, FF, hk, rfl, hr⟩ := hrel
    have HE : Hid (wrap64 ((k : Int) + 1) = ((k + 1 : Nat) : Int)) := by
      have := HLen.out
      show wrap64 _ = _
      unfold wrap64; omega
    have hbox := hr.out.box
    have hc0 : wr.cell? ⟨w1.heap.size, 0, none⟩ = some (.slice ko ks.length kc) := cell_of hbox 0
    have hc1 : wr.cell? ⟨w1.heap.size, 1, none⟩ = some u := cell_of hbox 1
    have hfz : ∀ o, wr.frozen? ⟨w1.heap.size, o, none⟩ = false := fun o => by simp [World.frozen?, hbox]
    clear hbox
    by_cases hlt : k < ks.length
    · have hko := HC.out.1 (by omega)
      subst hko
      have hkc := HC.out.2 k hlt
      have hks := hkc.2
      have hkc := (hr.out.below.cell (p := ⟨kb, koff + k, none⟩) (World.block_lt_of_cell? _ _ hkc.1)).trans hkc.1
      have hsome : (G ks[k]).isSome = true := (HM.out.2.1 ks[k]).1 (List.getElem_mem hlt)
      obtain ⟨X, hX⟩ := Option.isSome_iff_exists.1 hsome
      have hkid : (kidsT G ks)[k]'(by rw [HM.out.2.2]; exact hlt) = X := by simp [kidsT, hX]
      have HX := Lib.hid hkid
      have HBw := Lib.hid (HB1.out.trans (hr.out.below.mono HB1.out.size))
      have HOwn := Lib.hid (owns_map_below hown HBw.out)
      have HBase : Hid (w1.heap.size + 1 ≤ wr.heap.size + 1) := by have := hr.out.size; show _ ≤ _; omega
      have HRow := Lib.hid (fun ob => owns_below hr.out.own ((Below.refl _ wr).alloc (Nat.le_refl _) ob))
      clear hsome hkid
      generalize ks[k] = key at *
      go_wp2_with (first
        | (at_lookup; refine wpList_look1_some _ rfl _ _ rfl b n D rfl HOwn.out hG key rfl hks X hX ?_; intro x1 c1 x2 c2 FX hkd; have HK := Lib.hid hkd; clear hkd)
        | (at_builtin; refine wpList_append_lies _ rfl (.tmp 17) (.tmp 21) 25 rfl (w1.heap.size + 1) 27 i0 _ 5 80 Tryz.underlying25 hi0 hz0 hz1 hz2 rfl (by decide) u k _ rfl (HRow.out _) ⟨wr.heap.size, 0, none⟩ 1 1 [.int .i64 X.k, .int .i64 X.n, .string X.s, .slice x1 X.keys.length c1, .slice x2 X.kids.length c2] rfl rfl (World.news_of_block (cs := #[.int .i64 X.k, .int .i64 X.n, .string X.s, .slice x1 X.keys.length c1, .slice x2 X.kids.length c2]) (t := 27) (fr := (0, 0)) (heap_last wr _)) (by simp [Value.oneCell']) (by omega) (by have := HLen.out; unfold maxLen; omega) (by have := HLen.out; omega) (by simp; have := HBase.out; omega) (wr.heap.size + 1) (by simp) ?_; intro g cap' w3 hown3 hgrow hat hltg; have H3 := Lib.hid (And.intro hown3 (And.intro hgrow hat)); have hbx3 := hr.out.box3 hgrow; have hq1 : w3.cell? ⟨w1.heap.size, 1, none⟩ = some u := cell_of hbx3 1; have hq2 : ∀ o, w3.frozen? ⟨w1.heap.size, o, none⟩ = false := (fun o => by simp [World.frozen?, hbx3]); clear hbx3 hown3 hgrow hat hltg)
        | go_in)
      have hst := hr.out.step (by rw [HM.out.2.2]; exact hlt) (kv := .slice x1 X.keys.length c1) (dv := .slice x2 X.kids.length c2) (F := FX) (by rw [HX.out]; exact HK.out.lies) HK.out.off H3.out.2.1 (by rw [HX.out]; exact H3.out.1)
      exact ⟨⟨k + 1, _, _, _, _, by omega, by rw [HE.out], hst⟩, by rw [HE.out]; simp [intOf]; omega⟩
    · have e : k = ks.length := by omega
      subst e
      obtain ⟨uo, uc, rfl⟩ := hr.out.slice
      have hr' := hr.out
      rw [← HM.out.2.2] at hr'
      have HBw := Lib.hid (HB1.out.trans (hr.out.below.mono HB1.out.size))
      have HNS := Lib.hid hr'
      obtain ⟨x0, x1, x2, x3, x4, x5⟩ := five ((hr.out.below.block w.heap.size HRes.out.2).trans HRes.out.1)
      clear hr hr'
      go_wp2_with (first
        | (go_at_call 69; refine (impl_mapForm _ _ _ _ _ _ _).mono ?_; rintro e w5 ⟨rfl, hb5⟩; have HB5 := Lib.hid hb5; obtain ⟨y0, y1, y2, y3, y4, y5⟩ := five ((hb5.block w.heap.size (by have := HRes.out.2; have := HNS.out.size; omega)).trans ((HNS.out.below.block w.heap.size HRes.out.2).trans HRes.out.1)); clear hb5)
        | go_in)
      have hres5 := ((HB5.out.block w.heap.size (by have := HRes.out.2; have := HNS.out.size; omega)).trans ((HNS.out.below.block w.heap.size HRes.out.2).trans HRes.out.1))
      obtain ⟨FD, hkl, hFD⟩ := HNS.out.kids HBw.out
      rw [HM.out.2.2] at hkl
      have hSt := HS.out.1
      refine bodyPost_ret (ret_node Tryz.results53 rfl (set5_end hres5 _ _ _ _ _)) rfl ⟨ks, _, _, FK ++ FD, rfl, ?_, fun y hy => ?_, HM.out.1, HM.out.2.1, ?_⟩
      · have hw := HRes.out.2
        have keep : ∀ y, y ≠ w.heap.size → y < wr.heap.size → (set5 w5 w.heap.size 0 (.int .i64 5) (.int .i64 0) (.string ⟨#[]⟩) (.slice ko ks.length kc) (.slice uo ks.length uc)).heap[y]? = wr.heap[y]? := fun y hy hl => by
          rw [set5_other _ _ _ _ _ _ _ _ _ hy]; exact HB5.out.block y hl
        refine Lies.into (by unfold Fit; omega) (by unfold Fit; omega) (by show 0 ≤ maxLen; omega) (hSt.carry fun y hy => ?_) (hkl.carry fun y hy => ?_)
        · have h1 := hSt.lt y hy
          have h2 := HS.out.2.1 y hy
          simp at h2
          exact (keep y (by omega) (by have := HNS.out.size; omega)).trans (HNS.out.below.block y h1)
        · have h1 := hkl.lt y hy
          exact keep y (by rcases hFD y hy with h | h <;> omega) h1
      · rcases List.mem_append.1 hy with hy | hy
        · have h2 := HS.out.2.1 y hy
          simp at h2
          right; omega
        · rcases hFD y hy with h | h
          · exact .inl h.1
          · have := HRes.out.2
            right; omega
      · exact set5_below (HBw.out.trans (HB5.out.mono HBw.out.size)) (Nat.le_refl _) _ _ _ _ _ _
end Go.Proofs.YtelpkcbbipianaaGreat

/- plain facts on what is merged of three maps: what stands at a Key of a node that is made of a map; how great it is. -/
namespace Go.Proofs.YtelpkcbbipianaaGreat
open Go Go.RowKit Go.Maps

/-- How great what stands there is. -/
def osz : Option RT → Nat
  | none => 0
  | some X => X.sz

/-- What is merged at one place: what is asked of it. -/
structure MSpec (o1 o2 o3 o : Option RT) : Prop where
  e13 : o3 = o1 → o = o2
  e23 : o2 = o3 → o = o2
  e12 : o2 = o1 → o = o3
  maps : ∀ A B C, o1 = some A → o2 = some B → o3 = some C → A.isMap → B.isMap → C.isMap → ∃ M, o = some M ∧ Keeps A B C M
  size : osz o ≤ osz o1 + osz o2 + osz o3

theorem mspec_a {o1 o2 o3 : Option RT} (h : o3 = o1 ∨ o2 = o3) : MSpec o1 o2 o3 o2 where
  e13 := fun _ => rfl
  e23 := fun _ => rfl
  e12 := fun e => by
    rcases h with h | h
    · rw [e, h]
    · exact h
  maps := fun A B C h1 h2 h3 m1 m2 m3 => ⟨B, h2, m2, fun key X hX hk => by
    rcases h with h | h
    · rw [h1, h3] at h
      injection h with h
      subst h
      exact ⟨fun hB => hB.trans hX.symm, fun _ => rfl⟩
    · rw [h2, h3] at h
      injection h with h
      subst h
      exact ⟨fun _ => rfl, fun _ => rfl⟩⟩
  size := by omega

theorem mspec_b {o1 o2 o3 : Option RT} (h : o2 = o1) : MSpec o1 o2 o3 o3 where
  e13 := fun e => by rw [e, h]
  e23 := fun e => e.symm
  e12 := fun _ => rfl
  maps := fun A B C h1 h2 h3 m1 m2 m3 => ⟨C, h3, m3, fun key X hX hk => by
    rw [h1, h2] at h
    injection h with h
    subst h
    exact ⟨fun _ => rfl, fun hC => hC.trans hX.symm⟩⟩
  size := by omega

theorem mspec_way {o1 o2 o3 : Option RT} (h1 : o3 ≠ o1) (h2 : o2 ≠ o3) (h3 : o2 ≠ o1) (hm : ¬ ((o1.getD zeroT).isMap ∧ (o2.getD zeroT).isMap ∧ (o3.getD zeroT).isMap)) : MSpec o1 o2 o3 o2 where
  e13 := fun e => absurd e h1
  e23 := fun e => absurd e h2
  e12 := fun e => absurd e h3
  maps := fun A B C e1 e2 e3 m1 m2 m3 => absurd ⟨by rw [e1]; exact m1, by rw [e2]; exact m2, by rw [e3]; exact m3⟩ hm
  size := by omega

theorem mspec_maps {A B C M : RT} (h1 : some C ≠ some A) (h2 : some B ≠ some C) (h3 : some B ≠ some A) (hM : M.isMap) (hk : ∀ key, MSpec (A.at key) (B.at key) (C.at key) (M.at key)) (hs : M.sz ≤ A.sz + B.sz + C.sz) : MSpec (some A) (some B) (some C) (some M) where
  e13 := fun e => absurd e h1
  e23 := fun e => absurd e h2
  e12 := fun e => absurd e h3
  maps := fun A' B' C' e1 e2 e3 _ _ _ => by
    injection e1 with e1
    injection e2 with e2
    injection e3 with e3
    subst e1 e2 e3
    refine ⟨M, rfl, hM, fun key X hX _ => ⟨fun hB => (hk key).e12 (hB.trans hX.symm), fun hC => (hk key).e13 (hC.trans hX.symm)⟩⟩
  size := hs

theorem zip_find_yes (f : ByteArray → RT) (key : ByteArray) : (ks : List ByteArray) → key ∈ ks → ((ks.zip (ks.map f)).find? fun x => decide (x.1 = key)).map (·.2) = some (f key)
  | [], h => absurd h (by simp)
  | k :: ks, h => by
    rw [List.map_cons, List.zip_cons_cons, List.find?_cons]
    by_cases e : k = key
    · subst e; simp
    · have e' : ¬ key = k := fun h => e h.symm
      simp only [e, decide_false]
      exact zip_find_yes f key ks ((List.mem_cons.1 h).resolve_left e')

theorem zip_find_no (f : ByteArray → RT) (key : ByteArray) : (ks : List ByteArray) → key ∉ ks → ((ks.zip (ks.map f)).find? fun x => decide (x.1 = key)).map (·.2) = none
  | [], _ => rfl
  | k :: ks, h => by
    rw [List.map_cons, List.zip_cons_cons, List.find?_cons]
    have e : ¬ k = key := fun e => h (by simp [e])
    simp only [e, decide_false]
    exact zip_find_no f key ks fun h' => h (List.mem_cons_of_mem _ h')

/-- What stands at a Key of the node. -/
theorem node_at {G : ByteArray → Option RT} {ks : List ByteArray} (h : ∀ key, key ∈ ks ↔ (G key).isSome = true) (key : ByteArray) : (RT.node 5 0 ⟨#[]⟩ ks (kidsT G ks)).at key = G key := by
  have hm : (RT.node 5 0 ⟨#[]⟩ ks (kidsT G ks)).isMap := ⟨rfl, by simp [RT.keys, RT.kids, kidsT]⟩
  rw [at_zip hm]
  show ((ks.zip (kidsT G ks)).find? _).map _ = _
  unfold kidsT
  by_cases hk : key ∈ ks
  · rw [zip_find_yes _ _ _ hk]
    obtain ⟨X, hX⟩ := Option.isSome_iff_exists.1 ((h key).1 hk)
    rw [hX]; rfl
  · rw [zip_find_no _ _ _ hk]
    cases hg : G key with
    | none => rfl
    | some X => exact absurd ((h key).2 (by rw [hg]; rfl)) hk

/-- What a Key weighs in a map. -/
def wt (T : RT) (key : ByteArray) : Nat := match T.at key with
  | none => 0
  | some X => key.size + 2 + X.sz

theorem sum_map_add {α : Type} (f g : α → Nat) : (l : List α) → (l.map fun x => f x + g x).sum = (l.map f).sum + (l.map g).sum
  | [] => rfl
  | x :: l => by
    have := sum_map_add f g l
    simp only [List.map_cons, List.sum_cons, this]
    omega

theorem sum_map_le {α : Type} {f g : α → Nat} : (l : List α) → (∀ x ∈ l, f x ≤ g x) → (l.map f).sum ≤ (l.map g).sum
  | [], _ => Nat.le_refl _
  | x :: l, h => by
    have h1 := h x (by simp)
    have h2 := sum_map_le l fun y hy => h y (by simp [hy])
    simp only [List.map_cons, List.sum_cons]
    omega

theorem sum_one {k : ByteArray} {c : Nat} : (ks : List ByteArray) → ks.Nodup → (ks.map fun x => if k = x then c else 0).sum ≤ c
  | [], _ => Nat.zero_le _
  | x :: ks, h => by
    obtain ⟨h1, h2⟩ := List.nodup_cons.1 h
    simp only [List.map_cons, List.sum_cons]
    by_cases e : k = x
    · subst e
      have hz : (ks.map fun x => if k = x then c else 0).sum = 0 := by
        have : ∀ l : List ByteArray, k ∉ l → (l.map fun x => if k = x then c else 0).sum = 0 := fun l => by
          induction l with
          | nil => intro _; rfl
          | cons y l ih =>
            intro hy
            rw [List.map_cons, List.sum_cons, if_neg (fun e => hy (by simp [e])), ih (fun h => hy (by simp [h]))]
        exact this ks h1
      rw [if_pos rfl, hz]
      omega
    · have := sum_one (k := k) (c := c) ks h2
      rw [if_neg e]
      omega

theorem sum_find (g : ByteArray × RT → Nat) {ks : List ByteArray} (hn : ks.Nodup) : (ps : List (ByteArray × RT)) → (ks.map fun key => match ps.find? (fun x => decide (x.1 = key)) with | none => 0 | some p => g p).sum ≤ (ps.map g).sum
  | [] => by
    have hz : ∀ l : List ByteArray, (l.map fun _ => 0).sum = 0 := fun l => by
      induction l with
      | nil => rfl
      | cons x l ih => rw [List.map_cons, List.sum_cons, ih]
    refine Nat.le_trans (sum_map_le (g := fun _ => 0) ks fun x _ => by simp) ?_
    rw [hz]
    exact Nat.zero_le _
  | p :: ps => by
    have ih := sum_find g hn ps
    have h1 := sum_one (k := p.1) (c := g p) ks hn
    rw [List.map_cons, List.sum_cons]
    refine Nat.le_trans (sum_map_le (g := fun key => (if p.1 = key then g p else 0) + (match ps.find? (fun x => decide (x.1 = key)) with | none => 0 | some p => g p)) ks fun x _ => ?_) ?_
    · rw [List.find?_cons]
      by_cases e : p.1 = x
      · simp [e]
      · simp [e]
    · rw [sum_map_add]
      omega

theorem wt_sum {T : RT} (hm : T.isMap) {ks : List ByteArray} (hn : ks.Nodup) : (ks.map (wt T)).sum ≤ T.sz := by
  have h1 := sum_find (fun p => p.1.size + 2 + p.2.sz) hn (T.keys.zip T.kids)
  have h2 : (ks.map (wt T)).sum ≤ (ks.map fun key => match (T.keys.zip T.kids).find? (fun x => decide (x.1 = key)) with | none => 0 | some p => p.1.size + 2 + p.2.sz).sum := sum_map_le ks fun key _ => by
    unfold wt
    rw [at_zip hm]
    cases hf : (T.keys.zip T.kids).find? (fun x => decide (x.1 = key)) with
    | none => simp
    | some p =>
      have := List.find?_some hf
      simp at this
      simp [this]
  have h3 : ∀ (keys : List ByteArray) (kids : List RT), keys.length = kids.length → ((keys.zip kids).map fun p => p.1.size + 2 + p.2.sz).sum = keys.length + strSz keys + (kids.length + szAll kids) := fun keys => by
    induction keys with
    | nil => intro kids h; cases kids with
      | nil => rfl
      | cons => exact absurd h (by simp)
    | cons k keys ih =>
      intro kids h
      cases kids with
      | nil => exact absurd h (by simp)
      | cons t kids =>
        have := ih kids (by simpa using h)
        simp only [List.zip_cons_cons, List.map_cons, List.sum_cons, this, strSz, szAll, List.length_cons]
        omega
  rw [h3 _ _ hm.2] at h1
  obtain ⟨k, n, s, keys, kids⟩ := T
  simp only [RT.keys, RT.kids, RT.sz] at h1 h2 ⊢
  omega

/-- What the three weigh at a Key. -/
def wt3 (A B C : RT) (key : ByteArray) : Nat := wt A key + (wt B key + wt C key)

theorem wt3_sum {A B C : RT} (h1 : A.isMap) (h2 : B.isMap) (h3 : C.isMap) {ks : List ByteArray} (hn : ks.Nodup) : (ks.map (wt3 A B C)).sum ≤ A.sz + B.sz + C.sz := by
  unfold wt3
  rw [sum_map_add, sum_map_add]
  have := wt_sum h1 hn
  have := wt_sum h2 hn
  have := wt_sum h3 hn
  omega

theorem wt3_key {A B C : RT} {key : ByteArray} (h : (A.at key).isSome = true ∨ (B.at key).isSome = true ∨ (C.at key).isSome = true) : key.size + 2 + (osz (A.at key) + osz (B.at key) + osz (C.at key)) ≤ wt3 A B C key := by
  unfold wt3 wt
  cases ha : A.at key <;> cases hb : B.at key <;> cases hc : C.at key <;> simp [ha, hb, hc, osz] at h ⊢ <;> omega

theorem wt3_one {A B C : RT} (h1 : A.isMap) (h2 : B.isMap) (h3 : C.isMap) (key : ByteArray) : wt3 A B C key ≤ A.sz + B.sz + C.sz := by
  have := wt3_sum h1 h2 h3 (ks := [key]) (by simp)
  simpa using this

theorem node_sz {A B C : RT} (h1 : A.isMap) (h2 : B.isMap) (h3 : C.isMap) {G : ByteArray → Option RT} {ks : List ByteArray} (hn : ks.Nodup) (h : ∀ key, key ∈ ks ↔ (G key).isSome = true) (hs : ∀ key, MSpec (A.at key) (B.at key) (C.at key) (G key)) :
    (RT.node 5 0 ⟨#[]⟩ ks (kidsT G ks)).sz ≤ A.sz + B.sz + C.sz := by
  refine Nat.le_trans ?_ (wt3_sum h1 h2 h3 hn)
  have e : ∀ ks : List ByteArray, (RT.node 5 0 ⟨#[]⟩ ks (kidsT G ks)).sz = (ks.map fun key => key.size + 2 + ((G key).getD zeroT).sz).sum := fun ks => by
    unfold kidsT
    simp only [RT.sz, List.length_map]
    induction ks with
    | nil => rfl
    | cons k ks ih =>
      simp only [List.map_cons, List.sum_cons, strSz, szAll, List.length_cons] at ih ⊢
      have : (⟨#[]⟩ : ByteArray).size = 0 := rfl
      omega
  rw [e]
  refine sum_map_le ks fun key hk => ?_
  have hsome := (h key).1 hk
  obtain ⟨X, hX⟩ := Option.isSome_iff_exists.1 hsome
  have hsz := (hs key).size
  rw [hX] at hsz ⊢
  have hp : (A.at key).isSome = true ∨ (B.at key).isSome = true ∨ (C.at key).isSome = true := by
    cases ha : A.at key <;> cases hb : B.at key <;> cases hc : C.at key <;> simp
    have := (hs key).e23 (by rw [hb, hc])
    rw [hX, hb] at this
    cases this
  have := wt3_key hp
  have e1 : osz (some X) = X.sz := rfl
  rw [e1] at hsz
  rw [Option.getD_some]
  omega
end Go.Proofs.YtelpkcbbipianaaGreat
