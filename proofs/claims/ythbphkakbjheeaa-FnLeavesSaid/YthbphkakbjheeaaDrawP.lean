/-
  What is proved: the model's drawing of inputs: a cursor is made, and each byte, number or choice drawn from it lies in its bounds; conditions as each theorem states.
-/
import Derived.Test.YthbphkakbjheeaaRows
import Derived.WalkKit
import Derived.WalkLawsBesides
import Derived.ProofKit
import Derived.Outline
import Derived.Deep.QuietTactic
import Derived.BigQuiet
import Derived.Lib.Hide
namespace Go.Proofs.Ythbphkakbjheeaa
open Go Go.RowKit

/-- The bytes that came in. -/
def CodeAt (w : World) (a : Option Addr) (len : Nat) : Prop :=
  len ≤ 1048576 ∧ (len = 0 ∨ ∃ b off, a = some ⟨b, off, none⟩ ∧ b < w.heap.size ∧ ∀ i, i < len → ∃ z : Nat, z ≤ 255 ∧ w.cell? ⟨b, off + i, none⟩ = some (.int .u8 z))

theorem CodeAt.on {w w' : World} {a : Option Addr} {len : Nat} (h : CodeAt w a len) (hb : Below w.heap.size w w') : CodeAt w' a len := by
  obtain ⟨hl, h0 | ⟨b, off, rfl, hlt, hc⟩⟩ := h
  · exact ⟨hl, .inl h0⟩
  · refine ⟨hl, .inr ⟨b, off, rfl, Nat.lt_of_lt_of_le hlt hb.size, fun i hi => ?_⟩⟩
    obtain ⟨z, hz, hcell⟩ := hc i hi
    exact ⟨z, hz, (hb.cell (p := ⟨b, off + i, none⟩) hlt).trans hcell⟩

/-- The bytes that came in do not lie in block p. -/
def Apart (a : Option Addr) (len p : Nat) : Prop := len = 0 ∨ ∀ x, a = some x → x.block ≠ p

/-- The cursor, whole, in its block. -/
def CurAt (w : World) (p : Nat) (a : Option Addr) (len cap : Nat) : Prop :=
  ∃ (i : Nat) (h : Int), i ≤ len ∧ w.heap[p]? = some (.cells #[.slice a len cap, .int .i64 i, .int .i64 h] 82 (0, 0))

/-- Nothing but block p has turned. -/
def Only (p : Nat) (w w' : World) : Prop := w'.os = w.os ∧ w'.tape = w.tape ∧ w'.output = w.output ∧ w'.heap.size = w.heap.size ∧ ∀ k, k ≠ p → w'.heap[k]? = w.heap[k]?

theorem Only.below {p B : Nat} {w w' : World} (h : Only p w w') (hB : B ≤ p) : Below B w w' :=
  ⟨h.1, h.2.1, h.2.2.1, Nat.le_of_eq h.2.2.2.1.symm, fun k hk => h.2.2.2.2 k (by omega)⟩
theorem Only.trans {p : Nat} {a b c : World} (h : Only p a b) (k : Only p b c) : Only p a c :=
  ⟨k.1.trans h.1, k.2.1.trans h.2.1, k.2.2.1.trans h.2.2.1, k.2.2.2.1.trans h.2.2.2.1, fun i hi => (k.2.2.2.2 i hi).trans (h.2.2.2.2 i hi)⟩

theorem set_two {w : World} {p : Nat} {s v1 v2 u1 u2 : Value} {t : TypeId} (h : w.heap[p]? = some (.cells #[s, u1, u2] t (0, 0))) :
    ((w.setCell ⟨p, 2, none⟩ v2).setCell ⟨p, 1, none⟩ v1).heap[p]? = some (.cells #[s, v1, v2] t (0, 0)) := by
  simp [World.setCell, Array.getElem?_modify, h]
theorem set_one {w : World} {p : Nat} {s v2 u1 u2 : Value} {t : TypeId} (h : w.heap[p]? = some (.cells #[s, u1, u2] t (0, 0))) :
    (w.setCell ⟨p, 2, none⟩ v2).heap[p]? = some (.cells #[s, u1, v2] t (0, 0)) := by
  simp [World.setCell, Array.getElem?_modify, h]
theorem only_set (w : World) (p o : Nat) (v : Value) : Only p w (w.setCell ⟨p, o, none⟩ v) :=
  ⟨rfl, rfl, rfl, by simp [World.setCell], fun k hk => by simp [World.setCell, Array.getElem?_modify, Ne.symm hk]⟩

theorem and_byte (n : Int) : ∃ x : Nat, x ≤ 255 ∧ bits .and .i64 n 255 = (x : Int) := by
  have h255 : (BitVec.ofInt 64 255).toNat = 2 ^ 8 - 1 := by decide
  have key : (BitVec.ofInt 64 n &&& BitVec.ofInt 64 255).toNat = (n % ((2 ^ 64 : Nat) : Int)).toNat % 2 ^ 8 := by
    rw [BitVec.toNat_and, BitVec.toNat_ofInt, h255, Nat.and_two_pow_sub_one_eq_mod]
  refine ⟨(n % ((2 ^ 64 : Nat) : Int)).toNat % 2 ^ 8, by omega, ?_⟩
  show IntKind.i64.wrap ((BitVec.ofInt 64 n &&& BitVec.ofInt 64 255).toNat : Nat) = _
  rw [key, IntKind.wrap_i64]
  omega

set_option maxHeartbeats 400000 in
theorem byte_more (a : Option Addr) (len cap p : Nat) (w : World) (i : Nat) (h : Int) (hi : i < len) (hcur : w.heap[p]? = some (.cells #[.slice a len cap, .int .i64 i, .int .i64 h] 82 (0, 0))) (hcode : CodeAt w a len) (hne : Apart a len p) :
    Calls Try.prog 74 #[.pointer (some ⟨p, 0, none⟩)] w fun e w' => (∃ x : Nat, x ≤ 255 ∧ e = .returned (.int .i64 x)) ∧ CurAt w' p a len cap ∧ Only p w w' := by
  obtain ⟨hl, h0 | ⟨b, off, rfl, hlt, hc⟩⟩ := hcode
  · omega
  obtain ⟨z, hz, hcell⟩ := hc i hi
  have hbp : b ≠ p := by
    rcases hne with h0 | hne
    · omega
    · exact hne _ rfl
  have c0 : w.cell? ⟨p, 0, none⟩ = some (.slice (some ⟨b, off, none⟩) len cap) := by simp [World.cell?, hcur]
  have c1 : w.cell? ⟨p, 1, none⟩ = some (.int .i64 i) := by simp [World.cell?, hcur]
  have c2 : w.cell? ⟨p, 2, none⟩ = some (.int .i64 h) := by simp [World.cell?, hcur]
  have f1 : w.frozen? ⟨p, 1, none⟩ = false := by simp [World.frozen?, hcur]
  have f2 : w.frozen? ⟨p, 2, none⟩ = false := by simp [World.frozen?, hcur]
  have H : Hid (w.heap[p]? = some (.cells #[.slice (some ⟨b, off, none⟩) len cap, .int .i64 i, .int .i64 h] 82 (0, 0))) := hcur
  have hcell' : ∀ v, (w.setCell ⟨p, 2, none⟩ v).cell? ⟨b, off + i, none⟩ = some (.int .u8 (z : Int)) := fun v => (World.cell?_setCell_other w _ _ v (by simp)).trans hcell
  clear hcur hc
  go_enter Try.func74, Try.ntmps74
  go_wp2
  go_quiet (fail)
  generalize wrap64 (wrap64 (h * 6364136223846793005) + 1442695040888963407) = h1
  generalize bits BinOp.xor IntKind.i64 (h1 / 8589934592) (h1 / 35184372088832) = y
  obtain ⟨x, hx, hy⟩ := and_byte y
  rw [hy]
  clear hy
  go_wp2
  go_quiet (fail)
  go_wp2
  go_quiet (fail)
  obtain ⟨x2, hx2, hy2⟩ := and_byte (x + z)
  rw [hy2]
  clear hy2
  go_wp2
  go_ret
  refine ⟨⟨x2, hx2, rfl⟩, ⟨i + 1, h1, hi, ?_⟩, ?_⟩
  · exact set_two H.out
  · exact (only_set w p 2 _).trans (only_set _ p 1 _)

set_option maxHeartbeats 400000 in
theorem byte_none (a : Option Addr) (len cap p : Nat) (w : World) (i : Nat) (h : Int) (_hl : len ≤ 1048576) (hi : ¬ i < len) (hil : i ≤ len) (hcur : w.heap[p]? = some (.cells #[.slice a len cap, .int .i64 i, .int .i64 h] 82 (0, 0))) :
    Calls Try.prog 74 #[.pointer (some ⟨p, 0, none⟩)] w fun e w' => (∃ x : Nat, x ≤ 255 ∧ e = .returned (.int .i64 x)) ∧ CurAt w' p a len cap ∧ Only p w w' := by
  have c0 : w.cell? ⟨p, 0, none⟩ = some (.slice a len cap) := by simp [World.cell?, hcur]
  have c1 : w.cell? ⟨p, 1, none⟩ = some (.int .i64 i) := by simp [World.cell?, hcur]
  have c2 : w.cell? ⟨p, 2, none⟩ = some (.int .i64 h) := by simp [World.cell?, hcur]
  have f2 : w.frozen? ⟨p, 2, none⟩ = false := by simp [World.frozen?, hcur]
  have H : Hid (w.heap[p]? = some (.cells #[.slice a len cap, .int .i64 i, .int .i64 h] 82 (0, 0))) := hcur
  clear hcur
  go_enter Try.func74, Try.ntmps74
  go_wp2
  go_quiet (fail)
  generalize wrap64 (wrap64 (h * 6364136223846793005) + 1442695040888963407) = h1
  generalize bits BinOp.xor IntKind.i64 (h1 / 8589934592) (h1 / 35184372088832) = y
  obtain ⟨x, hx, hy⟩ := and_byte y
  rw [hy]
  clear hy
  go_wp2
  go_quiet (fail)
  go_wp2
  go_ret
  exact ⟨⟨x, hx, rfl⟩, ⟨i, h1, hil, set_one H.out⟩, only_set w p 2 _⟩

/-- A byte is drawn. -/
theorem byte_any (a : Option Addr) (len cap p : Nat) (w : World) (hcur : CurAt w p a len cap) (hcode : CodeAt w a len) (hne : Apart a len p) :
    Calls Try.prog 74 #[.pointer (some ⟨p, 0, none⟩)] w fun e w' => (∃ x : Nat, x ≤ 255 ∧ e = .returned (.int .i64 x)) ∧ CurAt w' p a len cap ∧ Only p w w' := by
  obtain ⟨i, h, hil, hc⟩ := hcur
  by_cases hi : i < len
  · exact byte_more a len cap p w i h hi hc hcode hne
  · exact byte_none a len cap p w i h hcode.1 hi hil hc

theorem CodeAt.only {p : Nat} {w w' : World} {a : Option Addr} {len : Nat} (h : CodeAt w a len) (hne : Apart a len p) (ho : Only p w w') : CodeAt w' a len := by
  obtain ⟨hl, h0 | ⟨b, off, rfl, hlt, hc⟩⟩ := h
  · exact ⟨hl, .inl h0⟩
  · rcases hne with h0 | hne
    · exact ⟨hl, .inl h0⟩
    refine ⟨hl, .inr ⟨b, off, rfl, by rw [ho.2.2.2.1]; exact hlt, fun i hi => ?_⟩⟩
    obtain ⟨z, hz, hcell⟩ := hc i hi
    exact ⟨z, hz, (World.cell?_of_block (w := w) (a := ⟨b, off + i, none⟩) (ho.2.2.2.2 b (hne _ rfl))).trans hcell⟩

theorem Only.cell {p : Nat} {w w' : World} (h : Only p w w') {x : Addr} (hx : x.block ≠ p) : w'.cell? x = w.cell? x := World.cell?_of_block (w := w) (h.2.2.2.2 x.block hx)

set_option maxHeartbeats 400000 in
/-- A number below n is drawn, n at most 256. -/
theorem below_any (n : Nat) (h1 : 1 ≤ n) (hn : n ≤ 256) (a : Option Addr) (len cap p : Nat) (w : World) (hcur : CurAt w p a len cap) (hcode : CodeAt w a len) (hne : Apart a len p) :
    Calls Try.prog 44 #[.pointer (some ⟨p, 0, none⟩), .int .i64 n] w fun e w' => (∃ r : Nat, r < n ∧ e = .returned (.int .i64 r)) ∧ CurAt w' p a len cap ∧ Only p w w' := by
  have hz : ((n : Int) == 0) = false := by simp; omega
  go_enter Try.func44, Try.ntmps44
  go_wp2_with (go_at_call 74; refine (byte_any a len cap p _ hcur hcode hne).mono ?_; rintro e w1 ⟨⟨x, hx, rfl⟩, hc1, ho1⟩)
  go_ret
  exact ⟨⟨x % n, Nat.mod_lt _ h1, by go_num⟩, hc1, ho1⟩

set_option maxHeartbeats 400000 in
/-- One of a list's ints is picked. -/
theorem pickInt_any (Q : Int → Prop) (n c q : Nat) (h1 : 1 ≤ n) (hn : n ≤ 256) (a : Option Addr) (len cap p : Nat) (w : World) (hcur : CurAt w p a len cap) (hcode : CodeAt w a len) (hne : Apart a len p) (hq : q ≠ p)
    (hlist : ∀ i, i < n → ∃ v : Int, Q v ∧ w.cell? ⟨q, i, none⟩ = some (.int .i64 v)) :
    Calls Try.prog 77 #[.pointer (some ⟨p, 0, none⟩), .slice (some ⟨q, 0, none⟩) n c] w fun e w' => (∃ v : Int, Q v ∧ e = .returned (.int .i64 v)) ∧ CurAt w' p a len cap ∧ Only p w w' := by
  have HL := Lib.hid hlist
  clear hlist
  go_enter Try.func77, Try.ntmps77
  go_wp2_with (go_at_call 44; refine (below_any n h1 hn a len cap p _ hcur hcode hne).mono ?_; rintro e w1 ⟨⟨r, hr, rfl⟩, hc1, ho1⟩; obtain ⟨v, hv, hcv⟩ := HL.out r hr; have hcw := (ho1.cell (x := ⟨q, r, none⟩) hq).trans hcv)
  go_ret
  exact ⟨⟨v, hv, rfl⟩, hc1, ho1⟩

set_option maxHeartbeats 400000 in
/-- One of a list's texts is picked. -/
theorem pick_any (Q : ByteArray → Prop) (n c q : Nat) (h1 : 1 ≤ n) (hn : n ≤ 256) (a : Option Addr) (len cap p : Nat) (w : World) (hcur : CurAt w p a len cap) (hcode : CodeAt w a len) (hne : Apart a len p) (hq : q ≠ p)
    (hlist : ∀ i, i < n → ∃ v : ByteArray, Q v ∧ w.cell? ⟨q, i, none⟩ = some (.string v)) :
    Calls Try.prog 75 #[.pointer (some ⟨p, 0, none⟩), .slice (some ⟨q, 0, none⟩) n c] w fun e w' => (∃ v : ByteArray, Q v ∧ e = .returned (.string v)) ∧ CurAt w' p a len cap ∧ Only p w w' := by
  have HL := Lib.hid hlist
  clear hlist
  go_enter Try.func75, Try.ntmps75
  go_wp2_with (go_at_call 44; refine (below_any n h1 hn a len cap p _ hcur hcode hne).mono ?_; rintro e w1 ⟨⟨r, hr, rfl⟩, hc1, ho1⟩; obtain ⟨v, hv, hcv⟩ := HL.out r hr; have hcw := (ho1.cell (x := ⟨q, r, none⟩) hq).trans hcv)
  go_ret
  exact ⟨⟨v, hv, rfl⟩, hc1, ho1⟩

set_option maxHeartbeats 400000 in
/-- A cursor over the code is made. -/
theorem new_any (a : Option Addr) (len cap : Nat) (w : World) (hcode : CodeAt w a len) :
    Calls Try.prog 43 #[.slice a len cap] w fun e w' => e = .returned (.pointer (some ⟨w.heap.size, 0, none⟩)) ∧ ∃ h : Int, w' = w.alloc (.cells #[.slice a len cap, .int .i64 0, .int .i64 h] 82) := by
  obtain ⟨hl, hc⟩ := hcode
  have HC := Lib.hid hc
  clear hc
  go_enter Try.func43, Try.ntmps43
  go_wp2
  go_loop [3, 4] (fun t o => ∃ (h : Int) (k : Nat), k ≤ len ∧ t = .int .i64 h ∧ o = .int .i64 k) (fun _ o => len - (intOf o).toNat)
  case atStart => exact ⟨_, 0, Nat.zero_le _, rfl, rfl⟩
  case round =>
    obtain ⟨h, k, hk, rfl, rfl⟩ := hrel
    by_cases hlt : k < len
    · by_cases h4 : (k : Int) < 4000
      · obtain h0 | ⟨b, off, ha, hb, hcell⟩ := HC.out
        · omega
        obtain ⟨z, hz, hzc⟩ := hcell k hlt
        clear hcell
        subst ha
        go_wp2
        go_round
        case rel => exact ⟨_, k + 1, hlt, rfl, by go_num⟩
        case measure => simp [intOf]; omega
      · go_wp2
        go_ret
        exact ⟨rfl, h, rfl⟩
    · go_wp2
      go_ret
      exact ⟨rfl, h, rfl⟩

theorem CurAt.alloc {w : World} {p : Nat} {a : Option Addr} {len cap : Nat} (h : CurAt w p a len cap) (o : Obj) : CurAt (w.alloc o) p a len cap := by
  obtain ⟨i, x, hi, hc⟩ := h
  have hp : p < w.heap.size := by
    rcases Nat.lt_or_ge p w.heap.size with h | h
    · exact h
    · rw [Array.getElem?_eq_none h] at hc; cases hc
  exact ⟨i, x, hi, (Below.heap_alloc w o p hp).trans hc⟩

theorem CurAt.lt {w : World} {p : Nat} {a : Option Addr} {len cap : Nat} (h : CurAt w p a len cap) : p < w.heap.size := by
  obtain ⟨i, x, hi, hc⟩ := h
  rcases Nat.lt_or_ge p w.heap.size with h | h
  · exact h
  · rw [Array.getElem?_eq_none h] at hc; cases hc

theorem cur_new (w : World) (a : Option Addr) (len cap : Nat) (h : Int) : CurAt (w.alloc (.cells #[.slice a len cap, .int .i64 0, .int .i64 h] 82)) w.heap.size a len cap :=
  ⟨0, h, Nat.zero_le _, by show (w.heap.push _)[w.heap.size]? = _; simp⟩

theorem CodeAt.apart {w : World} {a : Option Addr} {len p : Nat} (h : CodeAt w a len) (hp : w.heap.size ≤ p) : Apart a len p := by
  obtain ⟨_, h0 | ⟨b, off, rfl, hlt, _⟩⟩ := h
  · exact .inl h0
  · refine .inr fun x hx => ?_
    cases hx
    show b ≠ p
    omega

theorem Only.alloc_below {w w' : World} {p B : Nat} {o : Obj} (h : Only p (w.alloc o) w') (hB : B ≤ p) (hB' : B ≤ w.heap.size) : Below B w w' :=
  ((Below.refl B w).alloc hB' o).trans (h.below hB)

theorem list_at {α : Type} {Q : α → Prop} {f : α → Value} {xs : List α} (hQ : ∀ v ∈ xs, Q v) (w : World) (t : TypeId) {q : Nat} (hq : q = w.heap.size) (i : Nat) (hi : i < xs.length) :
    ∃ v : α, Q v ∧ (w.alloc (.cells (xs.map f).toArray t)).cell? ⟨q, i, none⟩ = some (f v) := by
  subst hq
  refine ⟨xs[i], hQ _ (List.getElem_mem hi), ?_⟩
  rw [World.cell?_alloc_mark]
  simp [hi]

/-- A list of ints is laid, and one of them is picked. -/
theorem draw_int (Q : Int → Prop) (xs : List Int) (arr : Array Value) (harr : arr = (xs.map (Value.int .i64)).toArray) (n q : Nat) (hn : n = xs.length) (h1 : 1 ≤ n) (h2 : n ≤ 256) (hQ : ∀ v ∈ xs, Q v)
    (a : Option Addr) (len cap p : Nat) (w : World) (hq : q = w.heap.size) (hcur : CurAt w p a len cap) (hcode : CodeAt w a len) (hne : Apart a len p) :
    Calls Try.prog 77 #[.pointer (some ⟨p, 0, none⟩), .slice (some ⟨q, 0, none⟩) n n] (w.alloc (.cells arr 3)) fun e w' => (∃ v : Int, Q v ∧ e = .returned (.int .i64 v)) ∧ CurAt w' p a len cap ∧ CodeAt w' a len ∧ Below p w w' := by
  subst harr
  have hp := hcur.lt
  have hcode' := hcode.on ((Below.refl _ w).alloc (Nat.le_refl _) (.cells (xs.map (Value.int .i64)).toArray 3))
  refine (pickInt_any Q n n q h1 h2 a len cap p _ (hcur.alloc _) hcode' hne (by omega) (fun i hi => list_at hQ w _ hq i (by omega))).mono ?_
  rintro e w' ⟨he, hc, ho⟩
  exact ⟨he, hc, hcode'.only hne ho, ho.alloc_below (Nat.le_refl _) (Nat.le_of_lt hp)⟩

/-- A list of texts is laid, and one of them is picked. -/
theorem draw_text (Q : ByteArray → Prop) (xs : List ByteArray) (arr : Array Value) (harr : arr = (xs.map Value.string).toArray) (n q : Nat) (hn : n = xs.length) (h1 : 1 ≤ n) (h2 : n ≤ 256) (hQ : ∀ v ∈ xs, Q v)
    (a : Option Addr) (len cap p : Nat) (w : World) (hq : q = w.heap.size) (hcur : CurAt w p a len cap) (hcode : CodeAt w a len) (hne : Apart a len p) :
    Calls Try.prog 75 #[.pointer (some ⟨p, 0, none⟩), .slice (some ⟨q, 0, none⟩) n n] (w.alloc (.cells arr 9)) fun e w' => (∃ v : ByteArray, Q v ∧ e = .returned (.string v)) ∧ CurAt w' p a len cap ∧ CodeAt w' a len ∧ Below p w w' := by
  subst harr
  have hp := hcur.lt
  have hcode' := hcode.on ((Below.refl _ w).alloc (Nat.le_refl _) (.cells (xs.map Value.string).toArray 9))
  refine (pick_any Q n n q h1 h2 a len cap p _ (hcur.alloc _) hcode' hne (by omega) (fun i hi => list_at hQ w _ hq i (by omega))).mono ?_
  rintro e w' ⟨he, hc, ho⟩
  exact ⟨he, hc, hcode'.only hne ho, ho.alloc_below (Nat.le_refl _) (Nat.le_of_lt hp)⟩
end Go.Proofs.Ythbphkakbjheeaa
