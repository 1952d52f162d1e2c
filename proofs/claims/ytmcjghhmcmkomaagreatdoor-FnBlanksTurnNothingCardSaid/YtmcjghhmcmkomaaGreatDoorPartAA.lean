/-
  What is proved: the program's reading of braced texts, its small steps: the next byte, a byte that is taken, blanks, a word.; plain facts on bytes that are laid one behind the other by append, and on the text that they become.; for any text the program's TextOk answers as the model's TextOk does: at most 400 bytes, each from 32 to 126.; the model's Quote, at every text: empty when it is not right; else its bytes between two marks, with a stroke ahead of a mark or a stroke.; the program's reading of braced texts: a text between two marks, read as it was written; what is no such text is refused.; plain facts on decimal numerals and on lists of bytes; no program, no condition beyond each theorem's own.; plain facts on texts that may be written as they are: 1 to 60 bytes, a letter first, then letters, digits and four signs; none of three words.
-/
import Derived.Test.YtmcjghhmcmkomaaGreatDoorRows
import Derived.Below
import Derived.WalkKit
import Derived.WalkSpells
import Derived.BigQuiet
import Derived.Deep.QuietTactic
import Derived.Deep.DeepCutAuto
import Derived.Deep.CutRange
import Derived.Deep.RegionHeld3
import Derived.Lib.Hide
import Derived.Laws.AppendOwn
import Derived.Laws.OwnMore
import Derived.Laws.IdiomStrings
import Derived.Maps.AppendAt
import Derived.Maps.Range
import Derived.Deep.OwnRows
import Derived.Deep.Slices
import Derived.Deep.AppendLies
import Derived.Lib.AppendZeros
import Derived.Lib.ItoaNum
import Derived.Lib.ItoaLen
import Derived.Lib.Bytealg
/- the program's reading of braced texts, its small steps: the next byte, a byte that is taken, blanks, a word. -/
namespace Go.Proofs.YtmcjghhmcmkomaaGreatDoor
open Go Go.RowKit

/-- The next byte; 0 at the end. -/
def nextB (s : ByteArray) (i : Nat) : UInt8 := if h : i < s.size then s[i] else 0

theorem nextB_in {s : ByteArray} {i : Nat} (h : i < s.size) : nextB s i = s[i] := dif_pos h
theorem nextB_out {s : ByteArray} {i : Nat} (h : ¬ i < s.size) : nextB s i = 0 := dif_neg h

theorem nextB_drop {s : ByteArray} {i : Nat} {b : UInt8} {l : List UInt8} (h : s.data.toList.drop i = b :: l) : nextB s i = b ∧ i < s.size ∧ s.data.toList.drop (i + 1) = l := by
  have hlt : i < s.data.toList.length := by
    rcases Nat.lt_or_ge i s.data.toList.length with h1 | h1
    · exact h1
    · rw [List.drop_eq_nil_of_le h1] at h; cases h
  have hz : i < s.size := by simpa using hlt
  rw [List.drop_eq_getElem_cons hlt] at h
  injection h with h1 h2
  exact ⟨(nextB_in hz).trans h1, hz, h2⟩

theorem nextB_nil {s : ByteArray} {i : Nat} (h : s.data.toList.drop i = []) : nextB s i = 0 := by
  refine nextB_out fun hlt => ?_
  rw [List.drop_eq_nil_iff] at h
  have : s.data.toList.length = s.size := by simp
  omega

/-- The reader's block: the text, the place, what is open, how many nodes, where a Key stands twice. -/
def Rd (w : World) (p : Nat) (s : ByteArray) (i : Nat) (ov : Value) (nd : Nat) (tw : Int) : Prop := w.heap[p]? = some (.cells #[.string s, .int .i64 i, ov, .int .i64 nd, .int .i64 tw] 97 (0, 0))

section
variable {w w1 : World} {p : Nat} {s : ByteArray} {i : Nat} {ov : Value} {nd : Nat} {tw : Int}

theorem Rd.lt (h : Rd w p s i ov nd tw) : p < w.heap.size := (Array.getElem?_eq_some_iff.1 h).1

theorem Rd.five (h : Rd w p s i ov nd tw) : w.cell? ⟨p, 0, none⟩ = some (.string s) ∧ w.cell? ⟨p, 1, none⟩ = some (.int .i64 i) ∧ w.cell? ⟨p, 2, none⟩ = some ov ∧ w.cell? ⟨p, 3, none⟩ = some (.int .i64 nd) ∧ w.cell? ⟨p, 4, none⟩ = some (.int .i64 tw) ∧ ∀ o, w.frozen? ⟨p, o, none⟩ = false := by
  have h : w.heap[p]? = some (.cells #[.string s, .int .i64 i, ov, .int .i64 nd, .int .i64 tw] 97 (0, 0)) := h
  refine ⟨by simp [World.cell?, h], by simp [World.cell?, h], by simp [World.cell?, h], by simp [World.cell?, h], by simp [World.cell?, h], fun o => by simp [World.frozen?, h]⟩

theorem rd_set {w : World} {b : Nat} {cs : Array Value} {t : TypeId} {fz : Nat × Nat} (h : w.heap[b]? = some (.cells cs t fz)) (o : Nat) (v : Value) : (w.setCell ⟨b, o, none⟩ v).heap[b]? = some (.cells (cs.setIfInBounds o v) t fz) := by
  simp [World.setCell, Array.getElem?_modify, h]

theorem Rd.go1 (h : Rd w p s i ov nd tw) : Rd (w.setCell ⟨p, 1, none⟩ (.int .i64 ((i : Int) + 1))) p s (i + 1) ov nd tw := rd_set h 1 _
theorem Rd.node1 (h : Rd w p s i ov nd tw) : Rd (w.setCell ⟨p, 3, none⟩ (.int .i64 ((nd : Int) + 1))) p s i ov (nd + 1) tw := rd_set h 3 _
theorem Rd.opn (h : Rd w p s i ov nd tw) (v : Value) : Rd (w.setCell ⟨p, 2, none⟩ v) p s i v nd tw := rd_set h 2 _
theorem Rd.same (h : Rd w p s i ov nd tw) (hb : w1.heap[p]? = w.heap[p]?) : Rd w1 p s i ov nd tw := hb.trans h
theorem Rd.drewN (h : Rd w p s i ov nd tw) (n : Nat) : Rd (w.drewN n) p s i ov nd tw := h
end

theorem grw_set (w : World) (p o : Nat) (v : Value) : w.grownBy (w.setCell ⟨p, o, none⟩ v) (some p) :=
  ⟨rfl, rfl, rfl, by simp [World.setCell], fun k _ hk => Below.heap_setCell _ _ _ _ (fun e => hk (by rw [e]))⟩
theorem grw_N {w w' : World} {r : Option Nat} (h : w.grownBy w' r) (n : Nat) : w.grownBy (w'.drewN n) r := ⟨h.os, h.tape, h.output, h.size, h.block⟩
theorem grw_refl (w : World) (r : Option Nat) : w.grownBy w r := World.grownBy.refl _ _
theorem grw_trans {a b c : World} {r : Option Nat} (h : a.grownBy b r) (k : b.grownBy c r) : a.grownBy c r := h.andThen k (fun _ hj => .inr hj)
theorem grw_below {w w' : World} {r : Option Nat} (h : Below w.heap.size w w') : w.grownBy w' r := ⟨h.os, h.tape, h.output, h.size, fun k hk _ => h.block k hk⟩
theorem blw_drewN {B : Nat} {w w1 : World} (h : Below B w w1) (n : Nat) : Below B w (w1.drewN n) := ⟨h.os, h.tape, h.output, h.size, h.block⟩
theorem u8_int_ne {x y : UInt8} (h : ¬ x = y) : ¬ ((x.toNat : Int) = (y.toNat : Int)) := fun e => h (UInt8.toNat_inj.1 (by omega))

section
variable (p : Nat) (s : ByteArray) (i : Nat) (ov : Value) (nd : Nat) (tw : Int) (w : World)

set_option maxRecDepth 100000 in
set_option maxHeartbeats 1000000 in
theorem rd_next (hi : i ≤ s.size) (h : Rd w p s i ov nd tw) :
    Calls Tryz.prog 124 #[.pointer (some ⟨p, 0, none⟩)] w fun e w' => e = .returned (.int .u8 ((nextB s i).toNat : Int)) ∧ Below w.heap.size w w' := by
  obtain ⟨x0, x1, x2, x3, x4, x5⟩ := h.five
  clear h
  by_cases hlt : i < s.size
  · have HE : Hid (nextB s i = s[i]) := nextB_in hlt
    have e0 : ((i : Int) == (s.size : Int)) = false := by simp; omega
    have hlt' : (i : Int) < (s.size : Int) := by omega
    clear hi
    go_enter Tryz.func124, Tryz.ntmps124
    go_upto_region 1 with fail
    go_quiet (fail)
    have y0 : (w.drewN nq).cell? ⟨p, 0, none⟩ = some (.string s) := x0
    have y1 : (w.drewN nq).cell? ⟨p, 1, none⟩ = some (.int .i64 i) := x1
    have HD := Lib.hid (blw_drewN (Below.refl w.heap.size w) nq)
    generalize w.drewN nq = w1 at *
    go_upto_region 3 with fail
    go_quiet (fail)
    go_wp2
    go_ret
    exact ⟨by rw [HE.out]; rfl, blw_drewN HD.out _⟩
  · have e : i = s.size := by omega
    subst e
    have HE : Hid (nextB s s.size = 0) := nextB_out hlt
    have e0 : ((s.size : Int) == (s.size : Int)) = true := by simp
    go_enter Tryz.func124, Tryz.ntmps124
    go_upto_region 1 with fail
    go_quiet (fail)
    go_wp2
    go_ret
    exact ⟨by rw [HE.out]; rfl, blw_drewN (Below.refl w.heap.size w) _⟩

set_option maxHeartbeats 1000000 in
/-- Such a byte is next: it is taken. -/
theorem rd_take_yes (hs : s.size ≤ maxLen) (hi : i < s.size) (c : UInt8) (hc : nextB s i = c) (h : Rd w p s i ov nd tw) :
    Calls Tryz.prog 119 #[.pointer (some ⟨p, 0, none⟩), .int .u8 (c.toNat : Int)] w fun e w' => e = .returned (.bool true) ∧ Rd w' p s (i + 1) ov nd tw ∧ w.grownBy w' (some p) := by
  have H := Lib.hid h
  have HN := Lib.hid (rd_next p s i ov nd tw w (Nat.le_of_lt hi) h)
  rw [hc] at HN
  clear h hc
  unfold maxLen at hs
  go_enter Tryz.func119, Tryz.ntmps119
  go_wp2_with (first
    | (go_at_call 124; refine HN.out.mono ?_; rintro e w1 ⟨rfl, hb⟩; have H1 := Lib.hid (And.intro (H.out.same (hb.block p H.out.lt)) hb); obtain ⟨x0, x1, x2, x3, x4, x5⟩ := H1.out.1.five; clear hb)
    | fail)
  go_ret
  exact ⟨rfl, H1.out.1.go1, grw_trans (grw_below H1.out.2) (grw_set _ _ _ _)⟩

set_option maxHeartbeats 1000000 in
/-- Such a byte is not next. -/
theorem rd_take_no (hi : i ≤ s.size) (c : UInt8) (hc : ¬ nextB s i = c) (h : Rd w p s i ov nd tw) :
    Calls Tryz.prog 119 #[.pointer (some ⟨p, 0, none⟩), .int .u8 (c.toNat : Int)] w fun e w' => e = .returned (.bool false) ∧ Below w.heap.size w w' := by
  have HN := Lib.hid (rd_next p s i ov nd tw w hi h)
  have e1 : (((nextB s i).toNat : Int) == (c.toNat : Int)) = false := by simpa using u8_int_ne hc
  clear h hc
  generalize nextB s i = b at *
  go_enter Tryz.func119, Tryz.ntmps119
  go_wp2_with (first
    | (go_at_call 124; refine HN.out.mono ?_; rintro e w1 ⟨rfl, hb⟩; have H1 := Lib.hid hb; clear hb)
    | fail)
  go_ret
  exact ⟨rfl, H1.out⟩
end

def blkB (b : UInt8) : Bool := b == 32 || b == 9 || b == 10 || b == 13

set_option maxHeartbeats 400000 in
theorem rd_blank (b : UInt8) (w : World) : Calls Tryz.prog 123 #[.int .u8 (b.toNat : Int)] w fun e w' => e = .returned (.bool (blkB b)) ∧ w' = w := by
  have key : ∀ c : UInt8, (((b.toNat : Int) == (c.toNat : Int)) = (b == c)) := fun c => by
    by_cases h : b = c
    · subst h; simp
    · rw [show (b == c) = false by simpa using h]; simpa using u8_int_ne h
  have k1 : (((b.toNat : Int) == 32) = (b == 32)) := key 32
  have k2 : (((b.toNat : Int) == 9) = (b == 9)) := key 9
  have k3 : (((b.toNat : Int) == 10) = (b == 10)) := key 10
  have k4 : (((b.toNat : Int) == 13) = (b == 13)) := key 13
  clear key
  unfold blkB
  cases h1 : (b == 32) <;> cases h2 : (b == 9) <;> cases h3 : (b == 10) <;> cases h4 : (b == 13)
  all_goals
    rw [h1] at k1
    rw [h2] at k2
    rw [h3] at k3
    rw [h4] at k4
    clear h1 h2 h3 h4
    go_enter Tryz.func123, Tryz.ntmps123
    go_wp2
    go_ret
    exact ⟨rfl, rfl⟩

/-- What is next is no blank: nothing is passed. -/
theorem rd_blanks_no (p : Nat) (s : ByteArray) (i : Nat) (ov : Value) (nd : Nat) (tw : Int) (w : World) (hi : i ≤ s.size) (hb : blkB (nextB s i) = false) (h : Rd w p s i ov nd tw) :
    Calls Tryz.prog 98 #[.pointer (some ⟨p, 0, none⟩)] w fun e w' => (∃ v, e = .returned v) ∧ Below w.heap.size w w' := by
  have HN := Lib.hid (rd_next p s i ov nd tw w hi h)
  have HB := Lib.hid (rd_blank (nextB s i))
  rw [hb] at HB
  clear h hb
  generalize nextB s i = b at *
  go_enter Tryz.func98, Tryz.ntmps98
  go_wp2
  go_loopw [] (fun wr => wr = w) (fun _ => 0)
  case atStart => rfl
  case round =>
    subst hrel
    go_wp2_with (first
      | (go_at_call 124; refine HN.out.mono ?_; rintro e w1 ⟨rfl, hb⟩; have H1 := Lib.hid hb; clear hb)
      | (go_at_call 123; refine (HB.out _).mono ?_; rintro e w2 ⟨rfl, e2⟩; subst e2)
      | fail)
    go_end0
    exact ⟨⟨_, rfl⟩, H1.out⟩

set_option maxRecDepth 100000 in
set_option maxHeartbeats 1000000 in
/-- A word is next. -/
theorem rd_word (p : Nat) (s : ByteArray) (hs : s.size ≤ maxLen) (i : Nat) (ov : Value) (nd : Nat) (tw : Int) (wd : ByteArray) (hw : wd.size ≤ 100) (R : List UInt8) (ht : s.data.toList.drop i = wd.data.toList ++ R) (w : World) (h : Rd w p s i ov nd tw) :
    Calls Tryz.prog 115 #[.pointer (some ⟨p, 0, none⟩), .string wd] w fun e w' => e = .returned .nilIface ∧ Rd w' p s (i + wd.size) ov nd tw ∧ w.grownBy w' (some p) := by
  have H := Lib.hid h
  clear h
  have HT := Lib.hid ht
  clear ht
  go_enter Tryz.func115, Tryz.ntmps115
  go_wp2
  go_loopw [8] (fun q wr => ∃ k : Nat, k ≤ wd.size ∧ q = .int .i64 k ∧ Hid (Rd wr p s (i + k) ov nd tw ∧ w.grownBy wr (some p))) (fun q _ => wd.size - (intOf q).toNat)
  case atStart => exact ⟨0, Nat.zero_le _, rfl, H.out, grw_refl _ _⟩
  case round =>
    obtain ⟨k, hk, rfl, HR⟩ := hrel
    by_cases hlt : k < wd.size
    · have hlt' : (k : Int) < (wd.size : Int) := by omega
      have hd : s.data.toList.drop (i + k) = wd[k] :: (wd.data.toList.drop (k + 1) ++ R) := by
        have h1 := HT.out
        rw [← List.drop_drop, h1, List.drop_append_of_le_length (by simp; omega), List.drop_eq_getElem_cons (by simpa using hlt)]
        rfl
      obtain ⟨n1, n2, -⟩ := nextB_drop hd
      have HTk := Lib.hid (rd_take_yes p s (i + k) ov nd tw wr hs n2 wd[k] n1 HR.out.1)
      clear hd n1 n2
      go_wp2_with (first
        | (go_at_call 119; refine HTk.out.mono ?_; rintro e w1 ⟨rfl, h1, h2⟩; have H1 := Lib.hid (And.intro h1 (grw_trans HR.out.2 h2)); clear h1 h2)
        | fail)
      exact ⟨⟨k + 1, hlt, by go_num, H1.out.1, H1.out.2⟩, by simp [intOf]; omega⟩
    · have e : k = wd.size := by omega
      subst e
      go_wp2
      go_ret
      exact ⟨rfl, HR.out.1, HR.out.2⟩
end Go.Proofs.YtmcjghhmcmkomaaGreatDoor

/- plain facts on bytes that are laid one behind the other by append, and on the text that they become. -/
namespace Go.Proofs.YtmcjghhmcmkomaaGreatDoor
open Go Go.RowKit

theorem info_u8 : (Tryz.prog.info? 5).map (fun i => (i.zero, i.size, i.bytes)) = some (some (.int .u8 0), 1, 1) := by kernel_rfl

def byteV (b : UInt8) : Value := .int .u8 b.toNat
def byteVs (l : List UInt8) : List Value := l.map byteV

/-- The bytes l, in a row that was made since w. -/
def Byts (w wr : World) (v : Value) (l : List UInt8) : Prop := wr.ownsRow w.heap.size 5 1 v l.length (byteVs l)

section
variable {w wr w1 : World} {v : Value} {l : List UInt8}

theorem Byts.slice (h : Byts w wr v l) : ∃ o c, v = .slice o l.length c := by
  rcases h.2 with ⟨rfl, h0⟩ | ⟨g, cap, cur, rfl, _⟩
  · exact ⟨none, 0, by rw [h0]⟩
  · exact ⟨_, _, rfl⟩

theorem Byts.start (hs : w.heap.size ≤ wr.heap.size) : Byts w (wr.alloc (.cells #[] 5)) (.slice (some ⟨wr.heap.size, 0, none⟩) 0 0) [] :=
  ⟨rfl, .inr ⟨wr.heap.size, 0, #[], rfl, hs, by show (wr.heap.push _)[wr.heap.size]? = _; simp, Nat.le_refl _, Nat.zero_le _, rfl, rfl⟩⟩

theorem Byts.one (hs : w.heap.size ≤ wr.heap.size) (b : UInt8) : Byts w (wr.alloc (.cells #[.int .u8 b.toNat] 5)) (.slice (some ⟨wr.heap.size, 0, none⟩) 1 1) [b] :=
  ⟨rfl, .inr ⟨wr.heap.size, 1, #[.int .u8 b.toNat], rfl, hs, by show (wr.heap.push _)[wr.heap.size]? = _; simp, Nat.le_refl _, by unfold maxLen; omega, rfl, rfl⟩⟩

/-- The row is kept by whatever turns only a block that was there before. -/
theorem Byts.kept {p : Nat} (h : Byts w wr v l) (hp : p < w.heap.size) (hg : wr.grownBy w1 (some p)) : Byts w w1 v l := by
  refine World.ownsRow.kept h hg ?_
  rcases hb : v.ownBlock with _ | k
  · exact .inl rfl
  · refine .inr fun e => ?_
    have h1 := (World.ownsRow.lt h k hb).1
    injection e with e
    omega

theorem Byts.on (h : Byts w wr v l) (hb : Below wr.heap.size wr w1) : Byts w w1 v l :=
  World.ownsRow.kept (row := none) h ⟨hb.os, hb.tape, hb.output, hb.size, fun k hk _ => hb.block k hk⟩ (by
    rcases v.ownBlock with _ | k
    · exact .inl rfl
    · exact .inr (by simp))

/-- One byte more. -/
theorem Byts.more (h : Byts w wr v l) (hs : w.heap.size ≤ wr.heap.size) (b : UInt8) (hl : l.length < 1099511627776) (ty : TypeId) :
    ∃ v' w', (Builtin.append_ #[22, 22] ty #[v, .slice (some ⟨wr.heap.size, 0, none⟩) 1 1]).run Tryz.prog (wr.alloc (.cells #[.int .u8 b.toNat] 5)) = .ok v' w' ∧
      ∃ o' c', v' = .slice o' (l.length + 1) c' ∧ Byts w w' (.slice o' (l.length + 1) c') (l ++ [b]) ∧ Below w.heap.size wr w' := by
  obtain ⟨i0, hi0, hz0, hz1, hz2⟩ := info_parts info_u8
  have hba := (Below.refl wr.heap.size wr).alloc (Nat.le_refl _) (.cells #[.int .u8 b.toNat] 5)
  have hlast : (wr.alloc (.cells #[.int .u8 b.toNat] 5)).heap[wr.heap.size]? = some (.cells #[.int .u8 b.toNat] 5 (0, 0)) := by show (wr.heap.push _)[wr.heap.size]? = _; simp
  have hown := World.ownsRow.alloc h (.cells #[.int .u8 b.toNat] 5)
  obtain ⟨v', w', hr, h2, h3, -, -⟩ := run_append_own_at (P := Tryz.prog) (wr.alloc (.cells #[.int .u8 b.toNat] 5)) w.heap.size 22 ty 5 i0 _ 1 1 Tryz.underlying22 hi0 hz0 hz1 hz2 rfl (by decide) v l.length (byteVs l) hown
    ⟨wr.heap.size, 0, none⟩ 1 1 [.int .u8 b.toNat] rfl (World.news_of_block hlast) (by simp [Value.oneCell']) (by unfold maxLen; omega) (by omega) (by have := hba.size; omega)
  have hb : Byts w w' v' (l ++ [b]) := by
    unfold Byts byteVs
    rw [List.length_append, List.map_append]
    exact h2
  obtain ⟨o', c', rfl⟩ := hb.slice
  rw [List.length_append, List.length_singleton] at hb hr
  refine ⟨_, w', hr, o', c', rfl, hb, h3.os.trans hba.os, h3.tape.trans hba.tape, h3.output.trans hba.output, Nat.le_trans hba.size h3.size, fun k hk => (h3.block k (by have := hba.size; omega) (fun e => ?_)).trans (hba.block k (by omega))⟩
  have := (World.ownsRow.lt hown k e.symm).1
  omega

theorem push_all : (l : List UInt8) → (r : ByteArray) → (l.map (fun b : UInt8 => ((b.toNat : Nat) : Int))).foldl (fun (r : ByteArray) (n : Int) => r.push (UInt8.ofNat n.toNat)) r = ⟨r.data ++ l.toArray⟩
  | [], r => by simp
  | b :: l, r => by
    rw [List.map_cons, List.foldl_cons, push_all l]
    have : UInt8.ofNat ((b.toNat : Int)).toNat = b := by simp
    rw [this]
    simp [ByteArray.push]

/-- The text that they become. -/
theorem Byts.text (h : Byts w wr v l) : (convert 22 9 v).run Tryz.prog wr = .ok (.string ⟨l.toArray⟩) wr := by
  obtain ⟨o, c, rfl⟩ := h.slice
  rw [run_convert_bytes_string _ 22 9 5 _ _ _ Tryz.underlying22 Tryz.underlying5 Tryz.underlying9]
  cases o with
  | none =>
    rcases h.2 with ⟨e, h0⟩ | ⟨g, cap, cur, e, _⟩
    · have : l = [] := List.length_eq_zero_iff.1 h0
      subst this
      rfl
    · cases e
  | some ad =>
    have hg : (Value.slice (some ad) l.length c).ownBlock = some ad.block := rfl
    have had : ad = ⟨ad.block, 0, none⟩ := by
      rcases h.2 with ⟨e, _⟩ | ⟨g, cap, cur, e, _⟩
      · cases e
      · injection e with e1
        have := Option.some.inj e1
        rw [this]
    have hc := World.ownsRow.cells h hg
    have hl := run_loadCells_list (P := Tryz.prog) wr ad (byteVs l) (fun j u hu => by rw [had]; exact hc j u hu)
    rw [show (byteVs l).length = l.length by simp [byteVs]] at hl
    have hm : byteVs l = (l.map (fun b : UInt8 => ((b.toNat : Nat) : Int))).map (Value.int .u8) := by simp [byteVs, byteV]
    rw [hm] at hl
    rw [run_bytesToString _ _ _ _ _ hl, push_all]
    simp
end
end Go.Proofs.YtmcjghhmcmkomaaGreatDoor

/- for any text the program's TextOk answers as the model's TextOk does: at most 400 bytes, each from 32 to 126. -/
namespace Go.Proofs.YtmcjghhmcmkomaaGreatDoor
open Go Go.RowKit

def okByte (b : UInt8) : Bool := decide (32 ≤ b.toNat) && decide (b.toNat ≤ 126)
def textOk (s : ByteArray) : Bool := decide (s.size ≤ 400) && s.data.toList.all okByte

theorem all_step {s : ByteArray} {k : Nat} (h : (s.data.toList.take k).all okByte = true) (hk : k < s.size) (h1 : 32 ≤ s[k].toNat) (h2 : s[k].toNat ≤ 126) : (s.data.toList.take (k + 1)).all okByte = true := by
  rw [List.take_succ_eq_append_getElem (by simpa using hk), List.all_append, h]
  have e : s.data.toList[k]'(by simpa using hk) = s[k] := rfl
  rw [e]
  simp [okByte, h1, h2]

theorem all_end {s : ByteArray} {k : Nat} (h : (s.data.toList.take k).all okByte = true) (hk : ¬ k < s.size) : s.data.toList.all okByte = true := by
  rwa [List.take_of_length_le (by simp only [Array.length_toList]; have : s.size = s.data.size := rfl; omega)] at h

theorem all_bad {s : ByteArray} {k : Nat} (hk : k < s.size) (h : ¬ (32 ≤ s[k].toNat ∧ s[k].toNat ≤ 126)) : textOk s = false := by
  have hm : s[k] ∈ s.data.toList := by
    have : s[k] = s.data.toList[k]'(by simpa using hk) := rfl
    rw [this]; exact List.getElem_mem _
  have : s.data.toList.all okByte = false := by
    rw [List.all_eq_false]
    refine ⟨_, hm, ?_⟩
    simp only [okByte, Bool.and_eq_true, decide_eq_true_eq]
    exact h
  simp [textOk, this]

set_option maxHeartbeats 400000 in
theorem spec_textOk (s : ByteArray) (hm : s.size ≤ maxLen) (w : World) :
    Calls Tryz.prog 74 #[.string s] w fun e w' => e = .returned (.bool (textOk s)) ∧ w' = w := by
  unfold maxLen at hm
  go_enter Tryz.func74, Tryz.ntmps74
  go_wp2
  go_loop [3] (fun i => ∃ k : Nat, k ≤ s.size ∧ i = .int .i64 k ∧ Hid ((s.data.toList.take k).all okByte = true)) (fun i => s.size - (intOf i).toNat)
  case atStart => exact ⟨0, Nat.zero_le _, rfl, rfl⟩
  case round =>
    obtain ⟨k, hk, rfl, hr⟩ := hrel
    by_cases hlt : k < s.size
    · by_cases h1 : 32 ≤ s[k].toNat
      · by_cases h2 : s[k].toNat ≤ 126
        · have HS := Lib.hid (all_step hr.out hlt h1 h2)
          go_wp2
          go_round
          case rel => exact ⟨k + 1, by omega, by go_num, HS.out⟩
          case measure => simp [intOf]; omega
        · have HN := Lib.hid (all_bad hlt (fun h => h2 h.2))
          go_wp2
          go_ret
          exact ⟨by rw [HN.out]; rfl, rfl⟩
      · have HN := Lib.hid (all_bad hlt (fun h => h1 h.1))
        go_wp2
        go_ret
        exact ⟨by rw [HN.out]; rfl, rfl⟩
    · have HE := Lib.hid (all_end hr.out hlt)
      go_wp2
      go_ret
      refine ⟨?_, rfl⟩
      unfold textOk
      rw [HE.out, Bool.and_true]
      refine congrArg (fun b => Ending.returned (.bool b)) ?_
      simp
      omega

set_option maxHeartbeats 400000 in
theorem impl_textOk (s : ByteArray) (hm : s.size ≤ maxLen) (w : World) :
    Calls Tryz.prog 69 #[.string s] w fun e w' => e = .returned (.bool (textOk s)) ∧ w' = w := by
  unfold maxLen at hm
  by_cases hs : s.size ≤ 400
  · have hs' : (s.size : Int) ≤ 400 := by omega
    go_enter Tryz.func69, Tryz.ntmps69
    go_wp2
    go_loop [9] (fun i => ∃ k : Nat, k ≤ s.size ∧ i = .int .i64 k ∧ Hid ((s.data.toList.take k).all okByte = true)) (fun i => s.size - (intOf i).toNat)
    case atStart => exact ⟨0, Nat.zero_le _, rfl, rfl⟩
    case round =>
      obtain ⟨k, hk, rfl, hr⟩ := hrel
      by_cases hlt : k < s.size
      · by_cases h1 : 32 ≤ s[k].toNat
        · by_cases h2 : s[k].toNat ≤ 126
          · have HS := Lib.hid (all_step hr.out hlt h1 h2)
            go_wp2
            go_round
            case rel => exact ⟨k + 1, by omega, by go_num, HS.out⟩
            case measure => simp [intOf]; omega
          · have HN := Lib.hid (all_bad hlt (fun h => h2 h.2))
            go_wp2
            go_ret
            exact ⟨by rw [HN.out]; rfl, rfl⟩
        · have HN := Lib.hid (all_bad hlt (fun h => h1 h.1))
          go_wp2
          go_ret
          exact ⟨by rw [HN.out]; rfl, rfl⟩
      · have HE := Lib.hid (all_end hr.out hlt)
        go_wp2
        go_ret
        refine ⟨?_, rfl⟩
        unfold textOk
        rw [HE.out, Bool.and_true, decide_eq_true hs]
        rfl
  · go_enter Tryz.func69, Tryz.ntmps69
    go_wp2
    go_ret
    refine ⟨?_, rfl⟩
    unfold textOk
    rw [decide_eq_false (p := s.size ≤ 400) (by omega), Bool.false_and]
    rfl

end Go.Proofs.YtmcjghhmcmkomaaGreatDoor

/- the model's Quote, at every text: empty when it is not right; else its bytes between two marks, with a stroke ahead of a mark or a stroke. -/
namespace Go.Proofs.YtmcjghhmcmkomaaGreatDoor
open Go Go.RowKit

def esc (b : UInt8) : List UInt8 := if b = 34 ∨ b = 92 then [92, b] else [b]
/-- What stands between the marks. -/
def escAll (l : List UInt8) : List UInt8 := l.flatMap esc
def quoteL (l : List UInt8) : List UInt8 := [34] ++ escAll l ++ [34]
/-- What Quote answers. -/
def quoteT (s : ByteArray) : ByteArray := if textOk s = true then ⟨(quoteL s.data.toList).toArray⟩ else ⟨#[]⟩

theorem esc_length (b : UInt8) : (esc b).length ≤ 2 := by unfold esc; split <;> simp
theorem escAll_length (l : List UInt8) : (escAll l).length ≤ 2 * l.length := by
  induction l with
  | nil => simp [escAll]
  | cons b l ih =>
    have := esc_length b
    simp only [escAll, List.flatMap_cons, List.length_append, List.length_cons] at ih ⊢
    omega

theorem escAll_take {s : ByteArray} {k : Nat} (h : k < s.size) : escAll (s.data.toList.take (k + 1)) = escAll (s.data.toList.take k) ++ esc s[k] := by
  rw [List.take_succ_eq_append_getElem (by simpa using h)]
  simp only [escAll, List.flatMap_append, List.flatMap_cons, List.flatMap_nil, List.append_nil]
  rfl

theorem u8_ne {x y : UInt8} (h : ¬ x = y) : ¬ ((x.toNat : Int) = (y.toNat : Int)) := fun e => h (UInt8.toNat_inj.1 (by omega))

/-- An append, as the list that it is. -/
theorem list_append {P : Program} {w : World} {ops : Array Oper} {rest : List Oper} {o : Oper} {a : Act} {Q : Exit → Act → World → Prop} (hgd : o.guard = none) (s x : Operand) (t : TypeId) (ho : o.op = .call { callee := .builtin .append, args := #[s, x], argTypes := #[t, t] }) (v u : Value) (hs : a.eval s = v) (hx : a.eval x = u)
    {R : Value → World → Prop} (hr : ∃ v' w', (Builtin.append_ #[t, t] o.type #[v, u]).run P w = .ok v' w' ∧ R v' w') (h : ∀ v' w', R v' w' → wpList P ops Q rest (a.put o.dst v') w') : wpList P ops Q (o :: rest) a w := by
  obtain ⟨v', w', h1, h2⟩ := hr
  exact Lib.wpList_append_run w hgd s x t t ho v u hs hx v' w' h1 (h v' w' h2)

set_option maxRecDepth 100000 in
set_option maxHeartbeats 1000000 in
theorem spec_quote (s : ByteArray) (hm : s.size ≤ maxLen) (w : World) :
    Calls Tryz.prog 47 #[.string s] w fun e w' => e = .returned (.string (quoteT s)) ∧ Below w.heap.size w w' := by
  by_cases hok : textOk s = true
  · have hlen : s.size ≤ 400 := by
      unfold textOk at hok
      simp only [Bool.and_eq_true, decide_eq_true_eq] at hok
      exact hok.1
    have hq : Hid (quoteT s = ⟨(quoteL s.data.toList).toArray⟩) := if_pos hok
    have HT : Hid (∀ (wr : World) (v : Value) (l : List UInt8), Byts w wr v l → (convert 22 9 v).run Tryz.prog wr = .ok (.string ⟨l.toArray⟩) wr) := fun wr v l h => h.text
    have t1 : True := trivial
    go_enter Tryz.func47, Tryz.ntmps47
    go_wp2_with (first
      | (go_at_call 74; refine (spec_textOk s hm _).mono ?_; rintro e w1 ⟨rfl, hb1⟩; subst w1; rw [hok]; clear t1)
      | fail)
    unfold maxLen at hm
    go_loopw [3, 4] (fun v q wr => ∃ (k n : Nat) (o : Option Addr) (c : Nat), k ≤ s.size ∧ n ≤ 1 + 2 * k ∧ v = .slice o n c ∧ q = .int .i64 k ∧ Hid (∃ l : List UInt8, l = [34] ++ escAll (s.data.toList.take k) ∧ l.length = n ∧ Byts w wr (.slice o n c) l ∧ Below w.heap.size w wr)) (fun _ q _ => s.size - (intOf q).toNat)
    case atStart => exact ⟨0, 1, _, 1, Nat.zero_le _, by omega, rfl, rfl, [34], rfl, rfl, Byts.one (Nat.le_refl _) 34, (Below.refl _ w).alloc (Nat.le_refl _) _⟩
    case round =>
      obtain ⟨k, n, o, c, hk, hn, rfl, rfl, hr⟩ := hrel
      obtain ⟨l, hl, hln, hby, hbl⟩ := hr.out
      subst hln
      have HB := Lib.hid (And.intro hby hbl)
      have HLL := Lib.hid hl
      clear hby hbl hr hl
      by_cases hlt : k < s.size
      · have HL : Hid (l ++ esc s[k] = [34] ++ escAll (s.data.toList.take (k + 1))) := by
          show _ = _
          rw [escAll_take hlt, HLL.out, List.append_assoc]
        have hlt' : (k : Int) < (s.size : Int) := by omega
        have t2 : True := trivial
        have HM : Hid (∀ (wr1 : World) (o1 : Option Addr) (n1 c1 : Nat) (l1 : List UInt8) (z : Int) (b : UInt8), z = b.toNat → l1.length = n1 → Byts w wr1 (.slice o1 n1 c1) l1 → Below w.heap.size w wr1 → n1 ≤ 1000 → ∀ ty, ∃ v' w', (Builtin.append_ #[22, 22] ty #[.slice o1 n1 c1, .slice (some ⟨wr1.heap.size, 0, none⟩) 1 1]).run Tryz.prog (wr1.alloc (.cells #[.int .u8 z] 5)) = .ok v' w' ∧ ∃ o' c', v' = .slice o' (n1 + 1) c' ∧ Byts w w' (.slice o' (n1 + 1) c') (l1 ++ [b]) ∧ Below w.heap.size w w') := fun wr1 o1 n1 c1 l1 z b hz hn1 h1 h2 h3 ty => by
          subst hn1 hz
          obtain ⟨v', w', g1, o', c', g2, g3, g4⟩ := h1.more h2.size b (by omega) ty
          exact ⟨v', w', g1, o', c', g2, g3, h2.trans g4⟩
        obtain ⟨b, hb⟩ : ∃ b : UInt8, s[k] = b := ⟨_, rfl⟩
        rw [hb] at HL
        by_cases hq : b = 34 ∨ b = 92
        · have HE : Hid (esc b = [92, b]) := if_pos hq
          have HL2 : Hid ((l ++ [92]) ++ [b] = [34] ++ escAll (s.data.toList.take (k + 1))) := by
            have h1 := HL.out
            rw [HE.out] at h1
            show _ = _
            rw [← h1]
            simp
          clear HL HE
          rcases hq with hq | hq
          · subst hq
            have e1 : ((s[k].toNat : Int) == 34) = true := by rw [hb]; rfl
            go_wp2_with (first
              | (at_builtin; clear t2; refine list_append rfl _ _ 22 rfl _ _ rfl rfl (HM.out _ o l.length c l 92 92 rfl rfl HB.out.1 HB.out.2 (by omega) _) ?_; rintro v2 w2 ⟨o2, c2, rfl, h1, h2⟩; have H2 := Lib.hid (And.intro h1 h2); clear h1 h2)
              | (at_builtin; refine list_append rfl _ _ 22 rfl _ _ rfl rfl (HM.out _ o2 (l.length + 1) c2 (l ++ [92]) 34 34 rfl (by simp) H2.out.1 H2.out.2 (by omega) _) ?_; rintro v3 w3 ⟨o3, c3, rfl, h1, h2⟩; have H3 := Lib.hid (And.intro h1 h2); clear h1 h2)
              | fail)
            exact ⟨⟨k + 1, l.length + 1 + 1, o3, c3, hlt, by omega, rfl, by go_num, _, HL2.out, by simp, H3.out.1, H3.out.2⟩, by simp [intOf]; omega⟩
          · subst hq
            have e1 : ((s[k].toNat : Int) == 34) = false := by rw [hb]; rfl
            have e2 : ((s[k].toNat : Int) == 92) = true := by rw [hb]; rfl
            go_wp2_with (first
              | (at_builtin; clear t2; refine list_append rfl _ _ 22 rfl _ _ rfl rfl (HM.out _ o l.length c l 92 92 rfl rfl HB.out.1 HB.out.2 (by omega) _) ?_; rintro v2 w2 ⟨o2, c2, rfl, h1, h2⟩; have H2 := Lib.hid (And.intro h1 h2); clear h1 h2)
              | (at_builtin; refine list_append rfl _ _ 22 rfl _ _ rfl rfl (HM.out _ o2 (l.length + 1) c2 (l ++ [92]) 92 92 rfl (by simp) H2.out.1 H2.out.2 (by omega) _) ?_; rintro v3 w3 ⟨o3, c3, rfl, h1, h2⟩; have H3 := Lib.hid (And.intro h1 h2); clear h1 h2)
              | fail)
            exact ⟨⟨k + 1, l.length + 1 + 1, o3, c3, hlt, by omega, rfl, by go_num, _, HL2.out, by simp, H3.out.1, H3.out.2⟩, by simp [intOf]; omega⟩
        · have HE : Hid (esc b = [b]) := if_neg hq
          have e1 : ((b.toNat : Int) == 34) = false := by simpa using u8_ne (fun h => hq (.inl h))
          have e2 : ((b.toNat : Int) == 92) = false := by simpa using u8_ne (fun h => hq (.inr h))
          go_wp2_with (first
            | (at_builtin; refine list_append rfl _ _ 22 rfl _ _ rfl rfl (HM.out _ o l.length c l _ b rfl rfl HB.out.1 HB.out.2 (by omega) _) ?_; rintro v2 w2 ⟨o2, c2, rfl, h1, h2⟩; have H2 := Lib.hid (And.intro h1 h2); clear h1 h2)
            | fail)
          have HF : Hid (l ++ [b] = [34] ++ escAll (s.data.toList.take (k + 1))) := by
            have h1 := HL.out
            rw [HE.out] at h1
            exact h1
          exact ⟨⟨k + 1, l.length + 1, o2, c2, hlt, by omega, rfl, by go_num, l ++ [b], HF.out, by simp, H2.out.1, H2.out.2⟩, by simp [intOf]; omega⟩
      · have e : k = s.size := by omega
        subst e
        have HM : Hid (∀ ty, ∃ v' w', (Builtin.append_ #[22, 22] ty #[.slice o l.length c, .slice (some ⟨wr.heap.size, 0, none⟩) 1 1]).run Tryz.prog (wr.alloc (.cells #[.int .u8 34] 5)) = .ok v' w' ∧ ∃ o' c', v' = .slice o' (l.length + 1) c' ∧ Byts w w' (.slice o' (l.length + 1) c') (l ++ [34]) ∧ Below w.heap.size w w') := fun ty => by
          obtain ⟨v', w', g1, o', c', g2, g3, g4⟩ := HB.out.1.more HB.out.2.size 34 (by omega) ty
          exact ⟨v', w', g1, o', c', g2, g3, HB.out.2.trans g4⟩
        have HQ : Hid (quoteT s = ⟨(l ++ [34]).toArray⟩) := by
          have h1 := hq.out
          have h2 := HLL.out
          rw [List.take_of_length_le (by simp)] at h2
          show _ = _
          rw [h1, h2]
          rfl
        go_wp2_with (first
          | (at_builtin; refine list_append rfl _ _ 22 rfl _ _ rfl rfl (HM.out _) ?_; rintro v2 w2 ⟨o2, c2, rfl, h1, h2⟩; have H2 := Lib.hid (And.intro h1 h2); have ht := HT.out _ _ _ h1; clear h1 h2)
          | fail)
        go_ret
        exact ⟨by rw [HQ.out]; rfl, H2.out.2⟩
  · have hq : Hid (quoteT s = ⟨#[]⟩) := if_neg hok
    have hok' : textOk s = false := by simpa using hok
    go_enter Tryz.func47, Tryz.ntmps47
    go_wp2_with (first
      | (go_at_call 74; refine (spec_textOk s hm _).mono ?_; rintro e w1 ⟨rfl, hb1⟩; subst w1; rw [hok'])
      | fail)
    go_ret
    exact ⟨by rw [hq.out]; rfl, Below.refl _ _⟩
end Go.Proofs.YtmcjghhmcmkomaaGreatDoor

/- the program's reading of braced texts: a text between two marks, read as it was written; what is no such text is refused. -/
namespace Go.Proofs.YtmcjghhmcmkomaaGreatDoor
open Go Go.RowKit

theorem grw_belowB {w wr w' : World} {r : Option Nat} (h : w.grownBy wr r) (hb : Below w.heap.size wr w') : w.grownBy w' r :=
  ⟨hb.os.trans h.os, hb.tape.trans h.tape, hb.output.trans h.output, Nat.le_trans h.size hb.size, fun k hk hr => (hb.block k hk).trans (h.block k hk hr)⟩

theorem Byts.none (w wr : World) : Byts w wr (.slice none 0 0) [] := ⟨rfl, .inl ⟨rfl, rfl⟩⟩

def lenV : Value → Nat
  | .slice _ n _ => n
  | _ => 0

theorem escAll_app (a b : List UInt8) : escAll (a ++ b) = escAll a ++ escAll b := List.flatMap_append
theorem escAll_cons (x : UInt8) (b : List UInt8) : escAll (x :: b) = esc x ++ escAll b := List.flatMap_cons

theorem escAll_snoc {l : List UInt8} {k : Nat} (h : k < l.length) : escAll (l.take (k + 1)) = escAll (l.take k) ++ esc l[k] := by
  rw [List.take_succ_eq_append_getElem h, escAll_app, escAll_cons]
  simp [escAll]

theorem escAll_halves (l : List UInt8) (k : Nat) : escAll l = escAll (l.take k) ++ escAll (l.drop k) := by
  rw [← escAll_app, List.take_append_drop]

theorem escAll_ge (l : List UInt8) : l.length ≤ (escAll l).length := by
  induction l with
  | nil => simp
  | cons b l ih =>
    have : 1 ≤ (esc b).length := by unfold esc; split <;> simp
    rw [escAll_cons, List.length_append, List.length_cons]
    omega

set_option maxRecDepth 100000 in
set_option maxHeartbeats 2000000 in
/-- A text between two marks. -/
theorem rd_quoted (p : Nat) (s : ByteArray) (hs : s.size ≤ 1000000000) (i : Nat) (ov : Value) (nd : Nat) (tw : Int) (l R : List UInt8) (hl : l.all okByte = true) (ht : s.data.toList.drop i = 34 :: (escAll l ++ 34 :: R)) (w : World) (h : Rd w p s i ov nd tw) :
    Calls Tryz.prog 114 #[.pointer (some ⟨p, 0, none⟩)] w fun e w' => e = .returned (.tuple #[.string ⟨l.toArray⟩, .nilIface]) ∧ Rd w' p s (i + (quoteL l).length) ov nd tw ∧ w.grownBy w' (some p) := by
  have hs' : s.size ≤ maxLen := by unfold maxLen; omega
  obtain ⟨n1, n2, n3⟩ := nextB_drop ht
  have HT := Lib.hid n3
  have HK := Lib.hid (rd_take_yes p s i ov nd tw w hs' n2 34 n1 h)
  have hp := h.lt
  have HTx : Hid (∀ (wr : World) (v : Value) (l : List UInt8), Byts w wr v l → (convert 22 9 v).run Tryz.prog wr = .ok (.string ⟨l.toArray⟩) wr) := fun wr v l h => h.text
  have HO : Hid (∀ k (hk : k < l.length), 32 ≤ l[k].toNat ∧ l[k].toNat ≤ 126) := fun k hk => by
    have := List.all_eq_true.1 hl _ (List.getElem_mem hk)
    simpa [okByte] using this
  have hll : l.length ≤ 1000000000 := by
    have h1 : (s.data.toList.drop i).length ≤ s.size := by rw [List.length_drop]; simp
    rw [ht] at h1
    have h2 := escAll_ge l
    simp at h1
    omega
  have HH := Lib.hid h
  have t0 : True := trivial
  have hp' := Lib.hid hp
  clear ht n1 n2 n3 h hl hp
  go_enter Tryz.func114, Tryz.ntmps114
  go_wp2_with (first
    | (go_at_call 119; refine HK.out.mono ?_; clear t0; rintro e w1 ⟨rfl, h1, h2⟩; have H1 := Lib.hid (And.intro h1 h2); clear h1 h2)
    | fail)
  go_loopw [4] (fun v wr => ∃ (k : Nat) (o : Option Addr) (c : Nat), k ≤ l.length ∧ v = .slice o k c ∧ Hid (Byts w wr (.slice o k c) (l.take k) ∧ Rd wr p s (i + 1 + (escAll (l.take k)).length) ov nd tw ∧ w.grownBy wr (some p))) (fun v _ => l.length - lenV v)
  case atStart => exact ⟨0, none, 0, Nat.zero_le _, rfl, Byts.none _ _, H1.out.1, H1.out.2⟩
  case round =>
    obtain ⟨k, o, c, hk, rfl, hr⟩ := hrel
    have HB := Lib.hid hr.out.1
    have HR := Lib.hid hr.out.2.1
    have HG := Lib.hid hr.out.2.2
    clear hr
    have HHead : Hid (s.data.toList.drop (i + 1 + (escAll (l.take k)).length) = escAll (l.drop k) ++ 34 :: R) := by
      show _ = _
      rw [← List.drop_drop, HT.out]
      rw [escAll_halves l k, List.append_assoc, List.drop_left]
    by_cases hlt : k < l.length
    · obtain ⟨b, hb⟩ : ∃ b : UInt8, l[k] = b := ⟨_, rfl⟩
      obtain ⟨o1, o2⟩ := HO.out k hlt
      rw [hb] at o1 o2
      have HE : Hid (escAll (l.take (k + 1)) = escAll (l.take k) ++ esc b) := by show _ = _; rw [escAll_snoc hlt, hb]
      have HTk : Hid (l.take (k + 1) = l.take k ++ [b]) := by show _ = _; rw [List.take_succ_eq_append_getElem hlt, hb]
      have HD : Hid (escAll (l.drop k) = esc b ++ escAll (l.drop (k + 1))) := by
        show _ = _
        rw [List.drop_eq_getElem_cons hlt, hb, escAll_cons]
      rw [HD.out] at HHead
      have HLn : Hid ((l.take k).length = k) := by show _ = _; rw [List.length_take]; omega
      have HNx : Hid (i + 1 + (escAll (l.take (k + 1))).length = i + 1 + (escAll (l.take k)).length + (esc b).length) := by show _ = _; rw [HE.out, List.length_append]; omega
      generalize i + 1 + (escAll (l.take k)).length = q at *
      clear hb HD HE
      have HM : Hid (∀ (wr1 : World), w.heap.size ≤ wr1.heap.size → Byts w wr1 (.slice o k c) (l.take k) → ∀ ty, ∃ v' w', (Builtin.append_ #[22, 22] ty #[.slice o k c, .slice (some ⟨wr1.heap.size, 0, none⟩) 1 1]).run Tryz.prog (wr1.alloc (.cells #[.int .u8 (b.toNat : Int)] 5)) = .ok v' w' ∧ ∃ o' c', v' = .slice o' (k + 1) c' ∧ Byts w w' (.slice o' (k + 1) c') (l.take (k + 1)) ∧ Below w.heap.size wr1 w') := fun wr1 hz h1 ty => by
        obtain ⟨v', w', g1, o', c', g2, g3, g4⟩ := h1.more hz b (by rw [HLn.out]; omega) ty
        rw [HLn.out] at g2 g3
        rw [HTk.out]
        exact ⟨v', w', g1, o', c', g2, g3, g4⟩
      have d1 : ¬ (b.toNat : Int) < 32 := by omega
      have d2 : ¬ (126 : Int) < (b.toNat : Int) := by omega
      by_cases hq : b = 34 ∨ b = 92
      · have HEs : Hid (esc b = [92, b]) := if_pos hq
        rw [HEs.out] at HHead HNx
        obtain ⟨m1, m2, m3⟩ := nextB_drop (b := 92) (l := b :: (escAll (l.drop (k + 1)) ++ 34 :: R)) HHead.out
        obtain ⟨m4, m5, -⟩ := nextB_drop m3
        have A1 := Lib.hid (rd_take_no p s (q) ov nd tw wr (Nat.le_of_lt m2) 34 (by rw [m1]; decide) HR.out)
        have A2 := Lib.hid (fun (wx : World) (hx : Rd wx p s (q) ov nd tw) => rd_take_yes p s (q) ov nd tw wx hs' m2 92 m1 hx)
        have A3 := Lib.hid (fun (wx : World) (hx : Rd wx p s (q + 1) ov nd tw) => rd_next p s (q + 1) ov nd tw wx (Nat.le_of_lt m5) hx)
        rw [m4] at A3
        have hq1 : q + 1 ≤ 1000000000 := by omega
        clear m1 m2 m3 m4 m5 HHead HEs
        generalize hqr : q + 1 = r at *
        have HF : Hid (i + 1 + (escAll (l.take (k + 1))).length = r + 1) := by
          have := HNx.out
          simp only [List.length_cons, List.length_nil] at this
          show _ = _
          omega
        clear hqr HNx
        rcases hq with rfl | rfl
        all_goals
          go_wp2_with fail
          refine A1.out.mono ?_
          rintro e w2 ⟨rfl, hb2⟩
          have H2 := Lib.hid (HR.out.same (hb2.block p HR.out.lt))
          have G2 := Lib.hid (grw_trans HG.out (grw_below hb2))
          have B2 := Lib.hid (HB.out.on hb2)
          clear hb2
          go_wp2_with fail
          refine (A2.out _ H2.out).mono ?_
          rintro e w3 ⟨rfl, h3, g3⟩
          have H3 := Lib.hid h3
          have G3 := Lib.hid (grw_trans G2.out g3)
          have B3 := Lib.hid (B2.out.kept hp'.out g3)
          clear h3 g3
          go_wp2_with fail
          refine (A3.out _ H3.out).mono ?_
          rintro e w4 ⟨rfl, hb4⟩
          have H4 := Lib.hid (H3.out.same (hb4.block p H3.out.lt))
          have G4 := Lib.hid (grw_trans G3.out (grw_below hb4))
          have B4 := Lib.hid (B3.out.on hb4)
          clear hb4
          have hz4 : Hid (w.heap.size ≤ w4.heap.size) := G4.out.size
          go_wp2_with (first
            | (at_builtin; refine list_append rfl _ _ 22 rfl _ _ rfl rfl (HM.out _ hz4.out B4.out _) ?_; rintro v5 w5 ⟨o5, c5, rfl, h5, g5⟩; have H5 := Lib.hid (H4.out.same (g5.block p hp'.out)); have G5 := Lib.hid (grw_belowB G4.out g5); have B5 := Lib.hid h5; obtain ⟨x0, x1, x2, x3, x4, x5⟩ := H5.out.five; clear h5 g5)
            | fail)
          refine ⟨⟨k + 1, o5, c5, hlt, rfl, B5.out.kept hp'.out (grw_set _ _ _ _), ?_, grw_trans G5.out (grw_set _ _ _ _)⟩, ?_⟩
          · rw [HF.out]; exact H5.out.go1
          · show l.length - (k + 1) < l.length - k; omega
      · have HEs : Hid (esc b = [b]) := if_neg hq
        rw [HEs.out] at HHead HNx
        obtain ⟨m1, m2, -⟩ := nextB_drop (b := b) (l := escAll (l.drop (k + 1)) ++ 34 :: R) HHead.out
        have A1 := Lib.hid (rd_take_no p s q ov nd tw wr (Nat.le_of_lt m2) 34 (by rw [m1]; exact fun h => hq (.inl h)) HR.out)
        have A2 := Lib.hid (fun (wx : World) (hx : Rd wx p s q ov nd tw) => rd_take_no p s q ov nd tw wx (Nat.le_of_lt m2) 92 (by rw [m1]; exact fun h => hq (.inr h)) hx)
        have A3 := Lib.hid (fun (wx : World) (hx : Rd wx p s q ov nd tw) => rd_next p s q ov nd tw wx (Nat.le_of_lt m2) hx)
        rw [m1] at A3
        have hq1 : q ≤ 1000000000 := by omega
        have HF : Hid (i + 1 + (escAll (l.take (k + 1))).length = q + 1) := by
          have := HNx.out
          simp only [List.length_cons, List.length_nil] at this
          show _ = _
          omega
        clear m1 m2 HHead HEs HNx hq
        go_wp2_with fail
        refine A1.out.mono ?_
        rintro e w2 ⟨rfl, hb2⟩
        have H2 := Lib.hid (HR.out.same (hb2.block p HR.out.lt))
        have G2 := Lib.hid (grw_trans HG.out (grw_below hb2))
        have B2 := Lib.hid (HB.out.on hb2)
        clear hb2
        go_wp2_with fail
        refine (A2.out _ H2.out).mono ?_
        rintro e w3 ⟨rfl, hb3⟩
        have H3 := Lib.hid (H2.out.same (hb3.block p H2.out.lt))
        have G3 := Lib.hid (grw_trans G2.out (grw_below hb3))
        have B3 := Lib.hid (B2.out.on hb3)
        clear hb3
        go_wp2_with fail
        refine (A3.out _ H3.out).mono ?_
        rintro e w4 ⟨rfl, hb4⟩
        have H4 := Lib.hid (H3.out.same (hb4.block p H3.out.lt))
        have G4 := Lib.hid (grw_trans G3.out (grw_below hb4))
        have B4 := Lib.hid (B3.out.on hb4)
        clear hb4
        have hz4 : Hid (w.heap.size ≤ w4.heap.size) := G4.out.size
        go_wp2_with (first
          | (at_builtin; refine list_append rfl _ _ 22 rfl _ _ rfl rfl (HM.out _ hz4.out B4.out _) ?_; rintro v5 w5 ⟨o5, c5, rfl, h5, g5⟩; have H5 := Lib.hid (H4.out.same (g5.block p hp'.out)); have G5 := Lib.hid (grw_belowB G4.out g5); have B5 := Lib.hid h5; obtain ⟨x0, x1, x2, x3, x4, x5⟩ := H5.out.five; clear h5 g5)
          | fail)
        refine ⟨⟨k + 1, o5, c5, hlt, rfl, B5.out.kept hp'.out (grw_set _ _ _ _), ?_, grw_trans G5.out (grw_set _ _ _ _)⟩, ?_⟩
        · rw [HF.out]; exact H5.out.go1
        · show l.length - (k + 1) < l.length - k; omega
    · have e : k = l.length := by omega
      subst e
      rw [List.drop_eq_nil_of_le (Nat.le_refl _), List.take_of_length_le (Nat.le_refl _)] at HHead
      rw [List.take_of_length_le (Nat.le_refl _)] at HB HR
      obtain ⟨m1, m2, -⟩ := nextB_drop (b := 34) (l := R) HHead.out
      have HFn : Hid (i + (quoteL l).length = i + 1 + (escAll l).length + 1) := by
        show _ = _
        simp only [quoteL, List.length_append, List.length_cons, List.length_nil]
        omega
      have A1 := Lib.hid (rd_take_yes p s (i + 1 + (escAll l).length) ov nd tw wr hs' m2 34 m1 HR.out)
      rw [← HFn.out] at A1
      clear m1 m2 HHead
      go_wp2_with fail
      refine A1.out.mono ?_
      rintro e w2 ⟨rfl, h2, g2⟩
      have H2 := Lib.hid (And.intro h2 (grw_trans HG.out g2))
      have ht2 := HTx.out _ _ _ (HB.out.kept hp'.out g2)
      clear h2 g2
      go_wp2
      go_ret2
      exact ⟨rfl, H2.out.1, H2.out.2⟩
end Go.Proofs.YtmcjghhmcmkomaaGreatDoor

/- plain facts on decimal numerals and on lists of bytes; no program, no condition beyond each theorem's own. -/
namespace Go.Proofs.YtmcjghhmcmkomaaGreatDoor.Num
open Go

/-- What is still to be written ahead of 'out'. -/
def rest (u : Nat) (out : List UInt8) : List UInt8 := if u = 0 then out else Lib.decDigits u ++ out

theorem rest_zero (out : List UInt8) : rest 0 out = out := rfl
theorem rest_pos {u : Nat} (h : u ≠ 0) (out : List UInt8) : rest u out = Lib.decDigits u ++ out := if_neg h

theorem rest_step {u : Nat} (h : u ≠ 0) (out : List UInt8) : rest (u / 10) (UInt8.ofNat (48 + u % 10) :: out) = rest u out := by
  rw [rest_pos h]
  by_cases hs : u < 10
  · rw [Lib.decDigits, dif_pos hs, Nat.div_eq_of_lt hs, rest_zero, Nat.mod_eq_of_lt hs]; rfl
  · rw [rest_pos (by omega), Lib.decDigits.eq_def u, dif_neg hs]; simp

theorem rest_length (u : Nat) (out : List UInt8) : out.length ≤ (rest u out).length := by
  unfold rest; split <;> simp

theorem itoa_pos {n : Int} (h : 0 < n) : Lib.itoa n = rest n.natAbs [] := by
  rw [rest_pos (by omega)]; unfold Lib.itoa; rw [if_neg (by omega)]
  have : n.toNat = n.natAbs := by omega
  rw [this]; simp
theorem itoa_neg {n : Int} (h : n < 0) : Lib.itoa n = 45 :: rest n.natAbs [] := by
  rw [rest_pos (by omega)]; unfold Lib.itoa; rw [if_pos h]; simp
theorem itoa_zero : Lib.itoa 0 = [48] := by
  show Lib.decDigits 0 = [48]
  rw [Lib.decDigits, dif_pos (by decide)]; rfl
theorem itoa_length (n : Int) (h0 : -9223372036854775808 ≤ n) (h1 : n ≤ 9223372036854775807) : (Lib.itoa n).length ≤ 21 := Lib.itoa_length_le n h0 h1

end Go.Proofs.YtmcjghhmcmkomaaGreatDoor.Num

/- plain facts on texts that may be written as they are: 1 to 60 bytes, a letter first, then letters, digits and four signs; none of three words. -/
namespace Go.Proofs.YtmcjghhmcmkomaaGreatDoor
open Go Go.RowKit

def isLet (b : UInt8) : Bool := (decide (97 ≤ b.toNat) && decide (b.toNat ≤ 122)) || (decide (65 ≤ b.toNat) && decide (b.toNat ≤ 90))
def isDig (b : UInt8) : Bool := decide (48 ≤ b.toNat) && decide (b.toNat ≤ 57)
def isSgn (b : UInt8) : Bool := decide (b = 95 ∨ b = 46 ∨ b = 47 ∨ b = 45)
def okP (b : UInt8) : Bool := isLet b || (isDig b || isSgn b)
/-- A letter first, then what may stand behind one. -/
def goodL : List UInt8 → Bool
  | [] => true
  | b :: l => isLet b && l.all okP
def noWord (s : ByteArray) : Bool := ((!s.toList == [110, 117, 108, 108]) && (!s.toList == [116, 114, 117, 101])) && (!s.toList == [102, 97, 108, 115, 101])
def plainB (s : ByteArray) : Bool := (decide (1 ≤ s.size ∧ s.size ≤ 60) && goodL s.data.toList) && noWord s

theorem okP_let {b : UInt8} (h : isLet b = true) : okP b = true := by simp [okP, h]

theorem goodL_snoc (l : List UInt8) (b : UInt8) : goodL (l ++ [b]) = (goodL l && (if l.length = 0 then isLet b else okP b)) := by
  cases l with
  | nil => simp [goodL]
  | cons x l => simp [goodL, Bool.and_assoc]

theorem take_snoc (s : ByteArray) (k : Nat) (h : k < s.size) : s.data.toList.take (k + 1) = s.data.toList.take k ++ [s[k]] := by
  rw [List.take_succ_eq_append_getElem (by simpa using h)]; rfl

theorem goodL_step {s : ByteArray} {k : Nat} (hk : k < s.size) : goodL (s.data.toList.take (k + 1)) = (goodL (s.data.toList.take k) && (if k = 0 then isLet s[k] else okP s[k])) := by
  have hl : (s.data.toList.take k).length = k := by rw [List.length_take]; have : s.data.toList.length = s.size := by simp
                                                    omega
  rw [take_snoc s k hk, goodL_snoc, hl]

theorem goodL_pre {l : List UInt8} : ∀ {m : List UInt8}, goodL (l ++ m) = true → goodL l = true := by
  intro m h
  cases l with
  | nil => rfl
  | cons x l =>
    simp only [List.cons_append, goodL, Bool.and_eq_true, List.all_append] at h ⊢
    exact ⟨h.1, h.2.1⟩

theorem goodL_bad {s : ByteArray} {k : Nat} (h : goodL (s.data.toList.take (k + 1)) = false) : plainB s = false := by
  have : goodL s.data.toList = false := by
    rcases Bool.eq_false_or_eq_true (goodL s.data.toList) with h1 | h1
    · exfalso
      rw [← List.take_append_drop (k + 1) s.data.toList] at h1
      rw [goodL_pre h1] at h
      cases h
    · exact h1
  simp [plainB, this]

theorem goodL_end {s : ByteArray} {k : Nat} (hk : ¬ k < s.size) : s.data.toList.take k = s.data.toList :=
  List.take_of_length_le (by simp only [Array.length_toList]; have : s.size = s.data.size := rfl; omega)

theorem sgn_index (b : UInt8) : (Lib.indexByte [95, 46, 47, 45] ((b.toNat : Int).toNat.toUInt8) < 0) = (isSgn b = false) := by
  have e : (b.toNat : Int).toNat.toUInt8 = b := by simp
  rw [e]
  by_cases h1 : b = 95
  · subst h1; decide
  by_cases h2 : b = 46
  · subst h2; decide
  by_cases h3 : b = 47
  · subst h3; decide
  by_cases h4 : b = 45
  · subst h4; decide
  have e1 : ((95 : UInt8) == b) = false := by simpa using fun h => h1 h.symm
  have e2 : ((46 : UInt8) == b) = false := by simpa using fun h => h2 h.symm
  have e3 : ((47 : UInt8) == b) = false := by simpa using fun h => h3 h.symm
  have e4 : ((45 : UInt8) == b) = false := by simpa using fun h => h4 h.symm
  simp [Lib.indexByte, e1, e2, e3, e4, isSgn, h1, h2, h3, h4]
end Go.Proofs.YtmcjghhmcmkomaaGreatDoor
