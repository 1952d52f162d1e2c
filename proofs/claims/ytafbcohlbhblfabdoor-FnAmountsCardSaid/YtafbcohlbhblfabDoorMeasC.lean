/-
  What is proved: how the program parts a text ahead of its first sign that is no digit: at every text of at most a million bytes, valid UTF-8 or not.
-/
import Derived.Test.YtafbcohlbhblfabDoorMeas
import Derived.Test.YtafbcohlbhblfabDoorFacts
import Derived.Lib.OthersKept
import Derived.Lib.Hide
namespace Go.Proofs.YtafbcohlbhblfabDoor
open Go Go.RowKit

/-- Where the loop stands: how many signs it has, what it takes for the digits, and where in the text it is. -/
inductive Cut (s : ByteArray) (k : Nat) : Nat → ByteArray → Int × Int → Nat → Prop
  | zero (pos : Nat) : pos ≤ k → Cut s k 0 s (-1, -1) pos
  | one : k < s.size → Cut s k 1 (s.extract 0 k) (((Utf8.decode s k).1 : Int), (-1 : Int)) (k + (Utf8.decode s k).2)
  | two : k < s.size → k + (Utf8.decode s k).2 < s.size → Cut s k 2 (s.extract 0 k) (((Utf8.decode s k).1 : Int), ((Utf8.decode s (k + (Utf8.decode s k).2)).1 : Int)) (k + (Utf8.decode s k).2 + (Utf8.decode s (k + (Utf8.decode s k).2)).2)

/-- At the text's end the loop has what the cut is. -/
theorem Cut.done {s : ByteArray} {k : Nat} (hk : k ≤ s.size) {n : Nat} {d : ByteArray} {sg : Int × Int} {pos : Nat} (h : Cut s k n d sg pos) (hp : ¬ pos < s.size) : d = s.extract 0 k ∧ cutAt s k = some sg := by
  cases h with
  | zero _ h0 =>
    have : k = s.size := by omega
    subst this
    exact ⟨by simp, cut_end (by omega)⟩
  | one h0 => exact ⟨rfl, cut_one h0 hp⟩
  | two h0 h1 => exact ⟨rfl, cut_two h0 h1 hp⟩

theorem extract_take' (s : ByteArray) (k : Nat) : (s.extract 0 k).data.toList = s.data.toList.take k := by
  simp [ByteArray.data_extract]

/-- The block of the result, the block of the signs, the block of the iterator. -/
structure Lain (w wr : World) (B : Nat) (s : ByteArray) (sg : Int × Int) (pos : Nat) : Prop where
  res : wr.heap[B]? = some (.cells #[.int .i32 0, .int .i32 0] 42 (0, 0))
  signs : wr.heap[B + 1]? = some (.cells #[.int .i32 sg.1, .int .i32 sg.2] 42 (0, 0))
  iter : wr.heap[B + 2]? = some (.stringIter s pos)
  below : Below B w wr

theorem last_block (w : World) (o : Obj) : (w.alloc o).heap[w.heap.size]? = some o := by
  show (w.heap.push o)[w.heap.size]? = _
  simp

theorem lain_start (w : World) (s : ByteArray) : Lain w (((w.alloc (.cells #[.int .i32 0, .int .i32 0] 42)).alloc (.cells #[.int .i32 (-1), .int .i32 (-1)] 42)).iter s 0) w.heap.size s (-1, -1) 0 where
  res := by
    rw [World.iter, Below.heap_alloc _ _ _ (by simp; omega), Below.heap_alloc _ _ _ (by simp)]
    exact last_block w _
  signs := by
    have e : w.heap.size + 1 = (w.alloc (.cells #[.int .i32 0, .int .i32 0] 42)).heap.size := by simp
    rw [World.iter, Below.heap_alloc _ _ _ (by simp), e]
    exact last_block _ _
  iter := by
    have e : w.heap.size + 2 = ((w.alloc (.cells #[.int .i32 0, .int .i32 0] 42)).alloc (.cells #[.int .i32 (-1), .int .i32 (-1)] 42)).heap.size := by simp
    rw [e]
    exact World.iter_heap _ s 0
  below := (((Below.refl _ w).alloc (Nat.le_refl _) _).alloc (by simp) _).alloc (by simp; omega) _

theorem Lain.next {w wr : World} {B : Nat} {s : ByteArray} {sg : Int × Int} {pos : Nat} (h : Lain w wr B s sg pos) (p' : Nat) : Lain w (wr.iterAt (B + 2) s p') B s sg p' where
  res := (Lib.iterAt_other wr (B + 2) B s p' (by omega)).trans h.res
  signs := (Lib.iterAt_other wr (B + 2) (B + 1) s p' (by omega)).trans h.signs
  iter := Lib.iterAt_heap wr (B + 2) s pos p' h.iter
  below := Lib.below_iterAt h.below (by omega) s p'

theorem Lain.facts {w wr : World} {B : Nat} {s : ByteArray} {sg : Int × Int} {pos : Nat} (h : Lain w wr B s sg pos) :
    wr.cell? ⟨B, 0, none⟩ = some (.int .i32 0) ∧ wr.cell? ⟨B, 1, none⟩ = some (.int .i32 0) ∧ wr.cell? ⟨B + 1, 0, none⟩ = some (.int .i32 sg.1) ∧ wr.cell? ⟨B + 1, 1, none⟩ = some (.int .i32 sg.2) ∧
    wr.frozen? ⟨B, 0, none⟩ = false ∧ wr.frozen? ⟨B, 1, none⟩ = false ∧ wr.frozen? ⟨B + 1, 0, none⟩ = false ∧ wr.frozen? ⟨B + 1, 1, none⟩ = false := by
  have h0 := h.res
  have h1 := h.signs
  refine ⟨?_, ?_, ?_, ?_, ?_, ?_, ?_, ?_⟩ <;> simp [World.cell?, World.frozen?, h0, h1]

theorem Lain.set0 {w wr : World} {B : Nat} {s : ByteArray} {a b : Int} {pos : Nat} (h : Lain w wr B s (a, b) pos) (x : Int) : Lain w (wr.setCell ⟨B + 1, 0, none⟩ (.int .i32 x)) B s (x, b) pos where
  res := by have := h.res; simp [World.setCell, Array.getElem?_modify, this]
  signs := by have := h.signs; simp [World.setCell, Array.getElem?_modify, this]
  iter := by have := h.iter; simp [World.setCell, Array.getElem?_modify, this]
  below := h.below.setCell (by show B ≤ B + 1; omega) _

theorem Lain.set1 {w wr : World} {B : Nat} {s : ByteArray} {a b : Int} {pos : Nat} (h : Lain w wr B s (a, b) pos) (x : Int) : Lain w (wr.setCell ⟨B + 1, 1, none⟩ (.int .i32 x)) B s (a, x) pos where
  res := by have := h.res; simp [World.setCell, Array.getElem?_modify, this]
  signs := by have := h.signs; simp [World.setCell, Array.getElem?_modify, this]
  iter := by have := h.iter; simp [World.setCell, Array.getElem?_modify, this]
  below := h.below.setCell (by show B ≤ B + 1; omega) _

theorem rune_stop {s : ByteArray} {k : Nat} (hk : HeadAt s k) (h : k < s.size) : ¬ (48 ≤ (Utf8.decode s k).1 ∧ (Utf8.decode s k).1 ≤ 57) := by
  by_cases ha : s[k].toNat < 128
  · rw [decode_ascii s k h ha]; exact hk.stop h
  · have := (decode_high s k h (by omega)).1
    omega

theorem rune_digit {s : ByteArray} {k : Nat} (hk : HeadAt s k) {pos : Nat} (h : pos < s.size) (hp : pos < k) : (Utf8.decode s pos).2 = 1 ∧ 48 ≤ (Utf8.decode s pos).1 ∧ (Utf8.decode s pos).1 ≤ 57 := by
  obtain ⟨d1, d2⟩ := hk.dig pos h hp
  rw [decode_ascii s pos h (by omega)]
  exact ⟨rfl, d1, d2⟩

/-- The result's block, written and read. -/
theorem out_cells {w wr : World} {B : Nat} {s : ByteArray} {sg : Int × Int} {pos : Nat} (h : Lain w wr B s sg pos) (a b : Int) :
    (((wr.setCell ⟨B, 0, none⟩ (.int .i32 a)).setCell ⟨B, 1, none⟩ (.int .i32 b)).drew).cell? ⟨B, 0, none⟩ = some (.int .i32 a) ∧
    (((wr.setCell ⟨B, 0, none⟩ (.int .i32 a)).setCell ⟨B, 1, none⟩ (.int .i32 b)).drew).cell? ⟨B, 1, none⟩ = some (.int .i32 b) ∧
    Below B w (((wr.setCell ⟨B, 0, none⟩ (.int .i32 a)).setCell ⟨B, 1, none⟩ (.int .i32 b)).drew) := by
  have h0 := h.res
  refine ⟨?_, ?_, ?_⟩
  · show ((wr.setCell ⟨B, 0, none⟩ (.int .i32 a)).setCell ⟨B, 1, none⟩ (.int .i32 b)).cell? ⟨B, 0, none⟩ = _
    simp [World.cell?, World.setCell, Array.getElem?_modify, h0]
  · show ((wr.setCell ⟨B, 0, none⟩ (.int .i32 a)).setCell ⟨B, 1, none⟩ (.int .i32 b)).cell? ⟨B, 1, none⟩ = _
    simp [World.cell?, World.setCell, Array.getElem?_modify, h0]
  · exact ((h.below.setCell (Nat.le_refl _) _).setCell (Nat.le_refl _) _).trans ⟨rfl, rfl, rfl, Nat.le_refl _, fun _ _ => rfl⟩

set_option maxRecDepth 100000 in
set_option maxHeartbeats 1600000 in
theorem impl_cut (s : ByteArray) (_hs : s.size ≤ 1048576) (k : Nat) (hk : HeadAt s k) (w : World) :
    Calls Tryd.prog 41 #[.string s] w fun e w' => ((∃ (d : ByteArray) (a b : Int), e = .returned (.tuple #[.string d, .agg #[.int .i32 a, .int .i32 b], .bool false]) ∧ cutAt s k = none) ∨ (∃ a b : Int, e = .returned (.tuple #[.string (s.extract 0 k), .agg #[.int .i32 a, .int .i32 b], .bool true]) ∧ cutAt s k = some (a, b))) ∧ Below w.heap.size w w' := by
  have HK := Lib.hid hk
  have hle := hk.le
  clear hk
  go_enter Tryd.func41, Tryd.ntmps41
  go_wp2
  go_loopw [5, 7] (fun d h wr => ∃ (n : Nat) (dg : ByteArray) (sg : Int × Int) (pos : Nat), d = .string dg ∧ h = .int .i64 n ∧ Cut s k n dg sg pos ∧ Lain w wr w.heap.size s sg pos) (fun _ _ wr => s.size - wr.iterPos (w.heap.size + 2))
  case atStart => exact ⟨0, s, (-1, -1), 0, rfl, rfl, .zero 0 (Nat.zero_le _), lain_start w s⟩
  case round =>
    obtain ⟨n, dg, sg, pos, rfl, rfl, hcut, hlain⟩ := hrel
    have HC := Lib.hid hcut
    have HL := Lib.hid hlain
    have hit := hlain.iter
    have hpos := Lib.hid (iterPos_of hit)
    clear hcut hlain
    generalize hB : w.heap.size = B at *
    by_cases hp : pos < s.size
    · have hnx : ∀ ty, (Instr.next (.pointer (some ⟨B + 2, 0, none⟩)) true ty).run Tryd.prog wr = _ := fun ty => Lib.run_next_any_at wr (B + 2) s pos ty hit hp
      have hwd := width_pos hp
      have hL2 := HL.out.next (pos + (Utf8.decode s pos).2)
      have HP2 := Lib.hid (iterPos_of hL2.iter)
      generalize wr.iterAt (B + 2) s (pos + (Utf8.decode s pos).2) = W2 at *
      have HL2 := Lib.hid hL2
      obtain ⟨c0, c1, c2, c3, f0, f1, f2, f3⟩ := hL2.facts
      clear hL2 hit
      generalize n = n' at *
      have hcut := HC.out
      cases hcut with
      | zero _ h0 =>
        by_cases hpk : pos < k
        · obtain ⟨g0, g1, g2⟩ := rune_digit HK.out hp hpk
          go_wp2
          refine ⟨⟨0, s, (-1, -1), _, rfl, rfl, .zero (pos + (Utf8.decode s pos).2) (by omega), HL2.out⟩, ?_⟩
          rw [hpos.out, HP2.out]
          omega
        · have e : pos = k := by omega
          subst e
          have g := rune_stop HK.out hp
          by_cases g1 : 48 ≤ (Utf8.decode s pos).1
          · have g2 : 57 < (Utf8.decode s pos).1 := by omega
            clear g
            go_wp2
            have hL3 := HL2.out.set0 ((Utf8.decode s pos).1 : Int)
            refine ⟨⟨1, _, _, _, rfl, rfl, .one hp, hL3⟩, ?_⟩
            rw [hpos.out, iterPos_of hL3.iter]
            omega
          · clear g
            go_wp2
            have hL3 := HL2.out.set0 ((Utf8.decode s pos).1 : Int)
            refine ⟨⟨1, _, _, _, rfl, rfl, .one hp, hL3⟩, ?_⟩
            rw [hpos.out, iterPos_of hL3.iter]
            omega
      | one h0 =>
        go_wp2
        have hL3 := HL2.out.set1 ((Utf8.decode s (k + (Utf8.decode s k).2)).1 : Int)
        refine ⟨⟨2, _, _, _, rfl, rfl, .two h0 hp, hL3⟩, ?_⟩
        rw [hpos.out, iterPos_of hL3.iter]
        omega
      | two h0 h1 =>
        go_wp2
        go_region
        go_wp2
        obtain ⟨o0, o1, o2⟩ := out_cells HL2.out ((Utf8.decode s k).1 : Int) ((Utf8.decode s (k + (Utf8.decode s k).2)).1 : Int)
        generalize ((W2.setCell ⟨B, 0, none⟩ (.int .i32 ((Utf8.decode s k).1 : Int))).setCell ⟨B, 1, none⟩ (.int .i32 ((Utf8.decode s (k + (Utf8.decode s k).2)).1 : Int))).drew = W3 at *
        simp [bodyPost, results, Tryd.results41, go_sem, o0, o1]
        exact ⟨cut_more h0 h1 hp, hB.symm ▸ o2⟩
    · have hnx : ∀ ty, (Instr.next (.pointer (some ⟨B + 2, 0, none⟩)) true ty).run Tryd.prog wr = _ := fun ty => Lib.run_next_end_at wr (B + 2) s pos ty hit hp
      obtain ⟨c0, c1, c2, c3, f0, f1, f2, f3⟩ := HL.out.facts
      go_wp2
      go_region
      go_wp2
      obtain ⟨o0, o1, o2⟩ := out_cells HL.out sg.1 sg.2
      generalize ((wr.setCell ⟨B, 0, none⟩ (.int .i32 sg.1)).setCell ⟨B, 1, none⟩ (.int .i32 sg.2)).drew = W3 at *
      simp [bodyPost, results, Tryd.results41, go_sem, o0, o1]
      obtain ⟨e1, e2⟩ := HC.out.done hle hp
      exact ⟨⟨_, _, ⟨e1, rfl, rfl⟩, e2⟩, hB.symm ▸ o2⟩
end Go.Proofs.YtafbcohlbhblfabDoor
