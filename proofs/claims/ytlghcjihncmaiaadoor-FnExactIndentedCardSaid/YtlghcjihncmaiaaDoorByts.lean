/-
  What is proved: plain facts on bytes that are laid one behind the other by append, and on the text that they become.
-/
import Derived.Test.YtlghcjihncmaiaaDoorRows
import Derived.Below
import Derived.WalkKit
import Derived.Lib.Hide
import Derived.Laws.AppendOwn
import Derived.Laws.OwnMore
import Derived.Laws.IdiomStrings
import Derived.Maps.AppendAt
import Derived.Maps.Range
import Derived.Deep.OwnRows
import Derived.Deep.Slices
import Derived.Deep.AppendLies
namespace Go.Proofs.YtlghcjihncmaiaaDoor
open Go Go.RowKit

theorem info_u8 : (Tryd.prog.info? 5).map (fun i => (i.zero, i.size, i.bytes)) = some (some (.int .u8 0), 1, 1) := by kernel_rfl

def byteV (b : UInt8) : Value := .int .u8 b.toNat
def byteVs (l : List UInt8) : List Value := l.map byteV

/-- The bytes l, in a row that was made since w. -/
def Byts (w wr : World) (v : Value) (l : List UInt8) : Prop := wr.ownsRow w.heap.size 5 1 v l.length (byteVs l)

section
variable {w wr w1 : World} {v : Value} {l : List UInt8}

theorem Byts.slice (h : Byts w wr v l) : ∃ o c, v = .slice o l.length c := by
  rcases h.2 with ⟨rfl, h0⟩ | ⟨g, cap, cur, rfl, _⟩
  · exact ⟨none, 0, by rw [h0]⟩
  · exact ⟨_, _, rfl⟩

theorem Byts.start (hs : w.heap.size ≤ wr.heap.size) : Byts w (wr.alloc (.cells #[] 5)) (.slice (some ⟨wr.heap.size, 0, none⟩) 0 0) [] :=
  ⟨rfl, .inr ⟨wr.heap.size, 0, #[], rfl, hs, by show (wr.heap.push _)[wr.heap.size]? = _; simp, Nat.le_refl _, Nat.zero_le _, rfl, rfl⟩⟩

theorem Byts.one (hs : w.heap.size ≤ wr.heap.size) (b : UInt8) : Byts w (wr.alloc (.cells #[.int .u8 b.toNat] 5)) (.slice (some ⟨wr.heap.size, 0, none⟩) 1 1) [b] :=
  ⟨rfl, .inr ⟨wr.heap.size, 1, #[.int .u8 b.toNat], rfl, hs, by show (wr.heap.push _)[wr.heap.size]? = _; simp, Nat.le_refl _, by unfold maxLen; omega, rfl, rfl⟩⟩

/-- The row is kept by whatever turns only a block that was there before. -/
theorem Byts.kept {p : Nat} (h : Byts w wr v l) (hp : p < w.heap.size) (hg : wr.grownBy w1 (some p)) : Byts w w1 v l := by
  refine World.ownsRow.kept h hg ?_
  rcases hb : v.ownBlock with _ | k
  · exact .inl rfl
  · refine .inr fun e => ?_
    have h1 := (World.ownsRow.lt h k hb).1
    injection e with e
    omega

theorem Byts.on (h : Byts w wr v l) (hb : Below wr.heap.size wr w1) : Byts w w1 v l :=
  World.ownsRow.kept (row := none) h ⟨hb.os, hb.tape, hb.output, hb.size, fun k hk _ => hb.block k hk⟩ (by
    rcases v.ownBlock with _ | k
    · exact .inl rfl
    · exact .inr (by simp))

/-- One byte more. -/
theorem Byts.more (h : Byts w wr v l) (hs : w.heap.size ≤ wr.heap.size) (b : UInt8) (hl : l.length < 1099511627776) (ty : TypeId) :
    ∃ v' w', (Builtin.append_ #[41, 41] ty #[v, .slice (some ⟨wr.heap.size, 0, none⟩) 1 1]).run Tryd.prog (wr.alloc (.cells #[.int .u8 b.toNat] 5)) = .ok v' w' ∧
      ∃ o' c', v' = .slice o' (l.length + 1) c' ∧ Byts w w' (.slice o' (l.length + 1) c') (l ++ [b]) ∧ Below w.heap.size wr w' := by
  obtain ⟨i0, hi0, hz0, hz1, hz2⟩ := info_parts info_u8
  have hba := (Below.refl wr.heap.size wr).alloc (Nat.le_refl _) (.cells #[.int .u8 b.toNat] 5)
  have hlast : (wr.alloc (.cells #[.int .u8 b.toNat] 5)).heap[wr.heap.size]? = some (.cells #[.int .u8 b.toNat] 5 (0, 0)) := by show (wr.heap.push _)[wr.heap.size]? = _; simp
  have hown := World.ownsRow.alloc h (.cells #[.int .u8 b.toNat] 5)
  obtain ⟨v', w', hr, h2, h3, -, -⟩ := run_append_own_at (P := Tryd.prog) (wr.alloc (.cells #[.int .u8 b.toNat] 5)) w.heap.size 41 ty 5 i0 _ 1 1 Tryd.underlying41 hi0 hz0 hz1 hz2 rfl (by decide) v l.length (byteVs l) hown
    ⟨wr.heap.size, 0, none⟩ 1 1 [.int .u8 b.toNat] rfl (World.news_of_block hlast) (by simp [Value.oneCell']) (by unfold maxLen; omega) (by omega) (by have := hba.size; omega)
  have hb : Byts w w' v' (l ++ [b]) := by
    unfold Byts byteVs
    rw [List.length_append, List.map_append]
    exact h2
  obtain ⟨o', c', rfl⟩ := hb.slice
  rw [List.length_append, List.length_singleton] at hb hr
  refine ⟨_, w', hr, o', c', rfl, hb, h3.os.trans hba.os, h3.tape.trans hba.tape, h3.output.trans hba.output, Nat.le_trans hba.size h3.size, fun k hk => (h3.block k (by have := hba.size; omega) (fun e => ?_)).trans (hba.block k (by omega))⟩
  have := (World.ownsRow.lt hown k e.symm).1
  omega

theorem push_all : (l : List UInt8) → (r : ByteArray) → (l.map (fun b : UInt8 => ((b.toNat : Nat) : Int))).foldl (fun (r : ByteArray) (n : Int) => r.push (UInt8.ofNat n.toNat)) r = ⟨r.data ++ l.toArray⟩
  | [], r => by simp
  | b :: l, r => by
    rw [List.map_cons, List.foldl_cons, push_all l]
    have : UInt8.ofNat ((b.toNat : Int)).toNat = b := by simp
    rw [this]
    simp [ByteArray.push]

/-- The text that they become. -/
theorem Byts.text (h : Byts w wr v l) : (convert 41 9 v).run Tryd.prog wr = .ok (.string ⟨l.toArray⟩) wr := by
  obtain ⟨o, c, rfl⟩ := h.slice
  rw [run_convert_bytes_string _ 41 9 5 _ _ _ Tryd.underlying41 Tryd.underlying5 Tryd.underlying9]
  cases o with
  | none =>
    rcases h.2 with ⟨e, h0⟩ | ⟨g, cap, cur, e, _⟩
    · have : l = [] := List.length_eq_zero_iff.1 h0
      subst this
      rfl
    · cases e
  | some ad =>
    have hg : (Value.slice (some ad) l.length c).ownBlock = some ad.block := rfl
    have had : ad = ⟨ad.block, 0, none⟩ := by
      rcases h.2 with ⟨e, _⟩ | ⟨g, cap, cur, e, _⟩
      · cases e
      · injection e with e1
        have := Option.some.inj e1
        rw [this]
    have hc := World.ownsRow.cells h hg
    have hl := run_loadCells_list (P := Tryd.prog) wr ad (byteVs l) (fun j u hu => by rw [had]; exact hc j u hu)
    rw [show (byteVs l).length = l.length by simp [byteVs]] at hl
    have hm : byteVs l = (l.map (fun b : UInt8 => ((b.toNat : Nat) : Int))).map (Value.int .u8) := by simp [byteVs, byteV]
    rw [hm] at hl
    rw [run_bytesToString _ _ _ _ _ hl, push_all]
    simp
end
end Go.Proofs.YtlghcjihncmaiaaDoor
