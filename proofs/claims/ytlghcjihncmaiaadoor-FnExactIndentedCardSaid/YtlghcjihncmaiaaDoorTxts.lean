/-
  What is proved: plain facts on texts that are laid one behind the other by append, and on strings.Join of them.
-/
import Derived.Test.YtlghcjihncmaiaaDoorTreeTo
import Derived.Test.YtlghcjihncmaiaaDoorQuoteS
import Derived.Test.YtlghcjihncmaiaaDoorShelf
import Derived.Laws.AppendOwn
import Derived.Laws.OwnMore
import Derived.Maps.AppendAt
import Derived.Deep.AppendLies
namespace Go.Proofs.YtlghcjihncmaiaaDoor
open Go Go.RowKit

/-- The texts l, in a row that was made since w. -/
def Txts (w wr : World) (v : Value) (l : List ByteArray) : Prop := wr.ownsRow w.heap.size 9 1 v l.length (l.map Value.string)

section
variable {w wr w1 : World} {v : Value} {l : List ByteArray}

theorem Txts.nil (w wr : World) : Txts w wr (.slice none 0 0) [] := ⟨rfl, .inl ⟨rfl, rfl⟩⟩

theorem Txts.slice (h : Txts w wr v l) : ∃ o c, v = .slice o l.length c := by
  rcases h.2 with ⟨rfl, h0⟩ | ⟨g, cap, cur, rfl, _⟩
  · exact ⟨none, 0, by rw [h0]⟩
  · exact ⟨_, _, rfl⟩

theorem Txts.form (h : Txts w wr v l) (h0 : 0 < l.length) : ∃ g c, v = .slice (some ⟨g, 0, none⟩) l.length c ∧ l.length ≤ c ∧ c ≤ maxLen ∧ w.heap.size ≤ g ∧ g < wr.heap.size := by
  rcases h.2 with ⟨rfl, e0⟩ | ⟨g, cap, cur, rfl, hg, hc, h1, h2, _⟩
  · omega
  · exact ⟨g, cap, rfl, h1, h2, hg, (Array.getElem?_eq_some_iff.1 hc).1⟩

theorem Txts.on (h : Txts w wr v l) (hb : Below wr.heap.size wr w1) : Txts w w1 v l :=
  World.ownsRow.kept (row := none) h ⟨hb.os, hb.tape, hb.output, hb.size, fun k hk _ => hb.block k hk⟩ (by
    rcases v.ownBlock with _ | k
    · exact .inl rfl
    · exact .inr (by simp))

theorem Txts.early {wa : World} (h : Txts wa wr v l) (hs : w.heap.size ≤ wa.heap.size) : Txts w wr v l := by
  refine ⟨h.1, ?_⟩
  rcases h.2 with h2 | ⟨g, cap, cur, hv, hg, r⟩
  · exact .inl h2
  · exact .inr ⟨g, cap, cur, hv, by omega, r⟩

/-- One text more. -/
theorem Txts.more (h : Txts w wr v l) (hs : w.heap.size ≤ wr.heap.size) (b : ByteArray) (hl : l.length < 1000000000) (ty : TypeId) :
    ∃ v' w', (Builtin.append_ #[22, 22] ty #[v, .slice (some ⟨wr.heap.size, 0, none⟩) 1 1]).run Tryd.prog (wr.alloc (.cells #[.string b] 9)) = .ok v' w' ∧
      ∃ o' c', v' = .slice o' (l.length + 1) c' ∧ Txts w w' (.slice o' (l.length + 1) c') (l ++ [b]) ∧ Below w.heap.size wr w' := by
  obtain ⟨i0, hi0, hz0, hz1, hz2⟩ := info_parts info_string
  have hba := (Below.refl wr.heap.size wr).alloc (Nat.le_refl _) (.cells #[.string b] 9)
  have hlast : (wr.alloc (.cells #[.string b] 9)).heap[wr.heap.size]? = some (.cells #[.string b] 9 (0, 0)) := by show (wr.heap.push _)[wr.heap.size]? = _; simp
  have hown := World.ownsRow.alloc h (.cells #[.string b] 9)
  obtain ⟨v', w', hr, h2, h3, -, -⟩ := run_append_own_at (P := Tryd.prog) (wr.alloc (.cells #[.string b] 9)) w.heap.size 22 ty 9 i0 _ 1 16 Tryd.underlying22 hi0 hz0 hz1 hz2 rfl (by decide) v l.length (l.map Value.string) hown
    ⟨wr.heap.size, 0, none⟩ 1 1 [.string b] rfl (World.news_of_block hlast) (by simp [Value.oneCell']) (by unfold maxLen; omega) (by omega) (by have := hba.size; omega)
  have hb : Txts w w' v' (l ++ [b]) := by
    unfold Txts
    rw [List.length_append, List.map_append]
    exact h2
  obtain ⟨o', c', rfl⟩ := hb.slice
  rw [List.length_append, List.length_singleton] at hb hr
  refine ⟨_, w', hr, o', c', rfl, hb, h3.os.trans hba.os, h3.tape.trans hba.tape, h3.output.trans hba.output, Nat.le_trans hba.size h3.size, fun k hk => (h3.block k (by have := hba.size; omega) (fun e => ?_)).trans (hba.block k (by omega))⟩
  have := (World.ownsRow.lt hown k e.symm).1
  omega

theorem Txts.cell {g c : Nat} (h : Txts w wr (.slice (some ⟨g, 0, none⟩) l.length c) l) (j : Nat) (x : ByteArray) (hx : l[j]? = some x) : wr.cell? ⟨g, j, none⟩ = some (.string x) := by
  have hj : j < l.length := (List.getElem?_eq_some_iff.1 hx).1
  rw [World.ownsRow.cellAt h j (by omega), List.getElem?_map, hx]; rfl

/-- One of them put anew. -/
theorem Txts.put {g c : Nat} (h : Txts w wr (.slice (some ⟨g, 0, none⟩) l.length c) l) (j : Nat) (x : ByteArray) : Txts w (wr.setCell ⟨g, j, none⟩ (.string x)) (.slice (some ⟨g, 0, none⟩) l.length c) (l.set j x) := by
  have := (World.ownsRow.stored h j (.string x)).1
  unfold Txts
  rw [List.length_set, List.map_set]
  exact this

theorem Txts.free {g c : Nat} (h : Txts w wr (.slice (some ⟨g, 0, none⟩) l.length c) l) (j : Nat) : wr.frozen? ⟨g, j, none⟩ = false := World.ownsRow.frozenAt h j
end

/-- strings.Join of such a row, with a comma between. -/
theorem join_row {w wr : World} {v : Value} {l : List ByteArray} (h : Txts w wr v l) (hn : l.length ≤ 1000000) (hl : (Lib.join (l.map (·.data.toList)) [44]).length ≤ 1000000000) :
    Calls Tryd.prog 53 #[v, .string ⟨#[44]⟩] wr fun e w' => e = .returned (.string ⟨(Lib.join (l.map (·.data.toList)) [44]).toArray⟩) ∧ Below wr.heap.size wr w' := by
  by_cases h0 : 0 < l.length
  · obtain ⟨g, c, rfl, h1, h2, h3, h4⟩ := h.form h0
    exact Tryd.strings_Join g 0 c l ⟨#[44]⟩ wr (fun j x hx => by rw [Nat.zero_add]; exact h.cell j x hx) h4 (by omega) h1 (by show (Lib.join (l.map (·.data.toList)) [44]).length ≤ _; omega)
  · have : l = [] := List.length_eq_zero_iff.1 (by omega)
    subst this
    obtain ⟨o, c, rfl⟩ := h.slice
    exact (Tryd.strings_Join_none o c ⟨#[44]⟩ wr).mono fun e w' ⟨he, hw⟩ => ⟨by rw [he]; rfl, hw ▸ Below.refl _ _⟩
end Go.Proofs.YtlghcjihncmaiaaDoor
