/-
  What is proved: the program's copyTrees and copyTree lay the same trees into new memory.
-/
import Derived.Test.YtmbjmjbljnlifaaDoorCopy
namespace Go.Proofs.YtmbjmjbljnlifaaDoor
open Go Go.RowKit

/-! ### A node copied whole -/

/-- The block of what a function was handed, and the block of what it answers. -/
structure CBox (w wr : World) (t : TypeId) (a b c d e : Value) : Prop where
  below : Below w.heap.size w wr
  size : w.heap.size + 2 ≤ wr.heap.size
  box : wr.heap[w.heap.size]? = some (.cells #[a, b, c, d, e] t (0, 0))
  res : wr.heap[w.heap.size + 1]? = some (.cells #[.int .i64 0, .int .i64 0, .string ⟨#[]⟩, .slice none 0 0, .slice none 0 0] 28 (0, 0))

theorem CBox.start (w : World) (t : TypeId) (a b c d e : Value) : CBox w ((w.alloc (.cells #[a, b, c, d, e] t)).alloc (.cells #[.int .i64 0, .int .i64 0, .string ⟨#[]⟩, .slice none 0 0, .slice none 0 0] 28)) t a b c d e where
  below := ((Below.refl _ w).alloc (Nat.le_refl _) _).alloc (by simp) _
  size := by simp
  box := (Below.heap_alloc _ _ _ (by simp)).trans (heap_last w _)
  res := by
    have := heap_last (w.alloc (.cells #[a, b, c, d, e] t)) (.cells #[.int .i64 0, .int .i64 0, .string ⟨#[]⟩, .slice none 0 0, .slice none 0 0] 28)
    simpa using this

theorem CBox.next {w wr w1 : World} {t : TypeId} {a b c d e : Value} (h : CBox w wr t a b c d e) (hb : Below wr.heap.size wr w1) : CBox w w1 t a b c d e where
  below := h.below.trans (hb.mono h.below.size)
  size := Nat.le_trans h.size hb.size
  box := (hb.block _ (by have := h.size; omega)).trans h.box
  res := (hb.block _ (by have := h.size; omega)).trans h.res

theorem below_of_grown {w w' : World} (h : w.grownBy w' none) : Below w.heap.size w w' := ⟨h.os, h.tape, h.output, h.size, fun k hk => h.block k hk (by simp)⟩

/-- The texts that an append onto nothing has laid. -/
theorem strs_of_owns {w wr : World} {base g cap : Nat} {ks : List ByteArray} {t : TypeId} (hn : 0 < ks.length) (hs : ∀ i (h : i < ks.length), ks[i].size ≤ maxLen) (hb : w.heap.size ≤ base) (h : wr.ownsRow base t 1 (.slice (some ⟨g, 0, none⟩) (0 + ks.length) cap) (0 + ks.length) ([] ++ ks.map .string)) :
    StrsAt wr (.slice (some ⟨g, 0, none⟩) ks.length cap) ks [g] ∧ Fresh w wr [g] := by
  rcases h.2 with ⟨h0, _⟩ | ⟨g', cap', cur, hv, hg, hh, hnc, hcm, hsz, htk⟩
  · cases h0
  · injection hv with e1 e2 e3
    injection e1 with e1
    injection e1 with e1
    subst e1 e3
    refine ⟨⟨_, _, g, 0, rfl, by omega, hcm, fun _ => rfl, by rw [if_neg (by omega)], fun i hi => ⟨?_, hs i hi⟩, room_of hh (by omega)⟩, ⟨by simp, fun b hb' => by simp at hb'; omega, fun b hb' o => by simp at hb'; subst hb'; simp [World.frozen?, hh]⟩⟩
    rw [Nat.zero_add, cell_of hh]
    have h1 : (cur.toList.take ((0 + ks.length) * 1))[i]? = (([] ++ ks.map Value.string) : List Value)[i]? := by rw [htk]
    rw [List.getElem?_take_of_lt (by omega)] at h1
    simpa [List.getElem?_eq_getElem hi] using h1

theorem app_nothing_ty (ty : TypeId) (w : World) (bo ko : Option Addr) (bc kc : Nat) : (Builtin.append_ #[25, 25] ty #[.slice bo 0 bc, .slice ko 0 kc]).run Tryd.prog w = .ok (.slice bo 0 bc) w := by
  obtain ⟨i, hi, hzz⟩ := Option.map_eq_some_iff.1 info_string
  have hs : Src Tryd.prog i.size 25 (.slice ko 0 kc) 0 [] w := by
    cases ko with
    | none => exact Src.ofNil w Tryd.underlying25 kc
    | some a => exact Src.ofSlice w Tryd.underlying25 a 0 kc [] (by simp) (fun j u h => by simp at h) (fun u h => by simp at h)
  exact run_append_nothing w 25 25 ty 9 i Tryd.underlying25 hi bo 0 bc (Nat.zero_le _) _ hs

/-- Nothing is appended, at a step of a region that draws its order. -/
theorem step_append_nothing {ops : Array Oper} {o : Oper} {a : Act} {w : World} {K : Act → World → Prop} {Q : Exit → Act → World → Prop} {E : Prop} (hgd : o.guard = none) (s x : Operand)
    (ho : o.op = .call { callee := .builtin .append, args := #[s, x], argTypes := #[25, 25] }) (bo ko : Option Addr) (bc kc : Nat) (hs : a.eval s = .slice bo 0 bc) (hx : a.eval x = .slice ko 0 kc)
    (h : K (a.put o.dst (.slice bo 0 bc)) w) : if Region.wanted o (yielded ops a.tmps) = true then Oper.wp Tryd.prog o a w K Q else E := by
  have hw : Region.wanted o (yielded ops a.tmps) = true := by simp [Region.wanted, hgd]
  rw [if_pos hw]
  unfold Oper.wp execOp
  simp only [ho, resolve, invoke, builtin, Sem.run_bind, Sem.run_pure, Result.andThen_ok, List.map_toArray, List.map_cons, List.map_nil, hs, hx, app_nothing_ty]
  exact h

/-- What is answered: the node stored whole into its block. -/
theorem copy_fin {w wr : World} {t : TypeId} {a b c d e : Value} (hx : CBox w wr t a b c d e) {k n : Int} {s : ByteArray} {keys : List ByteArray} {kids : List RT} {kv dv : Value} {FK FD : List Nat} (hfit : Fit k ∧ Fit n ∧ s.size ≤ maxLen)
    (hK : StrsAt wr kv keys FK) (hD : KidsLie wr dv kids FD) (hf : Fresh w wr (FK ++ FD)) (h2 : ∀ x ∈ FK ++ FD, w.heap.size + 2 ≤ x) :
    (set5 wr (w.heap.size + 1) 0 (.int .i64 k) (.int .i64 n) (.string s) kv dv).heap[w.heap.size + 1]? = some (.cells #[.int .i64 k, .int .i64 n, .string s, kv, dv] 28 (0, 0)) ∧
    Lies (set5 wr (w.heap.size + 1) 0 (.int .i64 k) (.int .i64 n) (.string s) kv dv) (.node k n s keys kids) kv dv (FK ++ FD) ∧ Fresh w (set5 wr (w.heap.size + 1) 0 (.int .i64 k) (.int .i64 n) (.string s) kv dv) (FK ++ FD) ∧
    Below w.heap.size w (set5 wr (w.heap.size + 1) 0 (.int .i64 k) (.int .i64 n) (.string s) kv dv) := by
  have keep : ∀ x ∈ FK ++ FD, (set5 wr (w.heap.size + 1) 0 (.int .i64 k) (.int .i64 n) (.string s) kv dv).heap[x]? = wr.heap[x]? := fun x hxm => set5_other _ _ _ _ _ _ _ _ _ (by have := h2 x hxm; omega)
  exact ⟨set5_end hx.res _ _ _ _ _, Lies.into hfit.1 hfit.2.1 hfit.2.2 (hK.carry fun x hxm => keep x (List.mem_append_left _ hxm)) (hD.carry fun x hxm => keep x (List.mem_append_right _ hxm)), hf.carry keep, set5_below hx.below (by omega) _ _ _ _ _ _⟩

theorem whole_set5 {w wr : World} {t : TypeId} {q : Nat} {v : Value} (h : Whole wr (w.heap.size + 2) t q v) (a b c d e : Value) : Whole (set5 wr (w.heap.size + 1) 0 a b c d e) w.heap.size t q v :=
  h.carry (by omega) fun x hx _ => set5_other _ _ _ _ _ _ _ _ _ (by omega)

theorem strs_nil (w : World) (o : Option Addr) : StrsAt w (.slice o 0 0) [] [] := ⟨o, 0, 0, 0, rfl, Nat.zero_le _, Nat.zero_le _, fun h => absurd h (by simp), rfl, fun i hi => absurd hi (by simp), Room.nil _ _ _⟩

end Go.Proofs.YtmbjmjbljnlifaaDoor
