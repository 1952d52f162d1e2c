/-
  What is proved: for any text the program's TextOk answers as the model's TextOk does: at most 400 bytes, each from 32 to 126.; plain facts on trees as they lie in memory: which blocks a tree lies in, and that it lies there still in every world that has these blocks as they were.; the laws' eqStringS, eqNodeS and eqNode tell whether two lists of texts, two lists of trees, two trees are the same.; the program's keysOk and the model's l3Keys answer the same of every list of texts: each is TextOk, and they ascend.; how much of a room the laws take a list of texts, a list of trees, and a tree for: less what it holds, or -1 where that is more.; the laws' toStringS, toNodeS and toNode lay the same texts and trees into new memory.; where a key stands in a list of texts, and where it would come to stand: slices.Index and the program's placeOf; the model's l3At; the program's isMap.
-/
import Derived.Test.YtelpkcbbipianaaGreatRows
import Derived.Below
import Derived.WalkKit
import Derived.WalkSpells
import Derived.Lib.Hide
import Derived.Laws.Strings
import Derived.Deep.QuietTactic
import Derived.Deep.RegionWith
import Derived.BigQuiet
import Derived.Deep.RegionHeld3
import Derived.Deep.OwnRows
import Derived.Deep.Slices
/- for any text the program's TextOk answers as the model's TextOk does: at most 400 bytes, each from 32 to 126. -/
namespace Go.Proofs.YtelpkcbbipianaaGreat
open Go Go.RowKit

def okByte (b : UInt8) : Bool := decide (32 ≤ b.toNat) && decide (b.toNat ≤ 126)
def textOk (s : ByteArray) : Bool := decide (s.size ≤ 400) && s.data.toList.all okByte

theorem all_step {s : ByteArray} {k : Nat} (h : (s.data.toList.take k).all okByte = true) (hk : k < s.size) (h1 : 32 ≤ s[k].toNat) (h2 : s[k].toNat ≤ 126) : (s.data.toList.take (k + 1)).all okByte = true := by
  rw [List.take_succ_eq_append_getElem (by simpa using hk), List.all_append, h]
  have e : s.data.toList[k]'(by simpa using hk) = s[k] := rfl
  rw [e]
  simp [okByte, h1, h2]

theorem all_end {s : ByteArray} {k : Nat} (h : (s.data.toList.take k).all okByte = true) (hk : ¬ k < s.size) : s.data.toList.all okByte = true := by
  rwa [List.take_of_length_le (by simp only [Array.length_toList]; have : s.size = s.data.size := rfl; omega)] at h

theorem all_bad {s : ByteArray} {k : Nat} (hk : k < s.size) (h : ¬ (32 ≤ s[k].toNat ∧ s[k].toNat ≤ 126)) : textOk s = false := by
  have hm : s[k] ∈ s.data.toList := by
    have : s[k] = s.data.toList[k]'(by simpa using hk) := rfl
    rw [this]; exact List.getElem_mem _
  have : s.data.toList.all okByte = false := by
    rw [List.all_eq_false]
    refine ⟨_, hm, ?_⟩
    simp only [okByte, Bool.and_eq_true, decide_eq_true_eq]
    exact h
  simp [textOk, this]

set_option maxHeartbeats 400000 in
theorem spec_textOk (s : ByteArray) (hm : s.size ≤ maxLen) (w : World) :
    Calls Tryz.prog 48 #[.string s] w fun e w' => e = .returned (.bool (textOk s)) ∧ w' = w := by
  unfold maxLen at hm
  go_enter Tryz.func48, Tryz.ntmps48
  go_wp2
  go_loop [3] (fun i => ∃ k : Nat, k ≤ s.size ∧ i = .int .i64 k ∧ Hid ((s.data.toList.take k).all okByte = true)) (fun i => s.size - (intOf i).toNat)
  case atStart => exact ⟨0, Nat.zero_le _, rfl, rfl⟩
  case round =>
    obtain ⟨k, hk, rfl, hr⟩ := hrel
    by_cases hlt : k < s.size
    · by_cases h1 : 32 ≤ s[k].toNat
      · by_cases h2 : s[k].toNat ≤ 126
        · have HS := Lib.hid (all_step hr.out hlt h1 h2)
          go_wp2
          go_round
          case rel => exact ⟨k + 1, by omega, by go_num, HS.out⟩
          case measure => simp [intOf]; omega
        · have HN := Lib.hid (all_bad hlt (fun h => h2 h.2))
          go_wp2
          go_ret
          exact ⟨by rw [HN.out]; rfl, rfl⟩
      · have HN := Lib.hid (all_bad hlt (fun h => h1 h.1))
        go_wp2
        go_ret
        exact ⟨by rw [HN.out]; rfl, rfl⟩
    · have HE := Lib.hid (all_end hr.out hlt)
      go_wp2
      go_ret
      refine ⟨?_, rfl⟩
      unfold textOk
      rw [HE.out, Bool.and_true]
      refine congrArg (fun b => Ending.returned (.bool b)) ?_
      simp
      omega

set_option maxHeartbeats 400000 in
theorem impl_textOk (s : ByteArray) (hm : s.size ≤ maxLen) (w : World) :
    Calls Tryz.prog 66 #[.string s] w fun e w' => e = .returned (.bool (textOk s)) ∧ w' = w := by
  unfold maxLen at hm
  by_cases hs : s.size ≤ 400
  · have hs' : (s.size : Int) ≤ 400 := by omega
    go_enter Tryz.func66, Tryz.ntmps66
    go_wp2
    go_loop [9] (fun i => ∃ k : Nat, k ≤ s.size ∧ i = .int .i64 k ∧ Hid ((s.data.toList.take k).all okByte = true)) (fun i => s.size - (intOf i).toNat)
    case atStart => exact ⟨0, Nat.zero_le _, rfl, rfl⟩
    case round =>
      obtain ⟨k, hk, rfl, hr⟩ := hrel
      by_cases hlt : k < s.size
      · by_cases h1 : 32 ≤ s[k].toNat
        · by_cases h2 : s[k].toNat ≤ 126
          · have HS := Lib.hid (all_step hr.out hlt h1 h2)
            go_wp2
            go_round
            case rel => exact ⟨k + 1, by omega, by go_num, HS.out⟩
            case measure => simp [intOf]; omega
          · have HN := Lib.hid (all_bad hlt (fun h => h2 h.2))
            go_wp2
            go_ret
            exact ⟨by rw [HN.out]; rfl, rfl⟩
        · have HN := Lib.hid (all_bad hlt (fun h => h1 h.1))
          go_wp2
          go_ret
          exact ⟨by rw [HN.out]; rfl, rfl⟩
      · have HE := Lib.hid (all_end hr.out hlt)
        go_wp2
        go_ret
        refine ⟨?_, rfl⟩
        unfold textOk
        rw [HE.out, Bool.and_true, decide_eq_true hs]
        rfl
  · go_enter Tryz.func66, Tryz.ntmps66
    go_wp2
    go_ret
    refine ⟨?_, rfl⟩
    unfold textOk
    rw [decide_eq_false (p := s.size ≤ 400) (by omega), Bool.false_and]
    rfl

end Go.Proofs.YtelpkcbbipianaaGreat

/- plain facts on trees as they lie in memory: which blocks a tree lies in, and that it lies there still in every world that has these blocks as they were. -/
namespace Go.Proofs.YtelpkcbbipianaaGreat
open Go Go.RowKit

/-- A tree: its kind, its number, its text, its keys, its kids. -/
inductive RT where
  | node (k n : Int) (s : ByteArray) (keys : List ByteArray) (kids : List RT)

instance : Inhabited RT := ⟨.node 0 0 ByteArray.empty [] []⟩

def RT.k : RT → Int | .node k _ _ _ _ => k
def RT.n : RT → Int | .node _ n _ _ _ => n
def RT.s : RT → ByteArray | .node _ _ s _ _ => s
def RT.keys : RT → List ByteArray | .node _ _ _ l _ => l
def RT.kids : RT → List RT | .node _ _ _ _ l => l

theorem RT.eta (T : RT) : T = .node T.k T.n T.s T.keys T.kids := by cases T; rfl

mutual
theorem RT.ind_aux {p : RT → Prop} (h : ∀ k n s keys kids, (∀ t ∈ kids, p t) → p (.node k n s keys kids)) : (t : RT) → p t
  | .node k n s keys kids => h k n s keys kids (RT.ind_all h kids)
theorem RT.ind_all {p : RT → Prop} (h : ∀ k n s keys kids, (∀ t ∈ kids, p t) → p (.node k n s keys kids)) : (l : List RT) → ∀ t ∈ l, p t
  | [], _, ht => absurd ht (by simp)
  | x :: l, t, ht => by
    rcases List.mem_cons.1 ht with e | e
    · rw [e]; exact RT.ind_aux h x
    · exact RT.ind_all h l t e
end

theorem RT.ind {p : RT → Prop} (h : ∀ k n s keys kids, (∀ t ∈ kids, p t) → p (.node k n s keys kids)) (t : RT) : p t := RT.ind_aux h t

/-- A number of 64 bits. -/
def Fit (x : Int) : Prop := -9223372036854775808 ≤ x ∧ x ≤ 9223372036854775807

/-- A node's five cells, of which two lead on. -/
def RT.row (T : RT) (kv dv : Value) : List Value := [.int .i64 T.k, .int .i64 T.n, .string T.s, kv, dv]
/-- A node as one value. -/
def RT.val (T : RT) (kv dv : Value) : Value := .agg #[.int .i64 T.k, .int .i64 T.n, .string T.s, kv, dv]

/-- There are so many cells from here on. -/
def Room (w : World) (b off n : Nat) : Prop := ∀ i, i < n → (w.cell? ⟨b, off + i, none⟩).isSome = true

/-- The list of texts that v is, and the block it lies in, its spare room too. -/
def StrsAt (w : World) (v : Value) (ks : List ByteArray) (F : List Nat) : Prop :=
  ∃ (o : Option Addr) (cap b off : Nat), v = .slice o ks.length cap ∧ ks.length ≤ cap ∧ cap ≤ maxLen ∧ (0 < cap → o = some ⟨b, off, none⟩) ∧ F = (if cap = 0 then [] else [b]) ∧
    (∀ i (h : i < ks.length), w.cell? ⟨b, off + i, none⟩ = some (.string ks[i]) ∧ ks[i].size ≤ maxLen) ∧ Room w b off cap

/-- The tree T lies in w behind these two lists, in the blocks F. -/
inductive Lies (w : World) : RT → Value → Value → List Nat → Prop
  | mk (k n : Int) (s : ByteArray) (keys : List ByteArray) (kids : List RT) (kv : Value) (FK : List Nat) (o : Option Addr) (cap b off : Nat) (FF : Nat → List Nat) (KV DV : Nat → Value) :
    Fit k → Fit n → s.size ≤ maxLen → StrsAt w kv keys FK → kids.length ≤ cap → cap ≤ maxLen → (0 < cap → o = some ⟨b, off, none⟩) → Room w b off (cap * 5) →
    (∀ i (h : i < kids.length), ∀ j, j < 5 → w.cell? ⟨b, off + i * 5 + j, none⟩ = (kids[i].row (KV i) (DV i))[j]?) →
    (∀ i (h : i < kids.length), Lies w kids[i] (KV i) (DV i) (FF i)) →
    Lies w (.node k n s keys kids) kv (.slice o kids.length cap) (FK ++ ((if cap = 0 then [] else [b]) ++ (List.range kids.length).flatMap FF))

/-- A list of trees that lies in w. -/
def KidsLie (w : World) (dv : Value) (kids : List RT) (F : List Nat) : Prop :=
  ∃ (o : Option Addr) (cap b off : Nat) (FF : Nat → List Nat) (KV DV : Nat → Value), dv = .slice o kids.length cap ∧ kids.length ≤ cap ∧ cap ≤ maxLen ∧ (0 < cap → o = some ⟨b, off, none⟩) ∧
    F = (if cap = 0 then [] else [b]) ++ (List.range kids.length).flatMap FF ∧
    (∀ i (h : i < kids.length), ∀ j, j < 5 → w.cell? ⟨b, off + i * 5 + j, none⟩ = (kids[i].row (KV i) (DV i))[j]?) ∧
    (∀ i (h : i < kids.length), Lies w kids[i] (KV i) (DV i) (FF i)) ∧ Room w b off (cap * 5)

theorem Room.lt {w : World} {b off n : Nat} (h : Room w b off n) (hn : 0 < n) : b < w.heap.size := by
  have := h 0 hn
  obtain ⟨u, hu⟩ := Option.isSome_iff_exists.1 this
  exact World.block_lt_of_cell? _ _ hu

theorem Room.nil (w : World) (b off : Nat) : Room w b off 0 := fun i hi => absurd hi (by omega)

theorem Lies.out {w : World} {T : RT} {kv dv : Value} {F : List Nat} (h : Lies w T kv dv F) :
    Fit T.k ∧ Fit T.n ∧ T.s.size ≤ maxLen ∧ ∃ FK FD, StrsAt w kv T.keys FK ∧ KidsLie w dv T.kids FD ∧ F = FK ++ FD := by
  cases h with
  | mk k n s keys kids kv FK o cap b off FF KV DV h1 h2 h3 h4 h5 h6 h7 hr h8 h9 => exact ⟨h1, h2, h3, FK, _, h4, ⟨o, cap, b, off, FF, KV, DV, rfl, h5, h6, h7, rfl, h8, h9, hr⟩, rfl⟩

theorem Lies.outn {w : World} {k n : Int} {s : ByteArray} {keys : List ByteArray} {kids : List RT} {kv dv : Value} {F : List Nat} (h : Lies w (.node k n s keys kids) kv dv F) :
    Fit k ∧ Fit n ∧ s.size ≤ maxLen ∧ ∃ FK FD, StrsAt w kv keys FK ∧ KidsLie w dv kids FD ∧ F = FK ++ FD := h.out

theorem StrsAt.slice {w : World} {v : Value} {ks : List ByteArray} {F : List Nat} (h : StrsAt w v ks F) : ∃ o c, v = .slice o ks.length c := by
  obtain ⟨o', cap', _, _, rfl, _⟩ := h
  exact ⟨o', cap', rfl⟩

theorem KidsLie.slice {w : World} {v : Value} {kids : List RT} {F : List Nat} (h : KidsLie w v kids F) : ∃ o c, v = .slice o kids.length c := by
  obtain ⟨o', cap', _, _, _, _, _, rfl, _⟩ := h
  exact ⟨o', cap', rfl⟩

theorem Lies.slices {w : World} {T : RT} {kv dv : Value} {F : List Nat} (h : Lies w T kv dv F) : (∃ o c, kv = .slice o T.keys.length c) ∧ ∃ o c, dv = .slice o T.kids.length c := by
  cases h with
  | mk k n s keys kids kv FK o cap b off FF KV DV h1 h2 h3 h4 h5 h6 h7 hr h8 h9 =>
    obtain ⟨o', cap', _, _, rfl, _⟩ := h4
    exact ⟨⟨o', cap', rfl⟩, o, cap, rfl⟩

theorem Lies.into {w : World} {k n : Int} {s : ByteArray} {keys : List ByteArray} {kids : List RT} {kv dv : Value} {FK FD : List Nat} (h1 : Fit k) (h2 : Fit n) (h3 : s.size ≤ maxLen)
    (h4 : StrsAt w kv keys FK) (h5 : KidsLie w dv kids FD) : Lies w (.node k n s keys kids) kv dv (FK ++ FD) := by
  obtain ⟨o, cap, b, off, FF, KV, DV, rfl, g1, g2, g3, rfl, g4, g5, g6⟩ := h5
  exact .mk k n s keys kids kv FK o cap b off FF KV DV h1 h2 h3 h4 g1 g2 g3 g6 g4 g5

theorem ret_int {x y : Int} (h : x = y) : Ending.returned (.int .i64 x) = .returned (.int .i64 y) := by rw [h]
theorem ret_bool {x y : Bool} (h : x = y) : Ending.returned (.bool x) = .returned (.bool y) := by rw [h]

theorem bytes_ne {x y : ByteArray} (h : ¬ x = y) : (x.toList == y.toList) = false := by
  rw [beq_eq_false_iff_ne]
  intro e
  rw [ByteArray.toList_eq, ByteArray.toList_eq] at e
  exact h (ByteArray.ext (Array.toList_inj.1 e))

/-! ### From world to world -/

/-- The five cells of a node that lies in a row, read in a later world. -/
theorem kid_cells {w wr : World} {b o : Nat} {T : RT} {kv dv : Value} (hc : ∀ j, j < 5 → w.cell? ⟨b, o + j, none⟩ = (T.row kv dv)[j]?) (hb : Below w.heap.size w wr) :
    wr.cell? ⟨b, o, none⟩ = some (.int .i64 T.k) ∧ wr.cell? ⟨b, o + 1, none⟩ = some (.int .i64 T.n) ∧ wr.cell? ⟨b, o + 2, none⟩ = some (.string T.s) ∧ wr.cell? ⟨b, o + 3, none⟩ = some kv ∧ wr.cell? ⟨b, o + 4, none⟩ = some dv := by
  have h0 : w.cell? ⟨b, o + 0, none⟩ = some (.int .i64 T.k) := hc 0 (by omega)
  have hlt : b < w.heap.size := World.block_lt_of_cell? _ _ h0
  refine ⟨?_, ?_, ?_, ?_, ?_⟩
  · rw [hb.cell (by exact hlt)]; exact h0
  · rw [hb.cell (by exact hlt)]; exact hc 1 (by omega)
  · rw [hb.cell (by exact hlt)]; exact hc 2 (by omega)
  · rw [hb.cell (by exact hlt)]; exact hc 3 (by omega)
  · rw [hb.cell (by exact hlt)]; exact hc 4 (by omega)

theorem StrsAt.carry {w w' : World} {v : Value} {ks : List ByteArray} {F : List Nat} (h : StrsAt w v ks F) (hF : ∀ b ∈ F, w'.heap[b]? = w.heap[b]?) : StrsAt w' v ks F := by
  obtain ⟨o, cap, b, off, rfl, h1, h2, h3, rfl, h4, h5⟩ := h
  have hb : 0 < cap → w'.heap[b]? = w.heap[b]? := fun hc => hF b (by rw [if_neg (by omega)]; simp)
  refine ⟨o, cap, b, off, rfl, h1, h2, h3, rfl, fun i hi => ⟨?_, (h4 i hi).2⟩, fun i hi => ?_⟩
  · rw [World.cell?_of_block (w := w) (hb (by omega))]
    exact (h4 i hi).1
  · rw [World.cell?_of_block (w := w) (a := ⟨b, off + i, none⟩) (hb (by omega))]
    exact h5 i hi

theorem Lies.carry {w w' : World} {T : RT} {kv dv : Value} {F : List Nat} (h : Lies w T kv dv F) (hF : ∀ b ∈ F, w'.heap[b]? = w.heap[b]?) : Lies w' T kv dv F := by
  induction h with
  | mk k n s keys kids kv FK o cap b off FF KV DV h1 h2 h3 h4 h5 h6 h7 hr h8 h9 ih =>
    have hb : 0 < cap → w'.heap[b]? = w.heap[b]? := fun hc => hF b (by rw [if_neg (by omega)]; simp)
    refine .mk k n s keys kids kv FK o cap b off FF KV DV h1 h2 h3 (h4.carry fun c hc => hF c (by simp [hc])) h5 h6 h7 (fun i hi => ?_) (fun i hi j hj => ?_) (fun i hi => ih i hi fun c hc => hF c ?_)
    · rw [World.cell?_of_block (w := w) (a := ⟨b, off + i, none⟩) (hb (by omega))]
      exact hr i hi
    · rw [World.cell?_of_block (w := w) (hb (by omega))]
      exact h8 i hi j hj
    · exact List.mem_append_right _ (List.mem_append_right _ (List.mem_flatMap.2 ⟨i, List.mem_range.2 hi, hc⟩))

theorem KidsLie.carry {w w' : World} {dv : Value} {kids : List RT} {F : List Nat} (h : KidsLie w dv kids F) (hF : ∀ b ∈ F, w'.heap[b]? = w.heap[b]?) : KidsLie w' dv kids F := by
  obtain ⟨o, cap, b, off, FF, KV, DV, rfl, g1, g2, g3, rfl, g4, g5, g6⟩ := h
  have hb : 0 < cap → w'.heap[b]? = w.heap[b]? := fun hc => hF b (by rw [if_neg (by omega)]; simp)
  refine ⟨o, cap, b, off, FF, KV, DV, rfl, g1, g2, g3, rfl, fun i hi j hj => ?_, fun i hi => (g5 i hi).carry fun c hc => hF c ?_, fun i hi => ?_⟩
  · rw [World.cell?_of_block (w := w) (hb (by omega))]
    exact g4 i hi j hj
  · exact List.mem_append_right _ (List.mem_flatMap.2 ⟨i, List.mem_range.2 hi, hc⟩)
  · rw [World.cell?_of_block (w := w) (a := ⟨b, off + i, none⟩) (hb (by omega))]
    exact g6 i hi

theorem StrsAt.lt {w : World} {v : Value} {ks : List ByteArray} {F : List Nat} (h : StrsAt w v ks F) : ∀ b ∈ F, b < w.heap.size := by
  obtain ⟨o, cap, b, off, rfl, h1, h2, h3, rfl, h4, h5⟩ := h
  intro c hc
  split at hc
  · simp at hc
  · simp at hc
    subst hc
    exact h5.lt (by omega)

theorem Lies.lt {w : World} {T : RT} {kv dv : Value} {F : List Nat} (h : Lies w T kv dv F) : ∀ b ∈ F, b < w.heap.size := by
  induction h with
  | mk k n s keys kids kv FK o cap b off FF KV DV h1 h2 h3 h4 h5 h6 h7 hr h8 h9 ih =>
    intro c hc
    rcases List.mem_append.1 hc with hc | hc
    · exact h4.lt c hc
    · rcases List.mem_append.1 hc with hc | hc
      · split at hc
        · simp at hc
        · simp at hc
          subst hc
          exact hr.lt (by omega)
      · obtain ⟨i, hi, hc⟩ := List.mem_flatMap.1 hc
        exact ih i (List.mem_range.1 hi) c hc

theorem KidsLie.lt {w : World} {dv : Value} {kids : List RT} {F : List Nat} (h : KidsLie w dv kids F) : ∀ b ∈ F, b < w.heap.size := by
  have := (Lies.into (k := 0) (n := 0) (s := ByteArray.empty) (keys := []) (kv := .slice none 0 0) (FK := []) ⟨by decide, by decide⟩ ⟨by decide, by decide⟩ (by decide) ⟨none, 0, 0, 0, rfl, Nat.le_refl _, Nat.zero_le _, fun h => absurd h (by simp), rfl, fun i hi => absurd hi (by simp), Room.nil _ _ _⟩ h).lt
  simpa using this

theorem Lies.stay {w w' : World} {T : RT} {kv dv : Value} {F : List Nat} (h : Lies w T kv dv F) {B : Nat} (hb : Below B w w') (hB : w.heap.size ≤ B) : Lies w' T kv dv F :=
  h.carry fun b hF => hb.block b (Nat.lt_of_lt_of_le (h.lt b hF) hB)
theorem KidsLie.stay {w w' : World} {dv : Value} {kids : List RT} {F : List Nat} (h : KidsLie w dv kids F) {B : Nat} (hb : Below B w w') (hB : w.heap.size ≤ B) : KidsLie w' dv kids F :=
  h.carry fun b hF => hb.block b (Nat.lt_of_lt_of_le (h.lt b hF) hB)
theorem StrsAt.stay {w w' : World} {v : Value} {ks : List ByteArray} {F : List Nat} (h : StrsAt w v ks F) {B : Nat} (hb : Below B w w') (hB : w.heap.size ≤ B) : StrsAt w' v ks F :=
  h.carry fun b hF => hb.block b (Nat.lt_of_lt_of_le (h.lt b hF) hB)


/-! ### A node that a function was handed, in its block -/

theorem heap_last (w : World) (o : Obj) : (w.alloc o).heap[w.heap.size]? = some o := by
  show (w.heap.push o)[w.heap.size]? = _
  simp

theorem cell_of {w : World} {b : Nat} {cs : Array Value} {t : TypeId} {fz : Nat × Nat} (h : w.heap[b]? = some (.cells cs t fz)) (o : Nat) : w.cell? ⟨b, o, none⟩ = cs[o]? := by
  simp [World.cell?, h]

/-- A block of five cells, none frozen. -/
theorem five {w : World} {b : Nat} {t : TypeId} {a0 a1 a2 a3 a4 : Value} (h : w.heap[b]? = some (.cells #[a0, a1, a2, a3, a4] t (0, 0))) :
    w.cell? ⟨b, 0, none⟩ = some a0 ∧ w.cell? ⟨b, 1, none⟩ = some a1 ∧ w.cell? ⟨b, 2, none⟩ = some a2 ∧ w.cell? ⟨b, 3, none⟩ = some a3 ∧ w.cell? ⟨b, 4, none⟩ = some a4 ∧ ∀ o, w.frozen? ⟨b, o, none⟩ = false := by
  refine ⟨cell_of h 0, cell_of h 1, cell_of h 2, cell_of h 3, cell_of h 4, fun o => ?_⟩
  simp [World.frozen?, h]

theorem heap_set {w : World} {b : Nat} {cs : Array Value} {t : TypeId} {fz : Nat × Nat} (h : w.heap[b]? = some (.cells cs t fz)) (o : Nat) (v : Value) : (w.setCell ⟨b, o, none⟩ v).heap[b]? = some (.cells (cs.setIfInBounds o v) t fz) := by
  simp [World.setCell, Array.getElem?_modify, h]

theorem Room.set {w : World} {b off n : Nat} (h : Room w b off n) (a : Addr) (v : Value) : Room (w.setCell a v) b off n := fun i hi => by
  obtain ⟨u, hu⟩ := Option.isSome_iff_exists.1 (h i hi)
  obtain ⟨u', hu'⟩ := cell?_setCell_some (p := a) (x := v) hu
  rw [hu']; rfl

theorem room_of {w : World} {b n : Nat} {cs : Array Value} {t : TypeId} {fz : Nat × Nat} (h : w.heap[b]? = some (.cells cs t fz)) (hn : n ≤ cs.size) : Room w b 0 n := fun i hi => by
  rw [Nat.zero_add, cell_of h, Array.getElem?_eq_getElem (by omega)]; rfl

/-- The function's own copy of one node: the block behind w; w itself is as it was. -/
structure Box (w wr : World) (a b c d e : Value) : Prop where
  below : Below w.heap.size w wr
  lt : w.heap.size < wr.heap.size
  c0 : wr.cell? ⟨w.heap.size, 0, none⟩ = some a
  c1 : wr.cell? ⟨w.heap.size, 1, none⟩ = some b
  c2 : wr.cell? ⟨w.heap.size, 2, none⟩ = some c
  c3 : wr.cell? ⟨w.heap.size, 3, none⟩ = some d
  c4 : wr.cell? ⟨w.heap.size, 4, none⟩ = some e

theorem Box.start (w : World) (a b c d e : Value) (t : TypeId) : Box w (w.alloc (.cells #[a, b, c, d, e] t)) a b c d e where
  below := (Below.refl _ w).alloc (Nat.le_refl _) _
  lt := by simp
  c0 := (cell_of (heap_last w _) 0).trans rfl
  c1 := (cell_of (heap_last w _) 1).trans rfl
  c2 := (cell_of (heap_last w _) 2).trans rfl
  c3 := (cell_of (heap_last w _) 3).trans rfl
  c4 := (cell_of (heap_last w _) 4).trans rfl

theorem Box.next {w wr w1 : World} {a b c d e : Value} (h : Box w wr a b c d e) (hb : Below wr.heap.size wr w1) : Box w w1 a b c d e where
  below := h.below.trans (hb.mono h.below.size)
  lt := Nat.lt_of_lt_of_le h.lt hb.size
  c0 := by rw [hb.cell (by exact h.lt)]; exact h.c0
  c1 := by rw [hb.cell (by exact h.lt)]; exact h.c1
  c2 := by rw [hb.cell (by exact h.lt)]; exact h.c2
  c3 := by rw [hb.cell (by exact h.lt)]; exact h.c3
  c4 := by rw [hb.cell (by exact h.lt)]; exact h.c4

/-- Two nodes that a function was handed. -/
structure Box2 (w wr : World) (a b c d e a' b' c' d' e' : Value) : Prop where
  below : Below w.heap.size w wr
  lt : w.heap.size + 1 < wr.heap.size
  c0 : wr.cell? ⟨w.heap.size, 0, none⟩ = some a
  c1 : wr.cell? ⟨w.heap.size, 1, none⟩ = some b
  c2 : wr.cell? ⟨w.heap.size, 2, none⟩ = some c
  c3 : wr.cell? ⟨w.heap.size, 3, none⟩ = some d
  c4 : wr.cell? ⟨w.heap.size, 4, none⟩ = some e
  g0 : wr.cell? ⟨w.heap.size + 1, 0, none⟩ = some a'
  g1 : wr.cell? ⟨w.heap.size + 1, 1, none⟩ = some b'
  g2 : wr.cell? ⟨w.heap.size + 1, 2, none⟩ = some c'
  g3 : wr.cell? ⟨w.heap.size + 1, 3, none⟩ = some d'
  g4 : wr.cell? ⟨w.heap.size + 1, 4, none⟩ = some e'

theorem Box2.start (w : World) (a b c d e a' b' c' d' e' : Value) (t t' : TypeId) : Box2 w ((w.alloc (.cells #[a, b, c, d, e] t)).alloc (.cells #[a', b', c', d', e'] t')) a b c d e a' b' c' d' e' where
  below := ((Below.refl _ w).alloc (Nat.le_refl _) _).alloc (by simp) _
  lt := by simp
  c0 := (cell_of ((Below.heap_alloc _ _ _ (by simp)).trans (heap_last w _)) 0).trans rfl
  c1 := (cell_of ((Below.heap_alloc _ _ _ (by simp)).trans (heap_last w _)) 1).trans rfl
  c2 := (cell_of ((Below.heap_alloc _ _ _ (by simp)).trans (heap_last w _)) 2).trans rfl
  c3 := (cell_of ((Below.heap_alloc _ _ _ (by simp)).trans (heap_last w _)) 3).trans rfl
  c4 := (cell_of ((Below.heap_alloc _ _ _ (by simp)).trans (heap_last w _)) 4).trans rfl
  g0 := (cell_of (by have := heap_last (w.alloc (.cells #[a, b, c, d, e] t)) (.cells #[a', b', c', d', e'] t'); simpa using this) 0).trans rfl
  g1 := (cell_of (by have := heap_last (w.alloc (.cells #[a, b, c, d, e] t)) (.cells #[a', b', c', d', e'] t'); simpa using this) 1).trans rfl
  g2 := (cell_of (by have := heap_last (w.alloc (.cells #[a, b, c, d, e] t)) (.cells #[a', b', c', d', e'] t'); simpa using this) 2).trans rfl
  g3 := (cell_of (by have := heap_last (w.alloc (.cells #[a, b, c, d, e] t)) (.cells #[a', b', c', d', e'] t'); simpa using this) 3).trans rfl
  g4 := (cell_of (by have := heap_last (w.alloc (.cells #[a, b, c, d, e] t)) (.cells #[a', b', c', d', e'] t'); simpa using this) 4).trans rfl

theorem Box2.next {w wr w1 : World} {a b c d e a' b' c' d' e' : Value} (h : Box2 w wr a b c d e a' b' c' d' e') (hb : Below wr.heap.size wr w1) : Box2 w w1 a b c d e a' b' c' d' e' where
  below := h.below.trans (hb.mono h.below.size)
  lt := Nat.lt_of_lt_of_le h.lt hb.size
  c0 := by rw [hb.cell (by exact Nat.lt_of_succ_lt h.lt)]; exact h.c0
  c1 := by rw [hb.cell (by exact Nat.lt_of_succ_lt h.lt)]; exact h.c1
  c2 := by rw [hb.cell (by exact Nat.lt_of_succ_lt h.lt)]; exact h.c2
  c3 := by rw [hb.cell (by exact Nat.lt_of_succ_lt h.lt)]; exact h.c3
  c4 := by rw [hb.cell (by exact Nat.lt_of_succ_lt h.lt)]; exact h.c4
  g0 := by rw [hb.cell (by exact h.lt)]; exact h.g0
  g1 := by rw [hb.cell (by exact h.lt)]; exact h.g1
  g2 := by rw [hb.cell (by exact h.lt)]; exact h.g2
  g3 := by rw [hb.cell (by exact h.lt)]; exact h.g3
  g4 := by rw [hb.cell (by exact h.lt)]; exact h.g4

end Go.Proofs.YtelpkcbbipianaaGreat

/- the laws' eqStringS, eqNodeS and eqNode tell whether two lists of texts, two lists of trees, two trees are the same. -/
namespace Go.Proofs.YtelpkcbbipianaaGreat
open Go Go.RowKit

noncomputable def same {α : Type} (a b : α) : Bool := @decide (a = b) (Classical.propDecidable _)
theorem same_yes {α : Type} {a b : α} (h : a = b) : same a b = true := @decide_eq_true _ (Classical.propDecidable _) h
theorem same_no {α : Type} {a b : α} (h : ¬ a = b) : same a b = false := @decide_eq_false _ (Classical.propDecidable _) h
theorem below_drewN {B : Nat} {a w : World} (h : Below B a w) (n : Nat) : Below B a (w.drewN n) := h.trans ⟨rfl, rfl, rfl, Nat.le_refl _, fun _ _ => rfl⟩

theorem take_step {α : Type} {l l' : List α} {k : Nat} (h : l.take k = l'.take k) (h1 : k < l.length) (h2 : k < l'.length) (e : l[k] = l'[k]) : l.take (k + 1) = l'.take (k + 1) := by
  rw [List.take_succ_eq_append_getElem h1, List.take_succ_eq_append_getElem h2, h, e]

theorem take_end {α : Type} {l l' : List α} {k : Nat} (h : l.take k = l'.take k) (h1 : ¬ k < l.length) (h2 : l.length = l'.length) : l = l' := by
  rw [List.take_of_length_le (by omega), List.take_of_length_le (by omega)] at h
  exact h

theorem ne_at {α : Type} {l l' : List α} {k : Nat} (h1 : k < l.length) (h2 : k < l'.length) (e : ¬ l[k] = l'[k]) : ¬ l = l' := by
  intro h
  subst h
  exact e rfl

end Go.Proofs.YtelpkcbbipianaaGreat

/- the program's keysOk and the model's l3Keys answer the same of every list of texts: each is TextOk, and they ascend. -/
namespace Go.Proofs.YtelpkcbbipianaaGreat
open Go Go.RowKit

theorem str_geq (t : TypeId) (a b : ByteArray) : binOp .geq t (.string a) (.string b) = pure (.bool !(Op.bytesLess a.toList b.toList)) := by simp [binOp, Op.stringOp]

/-- What is asked of the i-th key. -/
def KeyAt (ks : List ByteArray) (i : Nat) (h : i < ks.length) : Prop := textOk ks[i] = true ∧ (∀ _h : 0 < i, Op.bytesLess (ks[i - 1]'(by omega)).toList ks[i].toList = true)

/-- Keys that are TextOk and ascend. -/
noncomputable def keysOk (ks : List ByteArray) : Bool := @decide (∀ i (h : i < ks.length), KeyAt ks i h) (Classical.propDecidable _)

theorem keysOk_yes {ks : List ByteArray} (h : ∀ i (h : i < ks.length), KeyAt ks i h) : keysOk ks = true := @decide_eq_true _ (Classical.propDecidable _) h
theorem keysOk_no {ks : List ByteArray} {i : Nat} (h : i < ks.length) (hn : ¬ KeyAt ks i h) : keysOk ks = false := @decide_eq_false _ (Classical.propDecidable _) (fun h' => hn (h' i h))

set_option maxRecDepth 100000 in
set_option maxHeartbeats 800000 in
theorem impl_keysOk {v : Value} {ks : List ByteArray} {F : List Nat} (w : World) (hs : StrsAt w v ks F) :
    Calls Tryz.prog 67 #[v] w fun e w' => e = .returned (.bool (keysOk ks)) ∧ w' = w := by
  obtain ⟨o, cap, b, off, rfl, hlc, hcm, ho, -, hcell, -⟩ := hs
  have HC := Lib.hid hcell
  have HO := Lib.hid ho
  clear hcell ho
  unfold maxLen at hcm
  have hge := str_geq
  go_enter Tryz.func67, Tryz.ntmps67
  go_wp2
  go_loop [7] (fun i => ∃ k : Nat, k ≤ ks.length ∧ i = .int .i64 k ∧ Hid (∀ i (h : i < ks.length), i < k → KeyAt ks i h)) (fun i => ks.length - (intOf i).toNat)
  case atStart => exact ⟨0, Nat.zero_le _, rfl, fun i _ h => absurd h (by omega)⟩
  case round =>
    obtain ⟨k, hk, rfl, hr⟩ := hrel
    by_cases hlt : k < ks.length
    · have ho := HO.out (by omega)
      subst ho
      obtain ⟨c0, m0⟩ := HC.out k hlt
      have HT := Lib.hid (impl_textOk ks[k] m0)
      have HS : Hid (KeyAt ks k hlt → ∀ i (h : i < ks.length), i < k + 1 → KeyAt ks i h) := fun hk1 i h hi => by
        by_cases e : i = k
        · subst e; exact hk1
        · exact hr.out i h (by omega)
      by_cases ht : textOk ks[k] = true
      · rw [ht] at HT
        by_cases hp : 0 < k
        · obtain ⟨j, rfl⟩ : ∃ j, k = j + 1 := ⟨k - 1, by omega⟩
          obtain ⟨c1, m1⟩ := HC.out j (by omega)
          have e1 : (((j + 1 : Nat) : Int) - 1) = j := by omega
          by_cases hle : Op.bytesLess ks[j].toList ks[j + 1].toList = true
          · have HY := Lib.hid (HS.out ⟨ht, fun _ => hle⟩)
            clear HS ht m0 m1
            generalize ks[j] = y at *
            generalize ks[j + 1] = x at *
            go_wp2_with (first
              | (go_at_call 66; refine (HT.out _).mono ?_; rintro e w1 ⟨rfl, e1⟩; subst e1)
              | go_in)
            go_round
            case rel => exact ⟨j + 1 + 1, by omega, by go_num, HY.out⟩
            case measure => simp [intOf]; omega
          · have HN := Lib.hid (keysOk_no hlt (fun h => hle (h.2 hp)))
            have hle' : Op.bytesLess ks[j].toList ks[j + 1].toList = false := by simpa using hle
            clear HS ht m0 m1 hle
            generalize ks[j] = y at *
            generalize ks[j + 1] = x at *
            go_wp2_with (first
              | (go_at_call 66; refine (HT.out _).mono ?_; rintro e w1 ⟨rfl, e1⟩; subst e1)
              | go_in)
            go_ret
            exact ⟨by rw [HN.out]; rfl, rfl⟩
        · have e0 : k = 0 := by omega
          subst e0
          have HY := Lib.hid (HS.out ⟨ht, fun h => absurd h hp⟩)
          clear HS ht m0
          rw [Nat.add_zero] at c0
          generalize ks[0] = x at *
          go_wp2_with (first
            | (go_at_call 66; refine (HT.out _).mono ?_; rintro e w1 ⟨rfl, e1⟩; subst e1)
            | go_in)
          go_round
          case rel => exact ⟨1, by omega, by go_num, HY.out⟩
          case measure => simp [intOf]; omega
      · have HN := Lib.hid (keysOk_no hlt (fun h => ht h.1))
        have ht' : textOk ks[k] = false := by simpa using ht
        rw [ht'] at HT
        clear HS ht ht' m0
        generalize ks[k] = x at *
        go_wp2_with (first
          | (go_at_call 66; refine (HT.out _).mono ?_; rintro e w1 ⟨rfl, e1⟩; subst e1)
          | go_in)
        go_ret
        exact ⟨by rw [HN.out]; rfl, rfl⟩
    · have HY := Lib.hid (keysOk_yes (ks := ks) (fun i h => hr.out i h (by omega)))
      go_wp2
      go_ret
      exact ⟨by rw [HY.out]; rfl, rfl⟩

set_option maxRecDepth 100000 in
set_option maxHeartbeats 800000 in
theorem spec_keys {v : Value} {ks : List ByteArray} {F : List Nat} (w : World) (hs : StrsAt w v ks F) :
    Calls Tryz.prog 29 #[v] w fun e w' => e = .returned (.bool (keysOk ks)) ∧ Below w.heap.size w w' := by
  obtain ⟨o, cap, b, off, rfl, hlc, hcm, ho, -, hcell, -⟩ := hs
  have HC := Lib.hid hcell
  have HO := Lib.hid ho
  clear hcell ho
  unfold maxLen at hcm
  have hge := str_geq
  go_enter Tryz.func29, Tryz.ntmps29
  go_wp2
  go_loopw [3] (fun i wr => ∃ k : Nat, k ≤ ks.length ∧ i = .int .i64 k ∧ Hid (∀ i (h : i < ks.length), i < k → KeyAt ks i h) ∧ Hid (Below w.heap.size w wr)) (fun i _ => ks.length - (intOf i).toNat)
  case atStart => exact ⟨0, Nat.zero_le _, rfl, fun i _ h => absurd h (by omega), Below.refl _ _⟩
  case round =>
    obtain ⟨k, hk, rfl, hr, hb⟩ := hrel
    by_cases hlt : k < ks.length
    · have ho := HO.out (by omega)
      subst ho
      obtain ⟨cw, m0⟩ := HC.out k hlt
      have c0 : wr.cell? ⟨b, off + k, none⟩ = some (.string ks[k]) := by
        rw [hb.out.cell (by exact World.block_lt_of_cell? _ _ cw)]; exact cw
      clear cw
      have HT := Lib.hid (spec_textOk ks[k] m0)
      have hi0 : (0 : Int) ≤ (k : Int) := by omega
      have hi1 : (k : Int) < (ks.length : Int) := by omega
      have HS : Hid (KeyAt ks k hlt → ∀ i (h : i < ks.length), i < k + 1 → KeyAt ks i h) := fun hk1 i h hi => by
        by_cases e : i = k
        · subst e; exact hk1
        · exact hr.out i h (by omega)
      by_cases ht : textOk ks[k] = true
      · rw [ht] at HT
        by_cases hp : 0 < k
        · obtain ⟨j, rfl⟩ : ∃ j, k = j + 1 := ⟨k - 1, by omega⟩
          obtain ⟨cw, m1⟩ := HC.out j (by omega)
          have c1 : wr.cell? ⟨b, off + j, none⟩ = some (.string ks[j]) := by
            rw [hb.out.cell (by exact World.block_lt_of_cell? _ _ cw)]; exact cw
          clear cw
          have hi2 : (0 : Int) ≤ (j : Int) := by omega
          have hi3 : (j : Int) < (ks.length : Int) := by omega
          have e1 : (((j + 1 : Nat) : Int) - 1) = j := by omega
          by_cases hle : Op.bytesLess ks[j].toList ks[j + 1].toList = true
          · have HY := Lib.hid (HS.out ⟨ht, fun _ => hle⟩)
            clear HS ht m0 m1
            generalize ks[j] = y at *
            generalize ks[j + 1] = x at *
            go_wp2
            go_quiet (first | (go_at_call 48; exact Calls.quiet_of_same (HT.out _)))
            go_wp2
            exact ⟨⟨j + 1 + 1, by omega, by go_num, HY.out, below_drewN hb.out _⟩, by simp [intOf]; omega⟩
          · have HN := Lib.hid (keysOk_no hlt (fun h => hle (h.2 hp)))
            have hle' : Op.bytesLess ks[j].toList ks[j + 1].toList = false := by simpa using hle
            clear HS ht m0 m1 hle
            generalize ks[j] = y at *
            generalize ks[j + 1] = x at *
            go_wp2
            go_quiet (first | (go_at_call 48; exact Calls.quiet_of_same (HT.out _)))
            go_wp2
            go_ret
            exact ⟨by rw [HN.out]; rfl, below_drewN hb.out _⟩
        · have e0 : k = 0 := by omega
          subst e0
          have HY := Lib.hid (HS.out ⟨ht, fun h => absurd h hp⟩)
          clear HS ht m0
          rw [Nat.add_zero] at c0
          generalize ks[0] = x at *
          go_wp2
          go_quiet (first | (go_at_call 48; exact Calls.quiet_of_same (HT.out _)))
          go_wp2
          exact ⟨⟨1, by omega, by go_num, HY.out, below_drewN hb.out _⟩, by simp [intOf]; omega⟩
      · have HN := Lib.hid (keysOk_no hlt (fun h => ht h.1))
        have ht' : textOk ks[k] = false := by simpa using ht
        rw [ht'] at HT
        clear HS ht ht' m0
        generalize ks[k] = x at *
        go_wp2
        go_quiet (first | (go_at_call 48; exact Calls.quiet_of_same (HT.out _)))
        go_wp2
        go_ret
        exact ⟨by rw [HN.out]; rfl, below_drewN hb.out _⟩
    · have HY := Lib.hid (keysOk_yes (ks := ks) (fun i h => hr.out i h (by omega)))
      go_wp2
      go_ret
      exact ⟨by rw [HY.out]; rfl, hb.out⟩
end Go.Proofs.YtelpkcbbipianaaGreat

/- how much of a room the laws take a list of texts, a list of trees, and a tree for: less what it holds, or -1 where that is more. -/
namespace Go.Proofs.YtelpkcbbipianaaGreat
open Go Go.RowKit

def strSz (ks : List ByteArray) : Nat := (ks.map ByteArray.size).sum

mutual
def RT.sz : RT → Nat
  | .node _ _ s keys kids => s.size + (keys.length + strSz keys) + (kids.length + szAll kids)
def szAll : List RT → Nat
  | [] => 0
  | t :: ts => t.sz + szAll ts
end

end Go.Proofs.YtelpkcbbipianaaGreat

/- the laws' toStringS, toNodeS and toNode lay the same texts and trees into new memory. -/
namespace Go.Proofs.YtelpkcbbipianaaGreat
open Go Go.RowKit

/-- The blocks F were made since w, each once, and may be written in w'. -/
structure Fresh (w w' : World) (F : List Nat) : Prop where
  nodup : F.Nodup
  old : ∀ b ∈ F, w.heap.size ≤ b
  free : ∀ b ∈ F, ∀ o, w'.frozen? ⟨b, o, none⟩ = false

theorem Fresh.nil (w w' : World) : Fresh w w' [] := ⟨List.nodup_nil, fun b h => absurd h (by simp), fun b h => absurd h (by simp)⟩

theorem Fresh.carry {w w1 w2 : World} {F : List Nat} (h : Fresh w w1 F) (hF : ∀ b ∈ F, w2.heap[b]? = w1.heap[b]?) : Fresh w w2 F :=
  ⟨h.nodup, h.old, fun b hb o => by rw [World.frozen?_of_block (w := w1) (hF b hb)]; exact h.free b hb o⟩

theorem Fresh.earlier {w w1 w2 : World} {F : List Nat} (h : Fresh w1 w2 F) (hs : w.heap.size ≤ w1.heap.size) : Fresh w w2 F :=
  ⟨h.nodup, fun b hb => Nat.le_trans hs (h.old b hb), h.free⟩

/-- Two lots of blocks, the second made behind the first. -/
theorem Fresh.append {w w1 w2 : World} {F G : List Nat} (h : Fresh w w2 F) (hl : ∀ b ∈ F, b < w1.heap.size) (h' : Fresh w1 w2 G) (hs : w.heap.size ≤ w1.heap.size) : Fresh w w2 (F ++ G) := by
  refine ⟨List.nodup_append.2 ⟨h.nodup, h'.nodup, fun a ha b hb e => ?_⟩, fun b hb => ?_, fun b hb => ?_⟩
  · have := hl a ha
    have := h'.old b hb
    omega
  · rcases List.mem_append.1 hb with hb | hb
    · exact h.old b hb
    · exact Nat.le_trans hs (h'.old b hb)
  · rcases List.mem_append.1 hb with hb | hb
    · exact h.free b hb
    · exact h'.free b hb

theorem info_string : (Tryz.prog.info? 9).map (fun i => (i.zero, i.size, i.bytes)) = some (some (.string ⟨#[]⟩), 1, 16) := by kernel_rfl

/-! ### Lists of trees -/

/-- The five cells of a node, stored. -/
def set5 (w : World) (b o : Nat) (v0 v1 v2 v3 v4 : Value) : World :=
  ((((w.setCell ⟨b, o, none⟩ v0).setCell ⟨b, o + 1, none⟩ v1).setCell ⟨b, o + 2, none⟩ v2).setCell ⟨b, o + 3, none⟩ v3).setCell ⟨b, o + 4, none⟩ v4

theorem set5_other (w : World) (b o : Nat) (v0 v1 v2 v3 v4 : Value) (k : Nat) (h : k ≠ b) : (set5 w b o v0 v1 v2 v3 v4).heap[k]? = w.heap[k]? := by
  unfold set5
  rw [Below.heap_setCell _ _ _ _ h, Below.heap_setCell _ _ _ _ h, Below.heap_setCell _ _ _ _ h, Below.heap_setCell _ _ _ _ h, Below.heap_setCell _ _ _ _ h]

theorem set5_below {B : Nat} {a w : World} (h : Below B a w) {b : Nat} (hb : B ≤ b) (o : Nat) (v0 v1 v2 v3 v4 : Value) : Below B a (set5 w b o v0 v1 v2 v3 v4) := by
  unfold set5
  exact ((((h.setCell hb _).setCell hb _).setCell hb _).setCell hb _).setCell hb _

theorem set5_end {w : World} {b : Nat} {t : TypeId} {a0 a1 a2 a3 a4 : Value} (h : w.heap[b]? = some (.cells #[a0, a1, a2, a3, a4] t (0, 0))) (v0 v1 v2 v3 v4 : Value) :
    (set5 w b 0 v0 v1 v2 v3 v4).heap[b]? = some (.cells #[v0, v1, v2, v3, v4] t (0, 0)) :=
  heap_set (heap_set (heap_set (heap_set (heap_set h 0 v0) 1 v1) 2 v2) 3 v3) 4 v4

theorem flat_succ (FF : Nat → List Nat) (k : Nat) (F : List Nat) : (List.range (k + 1)).flatMap (fun j => if j = k then F else FF j) = (List.range k).flatMap FF ++ F := by
  rw [List.range_succ, List.flatMap_append]
  congr 1
  · exact Go.Deep.flatMap_congr_range fun j hj => by rw [if_neg (by omega)]
  · simp

theorem info_node : (Tryz.prog.info? 27).map (fun i => (i.zero, i.size, i.bytes)) = some (some (.agg #[.int .i64 0, .int .i64 0, .string ⟨#[]⟩, .slice none 0 0, .slice none 0 0]), 5, 80) := by kernel_rfl

theorem sz_take (kids : List RT) {t : RT} (h : t ∈ kids) : t.sz ≤ szAll kids := by
  induction kids with
  | nil => simp at h
  | cons x l ih =>
    rw [szAll]
    rcases List.mem_cons.1 h with e | e
    · rw [e]; omega
    · have := ih e; omega

/-- A function that answers a node out of its own block. -/
theorem ret_node {fn : Func} {i : Nat} (hres : fn.results = #[ResultVar.cell i 27]) {tmps : Array Value} {w : World} {b : Nat} {t : TypeId} {a0 a1 a2 a3 a4 : Value}
    (ht : tmps[i]?.getD undef = .pointer (some ⟨b, 0, none⟩)) (h : w.heap[b]? = some (.cells #[a0, a1, a2, a3, a4] t (0, 0))) : (results fn tmps).run Tryz.prog w = .ok (.agg #[a0, a1, a2, a3, a4]) w := by
  obtain ⟨c0, c1, c2, c3, c4, -⟩ := five h
  simp [results, hres, ht, go_sem, c0, c1, c2, c3, c4]

/-- Three new blocks. -/
theorem zero_blocks (w : World) (a b c : Obj) : (((w.alloc a).alloc b).alloc c).heap[w.heap.size]? = some a ∧ (((w.alloc a).alloc b).alloc c).heap[w.heap.size + 1]? = some b ∧ (((w.alloc a).alloc b).alloc c).heap[w.heap.size + 1 + 1]? = some c ∧
    Below w.heap.size w (((w.alloc a).alloc b).alloc c) ∧ (((w.alloc a).alloc b).alloc c).heap.size = w.heap.size + 3 := by
  have e1 : (w.alloc a).heap.size = w.heap.size + 1 := by simp
  have e2 : ((w.alloc a).alloc b).heap.size = w.heap.size + 1 + 1 := by simp
  refine ⟨?_, ?_, ?_, ((((Below.refl _ w).alloc (Nat.le_refl _) _).alloc (by simp) _).alloc (by simp; omega) _), by simp⟩
  · rw [Below.heap_alloc _ _ _ (by simp; omega), Below.heap_alloc _ _ _ (by simp), heap_last]
  · rw [Below.heap_alloc _ _ _ (by simp), ← e1, heap_last]
  · rw [← e2, heap_last]

end Go.Proofs.YtelpkcbbipianaaGreat

/- where a key stands in a list of texts, and where it would come to stand: slices.Index and the program's placeOf; the model's l3At; the program's isMap. -/
namespace Go.Proofs.YtelpkcbbipianaaGreat
open Go Go.RowKit

/-- The first place of a key. -/
def FirstAt (ks : List ByteArray) (key : ByteArray) (i : Nat) : Prop := ∃ h : i < ks.length, ks[i] = key ∧ ∀ j (hj : j < i), ¬ ks[j] = key
/-- A key that is not there. -/
def Absent (ks : List ByteArray) (key : ByteArray) : Prop := ∀ i (h : i < ks.length), ¬ ks[i] = key

/-- How many keys at the head are below a key. -/
def placeN (ks : List ByteArray) (key : ByteArray) : Nat := (ks.takeWhile fun k => Op.bytesLess k.toList key.toList).length

theorem placeN_le (ks : List ByteArray) (key : ByteArray) : placeN ks key ≤ ks.length := by
  unfold placeN
  exact (List.takeWhile_prefix _).length_le

theorem place_unique {ks : List ByteArray} {key : ByteArray} {i : Nat} (hi : i ≤ ks.length) (h1 : ∀ j (h : j < ks.length), j < i → Op.bytesLess ks[j].toList key.toList = true) (h2 : ∀ h : i < ks.length, Op.bytesLess ks[i].toList key.toList = false) : placeN ks key = i := by
  induction ks generalizing i with
  | nil => simp at hi; subst hi; rfl
  | cons k ks ih =>
    cases i with
    | zero =>
      have := h2 (by simp)
      simp only [List.getElem_cons_zero] at this
      simp [placeN, this]
    | succ i =>
      have h0 := h1 0 (by simp) (by omega)
      simp only [List.getElem_cons_zero] at h0
      have := ih (i := i) (by simpa using hi) (fun j hj hji => by have := h1 (j + 1) (by simpa using hj) (by omega); simpa using this) (fun h => by have := h2 (by simpa using h); simpa using this)
      simp only [placeN] at this ⊢
      rw [List.takeWhile_cons, if_pos h0, List.length_cons, this]

set_option maxHeartbeats 400000 in
theorem slices_index {v : Value} {ks : List ByteArray} {F : List Nat} (w : World) (hs : StrsAt w v ks F) (key : ByteArray) :
    Calls Tryz.prog 34 #[v, .string key] w fun e w' => ((∃ i : Nat, FirstAt ks key i ∧ e = .returned (.int .i64 i)) ∨ (Absent ks key ∧ e = .returned (.int .i64 (-1)))) ∧ w' = w := by
  obtain ⟨o, cap, b, off, rfl, hlc, hcm, ho, -, hcell, -⟩ := hs
  have HC := Lib.hid hcell
  have HO := Lib.hid ho
  clear hcell ho
  unfold maxLen at hcm
  go_enter Tryz.func34, Tryz.ntmps34
  go_wp2
  go_loop [8] (fun i => ∃ k : Nat, k ≤ ks.length ∧ i = .int .i64 k ∧ Hid (∀ j (h : j < ks.length), j < k → ¬ ks[j] = key)) (fun i => ks.length - (intOf i).toNat)
  case atStart => exact ⟨0, Nat.zero_le _, rfl, fun j _ h => absurd h (by omega)⟩
  case round =>
    obtain ⟨k, hk, rfl, hr⟩ := hrel
    by_cases hlt : k < ks.length
    · have ho := HO.out (by omega)
      subst ho
      obtain ⟨c0, -⟩ := HC.out k hlt
      by_cases he : ks[k] = key
      · have HE : Hid (FirstAt ks key k) := ⟨hlt, he, fun j hj => hr.out j (by omega) hj⟩
        rw [he] at c0
        clear he
        go_wp2
        go_ret
        exact ⟨.inl ⟨k, HE.out, rfl⟩, rfl⟩
      · have HS : Hid (∀ j (h : j < ks.length), j < k + 1 → ¬ ks[j] = key) := fun j h hj => by
          by_cases e : j = k
          · subst e; exact he
          · exact hr.out j h (by omega)
        have he' := bytes_ne (fun h => he h.symm)
        clear he
        generalize ks[k] = x at *
        go_wp2
        go_round
        case rel => exact ⟨k + 1, by omega, by go_num, HS.out⟩
        case measure => simp [intOf]; omega
    · have HA : Hid (Absent ks key) := fun i h => hr.out i h (by omega)
      go_wp2
      go_ret
      exact ⟨.inr ⟨HA.out, rfl⟩, rfl⟩

set_option maxRecDepth 100000 in
set_option maxHeartbeats 800000 in
/-- The model's l3At of a map with as many keys as kids. -/
theorem spec_at (w : World) {kv : Value} {keys : List ByteArray} {FK : List Nat} (hK : StrsAt w kv keys FK) (n : Int) (s : ByteArray) (o : Option Addr) (q : Nat) (key : ByteArray) :
    Calls Tryz.prog 65 #[.agg #[.int .i64 5, .int .i64 n, .string s, kv, .slice o keys.length q], .string key] w fun e w' => ((∃ i : Nat, FirstAt keys key i ∧ e = .returned (.int .i64 i)) ∨ (Absent keys key ∧ e = .returned (.int .i64 (-1)))) ∧ Below w.heap.size w w' := by
  obtain ⟨ko, cap, b, off, rfl, hlc, hcm, ho, -, hcell, -⟩ := hK
  have HX := Lib.hid (Box.start w (.int .i64 5) (.int .i64 n) (.string s) (.slice ko keys.length cap) (.slice o keys.length q) 27)
  have HC := Lib.hid fun i h => ((Below.refl _ w).alloc (Nat.le_refl _) (.cells #[.int .i64 5, .int .i64 n, .string s, .slice ko keys.length cap, .slice o keys.length q] 27)).cell (p := ⟨b, off + i, none⟩) (World.block_lt_of_cell? _ _ (hcell i h).1) |>.trans (hcell i h).1
  have HO := Lib.hid ho
  clear hcell ho
  unfold maxLen at hcm
  go_enter Tryz.func65, Tryz.ntmps65
  go_wp2
  go_loop [5] (fun i => ∃ k : Nat, k ≤ keys.length ∧ i = .int .i64 k ∧ Hid (∀ j (h : j < keys.length), j < k → ¬ keys[j] = key)) (fun i => keys.length - (intOf i).toNat)
  case atStart => exact ⟨0, Nat.zero_le _, rfl, fun j _ h => absurd h (by omega)⟩
  case round =>
    obtain ⟨k, hk, rfl, hr⟩ := hrel
    by_cases hlt : k < keys.length
    · have ho := HO.out (by omega)
      subst ho
      have c0 := HC.out k hlt
      by_cases he : keys[k] = key
      · have HE : Hid (FirstAt keys key k) := ⟨hlt, he, fun j hj => hr.out j (by omega) hj⟩
        rw [he] at c0
        clear he
        go_wp2
        go_ret
        exact ⟨.inl ⟨k, HE.out, rfl⟩, HX.out.below⟩
      · have HS : Hid (∀ j (h : j < keys.length), j < k + 1 → ¬ keys[j] = key) := fun j h hj => by
          by_cases e : j = k
          · subst e; exact he
          · exact hr.out j h (by omega)
        have he' := bytes_ne he
        clear he
        generalize keys[k] = x at *
        go_wp2
        go_round
        case rel => exact ⟨k + 1, by omega, by go_num, HS.out⟩
        case measure => simp [intOf]; omega
    · have HA : Hid (Absent keys key) := fun i h => hr.out i h (by omega)
      go_wp2
      go_ret
      exact ⟨.inr ⟨HA.out, rfl⟩, HX.out.below⟩

set_option maxRecDepth 100000 in
set_option maxHeartbeats 400000 in
theorem impl_isMap (k n : Int) (s : ByteArray) (ko o : Option Addr) (kl kc dl dc : Nat) (w : World) :
    Calls Tryz.prog 31 #[.agg #[.int .i64 k, .int .i64 n, .string s, .slice ko kl kc, .slice o dl dc]] w fun e w' => e = .returned (.bool (decide (k = 5) && decide (kl = dl))) ∧ Below w.heap.size w w' := by
  by_cases h5 : k = 5
  · subst h5
    by_cases h : kl = dl
    · subst h
      go_enter Tryz.func31, Tryz.ntmps31
      go_wp2
      go_ret
      exact ⟨ret_bool (by simp), (Below.refl _ w).alloc (Nat.le_refl _) _⟩
    · have h' : ¬ (kl : Int) = dl := by omega
      go_enter Tryz.func31, Tryz.ntmps31
      go_wp2
      go_ret
      exact ⟨ret_bool (by simp [h, h']), (Below.refl _ w).alloc (Nat.le_refl _) _⟩
  · go_enter Tryz.func31, Tryz.ntmps31
    go_wp2
    go_ret
    exact ⟨ret_bool (by simp [h5]), (Below.refl _ w).alloc (Nat.le_refl _) _⟩
end Go.Proofs.YtelpkcbbipianaaGreat
