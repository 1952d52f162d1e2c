/-
  What is proved: plain facts on the lines of an indented text: what a row of open levels makes of them, line by line, is the tree that they were written of.; plain facts on what is open while an indented text is read: a row of levels, each with its own Keys, Kids and the map of Keys that it has seen; that it stays as worlds go on; its last level; one more level, one less.; the outliner's state while lines are read; a tree is put into the last level of what is open.
-/
import Derived.Test.YtmcjghhmcmkomaaGreatDoorPartAJ
import Derived.Test.YtmcjghhmcmkomaaGreatDoorPartAK
import Derived.Test.YtmcjghhmcmkomaaGreatDoorPartAG
import Derived.Test.YtmcjghhmcmkomaaGreatDoorRdH
/- plain facts on the lines of an indented text: what a row of open levels makes of them, line by line, is the tree that they were written of. -/
namespace Go.Proofs.YtmcjghhmcmkomaaGreatDoor
open Go Go.RowKit

/-- A level that is open: what was read of it, and the Key that is due. -/
structure PL where
  k : Int
  dk : List ByteArray
  dd : List RT
  key : ByteArray

def PL.tree (p : PL) : RT := .node p.k 0 ⟨#[]⟩ p.dk p.dd
def PL.put (p : PL) (X : RT) : PL := if p.k = 5 then ⟨p.k, p.dk ++ [p.key], p.dd ++ [X], p.key⟩ else ⟨p.k, p.dk, p.dd ++ [X], p.key⟩
/-- A tree that is put there comes to stand at the end. -/
def PL.fits (p : PL) : Prop := (p.k = 4 ∨ p.k = 5 ∧ Absent p.dk p.key ∧ placeN p.dk p.key = p.dk.length ∧ p.dk.length = p.dd.length) ∧ p.dd.length < 200

/-- What a line says: how far in, of what kind, its Key, and the value that stands there. -/
structure Ln where
  inn : Nat
  kind : Int
  key : ByteArray
  val : Option RT

/-- Where the lines have come to. -/
structure LS where
  ls : List PL
  due : Bool
  ent : Nat

/-- All that is open but the first ones, so many, is closed; what is closed is put into what it stands in. -/
inductive Shut : List PL → Nat → List PL → Prop
  | done {ls : List PL} {m : Nat} : ls.length = m → Shut ls m ls
  | pop {ls : List PL} {q p : PL} {m : Nat} {ls' : List PL} : m ≤ ls.length + 1 → q.fits → Shut (ls ++ [q.put p.tree]) m ls' → Shut (ls ++ [q] ++ [p]) m ls'

/-- What comes of a level whose line says this. -/
def PL.says (p : PL) (l : Ln) : PL := match l.val with
  | none => { p with key := l.key }
  | some X => PL.put { p with key := l.key } X
def Ln.fine (l : Ln) (p : PL) : Prop := l.key.size ≤ 400 ∧ p.k = l.kind ∧ (l.kind = 4 ∧ l.key = ⟨#[]⟩ ∨ l.kind = 5 ∧ l.key ∉ p.dk) ∧ (∀ X, l.val = some X → PL.fits { p with key := l.key } ∧ treeOk X = true)

inductive Step : LS → Ln → LS → Prop
  | first {ls : List PL} {ent : Nat} {l : Ln} : l.inn = 2 * ls.length → l.fine ⟨l.kind, [], [], ⟨#[]⟩⟩ → ent < 200 → Step ⟨ls, true, ent⟩ l ⟨ls ++ [PL.says ⟨l.kind, [], [], ⟨#[]⟩⟩ l], l.val.isNone, ent + 1⟩
  | next {ls : List PL} {ls' : List PL} {p : PL} {ent : Nat} {l : Ln} : l.inn = 2 * ls'.length → ls'.length < ls.length → Shut ls (ls'.length + 1) (ls' ++ [p]) → l.fine p → (l.kind = 5 → p.key ∈ p.dk) → ent < 200 → Step ⟨ls, false, ent⟩ l ⟨ls' ++ [p.says l], l.val.isNone, ent + 1⟩

inductive Run : LS → List Ln → LS → Prop
  | nil {s : LS} : Run s [] s
  | cons {s s' s'' : LS} {l : Ln} {r : List Ln} : Step s l s' → Run s' r s'' → Run s (l :: r) s''

theorem Run.append {s s' s'' : LS} {a b : List Ln} (h : Run s a s') (h2 : Run s' b s'') : Run s (a ++ b) s'' := by
  induction h with
  | nil => exact h2
  | cons hs _ ih => exact .cons hs (ih h2)

theorem Run.one {s s' : LS} {l : Ln} (h : Step s l s') : Run s [l] s' := .cons h .nil

/-- Levels that, closed, are this tree: all of it, or all but its last Kid, which is what stands behind. -/
inductive Rep : RT → List PL → Prop
  | whole {k : Int} {keys : List ByteArray} {kids : List RT} {key : ByteArray} : (k = 5 → key ∈ keys) → Rep (.node k 0 ⟨#[]⟩ keys kids) [⟨k, keys, kids, key⟩]
  | more {p : PL} {X : RT} {tail : List PL} : p.fits → Rep X tail → Rep (p.put X).tree (p :: tail)

theorem Shut.trans {a b c : List PL} {m n : Nat} (h : Shut a m b) (hn : n ≤ m) (h2 : Shut b n c) : Shut a n c := by
  induction h with
  | done _ => exact h2
  | pop h1 h3 _ ih => exact .pop (by omega) h3 (ih hn h2)

theorem put_key (p : PL) (X : RT) : p.k = 5 → p.key ∈ (p.put X).dk := fun h => by
  unfold PL.put
  rw [if_pos h]
  simp
theorem put_k (p : PL) (X : RT) : (p.put X).k = p.k := by unfold PL.put; split <;> rfl
theorem put_keyE (p : PL) (X : RT) : (p.put X).key = p.key := by unfold PL.put; split <;> rfl

theorem rep_one {T : RT} {tail : List PL} (h : Rep T tail) : ∃ key, T = PL.tree ⟨T.k, T.keys, T.kids, key⟩ := by
  cases h with
  | whole h => exact ⟨⟨#[]⟩, rfl⟩
  | more h h2 => exact ⟨⟨#[]⟩, rfl⟩

theorem rep_ne {T : RT} {tail : List PL} (h : Rep T tail) : tail ≠ [] := by cases h <;> simp

/-- Closed, they are the tree's own level. -/
theorem shut_rep {T : RT} {tail : List PL} (h : Rep T tail) : ∀ ls0, ∃ key, (T.k = 5 → key ∈ T.keys) ∧ Shut (ls0 ++ tail) (ls0.length + 1) (ls0 ++ [⟨T.k, T.keys, T.kids, key⟩]) := by
  induction h with
  | whole hk => exact fun ls0 => ⟨_, hk, .done (by simp)⟩
  | @more p X tail hf hX ih =>
    intro ls0
    obtain ⟨key, -, h1⟩ := ih (ls0 ++ [p])
    obtain ⟨key', e⟩ := rep_one hX
    refine ⟨p.key, fun h => put_key p X (by rw [← put_k p X]; exact h), ?_⟩
    have h2 : Shut (ls0 ++ [p] ++ [⟨X.k, X.keys, X.kids, key⟩]) (ls0.length + 1) (ls0 ++ [p.put (PL.tree ⟨X.k, X.keys, X.kids, key⟩)]) := .pop (by omega) hf (.done (by simp))
    have e2 : PL.tree ⟨X.k, X.keys, X.kids, key⟩ = X := by rw [e]; rfl
    rw [e2] at h2
    have e3 : p.put X = ⟨((p.put X).tree).k, ((p.put X).tree).keys, ((p.put X).tree).kids, p.key⟩ := by
      rw [show ((p.put X).tree).k = (p.put X).k from rfl, show ((p.put X).tree).keys = (p.put X).dk from rfl, show ((p.put X).tree).kids = (p.put X).dd from rfl, ← put_keyE p X]
    rw [← e3]
    have h3 := Shut.trans (n := ls0.length + 1) h1 (by simp) h2
    simpa using h3

/-! ### The lines of a tree -/

/-- A Kid's Key in a line: a list has none. -/
def keyIn (k : Int) (key : ByteArray) : ByteArray := if k = 5 then key else ⟨#[]⟩

mutual
def RT.lns : RT → Nat → List Ln
  | .node k _ _ keys kids, d => lnsAll k keys kids d
def lnsAll : Int → List ByteArray → List RT → Nat → List Ln
  | _, _, [], _ => []
  | k, keys, t :: ts, d => (⟨d, k, keyIn k (keys.headD ⟨#[]⟩), if t.kids.length = 0 then some t else none⟩ :: (if t.kids.length = 0 then [] else t.lns (d + 2))) ++ lnsAll k keys.tail ts d
end

def lnsOf (k : Int) (key : ByteArray) (t : RT) (d : Nat) : List Ln := ⟨d, k, keyIn k key, if t.kids.length = 0 then some t else none⟩ :: (if t.kids.length = 0 then [] else t.lns (d + 2))

theorem lnsAll_take (k : Int) (d : Nat) : (keys : List ByteArray) → (kids : List RT) → (j : Nat) → (h : j < kids.length) → lnsAll k keys (kids.take (j + 1)) d = lnsAll k keys (kids.take j) d ++ lnsOf k ((keys.drop j).headD ⟨#[]⟩) kids[j] d
  | keys, [], j, h => absurd h (by simp)
  | keys, t :: kids, 0, _ => by simp [lnsAll, lnsOf]
  | keys, t :: kids, j + 1, h => by
    have h1 := lnsAll_take k d keys.tail kids j (by simpa using h)
    simp only [List.take_succ_cons, lnsAll] at h1 ⊢
    rw [h1, List.append_assoc]
    simp

/-- What is right, and has Kids: what its level is at any Kid. -/
theorem level_fits {k : Int} {keys : List ByteArray} {kids : List RT} (hr : (RT.node k 0 ⟨#[]⟩ keys kids).right = true) (hk : k = 4 ∨ k = 5) (hn : kids.length ≤ 200) (j : Nat) (hj : j < kids.length) :
    PL.fits ⟨k, keys.take j, kids.take j, keyIn k ((keys.drop j).headD ⟨#[]⟩)⟩ ∧ (k = 5 → keyIn k ((keys.drop j).headD ⟨#[]⟩) ∉ keys.take j) ∧ (keyIn k ((keys.drop j).headD ⟨#[]⟩)).size ≤ 400 ∧
    ∀ X, X = kids[j] → PL.put ⟨k, keys.take j, kids.take j, keyIn k ((keys.drop j).headD ⟨#[]⟩)⟩ X = ⟨k, keys.take (j + 1), kids.take (j + 1), keyIn k ((keys.drop j).headD ⟨#[]⟩)⟩ := by
  obtain ⟨hh, -⟩ := right_out hr
  have hlt : (kids.take j).length < 200 := by rw [List.length_take]; omega
  rcases hk with rfl | rfl
  · have hk0 : keys = [] := by
      unfold HeadOk RT.k RT.keys at hh
      simp only [] at hh
      exact List.eq_nil_of_length_eq_zero (by omega)
    subst hk0
    refine ⟨⟨.inl rfl, hlt⟩, fun h => by omega, by unfold keyIn; rw [if_neg (show ¬ ((4 : Int) = 5) by decide)]; decide, fun X hX => ?_⟩
    subst hX
    unfold PL.put
    rw [if_neg (show ¬ ((4 : Int) = 5) by decide), List.take_succ_eq_append_getElem hj]
    simp
  · have h5 : keys.length = kids.length ∧ keysOk keys = true := by
      unfold HeadOk at hh
      simp only [RT.k, RT.keys, RT.kids] at hh
      rcases hh with h | h | h | h | h | h
      · omega
      · omega
      · omega
      · omega
      · omega
      · exact h.2.2.2
    have hjk : j < keys.length := by omega
    have hkey : keyIn 5 ((keys.drop j).headD ⟨#[]⟩) = keys[j] := by rw [key_at hjk]; rfl
    have hb := keys_behind (dk := keys.take j) (rk := keys.drop (j + 1)) (key := keys[j]) (by rw [← List.drop_eq_getElem_cons hjk, List.take_append_drop]; exact h5.2)
    rw [hkey]
    refine ⟨⟨.inr ⟨rfl, hb.1, hb.2.1, by simp only [List.length_take]; omega⟩, hlt⟩, fun _ => hb.2.2.2, ?_, fun X hX => ?_⟩
    · have ht := hb.2.2.1
      unfold textOk at ht
      simp only [Bool.and_eq_true, decide_eq_true_eq] at ht
      omega
    · subst hX
      unfold PL.put
      rw [if_pos rfl, List.take_succ_eq_append_getElem hj, List.take_succ_eq_append_getElem hjk]

theorem key_fine (k : Int) (key : ByteArray) (hk : k = 4 ∨ k = 5) (dk : List ByteArray) (h : k = 5 → keyIn k key ∉ dk) : k = 4 ∧ keyIn k key = ⟨#[]⟩ ∨ k = 5 ∧ keyIn k key ∉ dk := by
  rcases hk with rfl | rfl
  · exact .inl ⟨rfl, by unfold keyIn; rw [if_neg (show ¬ ((4 : Int) = 5) by decide)]⟩
  · exact .inr ⟨rfl, h rfl⟩

/-- The lines of a tree, from where they begin: its level is open, or what closed is its level. -/
theorem run_tree (T : RT) : treeOk T = true → T.kids.length ≠ 0 → ∀ (ls0 : List PL) (ent : Nat), ent + sizeAll T.kids ≤ 200 → ∃ tail, Rep T tail ∧ Run ⟨ls0, true, ent⟩ (T.lns (2 * ls0.length)) ⟨ls0 ++ tail, false, ent + sizeAll T.kids⟩ := by
  induction T using RT.ind with
  | h k n s keys kids ih =>
    intro hok h0 ls0 ent hent
    obtain ⟨-, hsz, hr⟩ := treeOk_parts hok
    have hk := kind_of_kids hr h0
    have hns : n = 0 ∧ s = ⟨#[]⟩ := by
      obtain ⟨hh, -⟩ := right_out hr
      unfold HeadOk at hh
      simp only [RT.k, RT.n, RT.s] at hh hk
      rcases hh with h | h | h | h | h | h
      · omega
      · omega
      · omega
      · omega
      · exact ⟨h.2.1, h.2.2.1⟩
      · exact ⟨h.2.1, h.2.2.1⟩
    obtain ⟨rfl, rfl⟩ := hns
    replace hk : k = 4 ∨ k = 5 := hk
    replace h0 : kids.length ≠ 0 := h0
    have hsz' : sizeAll kids + 1 ≤ 200 := hsz
    replace hent : ent + sizeAll kids ≤ 200 := hent
    have hlen : kids.length ≤ 200 := by
      have : ∀ l : List RT, l.length ≤ sizeAll l := fun l => by
        induction l with
        | nil => simp [sizeAll]
        | cons t l ih => have : 1 ≤ t.size := by { cases t; rw [RT.size]; omega }; simp only [sizeAll, List.length_cons]; omega
      have := this kids
      omega
    have hlev := fun j hj => level_fits hr hk hlen j hj
    have hkok : ∀ j (hj : j < kids.length), treeOk kids[j] = true := fun j hj => treeOk_kid hok (List.getElem_mem hj)
    have main : ∀ j, 1 ≤ j → j ≤ kids.length → ∃ tail, Rep (.node k 0 ⟨#[]⟩ (keys.take j) (kids.take j)) tail ∧ Run ⟨ls0, true, ent⟩ (lnsAll k keys (kids.take j) (2 * ls0.length)) ⟨ls0 ++ tail, false, ent + sizeAll (kids.take j)⟩ := by
      intro j
      induction j with
      | zero => intro h; omega
      | succ j ihj =>
        intro _ hj
        have hj' : j < kids.length := by omega
        obtain ⟨hf, hkn, hks, hput⟩ := hlev j hj'
        have hst := sizeAll_take kids j hj'
        have hle := sizeAll_take_le kids (j + 1)
        have hs1 : 1 ≤ kids[j].size := by cases kids[j]; rw [RT.size]; omega
        rw [lnsAll_take k _ keys kids j hj']
        generalize hkey : keyIn k ((keys.drop j).headD ⟨#[]⟩) = key at *
        -- where the j-th Kid's line is read
        have head : ∀ (v : Option RT), (∀ X, v = some X → X = kids[j]) → ∃ s', (s' = PL.says ⟨k, keys.take j, kids.take j, key⟩ ⟨2 * ls0.length, k, key, v⟩) ∧ Run ⟨ls0, true, ent⟩ (lnsAll k keys (kids.take j) (2 * ls0.length) ++ [⟨2 * ls0.length, k, key, v⟩]) ⟨ls0 ++ [s'], v.isNone, ent + sizeAll (kids.take j) + 1⟩ := by
          intro v hv
          have hfine : ∀ p : PL, p.k = k → p.dk = keys.take j → p.dd = kids.take j → Ln.fine ⟨2 * ls0.length, k, key, v⟩ p := fun p e1 e2 e3 => by
            refine ⟨hks, e1, ?_, fun X hX => ⟨?_, by rw [hv X hX]; exact hkok j hj'⟩⟩
            · have := key_fine k ((keys.drop j).headD ⟨#[]⟩) hk (keys.take j) (by rw [hkey]; exact hkn)
              rw [hkey] at this
              rw [e2]
              exact this
            · show PL.fits ⟨p.k, p.dk, p.dd, key⟩
              rw [e1, e2, e3]
              exact hf
          refine ⟨_, rfl, ?_⟩
          rcases Nat.eq_zero_or_pos j with rfl | hp
          · simp only [List.take_zero, lnsAll, List.nil_append, sizeAll, Nat.add_zero]
            exact Run.one (Step.first (by rfl) (hfine _ rfl (by simp) (by simp)) (by omega))
          · obtain ⟨tail, hrep, hrun⟩ := ihj hp (by omega)
            obtain ⟨key0, hk0, hsh⟩ := shut_rep hrep ls0
            refine hrun.append (Run.one ?_)
            have hkt : tail ≠ [] := rep_ne hrep
            have hlt : ls0.length < (ls0 ++ tail).length := by rw [List.length_append]; have := List.length_pos_iff.2 hkt; omega
            have := Step.next (ent := ent + sizeAll (kids.take j)) (l := ⟨2 * ls0.length, k, key, v⟩) (by rfl) hlt hsh (hfine _ rfl rfl rfl) (fun h => hk0 h) (by omega)
            have e : PL.says ⟨k, keys.take j, kids.take j, key⟩ ⟨2 * ls0.length, k, key, v⟩ = PL.says ⟨k, keys.take j, kids.take j, key0⟩ ⟨2 * ls0.length, k, key, v⟩ := by cases v <;> rfl
            rw [e]
            exact this
        unfold lnsOf
        rw [hkey]
        by_cases hz : kids[j].kids.length = 0
        · rw [if_pos hz, if_pos hz]
          obtain ⟨s', hs', hrun⟩ := head (some kids[j]) (fun X hX => by injection hX with hX; exact hX.symm)
          have hs1 : s' = ⟨k, keys.take (j + 1), kids.take (j + 1), key⟩ := by rw [hs']; exact hput _ rfl
          subst hs1
          refine ⟨[⟨k, keys.take (j + 1), kids.take (j + 1), key⟩], Rep.whole (key := key) (fun h5 => ?_), ?_⟩
          · have h2 := put_key ⟨k, keys.take j, kids.take j, key⟩ kids[j] h5
            rw [hput _ rfl] at h2
            exact h2
          · have h1 : kids[j].size = 1 := size_leaf hz
            rw [hst, h1, ← Nat.add_assoc]
            exact hrun
        · rw [if_neg hz, if_neg hz]
          obtain ⟨s', hs', hrun⟩ := head none (fun X hX => by cases hX)
          have hs1 : s' = ⟨k, keys.take j, kids.take j, key⟩ := hs'
          subst hs1
          have hsj : kids[j].size = sizeAll kids[j].kids + 1 := by cases hq : kids[j]; rfl
          obtain ⟨tail, hrep, hrun2⟩ := ih kids[j] (List.getElem_mem hj') (hkok j hj') hz (ls0 ++ [⟨k, keys.take j, kids.take j, key⟩]) (ent + sizeAll (kids.take j) + 1) (by omega)
          refine ⟨⟨k, keys.take j, kids.take j, key⟩ :: tail, ?_, ?_⟩
          · have h2 := Rep.more (p := ⟨k, keys.take j, kids.take j, key⟩) hf hrep
            rw [hput _ rfl] at h2
            exact h2
          · have e1 : 2 * (ls0 ++ [(⟨k, keys.take j, kids.take j, key⟩ : PL)]).length = 2 * ls0.length + 2 := by simp; omega
            rw [e1] at hrun2
            have h3 := hrun.append hrun2
            rw [hst, hsj]
            have e2 : ent + sizeAll (kids.take j) + 1 + sizeAll kids[j].kids = ent + (sizeAll (kids.take j) + (sizeAll kids[j].kids + 1)) := by omega
            rw [e2] at h3
            simpa using h3
    obtain ⟨tail, h1, h2⟩ := main kids.length (by omega) (Nat.le_refl _)
    rw [List.take_length] at h1 h2
    refine ⟨tail, ?_, h2⟩
    have hkl : keys.take kids.length = keys := by
      obtain ⟨hh, -⟩ := right_out hr
      unfold HeadOk at hh
      simp only [RT.k, RT.keys, RT.kids] at hh
      refine List.take_of_length_le ?_
      omega
    rw [hkl] at h1
    exact h1
end Go.Proofs.YtmcjghhmcmkomaaGreatDoor

/- plain facts on what is open while an indented text is read: a row of levels, each with its own Keys, Kids and the map of Keys that it has seen; that it stays as worlds go on; its last level; one more level, one less. -/
namespace Go.Proofs.YtmcjghhmcmkomaaGreatDoor
open Go Go.RowKit

/-- One level: its kind, what was read of it, the Key that is read; its three lists, and the blocks that these lie in. -/
structure Ol where
  k : Int
  dk : List ByteArray
  dd : List RT
  key : ByteArray
  kv : Value
  dv : Value
  mv : Value
  FK : List Nat
  FD : List Nat
  FM : List Nat
  ks : List ByteArray

def Ol.cells (l : Ol) : List Value := [.int .i64 l.k, .int .i64 0, .string ⟨#[]⟩, l.kv, l.dv, .int .u8 0, .string l.key, l.mv]
def Ol.blocks (l : Ol) : List Nat := l.FK ++ (l.FD ++ l.FM)

/-- The Keys that a level has seen are those of its Kids, and the one that is due; a list's all have none. -/
def seenOk (l : Ol) : Prop := (l.k = 4 → l.ks = [] ∨ l.ks = [⟨#[]⟩]) ∧ (l.k = 5 → ∀ x ∈ l.ks, x ∈ l.dk ∨ x = l.key)

structure OlOk (w0 wr : World) (l : Ol) : Prop where
  keys : StrsAt wr l.kv l.dk l.FK
  fk : Fresh w0 wr l.FK
  kids : KidsLie wr l.dv l.dd l.FD
  fd : Fresh w0 wr l.FD
  keyl : l.key.size ≤ maxLen
  kind : ∃ mb, l.mv = .map (some mb) ∧ l.FM = [mb] ∧ Seen wr mb l.ks ∧ w0.heap.size ≤ mb ∧ (l.k = 4 ∨ l.k = 5 ∧ l.dk.length = l.dd.length) ∧ seenOk l

theorem OlOk.lt {w0 wr : World} {l : Ol} (h : OlOk w0 wr l) : ∀ b ∈ l.blocks, b < wr.heap.size := by
  intro b hb
  rcases List.mem_append.1 hb with hb | hb
  · exact h.keys.lt b hb
  rcases List.mem_append.1 hb with hb | hb
  · exact h.kids.lt b hb
  · obtain ⟨mb, _, e, hs, _⟩ := h.kind
    rw [e] at hb; simp at hb; subst hb; exact hs.lt

theorem OlOk.old {w0 wr : World} {l : Ol} (h : OlOk w0 wr l) : ∀ b ∈ l.blocks, w0.heap.size ≤ b := by
  intro b hb
  rcases List.mem_append.1 hb with hb | hb
  · exact h.fk.old b hb
  rcases List.mem_append.1 hb with hb | hb
  · exact h.fd.old b hb
  · obtain ⟨mb, _, e, _, hs, _⟩ := h.kind
    rw [e] at hb; simp at hb; subst hb; exact hs

theorem OlOk.carry {w0 wr w1 : World} {l : Ol} (h : OlOk w0 wr l) (hk : ∀ b ∈ l.blocks, w1.heap[b]? = wr.heap[b]?) : OlOk w0 w1 l := by
  have k1 : ∀ b ∈ l.FK, w1.heap[b]? = wr.heap[b]? := fun b hb => hk b (List.mem_append_left _ hb)
  have k2 : ∀ b ∈ l.FD, w1.heap[b]? = wr.heap[b]? := fun b hb => hk b (List.mem_append_right _ (List.mem_append_left _ hb))
  obtain ⟨mb, e2, e3, e4, e5⟩ := h.kind
  exact ⟨h.keys.carry k1, h.fk.carry k1, h.kids.carry k2, h.fd.carry k2, h.keyl, mb, e2, e3, e4.same (hk mb (List.mem_append_right _ (List.mem_append_right _ (by rw [e3]; simp)))), e5⟩

/-- What is open, the outermost first. -/
structure OStk (w0 wr : World) (ov : Value) (ls : List Ol) : Prop where
  row : wr.ownsRow w0.heap.size 140 8 ov ls.length (ls.flatMap Ol.cells)
  each : ∀ l ∈ ls, OlOk w0 wr l
  apart : (ls.flatMap Ol.blocks).Nodup
  mine : ∀ g, ov.ownBlock = some g → g ∉ ls.flatMap Ol.blocks

section
variable {w0 wr w1 : World} {ov : Value} {ls : List Ol}

theorem OStk.start (w0 wr : World) : OStk w0 wr (.slice none 0 0) [] :=
  ⟨World.ownsRow_nil _ _ _ _, fun _ h => absurd h (by simp), by simp, fun g h => by simp [Value.ownBlock] at h⟩

theorem oowns_same {b : Nat} {e : TypeId} {q n : Nat} {v : Value} {xs : List Value} (h : wr.ownsRow b e q v n xs) (hk : ∀ g, v.ownBlock = some g → w1.heap[g]? = wr.heap[g]?) : w1.ownsRow b e q v n xs := by
  refine ⟨h.1, ?_⟩
  rcases h.2 with a | ⟨g, cap, cur, rfl, h1, h2, h3⟩
  · exact .inl a
  · exact .inr ⟨g, cap, cur, rfl, h1, (hk g rfl).trans h2, h3⟩

theorem OStk.carry (h : OStk w0 wr ov ls) (hk : ∀ b, (b ∈ ls.flatMap Ol.blocks ∨ ov.ownBlock = some b) → w1.heap[b]? = wr.heap[b]?) : OStk w0 w1 ov ls :=
  ⟨oowns_same h.row fun g hg => hk g (.inr hg), fun l hl => (h.each l hl).carry fun b hb => hk b (.inl (List.mem_flatMap.2 ⟨l, hl, hb⟩)), h.apart, h.mine⟩

theorem OStk.own (h : OStk w0 wr ov ls) {g : Nat} (hg : ov.ownBlock = some g) : g < wr.heap.size ∧ w0.heap.size ≤ g := by
  rcases h.row.2 with ⟨rfl, _⟩ | ⟨g', cap, cur, rfl, h1, h2, _⟩
  · simp [Value.ownBlock] at hg
  · simp [Value.ownBlock] at hg
    subst hg
    exact ⟨(Array.getElem?_eq_some_iff.1 h2).1, h1⟩

theorem OStk.blocks (h : OStk w0 wr ov ls) {b : Nat} (hb : b ∈ ls.flatMap Ol.blocks ∨ ov.ownBlock = some b) : b < wr.heap.size ∧ w0.heap.size ≤ b := by
  rcases hb with hb | hb
  · obtain ⟨l, hl, hb⟩ := List.mem_flatMap.1 hb
    exact ⟨(h.each l hl).lt b hb, (h.each l hl).old b hb⟩
  · exact h.own hb

/-- The reader's own block, older than all of these, may turn. -/
theorem OStk.next {p : Nat} (h : OStk w0 wr ov ls) (hg : wr.grownBy w1 (some p)) (hp : p < w0.heap.size) : OStk w0 w1 ov ls :=
  h.carry fun b hb => hg.block b (h.blocks hb).1 (fun e => by injection e with e; have := (h.blocks hb).2; omega)

theorem OStk.below (h : OStk w0 wr ov ls) (hb : Below wr.heap.size wr w1) : OStk w0 w1 ov ls :=
  h.carry fun b hx => hb.block b (h.blocks hx).1

theorem ocells_len (l : Ol) : l.cells.length = 8 := rfl

theorem oflat_len : (ls : List Ol) → (ls.flatMap Ol.cells).length = ls.length * 8
  | [] => rfl
  | l :: ls => by rw [List.flatMap_cons, List.length_append, oflat_len ls, ocells_len, List.length_cons]; omega

/-- The last level: where its cells lie. -/
theorem OStk.top {l : Ol} (h : OStk w0 wr ov (ls ++ [l])) : ∃ g cap cur, ov = .slice (some ⟨g, 0, none⟩) (ls.length + 1) cap ∧ wr.heap[g]? = some (.cells cur 140 (0, 0)) ∧ ls.length + 1 ≤ cap ∧ cap ≤ maxLen ∧ cur.size = cap * 8 ∧
    (∀ j, j < 8 → cur[ls.length * 8 + j]? = l.cells[j]?) ∧ cur.toList.take (ls.length * 8) = ls.flatMap Ol.cells ∧ g < wr.heap.size ∧ w0.heap.size ≤ g ∧ g ∉ ls.flatMap Ol.blocks ∧ g ∉ l.blocks := by
  have hl : (ls ++ [l]).length = ls.length + 1 := by simp
  have hrow := h.row
  rw [hl] at hrow
  rcases hrow.2 with ⟨_, h0⟩ | ⟨g, cap, cur, rfl, h1, h2, h3, h4, h5, h6⟩
  · omega
  have hm := h.mine g rfl
  rw [List.flatMap_append, List.mem_append, not_or] at hm
  rw [List.flatMap_append] at h6
  simp only [List.flatMap_cons, List.flatMap_nil, List.append_nil] at h6 hm
  have hfl := oflat_len ls
  refine ⟨g, cap, cur, rfl, h2, h3, h4, h5, fun j hj => ?_, ?_, (Array.getElem?_eq_some_iff.1 h2).1, h1, hm.1, hm.2⟩
  · have e : (cur.toList.take ((ls.length + 1) * 8))[ls.length * 8 + j]? = cur[ls.length * 8 + j]? := by
      rw [List.getElem?_take, if_pos (by omega)]; simp
    rw [← e, h6, List.getElem?_append_right (by omega), hfl]
    congr 1
    omega
  · have := congrArg (List.take (ls.length * 8)) h6
    rw [List.take_take, Nat.min_eq_left (by omega), List.take_append_of_le_length (by omega), List.take_of_length_le (l := ls.flatMap Ol.cells) (by omega)] at this
    exact this

/-- One level less. -/
theorem OStk.pop {l : Ol} {g cap : Nat} (h : OStk w0 wr (.slice (some ⟨g, 0, none⟩) (ls.length + 1) cap) (ls ++ [l])) : OStk w0 wr (.slice (some ⟨g, 0, none⟩) ls.length cap) ls := by
  obtain ⟨g', cap', cur, e, h2, h3, h4, h5, -, h6, -, h7, h8, -⟩ := h.top
  injection e with e1 e2 e3
  injection e1 with e1
  injection e1 with e1
  subst e1 e3
  refine ⟨⟨oflat_len ls, .inr ⟨g, cap, cur, rfl, h7, h2, by omega, h4, h5, h6⟩⟩, fun x hx => h.each x (List.mem_append_left _ hx), ?_, fun q hq => ?_⟩
  · have := h.apart
    rw [List.flatMap_append] at this
    exact (List.nodup_append.1 this).1
  · simp [Value.ownBlock] at hq
    subst hq
    exact h8

/-- The last level is another one now. -/
theorem OStk.turn {l l' : Ol} {g cap : Nat} {cur' : Array Value} (h : OStk w0 wr (.slice (some ⟨g, 0, none⟩) (ls.length + 1) cap) (ls ++ [l])) {w2 : World} (hsz : cur'.size = cap * 8) (hg : w2.heap[g]? = some (.cells cur' 140 (0, 0)))
    (hpre : cur'.toList.take (ls.length * 8) = ls.flatMap Ol.cells) (htop : ∀ j, j < 8 → cur'[ls.length * 8 + j]? = l'.cells[j]?) (hok : OlOk w0 w2 l') (hkeep : ∀ b ∈ ls.flatMap Ol.blocks, w2.heap[b]? = wr.heap[b]?)
    (hap : (ls.flatMap Ol.blocks ++ l'.blocks).Nodup) (hgl : g ∉ l'.blocks) : OStk w0 w2 (.slice (some ⟨g, 0, none⟩) (ls.length + 1) cap) (ls ++ [l']) := by
  obtain ⟨g', cap', cur, e, h2, h3, h4, h5, -, h6, -, h7, h8, -⟩ := h.top
  injection e with e1 e2 e3
  injection e1 with e1
  injection e1 with e1
  subst e1 e3
  have hfl := oflat_len ls
  have hlen : cur'.toList.length = cap * 8 := by simpa using hsz
  refine ⟨⟨by rw [oflat_len], .inr ⟨g, cap, cur', by simp, h7, hg, by simpa using h3, h4, hsz, ?_⟩⟩, fun x hx => ?_, by rw [List.flatMap_append]; simpa using hap, fun q hq => ?_⟩
  · rw [List.flatMap_append]
    simp only [List.flatMap_cons, List.flatMap_nil, List.append_nil, List.length_append, List.length_singleton]
    have e : cur'.toList.take ((ls.length + 1) * 8) = cur'.toList.take (ls.length * 8) ++ (cur'.toList.drop (ls.length * 8)).take 8 := by
      rw [show (ls.length + 1) * 8 = ls.length * 8 + 8 by omega, List.take_add]
    rw [e, hpre]
    congr 1
    refine List.ext_getElem? fun j => ?_
    by_cases hj : j < 8
    · rw [List.getElem?_take, if_pos hj, List.getElem?_drop]
      have := htop j hj
      simpa using this
    · rw [List.getElem?_eq_none (by simp; omega), List.getElem?_eq_none (by rw [ocells_len]; omega)]
  · rcases List.mem_append.1 hx with hx | hx
    · exact (h.each x (List.mem_append_left _ hx)).carry fun b hb => hkeep b (List.mem_flatMap.2 ⟨x, hx, hb⟩)
    · simp at hx; subst hx; exact hok
  · simp [Value.ownBlock] at hq
    subst hq
    rw [List.flatMap_append, List.mem_append, not_or]
    exact ⟨h8, by simpa using hgl⟩
end
end Go.Proofs.YtmcjghhmcmkomaaGreatDoor

/- the outliner's state while lines are read; a tree is put into the last level of what is open. -/
namespace Go.Proofs.YtmcjghhmcmkomaaGreatDoor
open Go Go.RowKit

/-- The outliner's block, while something is open. -/
def OB (w : World) (b : Nat) (ov : Value) (due : Bool) (ent : Nat) : Prop := w.heap[b]? = some (.cells #[ov, .bool due, .int .i64 ent, .int .i64 0, .int .i64 0, .string ⟨#[]⟩, .slice none 0 0, .slice none 0 0] 82 (0, 0))

/-- The state between lines: the outliner, what is open, what is older. -/
structure OMid (w0 wr0 wr : World) (p : Nat) (du : Bool) (en : Nat) (ov : Value) (ls : List Ol) : Prop where
  ob : OB wr p ov du en
  stk : OStk w0 wr ov ls
  kp : Kp w0 p wr0 wr
  hs : w0.heap.size ≤ wr.heap.size

section
variable {w0 wr0 wr : World} {p : Nat} {du : Bool} {en : Nat} {ls : List Ol} {l : Ol} {g cap : Nat}

theorem OMid.below {w0 wr0 wr w1 : World} {p : Nat} {du : Bool} {en : Nat} {ov : Value} {ls : List Ol} (h : OMid w0 wr0 wr p du en ov ls) (hb : Below wr.heap.size wr w1) : OMid w0 wr0 w1 p du en ov ls :=
  ⟨(hb.block p (Array.getElem?_eq_some_iff.1 h.ob).1).trans h.ob, h.stk.below hb, h.kp.trans (Kp.of_below hb h.hs), Nat.le_trans h.hs hb.size⟩

/-- A tree in hand: it lies in memory that is none of what is open. -/
structure OHand (w0 wr : World) (ov : Value) (ls : List Ol) (X : RT) (kx dx : Value) (FX : List Nat) : Prop where
  lies : Lies wr X kx dx FX
  fresh : Fresh w0 wr FX
  apart : ∀ x ∈ FX, x ∉ ls.flatMap Ol.blocks
  mine : ∀ x ∈ FX, ¬ ov.ownBlock = some x

/-- What the last level's cells are, and that its blocks are apart from the others. -/
theorem OMid.parts (h : OMid w0 wr0 wr p du en (.slice (some ⟨g, 0, none⟩) (ls.length + 1) cap) (ls ++ [l])) : ∃ cur, wr.heap[g]? = some (.cells cur 140 (0, 0)) ∧ ls.length + 1 ≤ cap ∧ cap ≤ maxLen ∧ cur.size = cap * 8 ∧ (∀ j, j < 8 → cur[ls.length * 8 + j]? = l.cells[j]?) ∧ cur.toList.take (ls.length * 8) = ls.flatMap Ol.cells ∧
    g < wr.heap.size ∧ w0.heap.size ≤ g ∧ g ∉ ls.flatMap Ol.blocks ∧ g ∉ l.blocks ∧ OlOk w0 wr l ∧ (ls.flatMap Ol.blocks).Nodup ∧ l.blocks.Nodup ∧ ∀ x ∈ ls.flatMap Ol.blocks, x ∉ l.blocks := by
  obtain ⟨g', cap', cur, e, k2, k3, k4, k5, ktop, kpre, k6, k7, k8, k9⟩ := h.stk.top
  injection e with e1 e2 e3
  injection e1 with e1
  injection e1 with e1
  subst e1 e3
  have hap := h.stk.apart
  rw [List.flatMap_append] at hap
  obtain ⟨a1, a2, a3⟩ := List.nodup_append.1 hap
  simp only [List.flatMap_cons, List.flatMap_nil, List.append_nil] at a2 a3
  exact ⟨cur, k2, k3, k4, k5, ktop, kpre, k6, k7, k8, k9, h.stk.each l (by simp), a1, a2, fun x hx hy => a3 x hx x hy rfl⟩

/-- The last level has turned; all else is as it was. -/
theorem OMid.turned (h : OMid w0 wr0 wr p du en (.slice (some ⟨g, 0, none⟩) (ls.length + 1) cap) (ls ++ [l])) (hp : p < w0.heap.size) {w2 : World} {G : List Nat} (hbut : But (g :: G) wr w2) (hG : ∀ x ∈ G, x ∈ l.blocks) {l' : Ol} {cur' : Array Value} (hsz : cur'.size = cap * 8) (hg : w2.heap[g]? = some (.cells cur' 140 (0, 0)))
    (hpre : cur'.toList.take (ls.length * 8) = ls.flatMap Ol.cells) (htop : ∀ j, j < 8 → cur'[ls.length * 8 + j]? = l'.cells[j]?) (hok : OlOk w0 w2 l') (hn : l'.blocks.Nodup) (hap : ∀ x ∈ l'.blocks, x ∉ ls.flatMap Ol.blocks) (hgl : g ∉ l'.blocks) :
    OMid w0 wr0 w2 p du en (.slice (some ⟨g, 0, none⟩) (ls.length + 1) cap) (ls ++ [l']) := by
  obtain ⟨cur, k2, k3, k4, k5, ktop, kpre, k6, k7, k8, k9, hl, a1, a2, a3⟩ := h.parts
  have hold : ∀ b, b < w0.heap.size → w2.heap[b]? = wr.heap[b]? := fun b hb => hbut.block b (Nat.lt_of_lt_of_le hb h.hs) (fun hin => by
    rcases List.mem_cons.1 hin with e | e
    · omega
    · have := hl.old b (hG b e); omega)
  refine ⟨(hold p hp).trans h.ob, h.stk.turn hsz hg hpre htop hok (fun b hb => hbut.block b (h.stk.blocks (.inl (by rw [List.flatMap_append]; exact List.mem_append_left _ hb))).1 (fun hin => ?_)) (nodup_two a1 hn fun x hx hy => hap x hy hx) hgl, h.kp.trans ⟨hbut.os, hbut.tape, hbut.output, hbut.size, fun b hb _ => hold b hb⟩, Nat.le_trans h.hs hbut.size⟩
  rcases List.mem_cons.1 hin with e | e
  · exact k8 (by rw [← e]; exact hb)
  · exact a3 b hb (hG b e)

/-- A Kid is put into a list. -/
theorem OMid.put4 (h : OMid w0 wr0 wr p du en (.slice (some ⟨g, 0, none⟩) (ls.length + 1) cap) (ls ++ [l])) (hp : p < w0.heap.size) (hk : l.k = 4) (hlen : l.dd.length ≤ 1048576) {X : RT} {kx dx : Value} {FX : List Nat} (hX : OHand w0 wr (.slice (some ⟨g, 0, none⟩) (ls.length + 1) cap) (ls ++ [l]) X kx dx FX) :
    Calls Tryz.prog 116 #[.pointer (some ⟨g, ls.length * 8, none⟩), .agg #[.int .i64 X.k, .int .i64 X.n, .string X.s, kx, dx]] wr fun e w' => (∃ v, e = .returned v) ∧ ∃ v' F, OMid w0 wr0 w' p du en (.slice (some ⟨g, 0, none⟩) (ls.length + 1) cap) (ls ++ [{ l with dd := l.dd ++ [X], dv := v', FD := F }]) ∧ But (g :: l.FD) wr w' ∧ ∀ y ∈ F, y ∈ l.blocks ∨ y ∈ FX ∨ wr.heap.size ≤ y := by
  obtain ⟨cur, k2, k3, k4, k5, ktop, kpre, k6, k7, k8, k9, hl, a1, a2, a3⟩ := h.parts
  have hgX : g ∉ FX := fun hin => hX.mine g hin rfl
  have hXl : ∀ x ∈ FX, x ∉ ls.flatMap Ol.blocks ∧ x ∉ l.blocks := fun x hx => by
    have := hX.apart x hx
    rw [List.flatMap_append, List.mem_append, not_or] at this
    exact ⟨this.1, by simpa using this.2⟩
  have hFD : ∀ x ∈ l.FD, x ∈ l.blocks := fun x hx => List.mem_append_right _ (List.mem_append_left _ hx)
  have hFK : ∀ x ∈ l.FK, x ∈ l.blocks := fun x hx => List.mem_append_left _ hx
  have c0 : cur[ls.length * 8]? = some (.int .i64 4) := by have := ktop 0 (by decide); rw [Nat.add_zero] at this; rw [this]; show some (Value.int .i64 l.k) = _; rw [hk]
  have c4 : cur[ls.length * 8 + 4]? = some l.dv := ktop 4 (by decide)
  have hFM : ∀ x ∈ l.FM, x ∈ l.blocks := fun x hx => List.mem_append_right _ (List.mem_append_right _ hx)
  obtain ⟨mb, e1, e2, e3, e4, e5, e6⟩ := hl.kind
  have a2' := a2
  unfold Ol.blocks at a2'
  obtain ⟨n1, n2, n3⟩ := List.nodup_append.1 a2'
  obtain ⟨m1, m2, m3⟩ := List.nodup_append.1 n2
  have hmbl : mb ∈ l.blocks := hFM mb (by rw [e2]; simp)
  refine (Go.Proofs.YtmcjghhmcmkomaaGreatDoor.put4 (w := w0) k2 c0 c4 hl.kids hl.fd hX.lies hX.fresh (fun x hx hy => (hXl x hx).2 (hFD x hy)) hlen h.hs (fun hin => k9 (hFD g hin)) hgX).mono ?_
  rintro e w' ⟨hv, o', c', F, hg', hkids, hfr, hF, hbut⟩
  have hFnot : ∀ x ∈ F, x ∉ ls.flatMap Ol.blocks ∧ x ∉ l.FK ∧ x ≠ g ∧ x ≠ mb := fun x hx => by
    rcases hF x hx with hy | hy | hy
    · have a2' := a2
      unfold Ol.blocks at a2'
      refine ⟨fun hin => a3 x hin (hFD x hy), fun hin => (List.nodup_append.1 a2').2.2 x hin x (List.mem_append_left _ hy) rfl, fun e => k9 (by rw [← e]; exact hFD x hy), fun e => m3 x hy mb (by rw [e2]; simp) e⟩
    · exact ⟨(hXl x hy).1, fun hin => (hXl x hy).2 (hFK x hin), fun e => hgX (by rw [← e]; exact hy), fun e => (hXl x hy).2 (by rw [e]; exact hmbl)⟩
    · refine ⟨fun hin => ?_, fun hin => ?_, fun e => ?_, fun e => ?_⟩
      · have := (h.stk.blocks (.inl (by rw [List.flatMap_append]; exact List.mem_append_left _ hin))).1; omega
      · have := hl.lt x (hFK x hin); omega
      · omega
      · have := e3.lt; omega
  have hkeepK : ∀ b ∈ l.FK, w'.heap[b]? = wr.heap[b]? := fun b hb => hbut.block b (hl.lt b (hFK b hb)) (fun hin => by
    rcases List.mem_cons.1 hin with e | e
    · exact k9 (by rw [← e]; exact hFK b hb)
    · have a2' := a2
      unfold Ol.blocks at a2'
      exact (List.nodup_append.1 a2').2.2 b hb b (List.mem_append_left _ e) rfl)
  have hnk : l.FK.Nodup := hl.fk.nodup
  have hseen : Seen w' mb l.ks := e3.same (hbut.block mb e3.lt (fun hin => by
    rcases List.mem_cons.1 hin with e | e
    · exact k9 (by rw [← e]; exact hmbl)
    · exact m3 mb e mb (by rw [e2]; simp) rfl))
  refine ⟨hv, .slice o' (l.dd.length + 1) c', F, h.turned hp hbut hFD (by rw [Array.size_setIfInBounds]; exact k5) hg' (pre_set kpre _) (top_set k5 k3 ktop 4 (by decide) _ fun j hj => ?_) ⟨hl.keys.carry hkeepK, hl.fk.carry hkeepK, ?_, hfr, hl.keyl, mb, e1, e2, hseen, e4, .inl hk, e6⟩ ?_ ?_ ?_, hbut, fun y hy => (hF y hy).elim (fun h => Or.inl (hFD y h)) Or.inr⟩
  · match j, hj with
    | 0, _ => rfl
    | 1, _ => rfl
    | 2, _ => rfl
    | 3, _ => rfl
    | 4, _ => rfl
    | 5, _ => rfl
    | 6, _ => rfl
    | 7, _ => rfl
  · show KidsLie w' _ (l.dd ++ [X]) F
    exact hkids
  · show (l.FK ++ (F ++ l.FM)).Nodup
    rw [e2]
    refine nodup_two hnk (nodup_two hfr.nodup (by simp) fun x hx hy => ?_) fun x hx hy => ?_
    · simp at hy; exact (hFnot x hx).2.2.2 hy
    · rcases List.mem_append.1 hy with hy | hy
      · exact (hFnot x hy).2.1 hx
      · exact n3 x hx x (List.mem_append_right _ (by rw [e2]; exact hy)) rfl
  · intro x hx
    have hx : x ∈ l.FK ++ (F ++ l.FM) := hx
    rcases List.mem_append.1 hx with hx | hx
    · exact fun hin => a3 x hin (hFK x hx)
    · rcases List.mem_append.1 hx with hx | hx
      · exact (hFnot x hx).1
      · exact fun hin => a3 x hin (hFM x hx)
  · intro hx
    have hx : g ∈ l.FK ++ (F ++ l.FM) := hx
    rcases List.mem_append.1 hx with hx | hx
    · exact k9 (hFK g hx)
    · rcases List.mem_append.1 hx with hx | hx
      · exact (hFnot g hx).2.2.1 rfl
      · exact k9 (hFM g hx)

/-- A Kid is put into a map, under the Key that was read. -/
theorem OMid.put5 (h : OMid w0 wr0 wr p du en (.slice (some ⟨g, 0, none⟩) (ls.length + 1) cap) (ls ++ [l])) (hp : p < w0.heap.size) (hk : l.k = 5) (hlen : l.dd.length ≤ 1048576) (hab : Absent l.dk l.key) (hpl : placeN l.dk l.key = l.dk.length) {X : RT} {kx dx : Value} {FX : List Nat} (hX : OHand w0 wr (.slice (some ⟨g, 0, none⟩) (ls.length + 1) cap) (ls ++ [l]) X kx dx FX) :
    Calls Tryz.prog 116 #[.pointer (some ⟨g, ls.length * 8, none⟩), .agg #[.int .i64 X.k, .int .i64 X.n, .string X.s, kx, dx]] wr fun e w' => (∃ v, e = .returned v) ∧ ∃ u' v' FK F, OMid w0 wr0 w' p du en (.slice (some ⟨g, 0, none⟩) (ls.length + 1) cap) (ls ++ [{ l with dk := l.dk ++ [l.key], dd := l.dd ++ [X], kv := u', dv := v', FK := FK, FD := F }]) ∧ But (g :: (l.FK ++ l.FD)) wr w' ∧ ∀ y ∈ FK ++ F, y ∈ l.blocks ∨ y ∈ FX ∨ wr.heap.size ≤ y := by
  obtain ⟨cur, k2, k3, k4, k5, ktop, kpre, k6, k7, k8, k9, hl, a1, a2, a3⟩ := h.parts
  have hgX : g ∉ FX := fun hin => hX.mine g hin rfl
  have hXl : ∀ x ∈ FX, x ∉ ls.flatMap Ol.blocks ∧ x ∉ l.blocks := fun x hx => by
    have := hX.apart x hx
    rw [List.flatMap_append, List.mem_append, not_or] at this
    exact ⟨this.1, by simpa using this.2⟩
  have hFD : ∀ x ∈ l.FD, x ∈ l.blocks := fun x hx => List.mem_append_right _ (List.mem_append_left _ hx)
  have hFK : ∀ x ∈ l.FK, x ∈ l.blocks := fun x hx => List.mem_append_left _ hx
  have hFM : ∀ x ∈ l.FM, x ∈ l.blocks := fun x hx => List.mem_append_right _ (List.mem_append_right _ hx)
  have hall : ∀ x ∈ l.FK ++ l.FD, x ∈ l.blocks := fun x hx => by
    rcases List.mem_append.1 hx with hx | hx
    · exact hFK x hx
    · exact hFD x hx
  have a2' := a2
  unfold Ol.blocks at a2'
  obtain ⟨n1, n2, n3⟩ := List.nodup_append.1 a2'
  obtain ⟨m1, m2, m3⟩ := List.nodup_append.1 n2
  have c0 : cur[ls.length * 8]? = some (.int .i64 5) := by have := ktop 0 (by decide); rw [Nat.add_zero] at this; rw [this]; show some (Value.int .i64 l.k) = _; rw [hk]
  have c3 : cur[ls.length * 8 + 3]? = some l.kv := ktop 3 (by decide)
  have c4 : cur[ls.length * 8 + 4]? = some l.dv := ktop 4 (by decide)
  have c6 : cur[ls.length * 8 + 6]? = some (.string l.key) := ktop 6 (by decide)
  obtain ⟨mb, e1, e2, e3, e4, e5, e6⟩ := hl.kind
  have e5 : l.dk.length = l.dd.length := by
    rcases e5 with q | ⟨_, q⟩
    · rw [hk] at q; exact absurd q (by decide)
    · exact q
  refine (Go.Proofs.YtmcjghhmcmkomaaGreatDoor.put5 (w := w0) k2 c0 c3 c4 c6 hl.keys hl.fk hl.kids hl.fd hX.lies hX.fresh (fun x hx hy => (hXl x hx).2 (hFD x hy)) (fun x hx hy => (hXl x hx).2 (hFK x hy)) (fun x hx hy => n3 x hx x (List.mem_append_left _ hy) rfl) e5 hlen h.hs (fun hin => k9 (hFK g hin)) (fun hin => k9 (hFD g hin)) hgX hl.keyl hab hpl).mono ?_
  rintro e w' ⟨hv, o3, q3, o4, q4, FK', F, hg', hks, hfk, hK', hkids, hfr, hF, hKF, hbut⟩
  have hout : ∀ x, (x ∈ l.FK ∨ x ∈ l.FD ∨ x ∈ FX ∨ wr.heap.size ≤ x) → x ∉ ls.flatMap Ol.blocks ∧ x ≠ mb ∧ x ≠ g := fun x hx => by
    have hmbl : mb ∈ l.blocks := hFM mb (by rw [e2]; simp)
    rcases hx with hy | hy | hy | hy
    · exact ⟨fun hin => a3 x hin (hFK x hy), fun e => n3 x hy mb (List.mem_append_right _ (by rw [e2]; simp)) e, fun e => k9 (by rw [← e]; exact hFK x hy)⟩
    · exact ⟨fun hin => a3 x hin (hFD x hy), fun e => m3 x hy mb (by rw [e2]; simp) e, fun e => k9 (by rw [← e]; exact hFD x hy)⟩
    · exact ⟨(hXl x hy).1, fun e => (hXl x hy).2 (by rw [e]; exact hmbl), fun e => hgX (by rw [← e]; exact hy)⟩
    · refine ⟨fun hin => ?_, fun e => ?_, fun e => ?_⟩
      · have := (h.stk.blocks (.inl (by rw [List.flatMap_append]; exact List.mem_append_left _ hin))).1; omega
      · have := e3.lt; omega
      · omega
  have hoK : ∀ x ∈ FK', x ∉ ls.flatMap Ol.blocks ∧ x ≠ mb ∧ x ≠ g := fun x hx => hout x ((hK' x hx).elim Or.inl fun h => Or.inr (Or.inr (Or.inr h)))
  have hoD : ∀ x ∈ F, x ∉ ls.flatMap Ol.blocks ∧ x ≠ mb ∧ x ≠ g := fun x hx => hout x ((hF x hx).elim (fun h => Or.inr (Or.inl h)) fun h => h.elim (fun h => Or.inr (Or.inr (Or.inl h))) fun h => Or.inr (Or.inr (Or.inr h)))
  have hseen : Seen w' mb l.ks := e3.same (hbut.block mb e3.lt (fun hin => by
    rcases List.mem_cons.1 hin with e | e
    · exact k9 (by rw [← e]; exact hFM mb (by rw [e2]; simp))
    · rcases List.mem_append.1 e with e | e
      · exact n3 mb e mb (List.mem_append_right _ (by rw [e2]; simp)) rfl
      · exact m3 mb e mb (by rw [e2]; simp) rfl))
  have htop' := top_set (cs' := [Value.int .i64 l.k, .int .i64 0, .string ⟨#[]⟩, .slice o3 (l.dd.length + 1) q3, l.dv, .int .u8 0, .string l.key, l.mv]) k5 k3 ktop 3 (by decide) (.slice o3 (l.dd.length + 1) q3) fun j hj => by
    match j, hj with
    | 0, _ => rfl
    | 1, _ => rfl
    | 2, _ => rfl
    | 3, _ => rfl
    | 4, _ => rfl
    | 5, _ => rfl
    | 6, _ => rfl
    | 7, _ => rfl
  refine ⟨hv, .slice o3 (l.dd.length + 1) q3, .slice o4 (l.dd.length + 1) q4, FK', F, h.turned hp hbut hall (by rw [Array.size_setIfInBounds, Array.size_setIfInBounds]; exact k5) hg' (pre_set (pre_set kpre _) _) (top_set (by rw [Array.size_setIfInBounds]; exact k5) k3 htop' 4 (by decide) _ fun j hj => ?_) ⟨?_, hfk, ?_, hfr, hl.keyl, mb, e1, e2, hseen, e4, .inr ⟨hk, ?_⟩, ?_⟩ ?_ ?_ ?_, hbut, fun y hy => (List.mem_append.1 hy).elim (fun h => (hK' y h).elim (fun h => Or.inl (hFK y h)) fun h => Or.inr (Or.inr h)) fun h => (hF y h).elim (fun h => Or.inl (hFD y h)) Or.inr⟩
  · match j, hj with
    | 0, _ => rfl
    | 1, _ => rfl
    | 2, _ => rfl
    | 3, _ => rfl
    | 4, _ => rfl
    | 5, _ => rfl
    | 6, _ => rfl
    | 7, _ => rfl
  · exact hks
  · exact hkids
  · show (l.dk ++ [l.key]).length = (l.dd ++ [X]).length
    simp [e5]
  · refine ⟨fun h4 => ?_, fun _ x hx => ?_⟩
    · have h4 : l.k = 4 := h4
      rw [hk] at h4; exact absurd h4 (by decide)
    · show x ∈ l.dk ++ [l.key] ∨ x = l.key
      rcases e6.2 hk x hx with hx | hx
      · exact .inl (List.mem_append_left _ hx)
      · exact .inr hx
  · show (FK' ++ (F ++ l.FM)).Nodup
    rw [e2]
    refine nodup_two hfk.nodup (nodup_two hfr.nodup (by simp) fun x hx hy => ?_) fun x hx hy => ?_
    · simp at hy; exact (hoD x hx).2.1 hy
    · rcases List.mem_append.1 hy with hy | hy
      · exact hKF x hx hy
      · simp at hy; exact (hoK x hx).2.1 hy
  · intro x hx
    have hx : x ∈ FK' ++ (F ++ l.FM) := hx
    rcases List.mem_append.1 hx with hx | hx
    · exact (hoK x hx).1
    · rcases List.mem_append.1 hx with hx | hx
      · exact (hoD x hx).1
      · exact fun hin => a3 x hin (hFM x hx)
  · intro hx
    have hx : g ∈ FK' ++ (F ++ l.FM) := hx
    rcases List.mem_append.1 hx with hx | hx
    · exact (hoK g hx).2.2 rfl
    · rcases List.mem_append.1 hx with hx | hx
      · exact (hoD g hx).2.2 rfl
      · exact k9 (hFM g hx)
end
end Go.Proofs.YtmcjghhmcmkomaaGreatDoor
