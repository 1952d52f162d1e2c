/-
  What is proved: the model's Quote, at every text: empty when it is not right; else its bytes between two marks, with a stroke ahead of a mark or a stroke.; plain facts on the text that a tree is written as in braces: its parts, one behind the other, and how long it is at most.; the model's Braced, at every tree: empty when it is not right; else what its parts are written as.; plain facts on a map without one Key.
-/
import Derived.Test.YtfmkhogpnnobeaaGreatDoorPartAO
import Derived.Test.YtfmkhogpnnobeaaGreatDoorPartAC
import Derived.Lib.AppendZeros
import Derived.Test.YtfmkhogpnnobeaaGreatDoorPartAE
import Derived.Lib.Join
import Derived.Test.YtfmkhogpnnobeaaGreatDoorPartAF
/- the model's Quote, at every text: empty when it is not right; else its bytes between two marks, with a stroke ahead of a mark or a stroke. -/
namespace Go.Proofs.YtfmkhogpnnobeaaGreatDoor
open Go Go.RowKit

def esc (b : UInt8) : List UInt8 := if b = 34 ∨ b = 92 then [92, b] else [b]
/-- What stands between the marks. -/
def escAll (l : List UInt8) : List UInt8 := l.flatMap esc
def quoteL (l : List UInt8) : List UInt8 := [34] ++ escAll l ++ [34]
/-- What Quote answers. -/
def quoteT (s : ByteArray) : ByteArray := if textOk s = true then ⟨(quoteL s.data.toList).toArray⟩ else ⟨#[]⟩

theorem esc_length (b : UInt8) : (esc b).length ≤ 2 := by unfold esc; split <;> simp
theorem escAll_length (l : List UInt8) : (escAll l).length ≤ 2 * l.length := by
  induction l with
  | nil => simp [escAll]
  | cons b l ih =>
    have := esc_length b
    simp only [escAll, List.flatMap_cons, List.length_append, List.length_cons] at ih ⊢
    omega

theorem escAll_take {s : ByteArray} {k : Nat} (h : k < s.size) : escAll (s.data.toList.take (k + 1)) = escAll (s.data.toList.take k) ++ esc s[k] := by
  rw [List.take_succ_eq_append_getElem (by simpa using h)]
  simp only [escAll, List.flatMap_append, List.flatMap_cons, List.flatMap_nil, List.append_nil]
  rfl

theorem u8_ne {x y : UInt8} (h : ¬ x = y) : ¬ ((x.toNat : Int) = (y.toNat : Int)) := fun e => h (UInt8.toNat_inj.1 (by omega))

/-- An append, as the list that it is. -/
theorem list_append {P : Program} {w : World} {ops : Array Oper} {rest : List Oper} {o : Oper} {a : Act} {Q : Exit → Act → World → Prop} (hgd : o.guard = none) (s x : Operand) (t : TypeId) (ho : o.op = .call { callee := .builtin .append, args := #[s, x], argTypes := #[t, t] }) (v u : Value) (hs : a.eval s = v) (hx : a.eval x = u)
    {R : Value → World → Prop} (hr : ∃ v' w', (Builtin.append_ #[t, t] o.type #[v, u]).run P w = .ok v' w' ∧ R v' w') (h : ∀ v' w', R v' w' → wpList P ops Q rest (a.put o.dst v') w') : wpList P ops Q (o :: rest) a w := by
  obtain ⟨v', w', h1, h2⟩ := hr
  exact Lib.wpList_append_run w hgd s x t t ho v u hs hx v' w' h1 (h v' w' h2)

set_option maxRecDepth 100000 in
set_option maxHeartbeats 1000000 in
theorem spec_quote (s : ByteArray) (hm : s.size ≤ maxLen) (w : World) :
    Calls Tryz.prog 120 #[.string s] w fun e w' => e = .returned (.string (quoteT s)) ∧ Below w.heap.size w w' := by
  by_cases hok : textOk s = true
  · have hlen : s.size ≤ 400 := by
      unfold textOk at hok
      simp only [Bool.and_eq_true, decide_eq_true_eq] at hok
      exact hok.1
    have hq : Hid (quoteT s = ⟨(quoteL s.data.toList).toArray⟩) := if_pos hok
    have HT : Hid (∀ (wr : World) (v : Value) (l : List UInt8), Byts w wr v l → (convert 123 9 v).run Tryz.prog wr = .ok (.string ⟨l.toArray⟩) wr) := fun wr v l h => h.text
    have t1 : True := trivial
    go_enter Tryz.func120, Tryz.ntmps120
    go_wp2_with (first
      | (go_at_call 92; refine (spec_textOk s hm _).mono ?_; rintro e w1 ⟨rfl, hb1⟩; subst w1; rw [hok]; clear t1)
      | fail)
    unfold maxLen at hm
    go_loopw [3, 4] (fun v q wr => ∃ (k n : Nat) (o : Option Addr) (c : Nat), k ≤ s.size ∧ n ≤ 1 + 2 * k ∧ v = .slice o n c ∧ q = .int .i64 k ∧ Hid (∃ l : List UInt8, l = [34] ++ escAll (s.data.toList.take k) ∧ l.length = n ∧ Byts w wr (.slice o n c) l ∧ Below w.heap.size w wr)) (fun _ q _ => s.size - (intOf q).toNat)
    case atStart => exact ⟨0, 1, _, 1, Nat.zero_le _, by omega, rfl, rfl, [34], rfl, rfl, Byts.one (Nat.le_refl _) 34, (Below.refl _ w).alloc (Nat.le_refl _) _⟩
    case round =>
      obtain ⟨k, n, o, c, hk, hn, rfl, rfl, hr⟩ := hrel
      obtain ⟨l, hl, hln, hby, hbl⟩ := hr.out
      subst hln
      have HB := Lib.hid (And.intro hby hbl)
      have HLL := Lib.hid hl
      clear hby hbl hr hl
      by_cases hlt : k < s.size
      · have HL : Hid (l ++ esc s[k] = [34] ++ escAll (s.data.toList.take (k + 1))) := by
          show _ = _
          rw [escAll_take hlt, HLL.out, List.append_assoc]
        have hlt' : (k : Int) < (s.size : Int) := by omega
        have t2 : True := trivial
        have HM : Hid (∀ (wr1 : World) (o1 : Option Addr) (n1 c1 : Nat) (l1 : List UInt8) (z : Int) (b : UInt8), z = b.toNat → l1.length = n1 → Byts w wr1 (.slice o1 n1 c1) l1 → Below w.heap.size w wr1 → n1 ≤ 1000 → ∀ ty, ∃ v' w', (Builtin.append_ #[123, 123] ty #[.slice o1 n1 c1, .slice (some ⟨wr1.heap.size, 0, none⟩) 1 1]).run Tryz.prog (wr1.alloc (.cells #[.int .u8 z] 5)) = .ok v' w' ∧ ∃ o' c', v' = .slice o' (n1 + 1) c' ∧ Byts w w' (.slice o' (n1 + 1) c') (l1 ++ [b]) ∧ Below w.heap.size w w') := fun wr1 o1 n1 c1 l1 z b hz hn1 h1 h2 h3 ty => by
          subst hn1 hz
          obtain ⟨v', w', g1, o', c', g2, g3, g4⟩ := h1.more h2.size b (by omega) ty
          exact ⟨v', w', g1, o', c', g2, g3, h2.trans g4⟩
        obtain ⟨b, hb⟩ : ∃ b : UInt8, s[k] = b := ⟨_, rfl⟩
        rw [hb] at HL
        by_cases hq : b = 34 ∨ b = 92
        · have HE : Hid (esc b = [92, b]) := if_pos hq
          have HL2 : Hid ((l ++ [92]) ++ [b] = [34] ++ escAll (s.data.toList.take (k + 1))) := by
            have h1 := HL.out
            rw [HE.out] at h1
            show _ = _
            rw [← h1]
            simp
          clear HL HE
          rcases hq with hq | hq
          · subst hq
            have e1 : ((s[k].toNat : Int) == 34) = true := by rw [hb]; rfl
            go_wp2_with (first
              | (at_builtin; clear t2; refine list_append rfl _ _ 123 rfl _ _ rfl rfl (HM.out _ o l.length c l 92 92 rfl rfl HB.out.1 HB.out.2 (by omega) _) ?_; rintro v2 w2 ⟨o2, c2, rfl, h1, h2⟩; have H2 := Lib.hid (And.intro h1 h2); clear h1 h2)
              | (at_builtin; refine list_append rfl _ _ 123 rfl _ _ rfl rfl (HM.out _ o2 (l.length + 1) c2 (l ++ [92]) 34 34 rfl (by simp) H2.out.1 H2.out.2 (by omega) _) ?_; rintro v3 w3 ⟨o3, c3, rfl, h1, h2⟩; have H3 := Lib.hid (And.intro h1 h2); clear h1 h2)
              | fail)
            exact ⟨⟨k + 1, l.length + 1 + 1, o3, c3, hlt, by omega, rfl, by go_num, _, HL2.out, by simp, H3.out.1, H3.out.2⟩, by simp [intOf]; omega⟩
          · subst hq
            have e1 : ((s[k].toNat : Int) == 34) = false := by rw [hb]; rfl
            have e2 : ((s[k].toNat : Int) == 92) = true := by rw [hb]; rfl
            go_wp2_with (first
              | (at_builtin; clear t2; refine list_append rfl _ _ 123 rfl _ _ rfl rfl (HM.out _ o l.length c l 92 92 rfl rfl HB.out.1 HB.out.2 (by omega) _) ?_; rintro v2 w2 ⟨o2, c2, rfl, h1, h2⟩; have H2 := Lib.hid (And.intro h1 h2); clear h1 h2)
              | (at_builtin; refine list_append rfl _ _ 123 rfl _ _ rfl rfl (HM.out _ o2 (l.length + 1) c2 (l ++ [92]) 92 92 rfl (by simp) H2.out.1 H2.out.2 (by omega) _) ?_; rintro v3 w3 ⟨o3, c3, rfl, h1, h2⟩; have H3 := Lib.hid (And.intro h1 h2); clear h1 h2)
              | fail)
            exact ⟨⟨k + 1, l.length + 1 + 1, o3, c3, hlt, by omega, rfl, by go_num, _, HL2.out, by simp, H3.out.1, H3.out.2⟩, by simp [intOf]; omega⟩
        · have HE : Hid (esc b = [b]) := if_neg hq
          have e1 : ((b.toNat : Int) == 34) = false := by simpa using u8_ne (fun h => hq (.inl h))
          have e2 : ((b.toNat : Int) == 92) = false := by simpa using u8_ne (fun h => hq (.inr h))
          go_wp2_with (first
            | (at_builtin; refine list_append rfl _ _ 123 rfl _ _ rfl rfl (HM.out _ o l.length c l _ b rfl rfl HB.out.1 HB.out.2 (by omega) _) ?_; rintro v2 w2 ⟨o2, c2, rfl, h1, h2⟩; have H2 := Lib.hid (And.intro h1 h2); clear h1 h2)
            | fail)
          have HF : Hid (l ++ [b] = [34] ++ escAll (s.data.toList.take (k + 1))) := by
            have h1 := HL.out
            rw [HE.out] at h1
            exact h1
          exact ⟨⟨k + 1, l.length + 1, o2, c2, hlt, by omega, rfl, by go_num, l ++ [b], HF.out, by simp, H2.out.1, H2.out.2⟩, by simp [intOf]; omega⟩
      · have e : k = s.size := by omega
        subst e
        have HM : Hid (∀ ty, ∃ v' w', (Builtin.append_ #[123, 123] ty #[.slice o l.length c, .slice (some ⟨wr.heap.size, 0, none⟩) 1 1]).run Tryz.prog (wr.alloc (.cells #[.int .u8 34] 5)) = .ok v' w' ∧ ∃ o' c', v' = .slice o' (l.length + 1) c' ∧ Byts w w' (.slice o' (l.length + 1) c') (l ++ [34]) ∧ Below w.heap.size w w') := fun ty => by
          obtain ⟨v', w', g1, o', c', g2, g3, g4⟩ := HB.out.1.more HB.out.2.size 34 (by omega) ty
          exact ⟨v', w', g1, o', c', g2, g3, HB.out.2.trans g4⟩
        have HQ : Hid (quoteT s = ⟨(l ++ [34]).toArray⟩) := by
          have h1 := hq.out
          have h2 := HLL.out
          rw [List.take_of_length_le (by simp)] at h2
          show _ = _
          rw [h1, h2]
          rfl
        go_wp2_with (first
          | (at_builtin; refine list_append rfl _ _ 123 rfl _ _ rfl rfl (HM.out _) ?_; rintro v2 w2 ⟨o2, c2, rfl, h1, h2⟩; have H2 := Lib.hid (And.intro h1 h2); have ht := HT.out _ _ _ h1; clear h1 h2)
          | fail)
        go_ret
        exact ⟨by rw [HQ.out]; rfl, H2.out.2⟩
  · have hq : Hid (quoteT s = ⟨#[]⟩) := if_neg hok
    have hok' : textOk s = false := by simpa using hok
    go_enter Tryz.func120, Tryz.ntmps120
    go_wp2_with (first
      | (go_at_call 92; refine (spec_textOk s hm _).mono ?_; rintro e w1 ⟨rfl, hb1⟩; subst w1; rw [hok'])
      | fail)
    go_ret
    exact ⟨by rw [hq.out]; rfl, Below.refl _ _⟩
end Go.Proofs.YtfmkhogpnnobeaaGreatDoor

/- plain facts on the text that a tree is written as in braces: its parts, one behind the other, and how long it is at most. -/
namespace Go.Proofs.YtfmkhogpnnobeaaGreatDoor
open Go Go.RowKit

/-- A key, and what stands behind it. -/
def keyed (key : ByteArray) (p : List UInt8) : List UInt8 := (quoteT key).data.toList ++ ([58] ++ p)

mutual
/-- What a right tree is written as. -/
def RT.brac : RT → List UInt8
  | .node k n s keys kids =>
    if k = 0 then [110, 117, 108, 108]
    else if k = 1 then (if n = 1 then [116, 114, 117, 101] else [102, 97, 108, 115, 101])
    else if k = 2 then Lib.itoa n
    else if k = 3 then (quoteT s).data.toList
    else if k = 4 then [91] ++ (Lib.join (bracAll kids) [44] ++ [93])
    else [123] ++ (Lib.join (List.zipWith keyed keys (bracAll kids)) [44] ++ [125])
def bracAll : List RT → List (List UInt8)
  | [] => []
  | t :: ts => t.brac :: bracAll ts
end

theorem bracAll_length (l : List RT) : (bracAll l).length = l.length := by
  induction l with
  | nil => rfl
  | cons t l ih => simp [bracAll, ih]

theorem bracAll_get (l : List RT) (i : Nat) (h : i < l.length) : (bracAll l)[i]? = some l[i].brac := by
  induction l generalizing i with
  | nil => simp at h
  | cons t l ih =>
    cases i with
    | zero => simp [bracAll]
    | succ i => simpa [bracAll] using ih i (by simpa using h)

/-- The parts of a list, or of a map. -/
def partsOf (k : Int) (keys : List ByteArray) (kids : List RT) : List (List UInt8) := if k = 4 then bracAll kids else List.zipWith keyed keys (bracAll kids)

theorem partsOf_length {k : Int} {keys : List ByteArray} {kids : List RT} (h : k = 4 ∨ keys.length = kids.length) : (partsOf k keys kids).length = kids.length := by
  unfold partsOf
  split
  · exact bracAll_length _
  · rename_i h4
    rw [List.length_zipWith, bracAll_length]
    omega

theorem partsOf_list {keys : List ByteArray} {kids : List RT} (i : Nat) (h : i < kids.length) : (partsOf 4 keys kids)[i]? = some kids[i].brac := by
  unfold partsOf
  rw [if_pos rfl, bracAll_get kids i h]

theorem partsOf_map {keys : List ByteArray} {kids : List RT} (i : Nat) (h : i < kids.length) (hk : i < keys.length) : (partsOf 5 keys kids)[i]? = some (keyed keys[i] kids[i].brac) := by
  unfold partsOf
  rw [if_neg (by decide), List.getElem?_zipWith, bracAll_get kids i h, List.getElem?_eq_getElem hk]

theorem brac0 {n : Int} {s : ByteArray} {keys : List ByteArray} {kids : List RT} : (RT.node 0 n s keys kids).brac = [110, 117, 108, 108] := by simp [RT.brac]
theorem brac1 {n : Int} {s : ByteArray} {keys : List ByteArray} {kids : List RT} : (RT.node 1 n s keys kids).brac = if n = 1 then [116, 114, 117, 101] else [102, 97, 108, 115, 101] := by simp [RT.brac]
theorem brac2 {n : Int} {s : ByteArray} {keys : List ByteArray} {kids : List RT} : (RT.node 2 n s keys kids).brac = Lib.itoa n := by simp [RT.brac]
theorem brac3 {n : Int} {s : ByteArray} {keys : List ByteArray} {kids : List RT} : (RT.node 3 n s keys kids).brac = (quoteT s).data.toList := by simp [RT.brac]
theorem brac4 {n : Int} {s : ByteArray} {keys : List ByteArray} {kids : List RT} : (RT.node 4 n s keys kids).brac = [91] ++ (Lib.join (partsOf 4 keys kids) [44] ++ [93]) := by simp [RT.brac, partsOf]
theorem brac5 {n : Int} {s : ByteArray} {keys : List ByteArray} {kids : List RT} : (RT.node 5 n s keys kids).brac = [123] ++ (Lib.join (partsOf 5 keys kids) [44] ++ [125]) := by simp [RT.brac, partsOf]

/-- One part more. -/
theorem join_take_succ (xs : List (List UInt8)) (sep : List UInt8) (i : Nat) (y : List UInt8) (h : xs[i]? = some y) : Lib.join (xs.take (i + 1)) sep = Lib.join (xs.take i) sep ++ ((if i = 0 then [] else sep) ++ y) := by
  cases xs with
  | nil => simp at h
  | cons x r =>
    cases i with
    | zero =>
      simp at h
      subst h
      simp [Lib.join_one, Lib.join_nil]
    | succ i =>
      rw [List.take_succ_cons, List.take_succ_cons, Lib.join_cons, Lib.join_cons, Lib.joinTail_take_succ sep r i y (by simpa using h), if_neg (by omega)]
      simp

theorem join_take_end (xs : List (List UInt8)) (sep : List UInt8) (i : Nat) (h : xs.length ≤ i) : Lib.join (xs.take i) sep = Lib.join xs sep := by
  rw [List.take_of_length_le h]

/-! ### How long -/

theorem quoteT_length (s : ByteArray) : (quoteT s).data.toList.length ≤ 802 := by
  unfold quoteT
  split
  · rename_i h
    have h1 : s.size ≤ 400 := by
      unfold textOk at h
      simp only [Bool.and_eq_true, decide_eq_true_eq] at h
      exact h.1
    have h2 := escAll_length s.data.toList
    have h3 : s.data.toList.length = s.size := by simp
    simp only [quoteL, List.length_append, List.length_cons, List.length_nil]
    omega
  · simp

theorem keyed_length (key : ByteArray) (p : List UInt8) : (keyed key p).length ≤ 803 + p.length := by
  have := quoteT_length key
  simp only [keyed, List.length_append, List.length_cons, List.length_nil]
  omega

/-- Parts, none of them longer than their trees have it. -/
theorem join_parts_le (f : Nat) : (xs : List (List UInt8)) → (kids : List RT) → xs.length = kids.length → (∀ i (h : i < kids.length) y, xs[i]? = some y → y.length + 1 ≤ f * kids[i].size) → (Lib.joinTail [44] xs).length ≤ f * sizeAll kids
  | [], kids, _, _ => by simp [Lib.joinTail]
  | x :: xs, [], h, _ => by simp at h
  | x :: xs, t :: kids, h, hy => by
    have h1 := hy 0 (by simp) x rfl
    have h2 := join_parts_le f xs kids (by simpa using h) (fun i hi y hx => hy (i + 1) (by simpa using hi) y (by simpa using hx))
    simp only [List.getElem_cons_zero] at h1
    rw [Lib.joinTail_length] at h2 ⊢
    simp only [Lib.lens, List.map_cons, List.sum_cons, List.length_cons, List.length_nil, sizeAll, Nat.mul_add] at h2 ⊢
    omega

theorem join_le_tail (xs : List (List UInt8)) : (Lib.join xs [44]).length ≤ (Lib.joinTail [44] xs).length := by
  cases xs with
  | nil => simp [Lib.join_nil]
  | cons x r =>
    rw [Lib.join_length, Lib.joinTail_length]
    simp

theorem join_take_le (xs : List (List UInt8)) (i : Nat) : (Lib.join (xs.take i) [44]).length ≤ (Lib.joinTail [44] xs).length :=
  Nat.le_trans (join_le_tail _) (Lib.joinTail_take_le [44] xs i)

theorem right_out {T : RT} (h : T.right = true) : HeadOk T ∧ ∀ i (h : i < T.kids.length), T.kids[i].right = true := by
  obtain ⟨k, n, s, keys, kids⟩ := T
  rw [RT.right, Bool.and_eq_true] at h
  refine ⟨?_, (rightAll_iff kids).1 h.2⟩
  exact @of_decide_eq_true _ (Classical.propDecidable _) h.1

theorem parts_le {k : Int} {keys : List ByteArray} {kids : List RT} (hk : k = 4 ∨ (k = 5 ∧ keys.length = kids.length)) (ih : ∀ i (h : i < kids.length), kids[i].brac.length + 804 ≤ 1700 * kids[i].size) :
    (Lib.joinTail [44] (partsOf k keys kids)).length ≤ 1700 * sizeAll kids := by
  refine join_parts_le 1700 _ _ (partsOf_length (by rcases hk with h | h; exact .inl h; exact .inr h.2)) fun i hi y hy => ?_
  have h1 := ih i hi
  rcases hk with rfl | ⟨rfl, hl⟩
  · rw [partsOf_list i hi] at hy
    obtain rfl := Option.some.inj hy
    omega
  · rw [partsOf_map i hi (by omega)] at hy
    obtain rfl := Option.some.inj hy
    have := keyed_length (keys[i]'(by omega)) kids[i].brac
    omega

theorem brac_le (T : RT) : T.right = true → T.brac.length + 804 ≤ 1700 * T.size := by
  induction T using RT.ind with
  | h k n s keys kids ih =>
    intro hr
    obtain ⟨hh, hk⟩ := right_out hr
    have hs : (RT.node k n s keys kids).size = sizeAll kids + 1 := rfl
    have hi : ∀ i (h : i < kids.length), kids[i].brac.length + 804 ≤ 1700 * kids[i].size := fun i h => ih _ (List.getElem_mem h) (hk i h)
    rw [hs]
    simp only [HeadOk, RT.k, RT.n, RT.s, RT.keys, RT.kids] at hh
    rcases hh with ⟨rfl, h⟩ | ⟨rfl, h⟩ | ⟨rfl, h, -⟩ | ⟨rfl, h⟩ | ⟨rfl, h⟩ | ⟨rfl, h, h2, h3, h4⟩
    · rw [brac0]; simp; omega
    · rw [brac1]; split <;> simp <;> omega
    · rw [brac2]
      have := Num.itoa_length n (by omega) (by omega)
      omega
    · rw [brac3]
      have := quoteT_length s
      omega
    · rw [brac4]
      have h1 := parts_le (k := 4) (keys := keys) (.inl rfl) hi
      have h2 := join_le_tail (partsOf 4 keys kids)
      simp only [List.length_append, List.length_cons, List.length_nil]
      omega
    · rw [brac5]
      have h1 := parts_le (k := 5) (keys := keys) (.inr ⟨rfl, h3⟩) hi
      have h2 := join_le_tail (partsOf 5 keys kids)
      simp only [List.length_append, List.length_cons, List.length_nil]
      omega

/-- What has been written of a list or a map, up to a part. -/
theorem parts_take_le {k n : Int} {s : ByteArray} {keys : List ByteArray} {kids : List RT} (hr : (RT.node k n s keys kids).right = true) (hk : k = 4 ∨ k = 5) (i : Nat) : (Lib.join ((partsOf k keys kids).take i) [44]).length ≤ 1700 * sizeAll kids := by
  obtain ⟨hh, hkk⟩ := right_out hr
  refine Nat.le_trans (join_take_le _ i) (parts_le ?_ fun i h => brac_le _ (hkk i h))
  rcases hk with rfl | rfl
  · exact .inl rfl
  · simp only [HeadOk, RT.k, RT.n, RT.s, RT.keys, RT.kids] at hh
    exact .inr ⟨rfl, by omega⟩
end Go.Proofs.YtfmkhogpnnobeaaGreatDoor

/- the model's Braced, at every tree: empty when it is not right; else what its parts are written as. -/
namespace Go.Proofs.YtfmkhogpnnobeaaGreatDoor
open Go Go.RowKit

/-- A text of these bytes. -/
def txt (l : List UInt8) : Value := .string ⟨l.toArray⟩

def TextAt (T : RT) : Prop := ∀ (w : World) (kv dv : Value) (F : List Nat), Lies w T kv dv F → T.right = true → T.size ≤ 200 →
  Calls Tryz.prog 83 #[.agg #[.int .i64 T.k, .int .i64 T.n, .string T.s, kv, dv]] w fun e w' => e = .returned (.string ⟨T.brac.toArray⟩) ∧ Below w.heap.size w w'

section
variable (n : Int) (s : ByteArray) (kv dv : Value) (w : World)

set_option maxHeartbeats 400000 in
theorem text0 : Calls Tryz.prog 83 #[.agg #[.int .i64 0, .int .i64 n, .string s, kv, dv]] w fun e w' => e = .returned (.string ⟨#[110, 117, 108, 108]⟩) ∧ Below w.heap.size w w' := by
  go_enter Tryz.func83, Tryz.ntmps83
  go_wp2
  go_ret
  exact ⟨rfl, (Below.refl _ w).alloc (Nat.le_refl _) _⟩

set_option maxHeartbeats 400000 in
theorem text1 : Calls Tryz.prog 83 #[.agg #[.int .i64 1, .int .i64 n, .string s, kv, dv]] w fun e w' => e = .returned (.string ⟨(if n = 1 then [116, 114, 117, 101] else [102, 97, 108, 115, 101] : List UInt8).toArray⟩) ∧ Below w.heap.size w w' := by
  by_cases h : n = 1
  · rw [if_pos h]
    subst h
    go_enter Tryz.func83, Tryz.ntmps83
    go_wp2
    go_ret
    exact ⟨rfl, (Below.refl _ w).alloc (Nat.le_refl _) _⟩
  · rw [if_neg h]
    go_enter Tryz.func83, Tryz.ntmps83
    go_wp2
    go_ret
    exact ⟨rfl, (Below.refl _ w).alloc (Nat.le_refl _) _⟩

set_option maxHeartbeats 400000 in
theorem text2 (h0 : -1000000000000 ≤ n) (h1 : n ≤ 1000000000000) : Calls Tryz.prog 83 #[.agg #[.int .i64 2, .int .i64 n, .string s, kv, dv]] w fun e w' => e = .returned (.string ⟨(Lib.itoa n).toArray⟩) ∧ Below w.heap.size w w' := by
  have HX := Lib.hid (Box.start w (.int .i64 2) (.int .i64 n) (.string s) kv dv 32)
  have HD := Lib.hid (spec_digits n (by omega) (by omega))
  clear h0 h1
  go_enter Tryz.func83, Tryz.ntmps83
  go_wp2_with (first
    | (go_at_call 119; refine (HD.out _).mono ?_; rintro e w1 ⟨rfl, hb1⟩; have HB := Lib.hid (HX.out.next hb1).below; clear hb1)
    | fail)
  go_ret
  exact ⟨rfl, HB.out⟩

set_option maxHeartbeats 400000 in
theorem text3 (hs : s.size ≤ maxLen) : Calls Tryz.prog 83 #[.agg #[.int .i64 3, .int .i64 n, .string s, kv, dv]] w fun e w' => e = .returned (.string (quoteT s)) ∧ Below w.heap.size w w' := by
  have HX := Lib.hid (Box.start w (.int .i64 3) (.int .i64 n) (.string s) kv dv 32)
  have HD := Lib.hid (spec_quote s hs)
  go_enter Tryz.func83, Tryz.ntmps83
  go_wp2_with (first
    | (go_at_call 120; refine (HD.out _).mono ?_; rintro e w1 ⟨rfl, hb1⟩; have HB := Lib.hid (HX.out.next hb1).below; clear hb1)
    | fail)
  go_ret
  exact ⟨rfl, HB.out⟩
end

theorem cat_list (A B : ByteArray) : (A ++ B).data.toList = A.data.toList ++ B.data.toList := by simp
theorem ext_list {A : ByteArray} {l : List UInt8} (h : A.data.toList = l) : A = ⟨l.toArray⟩ := by rw [← h]
theorem mk_size (l : List UInt8) : (⟨l.toArray⟩ : ByteArray).size = l.length := rfl
theorem size_of_list {S : ByteArray} {l : List UInt8} (h : S.data.toList = l) : S.size = l.length := by rw [← h]; simp

set_option maxRecDepth 100000 in
set_option maxHeartbeats 1000000 in
theorem text4 (n : Int) (s : ByteArray) (keys : List ByteArray) (kids : List RT) (ih : ∀ t ∈ kids, TextAt t) (w : World) (kv dv : Value) (FD : List Nat) (hD : KidsLie w dv kids FD) (hr : (RT.node 4 n s keys kids).right = true) (hz : (RT.node 4 n s keys kids).size ≤ 200) :
    Calls Tryz.prog 83 #[.agg #[.int .i64 4, .int .i64 n, .string s, kv, dv]] w fun e w' => e = .returned (.string ⟨((RT.node 4 n s keys kids).brac).toArray⟩) ∧ Below w.heap.size w w' := by
  have hz' : sizeAll kids + 1 ≤ 200 := hz
  have HT := Lib.hid (fun i => parts_take_le hr (.inl rfl) i)
  have HK : Hid (∀ i (h : i < kids.length), kids[i].right = true) := (right_out hr).2
  have HBR : Hid ((RT.node 4 n s keys kids).brac = [91] ++ (Lib.join (partsOf 4 keys kids) [44] ++ [93])) := brac4
  generalize (RT.node 4 n s keys kids).brac = BR at *
  clear hr hz
  obtain ⟨o, cap, b, off, FF, KV, DV, rfl, hlc, hcm, ho, -, hcell, hlies, -⟩ := hD
  have HX := Lib.hid (Box.start w (.int .i64 4) (.int .i64 n) (.string s) kv (.slice o kids.length cap) 32)
  have HC := Lib.hid hcell
  have HL := Lib.hid hlies
  have HO := Lib.hid ho
  clear hcell hlies ho
  unfold maxLen at hcm
  go_enter Tryz.func83, Tryz.ntmps83
  go_wp2
  go_loopw [5, 6] (fun v q wr => ∃ (j : Nat) (S : ByteArray), j ≤ kids.length ∧ v = .string S ∧ q = .int .i64 j ∧ Hid (S.data.toList = [91] ++ Lib.join ((partsOf 4 keys kids).take j) [44] ∧ Box w wr (.int .i64 4) (.int .i64 n) (.string s) kv (.slice o kids.length cap))) (fun _ q _ => kids.length - (intOf q).toNat)
  case atStart => exact ⟨0, _, Nat.zero_le _, rfl, rfl, by simp [Lib.join_nil], HX.out⟩
  case round =>
    obtain ⟨j, S, hj, rfl, rfl, hr⟩ := hrel
    have HS : Hid (S.data.toList = [91] ++ Lib.join ((partsOf 4 keys kids).take j) [44]) := hr.out.1
    have HB := Lib.hid hr.out.2
    clear hr
    obtain ⟨-, -, x0, x1, x2, x3, x4⟩ := HB.out
    have hSz : S.size ≤ 341000 := by
      have h1 := HT.out j
      rw [size_of_list HS.out]
      simp only [List.length_append, List.length_cons, List.length_nil]
      omega
    by_cases hlt : j < kids.length
    · have ho := HO.out (by omega)
      subst ho
      have hlt' : (j : Int) < kids.length := by omega
      obtain ⟨c0, c1, c2, c3, c4⟩ := kid_cells (HC.out j hlt) HB.out.below
      obtain ⟨⟨o1, q1, s1⟩, ⟨o2, q2, s2⟩⟩ := (HL.out j hlt).slices
      have HI := Lib.hid (fun (w1 : World) (hb1 : Below w.heap.size w w1) (hz : kids[j].size ≤ 200) => ih _ (List.getElem_mem hlt) w1 _ _ _ ((HL.out j hlt).stay hb1 (Nat.le_refl _)) (HK.out j hlt) hz)
      have hzj : kids[j].size ≤ 200 := by
        have e1 := sizeAll_take kids j hlt
        have e2 := sizeAll_take_le kids (j + 1)
        omega
      have HN : Hid (Lib.join ((partsOf 4 keys kids).take (j + 1)) [44] = Lib.join ((partsOf 4 keys kids).take j) [44] ++ ((if j = 0 then [] else [44]) ++ kids[j].brac)) := join_take_succ _ _ _ _ (partsOf_list j hlt)
      have HZ : Hid (kids[j].brac.length ≤ 341000) := by
        have := brac_le _ (HK.out j hlt)
        show kids[j].brac.length ≤ 341000
        omega
      have hB1 : Hid (∀ ob, Below wr.heap.size wr (wr.alloc ob)) := fun ob => (Below.refl _ _).alloc (Nat.le_refl _) _
      generalize kids[j] = x at *
      generalize KV j = v1 at *
      generalize DV j = v2 at *
      subst s1 s2
      by_cases hj0 : j = 0
      · have hj1 : ¬ (0 : Int) < (j : Int) := by omega
        have HJ : Hid (Lib.join ((partsOf 4 keys kids).take (j + 1)) [44] = Lib.join ((partsOf 4 keys kids).take j) [44] ++ x.brac) := by
          have := HN.out
          rw [if_pos hj0] at this
          show _ = _
          simpa using this
        clear hj0 HN
        go_wp2_with fail
        refine (HI.out _ HB.out.below hzj).mono ?_
        rintro e w2 ⟨rfl, hb2⟩
        have HB2 := Lib.hid (HB.out.next hb2)
        clear hb2 x0 x1 x2 x3 x4 c0 c1 c2 c3 c4
        obtain ⟨-, -, x0, x1, x2, x3, x4⟩ := HB2.out
        generalize hX : (⟨x.brac.toArray⟩ : ByteArray) = X at *
        have hXz : X.size ≤ 341000 := by rw [← hX, mk_size]; exact HZ.out
        have HXX : Hid (X.data.toList = x.brac) := by show _ = _; rw [← hX]
        clear hX
        go_wp2
        refine ⟨⟨j + 1, S ++ X, hlt, rfl, by go_num, ?_, HB2.out⟩, by simp [intOf]; omega⟩
        rw [cat_list, HS.out, HXX.out, HJ.out, List.append_assoc]
      · have hj1 : (0 : Int) < (j : Int) := by omega
        have HJ : Hid (Lib.join ((partsOf 4 keys kids).take (j + 1)) [44] = Lib.join ((partsOf 4 keys kids).take j) [44] ++ ([44] ++ x.brac)) := by
          have := HN.out
          rw [if_neg hj0] at this
          exact this
        clear hj0 HN
        go_wp2_with fail
        refine (HI.out _ HB.out.below hzj).mono ?_
        rintro e w2 ⟨rfl, hb2⟩
        have HB2 := Lib.hid (HB.out.next hb2)
        clear hb2 x0 x1 x2 x3 x4 c0 c1 c2 c3 c4
        obtain ⟨-, -, x0, x1, x2, x3, x4⟩ := HB2.out
        generalize hX : (⟨x.brac.toArray⟩ : ByteArray) = X at *
        have hXz : X.size ≤ 341000 := by rw [← hX, mk_size]; exact HZ.out
        have HXX : Hid (X.data.toList = x.brac) := by show _ = _; rw [← hX]
        clear hX
        go_wp2
        refine ⟨⟨j + 1, S ++ ⟨#[44]⟩ ++ X, hlt, rfl, by go_num, ?_, HB2.out⟩, by simp [intOf]; omega⟩
        rw [cat_list, cat_list, HS.out, HXX.out, HJ.out]
        simp
    · have HE : Hid (S ++ ⟨#[93]⟩ = ⟨BR.toArray⟩) := by
        show _ = _
        refine ext_list ?_
        rw [cat_list, HS.out, HBR.out, join_take_end _ _ _ (by rw [partsOf_length (.inl rfl)]; omega)]
        simp
      go_wp2
      go_ret
      exact ⟨by rw [← HE.out]; rfl, HB.out.below⟩

set_option maxRecDepth 100000 in
set_option maxHeartbeats 1000000 in
theorem text5 (n : Int) (s : ByteArray) (keys : List ByteArray) (kids : List RT) (ih : ∀ t ∈ kids, TextAt t) (w : World) (kv dv : Value) (FK FD : List Nat) (hK : StrsAt w kv keys FK) (hD : KidsLie w dv kids FD) (hr : (RT.node 5 n s keys kids).right = true) (hz : (RT.node 5 n s keys kids).size ≤ 200) :
    Calls Tryz.prog 83 #[.agg #[.int .i64 5, .int .i64 n, .string s, kv, dv]] w fun e w' => e = .returned (.string ⟨((RT.node 5 n s keys kids).brac).toArray⟩) ∧ Below w.heap.size w w' := by
  have hz' : sizeAll kids + 1 ≤ 200 := hz
  have HT := Lib.hid (fun i => parts_take_le hr (.inr rfl) i)
  have HK : Hid (∀ i (h : i < kids.length), kids[i].right = true) := (right_out hr).2
  have HBR : Hid ((RT.node 5 n s keys kids).brac = [123] ++ (Lib.join (partsOf 5 keys kids) [44] ++ [125])) := brac5
  have hkl : keys.length = kids.length := by
    have := (right_out hr).1
    simp only [HeadOk, RT.k, RT.n, RT.s, RT.keys, RT.kids] at this
    omega
  generalize (RT.node 5 n s keys kids).brac = BR at *
  clear hr hz
  obtain ⟨o, cap, b, off, FF, KV, DV, rfl, hlc, hcm, ho, -, hcell, hlies, -⟩ := hD
  obtain ⟨ko, kcap, kb, koff, rfl, hklc, hkcm, hko, -, hkcell, -⟩ := hK
  have HKC := Lib.hid hkcell
  have HKO := Lib.hid hko
  clear hkcell hko
  rw [hkl] at hklc ⊢
  have HX := Lib.hid (Box.start w (.int .i64 5) (.int .i64 n) (.string s) (.slice ko kids.length kcap) (.slice o kids.length cap) 32)
  have HC := Lib.hid hcell
  have HL := Lib.hid hlies
  have HO := Lib.hid ho
  clear hcell hlies ho
  unfold maxLen at hcm hkcm
  have HP : Hid ((partsOf 5 keys kids).length = kids.length) := partsOf_length (.inr hkl)
  have HKL : Hid (keys.length = kids.length) := hkl
  clear hkl
  go_enter Tryz.func83, Tryz.ntmps83
  go_wp2
  go_loopw [5, 6] (fun v q wr => ∃ (j : Nat) (S : ByteArray), j ≤ kids.length ∧ v = .string S ∧ q = .int .i64 j ∧ Hid (S.data.toList = [123] ++ Lib.join ((partsOf 5 keys kids).take j) [44] ∧ Box w wr (.int .i64 5) (.int .i64 n) (.string s) (.slice ko kids.length kcap) (.slice o kids.length cap))) (fun _ q _ => kids.length - (intOf q).toNat)
  case atStart => exact ⟨0, _, Nat.zero_le _, rfl, rfl, by simp [Lib.join_nil], HX.out⟩
  case round =>
    obtain ⟨j, S, hj, rfl, rfl, hr⟩ := hrel
    have HS : Hid (S.data.toList = [123] ++ Lib.join ((partsOf 5 keys kids).take j) [44]) := hr.out.1
    have HB := Lib.hid hr.out.2
    clear hr
    obtain ⟨-, -, x0, x1, x2, x3, x4⟩ := HB.out
    have hSz : S.size ≤ 341000 := by
      have h1 := HT.out j
      rw [size_of_list HS.out]
      simp only [List.length_append, List.length_cons, List.length_nil]
      omega
    by_cases hlt : j < kids.length
    · have ho := HO.out (by omega)
      subst ho
      have hko := HKO.out (by omega)
      subst hko
      have hlt' : (j : Int) < kids.length := by omega
      have HCJ := Lib.hid (HC.out j hlt)
      obtain ⟨⟨o1, q1, s1⟩, ⟨o2, q2, s2⟩⟩ := (HL.out j hlt).slices
      have HI := Lib.hid (fun (w1 : World) (hb1 : Below w.heap.size w w1) (hz : kids[j].size ≤ 200) => ih _ (List.getElem_mem hlt) w1 _ _ _ ((HL.out j hlt).stay hb1 (Nat.le_refl _)) (HK.out j hlt) hz)
      have hzj : kids[j].size ≤ 200 := by
        have e1 := sizeAll_take kids j hlt
        have e2 := sizeAll_take_le kids (j + 1)
        omega
      have hkj : j < keys.length := by rw [HKL.out]; exact hlt
      obtain ⟨d0, dz⟩ := HKC.out j hkj
      have HN : Hid (Lib.join ((partsOf 5 keys kids).take (j + 1)) [44] = Lib.join ((partsOf 5 keys kids).take j) [44] ++ ((if j = 0 then [] else [44]) ++ keyed keys[j] kids[j].brac)) := join_take_succ _ _ _ _ (partsOf_map j hlt hkj)
      have HQ := Lib.hid (spec_quote keys[j] dz)
      have HQZ := Lib.hid (quoteT_length keys[j])
      have d1 : wr.cell? ⟨kb, koff + j, none⟩ = some (.string keys[j]) := by
        rw [HB.out.below.cell (by exact World.block_lt_of_cell? _ _ d0)]; exact d0
      clear d0 dz
      have HZ : Hid (kids[j].brac.length ≤ 341000) := by
        have := brac_le _ (HK.out j hlt)
        show kids[j].brac.length ≤ 341000
        omega
      have hB1 : Hid (∀ ob, Below wr.heap.size wr (wr.alloc ob)) := fun ob => (Below.refl _ _).alloc (Nat.le_refl _) _
      generalize kids[j] = x at *
      generalize keys[j] = y at *
      clear hkj
      generalize KV j = v1 at *
      generalize DV j = v2 at *
      subst s1 s2
      by_cases hj0 : j = 0
      · have hj1 : ¬ (0 : Int) < (j : Int) := by omega
        have HJ : Hid (Lib.join ((partsOf 5 keys kids).take (j + 1)) [44] = Lib.join ((partsOf 5 keys kids).take j) [44] ++ keyed y x.brac) := by
          have := HN.out
          rw [if_pos hj0] at this
          show _ = _
          simpa using this
        clear hj0 HN
        go_wp2_with fail
        refine (HQ.out _).mono ?_
        rintro e w1 ⟨rfl, hb1⟩
        have HB1 := Lib.hid (HB.out.next hb1)
        obtain ⟨c0, c1, c2, c3, c4⟩ := kid_cells HCJ.out HB1.out.below
        clear hb1 x0 x1 x2 x3 x4 d1
        obtain ⟨-, -, x0, x1, x2, x3, x4⟩ := HB1.out
        generalize hY : quoteT y = Y at *
        have hYz : Y.size ≤ 802 := by have := HQZ.out; simpa using this
        have HYY : Hid (Y = quoteT y) := hY.symm
        clear hY
        go_wp2_with fail
        refine (HI.out _ HB1.out.below hzj).mono ?_
        rintro e w2 ⟨rfl, hb2⟩
        have HB2 := Lib.hid (HB1.out.next hb2)
        clear hb2 x0 x1 x2 x3 x4 c0 c1 c2 c3 c4
        obtain ⟨-, -, x0, x1, x2, x3, x4⟩ := HB2.out
        generalize hX : (⟨x.brac.toArray⟩ : ByteArray) = X at *
        have hXz : X.size ≤ 341000 := by rw [← hX, mk_size]; exact HZ.out
        have HXX : Hid (X.data.toList = x.brac) := by show _ = _; rw [← hX]
        clear hX
        go_wp2
        refine ⟨⟨j + 1, S ++ Y ++ ⟨#[58]⟩ ++ X, hlt, rfl, by go_num, ?_, HB2.out⟩, by simp [intOf]; omega⟩
        rw [cat_list, cat_list, cat_list, HS.out, HXX.out, HJ.out, HYY.out]
        simp [keyed]
      · have hj1 : (0 : Int) < (j : Int) := by omega
        have HJ : Hid (Lib.join ((partsOf 5 keys kids).take (j + 1)) [44] = Lib.join ((partsOf 5 keys kids).take j) [44] ++ ([44] ++ keyed y x.brac)) := by
          have := HN.out
          rw [if_neg hj0] at this
          exact this
        clear hj0 HN
        go_wp2_with fail
        refine (HQ.out _).mono ?_
        rintro e w1 ⟨rfl, hb1⟩
        have HB1 := Lib.hid (HB.out.next hb1)
        obtain ⟨c0, c1, c2, c3, c4⟩ := kid_cells HCJ.out HB1.out.below
        clear hb1 x0 x1 x2 x3 x4 d1
        obtain ⟨-, -, x0, x1, x2, x3, x4⟩ := HB1.out
        generalize hY : quoteT y = Y at *
        have hYz : Y.size ≤ 802 := by have := HQZ.out; simpa using this
        have HYY : Hid (Y = quoteT y) := hY.symm
        clear hY
        go_wp2_with fail
        refine (HI.out _ HB1.out.below hzj).mono ?_
        rintro e w2 ⟨rfl, hb2⟩
        have HB2 := Lib.hid (HB1.out.next hb2)
        clear hb2 x0 x1 x2 x3 x4 c0 c1 c2 c3 c4
        obtain ⟨-, -, x0, x1, x2, x3, x4⟩ := HB2.out
        generalize hX : (⟨x.brac.toArray⟩ : ByteArray) = X at *
        have hXz : X.size ≤ 341000 := by rw [← hX, mk_size]; exact HZ.out
        have HXX : Hid (X.data.toList = x.brac) := by show _ = _; rw [← hX]
        clear hX
        go_wp2
        refine ⟨⟨j + 1, S ++ ⟨#[44]⟩ ++ Y ++ ⟨#[58]⟩ ++ X, hlt, rfl, by go_num, ?_, HB2.out⟩, by simp [intOf]; omega⟩
        rw [cat_list, cat_list, cat_list, cat_list, HS.out, HXX.out, HJ.out, HYY.out]
        simp [keyed]
    · have HE : Hid (S ++ ⟨#[125]⟩ = ⟨BR.toArray⟩) := by
        show _ = _
        refine ext_list ?_
        rw [cat_list, HS.out, HBR.out, join_take_end _ _ _ (by rw [HP.out]; omega)]
        simp
      go_wp2
      go_ret
      exact ⟨by rw [← HE.out]; rfl, HB.out.below⟩

theorem spec_text (T : RT) : TextAt T := by
  induction T using RT.ind with
  | h k n s keys kids ih =>
    intro w kv dv F hl hr hz
    obtain ⟨hh, -⟩ := right_out hr
    obtain ⟨-, -, hs, FK, FD, hK, hD, -⟩ := hl.outn
    show Calls Tryz.prog 83 #[.agg #[.int .i64 k, .int .i64 n, .string s, kv, dv]] w _
    simp only [HeadOk, RT.k, RT.n, RT.s, RT.keys, RT.kids] at hh
    rcases hh with ⟨rfl, h⟩ | ⟨rfl, h⟩ | ⟨rfl, h, -⟩ | ⟨rfl, h⟩ | ⟨rfl, h⟩ | ⟨rfl, h⟩
    · rw [brac0]; exact text0 n s kv dv w
    · rw [brac1]; exact text1 n s kv dv w
    · rw [brac2]; exact text2 n s kv dv w h.1 h.2
    · rw [brac3]; exact text3 n s kv dv w hs
    · exact text4 n s keys kids ih w kv dv FD hD hr hz
    · exact text5 n s keys kids ih w kv dv FK FD hK hD hr hz

/-- What Braced answers. -/
noncomputable def bracT (T : RT) : ByteArray := if treeOk T = true then ⟨T.brac.toArray⟩ else ⟨#[]⟩

theorem treeOk_out {T : RT} (h : treeOk T = true) : T.size ≤ 200 ∧ T.right = true := by
  unfold treeOk at h
  simp only [Bool.and_eq_true, decide_eq_true_eq] at h
  exact ⟨h.1.2, h.2⟩

set_option maxRecDepth 100000 in
set_option maxHeartbeats 400000 in
theorem spec_braced (T : RT) (w : World) (kv dv : Value) (F : List Nat) (hl : Lies w T kv dv F) (hsz : T.sz ≤ 1048576) :
    Calls Tryz.prog 46 #[.agg #[.int .i64 T.k, .int .i64 T.n, .string T.s, kv, dv]] w fun e w' => e = .returned (.string (bracT T)) ∧ Below w.heap.size w w' := by
  have HX := Lib.hid (Box.start w (.int .i64 T.k) (.int .i64 T.n) (.string T.s) kv dv 32)
  have HR := Lib.hid (fun wr hb => spec_treeOk T wr kv dv F (hl.stay hb (Nat.le_refl _)) hsz)
  have HT := Lib.hid (fun wr hb => spec_text T wr kv dv F (hl.stay hb (Nat.le_refl _)))
  obtain ⟨⟨o1, c1, rfl⟩, ⟨o2, c2, rfl⟩⟩ := hl.slices
  clear hl hsz
  by_cases hok : treeOk T = true
  · have HO := Lib.hid (treeOk_out hok)
    have HE : Hid (bracT T = ⟨T.brac.toArray⟩) := if_pos hok
    rw [hok] at HR
    clear hok
    go_enter Tryz.func46, Tryz.ntmps46
    go_wp2_with (first
      | (go_at_call 82; refine (HR.out _ HX.out.below).mono ?_; rintro e w1 ⟨rfl, hb1⟩; have HX1 := Lib.hid (HX.out.next hb1); obtain ⟨-, -, x0, x1, x2, x3, x4⟩ := HX1.out; clear hb1)
      | (go_at_call 83; refine (HT.out _ HX1.out.below HO.out.2 HO.out.1).mono ?_; rintro e w2 ⟨rfl, hb2⟩; have HX2 := Lib.hid (HX1.out.next hb2); clear hb2)
      | fail)
    go_ret
    exact ⟨by rw [HE.out]; rfl, HX2.out.below⟩
  · have HE : Hid (bracT T = ⟨#[]⟩) := if_neg hok
    have hok' : treeOk T = false := by simpa using hok
    rw [hok'] at HR
    clear hok hok'
    go_enter Tryz.func46, Tryz.ntmps46
    go_wp2_with (first
      | (go_at_call 82; refine (HR.out _ HX.out.below).mono ?_; rintro e w1 ⟨rfl, hb1⟩; have HX1 := Lib.hid (HX.out.next hb1); clear hb1)
      | fail)
    go_ret
    exact ⟨by rw [HE.out]; rfl, HX1.out.below⟩
end Go.Proofs.YtfmkhogpnnobeaaGreatDoor

/- plain facts on a map without one Key. -/
namespace Go.Proofs.YtfmkhogpnnobeaaGreatDoor
open Go Go.RowKit

/-- What a map has besides one Key. -/
def unP (keys : List ByteArray) (kids : List RT) (key : ByteArray) : List (ByteArray × RT) := (keys.zip kids).filter fun p => !decide (p.1.data = key.data)
def unK (keys : List ByteArray) (kids : List RT) (key : ByteArray) : List ByteArray := (unP keys kids key).map Prod.fst
def unD (keys : List ByteArray) (kids : List RT) (key : ByteArray) : List RT := (unP keys kids key).map Prod.snd
/-- How many of its first j stay. -/
def unN (keys : List ByteArray) (kids : List RT) (key : ByteArray) (j : Nat) : Nat := (((keys.zip kids).take j).filter fun p => !decide (p.1.data = key.data)).length
/-- The map T without one Key. -/
def unT (T : RT) (key : ByteArray) : RT := .node T.k T.n T.s (unK T.keys T.kids key) (unD T.keys T.kids key)

section
variable {keys : List ByteArray} {kids : List RT} {key : ByteArray}

theorem unK_length : (unK keys kids key).length = (unP keys kids key).length := List.length_map _
theorem unD_length : (unD keys kids key).length = (unP keys kids key).length := List.length_map _
theorem unN_zero : unN keys kids key 0 = 0 := by simp [unN]
theorem unN_le (j : Nat) : unN keys kids key j ≤ j := by
  unfold unN
  refine Nat.le_trans (List.length_filter_le _ _) ?_
  rw [List.length_take]; omega
theorem unN_end (hl : keys.length = kids.length) : unN keys kids key keys.length = (unP keys kids key).length := by
  unfold unN unP
  rw [List.take_of_length_le (by rw [List.length_zip]; omega)]

theorem un_parts (j : Nat) : unP keys kids key = (((keys.zip kids).take j).filter fun p => !decide (p.1.data = key.data)) ++ (((keys.zip kids).drop j).filter fun p => !decide (p.1.data = key.data)) := by
  unfold unP
  rw [← List.filter_append, List.take_append_drop]

theorem unN_no (hl : keys.length = kids.length) {j : Nat} (hj : j < keys.length) (he : keys[j] = key) : unN keys kids key (j + 1) = unN keys kids key j := by
  unfold unN
  have hz : j < (keys.zip kids).length := by rw [List.length_zip]; omega
  rw [List.take_succ_eq_append_getElem hz, List.filter_append, List.length_append, List.getElem_zip]
  simp [he]

theorem unN_yes (hl : keys.length = kids.length) {j : Nat} (hj : j < keys.length) (hj2 : j < kids.length) (he : ¬ keys[j] = key) :
    unN keys kids key (j + 1) = unN keys kids key j + 1 ∧ (unK keys kids key)[unN keys kids key j]? = some keys[j] ∧ (unD keys kids key)[unN keys kids key j]? = some kids[j] := by
  have hz : j < (keys.zip kids).length := by rw [List.length_zip]; omega
  have he' : ¬ keys[j].data = key.data := fun h => he (ByteArray.ext h)
  have hp : (unP keys kids key)[unN keys kids key j]? = some (keys[j], kids[j]) := by
    rw [un_parts (keys := keys) (kids := kids) (key := key) j, show unN keys kids key j = (((keys.zip kids).take j).filter fun p => !decide (p.1.data = key.data)).length from rfl, List.getElem?_append_right (Nat.le_refl _), Nat.sub_self, List.drop_eq_getElem_cons hz, List.getElem_zip, List.filter_cons]
    simp [he']
  refine ⟨?_, ?_, ?_⟩
  · unfold unN
    rw [List.take_succ_eq_append_getElem hz, List.filter_append, List.length_append, List.getElem_zip]
    simp [he']
  · rw [unK, List.getElem?_map, hp]; rfl
  · rw [unD, List.getElem?_map, hp]; rfl

theorem un_mem_k {x : ByteArray} (h : x ∈ unK keys kids key) : x ∈ keys := by
  obtain ⟨p, hp, rfl⟩ := List.mem_map.1 h
  exact (List.of_mem_zip (List.mem_filter.1 hp).1).1
theorem un_mem_d {x : RT} (h : x ∈ unD keys kids key) : x ∈ kids := by
  obtain ⟨p, hp, rfl⟩ := List.mem_map.1 h
  exact (List.of_mem_zip (List.mem_filter.1 hp).1).2
end

theorem szAll_filter : (l : List (ByteArray × RT)) → (q : ByteArray × RT → Bool) → szAll ((l.filter q).map Prod.snd) + (l.filter q).length ≤ szAll (l.map Prod.snd) + l.length
  | [], _ => Nat.le_refl _
  | p :: l, q => by
    have ih := szAll_filter l q
    rw [List.filter_cons]
    split
    · simp only [List.map_cons, szAll, List.length_cons]; omega
    · simp only [List.map_cons, szAll, List.length_cons]; omega
theorem strSz_filter : (l : List (ByteArray × RT)) → (q : ByteArray × RT → Bool) → strSz ((l.filter q).map Prod.fst) ≤ strSz (l.map Prod.fst)
  | [], _ => Nat.le_refl _
  | p :: l, q => by
    have ih := strSz_filter l q
    rw [List.filter_cons]
    split
    · simp only [List.map_cons, strSz, List.map_cons, List.sum_cons] at ih ⊢; omega
    · simp only [List.map_cons, strSz, List.map_cons, List.sum_cons] at ih ⊢; omega

/-- A map without a Key is no greater. -/
theorem unT_sz (T : RT) (key : ByteArray) (hm : T.isMap) : (unT T key).sz ≤ T.sz := by
  cases T with
  | node k n s keys kids =>
    have hl : keys.length = kids.length := hm.2
    have a := szAll_filter (keys.zip kids) (fun p => !decide (p.1.data = key.data))
    have b := strSz_filter (keys.zip kids) (fun p => !decide (p.1.data = key.data))
    have c := List.length_filter_le (fun p : ByteArray × RT => !decide (p.1.data = key.data)) (keys.zip kids)
    rw [List.map_fst_zip (by omega)] at b
    rw [List.map_snd_zip (by omega)] at a
    show (RT.node k n s (unK keys kids key) (unD keys kids key)).sz ≤ (RT.node k n s keys kids).sz
    have d : (unK keys kids key).length = ((keys.zip kids).filter fun p => !decide (p.1.data = key.data)).length := List.length_map _
    have e : (unD keys kids key).length = ((keys.zip kids).filter fun p => !decide (p.1.data = key.data)).length := List.length_map _
    have f : (keys.zip kids).length = keys.length := by rw [List.length_zip]; omega
    rw [RT.sz, RT.sz, d, e]
    unfold unK unD unP
    omega
end Go.Proofs.YtfmkhogpnnobeaaGreatDoor
