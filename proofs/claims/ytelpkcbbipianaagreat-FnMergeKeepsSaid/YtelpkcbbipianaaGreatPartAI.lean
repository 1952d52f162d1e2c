/-
  What is proved: what a metric's and a pace's tree are; the program's kindText and the node of a map.; plain facts on the trees that orders are told as: metrics a list, notes a map, the full shape.; plain facts on two lists that grow by append out of the parts of a tree that was copied before: for the model's Set.
-/
import Derived.Test.YtelpkcbbipianaaGreatPartAH
import Derived.Test.YtelpkcbbipianaaGreatPartAD
import Derived.Test.YtelpkcbbipianaaGreatPartAA
import Derived.Great.BuildSlice
import Derived.Test.YtelpkcbbipianaaGreatPartAE
import Derived.Test.YtelpkcbbipianaaGreatPartAC
import Derived.Lib.AppendZeros
/- what a metric's and a pace's tree are; the program's kindText and the node of a map. -/
namespace Go.Proofs.YtelpkcbbipianaaGreat
open Go Go.RowKit

def kindB (k : Int) : ByteArray := if k = 1 then ⟨#[115, 104, 97, 114, 101]⟩ else if k = 2 then ⟨#[109, 101, 97, 110]⟩ else if k = 3 then ⟨#[119, 104, 111, 108, 101]⟩ else ⟨#[110, 111, 110, 101]⟩

/-- A metric as a tree. -/
def metT (m : Met) : RT := .node 5 0 ⟨#[]⟩ [⟨#[103, 111, 97, 108]⟩, ⟨#[107, 105, 110, 100]⟩, ⟨#[110, 97, 109, 101]⟩] [.node 3 0 ⟨(amtText m.goal).toArray⟩ [] [], .node 3 0 (kindB m.kind) [] [], .node 3 0 m.name [] []]

theorem amt_len (n : Int) (h0 : -9223372036854775808 ≤ n) (h1 : n ≤ 9223372036854775807) : (amtText n).length ≤ 30 := by
  have a := Num.itoa_length (n / 1000000) (by omega) (by omega)
  have b := Num.itoa_length (n / 1000) (by omega) (by omega)
  have c := Num.itoa_length n h0 h1
  unfold amtText
  repeat' split
  all_goals simp; try omega

theorem span_len (n : Int) (h0 : -9223372036854775808 ≤ n) (h1 : n ≤ 9223372036854775807) : (spanText n).length ≤ 30 := by
  have a := Num.itoa_length (n / 3600) (by omega) (by omega)
  have b := Num.itoa_length (n / 60) (by omega) (by omega)
  have c := Num.itoa_length n h0 h1
  unfold spanText
  repeat' split
  all_goals simp; try omega

theorem amt_fit (n : Int) (h0 : -9223372036854775808 ≤ n) (h1 : n ≤ 9223372036854775807) : (⟨(amtText n).toArray⟩ : ByteArray).size ≤ maxLen := by
  have := amt_len n h0 h1
  show (amtText n).toArray.size ≤ _
  simp [maxLen]; omega
theorem span_fit (n : Int) (h0 : -9223372036854775808 ≤ n) (h1 : n ≤ 9223372036854775807) : (⟨(spanText n).toArray⟩ : ByteArray).size ≤ maxLen := by
  have := span_len n h0 h1
  show (spanText n).toArray.size ≤ _
  simp [maxLen]; omega
theorem kind_fit (k : Int) : (kindB k).size ≤ maxLen := by
  unfold kindB
  repeat' split
  all_goals decide

theorem amt_size (n : Int) (h0 : -9223372036854775808 ≤ n) (h1 : n ≤ 9223372036854775807) : (⟨(amtText n).toArray⟩ : ByteArray).size ≤ 30 := by
  have a := amt_len n h0 h1
  show (amtText n).toArray.size ≤ 30
  simpa using a
theorem span_size (n : Int) (h0 : -9223372036854775808 ≤ n) (h1 : n ≤ 9223372036854775807) : (⟨(spanText n).toArray⟩ : ByteArray).size ≤ 30 := by
  have a := span_len n h0 h1
  show (spanText n).toArray.size ≤ 30
  simpa using a
theorem kind_size (k : Int) : (kindB k).size ≤ 5 := by
  unfold kindB
  repeat' split
  all_goals decide

def LeafK (T : RT) : Prop := T.keys = [] ∧ T.kids = [] ∧ Fit T.k ∧ Fit T.n ∧ T.s.size ≤ maxLen
theorem leafK (k n : Int) (s : ByteArray) (hk : Fit k) (hn : Fit n) (hs : s.size ≤ maxLen) : LeafK (.node k n s [] []) := ⟨rfl, rfl, hk, hn, hs⟩

theorem metT_leaves (m : Met) (hm : m.ok) : ∀ t ∈ (metT m).kids, LeafK t := by
  intro t ht
  have hmem : t = .node 3 0 ⟨(amtText m.goal).toArray⟩ [] [] ∨ t = .node 3 0 (kindB m.kind) [] [] ∨ t = .node 3 0 m.name [] [] := by simpa [metT, RT.kids] using ht
  rcases hmem with rfl | rfl | rfl
  · exact leafK _ _ _ ⟨by decide, by decide⟩ ⟨by decide, by decide⟩ (amt_fit _ hm.2.2.1 hm.2.2.2)
  · exact leafK _ _ _ ⟨by decide, by decide⟩ ⟨by decide, by decide⟩ (kind_fit _)
  · exact leafK _ _ _ ⟨by decide, by decide⟩ ⟨by decide, by decide⟩ hm.1
theorem metT_keys (m : Met) : ∀ k ∈ (metT m).keys, k.size ≤ maxLen := by
  intro t ht
  have hmem : t = ⟨#[103, 111, 97, 108]⟩ ∨ t = ⟨#[107, 105, 110, 100]⟩ ∨ t = ⟨#[110, 97, 109, 101]⟩ := by simpa [metT, RT.keys] using ht
  rcases hmem with rfl | rfl | rfl <;> decide

/-- A pace as a tree. -/
def pacT (p : Pac) : RT := .node 5 0 ⟨#[]⟩ [⟨#[100, 111, 119, 110]⟩, ⟨#[100, 111, 119, 110, 115, 112, 97, 110]⟩, ⟨#[117, 112]⟩, ⟨#[117, 112, 115, 112, 97, 110]⟩] [.node 2 p.down ⟨#[]⟩ [] [], .node 3 0 ⟨(spanText p.downs).toArray⟩ [] [], .node 2 p.up ⟨#[]⟩ [] [], .node 3 0 ⟨(spanText p.ups).toArray⟩ [] []]

theorem pacT_leaves (p : Pac) (hp : p.ok) : ∀ t ∈ (pacT p).kids, LeafK t := by
  intro t ht
  have hmem : t = .node 2 p.down ⟨#[]⟩ [] [] ∨ t = .node 3 0 ⟨(spanText p.downs).toArray⟩ [] [] ∨ t = .node 2 p.up ⟨#[]⟩ [] [] ∨ t = .node 3 0 ⟨(spanText p.ups).toArray⟩ [] [] := by simpa [pacT, RT.kids] using ht
  rcases hmem with rfl | rfl | rfl | rfl
  · exact leafK _ _ _ ⟨by decide, by decide⟩ hp.2.1 (by decide)
  · exact leafK _ _ _ ⟨by decide, by decide⟩ ⟨by decide, by decide⟩ (span_fit _ hp.2.2.2.1 hp.2.2.2.2)
  · exact leafK _ _ _ ⟨by decide, by decide⟩ hp.1 (by decide)
  · exact leafK _ _ _ ⟨by decide, by decide⟩ ⟨by decide, by decide⟩ (span_fit _ hp.2.2.1.1 hp.2.2.1.2)
theorem pacT_keys (p : Pac) : ∀ k ∈ (pacT p).keys, k.size ≤ maxLen := by
  intro t ht
  have hmem : t = ⟨#[100, 111, 119, 110]⟩ ∨ t = ⟨#[100, 111, 119, 110, 115, 112, 97, 110]⟩ ∨ t = ⟨#[117, 112]⟩ ∨ t = ⟨#[117, 112, 115, 112, 97, 110]⟩ := by simpa [pacT, RT.keys] using ht
  rcases hmem with rfl | rfl | rfl | rfl <;> decide

theorem metT_sz (m : Met) (h0 : -9223372036854775808 ≤ m.goal) (h1 : m.goal ≤ 9223372036854775807) : (metT m).sz ≤ m.name.size + 200 := by
  have a := amt_len m.goal h0 h1
  have c : (kindB m.kind).size ≤ 5 := by
    unfold kindB
    repeat' split
    all_goals decide
  have e : (⟨(amtText m.goal).toArray⟩ : ByteArray).size = (amtText m.goal).length := by show (amtText m.goal).toArray.size = _; simp
  have k1 : (⟨#[103, 111, 97, 108]⟩ : ByteArray).size = 4 := rfl
  have k2 : (⟨#[107, 105, 110, 100]⟩ : ByteArray).size = 4 := rfl
  have k3 : (⟨#[110, 97, 109, 101]⟩ : ByteArray).size = 4 := rfl
  have k4 : (⟨#[]⟩ : ByteArray).size = 0 := rfl
  simp only [metT, RT.sz, szAll, strSz, List.length_cons, List.length_nil, List.map_cons, List.map_nil, List.sum_cons, List.sum_nil, e, k1, k2, k3, k4]
  omega
theorem pacT_sz (p : Pac) (h : p.ok) : (pacT p).sz ≤ 400 := by
  have a := span_len p.ups h.2.2.1.1 h.2.2.1.2
  have c := span_len p.downs h.2.2.2.1 h.2.2.2.2
  have e : (⟨(spanText p.ups).toArray⟩ : ByteArray).size = (spanText p.ups).length := by show (spanText p.ups).toArray.size = _; simp
  have e' : (⟨(spanText p.downs).toArray⟩ : ByteArray).size = (spanText p.downs).length := by show (spanText p.downs).toArray.size = _; simp
  have k1 : (⟨#[100, 111, 119, 110]⟩ : ByteArray).size = 4 := rfl
  have k2 : (⟨#[100, 111, 119, 110, 115, 112, 97, 110]⟩ : ByteArray).size = 8 := rfl
  have k3 : (⟨#[117, 112]⟩ : ByteArray).size = 2 := rfl
  have k4 : (⟨#[117, 112, 115, 112, 97, 110]⟩ : ByteArray).size = 6 := rfl
  have k5 : (⟨#[]⟩ : ByteArray).size = 0 := rfl
  simp only [pacT, RT.sz, szAll, strSz, List.length_cons, List.length_nil, List.map_cons, List.map_nil, List.sum_cons, List.sum_nil, e, e', k1, k2, k3, k4, k5]
  omega

/-- What was laid by a call becomes the result. -/
theorem res_keep {w W X : World} {a : Obj} {zs : Array Value} {W' : World} {T : RT} {kr dr : Value} {G : List Nat} (_ : Two w W a (.cells zs 27)) (hl : Lies W' T kr dr G) (hf : Fresh X W' G) (hX : W.heap.size ≤ X.heap.size) :
    Lies W' T kr dr G ∧ Fresh w W' G ∧ ∀ x ∈ G, w.heap.size + 2 ≤ x := by
  rename_i h
  exact ⟨hl, hf.earlier (by have := h.size; omega), fun x hx => by have := hf.old x hx; have := h.size; omega⟩
theorem res_fin {w W : World} {a : Obj} {z0 z1 z2 z3 z4 : Value} {T : RT} {kr dr : Value} {G : List Nat} (h : Two w W a (.cells #[z0, z1, z2, z3, z4] 27)) (hl : Lies W T kr dr G ∧ Fresh w W G ∧ ∀ x ∈ G, w.heap.size + 2 ≤ x) :
    (set5 W (w.heap.size + 1) 0 (.int .i64 T.k) (.int .i64 T.n) (.string T.s) kr dr).heap[w.heap.size + 1]? = some (.cells #[.int .i64 T.k, .int .i64 T.n, .string T.s, kr, dr] 27 (0, 0)) ∧ Lies (set5 W (w.heap.size + 1) 0 (.int .i64 T.k) (.int .i64 T.n) (.string T.s) kr dr) T kr dr G ∧
    Fresh w (set5 W (w.heap.size + 1) 0 (.int .i64 T.k) (.int .i64 T.n) (.string T.s) kr dr) G ∧ Below w.heap.size w (set5 W (w.heap.size + 1) 0 (.int .i64 T.k) (.int .i64 T.n) (.string T.s) kr dr) := by
  obtain ⟨h1, h2, h3⟩ := hl
  have keep : ∀ x ∈ G, (set5 W (w.heap.size + 1) 0 (.int .i64 T.k) (.int .i64 T.n) (.string T.s) kr dr).heap[x]? = W.heap[x]? := fun x hx => set5_other _ _ _ _ _ _ _ _ _ (by have := h3 x hx; omega)
  exact ⟨set5_end h.res _ _ _ _ _, h1.carry keep, h2.carry keep, set5_below h.below (by omega) _ _ _ _ _ _⟩

theorem sh_in (x : Int) (w : World) : Calls Tryz.prog 47 #[.int .i64 x, .int .i64 1, .int .i64 3] w fun e w' => e = .returned (.bool (decide (1 ≤ x) && decide (x ≤ 3))) ∧ w' = w := by
  by_cases h1 : 1 ≤ x
  · by_cases h2 : x ≤ 3
    · go_enter Tryz.func47, Tryz.ntmps47
      go_wp2
      go_ret
      exact ⟨by simp [h1, h2], rfl⟩
    · go_enter Tryz.func47, Tryz.ntmps47
      go_wp2
      go_ret
      exact ⟨by simp [h2], rfl⟩
  · go_enter Tryz.func47, Tryz.ntmps47
    go_wp2
    go_ret
    exact ⟨by simp; omega, rfl⟩

/-- The model's word of a kind. -/
theorem spec_l7Kind (k : Int) (w : World) : Calls Tryz.prog 105 #[.int .i64 k] w fun e w' => e = .returned (.string (kindB k)) ∧ Below w.heap.size w w' := by
  have H1 := Lib.hid (sh_in k w)
  by_cases h1 : k = 1
  · subst h1
    go_enter Tryz.func105, Tryz.ntmps105
    go_wp2_with (first | (go_at_call 47; refine H1.out.mono ?_; rintro e w1 ⟨rfl, e1⟩; subst e1) | fail)
    go_ret
    exact ⟨rfl, (Below.refl _ _).alloc (Nat.le_refl _) _⟩
  by_cases h2 : k = 2
  · subst h2
    go_enter Tryz.func105, Tryz.ntmps105
    go_wp2_with (first | (go_at_call 47; refine H1.out.mono ?_; rintro e w1 ⟨rfl, e1⟩; subst e1) | fail)
    go_ret
    exact ⟨rfl, (Below.refl _ _).alloc (Nat.le_refl _) _⟩
  by_cases h3 : k = 3
  · subst h3
    go_enter Tryz.func105, Tryz.ntmps105
    go_wp2_with (first | (go_at_call 47; refine H1.out.mono ?_; rintro e w1 ⟨rfl, e1⟩; subst e1) | fail)
    go_ret
    exact ⟨rfl, (Below.refl _ _).alloc (Nat.le_refl _) _⟩
  have hb : (decide (1 ≤ k) && decide (k ≤ 3)) = false := by
    by_cases a : 1 ≤ k
    · have : ¬ k ≤ 3 := by omega
      simp [this]
    · simp [a]
  rw [hb] at H1
  go_enter Tryz.func105, Tryz.ntmps105
  go_wp2_with (first | (go_at_call 47; refine H1.out.mono ?_; rintro e w1 ⟨rfl, e1⟩; subst e1) | fail)
  go_ret
  exact ⟨by simp [kindB, h1, h2, h3], Below.refl _ _⟩
end Go.Proofs.YtelpkcbbipianaaGreat

/- plain facts on the trees that orders are told as: metrics a list, notes a map, the full shape. -/
namespace Go.Proofs.YtelpkcbbipianaaGreat
open Go Go.RowKit

def metsT (ms : List Met) : RT := .node 4 0 ⟨#[]⟩ [] (ms.map metT)
def noteK (n : Not) : RT := .node 3 0 n.text [] []
def notesT (ns : List Not) : RT := .node 5 0 ⟨#[]⟩ (ns.map (·.key)) (ns.map noteK)
/-- An order in the full shape. -/
def fullT (o : Ord) : RT := .node 5 0 ⟨#[]⟩
  [⟨#[104, 105, 103, 104]⟩, ⟨#[107, 105, 110, 100]⟩, ⟨#[108, 111, 119]⟩, ⟨#[109, 101, 116, 114, 105, 99, 115]⟩, ⟨#[110, 97, 109, 101]⟩, ⟨#[110, 111, 116, 101, 115]⟩, ⟨#[112, 97, 99, 101]⟩, ⟨#[116, 97, 114, 103, 101, 116]⟩]
  [.node 2 o.high ⟨#[]⟩ [] [], .node 3 0 ⟨#[102, 117, 108, 108]⟩ [] [], .node 2 o.low ⟨#[]⟩ [] [], metsT o.mets, .node 3 0 o.name [] [], notesT o.notes, pacT o.pace, .node 3 0 o.target [] []]
end Go.Proofs.YtelpkcbbipianaaGreat

/- plain facts on two lists that grow by append out of the parts of a tree that was copied before: for the model's Set. -/
namespace Go.Proofs.YtelpkcbbipianaaGreat
open Go Go.RowKit

/-- append(v, s...) onto a list that a call owns, whatever s is: also nothing. -/
theorem run_append_any {P : Program} (w : World) (t ty : TypeId) (base : Nat) (e : TypeId) (i : TypeInfo) (z : Value) (size bytes : Nat) (ht : P.underlying t = some (.slice e)) (hi : P.info? e = some i) (hz : i.zero = some z)
    (hsize : i.size = size) (hby : i.bytes = bytes) (hzs : z.cells.size = size) (hsz : 0 < size) (v : Value) (n : Nat) (xs : List Value) (hown : w.ownsRow base e size v n xs)
    (A : Option Addr) (m c : Nat) (news : List Value) (hl : news.length = m * size) (hnews : ∀ j u, news[j]? = some u → ∃ ad, A = some ad ∧ w.cell? (ad.add j) = some u) (h1 : ∀ u ∈ news, u.oneCell' = true)
    (h63 : n + m ≤ maxLen) (hbytes : (n + m) * bytes ≤ 140737488355328) (hbase : base ≤ w.heap.size) :
    ∃ o' c' w', (Builtin.append_ #[t, t] ty #[v, .slice A m c]).run P w = .ok (.slice o' (n + m) c') w' ∧ w'.ownsRow base e size (.slice o' (n + m) c') (n + m) (xs ++ news) ∧ w.grownBy w' v.ownBlock ∧
      ((Value.slice o' (n + m) c').ownBlock = v.ownBlock ∨ (Value.slice o' (n + m) c').ownBlock = some w.heap.size) := by
  cases A with
  | some ad =>
    obtain ⟨v', w', hr, h2, h3, -, h5⟩ := run_append_own_at (P := P) w base t ty e i z size bytes ht hi hz hsize hby hzs hsz v n xs hown ad m c news hl (fun j u hu => by
      obtain ⟨ad', e1, e2⟩ := hnews j u hu
      injection e1 with e1
      rw [e1]; exact e2) h1 h63 hbytes hbase
    obtain ⟨o', c', rfl⟩ : ∃ o' c', v' = .slice o' (n + m) c' := by
      rcases h2.2 with ⟨rfl, h0⟩ | ⟨g, cap, cur, rfl, _⟩
      · exact ⟨none, 0, by rw [h0]⟩
      · exact ⟨_, _, rfl⟩
    exact ⟨o', c', w', hr, h2, h3, h5⟩
  | none =>
    have hn : news = [] := by
      cases news with
      | nil => rfl
      | cons x l =>
        obtain ⟨ad, e1, _⟩ := hnews 0 x rfl
        cases e1
    subst hn
    have hm : m = 0 := by
      rcases Nat.eq_zero_or_pos m with h | h
      · exact h
      · have := Nat.mul_pos h hsz
        simp at hl
        omega
    subst hm
    obtain ⟨o', c', rfl, hc⟩ : ∃ o' c', v = .slice o' n c' ∧ n ≤ c' := by
      rcases hown.2 with ⟨rfl, h0⟩ | ⟨g, cap, cur, rfl, _, _, h, _⟩
      · exact ⟨none, 0, by rw [h0], by omega⟩
      · exact ⟨_, _, rfl, h⟩
    refine ⟨o', c', w, run_append_nothing w t t ty e i ht hi o' n c' hc _ (Src.ofNil w ht c), ?_, ⟨rfl, rfl, rfl, Nat.le_refl _, fun _ _ _ => rfl⟩, .inl rfl⟩
    rw [List.append_nil]
    exact hown

/-- At the operation, in a region or in a step of one that draws its order. -/
theorem wp_append_run {P : Program} {w : World} {o : Oper} {a : Act} {K : Act → World → Prop} {Q : Exit → Act → World → Prop} (s x : Operand) (t : TypeId) (ho : o.op = .call { callee := .builtin .append, args := #[s, x], argTypes := #[t, t] }) (v u : Value) (hs : a.eval s = v) (hx : a.eval x = u)
    {R : Value → World → Prop} (hr : ∃ v' w', (Builtin.append_ #[t, t] o.type #[v, u]).run P w = .ok v' w' ∧ R v' w') (h : ∀ v' w', R v' w' → K (a.put o.dst v') w') : o.wp P a w K Q := by
  obtain ⟨v', w', hr, hR⟩ := hr
  unfold Oper.wp execOp
  simp only [ho, resolve, invoke, builtin, Sem.run_bind, Sem.run_pure, Result.andThen_ok, List.map_toArray, List.map_cons, List.map_nil, hs, hx, hr]
  exact h v' w' hR

theorem list_append_run {P : Program} {w : World} {ops : Array Oper} {rest : List Oper} {o : Oper} {a : Act} {Q : Exit → Act → World → Prop} (hgd : o.guard = none) (s x : Operand) (t : TypeId) (ho : o.op = .call { callee := .builtin .append, args := #[s, x], argTypes := #[t, t] }) (v u : Value) (hs : a.eval s = v) (hx : a.eval x = u)
    {R : Value → World → Prop} (hr : ∃ v' w', (Builtin.append_ #[t, t] o.type #[v, u]).run P w = .ok v' w' ∧ R v' w') (h : ∀ v' w', R v' w' → wpList P ops Q rest (a.put o.dst v') w') : wpList P ops Q (o :: rest) a w :=
  wpList_plain hgd fun _ hK => wp_append_run s x t ho v u hs hx hr fun v' w' hR => hK _ _ (h v' w' hR)

theorem step_append_run {P : Program} {w : World} {ops : Array Oper} {o : Oper} {a : Act} {K : Act → World → Prop} {Q : Exit → Act → World → Prop} {E : Prop} (hgd : o.guard = none) (s x : Operand) (t : TypeId) (ho : o.op = .call { callee := .builtin .append, args := #[s, x], argTypes := #[t, t] }) (v u : Value) (hs : a.eval s = v) (hx : a.eval x = u)
    {R : Value → World → Prop} (hr : ∃ v' w', (Builtin.append_ #[t, t] o.type #[v, u]).run P w = .ok v' w' ∧ R v' w') (h : ∀ v' w', R v' w' → K (a.put o.dst v') w') : if Region.wanted o (yielded ops a.tmps) = true then Oper.wp P o a w K Q else E := by
  have hw : Region.wanted o (yielded ops a.tmps) = true := by simp [Region.wanted, hgd]
  rw [if_pos hw]
  exact wp_append_run s x t ho v u hs hx hr h

/-- Where the model's Set stands: its blocks; the copy of the tree behind block B; the list of keys and the list of kids that it makes; the copy of the tree to be set. -/
structure SMid (w w0 wr : World) (T X : RT) (ko vo kq dq : Value) (B : Nat) (kv dv : Value) (FK FD : List Nat) (kA : Value) (nK : Nat) (xs : List Value) (dA : Value) (nD : Nat) (ys : List Value) (Y : RT) (kx dx : Value) (FX : List Nat) : Prop where
  sbox : SBox w wr (.int .i64 T.k) (.int .i64 T.n) (.string T.s) ko vo (.int .i64 X.k) (.int .i64 X.n) (.string X.s) kq dq
  out : wr.heap[B]? = some (.cells #[.int .i64 T.k, .int .i64 T.n, .string T.s, kv, dv] 27 (0, 0))
  strs : StrsAt w0 kv T.keys FK
  kids : KidsLie w0 dv T.kids FD
  fresh : Fresh w w0 (FK ++ FD)
  same : ∀ y ∈ FK ++ FD, wr.heap[y]? = w0.heap[y]?
  size0 : w0.heap.size ≤ wr.heap.size
  x : Lies wr Y kx dx FX
  freshX : Fresh w wr FX
  apart : ∀ y ∈ FX, y ∉ FK ++ FD
  far : ∀ y, y = B ∨ y ∈ FK ++ FD ∨ y ∈ FX → w.heap.size + 3 ≤ y
  ownK : wr.ownsRow (w.heap.size + 3) 9 1 kA nK xs
  ownD : wr.ownsRow (w.heap.size + 3) 27 5 dA nD ys
  apK : ∀ g, kA.ownBlock = some g → ∀ y, y = B ∨ y ∈ FK ++ FD ∨ y ∈ FX → y ≠ g
  apD : ∀ g, dA.ownBlock = some g → ∀ y, y = B ∨ y ∈ FK ++ FD ∨ y ∈ FX → y ≠ g
  apKD : ∀ g, kA.ownBlock = some g → dA.ownBlock ≠ some g

section
variable {w w0 wr w1 : World} {T X : RT} {ko vo kq dq : Value} {B : Nat} {kv dv : Value} {FK FD : List Nat} {kA : Value} {nK : Nat} {xs : List Value} {dA : Value} {nD : Nat} {ys : List Value} {Y : RT} {kx dx : Value} {FX : List Nat}

theorem SMid.lt (h : SMid w w0 wr T X ko vo kq dq B kv dv FK FD kA nK xs dA nD ys Y kx dx FX) : ∀ y, y = B ∨ y ∈ FK ++ FD ∨ y ∈ FX → y < wr.heap.size := fun y hy => by
  rcases hy with rfl | hy | hy
  · exact (Array.getElem?_eq_some_iff.1 h.out).1
  · rcases List.mem_append.1 hy with hy | hy
    · exact Nat.lt_of_lt_of_le (h.strs.lt y hy) h.size0
    · exact Nat.lt_of_lt_of_le (h.kids.lt y hy) h.size0
  · exact h.x.lt y hy

/-- All that is read is as it was in another world. -/
theorem SMid.moved (h : SMid w w0 wr T X ko vo kq dq B kv dv FK FD kA nK xs dA nD ys Y kx dx FX) (hs : SBox w w1 (.int .i64 T.k) (.int .i64 T.n) (.string T.s) ko vo (.int .i64 X.k) (.int .i64 X.n) (.string X.s) kq dq)
    (hz : wr.heap.size ≤ w1.heap.size) (keep : ∀ y, y = B ∨ y ∈ FK ++ FD ∨ y ∈ FX → w1.heap[y]? = wr.heap[y]?) {kA' : Value} {nK' : Nat} {xs' : List Value} {dA' : Value} {nD' : Nat} {ys' : List Value} (hK : w1.ownsRow (w.heap.size + 3) 9 1 kA' nK' xs') (hD : w1.ownsRow (w.heap.size + 3) 27 5 dA' nD' ys')
    (aK : ∀ g, kA'.ownBlock = some g → ∀ y, y = B ∨ y ∈ FK ++ FD ∨ y ∈ FX → y ≠ g) (aD : ∀ g, dA'.ownBlock = some g → ∀ y, y = B ∨ y ∈ FK ++ FD ∨ y ∈ FX → y ≠ g) (aKD : ∀ g, kA'.ownBlock = some g → dA'.ownBlock ≠ some g) :
    SMid w w0 w1 T X ko vo kq dq B kv dv FK FD kA' nK' xs' dA' nD' ys' Y kx dx FX :=
  ⟨hs, (keep B (.inl rfl)).trans h.out, h.strs, h.kids, h.fresh, fun y hy => (keep y (.inr (.inl hy))).trans (h.same y hy), Nat.le_trans h.size0 hz, h.x.carry fun y hy => keep y (.inr (.inr hy)), h.freshX.carry fun y hy => keep y (.inr (.inr hy)), h.apart, h.far, hK, hD, aK, aD, aKD⟩

theorem SMid.next (h : SMid w w0 wr T X ko vo kq dq B kv dv FK FD kA nK xs dA nD ys Y kx dx FX) (hb : Below wr.heap.size wr w1) : SMid w w0 w1 T X ko vo kq dq B kv dv FK FD kA nK xs dA nD ys Y kx dx FX :=
  h.moved (h.sbox.next hb) hb.size (fun y hy => hb.block y (h.lt y hy)) (owns_below h.ownK hb) (owns_below h.ownD hb) h.apK h.apD h.apKD

theorem SMid.newK (h : SMid w w0 wr T X ko vo kq dq B kv dv FK FD kA nK xs dA nD ys Y kx dx FX) : SMid w w0 (wr.alloc (.cells #[] 9)) T X ko vo kq dq B kv dv FK FD (.slice (some ⟨wr.heap.size, 0, none⟩) 0 0) 0 [] dA nD ys Y kx dx FX := by
  have hb := (Below.refl _ wr).alloc (Nat.le_refl _) (.cells #[] 9)
  have hs := h.sbox.size
  refine h.moved (h.sbox.next hb) hb.size (fun y hy => hb.block y (h.lt y hy)) ⟨rfl, .inr ⟨_, 0, #[], rfl, hs, heap_last wr _, Nat.le_refl _, Nat.zero_le _, rfl, rfl⟩⟩ (owns_below h.ownD hb) (fun g hg y hy e => ?_) h.apD (fun g hg hd => ?_)
  · have e1 : wr.heap.size = g := by simpa [Value.ownBlock] using hg
    have := h.lt y hy
    omega
  · have e1 : wr.heap.size = g := by simpa [Value.ownBlock] using hg
    have := (h.ownD.lt g hd).2
    omega

theorem SMid.newD (h : SMid w w0 wr T X ko vo kq dq B kv dv FK FD kA nK xs dA nD ys Y kx dx FX) : SMid w w0 (wr.alloc (.cells #[] 27)) T X ko vo kq dq B kv dv FK FD kA nK xs (.slice (some ⟨wr.heap.size, 0, none⟩) 0 0) 0 [] Y kx dx FX := by
  have hb := (Below.refl _ wr).alloc (Nat.le_refl _) (.cells #[] 27)
  have hs := h.sbox.size
  refine h.moved (h.sbox.next hb) hb.size (fun y hy => hb.block y (h.lt y hy)) (owns_below h.ownK hb) ⟨rfl, .inr ⟨_, 0, #[], rfl, hs, heap_last wr _, Nat.le_refl _, Nat.zero_le _, rfl, rfl⟩⟩ h.apK (fun g hg y hy e => ?_) (fun g hg hd => ?_)
  · have e1 : wr.heap.size = g := by simpa [Value.ownBlock] using hg
    have := h.lt y hy
    omega
  · have e1 : wr.heap.size = g := by simpa [Value.ownBlock] using hd
    have := (h.ownK.lt g hg).2
    omega

theorem SMid.appK (h : SMid w w0 wr T X ko vo kq dq B kv dv FK FD kA nK xs dA nD ys Y kx dx FX) (hg : wr.grownBy w1 kA.ownBlock) {kA' : Value} {nK' : Nat} {xs' : List Value} (hK : w1.ownsRow (w.heap.size + 3) 9 1 kA' nK' xs') (hat : kA'.ownBlock = kA.ownBlock ∨ kA'.ownBlock = some wr.heap.size) :
    SMid w w0 w1 T X ko vo kq dq B kv dv FK FD kA' nK' xs' dA nD ys Y kx dx FX := by
  refine h.moved (h.sbox.grow hg fun x e => (h.ownK.lt x e).1) hg.size (fun y hy => hg.block y (h.lt y hy) (fun e => h.apK y e.symm y hy rfl)) hK (h.ownD.kept hg ?_) (fun g e y hy => ?_) h.apD (fun g e e' => ?_)
  · cases hd : dA.ownBlock with
    | none => exact .inl rfl
    | some g => exact .inr fun e => h.apKD g e.symm hd
  · rcases hat with e1 | e1
    · exact h.apK g (e1 ▸ e) y hy
    · have e2 : wr.heap.size = g := by rw [e1] at e; injection e
      have := h.lt y hy
      omega
  · rcases hat with e1 | e1
    · exact h.apKD g (e1 ▸ e) e'
    · have e2 : wr.heap.size = g := by rw [e1] at e; injection e
      have := (h.ownD.lt g e').2
      omega

theorem SMid.appD (h : SMid w w0 wr T X ko vo kq dq B kv dv FK FD kA nK xs dA nD ys Y kx dx FX) (hg : wr.grownBy w1 dA.ownBlock) {dA' : Value} {nD' : Nat} {ys' : List Value} (hD : w1.ownsRow (w.heap.size + 3) 27 5 dA' nD' ys') (hat : dA'.ownBlock = dA.ownBlock ∨ dA'.ownBlock = some wr.heap.size) :
    SMid w w0 w1 T X ko vo kq dq B kv dv FK FD kA nK xs dA' nD' ys' Y kx dx FX := by
  refine h.moved (h.sbox.grow hg fun x e => (h.ownD.lt x e).1) hg.size (fun y hy => hg.block y (h.lt y hy) (fun e => h.apD y e.symm y hy rfl)) (h.ownK.kept hg ?_) hD h.apK (fun g e y hy => ?_) (fun g e e' => ?_)
  · cases hk : kA.ownBlock with
    | none => exact .inl rfl
    | some g => exact .inr fun e => h.apKD g hk e.symm
  · rcases hat with e1 | e1
    · exact h.apD g (e1 ▸ e) y hy
    · have e2 : wr.heap.size = g := by rw [e1] at e; injection e
      have := h.lt y hy
      omega
  · rcases hat with e1 | e1
    · exact h.apKD g e (e1 ▸ e')
    · have e2 : wr.heap.size = g := by rw [e1] at e'; injection e'
      have := (h.ownK.lt g e).2
      omega

/-- The tree to be set has been copied. -/
theorem SMid.withX (h : SMid w w0 wr T X ko vo kq dq B kv dv FK FD kA nK xs dA nD ys Y kx dx FX) (hb : Below wr.heap.size wr w1) {Z : RT} {kz dz : Value} {FZ : List Nat} (hl : Lies w1 Z kz dz FZ) (hf : Fresh wr w1 FZ) : SMid w w0 w1 T X ko vo kq dq B kv dv FK FD kA nK xs dA nD ys Z kz dz FZ := by
  have hn := h.next hb
  have hge : ∀ y ∈ FZ, wr.heap.size ≤ y := hf.old
  refine ⟨hn.sbox, hn.out, hn.strs, hn.kids, hn.fresh, hn.same, hn.size0, hl, hf.earlier h.sbox.below.size, fun y hy hy' => ?_, fun y hy => ?_, hn.ownK, hn.ownD, fun g e y hy => ?_, fun g e y hy => ?_, hn.apKD⟩
  · have := hge y hy
    have := h.lt y (.inr (.inl hy'))
    omega
  · rcases hy with hy | hy | hy
    · exact h.far y (.inl hy)
    · exact h.far y (.inr (.inl hy))
    · have := hge y hy
      have := h.sbox.size
      omega
  · rcases hy with hy | hy | hy
    · exact h.apK g e y (.inl hy)
    · exact h.apK g e y (.inr (.inl hy))
    · have := hge y hy
      have := (h.ownK.lt g e).2
      omega
  · rcases hy with hy | hy | hy
    · exact h.apD g e y (.inl hy)
    · exact h.apD g e y (.inr (.inl hy))
    · have := hge y hy
      have := (h.ownD.lt g e).2
      omega

theorem SMid.start (hs : SBox w w0 (.int .i64 T.k) (.int .i64 T.n) (.string T.s) ko vo (.int .i64 X.k) (.int .i64 X.n) (.string X.s) kq dq) (hout : w0.heap[B]? = some (.cells #[.int .i64 T.k, .int .i64 T.n, .string T.s, kv, dv] 27 (0, 0)))
    (h1 : StrsAt w0 kv T.keys FK) (h2 : KidsLie w0 dv T.kids FD) (h3 : Fresh w w0 (FK ++ FD)) (hfar : ∀ y, y = B ∨ y ∈ FK ++ FD → w.heap.size + 3 ≤ y) :
    SMid w w0 w0 T X ko vo kq dq B kv dv FK FD (.slice none 0 0) 0 [] (.slice none 0 0) 0 [] (.node 0 0 ⟨#[]⟩ [] []) (.slice none 0 0) (.slice none 0 0) [] :=
  ⟨hs, hout, h1, h2, h3, fun _ _ => rfl, Nat.le_refl _, Lies.into (FK := []) (FD := []) ⟨by decide, by decide⟩ ⟨by decide, by decide⟩ (by decide) (strs_nil _ _) ⟨none, 0, 0, 0, fun _ => [], fun _ => .bool true, fun _ => .bool true, rfl, Nat.le_refl _, Nat.zero_le _, fun h => absurd h (by simp), rfl, fun i hi => absurd hi (by simp), fun i hi => absurd hi (by simp), Room.nil _ _ _⟩,
    Fresh.nil _ _, fun y hy => absurd hy (by simp), fun y hy => by
      rcases hy with hy | hy | hy
      · exact hfar y (.inl hy)
      · exact hfar y (.inr hy)
      · simp at hy, ⟨rfl, .inl ⟨rfl, rfl⟩⟩, ⟨rfl, .inl ⟨rfl, rfl⟩⟩, fun g e => by simp [Value.ownBlock] at e, fun g e => by simp [Value.ownBlock] at e, fun g e => by simp [Value.ownBlock] at e⟩

theorem strs_one (ks : List ByteArray) : ∀ u ∈ ks.map Value.string, u.oneCell' = true := fun u hu => by
  obtain ⟨x, -, rfl⟩ := List.mem_map.1 hu
  rfl

theorem SMid.runK (h : SMid w w0 wr T X ko vo kq dq B kv dv FK FD kA nK xs dA nD ys Y kx dx FX) (A : Option Addr) (m c : Nat) (news : List Value) (hl : news.length = m) (hnews : ∀ j u, news[j]? = some u → ∃ ad, A = some ad ∧ wr.cell? (ad.add j) = some u) (h1 : ∀ u ∈ news, u.oneCell' = true) {n' : Nat} (hn' : nK + m = n') (hb : n' ≤ 4194304) (ty : TypeId) :
    ∃ v' w', (Builtin.append_ #[24, 24] ty #[kA, .slice A m c]).run Tryz.prog wr = .ok v' w' ∧ ∃ o' c', v' = .slice o' n' c' ∧ SMid w w0 w' T X ko vo kq dq B kv dv FK FD (.slice o' n' c') n' (xs ++ news) dA nD ys Y kx dx FX := by
  subst hn'
  obtain ⟨i0, hi0, hz0, hz1, hz2⟩ := info_parts info_string
  obtain ⟨o', c', w', r1, r2, r3, r4⟩ := run_append_any (P := Tryz.prog) wr 24 ty (w.heap.size + 3) 9 i0 _ 1 16 Tryz.underlying24 hi0 hz0 hz1 hz2 rfl (by decide) kA nK xs h.ownK A m c news (by omega) hnews h1 (by unfold maxLen; omega) (by omega) h.sbox.size
  exact ⟨_, w', r1, o', c', rfl, h.appK r3 r2 r4⟩

theorem SMid.runD (h : SMid w w0 wr T X ko vo kq dq B kv dv FK FD kA nK xs dA nD ys Y kx dx FX) (A : Option Addr) (m c : Nat) (news : List Value) (hl : news.length = m * 5) (hnews : ∀ j u, news[j]? = some u → ∃ ad, A = some ad ∧ wr.cell? (ad.add j) = some u) (h1 : ∀ u ∈ news, u.oneCell' = true) {n' : Nat} (hn' : nD + m = n') (hb : n' ≤ 4194304) (ty : TypeId) :
    ∃ v' w', (Builtin.append_ #[25, 25] ty #[dA, .slice A m c]).run Tryz.prog wr = .ok v' w' ∧ ∃ o' c', v' = .slice o' n' c' ∧ SMid w w0 w' T X ko vo kq dq B kv dv FK FD kA nK xs (.slice o' n' c') n' (ys ++ news) Y kx dx FX := by
  subst hn'
  obtain ⟨i0, hi0, hz0, hz1, hz2⟩ := info_parts info_node
  obtain ⟨o', c', w', r1, r2, r3, r4⟩ := run_append_any (P := Tryz.prog) wr 25 ty (w.heap.size + 3) 27 i0 _ 5 80 Tryz.underlying25 hi0 hz0 hz1 hz2 rfl (by decide) dA nD ys h.ownD A m c news hl hnews h1 (by unfold maxLen; omega) (by omega) h.sbox.size
  exact ⟨_, w', r1, o', c', rfl, h.appD r3 r2 r4⟩

/-- The keys of the copy, from any world on the way. -/
theorem SMid.srcK (h : SMid w w0 wr T X ko vo kq dq B kv dv FK FD kA nK xs dA nD ys Y kx dx FX) {b off q : Nat} (hkv : kv = .slice (some ⟨b, off, none⟩) T.keys.length q) (k : Nat) :
    (∀ j u, ((T.keys.map Value.string).take k)[j]? = some u → ∃ ad, (some ⟨b, off, none⟩ : Option Addr) = some ad ∧ wr.cell? (ad.add j) = some u) ∧ (∀ j u, ((T.keys.map Value.string).drop k)[j]? = some u → ∃ ad, (some ⟨b, off + k, none⟩ : Option Addr) = some ad ∧ wr.cell? (ad.add j) = some u) := by
  obtain ⟨o, cap, b', off', e, h1, h2, h3, hF, h4, -⟩ := h.strs
  have key : ∀ j u, (T.keys.map Value.string)[j]? = some u → wr.cell? ⟨b, off + j, none⟩ = some u := fun j u hu => by
    rw [List.getElem?_map] at hu
    obtain ⟨x, hx, rfl⟩ := Option.map_eq_some_iff.1 hu
    obtain ⟨hj, rfl⟩ := List.getElem?_eq_some_iff.1 hx
    rw [hkv] at e
    injection e with e1 e2 e3
    have := h3 (by omega)
    rw [← e1] at this
    injection this with this
    injection this with e4 e5
    subst e4 e5
    rw [World.cell?_of_block (w := w0) (h.same b (List.mem_append_left _ (by rw [hF, if_neg (by omega)]; simp)))]
    exact (h4 j hj).1
  refine ⟨fun j u hu => ⟨_, rfl, ?_⟩, fun j u hu => ⟨_, rfl, ?_⟩⟩
  · rw [Go.WideShapes.add_plain]
    rw [List.getElem?_take] at hu
    split at hu
    · exact key j u hu
    · cases hu
  · rw [Go.WideShapes.add_plain]
    rw [List.getElem?_drop] at hu
    have := key (k + j) u hu
    rw [← Nat.add_assoc] at this
    exact this

/-- The kids of the copy, each with what it is made of. -/
theorem kids_rows {dv : Value} {kids : List RT} {FD : List Nat} (h : KidsLie w0 dv kids FD) : ∃ (KV DV : Nat → Value) (FF : Nat → List Nat) (G : List Nat), (∀ j (h : j < kids.length), Lies w0 kids[j] (KV j) (DV j) (FF j)) ∧ FD = G ++ (List.range kids.length).flatMap FF ∧
    ∀ b off q, dv = .slice (some ⟨b, off, none⟩) kids.length q → ∀ W : World, (∀ y ∈ FD, W.heap[y]? = w0.heap[y]?) → ∀ j u, (rowsOf kids KV DV kids.length)[j]? = some u → W.cell? ⟨b, off + j, none⟩ = some u := by
  obtain ⟨o, cap, b', off', FF, KV, DV, rfl, h1, h2, h3, rfl, h4, h5, -⟩ := h
  refine ⟨KV, DV, FF, _, h5, rfl, fun b off q e W hW j u hu => ?_⟩
  have hj : j < kids.length * 5 := by
    have := (List.getElem?_eq_some_iff.1 hu).1
    rwa [rowsOf_length] at this
  injection e with e1 e2 e3
  have := h3 (by omega)
  rw [e1] at this
  injection this with this
  injection this with e4 e5
  subst e4 e5
  have hj5 : j / 5 < kids.length := by omega
  have hr := rowsOf_get kids KV DV kids.length (j / 5) (j % 5) hj5 (by omega)
  have e : j / 5 * 5 + j % 5 = j := by omega
  rw [e, hu] at hr
  rw [World.cell?_of_block (w := w0) (hW b (by rw [if_neg (by omega)]; simp))]
  have hc := h4 (j / 5) hj5 (j % 5) (by omega)
  rw [Nat.add_assoc, e] at hc
  rw [hc, hr]
  have e2 : kids.getD (j / 5) default = kids[j / 5] := by simp [List.getD, List.getElem?_eq_getElem hj5]
  rw [e2]

theorem src_rows {W : World} {b off : Nat} {rows : List Value} (h : ∀ j u, rows[j]? = some u → W.cell? ⟨b, off + j, none⟩ = some u) (k : Nat) :
    (∀ j u, (rows.take k)[j]? = some u → ∃ ad, (some ⟨b, off, none⟩ : Option Addr) = some ad ∧ W.cell? (ad.add j) = some u) ∧ (∀ j u, (rows.drop k)[j]? = some u → ∃ ad, (some ⟨b, off + k, none⟩ : Option Addr) = some ad ∧ W.cell? (ad.add j) = some u) := by
  refine ⟨fun j u hu => ⟨_, rfl, ?_⟩, fun j u hu => ⟨_, rfl, ?_⟩⟩
  · rw [Go.WideShapes.add_plain]
    rw [List.getElem?_take] at hu
    split at hu
    · exact h j u hu
    · cases hu
  · rw [Go.WideShapes.add_plain]
    rw [List.getElem?_drop] at hu
    have := h (k + j) u hu
    rw [← Nat.add_assoc] at this
    exact this

/-- The copy's lists cut at their end: nothing is left behind it. -/
theorem cuts {kids : List RT} {keys : List ByteArray} {o3 o4 : Option Addr} {q3 q4 : Nat} (h1 : StrsAt w0 (.slice o3 keys.length q3) keys FK) (h2 : KidsLie w0 (.slice o4 kids.length q4) kids FD) (hn : keys.length = kids.length) :
    ∃ A1 A2 A3 A4 : Option Addr, (∀ W : World, (Instr.sliceAt 24 (.slice o3 keys.length q3) none (some (.int .i64 (keys.length : Nat))) none).run Tryz.prog W = .ok (.slice A1 keys.length q3) W) ∧
      (∀ W : World, (Instr.sliceAt 24 (.slice o3 keys.length q3) (some (.int .i64 (keys.length : Nat))) none none).run Tryz.prog W = .ok (.slice A2 0 (q3 - keys.length)) W) ∧
      (∀ W : World, (Instr.sliceAt 25 (.slice o4 kids.length q4) none (some (.int .i64 (keys.length : Nat))) none).run Tryz.prog W = .ok (.slice A3 keys.length q4) W) ∧
      (∀ W : World, (Instr.sliceAt 25 (.slice o4 kids.length q4) (some (.int .i64 (keys.length : Nat))) none none).run Tryz.prog W = .ok (.slice A4 0 (q4 - keys.length)) W) ∧
      ∃ (KV DV : Nat → Value) (FF : Nat → List Nat) (G : List Nat), (∀ W : World, (∀ y ∈ FK, W.heap[y]? = w0.heap[y]?) → ∀ j u, (keys.map Value.string)[j]? = some u → ∃ ad, A1 = some ad ∧ W.cell? (ad.add j) = some u) ∧
        (∀ W : World, (∀ y ∈ FD, W.heap[y]? = w0.heap[y]?) → ∀ j u, (rowsOf kids KV DV kids.length)[j]? = some u → ∃ ad, A3 = some ad ∧ W.cell? (ad.add j) = some u) ∧
        (∀ j (h : j < kids.length), Lies w0 kids[j] (KV j) (DV j) (FF j)) ∧ FD = G ++ (List.range kids.length).flatMap FF := by
  obtain ⟨i0, hi0, hz0, hz1, hz2⟩ := info_parts info_string
  obtain ⟨j0, hj0, hy0, hy1, hy2⟩ := info_parts info_node
  obtain ⟨KV, DV, FF, G, hlie, hFD, hrow⟩ := kids_rows h2
  have hks : ∀ W : World, (Go.sizeOf 9).run Tryz.prog W = .ok 1 W := fun W => by simp [Go.sizeOf, typeInfo, hi0, hz1]
  have hns : ∀ W : World, (Go.sizeOf 27).run Tryz.prog W = .ok 5 W := fun W => by simp [Go.sizeOf, typeInfo, hj0, hy1]
  obtain ⟨o, cap, b, off, e, g1, g2, g3, g4, g5, -⟩ := h1
  injection e with e1 e2 e3
  subst e1 e3
  obtain ⟨o', cap', b', off', FF', KV', DV', e', g1', g2', g3', g4', g5', g6', -⟩ := h2
  injection e' with e1 e2 e3
  subst e1 e3
  have e1 : Tryz.prog.elem 24 = 9 := by kernel_rfl
  have e2 : Tryz.prog.elem 25 = 27 := by kernel_rfl
  refine ⟨if q3 = 0 then o3 else o3.map (·.add 0), if q3 = keys.length then o3 else o3.map (·.add (keys.length * 1)), if q4 = 0 then o4 else o4.map (·.add 0), if q4 = keys.length then o4 else o4.map (·.add (keys.length * 5)), fun W => ?_, fun W => ?_, fun W => ?_, fun W => ?_, KV, DV, FF, G, fun W hW j u hu => ?_, fun W hW j u hu => ?_, hlie, hFD⟩
  · rw [run_sliceAt_slice W _ _ _ _ _ (by rw [e1]; exact Tryz.underlying24), run_slice_h W _ _ _ _ (by rw [e1]; exact Tryz.underlying24) _ _ (by omega) (by omega), e1, hks]
    simp [sliced]
  · rw [run_sliceAt_slice W _ _ _ _ _ (by rw [e1]; exact Tryz.underlying24), run_slice_l W _ _ _ _ (by rw [e1]; exact Tryz.underlying24) _ _ (by omega) (by omega), e1, hks]
    simp [sliced]
  · rw [run_sliceAt_slice W _ _ _ _ _ (by rw [e2]; exact Tryz.underlying25), run_slice_h W _ _ _ _ (by rw [e2]; exact Tryz.underlying25) _ _ (by omega) (by omega), e2, hns]
    simp [sliced]
  · rw [run_sliceAt_slice W _ _ _ _ _ (by rw [e2]; exact Tryz.underlying25), run_slice_l W _ _ _ _ (by rw [e2]; exact Tryz.underlying25) _ _ (by omega) (by omega), e2, hns]
    simp [sliced, hn]
  · have hj : j < keys.length := by
      have := (List.getElem?_eq_some_iff.1 hu).1
      simpa using this
    have ho := g3 (by omega)
    subst ho
    rw [if_neg (by omega)]
    refine ⟨_, rfl, ?_⟩
    show W.cell? (((⟨b, off, none⟩ : Addr).add 0).add j) = _
    rw [Go.WideShapes.add_plain, Go.WideShapes.add_plain, World.cell?_of_block (w := w0) (hW b (by rw [g4, if_neg (by omega)]; simp))]
    rw [List.getElem?_map, List.getElem?_eq_getElem hj] at hu
    have hu' : Value.string keys[j] = u := by simpa using hu
    rw [← hu', Nat.add_zero]
    exact (g5 j hj).1
  · have hj : j < kids.length * 5 := by
      have := (List.getElem?_eq_some_iff.1 hu).1
      rwa [rowsOf_length] at this
    have ho := g3' (by omega)
    subst ho
    rw [if_neg (by omega)]
    refine ⟨_, rfl, ?_⟩
    show W.cell? (((⟨b', off', none⟩ : Addr).add 0).add j) = _
    rw [Go.WideShapes.add_plain, Go.WideShapes.add_plain, Nat.add_zero]
    exact hrow b' off' q4 rfl W hW j u hu

/-- The i-th kid of the copy is stored over. -/
theorem SMid.put (h : SMid w w0 wr T X ko vo kq dq B kv dv FK FD kA nK xs dA nD ys Y kx dx FX) (hB : B ∉ FK ++ FD) (hfit : Fit T.k ∧ Fit T.n ∧ T.s.size ≤ maxLen) {i : Nat} (hi : i < T.kids.length) :
    ∃ b off cap u0 u1 u2 u3 u4, dv = .slice (some ⟨b, off, none⟩) T.kids.length cap ∧ b ≠ B ∧ w.heap.size + 3 ≤ b ∧ b < wr.heap.size ∧ (∀ o, wr.frozen? ⟨b, o, none⟩ = false) ∧
      wr.cell? ⟨b, off + i * 5, none⟩ = some u0 ∧ wr.cell? ⟨b, off + i * 5 + 1, none⟩ = some u1 ∧ wr.cell? ⟨b, off + i * 5 + 2, none⟩ = some u2 ∧ wr.cell? ⟨b, off + i * 5 + 3, none⟩ = some u3 ∧ wr.cell? ⟨b, off + i * 5 + 4, none⟩ = some u4 ∧
      SBox w (set5 wr b (off + i * 5) (.int .i64 Y.k) (.int .i64 Y.n) (.string Y.s) kx dx) (.int .i64 T.k) (.int .i64 T.n) (.string T.s) ko vo (.int .i64 X.k) (.int .i64 X.n) (.string X.s) kq dq ∧
      ∃ F, Lies (set5 wr b (off + i * 5) (.int .i64 Y.k) (.int .i64 Y.n) (.string Y.s) kx dx) (.node T.k T.n T.s T.keys (T.kids.set i Y)) kv dv F ∧ Fresh w (set5 wr b (off + i * 5) (.int .i64 Y.k) (.int .i64 Y.n) (.string Y.s) kx dx) F ∧ ∀ y ∈ F, w.heap.size + 3 ≤ y := by
  have hK := h.strs.carry (w' := wr) fun y hy => h.same y (List.mem_append_left _ hy)
  have hD := h.kids.carry (w' := wr) fun y hy => h.same y (List.mem_append_right _ hy)
  have hf := h.fresh.carry (w2 := wr) h.same
  have hfD : Fresh w wr FD := ⟨(List.nodup_append.1 hf.nodup).2.1, fun y hy => hf.old y (List.mem_append_right _ hy), fun y hy => hf.free y (List.mem_append_right _ hy)⟩
  obtain ⟨b, off, cap, u0, u1, u2, u3, u4, hdv, -, -, hbF, hfz, c0, c1, c2, c3, c4, F, hk, hfk, hm⟩ := kids_put hD hfD h.x h.freshX (fun y hy hy' => h.apart y hy (List.mem_append_right _ hy')) hi
  have hb3 : w.heap.size + 3 ≤ b := h.far b (.inr (.inl (List.mem_append_right _ hbF)))
  have keep : ∀ y ∈ FK, (set5 wr b (off + i * 5) (.int .i64 Y.k) (.int .i64 Y.n) (.string Y.s) kx dx).heap[y]? = wr.heap[y]? := fun y hy => set5_other _ _ _ _ _ _ _ _ _ (fun e => nodup_of hf.nodup y hy (e ▸ hbF))
  have hfK : Fresh w (set5 wr b (off + i * 5) (.int .i64 Y.k) (.int .i64 Y.n) (.string Y.s) kx dx) FK := (show Fresh w wr FK from ⟨(List.nodup_append.1 hf.nodup).1, fun y hy => hf.old y (List.mem_append_left _ hy), fun y hy => hf.free y (List.mem_append_left _ hy)⟩).carry keep
  refine ⟨b, off, cap, u0, u1, u2, u3, u4, hdv, fun e => hB (List.mem_append_right _ (e ▸ hbF)), hb3, h.lt b (.inr (.inl (List.mem_append_right _ hbF))), hfz, c0, c1, c2, c3, c4, h.sbox.far hb3 _ _ _ _ _ _, FK ++ F, Lies.into hfit.1 hfit.2.1 hfit.2.2 (hK.carry keep) hk, ⟨List.nodup_append.2 ⟨hfK.nodup, hfk.nodup, fun a ha c hc e => ?_⟩, fun y hy => ?_, fun y hy => ?_⟩, fun y hy => ?_⟩
  · subst e
    rcases hm a hc with h' | h'
    · exact nodup_of hf.nodup a ha h'
    · exact h.apart a h' (List.mem_append_left _ ha)
  · rcases List.mem_append.1 hy with hy | hy
    · exact hfK.old y hy
    · exact hfk.old y hy
  · rcases List.mem_append.1 hy with hy | hy
    · exact hfK.free y hy
    · exact hfk.free y hy
  · rcases List.mem_append.1 hy with hy | hy
    · exact h.far y (.inr (.inl (List.mem_append_left _ hy)))
    · rcases hm y hy with h' | h'
      · exact h.far y (.inr (.inl (List.mem_append_right _ h')))
      · exact h.far y (.inr (.inr h'))

/-- Both lists are made. -/
theorem SMid.done (h : SMid w w0 wr T X ko vo kq dq B kv dv FK FD kA nK xs dA nD ys Y kx dx FX) (hfit : Fit T.k ∧ Fit T.n ∧ T.s.size ≤ maxLen) {i : Nat} (hi : i ≤ T.keys.length) (hi2 : i ≤ T.kids.length) {key : ByteArray} (hks : key.size ≤ maxLen) (hnK : nK = T.keys.length + 1) (hnD : nD = T.kids.length + 1)
    {KV DV : Nat → Value} {FF : Nat → List Nat} {G : List Nat} (hlie : ∀ j (h : j < T.kids.length), Lies w0 T.kids[j] (KV j) (DV j) (FF j)) (hFD : FD = G ++ (List.range T.kids.length).flatMap FF)
    (hxs : xs = (T.keys.map .string).take i ++ [.string key] ++ (T.keys.map .string).drop i) (hys : ys = (rowsOf T.kids KV DV T.kids.length).take (i * 5) ++ Y.row kx dx ++ (rowsOf T.kids KV DV T.kids.length).drop (i * 5)) :
    ∃ F, Lies wr (.node T.k T.n T.s (insAt T.keys i key) (insAt T.kids i Y)) kA dA F ∧ Fresh w wr F ∧ ∀ y ∈ F, w.heap.size + 3 ≤ y := by
  subst hnK hnD hxs hys
  have hl := insAt_length key hi
  have hsz : ∀ j (hj : j < T.keys.length), T.keys[j].size ≤ maxLen := by
    obtain ⟨_, _, _, _, _, _, _, _, _, h4, -⟩ := h.strs
    exact fun j hj => (h4 j hj).2
  have hsub : ∀ y ∈ (List.range T.kids.length).flatMap FF, y ∈ FK ++ FD := fun y hy => by rw [hFD]; exact List.mem_append_right _ (List.mem_append_right _ hy)
  obtain ⟨F1, f1, f2, f3⟩ := strs_owned (w := w) (wf := wr) (base := w.heap.size + 3) (t := 9) (v := kA) (ks := insAt T.keys i key) (by rw [hl]; simpa [insAt] using h.ownK)
    (fun j hj => by
      rcases insAt_mem (List.getElem_mem hj) with e | e
      · rw [e]; exact hks
      · obtain ⟨m, hm, e⟩ := List.getElem_of_mem e
        rw [← e]; exact hsz m hm) (by omega)
  have hndD : FD.Nodup := (List.nodup_append.1 h.fresh.nodup).2.1
  have hfF : Fresh w wr ((List.range T.kids.length).flatMap FF) := by
    refine ⟨?_, fun y hy => h.fresh.old y (hsub y hy), fun y hy o => (World.frozen?_of_block (w := w0) (h.same y (hsub y hy))).trans (h.fresh.free y (hsub y hy) o)⟩
    rw [hFD] at hndD
    exact (List.nodup_append.1 hndD).2.1
  obtain ⟨F2, k1, k2, k3⟩ := kids_ins (w := w) hi2 h.ownD (fun j hj => (hlie j hj).carry fun y hy => h.same y (hsub y (List.mem_flatMap.2 ⟨j, List.mem_range.2 hj, hy⟩))) h.x hfF h.freshX (fun y hy hy' => h.apart y hy (hsub y hy')) (fun g hg => ⟨fun hx => h.apD g hg g (.inr (.inl (hsub g hx))) rfl, fun hx => h.apD g hg g (.inr (.inr hx)) rfl⟩) (by omega)
  have hm : ∀ y ∈ F2, dA.ownBlock = some y ∨ y ∈ FK ++ FD ∨ y ∈ FX := fun y hy => by
    rcases k3 y hy with e | e | e
    · exact .inl e
    · exact .inr (.inl (hsub y e))
    · exact .inr (.inr e)
  refine ⟨F1 ++ F2, Lies.into hfit.1 hfit.2.1 hfit.2.2 f1 k1, ⟨List.nodup_append.2 ⟨f2.nodup, k2.nodup, fun a ha c hc e => ?_⟩, fun y hy => ?_, fun y hy => ?_⟩, fun y hy => ?_⟩
  · subst e
    have ha' := f3 a ha
    rcases hm a hc with e | e
    · exact h.apKD a ha' e
    · exact h.apK a ha' a (.inr e) rfl
  · rcases List.mem_append.1 hy with hy | hy
    · exact f2.old y hy
    · exact k2.old y hy
  · rcases List.mem_append.1 hy with hy | hy
    · exact f2.free y hy
    · exact k2.free y hy
  · rcases List.mem_append.1 hy with hy | hy
    · exact (h.ownK.lt y (f3 y hy)).1
    · rcases hm y hy with e | e
      · exact (h.ownD.lt y e).1
      · exact h.far y (.inr e)
end
end Go.Proofs.YtelpkcbbipianaaGreat
