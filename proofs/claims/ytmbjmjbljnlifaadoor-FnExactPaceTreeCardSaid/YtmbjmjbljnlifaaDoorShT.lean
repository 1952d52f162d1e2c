/-
  What is proved: what a metric's and a pace's tree are; the program's kindText and the node of a map.
-/
import Derived.Test.YtmbjmjbljnlifaaDoorShP
import Derived.Test.YtmbjmjbljnlifaaDoorStepB
import Derived.Test.YtmbjmjbljnlifaaDoorOrdP
import Derived.Test.YtmbjmjbljnlifaaDoorTextOf
import Derived.Test.YtmbjmjbljnlifaaDoorIntOf
import Derived.Test.YtmbjmjbljnlifaaDoorTexts
import Derived.Test.YtmbjmjbljnlifaaDoorTreeSz
namespace Go.Proofs.YtmbjmjbljnlifaaDoor
open Go Go.RowKit

set_option maxHeartbeats 400000 in
theorem node_map (kv dv : Value) (w : World) (hk : ∃ o l c, kv = .slice o l c) (hd : ∃ o l c, dv = .slice o l c) : Calls Tryd.prog 22 #[.agg #[kv, dv]] w fun e w' => e = .returned (.agg #[.int .i64 5, .int .i64 0, .string ⟨#[]⟩, kv, dv]) ∧ Below w.heap.size w w' := by
  obtain ⟨o1, l1, c1, rfl⟩ := hk
  obtain ⟨o2, l2, c2, rfl⟩ := hd
  go_enter Tryd.func22, Tryd.ntmps22
  go_wp2
  exact bodyPost_ret (ret_node Tryd.results22 rfl (by simpa using heap_last (w.alloc (.cells #[.slice o1 l1 c1, .slice o2 l2 c2] 45)) _)) rfl ⟨rfl, ((Below.refl _ w).alloc (Nat.le_refl _) _).alloc (by simp) _⟩

def kindB (k : Int) : ByteArray := if k = 1 then ⟨#[115, 104, 97, 114, 101]⟩ else if k = 2 then ⟨#[109, 101, 97, 110]⟩ else if k = 3 then ⟨#[119, 104, 111, 108, 101]⟩ else ⟨#[110, 111, 110, 101]⟩

theorem impl_kindText (k : Int) (w : World) : Calls Tryd.prog 21 #[.int .i64 k] w fun e w' => e = .returned (.string (kindB k)) ∧ Below w.heap.size w w' := by
  go_enter Tryd.func21, Tryd.ntmps21
  by_cases h1 : k = 1
  · subst h1
    go_wp2
    go_ret
    exact ⟨rfl, Below.refl _ _⟩
  by_cases h2 : k = 2
  · subst h2
    go_wp2
    go_ret
    exact ⟨rfl, Below.refl _ _⟩
  by_cases h3 : k = 3
  · subst h3
    go_wp2
    go_ret
    exact ⟨rfl, Below.refl _ _⟩
  go_wp2
  go_ret
  exact ⟨by simp [kindB, h1, h2, h3], Below.refl _ _⟩

/-- A metric as a tree. -/
def metT (m : Met) : RT := .node 5 0 ⟨#[]⟩ [⟨#[103, 111, 97, 108]⟩, ⟨#[107, 105, 110, 100]⟩, ⟨#[110, 97, 109, 101]⟩] [.node 3 0 ⟨(amtText m.goal).toArray⟩ [] [], .node 3 0 (kindB m.kind) [] [], .node 3 0 m.name [] []]

theorem amt_len (n : Int) (h0 : -9223372036854775808 ≤ n) (h1 : n ≤ 9223372036854775807) : (amtText n).length ≤ 30 := by
  have a := Num.itoa_length (n / 1000000) (by omega) (by omega)
  have b := Num.itoa_length (n / 1000) (by omega) (by omega)
  have c := Num.itoa_length n h0 h1
  unfold amtText
  repeat' split
  all_goals simp; try omega

theorem span_len (n : Int) (h0 : -9223372036854775808 ≤ n) (h1 : n ≤ 9223372036854775807) : (spanText n).length ≤ 30 := by
  have a := Num.itoa_length (n / 3600) (by omega) (by omega)
  have b := Num.itoa_length (n / 60) (by omega) (by omega)
  have c := Num.itoa_length n h0 h1
  unfold spanText
  repeat' split
  all_goals simp; try omega

theorem amt_fit (n : Int) (h0 : -9223372036854775808 ≤ n) (h1 : n ≤ 9223372036854775807) : (⟨(amtText n).toArray⟩ : ByteArray).size ≤ maxLen := by
  have := amt_len n h0 h1
  show (amtText n).toArray.size ≤ _
  simp [maxLen]; omega
theorem span_fit (n : Int) (h0 : -9223372036854775808 ≤ n) (h1 : n ≤ 9223372036854775807) : (⟨(spanText n).toArray⟩ : ByteArray).size ≤ maxLen := by
  have := span_len n h0 h1
  show (spanText n).toArray.size ≤ _
  simp [maxLen]; omega
theorem kind_fit (k : Int) : (kindB k).size ≤ maxLen := by
  unfold kindB
  repeat' split
  all_goals decide

theorem amt_size (n : Int) (h0 : -9223372036854775808 ≤ n) (h1 : n ≤ 9223372036854775807) : (⟨(amtText n).toArray⟩ : ByteArray).size ≤ 30 := by
  have a := amt_len n h0 h1
  show (amtText n).toArray.size ≤ 30
  simpa using a
theorem span_size (n : Int) (h0 : -9223372036854775808 ≤ n) (h1 : n ≤ 9223372036854775807) : (⟨(spanText n).toArray⟩ : ByteArray).size ≤ 30 := by
  have a := span_len n h0 h1
  show (spanText n).toArray.size ≤ 30
  simpa using a
theorem kind_size (k : Int) : (kindB k).size ≤ 5 := by
  unfold kindB
  repeat' split
  all_goals decide

def LeafK (T : RT) : Prop := T.keys = [] ∧ T.kids = [] ∧ Fit T.k ∧ Fit T.n ∧ T.s.size ≤ maxLen
theorem leafK (k n : Int) (s : ByteArray) (hk : Fit k) (hn : Fit n) (hs : s.size ≤ maxLen) : LeafK (.node k n s [] []) := ⟨rfl, rfl, hk, hn, hs⟩

theorem metT_leaves (m : Met) (hm : m.ok) : ∀ t ∈ (metT m).kids, LeafK t := by
  intro t ht
  have hmem : t = .node 3 0 ⟨(amtText m.goal).toArray⟩ [] [] ∨ t = .node 3 0 (kindB m.kind) [] [] ∨ t = .node 3 0 m.name [] [] := by simpa [metT, RT.kids] using ht
  rcases hmem with rfl | rfl | rfl
  · exact leafK _ _ _ ⟨by decide, by decide⟩ ⟨by decide, by decide⟩ (amt_fit _ hm.2.2.1 hm.2.2.2)
  · exact leafK _ _ _ ⟨by decide, by decide⟩ ⟨by decide, by decide⟩ (kind_fit _)
  · exact leafK _ _ _ ⟨by decide, by decide⟩ ⟨by decide, by decide⟩ hm.1
theorem metT_keys (m : Met) : ∀ k ∈ (metT m).keys, k.size ≤ maxLen := by
  intro t ht
  have hmem : t = ⟨#[103, 111, 97, 108]⟩ ∨ t = ⟨#[107, 105, 110, 100]⟩ ∨ t = ⟨#[110, 97, 109, 101]⟩ := by simpa [metT, RT.keys] using ht
  rcases hmem with rfl | rfl | rfl <;> decide

/-- A pace as a tree. -/
def pacT (p : Pac) : RT := .node 5 0 ⟨#[]⟩ [⟨#[100, 111, 119, 110]⟩, ⟨#[100, 111, 119, 110, 115, 112, 97, 110]⟩, ⟨#[117, 112]⟩, ⟨#[117, 112, 115, 112, 97, 110]⟩] [.node 2 p.down ⟨#[]⟩ [] [], .node 3 0 ⟨(spanText p.downs).toArray⟩ [] [], .node 2 p.up ⟨#[]⟩ [] [], .node 3 0 ⟨(spanText p.ups).toArray⟩ [] []]

theorem pacT_leaves (p : Pac) (hp : p.ok) : ∀ t ∈ (pacT p).kids, LeafK t := by
  intro t ht
  have hmem : t = .node 2 p.down ⟨#[]⟩ [] [] ∨ t = .node 3 0 ⟨(spanText p.downs).toArray⟩ [] [] ∨ t = .node 2 p.up ⟨#[]⟩ [] [] ∨ t = .node 3 0 ⟨(spanText p.ups).toArray⟩ [] [] := by simpa [pacT, RT.kids] using ht
  rcases hmem with rfl | rfl | rfl | rfl
  · exact leafK _ _ _ ⟨by decide, by decide⟩ hp.2.1 (by decide)
  · exact leafK _ _ _ ⟨by decide, by decide⟩ ⟨by decide, by decide⟩ (span_fit _ hp.2.2.2.1 hp.2.2.2.2)
  · exact leafK _ _ _ ⟨by decide, by decide⟩ hp.1 (by decide)
  · exact leafK _ _ _ ⟨by decide, by decide⟩ ⟨by decide, by decide⟩ (span_fit _ hp.2.2.1.1 hp.2.2.1.2)
theorem pacT_keys (p : Pac) : ∀ k ∈ (pacT p).keys, k.size ≤ maxLen := by
  intro t ht
  have hmem : t = ⟨#[100, 111, 119, 110]⟩ ∨ t = ⟨#[100, 111, 119, 110, 115, 112, 97, 110]⟩ ∨ t = ⟨#[117, 112]⟩ ∨ t = ⟨#[117, 112, 115, 112, 97, 110]⟩ := by simpa [pacT, RT.keys] using ht
  rcases hmem with rfl | rfl | rfl | rfl <;> decide

theorem metT_sz (m : Met) (h0 : -9223372036854775808 ≤ m.goal) (h1 : m.goal ≤ 9223372036854775807) : (metT m).sz ≤ m.name.size + 200 := by
  have a := amt_len m.goal h0 h1
  have c : (kindB m.kind).size ≤ 5 := by
    unfold kindB
    repeat' split
    all_goals decide
  have e : (⟨(amtText m.goal).toArray⟩ : ByteArray).size = (amtText m.goal).length := by show (amtText m.goal).toArray.size = _; simp
  have k1 : (⟨#[103, 111, 97, 108]⟩ : ByteArray).size = 4 := rfl
  have k2 : (⟨#[107, 105, 110, 100]⟩ : ByteArray).size = 4 := rfl
  have k3 : (⟨#[110, 97, 109, 101]⟩ : ByteArray).size = 4 := rfl
  have k4 : (⟨#[]⟩ : ByteArray).size = 0 := rfl
  simp only [metT, RT.sz, szAll, strSz, List.length_cons, List.length_nil, List.map_cons, List.map_nil, List.sum_cons, List.sum_nil, e, k1, k2, k3, k4]
  omega
theorem pacT_sz (p : Pac) (h : p.ok) : (pacT p).sz ≤ 400 := by
  have a := span_len p.ups h.2.2.1.1 h.2.2.1.2
  have c := span_len p.downs h.2.2.2.1 h.2.2.2.2
  have e : (⟨(spanText p.ups).toArray⟩ : ByteArray).size = (spanText p.ups).length := by show (spanText p.ups).toArray.size = _; simp
  have e' : (⟨(spanText p.downs).toArray⟩ : ByteArray).size = (spanText p.downs).length := by show (spanText p.downs).toArray.size = _; simp
  have k1 : (⟨#[100, 111, 119, 110]⟩ : ByteArray).size = 4 := rfl
  have k2 : (⟨#[100, 111, 119, 110, 115, 112, 97, 110]⟩ : ByteArray).size = 8 := rfl
  have k3 : (⟨#[117, 112]⟩ : ByteArray).size = 2 := rfl
  have k4 : (⟨#[117, 112, 115, 112, 97, 110]⟩ : ByteArray).size = 6 := rfl
  have k5 : (⟨#[]⟩ : ByteArray).size = 0 := rfl
  simp only [pacT, RT.sz, szAll, strSz, List.length_cons, List.length_nil, List.map_cons, List.map_nil, List.sum_cons, List.sum_nil, e, e', k1, k2, k3, k4, k5]
  omega

/-- What was laid by a call becomes the result. -/
theorem res_keep {w W X : World} {a : Obj} {zs : Array Value} {W' : World} {T : RT} {kr dr : Value} {G : List Nat} (_ : Two w W a (.cells zs 28)) (hl : Lies W' T kr dr G) (hf : Fresh X W' G) (hX : W.heap.size ≤ X.heap.size) :
    Lies W' T kr dr G ∧ Fresh w W' G ∧ ∀ x ∈ G, w.heap.size + 2 ≤ x := by
  rename_i h
  exact ⟨hl, hf.earlier (by have := h.size; omega), fun x hx => by have := hf.old x hx; have := h.size; omega⟩
theorem res_fin {w W : World} {a : Obj} {z0 z1 z2 z3 z4 : Value} {T : RT} {kr dr : Value} {G : List Nat} (h : Two w W a (.cells #[z0, z1, z2, z3, z4] 28)) (hl : Lies W T kr dr G ∧ Fresh w W G ∧ ∀ x ∈ G, w.heap.size + 2 ≤ x) :
    (set5 W (w.heap.size + 1) 0 (.int .i64 T.k) (.int .i64 T.n) (.string T.s) kr dr).heap[w.heap.size + 1]? = some (.cells #[.int .i64 T.k, .int .i64 T.n, .string T.s, kr, dr] 28 (0, 0)) ∧ Lies (set5 W (w.heap.size + 1) 0 (.int .i64 T.k) (.int .i64 T.n) (.string T.s) kr dr) T kr dr G ∧
    Fresh w (set5 W (w.heap.size + 1) 0 (.int .i64 T.k) (.int .i64 T.n) (.string T.s) kr dr) G ∧ Below w.heap.size w (set5 W (w.heap.size + 1) 0 (.int .i64 T.k) (.int .i64 T.n) (.string T.s) kr dr) := by
  obtain ⟨h1, h2, h3⟩ := hl
  have keep : ∀ x ∈ G, (set5 W (w.heap.size + 1) 0 (.int .i64 T.k) (.int .i64 T.n) (.string T.s) kr dr).heap[x]? = W.heap[x]? := fun x hx => set5_other _ _ _ _ _ _ _ _ _ (by have := h3 x hx; omega)
  exact ⟨set5_end h.res _ _ _ _ _, h1.carry keep, h2.carry keep, set5_below h.below (by omega) _ _ _ _ _ _⟩

theorem sh_in (x : Int) (w : World) : Calls Tryd.prog 34 #[.int .i64 x, .int .i64 1, .int .i64 3] w fun e w' => e = .returned (.bool (decide (1 ≤ x) && decide (x ≤ 3))) ∧ w' = w := by
  by_cases h1 : 1 ≤ x
  · by_cases h2 : x ≤ 3
    · go_enter Tryd.func34, Tryd.ntmps34
      go_wp2
      go_ret
      exact ⟨by simp [h1, h2], rfl⟩
    · go_enter Tryd.func34, Tryd.ntmps34
      go_wp2
      go_ret
      exact ⟨by simp [h2], rfl⟩
  · go_enter Tryd.func34, Tryd.ntmps34
    go_wp2
    go_ret
    exact ⟨by simp; omega, rfl⟩

/-- The model's word of a kind. -/
theorem spec_l7Kind (k : Int) (w : World) : Calls Tryd.prog 17 #[.int .i64 k] w fun e w' => e = .returned (.string (kindB k)) ∧ Below w.heap.size w w' := by
  have H1 := Lib.hid (sh_in k w)
  by_cases h1 : k = 1
  · subst h1
    go_enter Tryd.func17, Tryd.ntmps17
    go_wp2_with (first | (go_at_call 34; refine H1.out.mono ?_; rintro e w1 ⟨rfl, e1⟩; subst e1) | fail)
    go_ret
    exact ⟨rfl, (Below.refl _ _).alloc (Nat.le_refl _) _⟩
  by_cases h2 : k = 2
  · subst h2
    go_enter Tryd.func17, Tryd.ntmps17
    go_wp2_with (first | (go_at_call 34; refine H1.out.mono ?_; rintro e w1 ⟨rfl, e1⟩; subst e1) | fail)
    go_ret
    exact ⟨rfl, (Below.refl _ _).alloc (Nat.le_refl _) _⟩
  by_cases h3 : k = 3
  · subst h3
    go_enter Tryd.func17, Tryd.ntmps17
    go_wp2_with (first | (go_at_call 34; refine H1.out.mono ?_; rintro e w1 ⟨rfl, e1⟩; subst e1) | fail)
    go_ret
    exact ⟨rfl, (Below.refl _ _).alloc (Nat.le_refl _) _⟩
  have hb : (decide (1 ≤ k) && decide (k ≤ 3)) = false := by
    by_cases a : 1 ≤ k
    · have : ¬ k ≤ 3 := by omega
      simp [this]
    · simp [a]
  rw [hb] at H1
  go_enter Tryd.func17, Tryd.ntmps17
  go_wp2_with (first | (go_at_call 34; refine H1.out.mono ?_; rintro e w1 ⟨rfl, e1⟩; subst e1) | fail)
  go_ret
  exact ⟨by simp [kindB, h1, h2, h3], Below.refl _ _⟩
end Go.Proofs.YtmbjmjbljnlifaaDoor
