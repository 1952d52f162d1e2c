/-
  What is proved: plain facts on the plain shape: which metric is the share, which are the others; the keys set one behind the other.; the share and the metrics besides it as the model tells them; no condition.; the metrics besides the share, as the program and the model lay them; no condition.; plain facts: what an order that is right has for metrics.; the model's PlainTree of an order that is right: its tree, in memory of its own; no condition.
-/
import Derived.Test.YtelpkcbbipianaaGreatPartAS
import Derived.Test.YtelpkcbbipianaaGreatPartAO
import Derived.Test.YtelpkcbbipianaaGreatPartAK
import Derived.Test.YtelpkcbbipianaaGreatPartAT
import Derived.Test.YtelpkcbbipianaaGreatPartAD
import Derived.Test.YtelpkcbbipianaaGreatPartAE
/- plain facts on the plain shape: which metric is the share, which are the others; the keys set one behind the other. -/
namespace Go.Proofs.YtelpkcbbipianaaGreat
open Go Go.RowKit

/-! ### The share -/

/-- A metric named cpu. -/
def isCpu (m : Met) : Bool := m.name.toList == [99, 112, 117]
/-- A metric of which a share is told. -/
def fitsB (m : Met) : Bool := isCpu m && (decide (m.kind = 1) && (decide (m.goal.tmod 10 = 0) && inB (m.goal.tdiv 10) 1 1000))
def shareB (xs : List Met) : Bool := (xs.find? fitsB).isSome
def shareN (xs : List Met) : Int := match xs.find? fitsB with
  | some m => m.goal.tdiv 10
  | none => 0
/-- The metrics but the one of which the share is told. -/
def othersM (xs : List Met) : List Met := xs.filter fun m => !(shareB xs && isCpu m)
theorem share_in {xs : List Met} (h : shareB xs = true) : 1 ≤ shareN xs ∧ shareN xs ≤ 1000 := by
  unfold shareB at h
  unfold shareN
  cases hq : xs.find? fitsB with
  | none => rw [hq] at h; cases h
  | some m =>
    have hf := List.find?_some hq
    unfold fitsB inB at hf
    simp only [Bool.and_eq_true, decide_eq_true_eq] at hf
    exact hf.2.2.2

theorem share_zero {xs : List Met} (h : shareB xs = false) : shareN xs = 0 := by
  unfold shareB at h
  unfold shareN
  cases hq : xs.find? fitsB with
  | none => rfl
  | some m => rw [hq] at h; cases h

theorem others_mem {xs : List Met} {m : Met} (h : m ∈ othersM xs) : m ∈ xs := (List.mem_filter.1 h).1
theorem others_len (xs : List Met) : (othersM xs).length ≤ xs.length := List.length_filter_le _ _

/-! ### The plain shape -/

/-- An order in the plain shape without a share, at any notes. -/
def plain6 (O : Ord) (N : RT) : RT := .node 5 0 ⟨#[]⟩
  [⟨#[104, 105, 103, 104]⟩, ⟨#[107, 105, 110, 100]⟩, ⟨#[108, 111, 119]⟩, ⟨#[110, 97, 109, 101]⟩, ⟨#[110, 111, 116, 101, 115]⟩, ⟨#[116, 97, 114, 103, 101, 116]⟩]
  [.node 2 O.high ⟨#[]⟩ [] [], .node 3 0 ⟨#[112, 108, 97, 105, 110]⟩ [] [], .node 2 O.low ⟨#[]⟩ [] [], .node 3 0 O.name [] [], N, .node 3 0 O.target [] []]
/-- An order in the plain shape with a share, at any notes. -/
def plain7 (O : Ord) (N : RT) (n : Int) : RT := .node 5 0 ⟨#[]⟩
  [⟨#[104, 105, 103, 104]⟩, ⟨#[107, 105, 110, 100]⟩, ⟨#[108, 111, 119]⟩, ⟨#[110, 97, 109, 101]⟩, ⟨#[110, 111, 116, 101, 115]⟩, ⟨#[115, 104, 97, 114, 101]⟩, ⟨#[116, 97, 114, 103, 101, 116]⟩]
  [.node 2 O.high ⟨#[]⟩ [] [], .node 3 0 ⟨#[112, 108, 97, 105, 110]⟩ [] [], .node 2 O.low ⟨#[]⟩ [] [], .node 3 0 O.name [] [], N, .node 2 n ⟨#[]⟩ [] [], .node 3 0 O.target [] []]
noncomputable def plainN (O : Ord) : RT := if othersM O.mets = [] then savedT O else setT (savedT O) ⟨#[113, 117, 97, 121, 47, 109, 101, 116, 114, 105, 99, 115]⟩ (.node 3 0 (bracT (metsT (othersM O.mets))) [] [])
noncomputable def shapeP (O : Ord) (N : RT) : RT := if shareB O.mets = true then plain7 O N (shareN O.mets) else plain6 O N
noncomputable def plainT (O : Ord) : RT := shapeP O (plainN O)

theorem pl_share (O : Ord) (N : RT) (n : Int) : setT (plain6 O N) ⟨#[115, 104, 97, 114, 101]⟩ (.node 2 n ⟨#[]⟩ [] []) = plain7 O N n := by
  show setT (.node 5 0 ⟨#[]⟩ [⟨#[104, 105, 103, 104]⟩, ⟨#[107, 105, 110, 100]⟩, ⟨#[108, 111, 119]⟩, ⟨#[110, 97, 109, 101]⟩, ⟨#[110, 111, 116, 101, 115]⟩, ⟨#[116, 97, 114, 103, 101, 116]⟩] [.node 2 O.high ⟨#[]⟩ [] [], .node 3 0 ⟨#[112, 108, 97, 105, 110]⟩ [] [], .node 2 O.low ⟨#[]⟩ [] [], .node 3 0 O.name [] [], N, .node 3 0 O.target [] []]) ⟨#[115, 104, 97, 114, 101]⟩ (.node 2 n ⟨#[]⟩ [] []) = _
  rw [setT_new (by rfl) (show firstN [⟨#[104, 105, 103, 104]⟩, ⟨#[107, 105, 110, 100]⟩, ⟨#[108, 111, 119]⟩, ⟨#[110, 97, 109, 101]⟩, ⟨#[110, 111, 116, 101, 115]⟩, ⟨#[116, 97, 114, 103, 101, 116]⟩] ⟨#[115, 104, 97, 114, 101]⟩ = 6 by decide +kernel) (show placeN [⟨#[104, 105, 103, 104]⟩, ⟨#[107, 105, 110, 100]⟩, ⟨#[108, 111, 119]⟩, ⟨#[110, 97, 109, 101]⟩, ⟨#[110, 111, 116, 101, 115]⟩, ⟨#[116, 97, 114, 103, 101, 116]⟩] ⟨#[115, 104, 97, 114, 101]⟩ = 5 by decide +kernel)]
  rfl
/-- The model's way. -/
theorem pl_head6 (O : Ord) (N : RT) : setT (headT ⟨#[112, 108, 97, 105, 110]⟩ O) ⟨#[110, 111, 116, 101, 115]⟩ N = plain6 O N := by
  show setT (.node 5 0 ⟨#[]⟩ [⟨#[104, 105, 103, 104]⟩, ⟨#[107, 105, 110, 100]⟩, ⟨#[108, 111, 119]⟩, ⟨#[110, 97, 109, 101]⟩, ⟨#[116, 97, 114, 103, 101, 116]⟩] [.node 2 O.high ⟨#[]⟩ [] [], .node 3 0 ⟨#[112, 108, 97, 105, 110]⟩ [] [], .node 2 O.low ⟨#[]⟩ [] [], .node 3 0 O.name [] [], .node 3 0 O.target [] []]) ⟨#[110, 111, 116, 101, 115]⟩ N = _
  rw [setT_new (by rfl) (show firstN [⟨#[104, 105, 103, 104]⟩, ⟨#[107, 105, 110, 100]⟩, ⟨#[108, 111, 119]⟩, ⟨#[110, 97, 109, 101]⟩, ⟨#[116, 97, 114, 103, 101, 116]⟩] ⟨#[110, 111, 116, 101, 115]⟩ = 5 by decide +kernel) (show placeN [⟨#[104, 105, 103, 104]⟩, ⟨#[107, 105, 110, 100]⟩, ⟨#[108, 111, 119]⟩, ⟨#[110, 97, 109, 101]⟩, ⟨#[116, 97, 114, 103, 101, 116]⟩] ⟨#[110, 111, 116, 101, 115]⟩ = 4 by decide +kernel)]
  rfl
theorem pl_head7 (O : Ord) (N : RT) (n : Int) : setT (setT (headT ⟨#[112, 108, 97, 105, 110]⟩ O) ⟨#[115, 104, 97, 114, 101]⟩ (.node 2 n ⟨#[]⟩ [] [])) ⟨#[110, 111, 116, 101, 115]⟩ N = plain7 O N n := by
  show setT (setT (.node 5 0 ⟨#[]⟩ [⟨#[104, 105, 103, 104]⟩, ⟨#[107, 105, 110, 100]⟩, ⟨#[108, 111, 119]⟩, ⟨#[110, 97, 109, 101]⟩, ⟨#[116, 97, 114, 103, 101, 116]⟩] [.node 2 O.high ⟨#[]⟩ [] [], .node 3 0 ⟨#[112, 108, 97, 105, 110]⟩ [] [], .node 2 O.low ⟨#[]⟩ [] [], .node 3 0 O.name [] [], .node 3 0 O.target [] []]) ⟨#[115, 104, 97, 114, 101]⟩ (.node 2 n ⟨#[]⟩ [] [])) ⟨#[110, 111, 116, 101, 115]⟩ N = _
  rw [setT_new (by rfl) (show firstN [⟨#[104, 105, 103, 104]⟩, ⟨#[107, 105, 110, 100]⟩, ⟨#[108, 111, 119]⟩, ⟨#[110, 97, 109, 101]⟩, ⟨#[116, 97, 114, 103, 101, 116]⟩] ⟨#[115, 104, 97, 114, 101]⟩ = 5 by decide +kernel) (show placeN [⟨#[104, 105, 103, 104]⟩, ⟨#[107, 105, 110, 100]⟩, ⟨#[108, 111, 119]⟩, ⟨#[110, 97, 109, 101]⟩, ⟨#[116, 97, 114, 103, 101, 116]⟩] ⟨#[115, 104, 97, 114, 101]⟩ = 4 by decide +kernel)]
  show setT (.node 5 0 ⟨#[]⟩ [⟨#[104, 105, 103, 104]⟩, ⟨#[107, 105, 110, 100]⟩, ⟨#[108, 111, 119]⟩, ⟨#[110, 97, 109, 101]⟩, ⟨#[115, 104, 97, 114, 101]⟩, ⟨#[116, 97, 114, 103, 101, 116]⟩] [.node 2 O.high ⟨#[]⟩ [] [], .node 3 0 ⟨#[112, 108, 97, 105, 110]⟩ [] [], .node 2 O.low ⟨#[]⟩ [] [], .node 3 0 O.name [] [], .node 2 n ⟨#[]⟩ [] [], .node 3 0 O.target [] []]) ⟨#[110, 111, 116, 101, 115]⟩ N = _
  rw [setT_new (by rfl) (show firstN [⟨#[104, 105, 103, 104]⟩, ⟨#[107, 105, 110, 100]⟩, ⟨#[108, 111, 119]⟩, ⟨#[110, 97, 109, 101]⟩, ⟨#[115, 104, 97, 114, 101]⟩, ⟨#[116, 97, 114, 103, 101, 116]⟩] ⟨#[110, 111, 116, 101, 115]⟩ = 6 by decide +kernel) (show placeN [⟨#[104, 105, 103, 104]⟩, ⟨#[107, 105, 110, 100]⟩, ⟨#[108, 111, 119]⟩, ⟨#[110, 97, 109, 101]⟩, ⟨#[115, 104, 97, 114, 101]⟩, ⟨#[116, 97, 114, 103, 101, 116]⟩] ⟨#[110, 111, 116, 101, 115]⟩ = 4 by decide +kernel)]
  rfl

theorem plain6_sz {O : Ord} (h : O.okB = true) (N : RT) : (plain6 O N).sz ≤ 300 + N.sz := by
  have c := head_sz h ⟨#[112, 108, 97, 105, 110]⟩ (by decide)
  have e := pl_head6 O N
  have z1 := setT_sz (headT ⟨#[112, 108, 97, 105, 110]⟩ O) N ⟨#[110, 111, 116, 101, 115]⟩
  have k3 : (⟨#[110, 111, 116, 101, 115]⟩ : ByteArray).size = 5 := rfl
  rw [e] at z1
  omega
theorem plain7_sz {O : Ord} (h : O.okB = true) (N : RT) (n : Int) : (plain7 O N n).sz ≤ 400 + N.sz := by
  have c := plain6_sz h N
  have e := pl_share O N n
  have z1 := setT_sz (plain6 O N) (.node 2 n ⟨#[]⟩ [] []) ⟨#[115, 104, 97, 114, 101]⟩
  have k3 : (⟨#[115, 104, 97, 114, 101]⟩ : ByteArray).size = 5 := rfl
  have k0 : (RT.node 2 n ⟨#[]⟩ [] []).sz = 0 := by
    have k : (⟨#[]⟩ : ByteArray).size = 0 := rfl
    simp only [RT.sz, szAll, strSz, k, List.length_nil, List.map_nil, List.sum_nil, Nat.add_zero]
  rw [e] at z1
  omega
theorem others_sz {O : Ord} (h : O.okB = true) (hg : ∀ m ∈ O.mets, m.ok) : (metsT (othersM O.mets)).sz ≤ 2000 := by
  obtain ⟨-, -, ⟨h1, h2⟩, -⟩ := okB_out h
  have a := szAll_le 220 ((othersM O.mets).map metT) (fun t ht => by
    obtain ⟨m, hm, rfl⟩ := List.mem_map.1 ht
    have hm' := others_mem hm
    have := metT_sz m (hg m hm').2.2.1 (hg m hm').2.2.2
    have := h2 m hm'
    omega)
  have l := others_len O.mets
  have k : (⟨#[]⟩ : ByteArray).size = 0 := rfl
  simp only [metsT, RT.sz, k, strSz, List.length_nil, List.map_nil, List.sum_nil, List.length_map] at a ⊢
  omega
theorem plainN_sz {O : Ord} (h : O.okB = true) : (plainN O).sz ≤ 900000 := by
  have hs := saved_sz h
  unfold plainN
  split
  · omega
  · have hb := bracT_size (metsT (othersM O.mets))
    have z := setT_sz (savedT O) (.node 3 0 (bracT (metsT (othersM O.mets))) [] []) ⟨#[113, 117, 97, 121, 47, 109, 101, 116, 114, 105, 99, 115]⟩
    have k : (⟨#[113, 117, 97, 121, 47, 109, 101, 116, 114, 105, 99, 115]⟩ : ByteArray).size = 12 := rfl
    have e : (RT.node 3 0 (bracT (metsT (othersM O.mets))) [] []).sz = (bracT (metsT (othersM O.mets))).size := by simp [RT.sz, szAll, strSz]
    omega
theorem plainT_sz {O : Ord} (h : O.okB = true) : (plainT O).sz ≤ 901000 := by
  have a := plainN_sz h
  unfold plainT shapeP
  split
  · have := plain7_sz h (plainN O) (shareN O.mets); omega
  · have := plain6_sz h (plainN O); omega
end Go.Proofs.YtelpkcbbipianaaGreat

/- the share and the metrics besides it as the model tells them; no condition. -/
namespace Go.Proofs.YtelpkcbbipianaaGreat
open Go Go.RowKit

theorem find_none {xs : List Met} (h : ∀ i (hi : i < xs.length), fitsB xs[i] = false) : shareB xs = false ∧ shareN xs = 0 := by
  have e : xs.find? fitsB = none := by
    rw [List.find?_eq_none]
    intro x hx hf
    obtain ⟨i, hi, rfl⟩ := List.getElem_of_mem hx
    rw [h i hi] at hf
    cases hf
  exact ⟨by unfold shareB; rw [e]; rfl, by unfold shareN; rw [e]⟩

theorem find_at {xs : List Met} {k : Nat} (hk : k < xs.length) (h : ∀ i (hi : i < xs.length), i < k → fitsB xs[i] = false) (hf : fitsB xs[k] = true) : shareB xs = true ∧ shareN xs = xs[k].goal.tdiv 10 := by
  have e : xs.find? fitsB = some xs[k] := by
    rw [List.find?_eq_some_iff_getElem]
    exact ⟨hf, k, hk, rfl, fun j hj => by rw [h j (by omega) hj]; rfl⟩
  exact ⟨by unfold shareB; rw [e]; rfl, by unfold shareN; rw [e]⟩

set_option maxRecDepth 100000 in
set_option maxHeartbeats 4000000 in
theorem spec_shareOf {v : Value} {xs : List Met} {F : List Nat} (w : World) (hs : MetsAt w v xs F) (h1 : xs.length ≤ 1000000) (hg : ∀ m ∈ xs, 0 ≤ m.goal) :
    Calls Tryz.prog 77 #[v] w fun e w' => e = .returned (.tuple #[.int .i64 (shareN xs), .bool (shareB xs)]) ∧ Below w.heap.size w w' := by
  obtain ⟨o, cap, b, off, rfl, hlc, hcm, ho, -, hcell, -⟩ := hs
  have HC := Lib.hid hcell
  have HO := Lib.hid ho
  have HG := Lib.hid hg
  clear hcell ho hg
  go_enter Tryz.func77, Tryz.ntmps77
  go_wp2
  go_loopw [4] (fun i wr => ∃ k : Nat, k ≤ xs.length ∧ i = .int .i64 k ∧ Hid (∀ j (h : j < xs.length), j < k → fitsB xs[j] = false) ∧ Hid (Below w.heap.size w wr)) (fun i _ => xs.length - (intOf i).toNat)
  case atStart => exact ⟨0, Nat.zero_le _, rfl, fun _ _ h => absurd h (by omega), Below.refl _ _⟩
  case round =>
    obtain ⟨k, hk, rfl, hr, hb⟩ := hrel
    by_cases hlt : k < xs.length
    · have hbel := hb.out
      have c0 : wr.cell? ⟨b, off + k * 3, none⟩ = some (.string xs[k].name) := by
        have := (HC.out k hlt).2 0 (by decide)
        rw [hbel.cell (by exact World.block_lt_of_cell? _ _ this)]; exact this
      have c1 : wr.cell? ⟨b, off + k * 3 + 1, none⟩ = some (.int .i64 xs[k].kind) := by
        have := (HC.out k hlt).2 1 (by decide)
        rw [hbel.cell (by exact World.block_lt_of_cell? _ _ this)]; exact this
      have c2 : wr.cell? ⟨b, off + k * 3 + 2, none⟩ = some (.int .i64 xs[k].goal) := by
        have := (HC.out k hlt).2 2 (by decide)
        rw [hbel.cell (by exact World.block_lt_of_cell? _ _ this)]; exact this
      have ho := HO.out (by omega)
      subst ho
      have HN : Hid (fitsB xs[k] = false → ∀ j (h : j < xs.length), j < k + 1 → fitsB xs[j] = false) := fun h0 j hj hjk => by
        rcases Nat.lt_or_ge j k with h2 | h2
        · exact hr.out j hj h2
        · obtain rfl : j = k := by omega
          exact h0
      have HY : Hid (fitsB xs[k] = true → shareB xs = true ∧ shareN xs = xs[k].goal.tdiv 10) := fun h0 => find_at hlt hr.out h0
      have HB1 : Hid (∀ ob, Below w.heap.size w (wr.alloc ob)) := fun ob => hbel.alloc hbel.size ob
      have hfit := (HC.out k hlt).1.2.2
      have hg0 := HG.out _ (List.getElem_mem hlt)
      have hd : xs[k].goal.tdiv 10 = xs[k].goal / 10 := Int.tdiv_eq_ediv_of_nonneg hg0
      have hm : xs[k].goal.tmod 10 = xs[k].goal % 10 := Int.tmod_eq_emod_of_nonneg hg0
      have hq0 : wrap64 (xs[k].goal.tdiv 10) = xs[k].goal.tdiv 10 := IntWalk.wrap64_in _ (by have := hfit.1; have := hfit.2; rw [hd]; omega)
      have hq1 : wrap64 (xs[k].goal.tmod 10) = xs[k].goal.tmod 10 := IntWalk.wrap64_in _ (by rw [hm]; omega)
      clear hfit hg0 hd hm hr hbel
      have HF : Hid (fitsB xs[k] = ((xs[k].name.toList == [99, 112, 117]) && ((xs[k].kind == 1) && ((xs[k].goal.tmod 10 == 0) && inB (xs[k].goal.tdiv 10) 1 1000)))) := by
        unfold fitsB isCpu
        have e1 : decide (xs[k].kind = 1) = (xs[k].kind == 1) := by cases h : (xs[k].kind == 1) <;> simp_all
        have e2 : decide (xs[k].goal.tmod 10 = 0) = (xs[k].goal.tmod 10 == 0) := by cases h : (xs[k].goal.tmod 10 == 0) <;> simp_all
        rw [e1, e2]
        exact Lib.hid rfl
      generalize xs[k] = x at *
      generalize hqq : x.goal.tdiv 10 = q at *
      generalize hrr : x.goal.tmod 10 = r at *
      cases a1 : (x.name.toList == [99, 112, 117])
      · go_wp2_with (first
          | (go_at_call 47; refine (spec_inB _ _ _ _).mono ?_; rintro e w2 ⟨rfl, e1⟩; subst e1; rw [a4])
          | fail)
        exact ⟨⟨k + 1, by omega, by go_num, HN.out (by rw [HF.out, a1]; simp), HB1.out _⟩, by simp [intOf]; omega⟩
      cases a2 : (x.kind == 1)
      · have b2 : ¬ x.kind = 1 := by simpa using a2
        go_wp2_with (first
          | (go_at_call 47; refine (spec_inB _ _ _ _).mono ?_; rintro e w2 ⟨rfl, e1⟩; subst e1; rw [a4])
          | fail)
        exact ⟨⟨k + 1, by omega, by go_num, HN.out (by rw [HF.out, a1, a2]; simp), HB1.out _⟩, by simp [intOf]; omega⟩
      have b2 : x.kind = 1 := by simpa using a2
      cases a3 : (r == 0)
      · have b3 : ¬ r = 0 := by simpa using a3
        go_wp2_with (first
          | (go_at_call 47; refine (spec_inB _ _ _ _).mono ?_; rintro e w2 ⟨rfl, e1⟩; subst e1; rw [a4])
          | fail)
        exact ⟨⟨k + 1, by omega, by go_num, HN.out (by rw [HF.out, a1, a2, a3]; simp), HB1.out _⟩, by simp [intOf]; omega⟩
      have b3 : r = 0 := by simpa using a3
      cases a4 : inB q 1 1000
      · go_wp2_with (first
          | (go_at_call 47; refine (spec_inB _ _ _ _).mono ?_; rintro e w2 ⟨rfl, e1⟩; subst e1; rw [a4])
          | fail)
        exact ⟨⟨k + 1, by omega, by go_num, HN.out (by rw [HF.out, a1, a2, a3, a4]; simp), HB1.out _⟩, by simp [intOf]; omega⟩
      · obtain ⟨y1, y2⟩ := HY.out (by rw [HF.out, a1, a2, a3, a4]; rfl)
        go_wp2_with (first
          | (go_at_call 47; refine (spec_inB _ _ _ _).mono ?_; rintro e w2 ⟨rfl, e1⟩; subst e1; rw [a4])
          | fail)
        go_ret2
        exact ⟨by rw [y1, y2]; show Ending.returned (.tuple #[.int .i64 (wrap64 q), .bool true]) = _; rw [hq0], HB1.out _⟩
    · have e : k = xs.length := by omega
      subst e
      obtain ⟨y1, y2⟩ := find_none fun j hj => hr.out j hj hj
      have hb2 := hb.out
      go_wp2
      go_ret2
      exact ⟨by rw [y1, y2]; rfl, hb2⟩
end Go.Proofs.YtelpkcbbipianaaGreat

/- the metrics besides the share, as the program and the model lay them; no condition. -/
namespace Go.Proofs.YtelpkcbbipianaaGreat
open Go Go.RowKit

theorem below_own {B : Nat} {w wr w3 : World} {e : TypeId} {k : Nat} {v : Value} {n : Nat} {l : List Value} (hb : Below B w wr) (hB : B ≤ wr.heap.size) (ho : wr.ownsRow B e k v n l) (hg : wr.grownBy w3 v.ownBlock) : Below B w w3 :=
  ⟨hg.os.trans hb.os, hg.tape.trans hb.tape, hg.output.trans hb.output, Nat.le_trans hb.size hg.size, fun j hj => (hg.block j (by omega) (fun e => by have := (owns_blk ho e.symm).1; omega)).trans (hb.block j hj)⟩

set_option maxRecDepth 100000 in
set_option maxHeartbeats 4000000 in
/-- The model's list of what is besides the share. -/
theorem spec_l9Others {v : Value} {xs : List Met} {F : List Nat} (w : World) (hs : MetsAt w v xs F) (h1 : xs.length ≤ 1000000) (hg : ∀ m ∈ xs, 0 ≤ m.goal) :
    Calls Tryz.prog 78 #[v] w fun e w' => ∃ v' F', e = .returned v' ∧ MetsAt w' v' (othersM xs) F' ∧ Below w.heap.size w w' := by
  have HSh := Lib.hid fun (wr : World) (hb : Below w.heap.size w wr) => spec_shareOf wr (RowAt.stay hs (by decide) hb (Nat.le_refl _)) h1 hg
  obtain ⟨o, cap, b, off, rfl, hlc, hcm, ho, -, hcell, -⟩ := hs
  have HC := Lib.hid hcell
  have HO := Lib.hid ho
  have HB0 : Hid (∀ ob, Below w.heap.size w (w.alloc ob)) := fun ob => (Below.refl _ w).alloc (Nat.le_refl _) ob
  have HE : Hid ((w.alloc (.cells #[] 96)).ownsRow w.heap.size 96 3 (.slice (some ⟨w.heap.size, 0, none⟩) 0 0) 0 []) := ⟨rfl, .inr ⟨w.heap.size, 0, #[], rfl, Nat.le_refl _, heap_last w _, Nat.le_refl _, by decide, rfl, rfl⟩⟩
  obtain ⟨i0, hi0, hz0, hz1, hz2⟩ := info_parts info_metL
  clear hcell ho hg
  go_enter Tryz.func78, Tryz.ntmps78
  go_wp2_with (first
    | (go_at_call 77; refine (HSh.out _ (HB0.out _)).mono ?_; rintro e w1 ⟨rfl, hb⟩; have HB := Lib.hid hb; clear hb)
    | fail)
  have HE1 := Lib.hid (owns_below HE.out HB.out)
  clear HE
  have HBw : Hid (Below w.heap.size w w1) := (HB0.out _).trans (HB.out.mono (HB0.out (.cells #[] 96)).size)
  clear HB HSh
  have HQ : Hid (othersM xs = xs.filter fun m => !(shareB xs && isCpu m)) := Lib.hid rfl
  generalize shareN xs = sn at *
  generalize shareB xs = sb at *
  have HOK : Hid (∀ m ∈ othersM xs, Met.ok m) := fun m hm => by
    obtain ⟨j, hj, rfl⟩ := List.getElem_of_mem (others_mem hm)
    exact (HC.out j hj).1
  go_loopw [3, 6] (fun u i wr => ∃ (k : Nat) (ys : List Met), k ≤ xs.length ∧ i = .int .i64 k ∧ Hid (ys = (xs.take k).filter fun m => !(sb && isCpu m)) ∧ Hid (Below w.heap.size w wr) ∧ Hid (wr.ownsRow w.heap.size 96 3 u ys.length (ys.flatMap Met.row))) (fun _ i _ => xs.length - (intOf i).toNat)
  case atStart => exact ⟨0, [], Nat.zero_le _, rfl, Lib.hid rfl, HBw.out, HE1.out⟩
  case round =>
    obtain ⟨k, ys, hk, rfl, hy, hb, hown⟩ := hrel
    obtain ⟨ou, cu, rfl⟩ := owns_form hown.out
    by_cases hlt : k < xs.length
    · have hbel := hb.out
      have c0 : wr.cell? ⟨b, off + k * 3, none⟩ = some (.string xs[k].name) := by
        have := (HC.out k hlt).2 0 (by decide)
        rw [hbel.cell (by exact World.block_lt_of_cell? _ _ this)]; exact this
      have c1 : wr.cell? ⟨b, off + k * 3 + 1, none⟩ = some (.int .i64 xs[k].kind) := by
        have := (HC.out k hlt).2 1 (by decide)
        rw [hbel.cell (by exact World.block_lt_of_cell? _ _ this)]; exact this
      have c2 : wr.cell? ⟨b, off + k * 3 + 2, none⟩ = some (.int .i64 xs[k].goal) := by
        have := (HC.out k hlt).2 2 (by decide)
        rw [hbel.cell (by exact World.block_lt_of_cell? _ _ this)]; exact this
      have ho := HO.out (by omega)
      subst ho
      have HF := Lib.hid (filter_take (fun m => !(sb && isCpu m)) xs hlt)
      have HOwn := Lib.hid (owns_below hown.out ((Below.refl _ wr).alloc (Nat.le_refl _) (.cells #[.string xs[k].name, .int .i64 xs[k].kind, .int .i64 xs[k].goal] 96)))
      have HBl := Lib.hid hbel
      have HOwn0 := Lib.hid hown.out
      have hysl : ys.length ≤ xs.length := by rw [hy.out]; exact Nat.le_trans (List.length_filter_le _ _) (by rw [List.length_take]; omega)
      have hbase : w.heap.size ≤ wr.heap.size + 1 := by have := hbel.size; omega
      have HBase := Lib.hid hbase
      clear hown hbel hbase hb
      have HXr : Hid (isCpu xs[k] = (xs[k].name.toList == [99, 112, 117])) := Lib.hid rfl
      have hxr : xs[k].row = [.string xs[k].name, .int .i64 xs[k].kind, .int .i64 xs[k].goal] := rfl
      have HR : Hid ((ys ++ [xs[k]]).flatMap Met.row = ys.flatMap Met.row ++ [.string xs[k].name, .int .i64 xs[k].kind, .int .i64 xs[k].goal]) := Lib.hid (by rw [List.flatMap_append, List.flatMap_singleton, hxr])
      clear hxr
      generalize xs[k] = x at *
      have HYes : Hid ((!(sb && isCpu x)) = true → ys ++ [x] = (xs.take (k + 1)).filter fun m => !(sb && isCpu m)) := fun h => by rw [HF.out, hy.out, if_pos h]
      have HNo : Hid ((!(sb && isCpu x)) = false → ys = (xs.take (k + 1)).filter fun m => !(sb && isCpu m)) := fun h => by rw [HF.out, hy.out, if_neg (by rw [h]; decide), List.append_nil]
      clear HF hy
      cases sb
      · go_wp2_with (first
          | (at_builtin; refine wpList_append_lies _ rfl (.tmp 29) (.tmp 34) 61 rfl w.heap.size 96 i0 _ 3 32 Tryz.underlying61 hi0 hz0 hz1 hz2 rfl (by decide) (.slice ou ys.length cu) ys.length _ rfl HOwn.out ⟨wr.heap.size, 0, none⟩ 1 1 [.string x.name, .int .i64 x.kind, .int .i64 x.goal] rfl rfl (World.news_of_block (cs := #[.string x.name, .int .i64 x.kind, .int .i64 x.goal]) (t := 96) (fr := (0, 0)) (heap_last wr _)) (by simp [Value.oneCell']) (by omega) (by unfold maxLen; omega) (by omega) (by simp; exact HBase.out) (wr.heap.size + 1) (by simp) ?_; intro g cap' w3 hown3 hgrow hat hltg
             have H3 := Lib.hid (And.intro hown3 (And.intro (below_own ((HBl.out).alloc HBl.out.size _) (by simp; exact HBase.out) HOwn.out hgrow) hat)); clear hown3 hgrow hat hltg)
          | fail)
        have hlen : (ys ++ [x]).length = ys.length + 1 := by simp
        have H4 : w3.ownsRow w.heap.size 96 3 (.slice (some ⟨g, 0, none⟩) (ys.length + 1) cap') (ys ++ [x]).length ((ys ++ [x]).flatMap Met.row) := by rw [hlen, HR.out]; exact H3.out.1
        exact ⟨⟨k + 1, ys ++ [x], by omega, by go_num, HYes.out (rfl), H3.out.2.1, H4⟩, by simp [intOf]; omega⟩
      · cases a1 : (x.name.toList == [99, 112, 117])
        · go_wp2_with (first
            | (at_builtin; refine wpList_append_lies _ rfl (.tmp 29) (.tmp 34) 61 rfl w.heap.size 96 i0 _ 3 32 Tryz.underlying61 hi0 hz0 hz1 hz2 rfl (by decide) (.slice ou ys.length cu) ys.length _ rfl HOwn.out ⟨wr.heap.size, 0, none⟩ 1 1 [.string x.name, .int .i64 x.kind, .int .i64 x.goal] rfl rfl (World.news_of_block (cs := #[.string x.name, .int .i64 x.kind, .int .i64 x.goal]) (t := 96) (fr := (0, 0)) (heap_last wr _)) (by simp [Value.oneCell']) (by omega) (by unfold maxLen; omega) (by omega) (by simp; exact HBase.out) (wr.heap.size + 1) (by simp) ?_; intro g cap' w3 hown3 hgrow hat hltg
               have H3 := Lib.hid (And.intro hown3 (And.intro (below_own ((HBl.out).alloc HBl.out.size _) (by simp; exact HBase.out) HOwn.out hgrow) hat)); clear hown3 hgrow hat hltg)
            | fail)
          have hlen : (ys ++ [x]).length = ys.length + 1 := by simp
          have H4 : w3.ownsRow w.heap.size 96 3 (.slice (some ⟨g, 0, none⟩) (ys.length + 1) cap') (ys ++ [x]).length ((ys ++ [x]).flatMap Met.row) := by rw [hlen, HR.out]; exact H3.out.1
          exact ⟨⟨k + 1, ys ++ [x], by omega, by go_num, HYes.out (by rw [HXr.out, a1]; rfl), H3.out.2.1, H4⟩, by simp [intOf]; omega⟩
        · go_wp2
          exact ⟨⟨k + 1, ys, by omega, by go_num, HNo.out (by rw [HXr.out, a1]; rfl), HBl.out, HOwn0.out⟩, by simp [intOf]; omega⟩
    · have e : k = xs.length := by omega
      subst e
      have hy2 : ys = othersM xs := by rw [HQ.out, hy.out, List.take_length]
      subst hy2
      obtain ⟨F', hF⟩ := row_of_owns met_row hown.out HOK.out
      have hb2 := hb.out
      have HF := Lib.hid hF
      clear hF
      go_wp2
      go_ret
      exact ⟨_, _, rfl, HF.out, hb2⟩
end Go.Proofs.YtelpkcbbipianaaGreat

/- plain facts: what an order that is right has for metrics. -/
namespace Go.Proofs.YtelpkcbbipianaaGreat
open Go Go.RowKit

theorem mets_goal {O : Ord} (h : O.okB = true) : ∀ m ∈ O.mets, 0 ≤ m.goal := by
  have hm : Els Met.name Met.okB O.mets := by
    unfold Ord.okB at h
    simp only [Bool.and_eq_true] at h
    exact @of_decide_eq_true _ (Classical.propDecidable _) h.1.1.2
  intro m hmem
  obtain ⟨i, hi, rfl⟩ := List.getElem_of_mem hmem
  have := (hm.1 i hi).1
  unfold Met.okB metB inB at this
  simp only [Bool.and_eq_true, decide_eq_true_eq] at this
  omega

theorem fit_share {O : Ord} : Fit (shareN O.mets) := by
  by_cases h : shareB O.mets = true
  · have := share_in h
    exact ⟨by omega, by omega⟩
  · rw [share_zero (by simpa using h)]
    exact ⟨by omega, by omega⟩

/-- A second tree of its own behind a block that is stored to. -/
theorem ft_keep {W : World} {T : RT} {kr dr : Value} {G : List Nat} {lo hi bt : Nat} {v0 v1 v2 v3 v4 : Value} (hl : KidAt W T kr dr G lo hi) (hne : bt < lo ∨ hi ≤ bt) : KidAt (set5 W bt 0 v0 v1 v2 v3 v4) T kr dr G lo hi := by
  have keep : ∀ x, x ≠ bt → (set5 W bt 0 v0 v1 v2 v3 v4).heap[x]? = W.heap[x]? := fun x hx => set5_other _ _ _ _ _ _ _ _ _ hx
  exact ⟨hl.lie.carry fun x hx => keep x (by have := hl.span x hx; omega), hl.nodup, fun x hx o => (World.frozen?_of_block (a := ⟨x, o, none⟩) (keep x (by have := hl.span x hx; omega))).trans (hl.free x hx o), hl.span⟩

theorem one_keep {w W : World} {b bt : Nat} {o : Obj} {v0 v1 v2 v3 v4 : Value} (h : One w W b o) (hne : b ≠ bt) : One w (set5 W bt 0 v0 v1 v2 v3 v4) b o := ⟨(set5_other _ _ _ _ _ _ _ _ _ hne).trans h.at_, h.old⟩
end Go.Proofs.YtelpkcbbipianaaGreat

/- the model's PlainTree of an order that is right: its tree, in memory of its own; no condition. -/
namespace Go.Proofs.YtelpkcbbipianaaGreat
open Go Go.RowKit

set_option maxRecDepth 100000 in
set_option maxHeartbeats 8000000 in
theorem spec_plainTNN {O : Ord} {mv nv : Value} {FM FN : List Nat} (w : World) (ho : OrdAt w O mv nv FM FN) (hc : O.okB = true) (hsh : shareB O.mets = false) (hot : (othersM O.mets).isEmpty = true) :
    Calls Tryz.prog 61 #[.agg #[.string O.name, .string O.target, .int .i64 O.low, .int .i64 O.high, mv, .int .i64 O.pace.up, .int .i64 O.pace.down, .int .i64 O.pace.ups, .int .i64 O.pace.downs, nv]] w fun e w' => ∃ kv dv F, e = .returned (.agg #[.int .i64 (plainT O).k, .int .i64 (plainT O).n, .string (plainT O).s, kv, dv]) ∧ Lies w' (plainT O) kv dv F ∧ Fresh w w' F ∧ Below w.heap.size w w' := by
  obtain ⟨hn1, hn2, ⟨hm1, hm2⟩, -⟩ := okB_out hc
  have hg := mets_goal hc
  have hoz := others_sz hc (RowAt.every ho.mets)
  have hol := others_len O.mets
  have hhz := head_sz hc ⟨#[112, 108, 97, 105, 110]⟩ (by decide)
  have hsz := saved_sz hc
  have hbz := bracT_size (metsT (othersM O.mets))
  have HO := Lib.hid fun wr (hb : Below w.heap.size w wr) => spec_orderOk wr (ho.stay hb (Nat.le_refl _))
  have HSv : Hid (∀ wr, Below w.heap.size w wr → Calls Tryz.prog 76 #[.agg #[.string O.name, .string O.target, .int .i64 O.low, .int .i64 O.high, mv, .int .i64 O.pace.up, .int .i64 O.pace.down, .int .i64 O.pace.ups, .int .i64 O.pace.downs, nv]] wr fun e w' => ∃ kv dv F, e = .returned (.agg #[.int .i64 (savedT O).k, .int .i64 (savedT O).n, .string (savedT O).s, kv, dv]) ∧ Lies w' (savedT O) kv dv F ∧ Fresh wr w' F ∧ Below wr.heap.size wr w') := fun wr hb => spec_l8Saved wr (ho.stay hb (Nat.le_refl _)) hc
  have HHs : Hid (∀ (om on_ : Option Addr) (cm cn : Nat) W, Calls Tryz.prog 72 #[.agg #[.string O.name, .string O.target, .int .i64 O.low, .int .i64 O.high, .slice om O.mets.length cm, .int .i64 O.pace.up, .int .i64 O.pace.down, .int .i64 O.pace.ups, .int .i64 O.pace.downs, .slice on_ O.notes.length cn], .string ⟨#[112, 108, 97, 105, 110]⟩] W fun e w' => ∃ kv dv F, e = .returned (.agg #[.int .i64 (headT ⟨#[112, 108, 97, 105, 110]⟩ O).k, .int .i64 (headT ⟨#[112, 108, 97, 105, 110]⟩ O).n, .string (headT ⟨#[112, 108, 97, 105, 110]⟩ O).s, kv, dv]) ∧ Lies w' (headT ⟨#[112, 108, 97, 105, 110]⟩ O) kv dv F ∧ Fresh W w' F ∧ Below W.heap.size W w') := fun om on_ cm cn W => spec_l7Head ⟨#[112, 108, 97, 105, 110]⟩ O om on_ _ cm _ cn hn1 hn2 (by decide) ho.low ho.high W
  have HSh : Hid (∀ wr, Below w.heap.size w wr → Calls Tryz.prog 77 #[mv] wr fun e w' => e = .returned (.tuple #[.int .i64 (shareN O.mets), .bool false]) ∧ Below wr.heap.size wr w') := fun wr hb => by rw [← hsh]; exact spec_shareOf wr (RowAt.stay ho.mets (by decide) hb (Nat.le_refl _)) (by omega) hg
  have HOs := Lib.hid fun wr (hb : Below w.heap.size w wr) => spec_l9Others wr (RowAt.stay ho.mets (by decide) hb (Nat.le_refl _)) (by omega) hg
  have hne : (othersM O.mets = []) := by exact List.isEmpty_iff.1 hot
  have hpn : plainN O = savedT O := if_pos hne
  have hE : setT (headT ⟨#[112, 108, 97, 105, 110]⟩ O) ⟨#[110, 111, 116, 101, 115]⟩ (savedT O) = plainT O := by
    unfold plainT shapeP
    rw [hpn, if_neg (by rw [hsh]; decide)]
    exact pl_head6 O _
  have hpz := plainN_sz hc
  rw [hpn] at hpz
  have k0 : (⟨#[]⟩ : ByteArray).size = 0 := rfl
  have k1 : (⟨#[115, 104, 97, 114, 101]⟩ : ByteArray).size = 5 := rfl
  obtain ⟨⟨om, cm, rfl⟩, on_, cn, rfl⟩ := ho.slices
  clear ho hm1 hm2 hn1 hn2 hg hoz hol hot
  generalize hTH : headT ⟨#[112, 108, 97, 105, 110]⟩ O = TH at *
  generalize hTS : savedT O = TS at *
  generalize plainT O = R at *
  have HSF : Hid (∀ X kv dv G kx dx G', Lies X TH kv dv G → Lies X TS kx dx G' → Calls Tryz.prog 40 #[.agg #[.int .i64 TH.k, .int .i64 TH.n, .string TH.s, kv, dv], .string ⟨#[110, 111, 116, 101, 115]⟩, .agg #[.int .i64 TS.k, .int .i64 TS.n, .string TS.s, kx, dx]] X fun e w' => ∃ kr dr F, e = .returned (.agg #[.int .i64 R.k, .int .i64 R.n, .string R.s, kr, dr]) ∧ Lies w' R kr dr F ∧ Fresh X w' F ∧ Below X.heap.size X w') := fun X kv dv G kx dx G' hl hx => by have h := spec_set TH TS ⟨#[110, 111, 116, 101, 115]⟩ X kv dv kx dx G G' hl hx (by omega) (by omega) (by decide); rw [hE] at h; exact h
  clear hTH hTS hE hpn hpz k0 k1 hhz hsz
  have H2 := Lib.hid (Two.start w (.cells #[.string O.name, .string O.target, .int .i64 O.low, .int .i64 O.high, .slice om O.mets.length cm, .int .i64 O.pace.up, .int .i64 O.pace.down, .int .i64 O.pace.ups, .int .i64 O.pace.downs, .slice on_ O.notes.length cn] 66) (.cells #[.int .i64 0, .int .i64 0, .string ⟨#[]⟩, .slice none 0 0, .slice none 0 0] 27))
  go_enter Tryz.func61, Tryz.ntmps61
  go_wp2_with (first
    | (go_at_call 71; refine (HO.out _ H2.out.below).mono ?_; rintro e w1 ⟨rfl, hb⟩; rw [hc]; replace H2 := Lib.hid (H2.out.next hb); clear hb; have x0 := cell_of H2.out.arg 0; have x1 := cell_of H2.out.arg 1; have x2 := cell_of H2.out.arg 2; have x3 := cell_of H2.out.arg 3; have x4 := cell_of H2.out.arg 4; have x5 := cell_of H2.out.arg 5; have x6 := cell_of H2.out.arg 6; have x7 := cell_of H2.out.arg 7; have x8 := cell_of H2.out.arg 8; have x9 := cell_of H2.out.arg 9; simp only [List.getElem?_toArray, List.getElem?_cons_zero, List.getElem?_cons_succ] at x0 x1 x2 x3 x4 x5 x6 x7 x8 x9)
    | fail)
  refine (HHs.out _ _ _ _ _).mono ?_
  rintro e w' ⟨kh, dh, GH, rfl, hl, hf, hb⟩
  obtain ⟨⟨a1, b1, rfl⟩, ⟨a2, b2, rfl⟩⟩ := hl.slices
  have HT1 := Lib.hid (kid_at0 H2.out hl hf rfl)
  replace H2 := Lib.hid (H2.out.next hb)
  clear hl hf hb x0 x1 x2 x3 x4 x5 x6 x7 x8 x9
  have HZ : Hid (One w (w'.alloc (.cells #[.int .i64 TH.k, .int .i64 TH.n, .string TH.s, .slice a1 TH.keys.length b1, .slice a2 TH.kids.length b2] 27)) w'.heap.size (.cells #[.int .i64 TH.k, .int .i64 TH.n, .string TH.s, .slice a1 TH.keys.length b1, .slice a2 TH.kids.length b2] 27)) := ⟨heap_last w' _, H2.out.size⟩
  replace HT1 := Lib.hid (HT1.out.next ((Below.refl _ w').alloc (Nat.le_refl _) (.cells #[.int .i64 TH.k, .int .i64 TH.n, .string TH.s, .slice a1 TH.keys.length b1, .slice a2 TH.kids.length b2] 27)))
  replace H2 := Lib.hid (H2.out.next ((Below.refl _ w').alloc (Nat.le_refl _) (.cells #[.int .i64 TH.k, .int .i64 TH.n, .string TH.s, .slice a1 TH.keys.length b1, .slice a2 TH.kids.length b2] 27)))
  have x0 := cell_of H2.out.arg 0
  have x1 := cell_of H2.out.arg 1
  have x2 := cell_of H2.out.arg 2
  have x3 := cell_of H2.out.arg 3
  have x4 := cell_of H2.out.arg 4
  have x5 := cell_of H2.out.arg 5
  have x6 := cell_of H2.out.arg 6
  have x7 := cell_of H2.out.arg 7
  have x8 := cell_of H2.out.arg 8
  have x9 := cell_of H2.out.arg 9
  simp only [List.getElem?_toArray, List.getElem?_cons_zero, List.getElem?_cons_succ] at x0 x1 x2 x3 x4 x5 x6 x7 x8 x9
  go_wp2_with fail
  generalize w'.alloc (.cells #[.int .i64 TH.k, .int .i64 TH.n, .string TH.s, .slice a1 TH.keys.length b1, .slice a2 TH.kids.length b2] 27) = wc at *
  generalize w'.heap.size = bt at *
  have HLt : Hid (bt < wc.heap.size) := (Array.getElem?_eq_some_iff.1 HZ.out.at_).1
  refine (HSv.out _ H2.out.below).mono ?_
  rintro e w' ⟨kn, dn, GN, rfl, hl, hf, hb⟩
  obtain ⟨⟨a3, b3, rfl⟩, ⟨a4, b4, rfl⟩⟩ := hl.slices
  have HN := Lib.hid (kid_at0 H2.out hl hf rfl)
  replace H2 := Lib.hid (H2.out.next hb)
  replace HZ := Lib.hid (HZ.out.next hb)
  replace HT1 := Lib.hid (HT1.out.next hb)
  have HLs : Hid (wc.heap.size ≤ w'.heap.size) := hb.size
  clear hl hf hb x0 x1 x2 x3 x4 x5 x6 x7 x8 x9
  have HY : Hid (One w (w'.alloc (.cells #[.int .i64 TS.k, .int .i64 TS.n, .string TS.s, .slice a3 TS.keys.length b3, .slice a4 TS.kids.length b4] 27)) w'.heap.size (.cells #[.int .i64 TS.k, .int .i64 TS.n, .string TS.s, .slice a3 TS.keys.length b3, .slice a4 TS.kids.length b4] 27)) := ⟨heap_last w' _, H2.out.size⟩
  replace HN := Lib.hid (HN.out.next ((Below.refl _ w').alloc (Nat.le_refl _) (.cells #[.int .i64 TS.k, .int .i64 TS.n, .string TS.s, .slice a3 TS.keys.length b3, .slice a4 TS.kids.length b4] 27)))
  replace HZ := Lib.hid (HZ.out.next ((Below.refl _ w').alloc (Nat.le_refl _) (.cells #[.int .i64 TS.k, .int .i64 TS.n, .string TS.s, .slice a3 TS.keys.length b3, .slice a4 TS.kids.length b4] 27)))
  replace HT1 := Lib.hid (HT1.out.next ((Below.refl _ w').alloc (Nat.le_refl _) (.cells #[.int .i64 TS.k, .int .i64 TS.n, .string TS.s, .slice a3 TS.keys.length b3, .slice a4 TS.kids.length b4] 27)))
  replace H2 := Lib.hid (H2.out.next ((Below.refl _ w').alloc (Nat.le_refl _) (.cells #[.int .i64 TS.k, .int .i64 TS.n, .string TS.s, .slice a3 TS.keys.length b3, .slice a4 TS.kids.length b4] 27)))
  have x0 := cell_of H2.out.arg 0
  have x1 := cell_of H2.out.arg 1
  have x2 := cell_of H2.out.arg 2
  have x3 := cell_of H2.out.arg 3
  have x4 := cell_of H2.out.arg 4
  have x5 := cell_of H2.out.arg 5
  have x6 := cell_of H2.out.arg 6
  have x7 := cell_of H2.out.arg 7
  have x8 := cell_of H2.out.arg 8
  have x9 := cell_of H2.out.arg 9
  simp only [List.getElem?_toArray, List.getElem?_cons_zero, List.getElem?_cons_succ] at x0 x1 x2 x3 x4 x5 x6 x7 x8 x9
  go_wp2_with fail
  generalize w'.alloc (.cells #[.int .i64 TS.k, .int .i64 TS.n, .string TS.s, .slice a3 TS.keys.length b3, .slice a4 TS.kids.length b4] 27) = wd at *
  generalize w'.heap.size = bn at *
  have HNe : Hid (bt ≠ bn) := by have := HLt.out; have := HLs.out; exact fun e => by omega
  refine (HSh.out _ H2.out.below).mono ?_
  rintro e w' ⟨rfl, hb⟩
  replace HZ := Lib.hid (HZ.out.next hb)
  replace HY := Lib.hid (HY.out.next hb)
  replace HT1 := Lib.hid (HT1.out.next hb)
  replace HN := Lib.hid (HN.out.next hb)
  replace H2 := Lib.hid (H2.out.next hb)
  clear hb x0 x1 x2 x3 x4 x5 x6 x7 x8 x9
  have x0 := cell_of H2.out.arg 0
  have x1 := cell_of H2.out.arg 1
  have x2 := cell_of H2.out.arg 2
  have x3 := cell_of H2.out.arg 3
  have x4 := cell_of H2.out.arg 4
  have x5 := cell_of H2.out.arg 5
  have x6 := cell_of H2.out.arg 6
  have x7 := cell_of H2.out.arg 7
  have x8 := cell_of H2.out.arg 8
  have x9 := cell_of H2.out.arg 9
  simp only [List.getElem?_toArray, List.getElem?_cons_zero, List.getElem?_cons_succ] at x0 x1 x2 x3 x4 x5 x6 x7 x8 x9
  obtain ⟨r0, r1, r2, r3, r4, r5⟩ := five HZ.out.at_
  obtain ⟨q0, q1, q2, q3, q4, q5⟩ := five HY.out.at_
  go_wp2_with fail
  refine (HOs.out _ H2.out.below).mono ?_
  rintro e w' ⟨vo, Fo, rfl, hmo, hb⟩
  obtain ⟨oo, co, rfl, -⟩ := RowAt.slice hmo
  have HMo := Lib.hid fun (W : World) (hb : Below w'.heap.size w' W) => RowAt.stay hmo (by decide) hb (Nat.le_refl _)
  clear r0 r1 r2 r3 r4 r5 q0 q1 q2 q3 q4 q5
  replace HZ := Lib.hid (HZ.out.next hb)
  replace HY := Lib.hid (HY.out.next hb)
  replace HT1 := Lib.hid (HT1.out.next hb)
  replace HN := Lib.hid (HN.out.next hb)
  replace H2 := Lib.hid (H2.out.next hb)
  clear hb x0 x1 x2 x3 x4 x5 x6 x7 x8 x9
  have x0 := cell_of H2.out.arg 0
  have x1 := cell_of H2.out.arg 1
  have x2 := cell_of H2.out.arg 2
  have x3 := cell_of H2.out.arg 3
  have x4 := cell_of H2.out.arg 4
  have x5 := cell_of H2.out.arg 5
  have x6 := cell_of H2.out.arg 6
  have x7 := cell_of H2.out.arg 7
  have x8 := cell_of H2.out.arg 8
  have x9 := cell_of H2.out.arg 9
  simp only [List.getElem?_toArray, List.getElem?_cons_zero, List.getElem?_cons_succ] at x0 x1 x2 x3 x4 x5 x6 x7 x8 x9
  obtain ⟨r0, r1, r2, r3, r4, r5⟩ := five HZ.out.at_
  obtain ⟨q0, q1, q2, q3, q4, q5⟩ := five HY.out.at_
  clear hmo
  generalize othersM O.mets = ys at *
  subst hne
  go_wp2_with fail
  refine (HSF.out _ _ _ _ _ _ _ HT1.out.lie HN.out.lie).mono ?_
  rintro e w' ⟨k6, d6, G6, rfl, hl, hf, hb⟩
  obtain ⟨⟨a7, b7, rfl⟩, ⟨a8, b8, rfl⟩⟩ := hl.slices
  have HL := Lib.hid (res_keep H2.out hl hf (Nat.le_refl _))
  replace H2 := Lib.hid (H2.out.next hb)
  clear hl hf hb
  obtain ⟨s0, s1, s2, s3, s4, s5⟩ := five H2.out.res
  have HF := res_fin H2.out HL.out
  go_wp2
  exact bodyPost_ret (ret_node Tryz.results61 rfl HF.1) rfl ⟨_, _, _, rfl, HF.2.1, HF.2.2.1, HF.2.2.2⟩
end Go.Proofs.YtelpkcbbipianaaGreat
