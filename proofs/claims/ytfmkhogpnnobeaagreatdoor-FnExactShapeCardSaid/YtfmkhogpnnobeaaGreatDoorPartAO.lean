/-
  What is proved: plain facts on the middle shape.; plain facts on the plain shape: which metric is the share, which are the others; the keys set one behind the other.; the program's tree of a list of notes: a map of their Texts, in memory of its own; no condition.
-/
import Derived.Test.YtfmkhogpnnobeaaGreatDoorPartAK
import Derived.Test.YtfmkhogpnnobeaaGreatDoorPartAN
import Derived.Test.YtfmkhogpnnobeaaGreatDoorPartAI
import Derived.Test.YtfmkhogpnnobeaaGreatDoorPartAF
import Derived.Test.YtfmkhogpnnobeaaGreatDoorPartAE
import Derived.Test.YtfmkhogpnnobeaaGreatDoorPartAD
import Derived.Test.YtfmkhogpnnobeaaGreatDoorCopyS
import Derived.Test.YtfmkhogpnnobeaaGreatDoorPartAG
/- plain facts on the middle shape. -/
namespace Go.Proofs.YtfmkhogpnnobeaaGreatDoor
open Go Go.RowKit

/-! ### The middle shape -/

/-- The pace of an order that says nothing of it. -/
def newP : Pac := ⟨0, 0, 0, 300⟩
/-- The notes of an order, with its pace among them where that is another one. -/
noncomputable def savedT (O : Ord) : RT := if sameO O.pace newP = true then notesT O.notes else setT (notesT O.notes) ⟨#[113, 117, 97, 121, 47, 112, 97, 99, 101]⟩ (.node 3 0 (bracT (pacT O.pace)) [] [])
/-- An order in the middle shape, at any notes. -/
def midB (O : Ord) (N : RT) : RT := .node 5 0 ⟨#[]⟩
  [⟨#[104, 105, 103, 104]⟩, ⟨#[107, 105, 110, 100]⟩, ⟨#[108, 111, 119]⟩, ⟨#[109, 101, 116, 114, 105, 99, 115]⟩, ⟨#[110, 97, 109, 101]⟩, ⟨#[110, 111, 116, 101, 115]⟩, ⟨#[116, 97, 114, 103, 101, 116]⟩]
  [.node 2 O.high ⟨#[]⟩ [] [], .node 3 0 ⟨#[109, 105, 100, 100, 108, 101]⟩ [] [], .node 2 O.low ⟨#[]⟩ [] [], metsT O.mets, .node 3 0 O.name [] [], N, .node 3 0 O.target [] []]
noncomputable def midT (O : Ord) : RT := midB O (savedT O)

/-- Another notes at a middle shape's Key. -/
theorem midB_notes (O : Ord) (N M : RT) : setT (midB O N) ⟨#[110, 111, 116, 101, 115]⟩ M = midB O M := by
  rw [setT, if_pos (show (midB O N).isMap from ⟨rfl, rfl⟩)]
  rw [show (midB O N).keys = [⟨#[104, 105, 103, 104]⟩, ⟨#[107, 105, 110, 100]⟩, ⟨#[108, 111, 119]⟩, ⟨#[109, 101, 116, 114, 105, 99, 115]⟩, ⟨#[110, 97, 109, 101]⟩, ⟨#[110, 111, 116, 101, 115]⟩, ⟨#[116, 97, 114, 103, 101, 116]⟩] from rfl, show firstN [⟨#[104, 105, 103, 104]⟩, ⟨#[107, 105, 110, 100]⟩, ⟨#[108, 111, 119]⟩, ⟨#[109, 101, 116, 114, 105, 99, 115]⟩, ⟨#[110, 97, 109, 101]⟩, ⟨#[110, 111, 116, 101, 115]⟩, ⟨#[116, 97, 114, 103, 101, 116]⟩] ⟨#[110, 111, 116, 101, 115]⟩ = 5 by decide +kernel]
  rfl

/-- The full shape without a pace, of another kind. -/
theorem mid_sets (O : Ord) : setT (unT (fullT O) ⟨#[112, 97, 99, 101]⟩) ⟨#[107, 105, 110, 100]⟩ (.node 3 0 ⟨#[109, 105, 100, 100, 108, 101]⟩ [] []) = midB O (notesT O.notes) := by
  have e : unT (fullT O) ⟨#[112, 97, 99, 101]⟩ = .node 5 0 ⟨#[]⟩
      [⟨#[104, 105, 103, 104]⟩, ⟨#[107, 105, 110, 100]⟩, ⟨#[108, 111, 119]⟩, ⟨#[109, 101, 116, 114, 105, 99, 115]⟩, ⟨#[110, 97, 109, 101]⟩, ⟨#[110, 111, 116, 101, 115]⟩, ⟨#[116, 97, 114, 103, 101, 116]⟩]
      [.node 2 O.high ⟨#[]⟩ [] [], .node 3 0 ⟨#[102, 117, 108, 108]⟩ [] [], .node 2 O.low ⟨#[]⟩ [] [], metsT O.mets, .node 3 0 O.name [] [], notesT O.notes, .node 3 0 O.target [] []] := by
    simp [unT, unK, unD, unP, fullT, RT.k, RT.n, RT.s, RT.keys, RT.kids]
  rw [e, setT, if_pos (show RT.isMap _ from ⟨rfl, rfl⟩)]
  rw [RT.keys, show firstN [⟨#[104, 105, 103, 104]⟩, ⟨#[107, 105, 110, 100]⟩, ⟨#[108, 111, 119]⟩, ⟨#[109, 101, 116, 114, 105, 99, 115]⟩, ⟨#[110, 97, 109, 101]⟩, ⟨#[110, 111, 116, 101, 115]⟩, ⟨#[116, 97, 114, 103, 101, 116]⟩] ⟨#[107, 105, 110, 100]⟩ = 1 by decide +kernel]
  rfl

/-- The model's way: one Key behind the other. -/
theorem mid_sets2 (O : Ord) (N : RT) : setT (setT (headT ⟨#[109, 105, 100, 100, 108, 101]⟩ O) ⟨#[109, 101, 116, 114, 105, 99, 115]⟩ (metsT O.mets)) ⟨#[110, 111, 116, 101, 115]⟩ N = midB O N := by
  show (setT (setT (.node 5 0 ⟨#[]⟩ [⟨#[104, 105, 103, 104]⟩, ⟨#[107, 105, 110, 100]⟩, ⟨#[108, 111, 119]⟩, ⟨#[110, 97, 109, 101]⟩, ⟨#[116, 97, 114, 103, 101, 116]⟩] [.node 2 O.high ⟨#[]⟩ [] [], .node 3 0 ⟨#[109, 105, 100, 100, 108, 101]⟩ [] [], .node 2 O.low ⟨#[]⟩ [] [], .node 3 0 O.name [] [], .node 3 0 O.target [] []]) ⟨#[109, 101, 116, 114, 105, 99, 115]⟩ (metsT O.mets)) ⟨#[110, 111, 116, 101, 115]⟩ N) = _
  rw [setT_new (by rfl) (show firstN [⟨#[104, 105, 103, 104]⟩, ⟨#[107, 105, 110, 100]⟩, ⟨#[108, 111, 119]⟩, ⟨#[110, 97, 109, 101]⟩, ⟨#[116, 97, 114, 103, 101, 116]⟩] ⟨#[109, 101, 116, 114, 105, 99, 115]⟩ = 5 by decide +kernel) (show placeN [⟨#[104, 105, 103, 104]⟩, ⟨#[107, 105, 110, 100]⟩, ⟨#[108, 111, 119]⟩, ⟨#[110, 97, 109, 101]⟩, ⟨#[116, 97, 114, 103, 101, 116]⟩] ⟨#[109, 101, 116, 114, 105, 99, 115]⟩ = 3 by decide +kernel)]
  show (setT (.node 5 0 ⟨#[]⟩ [⟨#[104, 105, 103, 104]⟩, ⟨#[107, 105, 110, 100]⟩, ⟨#[108, 111, 119]⟩, ⟨#[109, 101, 116, 114, 105, 99, 115]⟩, ⟨#[110, 97, 109, 101]⟩, ⟨#[116, 97, 114, 103, 101, 116]⟩] [.node 2 O.high ⟨#[]⟩ [] [], .node 3 0 ⟨#[109, 105, 100, 100, 108, 101]⟩ [] [], .node 2 O.low ⟨#[]⟩ [] [], (metsT O.mets), .node 3 0 O.name [] [], .node 3 0 O.target [] []]) ⟨#[110, 111, 116, 101, 115]⟩ N) = _
  rw [setT_new (by rfl) (show firstN [⟨#[104, 105, 103, 104]⟩, ⟨#[107, 105, 110, 100]⟩, ⟨#[108, 111, 119]⟩, ⟨#[109, 101, 116, 114, 105, 99, 115]⟩, ⟨#[110, 97, 109, 101]⟩, ⟨#[116, 97, 114, 103, 101, 116]⟩] ⟨#[110, 111, 116, 101, 115]⟩ = 6 by decide +kernel) (show placeN [⟨#[104, 105, 103, 104]⟩, ⟨#[107, 105, 110, 100]⟩, ⟨#[108, 111, 119]⟩, ⟨#[109, 101, 116, 114, 105, 99, 115]⟩, ⟨#[110, 97, 109, 101]⟩, ⟨#[116, 97, 114, 103, 101, 116]⟩] ⟨#[110, 111, 116, 101, 115]⟩ = 5 by decide +kernel)]
  rfl

theorem bracT_size (T : RT) : (bracT T).size ≤ 400000 := by
  unfold bracT
  split
  · rename_i h
    obtain ⟨h1, h2⟩ := treeOk_out h
    have := brac_le T h2
    show T.brac.toArray.size ≤ _
    rw [List.size_toArray]
    omega
  · decide

theorem saved_sz {O : Ord} (h : O.okB = true) : (savedT O).sz ≤ 410000 := by
  have hn := (notes_sz h).2
  unfold savedT
  split
  · omega
  · have hb := bracT_size (pacT O.pace)
    have z := setT_sz (notesT O.notes) (.node 3 0 (bracT (pacT O.pace)) [] []) ⟨#[113, 117, 97, 121, 47, 112, 97, 99, 101]⟩
    have k : (⟨#[113, 117, 97, 121, 47, 112, 97, 99, 101]⟩ : ByteArray).size = 9 := rfl
    have e : (RT.node 3 0 (bracT (pacT O.pace)) [] []).sz = (bracT (pacT O.pace)).size := by simp [RT.sz, szAll, strSz]
    omega

theorem fullT_sz {O : Ord} (h : O.okB = true) (hp : O.pace.ok) (hg : ∀ m ∈ O.mets, m.ok) : (fullT O).sz ≤ 10000 := by
  have a := mets_sz h hg
  have b := notes_sz h
  have c := head_sz h ⟨#[102, 117, 108, 108]⟩ (by decide)
  have d := pacT_sz O.pace hp
  have e := full_sets O
  have z1 := setT_sz (headT ⟨#[102, 117, 108, 108]⟩ O) (metsT O.mets) ⟨#[109, 101, 116, 114, 105, 99, 115]⟩
  have z2 := setT_sz (setT (headT ⟨#[102, 117, 108, 108]⟩ O) ⟨#[109, 101, 116, 114, 105, 99, 115]⟩ (metsT O.mets)) (pacT O.pace) ⟨#[112, 97, 99, 101]⟩
  have z3 := setT_sz (setT (setT (headT ⟨#[102, 117, 108, 108]⟩ O) ⟨#[109, 101, 116, 114, 105, 99, 115]⟩ (metsT O.mets)) ⟨#[112, 97, 99, 101]⟩ (pacT O.pace)) (notesT O.notes) ⟨#[110, 111, 116, 101, 115]⟩
  have k1 : (⟨#[109, 101, 116, 114, 105, 99, 115]⟩ : ByteArray).size = 7 := rfl
  have k2 : (⟨#[112, 97, 99, 101]⟩ : ByteArray).size = 4 := rfl
  have k3 : (⟨#[110, 111, 116, 101, 115]⟩ : ByteArray).size = 5 := rfl
  rw [e] at z3
  omega

theorem midB_sz {O : Ord} (h : O.okB = true) (hg : ∀ m ∈ O.mets, m.ok) (N : RT) : (midB O N).sz ≤ 10000 + N.sz := by
  have a := mets_sz h hg
  have c := head_sz h ⟨#[109, 105, 100, 100, 108, 101]⟩ (by decide)
  have e := mid_sets2 O N
  have z1 := setT_sz (headT ⟨#[109, 105, 100, 100, 108, 101]⟩ O) (metsT O.mets) ⟨#[109, 101, 116, 114, 105, 99, 115]⟩
  have z2 := setT_sz (setT (headT ⟨#[109, 105, 100, 100, 108, 101]⟩ O) ⟨#[109, 101, 116, 114, 105, 99, 115]⟩ (metsT O.mets)) N ⟨#[110, 111, 116, 101, 115]⟩
  have k1 : (⟨#[109, 101, 116, 114, 105, 99, 115]⟩ : ByteArray).size = 7 := rfl
  have k3 : (⟨#[110, 111, 116, 101, 115]⟩ : ByteArray).size = 5 := rfl
  rw [e] at z2
  omega
/-- Where the notes stand in the middle shape. -/
theorem mid_first (O : Ord) (N : RT) : FirstAt (midB O N).keys ⟨#[110, 111, 116, 101, 115]⟩ 5 := by
  have hne : ∀ {a b : List UInt8}, a ≠ b → ¬ (⟨a.toArray⟩ : ByteArray) = ⟨b.toArray⟩ := fun h e => h (by have := congrArg (fun x => x.data.toList) e; simpa using this)
  refine ⟨by show 5 < 7; decide, rfl, fun j hj => ?_⟩
  match j, hj with
  | 0, _ => exact hne (a := [104, 105, 103, 104]) (b := [110, 111, 116, 101, 115]) (by decide)
  | 1, _ => exact hne (a := [107, 105, 110, 100]) (b := [110, 111, 116, 101, 115]) (by decide)
  | 2, _ => exact hne (a := [108, 111, 119]) (b := [110, 111, 116, 101, 115]) (by decide)
  | 3, _ => exact hne (a := [109, 101, 116, 114, 105, 99, 115]) (b := [110, 111, 116, 101, 115]) (by decide)
  | 4, _ => exact hne (a := [110, 97, 109, 101]) (b := [110, 111, 116, 101, 115]) (by decide)
end Go.Proofs.YtfmkhogpnnobeaaGreatDoor

/- plain facts on the plain shape: which metric is the share, which are the others; the keys set one behind the other. -/
namespace Go.Proofs.YtfmkhogpnnobeaaGreatDoor
open Go Go.RowKit

/-! ### The share -/

/-- A metric named cpu. -/
def isCpu (m : Met) : Bool := m.name.toList == [99, 112, 117]
/-- A metric of which a share is told. -/
def fitsB (m : Met) : Bool := isCpu m && (decide (m.kind = 1) && (decide (m.goal.tmod 10 = 0) && inB (m.goal.tdiv 10) 1 1000))
def shareB (xs : List Met) : Bool := (xs.find? fitsB).isSome
def shareN (xs : List Met) : Int := match xs.find? fitsB with
  | some m => m.goal.tdiv 10
  | none => 0
/-- The metrics but the one of which the share is told. -/
def othersM (xs : List Met) : List Met := xs.filter fun m => !(shareB xs && isCpu m)
/-- At most one is named cpu. -/
def OneCpu (xs : List Met) : Prop := ∀ i j (hi : i < xs.length) (hj : j < xs.length), isCpu xs[i] = true → isCpu xs[j] = true → i = j
/-- Where cpu stands. -/
def cpuN (xs : List Met) : Nat := xs.findIdx isCpu

theorem isCpu_name {m : Met} (h : isCpu m = true) : m.name = ⟨#[99, 112, 117]⟩ := toList_iff.1 ((beq_iff_eq.1 h).trans (by decide +kernel))

theorem one_cpu {O : Ord} (h : O.okB = true) : OneCpu O.mets := by
  have hm : Els Met.name Met.okB O.mets := by
    unfold Ord.okB at h
    simp only [Bool.and_eq_true] at h
    exact @of_decide_eq_true _ (Classical.propDecidable _) h.1.1.2
  have ha : AscK (O.mets.map (·.name)) := fun i hi h0 => by
    have hi' : i < O.mets.length := by simpa using hi
    have := (hm.1 i hi').2 h0
    simpa using this
  have key : ∀ i j (hi : i < O.mets.length) (hj : j < O.mets.length), i < j → isCpu O.mets[i] = true → isCpu O.mets[j] = true → False := fun i j hi hj hij h1 h2 => by
    have := asck_less ha j i (by simpa using hi) (by simpa using hj) hij
    simp only [List.getElem_map] at this
    rw [isCpu_name h1, isCpu_name h2, lessR_irrefl] at this
    cases this
  intro i j hi hj h1 h2
  rcases Nat.lt_trichotomy i j with h3 | h3 | h3
  · exact (key i j hi hj h3 h1 h2).elim
  · exact h3
  · exact (key j i hj hi h3 h2 h1).elim

theorem fits_cpu {m : Met} (h : fitsB m = true) : isCpu m = true := by
  unfold fitsB at h
  simp only [Bool.and_eq_true] at h
  exact h.1

theorem share_none {xs : List Met} (h : ∀ i (hi : i < xs.length), isCpu xs[i] = false) : shareB xs = false ∧ shareN xs = 0 ∧ othersM xs = xs := by
  have e : xs.find? fitsB = none := by
    rw [List.find?_eq_none]
    intro x hx hf
    obtain ⟨i, hi, rfl⟩ := List.getElem_of_mem hx
    have := fits_cpu hf
    rw [h i hi] at this
    cases this
  have e1 : shareB xs = false := by unfold shareB; rw [e]; rfl
  refine ⟨e1, by unfold shareN; rw [e], ?_⟩
  unfold othersM
  rw [e1]
  simp

theorem share_at {xs : List Met} (h1 : OneCpu xs) {i : Nat} (hi : i < xs.length) (hc : isCpu xs[i] = true) : shareB xs = fitsB xs[i] ∧ (fitsB xs[i] = true → shareN xs = xs[i].goal.tdiv 10) ∧ (fitsB xs[i] = false → shareN xs = 0) := by
  cases hf : fitsB xs[i] with
  | true =>
    have e : xs.find? fitsB = some xs[i] := by
      rw [List.find?_eq_some_iff_getElem]
      refine ⟨hf, i, hi, rfl, fun j hj => ?_⟩
      cases hb : fitsB xs[j] with
      | false => rfl
      | true => have := h1 j i (by omega) hi (fits_cpu hb) hc; omega
    exact ⟨by unfold shareB; rw [e]; rfl, fun _ => (by unfold shareN; rw [e]), fun h => (by cases h)⟩
  | false =>
    have e : xs.find? fitsB = none := by
      rw [List.find?_eq_none]
      intro x hx hb
      obtain ⟨j, hj, rfl⟩ := List.getElem_of_mem hx
      obtain rfl := h1 j i hj hi (fits_cpu hb) hc
      rw [hf] at hb
      cases hb
    exact ⟨by unfold shareB; rw [e]; rfl, fun h => (by cases h), fun _ => by unfold shareN; rw [e]⟩

theorem others_no {xs : List Met} (h : shareB xs = false) : othersM xs = xs := by
  unfold othersM
  rw [h]
  simp

theorem others_at {xs : List Met} (h1 : OneCpu xs) {i : Nat} (hi : i < xs.length) (hc : isCpu xs[i] = true) (hs : shareB xs = true) : othersM xs = xs.take i ++ xs.drop (i + 1) := by
  unfold othersM
  rw [hs]
  simp only [Bool.true_and]
  have e : xs = xs.take i ++ xs[i] :: xs.drop (i + 1) := by rw [← List.drop_eq_getElem_cons hi, List.take_append_drop]
  have a : (xs.take i).filter (fun m => !isCpu m) = xs.take i := by
    rw [List.filter_eq_self]
    intro x hx
    obtain ⟨j, hj, rfl⟩ := List.getElem_of_mem hx
    rw [List.length_take] at hj
    rw [List.getElem_take]
    cases hb : isCpu xs[j] with
    | false => rfl
    | true => have := h1 j i (by omega) hi hb hc; omega
  have d : (xs.drop (i + 1)).filter (fun m => !isCpu m) = xs.drop (i + 1) := by
    rw [List.filter_eq_self]
    intro x hx
    obtain ⟨j, hj, rfl⟩ := List.getElem_of_mem hx
    rw [List.length_drop] at hj
    rw [List.getElem_drop]
    cases hb : isCpu xs[i + 1 + j] with
    | false => rfl
    | true => have := h1 (i + 1 + j) i (by omega) hi hb hc; omega
  have hx : (xs[i] :: xs.drop (i + 1)).filter (fun m => !isCpu m) = xs.drop (i + 1) := by
    rw [List.filter_cons, hc, d]
    simp
  have g : (xs.take i ++ xs[i] :: xs.drop (i + 1)).filter (fun m => !isCpu m) = xs.take i ++ xs.drop (i + 1) := by
    rw [List.filter_append, a, hx]
  rw [← e] at g
  exact g

theorem share_in {xs : List Met} (h : shareB xs = true) : 1 ≤ shareN xs ∧ shareN xs ≤ 1000 := by
  unfold shareB at h
  unfold shareN
  cases hq : xs.find? fitsB with
  | none => rw [hq] at h; cases h
  | some m =>
    have hf := List.find?_some hq
    unfold fitsB inB at hf
    simp only [Bool.and_eq_true, decide_eq_true_eq] at hf
    exact hf.2.2.2

theorem share_zero {xs : List Met} (h : shareB xs = false) : shareN xs = 0 := by
  unfold shareB at h
  unfold shareN
  cases hq : xs.find? fitsB with
  | none => rfl
  | some m => rw [hq] at h; cases h

theorem others_mem {xs : List Met} {m : Met} (h : m ∈ othersM xs) : m ∈ xs := (List.mem_filter.1 h).1
theorem others_len (xs : List Met) : (othersM xs).length ≤ xs.length := List.length_filter_le _ _

/-! ### The plain shape -/

/-- An order in the plain shape without a share, at any notes. -/
def plain6 (O : Ord) (N : RT) : RT := .node 5 0 ⟨#[]⟩
  [⟨#[104, 105, 103, 104]⟩, ⟨#[107, 105, 110, 100]⟩, ⟨#[108, 111, 119]⟩, ⟨#[110, 97, 109, 101]⟩, ⟨#[110, 111, 116, 101, 115]⟩, ⟨#[116, 97, 114, 103, 101, 116]⟩]
  [.node 2 O.high ⟨#[]⟩ [] [], .node 3 0 ⟨#[112, 108, 97, 105, 110]⟩ [] [], .node 2 O.low ⟨#[]⟩ [] [], .node 3 0 O.name [] [], N, .node 3 0 O.target [] []]
/-- An order in the plain shape with a share, at any notes. -/
def plain7 (O : Ord) (N : RT) (n : Int) : RT := .node 5 0 ⟨#[]⟩
  [⟨#[104, 105, 103, 104]⟩, ⟨#[107, 105, 110, 100]⟩, ⟨#[108, 111, 119]⟩, ⟨#[110, 97, 109, 101]⟩, ⟨#[110, 111, 116, 101, 115]⟩, ⟨#[115, 104, 97, 114, 101]⟩, ⟨#[116, 97, 114, 103, 101, 116]⟩]
  [.node 2 O.high ⟨#[]⟩ [] [], .node 3 0 ⟨#[112, 108, 97, 105, 110]⟩ [] [], .node 2 O.low ⟨#[]⟩ [] [], .node 3 0 O.name [] [], N, .node 2 n ⟨#[]⟩ [] [], .node 3 0 O.target [] []]
noncomputable def plainN (O : Ord) : RT := if othersM O.mets = [] then savedT O else setT (savedT O) ⟨#[113, 117, 97, 121, 47, 109, 101, 116, 114, 105, 99, 115]⟩ (.node 3 0 (bracT (metsT (othersM O.mets))) [] [])
noncomputable def shapeP (O : Ord) (N : RT) : RT := if shareB O.mets = true then plain7 O N (shareN O.mets) else plain6 O N
noncomputable def plainT (O : Ord) : RT := shapeP O (plainN O)

theorem plain6_notes (O : Ord) (N M : RT) : setT (plain6 O N) ⟨#[110, 111, 116, 101, 115]⟩ M = plain6 O M := by
  rw [setT, if_pos (show (plain6 O N).isMap from ⟨rfl, rfl⟩)]
  rw [show (plain6 O N).keys = [⟨#[104, 105, 103, 104]⟩, ⟨#[107, 105, 110, 100]⟩, ⟨#[108, 111, 119]⟩, ⟨#[110, 97, 109, 101]⟩, ⟨#[110, 111, 116, 101, 115]⟩, ⟨#[116, 97, 114, 103, 101, 116]⟩] from rfl, show firstN [⟨#[104, 105, 103, 104]⟩, ⟨#[107, 105, 110, 100]⟩, ⟨#[108, 111, 119]⟩, ⟨#[110, 97, 109, 101]⟩, ⟨#[110, 111, 116, 101, 115]⟩, ⟨#[116, 97, 114, 103, 101, 116]⟩] ⟨#[110, 111, 116, 101, 115]⟩ = 4 by decide +kernel]
  rfl
theorem plain7_notes (O : Ord) (N M : RT) (n : Int) : setT (plain7 O N n) ⟨#[110, 111, 116, 101, 115]⟩ M = plain7 O M n := by
  rw [setT, if_pos (show (plain7 O N n).isMap from ⟨rfl, rfl⟩)]
  rw [show (plain7 O N n).keys = [⟨#[104, 105, 103, 104]⟩, ⟨#[107, 105, 110, 100]⟩, ⟨#[108, 111, 119]⟩, ⟨#[110, 97, 109, 101]⟩, ⟨#[110, 111, 116, 101, 115]⟩, ⟨#[115, 104, 97, 114, 101]⟩, ⟨#[116, 97, 114, 103, 101, 116]⟩] from rfl, show firstN [⟨#[104, 105, 103, 104]⟩, ⟨#[107, 105, 110, 100]⟩, ⟨#[108, 111, 119]⟩, ⟨#[110, 97, 109, 101]⟩, ⟨#[110, 111, 116, 101, 115]⟩, ⟨#[115, 104, 97, 114, 101]⟩, ⟨#[116, 97, 114, 103, 101, 116]⟩] ⟨#[110, 111, 116, 101, 115]⟩ = 4 by decide +kernel]
  rfl

/-- The program's way. -/
theorem pl_sets (O : Ord) (N : RT) : setT (unT (midB O N) ⟨#[109, 101, 116, 114, 105, 99, 115]⟩) ⟨#[107, 105, 110, 100]⟩ (.node 3 0 ⟨#[112, 108, 97, 105, 110]⟩ [] []) = plain6 O N := by
  have e : unT (midB O N) ⟨#[109, 101, 116, 114, 105, 99, 115]⟩ = .node 5 0 ⟨#[]⟩
      [⟨#[104, 105, 103, 104]⟩, ⟨#[107, 105, 110, 100]⟩, ⟨#[108, 111, 119]⟩, ⟨#[110, 97, 109, 101]⟩, ⟨#[110, 111, 116, 101, 115]⟩, ⟨#[116, 97, 114, 103, 101, 116]⟩]
      [.node 2 O.high ⟨#[]⟩ [] [], .node 3 0 ⟨#[109, 105, 100, 100, 108, 101]⟩ [] [], .node 2 O.low ⟨#[]⟩ [] [], .node 3 0 O.name [] [], N, .node 3 0 O.target [] []] := by
    simp [unT, unK, unD, unP, midB, RT.k, RT.n, RT.s, RT.keys, RT.kids]
  rw [e, setT, if_pos (show RT.isMap _ from ⟨rfl, rfl⟩)]
  rw [RT.keys, show firstN [⟨#[104, 105, 103, 104]⟩, ⟨#[107, 105, 110, 100]⟩, ⟨#[108, 111, 119]⟩, ⟨#[110, 97, 109, 101]⟩, ⟨#[110, 111, 116, 101, 115]⟩, ⟨#[116, 97, 114, 103, 101, 116]⟩] ⟨#[107, 105, 110, 100]⟩ = 1 by decide +kernel]
  rfl
theorem pl_share (O : Ord) (N : RT) (n : Int) : setT (plain6 O N) ⟨#[115, 104, 97, 114, 101]⟩ (.node 2 n ⟨#[]⟩ [] []) = plain7 O N n := by
  show setT (.node 5 0 ⟨#[]⟩ [⟨#[104, 105, 103, 104]⟩, ⟨#[107, 105, 110, 100]⟩, ⟨#[108, 111, 119]⟩, ⟨#[110, 97, 109, 101]⟩, ⟨#[110, 111, 116, 101, 115]⟩, ⟨#[116, 97, 114, 103, 101, 116]⟩] [.node 2 O.high ⟨#[]⟩ [] [], .node 3 0 ⟨#[112, 108, 97, 105, 110]⟩ [] [], .node 2 O.low ⟨#[]⟩ [] [], .node 3 0 O.name [] [], N, .node 3 0 O.target [] []]) ⟨#[115, 104, 97, 114, 101]⟩ (.node 2 n ⟨#[]⟩ [] []) = _
  rw [setT_new (by rfl) (show firstN [⟨#[104, 105, 103, 104]⟩, ⟨#[107, 105, 110, 100]⟩, ⟨#[108, 111, 119]⟩, ⟨#[110, 97, 109, 101]⟩, ⟨#[110, 111, 116, 101, 115]⟩, ⟨#[116, 97, 114, 103, 101, 116]⟩] ⟨#[115, 104, 97, 114, 101]⟩ = 6 by decide +kernel) (show placeN [⟨#[104, 105, 103, 104]⟩, ⟨#[107, 105, 110, 100]⟩, ⟨#[108, 111, 119]⟩, ⟨#[110, 97, 109, 101]⟩, ⟨#[110, 111, 116, 101, 115]⟩, ⟨#[116, 97, 114, 103, 101, 116]⟩] ⟨#[115, 104, 97, 114, 101]⟩ = 5 by decide +kernel)]
  rfl
/-- The model's way. -/
theorem pl_head6 (O : Ord) (N : RT) : setT (headT ⟨#[112, 108, 97, 105, 110]⟩ O) ⟨#[110, 111, 116, 101, 115]⟩ N = plain6 O N := by
  show setT (.node 5 0 ⟨#[]⟩ [⟨#[104, 105, 103, 104]⟩, ⟨#[107, 105, 110, 100]⟩, ⟨#[108, 111, 119]⟩, ⟨#[110, 97, 109, 101]⟩, ⟨#[116, 97, 114, 103, 101, 116]⟩] [.node 2 O.high ⟨#[]⟩ [] [], .node 3 0 ⟨#[112, 108, 97, 105, 110]⟩ [] [], .node 2 O.low ⟨#[]⟩ [] [], .node 3 0 O.name [] [], .node 3 0 O.target [] []]) ⟨#[110, 111, 116, 101, 115]⟩ N = _
  rw [setT_new (by rfl) (show firstN [⟨#[104, 105, 103, 104]⟩, ⟨#[107, 105, 110, 100]⟩, ⟨#[108, 111, 119]⟩, ⟨#[110, 97, 109, 101]⟩, ⟨#[116, 97, 114, 103, 101, 116]⟩] ⟨#[110, 111, 116, 101, 115]⟩ = 5 by decide +kernel) (show placeN [⟨#[104, 105, 103, 104]⟩, ⟨#[107, 105, 110, 100]⟩, ⟨#[108, 111, 119]⟩, ⟨#[110, 97, 109, 101]⟩, ⟨#[116, 97, 114, 103, 101, 116]⟩] ⟨#[110, 111, 116, 101, 115]⟩ = 4 by decide +kernel)]
  rfl
theorem pl_head7 (O : Ord) (N : RT) (n : Int) : setT (setT (headT ⟨#[112, 108, 97, 105, 110]⟩ O) ⟨#[115, 104, 97, 114, 101]⟩ (.node 2 n ⟨#[]⟩ [] [])) ⟨#[110, 111, 116, 101, 115]⟩ N = plain7 O N n := by
  show setT (setT (.node 5 0 ⟨#[]⟩ [⟨#[104, 105, 103, 104]⟩, ⟨#[107, 105, 110, 100]⟩, ⟨#[108, 111, 119]⟩, ⟨#[110, 97, 109, 101]⟩, ⟨#[116, 97, 114, 103, 101, 116]⟩] [.node 2 O.high ⟨#[]⟩ [] [], .node 3 0 ⟨#[112, 108, 97, 105, 110]⟩ [] [], .node 2 O.low ⟨#[]⟩ [] [], .node 3 0 O.name [] [], .node 3 0 O.target [] []]) ⟨#[115, 104, 97, 114, 101]⟩ (.node 2 n ⟨#[]⟩ [] [])) ⟨#[110, 111, 116, 101, 115]⟩ N = _
  rw [setT_new (by rfl) (show firstN [⟨#[104, 105, 103, 104]⟩, ⟨#[107, 105, 110, 100]⟩, ⟨#[108, 111, 119]⟩, ⟨#[110, 97, 109, 101]⟩, ⟨#[116, 97, 114, 103, 101, 116]⟩] ⟨#[115, 104, 97, 114, 101]⟩ = 5 by decide +kernel) (show placeN [⟨#[104, 105, 103, 104]⟩, ⟨#[107, 105, 110, 100]⟩, ⟨#[108, 111, 119]⟩, ⟨#[110, 97, 109, 101]⟩, ⟨#[116, 97, 114, 103, 101, 116]⟩] ⟨#[115, 104, 97, 114, 101]⟩ = 4 by decide +kernel)]
  show setT (.node 5 0 ⟨#[]⟩ [⟨#[104, 105, 103, 104]⟩, ⟨#[107, 105, 110, 100]⟩, ⟨#[108, 111, 119]⟩, ⟨#[110, 97, 109, 101]⟩, ⟨#[115, 104, 97, 114, 101]⟩, ⟨#[116, 97, 114, 103, 101, 116]⟩] [.node 2 O.high ⟨#[]⟩ [] [], .node 3 0 ⟨#[112, 108, 97, 105, 110]⟩ [] [], .node 2 O.low ⟨#[]⟩ [] [], .node 3 0 O.name [] [], .node 2 n ⟨#[]⟩ [] [], .node 3 0 O.target [] []]) ⟨#[110, 111, 116, 101, 115]⟩ N = _
  rw [setT_new (by rfl) (show firstN [⟨#[104, 105, 103, 104]⟩, ⟨#[107, 105, 110, 100]⟩, ⟨#[108, 111, 119]⟩, ⟨#[110, 97, 109, 101]⟩, ⟨#[115, 104, 97, 114, 101]⟩, ⟨#[116, 97, 114, 103, 101, 116]⟩] ⟨#[110, 111, 116, 101, 115]⟩ = 6 by decide +kernel) (show placeN [⟨#[104, 105, 103, 104]⟩, ⟨#[107, 105, 110, 100]⟩, ⟨#[108, 111, 119]⟩, ⟨#[110, 97, 109, 101]⟩, ⟨#[115, 104, 97, 114, 101]⟩, ⟨#[116, 97, 114, 103, 101, 116]⟩] ⟨#[110, 111, 116, 101, 115]⟩ = 4 by decide +kernel)]
  rfl

theorem plain6_first (O : Ord) (N : RT) : FirstAt (plain6 O N).keys ⟨#[110, 111, 116, 101, 115]⟩ 4 := by
  have hne : ∀ {a b : List UInt8}, a ≠ b → ¬ (⟨a.toArray⟩ : ByteArray) = ⟨b.toArray⟩ := fun h e => h (by have := congrArg (fun x => x.data.toList) e; simpa using this)
  refine ⟨by show 4 < 6; decide, rfl, fun j hj => ?_⟩
  match j, hj with
  | 0, _ => exact hne (a := [104, 105, 103, 104]) (b := [110, 111, 116, 101, 115]) (by decide)
  | 1, _ => exact hne (a := [107, 105, 110, 100]) (b := [110, 111, 116, 101, 115]) (by decide)
  | 2, _ => exact hne (a := [108, 111, 119]) (b := [110, 111, 116, 101, 115]) (by decide)
  | 3, _ => exact hne (a := [110, 97, 109, 101]) (b := [110, 111, 116, 101, 115]) (by decide)
theorem plain7_first (O : Ord) (N : RT) (n : Int) : FirstAt (plain7 O N n).keys ⟨#[110, 111, 116, 101, 115]⟩ 4 := by
  have hne : ∀ {a b : List UInt8}, a ≠ b → ¬ (⟨a.toArray⟩ : ByteArray) = ⟨b.toArray⟩ := fun h e => h (by have := congrArg (fun x => x.data.toList) e; simpa using this)
  refine ⟨by show 4 < 7; decide, rfl, fun j hj => ?_⟩
  match j, hj with
  | 0, _ => exact hne (a := [104, 105, 103, 104]) (b := [110, 111, 116, 101, 115]) (by decide)
  | 1, _ => exact hne (a := [107, 105, 110, 100]) (b := [110, 111, 116, 101, 115]) (by decide)
  | 2, _ => exact hne (a := [108, 111, 119]) (b := [110, 111, 116, 101, 115]) (by decide)
  | 3, _ => exact hne (a := [110, 97, 109, 101]) (b := [110, 111, 116, 101, 115]) (by decide)

theorem plain6_sz {O : Ord} (h : O.okB = true) (N : RT) : (plain6 O N).sz ≤ 300 + N.sz := by
  have c := head_sz h ⟨#[112, 108, 97, 105, 110]⟩ (by decide)
  have e := pl_head6 O N
  have z1 := setT_sz (headT ⟨#[112, 108, 97, 105, 110]⟩ O) N ⟨#[110, 111, 116, 101, 115]⟩
  have k3 : (⟨#[110, 111, 116, 101, 115]⟩ : ByteArray).size = 5 := rfl
  rw [e] at z1
  omega
theorem plain7_sz {O : Ord} (h : O.okB = true) (N : RT) (n : Int) : (plain7 O N n).sz ≤ 400 + N.sz := by
  have c := plain6_sz h N
  have e := pl_share O N n
  have z1 := setT_sz (plain6 O N) (.node 2 n ⟨#[]⟩ [] []) ⟨#[115, 104, 97, 114, 101]⟩
  have k3 : (⟨#[115, 104, 97, 114, 101]⟩ : ByteArray).size = 5 := rfl
  have k0 : (RT.node 2 n ⟨#[]⟩ [] []).sz = 0 := by
    have k : (⟨#[]⟩ : ByteArray).size = 0 := rfl
    simp only [RT.sz, szAll, strSz, k, List.length_nil, List.map_nil, List.sum_nil, Nat.add_zero]
  rw [e] at z1
  omega
theorem others_sz {O : Ord} (h : O.okB = true) (hg : ∀ m ∈ O.mets, m.ok) : (metsT (othersM O.mets)).sz ≤ 2000 := by
  obtain ⟨-, -, ⟨h1, h2⟩, -⟩ := okB_out h
  have a := szAll_le 220 ((othersM O.mets).map metT) (fun t ht => by
    obtain ⟨m, hm, rfl⟩ := List.mem_map.1 ht
    have hm' := others_mem hm
    have := metT_sz m (hg m hm').2.2.1 (hg m hm').2.2.2
    have := h2 m hm'
    omega)
  have l := others_len O.mets
  have k : (⟨#[]⟩ : ByteArray).size = 0 := rfl
  simp only [metsT, RT.sz, k, strSz, List.length_nil, List.map_nil, List.sum_nil, List.length_map] at a ⊢
  omega
theorem plainN_sz {O : Ord} (h : O.okB = true) : (plainN O).sz ≤ 900000 := by
  have hs := saved_sz h
  unfold plainN
  split
  · omega
  · have hb := bracT_size (metsT (othersM O.mets))
    have z := setT_sz (savedT O) (.node 3 0 (bracT (metsT (othersM O.mets))) [] []) ⟨#[113, 117, 97, 121, 47, 109, 101, 116, 114, 105, 99, 115]⟩
    have k : (⟨#[113, 117, 97, 121, 47, 109, 101, 116, 114, 105, 99, 115]⟩ : ByteArray).size = 12 := rfl
    have e : (RT.node 3 0 (bracT (metsT (othersM O.mets))) [] []).sz = (bracT (metsT (othersM O.mets))).size := by simp [RT.sz, szAll, strSz]
    omega
theorem plainT_sz {O : Ord} (h : O.okB = true) : (plainT O).sz ≤ 901000 := by
  have a := plainN_sz h
  unfold plainT shapeP
  split
  · have := plain7_sz h (plainN O) (shareN O.mets); omega
  · have := plain6_sz h (plainN O); omega
end Go.Proofs.YtfmkhogpnnobeaaGreatDoor

/- the program's tree of a list of notes: a map of their Texts, in memory of its own; no condition. -/
namespace Go.Proofs.YtfmkhogpnnobeaaGreatDoor
open Go Go.RowKit

/-- Where notesTree starts: the result's block and the form's. -/
def W3 (w : World) : World := (w.alloc (.cells #[.int .i64 0, .int .i64 0, .string ⟨#[]⟩, .slice none 0 0, .slice none 0 0] 32)).alloc (.cells #[.slice none 0 0, .slice none 0 0] 119)
theorem w3_size (w : World) : (W3 w).heap.size = w.heap.size + 2 := by simp [W3]

def nilV : Nat → Value := fun _ => .slice none 0 0

/-- The Keys up to j and the Kids up to d are laid. -/
structure NN (w wr : World) (xs : List Not) (j d : Nat) (kv dv : Value) : Prop where
  below : Below w.heap.size w wr
  size : w.heap.size + 2 ≤ wr.heap.size
  res : wr.heap[w.heap.size]? = some (.cells #[.int .i64 0, .int .i64 0, .string ⟨#[]⟩, .slice none 0 0, .slice none 0 0] 32 (0, 0))
  out : wr.heap[w.heap.size + 1]? = some (.cells #[kv, dv] 119 (0, 0))
  keys : wr.ownsRow (w.heap.size + 2) 9 1 kv j ((xs.take j).map fun n => .string n.key)
  kids : wr.ownsRow (w.heap.size + 2) 32 5 dv d (rowsOf (xs.map noteK) nilV nilV d)

theorem owns_form {w : World} {base n : Nat} {t : TypeId} {k : Nat} {v : Value} {l : List Value} (h : w.ownsRow base t k v n l) : ∃ o c, v = .slice o n c := by
  rcases h.2 with ⟨rfl, h0⟩ | ⟨g, cap, cur, rfl, _⟩
  · exact ⟨none, 0, by rw [h0]⟩
  · exact ⟨_, _, rfl⟩
theorem owns_blk {w : World} {base n : Nat} {t : TypeId} {k : Nat} {v : Value} {l : List Value} (h : w.ownsRow base t k v n l) {b : Nat} (hb : v.ownBlock = some b) : base ≤ b ∧ b < w.heap.size ∧ ∃ cs, w.heap[b]? = some (.cells cs t (0, 0)) := by
  rcases h.2 with ⟨rfl, _⟩ | ⟨g', cap', cur, rfl, hg, hh, _⟩
  · simp [Value.ownBlock] at hb
  · have : g' = b := by simpa [Value.ownBlock] using hb
    subst this
    exact ⟨hg, (Array.getElem?_eq_some_iff.1 hh).1, _, hh⟩
theorem owns_carry {w w1 : World} {base n : Nat} {t : TypeId} {k : Nat} {v : Value} {l : List Value} (h : w.ownsRow base t k v n l) (hk : ∀ b, v.ownBlock = some b → w1.heap[b]? = w.heap[b]?) : w1.ownsRow base t k v n l := by
  refine ⟨h.1, ?_⟩
  rcases h.2 with h2 | ⟨g, cap, cur, rfl, hg, hh, r⟩
  · exact .inl h2
  · exact .inr ⟨g, cap, cur, rfl, hg, (hk g rfl).trans hh, r⟩

section
variable {w wr w1 w3 : World} {xs : List Not} {j d : Nat} {kv dv : Value}

theorem NN.start (w : World) (xs : List Not) : NN w (W3 w) xs 0 0 (.slice none 0 0) (.slice none 0 0) := by
  obtain ⟨h1, h2, h3, h4⟩ := two_blk w (.cells #[.int .i64 0, .int .i64 0, .string ⟨#[]⟩, .slice none 0 0, .slice none 0 0] 32) (.cells #[.slice none 0 0, .slice none 0 0] 119)
  exact ⟨h4, by rw [w3_size]; exact Nat.le_refl _, h1, h2, ⟨rfl, .inl ⟨rfl, rfl⟩⟩, ⟨rfl, .inl ⟨rfl, rfl⟩⟩⟩

theorem NN.next (h : NN w wr xs j d kv dv) (hb : Below wr.heap.size wr w1) : NN w w1 xs j d kv dv :=
  ⟨h.below.trans (hb.mono h.below.size), Nat.le_trans h.size hb.size, blk_next h.res hb, blk_next h.out hb, owns_below h.keys hb, owns_below h.kids hb⟩

theorem NN.key (h : NN w wr xs j d kv dv) (hj : j < xs.length) {g cap : Nat} (hgrow : wr.grownBy w3 kv.ownBlock) (hown : w3.ownsRow (w.heap.size + 2) 9 1 (.slice (some ⟨g, 0, none⟩) (j + 1) cap) (j + 1) (((xs.take j).map fun n => .string n.key) ++ [.string xs[j].key])) :
    NN w (w3.setCell ⟨w.heap.size + 1, 0, none⟩ (.slice (some ⟨g, 0, none⟩) (j + 1) cap)) xs (j + 1) d (.slice (some ⟨g, 0, none⟩) (j + 1) cap) dv := by
  have hk : ∀ b, kv.ownBlock = some b → w.heap.size + 2 ≤ b := fun b e => (owns_blk h.keys e).1
  have keep : ∀ x, x < w.heap.size + 2 → w3.heap[x]? = wr.heap[x]? := fun x hx => hgrow.block x (by have := h.size; omega) (fun e => by have := hk x e.symm; omega)
  have set : ∀ x, x ≠ w.heap.size + 1 → (w3.setCell ⟨w.heap.size + 1, 0, none⟩ (.slice (some ⟨g, 0, none⟩) (j + 1) cap)).heap[x]? = w3.heap[x]? := fun x hx => Below.heap_setCell _ _ _ _ hx
  have hb3 : Below w.heap.size w w3 := h.below.grown hgrow h.below.size (fun b e => by have := hk b e; omega)
  refine ⟨hb3.setCell (by show w.heap.size ≤ w.heap.size + 1; omega) _, by have := h.size; have := hgrow.size; simp [World.setCell]; omega, ?_, heap_set ((keep _ (by omega)).trans h.out) 0 _, ?_, ?_⟩
  · rw [set _ (by omega), keep _ (by omega)]; exact h.res
  · rw [List.take_succ_eq_append_getElem hj, List.map_append]
    refine owns_carry hown fun b e => set b ?_
    have : g = b := by simpa [Value.ownBlock] using e
    have := (owns_blk hown e).1
    omega
  · refine owns_carry h.kids fun b e => ?_
    obtain ⟨h1, h2, cs, h3⟩ := owns_blk h.kids e
    rw [set _ (by omega), hgrow.block _ h2 (fun e' => by
      obtain ⟨-, -, cs', h4⟩ := owns_blk h.keys e'.symm
      rw [h3] at h4; injection h4 with h4; injection h4 with _ h4; exact absurd h4 (by decide))]

theorem NN.kid (h : NN w wr xs j d kv dv) (hd : d < xs.length) {g cap : Nat} (hgrow : wr.grownBy w3 dv.ownBlock) (hown : w3.ownsRow (w.heap.size + 2) 32 5 (.slice (some ⟨g, 0, none⟩) (d + 1) cap) (d + 1) (rowsOf (xs.map noteK) nilV nilV d ++ [.int .i64 3, .int .i64 0, .string xs[d].text, .slice none 0 0, .slice none 0 0])) :
    NN w (w3.setCell ⟨w.heap.size + 1, 1, none⟩ (.slice (some ⟨g, 0, none⟩) (d + 1) cap)) xs j (d + 1) kv (.slice (some ⟨g, 0, none⟩) (d + 1) cap) := by
  have hk : ∀ b, dv.ownBlock = some b → w.heap.size + 2 ≤ b := fun b e => (owns_blk h.kids e).1
  have keep : ∀ x, x < w.heap.size + 2 → w3.heap[x]? = wr.heap[x]? := fun x hx => hgrow.block x (by have := h.size; omega) (fun e => by have := hk x e.symm; omega)
  have set : ∀ x, x ≠ w.heap.size + 1 → (w3.setCell ⟨w.heap.size + 1, 1, none⟩ (.slice (some ⟨g, 0, none⟩) (d + 1) cap)).heap[x]? = w3.heap[x]? := fun x hx => Below.heap_setCell _ _ _ _ hx
  have hb3 : Below w.heap.size w w3 := h.below.grown hgrow h.below.size (fun b e => by have := hk b e; omega)
  refine ⟨hb3.setCell (by show w.heap.size ≤ w.heap.size + 1; omega) _, by have := h.size; have := hgrow.size; simp [World.setCell]; omega, ?_, heap_set ((keep _ (by omega)).trans h.out) 1 _, ?_, ?_⟩
  · rw [set _ (by omega), keep _ (by omega)]; exact h.res
  · refine owns_carry h.keys fun b e => ?_
    obtain ⟨h1, h2, cs, h3⟩ := owns_blk h.keys e
    rw [set _ (by omega), hgrow.block _ h2 (fun e' => by
      obtain ⟨-, -, cs', h4⟩ := owns_blk h.kids e'.symm
      rw [h3] at h4; injection h4 with h4; injection h4 with _ h4; exact absurd h4 (by decide))]
  · rw [rowsOf_succ]
    have e1 : (xs.map noteK).getD d default = noteK xs[d] := by simp [List.getD, List.getElem?_map, List.getElem?_eq_getElem hd]
    rw [e1]
    refine owns_carry hown fun b e => set b ?_
    have := (owns_blk hown e).1
    omega

theorem NN.fin (h : NN w wr xs xs.length xs.length kv dv) (hok : ∀ n ∈ xs, n.ok) (hb : Below wr.heap.size wr w1) :
    ∃ F, (set5 w1 w.heap.size 0 (.int .i64 5) (.int .i64 0) (.string ⟨#[]⟩) kv dv).heap[w.heap.size]? = some (.cells #[.int .i64 5, .int .i64 0, .string ⟨#[]⟩, kv, dv] 32 (0, 0)) ∧
    Lies (set5 w1 w.heap.size 0 (.int .i64 5) (.int .i64 0) (.string ⟨#[]⟩) kv dv) (notesT xs) kv dv F ∧ Fresh w (set5 w1 w.heap.size 0 (.int .i64 5) (.int .i64 0) (.string ⟨#[]⟩) kv dv) F ∧
    Below w.heap.size w (set5 w1 w.heap.size 0 (.int .i64 5) (.int .i64 0) (.string ⟨#[]⟩) kv dv) := by
  have h' := h.next hb
  have hkl : (xs.map (·.key)).length = xs.length := List.length_map _
  have hdl : (xs.map noteK).length = xs.length := List.length_map _
  have hk0 := h'.keys
  have hd0 := h'.kids
  rw [List.take_of_length_le (Nat.le_refl _)] at hk0
  have hk1 : w1.ownsRow (w.heap.size + 2) 9 1 kv (xs.map (·.key)).length ((xs.map (·.key)).map .string) := by rw [hkl, List.map_map]; exact hk0
  have hd1 : w1.ownsRow (w.heap.size + 2) 32 5 dv (xs.map noteK).length (rowsOf (xs.map noteK) nilV nilV (xs.map noteK).length) := by rw [hdl]; exact hd0
  obtain ⟨FK, k1, k2, k3⟩ := strs_owned (w := w) hk1 (fun i hi => by rw [List.getElem_map]; exact (hok _ (List.getElem_mem _)).1) (by omega)
  have hfl : (List.range (xs.map noteK).length).flatMap (fun _ => ([] : List Nat)) = [] := flat_none _
  obtain ⟨FD, d1, d2, d3⟩ := kids_owned (w := w) (FF := fun _ => []) hd1 (fun i hi => by
    rw [List.getElem_map]
    exact leaf_lies w1 ⟨by decide, by decide⟩ ⟨by decide, by decide⟩ (hok _ (List.getElem_mem _)).2) (by rw [hfl]; exact Fresh.nil _ _) (fun g _ => by rw [hfl]; simp) (by omega)
  have hap : ∀ x ∈ FK, x ∉ FD := fun x hx hx' => by
    obtain ⟨-, -, cs, e1⟩ := owns_blk hk1 (k3 x hx)
    rcases d3 x hx' with e | e
    · obtain ⟨-, -, cs', e2⟩ := owns_blk hd1 e
      rw [e1] at e2; injection e2 with e2; injection e2 with _ e2; exact absurd e2 (by decide)
    · rw [hfl] at e; simp at e
  have hfar : ∀ x ∈ FK ++ FD, w.heap.size + 2 ≤ x := fun x hx => by
    rcases List.mem_append.1 hx with hx | hx
    · exact (owns_blk hk1 (k3 x hx)).1
    · rcases d3 x hx with e | e
      · exact (owns_blk hd1 e).1
      · rw [hfl] at e; simp at e
  have hf : Fresh w w1 (FK ++ FD) := ⟨List.nodup_append.2 ⟨k2.nodup, d2.nodup, fun a ha b hb' e => hap a ha (e ▸ hb')⟩, fun x hx => by have := hfar x hx; omega, fun x hx => by
    rcases List.mem_append.1 hx with hx | hx
    · exact k2.free x hx
    · exact d2.free x hx⟩
  have keep : ∀ x ∈ FK ++ FD, (set5 w1 w.heap.size 0 (.int .i64 5) (.int .i64 0) (.string ⟨#[]⟩) kv dv).heap[x]? = w1.heap[x]? := fun x hx => set5_other _ _ _ _ _ _ _ _ _ (by have := hfar x hx; omega)
  have hL := Lies.into (k := 5) (n := 0) (s := ⟨#[]⟩) ⟨by decide, by decide⟩ ⟨by decide, by decide⟩ (by decide) k1 d1
  exact ⟨FK ++ FD, set5_end h'.res _ _ _ _ _, hL.carry keep, hf.carry keep, set5_below h'.below (Nat.le_refl _) _ _ _ _ _ _⟩
end

set_option maxRecDepth 100000 in
set_option maxHeartbeats 3200000 in
theorem impl_notesTree {v : Value} {xs : List Not} {F : List Nat} (w : World) (hs : NotsAt w v xs F) (h1 : xs.length ≤ 1000000) :
    Calls Tryz.prog 109 #[v] w fun e w' => ∃ kv dv G, e = .returned (.agg #[.int .i64 5, .int .i64 0, .string ⟨#[]⟩, kv, dv]) ∧ Lies w' (notesT xs) kv dv G ∧ Fresh w w' G ∧ Below w.heap.size w w' := by
  have HOK := Lib.hid (RowAt.every hs)
  obtain ⟨o, cap, b, off, rfl, hlc, hcm, ho, -, hcell, -⟩ := hs
  have HC := Lib.hid hcell
  have HO := Lib.hid ho
  have HM := Lib.hid (NN.start w xs)
  clear hcell ho
  obtain ⟨i0, hi0, hz0, hz1, hz2⟩ := info_parts info_node
  obtain ⟨i1, hi1, hy0, hy1, hy2⟩ := info_parts info_string
  go_enter Tryz.func109, Tryz.ntmps109
  go_wp2
  go_loopw [8] (fun i wr => ∃ (k : Nat) (kv dv : Value), k ≤ xs.length ∧ i = .int .i64 k ∧ Hid (NN w wr xs k k kv dv)) (fun i _ => xs.length - (intOf i).toNat)
  case atStart => exact ⟨0, _, _, Nat.zero_le _, rfl, HM.out⟩
  case round =>
    obtain ⟨k, kv, dv, hk, rfl, hr⟩ := hrel
    obtain ⟨ok_, ck, rfl⟩ := owns_form hr.out.keys
    obtain ⟨od, cd, rfl⟩ := owns_form hr.out.kids
    by_cases hlt : k < xs.length
    · have hbel := hr.out.below
      have c0 : wr.cell? ⟨b, off + k * 2, none⟩ = some (.string xs[k].key) := by
        have := (HC.out k hlt).2 0 (by decide)
        rw [hbel.cell (by exact World.block_lt_of_cell? _ _ this)]; exact this
      have c1 : wr.cell? ⟨b, off + k * 2 + 1, none⟩ = some (.string xs[k].text) := by
        have := (HC.out k hlt).2 1 (by decide)
        rw [hbel.cell (by exact World.block_lt_of_cell? _ _ this)]; exact this
      have ho := HO.out (by omega)
      subst ho
      have HK := Lib.hid (fun (wr' w3 : World) (g cap : Nat) (h : NN w wr' xs k k (.slice ok_ k ck) (.slice od k cd)) => h.key (w3 := w3) (g := g) (cap := cap) hlt)
      have HD := Lib.hid (fun (wr' w3 : World) (kv : Value) (g cap : Nat) (h : NN w wr' xs (k + 1) k kv (.slice od k cd)) => h.kid (w3 := w3) (g := g) (cap := cap) hlt)
      generalize xs[k] = x at *
      have HS := Lib.hid hr.out.size
      have hB := (Below.refl wr.heap.size wr).alloc (Nat.le_refl _) (.cells #[.string x.key, .string x.text] 98)
      have hR := Lib.hid (hr.out.next hB)
      have y0 : ∀ ob, (wr.alloc ob).cell? ⟨w.heap.size + 1, 0, none⟩ = some (.slice ok_ k ck) := fun ob => (World.cell?_alloc_lt wr ob ⟨w.heap.size + 1, 0, none⟩ (by show w.heap.size + 1 < _; have := HS.out; omega)).trans (cell_of hr.out.out 0)
      have hNb := Lib.hid (heap_last wr (.cells #[.string x.key, .string x.text] 98))
      have hKb : Hid (((wr.alloc (.cells #[.string x.key, .string x.text] 98)).alloc (.cells #[.string x.key] 9)).heap[wr.heap.size + 1]? = some (.cells #[.string x.key] 9 (0, 0))) := (two_blk wr _ _).2.1
      have HKO := Lib.hid (owns_below hR.out.keys ((Below.refl _ (wr.alloc (.cells #[.string x.key, .string x.text] 98))).alloc (Nat.le_refl _) (.cells #[.string x.key] 9)))
      have HB2 := Lib.hid ((Below.refl _ (wr.alloc (.cells #[.string x.key, .string x.text] 98))).alloc (Nat.le_refl _) (.cells #[.string x.key] 9))
      clear hB
      go_wp2_with (first
        | (at_builtin; refine wpList_append_lies _ rfl (.tmp 13) (.tmp 16) 29 rfl (w.heap.size + 2) 9 i1 _ 1 16 Tryz.underlying29 hi1 hy0 hy1 hy2 rfl (by decide) (.slice ok_ k ck) k _ rfl HKO.out ⟨wr.heap.size + 1, 0, none⟩ 1 1 [.string x.key] rfl rfl (World.news_of_block (cs := #[.string x.key]) (t := 9) (fr := (0, 0)) hKb.out) (by simp [Value.oneCell']) (by omega) (by unfold maxLen; omega) (by omega) (by have := HS.out; simp; omega) (wr.heap.size + 1 + 1) (by simp) ?_
           intro g cap' w3 hown3 hgrow hat hltg
           have hA := HK.out _ w3 g cap' (hR.out.next HB2.out) hgrow hown3
           have HA := Lib.hid hA
           have hne : ∀ b', (Value.slice ok_ k ck).ownBlock = some b' → w.heap.size + 2 ≤ b' ∧ b' < wr.heap.size := fun b' e => ⟨(owns_blk hr.out.keys e).1, (owns_blk hr.out.keys e).2.1⟩
           have hout3 : w3.heap[w.heap.size + 1]? = some (.cells #[.slice ok_ k ck, .slice od k cd] 119 (0, 0)) := (hgrow.block _ (by have := HS.out; simp; omega) (fun e => by have := (hne _ e.symm).1; omega)).trans (hR.out.next HB2.out).out
           have k1 : w3.cell? ⟨w.heap.size + 1, 0, none⟩ = some (.slice ok_ k ck) := cell_of hout3 0
           have k2 : w3.frozen? ⟨w.heap.size + 1, 0, none⟩ = false := by simp [World.frozen?, hout3]
           have hN3 : w3.heap[wr.heap.size]? = some (.cells #[.string x.key, .string x.text] 98 (0, 0)) := (hgrow.block _ (by simp <;> omega) (fun e => by have := (hne _ e.symm).2; omega)).trans (blk_next hNb.out HB2.out)
           have HN3 := Lib.hid hN3
           have HG3 : Hid (wr.heap.size + 2 ≤ w3.heap.size) := by have h9 := hgrow.size; simp at h9; exact h9
           clear hown3 hgrow hat hltg hA hne hout3 hN3)
        | fail)
      have hN4 : (w3.setCell ⟨w.heap.size + 1, 0, none⟩ (.slice (some ⟨g, 0, none⟩) (k + 1) cap')).heap[wr.heap.size]? = _ := (Below.heap_setCell _ _ _ _ (by have := HS.out; show wr.heap.size ≠ w.heap.size + 1; omega)).trans HN3.out
      clear k1 k2 y0 HN3 HG3 HB2 HKO hKb hNb hR hbel HK c0 c1
      generalize w3.setCell ⟨w.heap.size + 1, 0, none⟩ (.slice (some ⟨g, 0, none⟩) (k + 1) cap') = wA at *
      clear w3
      have n1 := cell_of hN4 1
      have y1 := cell_of HA.out.out 1
      simp only [List.getElem?_toArray, List.getElem?_cons_zero, List.getElem?_cons_succ] at y1 n1
      have HTx : Hid (∀ W, Calls Tryz.prog 74 #[.string x.text] W fun e w' => ∃ u, e = .returned u ∧ (u = .agg #[.int .i64 3, .int .i64 0, .string x.text, .slice none 0 0, .slice none 0 0] ∧ Below W.heap.size W w')) := fun W => by
        refine (impl_textOf x.text W).mono ?_
        rintro e w' ⟨rfl, h⟩
        exact ⟨_, rfl, rfl, h⟩
      have HN4 := Lib.hid hN4
      clear hN4
      go_region_law (first
        | (refine step_calls (by rfl) 74 _ _ (by rfl) #[.string x.text] (by simp [Act.eval]) (by intros; simp [go_sem]) (fun _ _ => rfl) (HTx.out _) ?_
           rintro u w5 ⟨rfl, hb5⟩
           have hb5' := (below_drewN (Below.refl wA.heap.size wA) 1).trans (hb5.mono (Nat.le_refl _))
           have HA5 := Lib.hid (HA.out.next hb5')
           have m1 := cell_of HA5.out.out 1
           have m2 : ∀ ob, (w5.alloc ob).cell? ⟨w.heap.size + 1, 1, none⟩ = some (.slice od k cd) := fun ob => (World.cell?_alloc_lt w5 ob ⟨w.heap.size + 1, 1, none⟩ (by show w.heap.size + 1 < _; have := HA5.out.size; omega)).trans m1
           simp only [List.getElem?_toArray, List.getElem?_cons_zero, List.getElem?_cons_succ] at m1
           clear hb5 hb5')
        | (refine step_append_lies _ (by rfl) _ _ _ (by rfl) (w.heap.size + 2) 32 i0 _ 5 80 Tryz.underlying30 hi0 hz0 hz1 hz2 rfl (by decide) (.slice od k cd) k (rowsOf (xs.map noteK) nilV nilV k) (by rfl) (owns_below HA5.out.kids ((Below.refl _ w5).alloc (Nat.le_refl _) _)) ⟨w5.heap.size, 0, none⟩ 1 1 [.int .i64 3, .int .i64 0, .string x.text, .slice none 0 0, .slice none 0 0] (by rfl) (by rfl) (World.news_of_block (cs := #[.int .i64 3, .int .i64 0, .string x.text, .slice none 0 0, .slice none 0 0]) (t := 32) (fr := (0, 0)) (heap_last w5 _)) (by simp [Value.oneCell']) (by omega) (by unfold maxLen; omega) (by omega) (by have := HA5.out.size; simp; omega) _ rfl ?_
           intro g2 cap2 w6 hown6 hgrow6 hat6 hlt6
           have hD := HD.out _ w6 _ g2 cap2 (HA5.out.next ((Below.refl _ w5).alloc (Nat.le_refl _) _)) hgrow6 hown6
           have hBf := hgrow6.block (w.heap.size + 1) (by have := HA5.out.size; simp; omega) (fun e => by have := (owns_blk HA5.out.kids e.symm).1; omega)
           have k1 : w6.cell? ⟨w.heap.size + 1, 1, none⟩ = _ := (World.cell?_of_block (a := ⟨w.heap.size + 1, 1, none⟩) hBf).trans (m2 _)
           have hBo : w6.heap[w.heap.size + 1]? = _ := hBf.trans (HA5.out.next ((Below.refl _ w5).alloc (Nat.le_refl _) _)).out
           have k2 : w6.frozen? ⟨w.heap.size + 1, 1, none⟩ = false := by simp [World.frozen?, hBo]
           have H7 := Lib.hid hD
           clear hown6 hgrow6 hat6 hlt6 hD hBf hBo)
        | fail)
      all_goals go_wp2
      all_goals exact ⟨⟨k + 1, _, _, by omega, by go_num, H7.out⟩, by simp [intOf]; omega⟩
    · have e : k = xs.length := by omega
      subst e
      have HD := Lib.hid fun (w5 : World) (hb : Below wr.heap.size wr w5) => hr.out.fin HOK.out hb
      have HRs := Lib.hid hr.out.res
      have y0 := cell_of hr.out.out 0
      have y1 := cell_of hr.out.out 1
      simp only [List.getElem?_toArray, List.getElem?_cons_zero, List.getElem?_cons_succ] at y0 y1
      go_wp2_with (first
        | (go_at_call 110; refine (sh_node _ _ _ ⟨_, _, _, rfl⟩ ⟨_, _, _, rfl⟩).mono ?_; rintro e w5 ⟨rfl, hb5⟩; have H5 := Lib.hid (HD.out w5 hb5); obtain ⟨z0, z1, z2, z3, z4, z5⟩ := five (blk_next HRs.out hb5); clear hb5)
        | fail)
      obtain ⟨F', hfin⟩ := H5.out
      exact bodyPost_ret (ret_node Tryz.results109 rfl hfin.1) rfl ⟨_, _, _, rfl, hfin.2⟩
end Go.Proofs.YtfmkhogpnnobeaaGreatDoor
