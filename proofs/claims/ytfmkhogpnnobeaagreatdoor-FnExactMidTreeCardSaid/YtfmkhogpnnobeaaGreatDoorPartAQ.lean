/-
  What is proved: plain facts on the middle shape.; two paces held against each other are told to be the same where they are.; the model's l8Saved and MidTree of an order that is right: its trees, in memory of their own; no condition.; the program's Get of a map that has the Key answers what stands there, in memory of its own, and true; no condition.
-/
import Derived.Test.YtfmkhogpnnobeaaGreatDoorPartAL
import Derived.Test.YtfmkhogpnnobeaaGreatDoorPartAP
import Derived.Test.YtfmkhogpnnobeaaGreatDoorPartAJ
import Derived.Test.YtfmkhogpnnobeaaGreatDoorPartAM
import Derived.Test.YtfmkhogpnnobeaaGreatDoorPartAE
import Derived.Test.YtfmkhogpnnobeaaGreatDoorPartAK
import Derived.Test.YtfmkhogpnnobeaaGreatDoorSetI
/- plain facts on the middle shape. -/
namespace Go.Proofs.YtfmkhogpnnobeaaGreatDoor
open Go Go.RowKit

/-! ### The middle shape -/

/-- The pace of an order that says nothing of it. -/
def newP : Pac := ⟨0, 0, 0, 300⟩
/-- The notes of an order, with its pace among them where that is another one. -/
noncomputable def savedT (O : Ord) : RT := if sameO O.pace newP = true then notesT O.notes else setT (notesT O.notes) ⟨#[113, 117, 97, 121, 47, 112, 97, 99, 101]⟩ (.node 3 0 (bracT (pacT O.pace)) [] [])
/-- An order in the middle shape, at any notes. -/
def midB (O : Ord) (N : RT) : RT := .node 5 0 ⟨#[]⟩
  [⟨#[104, 105, 103, 104]⟩, ⟨#[107, 105, 110, 100]⟩, ⟨#[108, 111, 119]⟩, ⟨#[109, 101, 116, 114, 105, 99, 115]⟩, ⟨#[110, 97, 109, 101]⟩, ⟨#[110, 111, 116, 101, 115]⟩, ⟨#[116, 97, 114, 103, 101, 116]⟩]
  [.node 2 O.high ⟨#[]⟩ [] [], .node 3 0 ⟨#[109, 105, 100, 100, 108, 101]⟩ [] [], .node 2 O.low ⟨#[]⟩ [] [], metsT O.mets, .node 3 0 O.name [] [], N, .node 3 0 O.target [] []]
noncomputable def midT (O : Ord) : RT := midB O (savedT O)

/-- Another notes at a middle shape's Key. -/
theorem midB_notes (O : Ord) (N M : RT) : setT (midB O N) ⟨#[110, 111, 116, 101, 115]⟩ M = midB O M := by
  rw [setT, if_pos (show (midB O N).isMap from ⟨rfl, rfl⟩)]
  rw [show (midB O N).keys = [⟨#[104, 105, 103, 104]⟩, ⟨#[107, 105, 110, 100]⟩, ⟨#[108, 111, 119]⟩, ⟨#[109, 101, 116, 114, 105, 99, 115]⟩, ⟨#[110, 97, 109, 101]⟩, ⟨#[110, 111, 116, 101, 115]⟩, ⟨#[116, 97, 114, 103, 101, 116]⟩] from rfl, show firstN [⟨#[104, 105, 103, 104]⟩, ⟨#[107, 105, 110, 100]⟩, ⟨#[108, 111, 119]⟩, ⟨#[109, 101, 116, 114, 105, 99, 115]⟩, ⟨#[110, 97, 109, 101]⟩, ⟨#[110, 111, 116, 101, 115]⟩, ⟨#[116, 97, 114, 103, 101, 116]⟩] ⟨#[110, 111, 116, 101, 115]⟩ = 5 by decide +kernel]
  rfl

/-- The full shape without a pace, of another kind. -/
theorem mid_sets (O : Ord) : setT (unT (fullT O) ⟨#[112, 97, 99, 101]⟩) ⟨#[107, 105, 110, 100]⟩ (.node 3 0 ⟨#[109, 105, 100, 100, 108, 101]⟩ [] []) = midB O (notesT O.notes) := by
  have e : unT (fullT O) ⟨#[112, 97, 99, 101]⟩ = .node 5 0 ⟨#[]⟩
      [⟨#[104, 105, 103, 104]⟩, ⟨#[107, 105, 110, 100]⟩, ⟨#[108, 111, 119]⟩, ⟨#[109, 101, 116, 114, 105, 99, 115]⟩, ⟨#[110, 97, 109, 101]⟩, ⟨#[110, 111, 116, 101, 115]⟩, ⟨#[116, 97, 114, 103, 101, 116]⟩]
      [.node 2 O.high ⟨#[]⟩ [] [], .node 3 0 ⟨#[102, 117, 108, 108]⟩ [] [], .node 2 O.low ⟨#[]⟩ [] [], metsT O.mets, .node 3 0 O.name [] [], notesT O.notes, .node 3 0 O.target [] []] := by
    simp [unT, unK, unD, unP, fullT, RT.k, RT.n, RT.s, RT.keys, RT.kids]
  rw [e, setT, if_pos (show RT.isMap _ from ⟨rfl, rfl⟩)]
  rw [RT.keys, show firstN [⟨#[104, 105, 103, 104]⟩, ⟨#[107, 105, 110, 100]⟩, ⟨#[108, 111, 119]⟩, ⟨#[109, 101, 116, 114, 105, 99, 115]⟩, ⟨#[110, 97, 109, 101]⟩, ⟨#[110, 111, 116, 101, 115]⟩, ⟨#[116, 97, 114, 103, 101, 116]⟩] ⟨#[107, 105, 110, 100]⟩ = 1 by decide +kernel]
  rfl

/-- The model's way: one Key behind the other. -/
theorem mid_sets2 (O : Ord) (N : RT) : setT (setT (headT ⟨#[109, 105, 100, 100, 108, 101]⟩ O) ⟨#[109, 101, 116, 114, 105, 99, 115]⟩ (metsT O.mets)) ⟨#[110, 111, 116, 101, 115]⟩ N = midB O N := by
  show (setT (setT (.node 5 0 ⟨#[]⟩ [⟨#[104, 105, 103, 104]⟩, ⟨#[107, 105, 110, 100]⟩, ⟨#[108, 111, 119]⟩, ⟨#[110, 97, 109, 101]⟩, ⟨#[116, 97, 114, 103, 101, 116]⟩] [.node 2 O.high ⟨#[]⟩ [] [], .node 3 0 ⟨#[109, 105, 100, 100, 108, 101]⟩ [] [], .node 2 O.low ⟨#[]⟩ [] [], .node 3 0 O.name [] [], .node 3 0 O.target [] []]) ⟨#[109, 101, 116, 114, 105, 99, 115]⟩ (metsT O.mets)) ⟨#[110, 111, 116, 101, 115]⟩ N) = _
  rw [setT_new (by rfl) (show firstN [⟨#[104, 105, 103, 104]⟩, ⟨#[107, 105, 110, 100]⟩, ⟨#[108, 111, 119]⟩, ⟨#[110, 97, 109, 101]⟩, ⟨#[116, 97, 114, 103, 101, 116]⟩] ⟨#[109, 101, 116, 114, 105, 99, 115]⟩ = 5 by decide +kernel) (show placeN [⟨#[104, 105, 103, 104]⟩, ⟨#[107, 105, 110, 100]⟩, ⟨#[108, 111, 119]⟩, ⟨#[110, 97, 109, 101]⟩, ⟨#[116, 97, 114, 103, 101, 116]⟩] ⟨#[109, 101, 116, 114, 105, 99, 115]⟩ = 3 by decide +kernel)]
  show (setT (.node 5 0 ⟨#[]⟩ [⟨#[104, 105, 103, 104]⟩, ⟨#[107, 105, 110, 100]⟩, ⟨#[108, 111, 119]⟩, ⟨#[109, 101, 116, 114, 105, 99, 115]⟩, ⟨#[110, 97, 109, 101]⟩, ⟨#[116, 97, 114, 103, 101, 116]⟩] [.node 2 O.high ⟨#[]⟩ [] [], .node 3 0 ⟨#[109, 105, 100, 100, 108, 101]⟩ [] [], .node 2 O.low ⟨#[]⟩ [] [], (metsT O.mets), .node 3 0 O.name [] [], .node 3 0 O.target [] []]) ⟨#[110, 111, 116, 101, 115]⟩ N) = _
  rw [setT_new (by rfl) (show firstN [⟨#[104, 105, 103, 104]⟩, ⟨#[107, 105, 110, 100]⟩, ⟨#[108, 111, 119]⟩, ⟨#[109, 101, 116, 114, 105, 99, 115]⟩, ⟨#[110, 97, 109, 101]⟩, ⟨#[116, 97, 114, 103, 101, 116]⟩] ⟨#[110, 111, 116, 101, 115]⟩ = 6 by decide +kernel) (show placeN [⟨#[104, 105, 103, 104]⟩, ⟨#[107, 105, 110, 100]⟩, ⟨#[108, 111, 119]⟩, ⟨#[109, 101, 116, 114, 105, 99, 115]⟩, ⟨#[110, 97, 109, 101]⟩, ⟨#[116, 97, 114, 103, 101, 116]⟩] ⟨#[110, 111, 116, 101, 115]⟩ = 5 by decide +kernel)]
  rfl

theorem bracT_size (T : RT) : (bracT T).size ≤ 400000 := by
  unfold bracT
  split
  · rename_i h
    obtain ⟨h1, h2⟩ := treeOk_out h
    have := brac_le T h2
    show T.brac.toArray.size ≤ _
    rw [List.size_toArray]
    omega
  · decide

theorem saved_sz {O : Ord} (h : O.okB = true) : (savedT O).sz ≤ 410000 := by
  have hn := (notes_sz h).2
  unfold savedT
  split
  · omega
  · have hb := bracT_size (pacT O.pace)
    have z := setT_sz (notesT O.notes) (.node 3 0 (bracT (pacT O.pace)) [] []) ⟨#[113, 117, 97, 121, 47, 112, 97, 99, 101]⟩
    have k : (⟨#[113, 117, 97, 121, 47, 112, 97, 99, 101]⟩ : ByteArray).size = 9 := rfl
    have e : (RT.node 3 0 (bracT (pacT O.pace)) [] []).sz = (bracT (pacT O.pace)).size := by simp [RT.sz, szAll, strSz]
    omega

theorem fullT_sz {O : Ord} (h : O.okB = true) (hp : O.pace.ok) (hg : ∀ m ∈ O.mets, m.ok) : (fullT O).sz ≤ 10000 := by
  have a := mets_sz h hg
  have b := notes_sz h
  have c := head_sz h ⟨#[102, 117, 108, 108]⟩ (by decide)
  have d := pacT_sz O.pace hp
  have e := full_sets O
  have z1 := setT_sz (headT ⟨#[102, 117, 108, 108]⟩ O) (metsT O.mets) ⟨#[109, 101, 116, 114, 105, 99, 115]⟩
  have z2 := setT_sz (setT (headT ⟨#[102, 117, 108, 108]⟩ O) ⟨#[109, 101, 116, 114, 105, 99, 115]⟩ (metsT O.mets)) (pacT O.pace) ⟨#[112, 97, 99, 101]⟩
  have z3 := setT_sz (setT (setT (headT ⟨#[102, 117, 108, 108]⟩ O) ⟨#[109, 101, 116, 114, 105, 99, 115]⟩ (metsT O.mets)) ⟨#[112, 97, 99, 101]⟩ (pacT O.pace)) (notesT O.notes) ⟨#[110, 111, 116, 101, 115]⟩
  have k1 : (⟨#[109, 101, 116, 114, 105, 99, 115]⟩ : ByteArray).size = 7 := rfl
  have k2 : (⟨#[112, 97, 99, 101]⟩ : ByteArray).size = 4 := rfl
  have k3 : (⟨#[110, 111, 116, 101, 115]⟩ : ByteArray).size = 5 := rfl
  rw [e] at z3
  omega

theorem midB_sz {O : Ord} (h : O.okB = true) (hg : ∀ m ∈ O.mets, m.ok) (N : RT) : (midB O N).sz ≤ 10000 + N.sz := by
  have a := mets_sz h hg
  have c := head_sz h ⟨#[109, 105, 100, 100, 108, 101]⟩ (by decide)
  have e := mid_sets2 O N
  have z1 := setT_sz (headT ⟨#[109, 105, 100, 100, 108, 101]⟩ O) (metsT O.mets) ⟨#[109, 101, 116, 114, 105, 99, 115]⟩
  have z2 := setT_sz (setT (headT ⟨#[109, 105, 100, 100, 108, 101]⟩ O) ⟨#[109, 101, 116, 114, 105, 99, 115]⟩ (metsT O.mets)) N ⟨#[110, 111, 116, 101, 115]⟩
  have k1 : (⟨#[109, 101, 116, 114, 105, 99, 115]⟩ : ByteArray).size = 7 := rfl
  have k3 : (⟨#[110, 111, 116, 101, 115]⟩ : ByteArray).size = 5 := rfl
  rw [e] at z2
  omega
/-- Where the notes stand in the middle shape. -/
theorem mid_first (O : Ord) (N : RT) : FirstAt (midB O N).keys ⟨#[110, 111, 116, 101, 115]⟩ 5 := by
  have hne : ∀ {a b : List UInt8}, a ≠ b → ¬ (⟨a.toArray⟩ : ByteArray) = ⟨b.toArray⟩ := fun h e => h (by have := congrArg (fun x => x.data.toList) e; simpa using this)
  refine ⟨by show 5 < 7; decide, rfl, fun j hj => ?_⟩
  match j, hj with
  | 0, _ => exact hne (a := [104, 105, 103, 104]) (b := [110, 111, 116, 101, 115]) (by decide)
  | 1, _ => exact hne (a := [107, 105, 110, 100]) (b := [110, 111, 116, 101, 115]) (by decide)
  | 2, _ => exact hne (a := [108, 111, 119]) (b := [110, 111, 116, 101, 115]) (by decide)
  | 3, _ => exact hne (a := [109, 101, 116, 114, 105, 99, 115]) (b := [110, 111, 116, 101, 115]) (by decide)
  | 4, _ => exact hne (a := [110, 97, 109, 101]) (b := [110, 111, 116, 101, 115]) (by decide)
end Go.Proofs.YtfmkhogpnnobeaaGreatDoor

/- two paces held against each other are told to be the same where they are. -/
namespace Go.Proofs.YtfmkhogpnnobeaaGreatDoor
open Go Go.RowKit

set_option maxHeartbeats 1000000 in
theorem eql_pac (x y : Pac) (w : World) : (binOp .eql 35 (.agg #[.int .i64 x.up, .int .i64 x.down, .int .i64 x.ups, .int .i64 x.downs]) (.agg #[.int .i64 y.up, .int .i64 y.down, .int .i64 y.ups, .int .i64 y.downs])).run Tryz.prog w = .ok (.bool (sameO x y)) w := by
  have u3 := Tryz.underlying3
  have a3 := Tryz.isAgg3
  have z3 := Tryz.sizeOf3
  have hS : Tryz.prog.underlying 35 = some (.struct (Tryz.prog.fieldsOf 35)) := by kernel_rfl
  have hp : Tryz.prog.stoodInHeld 35 = false := by kernel_rfl
  rw [run_eql_struct, show (10000 : Nat) = 9999 + 1 from rfl, run_equalIn_agg w 9999 35 _ _ hS hp]
  simp only [Program.fieldsOf, Tryz.underlying35]
  go_simp
  by_cases h : x = y
  · rw [sameO_yes h]; subst h; simp
  · rw [sameO_no h]
    by_cases h0 : x.up = y.up
    case neg => simp [h0]
    by_cases h1 : x.down = y.down
    case neg => simp [h1, h0]
    by_cases h2 : x.ups = y.ups
    case neg => simp [h2, h0, h1]
    by_cases h3 : x.downs = y.downs
    case neg => simp [h3, h0, h1, h2]
    exact absurd (by cases x; cases y; simp_all) h
end Go.Proofs.YtfmkhogpnnobeaaGreatDoor

/- the model's l8Saved and MidTree of an order that is right: its trees, in memory of their own; no condition. -/
namespace Go.Proofs.YtfmkhogpnnobeaaGreatDoor
open Go Go.RowKit

/-- A tree that a function laid itself, as what it answers. -/
theorem kid_fin {w W : World} {a : Obj} {zs : Array Value} {T : RT} {kr dr : Value} {G : List Nat} {lo hi : Nat} (_ : Two w W a (.cells zs 32)) (hl : KidAt W T kr dr G lo hi) (hlo : w.heap.size + 2 ≤ lo) : Lies W T kr dr G ∧ Fresh w W G ∧ ∀ x ∈ G, w.heap.size + 2 ≤ x :=
  ⟨hl.lie, ⟨hl.nodup, fun x hx => by have := hl.span x hx; omega, hl.free⟩, fun x hx => by have := hl.span x hx; omega⟩

set_option maxRecDepth 100000 in
set_option maxHeartbeats 8000000 in
theorem spec_l8Saved {O : Ord} {mv nv : Value} {FM FN : List Nat} (w : World) (ho : OrdAt w O mv nv FM FN) (hc : O.okB = true) :
    Calls Tryz.prog 25 #[.agg #[.string O.name, .string O.target, .int .i64 O.low, .int .i64 O.high, mv, .int .i64 O.pace.up, .int .i64 O.pace.down, .int .i64 O.pace.ups, .int .i64 O.pace.downs, nv]] w fun e w' => ∃ kv dv F, e = .returned (.agg #[.int .i64 (savedT O).k, .int .i64 (savedT O).n, .string (savedT O).s, kv, dv]) ∧ Lies w' (savedT O) kv dv F ∧ Fresh w w' F ∧ Below w.heap.size w w' := by
  obtain ⟨-, -, -, hs1, hs2, hs3⟩ := okB_out hc
  have hnz := notes_sz hc
  have hpz := pacT_sz O.pace ho.pace
  have hbz := bracT_size (pacT O.pace)
  have HNs : Hid (∀ wr, Below w.heap.size w wr → Calls Tryz.prog 61 #[nv] wr fun e w' => ∃ kv dv G, e = .returned (.agg #[.int .i64 (notesT O.notes).k, .int .i64 (notesT O.notes).n, .string (notesT O.notes).s, kv, dv]) ∧ Lies w' (notesT O.notes) kv dv G ∧ Fresh wr w' G ∧ Below wr.heap.size wr w') := fun wr hb => spec_l7Notes wr (RowAt.stay ho.notes (by decide) hb (Nat.le_refl _)) (by omega) hs3 (by omega)
  have HPs : Hid (∀ W, Calls Tryz.prog 63 #[.agg #[.int .i64 O.pace.up, .int .i64 O.pace.down, .int .i64 O.pace.ups, .int .i64 O.pace.downs]] W fun e w' => ∃ kv dv F, e = .returned (.agg #[.int .i64 5, .int .i64 0, .string ⟨#[]⟩, kv, dv]) ∧ Lies w' (pacT O.pace) kv dv F ∧ Fresh W w' F ∧ Below W.heap.size W w') := fun W => spec_paceTree _ _ _ _ ho.pace.1 ho.pace.2.1 ho.pace.2.2.1 ho.pace.2.2.2 W
  have HBr : Hid (∀ W kv dv F, Lies W (pacT O.pace) kv dv F → Calls Tryz.prog 46 #[.agg #[.int .i64 5, .int .i64 0, .string ⟨#[]⟩, kv, dv]] W fun e w' => e = .returned (.string (bracT (pacT O.pace))) ∧ Below W.heap.size W w') := fun W kv dv F hl => spec_braced (pacT O.pace) W kv dv F hl (by omega)
  have hLeaf : ∀ W : World, Lies W (.node 3 0 (bracT (pacT O.pace)) [] []) (.slice none 0 0) (.slice none 0 0) [] := fun W => leaf_lies W ⟨by decide, by decide⟩ ⟨by decide, by decide⟩ (by unfold maxLen; omega)
  have HLeaf := Lib.hid hLeaf
  have hXz : (RT.node 3 0 (bracT (pacT O.pace)) [] []).sz ≤ 4000000 := by simp [RT.sz, szAll, strSz]; omega
  have hE : ∀ W, (binOp .neq 35 (.agg #[.int .i64 O.pace.up, .int .i64 O.pace.down, .int .i64 O.pace.ups, .int .i64 O.pace.downs]) (.agg #[.int .i64 0, .int .i64 0, .int .i64 0, .int .i64 300])).run Tryz.prog W = .ok (.bool (!sameO O.pace newP)) W := fun W => neq_pac O.pace newP W
  have HS1 : Hid (∀ X kv dv G kx dx G', Lies X (notesT O.notes) kv dv G → Lies X (.node 3 0 (bracT (pacT O.pace)) [] []) kx dx G' → Calls Tryz.prog 22 #[.agg #[.int .i64 (notesT O.notes).k, .int .i64 (notesT O.notes).n, .string (notesT O.notes).s, kv, dv], .string ⟨#[113, 117, 97, 121, 47, 112, 97, 99, 101]⟩, .agg #[.int .i64 3, .int .i64 0, .string (bracT (pacT O.pace)), kx, dx]] X fun e w' => ∃ kr dr F, e = .returned (.agg #[.int .i64 (setT (notesT O.notes) ⟨#[113, 117, 97, 121, 47, 112, 97, 99, 101]⟩ (.node 3 0 (bracT (pacT O.pace)) [] [])).k, .int .i64 (setT (notesT O.notes) ⟨#[113, 117, 97, 121, 47, 112, 97, 99, 101]⟩ (.node 3 0 (bracT (pacT O.pace)) [] [])).n, .string (setT (notesT O.notes) ⟨#[113, 117, 97, 121, 47, 112, 97, 99, 101]⟩ (.node 3 0 (bracT (pacT O.pace)) [] [])).s, kr, dr]) ∧ Lies w' (setT (notesT O.notes) ⟨#[113, 117, 97, 121, 47, 112, 97, 99, 101]⟩ (.node 3 0 (bracT (pacT O.pace)) [] [])) kr dr F ∧ Fresh X w' F ∧ Below X.heap.size X w') := fun X kv dv G kx dx G' hl hx => spec_set (notesT O.notes) (.node 3 0 (bracT (pacT O.pace)) [] []) ⟨#[113, 117, 97, 121, 47, 112, 97, 99, 101]⟩ X kv dv kx dx G G' hl hx (by omega) hXz (by decide)
  obtain ⟨⟨om, cm, rfl⟩, on_, cn, rfl⟩ := ho.slices
  clear ho hs1 hs2 hs3 hbz hpz hnz hLeaf hXz
  have H2 := Lib.hid (Two.start w (.cells #[.string O.name, .string O.target, .int .i64 O.low, .int .i64 O.high, .slice om O.mets.length cm, .int .i64 O.pace.up, .int .i64 O.pace.down, .int .i64 O.pace.ups, .int .i64 O.pace.downs, .slice on_ O.notes.length cn] 38) (.cells #[.int .i64 0, .int .i64 0, .string ⟨#[]⟩, .slice none 0 0, .slice none 0 0] 32))
  by_cases hnew : sameO O.pace newP = true
  · have hR : savedT O = notesT O.notes := if_pos hnew
    rw [hR]
    rw [hnew] at hE
    simp only [Bool.not_true] at hE
    clear HS1 HBr HPs hnew hR
    generalize notesT O.notes = T at *
    go_enter Tryz.func25, Tryz.ntmps25
    go_wp2_with (first
      | (go_at_call 61; refine (HNs.out _ H2.out.below).mono ?_; rintro e w' ⟨kn, dn, GN, rfl, hl, hf, hb⟩; obtain ⟨⟨a1, b1, rfl⟩, ⟨a2, b2, rfl⟩⟩ := hl.slices; have HT1 := Lib.hid (kid_at0 H2.out hl hf rfl); have HLo := Lib.hid H2.out.size; clear hl hf; replace H2 := Lib.hid (H2.out.next hb); clear hb)
      | fail)
    have HZ : Hid (One w (w'.alloc (.cells #[.int .i64 T.k, .int .i64 T.n, .string T.s, .slice a1 T.keys.length b1, .slice a2 T.kids.length b2] 32)) w'.heap.size (.cells #[.int .i64 T.k, .int .i64 T.n, .string T.s, .slice a1 T.keys.length b1, .slice a2 T.kids.length b2] 32)) := ⟨heap_last w' _, H2.out.size⟩
    replace HT1 := Lib.hid (HT1.out.next ((Below.refl _ w').alloc (Nat.le_refl _) (.cells #[.int .i64 T.k, .int .i64 T.n, .string T.s, .slice a1 T.keys.length b1, .slice a2 T.kids.length b2] 32)))
    replace H2 := Lib.hid (H2.out.next ((Below.refl _ w').alloc (Nat.le_refl _) (.cells #[.int .i64 T.k, .int .i64 T.n, .string T.s, .slice a1 T.keys.length b1, .slice a2 T.kids.length b2] 32)))
    generalize w'.alloc (.cells #[.int .i64 T.k, .int .i64 T.n, .string T.s, .slice a1 T.keys.length b1, .slice a2 T.kids.length b2] 32) = wc at *
    generalize w'.heap.size = bt at *
    have HSz : Hid (w.heap.size + 2 ≤ wc.heap.size) := H2.out.size
    have hn3 := one_ne HZ.out
    have hn4 := one_ne' HZ.out
    have hn5 : ¬ w.heap.size + 1 = bt := by have := HZ.out.old; omega
    have hn6 : ¬ bt = w.heap.size + 1 := by have := HZ.out.old; omega
    have x0 := cell_of H2.out.arg 0
    have x1 := cell_of H2.out.arg 1
    have x2 := cell_of H2.out.arg 2
    have x3 := cell_of H2.out.arg 3
    have x4 := cell_of H2.out.arg 4
    have x5 := cell_of H2.out.arg 5
    have x6 := cell_of H2.out.arg 6
    have x7 := cell_of H2.out.arg 7
    have x8 := cell_of H2.out.arg 8
    have x9 := cell_of H2.out.arg 9
    simp only [List.getElem?_toArray, List.getElem?_cons_zero, List.getElem?_cons_succ] at x0 x1 x2 x3 x4 x5 x6 x7 x8 x9
    obtain ⟨r0, r1, r2, r3, r4, r5⟩ := five HZ.out.at_
    go_region_held3 (fun w' => w'.cell? ⟨w.heap.size, 0, none⟩ = some (.string O.name) ∧ w'.cell? ⟨w.heap.size, 1, none⟩ = some (.string O.target) ∧ w'.cell? ⟨w.heap.size, 2, none⟩ = some (.int .i64 O.low) ∧ w'.cell? ⟨w.heap.size, 3, none⟩ = some (.int .i64 O.high) ∧ w'.cell? ⟨w.heap.size, 4, none⟩ = some (.slice om O.mets.length cm) ∧ w'.cell? ⟨w.heap.size, 5, none⟩ = some (.int .i64 O.pace.up) ∧ w'.cell? ⟨w.heap.size, 6, none⟩ = some (.int .i64 O.pace.down) ∧ w'.cell? ⟨w.heap.size, 7, none⟩ = some (.int .i64 O.pace.ups) ∧ w'.cell? ⟨w.heap.size, 8, none⟩ = some (.int .i64 O.pace.downs) ∧ w'.cell? ⟨w.heap.size, 9, none⟩ = some (.slice on_ O.notes.length cn)) (go_keep)
      (first
        | (go_at_call 62; refine (spec_paceNew _).mono ?_; rintro e w' ⟨rfl, hb⟩; (first | (have hq := stepA H2.out hb; have hw := hq.2; replace H2 := Lib.hid hq.1; replace HSz := Lib.hid (And.intro HSz.out hw.size); clear hq) | (have hq := stepB H2.out hb; have hw := hq.2; replace H2 := Lib.hid hq.1; replace HSz := Lib.hid (And.intro HSz.out hw.size); clear hq) | (have hq := stepC H2.out hb (by simp); have hw := hq.2.1; have HZ := Lib.hid hq.2.2.1; replace H2 := Lib.hid hq.1; replace HSz := Lib.hid (And.intro HSz.out hq.2.2.2); clear hq) | (have hq := stepD H2.out hb; have hw := hq.2.1; have HZ := Lib.hid hq.2.2.1; replace H2 := Lib.hid hq.1; replace HSz := Lib.hid (And.intro HSz.out hq.2.2.2); clear hq)); (try replace HZ := Lib.hid (HZ.out.next hw)); (try replace HT1 := Lib.hid (HT1.out.next hw)); (try replace HPt := Lib.hid (HPt.out.next hw)); (try replace HTx := Lib.hid (HTx.out.next hw)); clear hw hb; clear x0 x1 x2 x3 x4 x5 x6 x7 x8 x9; have x0 := cell_of H2.out.arg 0; have x1 := cell_of H2.out.arg 1; have x2 := cell_of H2.out.arg 2; have x3 := cell_of H2.out.arg 3; have x4 := cell_of H2.out.arg 4; have x5 := cell_of H2.out.arg 5; have x6 := cell_of H2.out.arg 6; have x7 := cell_of H2.out.arg 7; have x8 := cell_of H2.out.arg 8; have x9 := cell_of H2.out.arg 9; simp only [List.getElem?_toArray, List.getElem?_cons_zero, List.getElem?_cons_succ] at x0 x1 x2 x3 x4 x5 x6 x7 x8 x9; clear r0 r1 r2 r3 r4 r5; obtain ⟨r0, r1, r2, r3, r4, r5⟩ := five HZ.out.at_))
    all_goals
      obtain ⟨s0, s1, s2, s3, s4, s5⟩ := five H2.out.res
      have HL := Lib.hid (kid_fin H2.out HT1.out HLo.out)
      go_wp2
      have HF := res_fin H2.out HL.out
      exact bodyPost_ret (ret_node Tryz.results25 rfl HF.1) rfl ⟨_, _, _, rfl, HF.2.1, HF.2.2.1, HF.2.2.2⟩
  · have hR : savedT O = setT (notesT O.notes) ⟨#[113, 117, 97, 121, 47, 112, 97, 99, 101]⟩ (.node 3 0 (bracT (pacT O.pace)) [] []) := if_neg hnew
    have hnew' : sameO O.pace newP = false := by simpa using hnew
    rw [hR]
    rw [hnew'] at hE
    simp only [Bool.not_false] at hE
    clear hnew hR hnew'
    generalize setT (notesT O.notes) ⟨#[113, 117, 97, 121, 47, 112, 97, 99, 101]⟩ (.node 3 0 (bracT (pacT O.pace)) [] []) = R at *
    generalize notesT O.notes = T at *
    generalize bracT (pacT O.pace) = BT at *
    go_enter Tryz.func25, Tryz.ntmps25
    go_wp2_with (first
      | (go_at_call 61; refine (HNs.out _ H2.out.below).mono ?_; rintro e w' ⟨kn, dn, GN, rfl, hl, hf, hb⟩; obtain ⟨⟨a1, b1, rfl⟩, ⟨a2, b2, rfl⟩⟩ := hl.slices; have HT1 := Lib.hid (kid_at0 H2.out hl hf rfl); have HLo := Lib.hid H2.out.size; clear hl hf; replace H2 := Lib.hid (H2.out.next hb); clear hb)
      | fail)
    have HZ : Hid (One w (w'.alloc (.cells #[.int .i64 T.k, .int .i64 T.n, .string T.s, .slice a1 T.keys.length b1, .slice a2 T.kids.length b2] 32)) w'.heap.size (.cells #[.int .i64 T.k, .int .i64 T.n, .string T.s, .slice a1 T.keys.length b1, .slice a2 T.kids.length b2] 32)) := ⟨heap_last w' _, H2.out.size⟩
    replace HT1 := Lib.hid (HT1.out.next ((Below.refl _ w').alloc (Nat.le_refl _) (.cells #[.int .i64 T.k, .int .i64 T.n, .string T.s, .slice a1 T.keys.length b1, .slice a2 T.kids.length b2] 32)))
    replace H2 := Lib.hid (H2.out.next ((Below.refl _ w').alloc (Nat.le_refl _) (.cells #[.int .i64 T.k, .int .i64 T.n, .string T.s, .slice a1 T.keys.length b1, .slice a2 T.kids.length b2] 32)))
    generalize w'.alloc (.cells #[.int .i64 T.k, .int .i64 T.n, .string T.s, .slice a1 T.keys.length b1, .slice a2 T.kids.length b2] 32) = wc at *
    generalize w'.heap.size = bt at *
    have HSz : Hid (w.heap.size + 2 ≤ wc.heap.size) := H2.out.size
    have hn3 := one_ne HZ.out
    have hn4 := one_ne' HZ.out
    have hn5 : ¬ w.heap.size + 1 = bt := by have := HZ.out.old; omega
    have hn6 : ¬ bt = w.heap.size + 1 := by have := HZ.out.old; omega
    have x0 := cell_of H2.out.arg 0
    have x1 := cell_of H2.out.arg 1
    have x2 := cell_of H2.out.arg 2
    have x3 := cell_of H2.out.arg 3
    have x4 := cell_of H2.out.arg 4
    have x5 := cell_of H2.out.arg 5
    have x6 := cell_of H2.out.arg 6
    have x7 := cell_of H2.out.arg 7
    have x8 := cell_of H2.out.arg 8
    have x9 := cell_of H2.out.arg 9
    simp only [List.getElem?_toArray, List.getElem?_cons_zero, List.getElem?_cons_succ] at x0 x1 x2 x3 x4 x5 x6 x7 x8 x9
    obtain ⟨r0, r1, r2, r3, r4, r5⟩ := five HZ.out.at_
    go_region_held3 (fun w' => w'.cell? ⟨w.heap.size, 0, none⟩ = some (.string O.name) ∧ w'.cell? ⟨w.heap.size, 1, none⟩ = some (.string O.target) ∧ w'.cell? ⟨w.heap.size, 2, none⟩ = some (.int .i64 O.low) ∧ w'.cell? ⟨w.heap.size, 3, none⟩ = some (.int .i64 O.high) ∧ w'.cell? ⟨w.heap.size, 4, none⟩ = some (.slice om O.mets.length cm) ∧ w'.cell? ⟨w.heap.size, 5, none⟩ = some (.int .i64 O.pace.up) ∧ w'.cell? ⟨w.heap.size, 6, none⟩ = some (.int .i64 O.pace.down) ∧ w'.cell? ⟨w.heap.size, 7, none⟩ = some (.int .i64 O.pace.ups) ∧ w'.cell? ⟨w.heap.size, 8, none⟩ = some (.int .i64 O.pace.downs) ∧ w'.cell? ⟨w.heap.size, 9, none⟩ = some (.slice on_ O.notes.length cn)) (go_keep)
      (first
        | (go_at_call 62; refine (spec_paceNew _).mono ?_; rintro e w' ⟨rfl, hb⟩; (first | (have hq := stepA H2.out hb; have hw := hq.2; replace H2 := Lib.hid hq.1; replace HSz := Lib.hid (And.intro HSz.out hw.size); clear hq) | (have hq := stepB H2.out hb; have hw := hq.2; replace H2 := Lib.hid hq.1; replace HSz := Lib.hid (And.intro HSz.out hw.size); clear hq) | (have hq := stepC H2.out hb (by simp); have hw := hq.2.1; have HZ := Lib.hid hq.2.2.1; replace H2 := Lib.hid hq.1; replace HSz := Lib.hid (And.intro HSz.out hq.2.2.2); clear hq) | (have hq := stepD H2.out hb; have hw := hq.2.1; have HZ := Lib.hid hq.2.2.1; replace H2 := Lib.hid hq.1; replace HSz := Lib.hid (And.intro HSz.out hq.2.2.2); clear hq)); (try replace HZ := Lib.hid (HZ.out.next hw)); (try replace HT1 := Lib.hid (HT1.out.next hw)); (try replace HPt := Lib.hid (HPt.out.next hw)); (try replace HTx := Lib.hid (HTx.out.next hw)); clear hw hb; clear x0 x1 x2 x3 x4 x5 x6 x7 x8 x9; have x0 := cell_of H2.out.arg 0; have x1 := cell_of H2.out.arg 1; have x2 := cell_of H2.out.arg 2; have x3 := cell_of H2.out.arg 3; have x4 := cell_of H2.out.arg 4; have x5 := cell_of H2.out.arg 5; have x6 := cell_of H2.out.arg 6; have x7 := cell_of H2.out.arg 7; have x8 := cell_of H2.out.arg 8; have x9 := cell_of H2.out.arg 9; simp only [List.getElem?_toArray, List.getElem?_cons_zero, List.getElem?_cons_succ] at x0 x1 x2 x3 x4 x5 x6 x7 x8 x9; clear r0 r1 r2 r3 r4 r5; obtain ⟨r0, r1, r2, r3, r4, r5⟩ := five HZ.out.at_))
    all_goals
      go_wp2_with fail
      go_region_held3 (fun w' => w'.cell? ⟨w.heap.size, 0, none⟩ = some (.string O.name) ∧ w'.cell? ⟨w.heap.size, 1, none⟩ = some (.string O.target) ∧ w'.cell? ⟨w.heap.size, 2, none⟩ = some (.int .i64 O.low) ∧ w'.cell? ⟨w.heap.size, 3, none⟩ = some (.int .i64 O.high) ∧ w'.cell? ⟨w.heap.size, 4, none⟩ = some (.slice om O.mets.length cm) ∧ w'.cell? ⟨w.heap.size, 5, none⟩ = some (.int .i64 O.pace.up) ∧ w'.cell? ⟨w.heap.size, 6, none⟩ = some (.int .i64 O.pace.down) ∧ w'.cell? ⟨w.heap.size, 7, none⟩ = some (.int .i64 O.pace.ups) ∧ w'.cell? ⟨w.heap.size, 8, none⟩ = some (.int .i64 O.pace.downs) ∧ w'.cell? ⟨w.heap.size, 9, none⟩ = some (.slice on_ O.notes.length cn) ∧ w'.cell? ⟨bt, 0, none⟩ = some (.int .i64 T.k) ∧ w'.cell? ⟨bt, 1, none⟩ = some (.int .i64 T.n) ∧ w'.cell? ⟨bt, 2, none⟩ = some (.string T.s) ∧ w'.cell? ⟨bt, 3, none⟩ = some (.slice a1 T.keys.length b1) ∧ w'.cell? ⟨bt, 4, none⟩ = some (.slice a2 T.kids.length b2)) (go_keep)
        (first
          | (go_at_call 63; refine (HPs.out _).mono ?_; rintro e w' ⟨kp, dp, GP, rfl, hl, hf, hb⟩; obtain ⟨⟨c1, d1, rfl⟩, ⟨c2, d2, rfl⟩⟩ := hl.slices; (first | (have HPt := Lib.hid (kid_at0 H2.out hl hf rfl)) | (have HPt := Lib.hid (kid_at1 H2.out hl hf (by simp))) | (have HPt := Lib.hid (kid_at1 H2.out hl hf (by simp [World.drew])))); clear hl hf; (first | (have hq := stepA H2.out hb; have hw := hq.2; replace H2 := Lib.hid hq.1; replace HSz := Lib.hid (And.intro HSz.out hw.size); clear hq) | (have hq := stepB H2.out hb; have hw := hq.2; replace H2 := Lib.hid hq.1; replace HSz := Lib.hid (And.intro HSz.out hw.size); clear hq) | (have hq := stepC H2.out hb (by simp); have hw := hq.2.1; have HZ := Lib.hid hq.2.2.1; replace H2 := Lib.hid hq.1; replace HSz := Lib.hid (And.intro HSz.out hq.2.2.2); clear hq) | (have hq := stepD H2.out hb; have hw := hq.2.1; have HZ := Lib.hid hq.2.2.1; replace H2 := Lib.hid hq.1; replace HSz := Lib.hid (And.intro HSz.out hq.2.2.2); clear hq)); (try replace HZ := Lib.hid (HZ.out.next hw)); (try replace HT1 := Lib.hid (HT1.out.next hw)); (try replace HPt := Lib.hid (HPt.out.next hw)); (try replace HTx := Lib.hid (HTx.out.next hw)); clear hw hb; clear x0 x1 x2 x3 x4 x5 x6 x7 x8 x9; have x0 := cell_of H2.out.arg 0; have x1 := cell_of H2.out.arg 1; have x2 := cell_of H2.out.arg 2; have x3 := cell_of H2.out.arg 3; have x4 := cell_of H2.out.arg 4; have x5 := cell_of H2.out.arg 5; have x6 := cell_of H2.out.arg 6; have x7 := cell_of H2.out.arg 7; have x8 := cell_of H2.out.arg 8; have x9 := cell_of H2.out.arg 9; simp only [List.getElem?_toArray, List.getElem?_cons_zero, List.getElem?_cons_succ] at x0 x1 x2 x3 x4 x5 x6 x7 x8 x9; clear r0 r1 r2 r3 r4 r5; obtain ⟨r0, r1, r2, r3, r4, r5⟩ := five HZ.out.at_)
          | (go_at_call 46; refine (HBr.out _ _ _ _ (by first | exact HPt.out.lie | exact HPt.out.lie.stay (below_drew1 _) (Nat.le_refl _) | exact HPt.out.lie.stay ((Below.refl _ _).alloc (Nat.le_refl _) _) (Nat.le_refl _) | exact HPt.out.lie.stay (below_lit _ _) (Nat.le_refl _))).mono ?_; rintro e w' ⟨rfl, hb⟩; (first | (have hq := stepA H2.out hb; have hw := hq.2; replace H2 := Lib.hid hq.1; replace HSz := Lib.hid (And.intro HSz.out hw.size); clear hq) | (have hq := stepB H2.out hb; have hw := hq.2; replace H2 := Lib.hid hq.1; replace HSz := Lib.hid (And.intro HSz.out hw.size); clear hq) | (have hq := stepC H2.out hb (by simp); have hw := hq.2.1; have HZ := Lib.hid hq.2.2.1; replace H2 := Lib.hid hq.1; replace HSz := Lib.hid (And.intro HSz.out hq.2.2.2); clear hq) | (have hq := stepD H2.out hb; have hw := hq.2.1; have HZ := Lib.hid hq.2.2.1; replace H2 := Lib.hid hq.1; replace HSz := Lib.hid (And.intro HSz.out hq.2.2.2); clear hq)); (try replace HZ := Lib.hid (HZ.out.next hw)); (try replace HT1 := Lib.hid (HT1.out.next hw)); (try replace HPt := Lib.hid (HPt.out.next hw)); (try replace HTx := Lib.hid (HTx.out.next hw)); clear hw hb; clear x0 x1 x2 x3 x4 x5 x6 x7 x8 x9; have x0 := cell_of H2.out.arg 0; have x1 := cell_of H2.out.arg 1; have x2 := cell_of H2.out.arg 2; have x3 := cell_of H2.out.arg 3; have x4 := cell_of H2.out.arg 4; have x5 := cell_of H2.out.arg 5; have x6 := cell_of H2.out.arg 6; have x7 := cell_of H2.out.arg 7; have x8 := cell_of H2.out.arg 8; have x9 := cell_of H2.out.arg 9; simp only [List.getElem?_toArray, List.getElem?_cons_zero, List.getElem?_cons_succ] at x0 x1 x2 x3 x4 x5 x6 x7 x8 x9; clear r0 r1 r2 r3 r4 r5; obtain ⟨r0, r1, r2, r3, r4, r5⟩ := five HZ.out.at_)
          | (go_at_call 45; refine (spec_textOf _ _).mono ?_; rintro e w' ⟨rfl, hb⟩; (first | (have hq := stepA H2.out hb; have hw := hq.2; replace H2 := Lib.hid hq.1; replace HSz := Lib.hid (And.intro HSz.out hw.size); clear hq) | (have hq := stepB H2.out hb; have hw := hq.2; replace H2 := Lib.hid hq.1; replace HSz := Lib.hid (And.intro HSz.out hw.size); clear hq) | (have hq := stepC H2.out hb (by simp); have hw := hq.2.1; have HZ := Lib.hid hq.2.2.1; replace H2 := Lib.hid hq.1; replace HSz := Lib.hid (And.intro HSz.out hq.2.2.2); clear hq) | (have hq := stepD H2.out hb; have hw := hq.2.1; have HZ := Lib.hid hq.2.2.1; replace H2 := Lib.hid hq.1; replace HSz := Lib.hid (And.intro HSz.out hq.2.2.2); clear hq)); (try replace HZ := Lib.hid (HZ.out.next hw)); (try replace HT1 := Lib.hid (HT1.out.next hw)); (try replace HPt := Lib.hid (HPt.out.next hw)); (try replace HTx := Lib.hid (HTx.out.next hw)); clear hw hb; clear x0 x1 x2 x3 x4 x5 x6 x7 x8 x9; have x0 := cell_of H2.out.arg 0; have x1 := cell_of H2.out.arg 1; have x2 := cell_of H2.out.arg 2; have x3 := cell_of H2.out.arg 3; have x4 := cell_of H2.out.arg 4; have x5 := cell_of H2.out.arg 5; have x6 := cell_of H2.out.arg 6; have x7 := cell_of H2.out.arg 7; have x8 := cell_of H2.out.arg 8; have x9 := cell_of H2.out.arg 9; simp only [List.getElem?_toArray, List.getElem?_cons_zero, List.getElem?_cons_succ] at x0 x1 x2 x3 x4 x5 x6 x7 x8 x9; clear r0 r1 r2 r3 r4 r5; obtain ⟨r0, r1, r2, r3, r4, r5⟩ := five HZ.out.at_)
          | (go_at_call 22; refine (HS1.out _ _ _ _ _ _ _ (by first | exact HT1.out.lie | exact HT1.out.lie.stay (below_drew1 _) (Nat.le_refl _) | exact HT1.out.lie.stay ((Below.refl _ _).alloc (Nat.le_refl _) _) (Nat.le_refl _) | exact HT1.out.lie.stay (below_lit _ _) (Nat.le_refl _)) (HLeaf.out _)).mono ?_; rintro e w' ⟨k6, d6, G6, rfl, hl, hf, hb⟩; obtain ⟨⟨a7, b7, rfl⟩, ⟨a8, b8, rfl⟩⟩ := hl.slices; have HL := Lib.hid (res_keep H2.out hl hf (Nat.le_refl _)); clear hl hf; (first | (have hq := stepA H2.out hb; have hw := hq.2; replace H2 := Lib.hid hq.1; replace HSz := Lib.hid (And.intro HSz.out hw.size); clear hq) | (have hq := stepB H2.out hb; have hw := hq.2; replace H2 := Lib.hid hq.1; replace HSz := Lib.hid (And.intro HSz.out hw.size); clear hq) | (have hq := stepC H2.out hb (by simp); have hw := hq.2.1; have HZ := Lib.hid hq.2.2.1; replace H2 := Lib.hid hq.1; replace HSz := Lib.hid (And.intro HSz.out hq.2.2.2); clear hq) | (have hq := stepD H2.out hb; have hw := hq.2.1; have HZ := Lib.hid hq.2.2.1; replace H2 := Lib.hid hq.1; replace HSz := Lib.hid (And.intro HSz.out hq.2.2.2); clear hq)); (try replace HZ := Lib.hid (HZ.out.next hw)); (try replace HT1 := Lib.hid (HT1.out.next hw)); (try replace HPt := Lib.hid (HPt.out.next hw)); (try replace HTx := Lib.hid (HTx.out.next hw)); clear hw hb; clear x0 x1 x2 x3 x4 x5 x6 x7 x8 x9; have x0 := cell_of H2.out.arg 0; have x1 := cell_of H2.out.arg 1; have x2 := cell_of H2.out.arg 2; have x3 := cell_of H2.out.arg 3; have x4 := cell_of H2.out.arg 4; have x5 := cell_of H2.out.arg 5; have x6 := cell_of H2.out.arg 6; have x7 := cell_of H2.out.arg 7; have x8 := cell_of H2.out.arg 8; have x9 := cell_of H2.out.arg 9; simp only [List.getElem?_toArray, List.getElem?_cons_zero, List.getElem?_cons_succ] at x0 x1 x2 x3 x4 x5 x6 x7 x8 x9; clear r0 r1 r2 r3 r4 r5; obtain ⟨r0, r1, r2, r3, r4, r5⟩ := five HZ.out.at_; obtain ⟨s0, s1, s2, s3, s4, s5⟩ := five H2.out.res))
    all_goals
      have HF := res_fin H2.out HL.out
      go_wp2
      exact bodyPost_ret (ret_node Tryz.results25 rfl HF.1) rfl ⟨_, _, _, rfl, HF.2.1, HF.2.2.1, HF.2.2.2⟩
end Go.Proofs.YtfmkhogpnnobeaaGreatDoor

/- the program's Get of a map that has the Key answers what stands there, in memory of its own, and true; no condition. -/
namespace Go.Proofs.YtfmkhogpnnobeaaGreatDoor
open Go Go.RowKit

theorem ret_nodeB {fn : Func} {i j : Nat} (hres : fn.results = #[ResultVar.cell i 32, ResultVar.tmp j]) {tmps : Array Value} {w : World} {b : Nat} {t : TypeId} {a0 a1 a2 a3 a4 v : Value}
    (ht : tmps[i]?.getD undef = .pointer (some ⟨b, 0, none⟩)) (hv : tmps[j]?.getD undef = v) (h : w.heap[b]? = some (.cells #[a0, a1, a2, a3, a4] t (0, 0))) : (results fn tmps).run Tryz.prog w = .ok (.tuple #[.agg #[a0, a1, a2, a3, a4], v]) w := by
  obtain ⟨c0, c1, c2, c3, c4, -⟩ := five h
  simp [results, hres, ht, hv, go_sem, c0, c1, c2, c3, c4]

theorem first_unique {ks : List ByteArray} {key : ByteArray} {i j : Nat} (hi : FirstAt ks key i) (hj : FirstAt ks key j) : i = j := (first_of hi).symm.trans (first_of hj)
theorem first_absent {ks : List ByteArray} {key : ByteArray} {i : Nat} (hi : FirstAt ks key i) (h : Absent ks key) : False := by
  obtain ⟨h1, h2, -⟩ := hi
  exact h i h1 h2

set_option maxRecDepth 100000 in
set_option maxHeartbeats 1600000 in
theorem impl_kidAt_yes (T X : RT) (key : ByteArray) (i : Nat) (hm : T.isMap) (hi : FirstAt T.keys key i) (hX : T.kids[i]? = some X) (w : World) (kv dv : Value) (F : List Nat) (hl : Lies w T kv dv F) :
    Calls Tryz.prog 140 #[.agg #[.int .i64 T.k, .int .i64 T.n, .string T.s, kv, dv], .string key] w fun e w' => ∃ kv' dv' F', e = .returned (.tuple #[.agg #[.int .i64 X.k, .int .i64 X.n, .string X.s, kv', dv'], .bool true]) ∧ Lies w' X kv' dv' F' ∧ Below w.heap.size w w' := by
  cases T with
  | node k n s keys kids =>
    obtain ⟨hk, hn, hs, FK, FD, hK, hD, -⟩ := hl.outn
    clear hl
    have h5 : k = 5 := hm.1
    have hlen : keys.length = kids.length := hm.2
    subst h5
    replace hX : kids[i]? = some X := hX
    replace hi : FirstAt keys key i := hi
    obtain ⟨hik, rfl⟩ := List.getElem?_eq_some_iff.1 hX
    have HX := Lib.hid (CBox.start w 32 (.int .i64 5) (.int .i64 n) (.string s) kv dv)
    have HIx : Hid (∀ wr, Below w.heap.size w wr → Calls Tryz.prog 136 #[kv, .string key] wr fun e w' => e = .returned (.int .i64 i) ∧ w' = wr) := fun wr hb => by
      refine (slices_index wr (hK.stay hb (Nat.le_refl _)) key).mono ?_
      rintro e w' ⟨⟨j, hj, rfl⟩ | ⟨ha, rfl⟩, rfl⟩
      · rw [first_unique hi hj]; exact ⟨rfl, rfl⟩
      · exact (first_absent hi ha).elim
    obtain ⟨ko, kc, rfl⟩ := hK.slice
    have HDec : Hid ((decide ((5 : Int) = 5) && decide (keys.length = kids.length)) = true) := Lib.hid (by simp [hlen])
    obtain ⟨o2, q2, b, off, FF, KV, DV, rfl, hlc2, hcm2, ho2, -, hcell2, hlies2, -⟩ := hD
    have HC := Lib.hid (fun (wx : World) (hb : Below w.heap.size w wx) => kid_cells (hcell2 i hik) hb)
    have HLi := Lib.hid (hlies2 i hik)
    have ho2 := ho2 (by omega)
    subst ho2
    obtain ⟨⟨os1, qs1, es1⟩, ⟨os2, qs2, es2⟩⟩ := (hlies2 i hik).slices
    have hj0 : (0 : Int) ≤ (i : Int) := by omega
    have hj1 : (i : Int) < (kids.length : Int) := by omega
    have hjn : ¬ ((i : Int) < 0) := by omega
    clear hcell2 hlies2 hX hi hm hK hlen
    generalize kids[i] = X at *
    generalize KV i = v1 at *
    generalize DV i = v2 at *
    subst es1 es2
    unfold maxLen at hcm2
    show Calls Tryz.prog 140 #[.agg #[.int .i64 5, .int .i64 n, .string s, .slice ko keys.length kc, .slice (some ⟨b, off, none⟩) kids.length q2], .string key] w _
    go_enter Tryz.func140, Tryz.ntmps140
    go_wp2_with (first
      | (go_at_call 105; refine (impl_isMap _ _ _ _ _ _ _ _ _ _).mono ?_; rintro e w1 ⟨rfl, hb⟩; rw [HDec.out]; replace HX := Lib.hid (HX.out.next hb); clear hb; obtain ⟨x0, x1, x2, x3, x4, -⟩ := five HX.out.box; obtain ⟨c0, c1, c2, c3, c4⟩ := HC.out w1 HX.out.below)
      | (go_at_call 136; refine (HIx.out _ HX.out.below).mono ?_; rintro e w2 ⟨rfl, e2⟩; subst e2; obtain ⟨z0, z1, z2, z3, z4, z5⟩ := five HX.out.res)
      | fail)
    have hb3 := set5_below HX.out.below (b := w.heap.size + 1) (by omega) 0 (.int .i64 X.k) (.int .i64 X.n) (.string X.s) (.slice os1 X.keys.length qs1) (.slice os2 X.kids.length qs2)
    exact bodyPost_ret (ret_nodeB Tryz.results140 rfl rfl (set5_end HX.out.res _ _ _ _ _)) rfl ⟨_, _, _, rfl, HLi.out.stay hb3 (Nat.le_refl _), hb3⟩

set_option maxRecDepth 100000 in
set_option maxHeartbeats 1600000 in
theorem impl_get_yes (T X : RT) (key : ByteArray) (i : Nat) (hm : T.isMap) (hi : FirstAt T.keys key i) (hX : T.kids[i]? = some X) (w : World) (kv dv : Value) (F : List Nat) (hl : Lies w T kv dv F) (hsz : T.sz ≤ 1048576) :
    Calls Tryz.prog 112 #[.agg #[.int .i64 T.k, .int .i64 T.n, .string T.s, kv, dv], .string key] w fun e w' => ∃ kv' dv' F', e = .returned (.tuple #[.agg #[.int .i64 X.k, .int .i64 X.n, .string X.s, kv', dv'], .bool true]) ∧ Lies w' X kv' dv' F' ∧ Fresh w w' F' ∧ Below w.heap.size w w' := by
  have HX := Lib.hid (CBox.start w 32 (.int .i64 T.k) (.int .i64 T.n) (.string T.s) kv dv)
  have HG := Lib.hid fun (wr : World) (hb : Below w.heap.size w wr) => impl_kidAt_yes T X key i hm hi hX wr kv dv F (hl.stay hb (Nat.le_refl _))
  have HSz : Hid (X.sz ≤ 1048576) := by
    cases T with
    | node k n s keys kids =>
      obtain ⟨hik, rfl⟩ := List.getElem?_eq_some_iff.1 (show kids[i]? = some X from hX)
      rw [RT.sz] at hsz
      exact Nat.le_trans (sz_take kids (List.getElem_mem hik)) (by omega)
  obtain ⟨⟨o1, q1, rfl⟩, ⟨o2, q2, rfl⟩⟩ := hl.slices
  clear hl hm hi hX hsz
  go_enter Tryz.func112, Tryz.ntmps112
  go_wp2_with fail
  refine (HG.out _ HX.out.below).mono ?_
  rintro e w1 ⟨kv1, dv1, F1, rfl, hl1, hb1⟩
  replace HX := Lib.hid (HX.out.next hb1)
  have HL1 := Lib.hid fun (wr : World) (hb : Below w1.heap.size w1 wr) => copy_node X wr kv1 dv1 F1 (hl1.stay hb (Nat.le_refl _)) HSz.out
  obtain ⟨⟨o3, q3, rfl⟩, ⟨o4, q4, rfl⟩⟩ := hl1.slices
  clear hl1 hb1
  go_wp2_with fail
  have hbA := (Below.refl _ w1).alloc (Nat.le_refl _) (.cells #[.int .i64 X.k, .int .i64 X.n, .string X.s, .slice o3 X.keys.length q3, .slice o4 X.kids.length q4] 32)
  refine (HL1.out _ hbA).mono ?_
  rintro e w3 ⟨kv3, dv3, F3, rfl, hl3, hf3, hb3, -, -⟩
  obtain ⟨⟨o5, q5, rfl⟩, ⟨o6, q6, rfl⟩⟩ := hl3.slices
  have hX3 := HX.out.next (hbA.trans (hb3.mono hbA.size))
  obtain ⟨z0, z1, z2, z3, z4, z5⟩ := five hX3.res
  have hfar : ∀ y ∈ F3, w.heap.size + 2 ≤ y := fun y hy => by
    have h1 := hf3.old y hy
    have h2 := HX.out.size
    have h3 := hbA.size
    omega
  have keep : ∀ y ∈ F3, (set5 w3 (w.heap.size + 1) 0 (.int .i64 X.k) (.int .i64 X.n) (.string X.s) (.slice o5 X.keys.length q5) (.slice o6 X.kids.length q6)).heap[y]? = w3.heap[y]? := fun y hy => set5_other _ _ _ _ _ _ _ _ _ (by have := hfar y hy; omega)
  have HE := Lib.hid (And.intro (set5_end hX3.res (.int .i64 X.k) (.int .i64 X.n) (.string X.s) (.slice o5 X.keys.length q5) (.slice o6 X.kids.length q6)) (And.intro (hl3.carry keep) (And.intro (show Fresh w _ F3 from ((hf3.carry keep).earlier (by have h2 := HX.out.below.size; have h3 := hbA.size; omega))) (set5_below hX3.below (b := w.heap.size + 1) (by omega) 0 (.int .i64 X.k) (.int .i64 X.n) (.string X.s) (.slice o5 X.keys.length q5) (.slice o6 X.kids.length q6)))))
  clear hl3 hf3 hb3 hbA hX3 keep hfar
  go_wp2
  exact bodyPost_ret (ret_nodeB Tryz.results112 rfl rfl HE.out.1) rfl ⟨_, _, _, rfl, HE.out.2⟩
end Go.Proofs.YtfmkhogpnnobeaaGreatDoor
