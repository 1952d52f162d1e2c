/-
  What is proved: plain facts on a literal of eight Kids three of which have memory of their own: where all of it lies apart, it is the tree of an order in the full shape.; metrics, notes, paces and heads of orders are held against each other field by field; slices.Equal tells of two lists of metrics, and of two lists of notes, whether they are the same; the laws' eqMetricS and eqNoteS answer true of two that are.; plain facts on texts that may be written as they are: 1 to 60 bytes, a letter first, then letters, digits and four signs; none of three words.; plain facts on names: 1 to 20 bytes, a small letter first, then small letters, digits and the sign 45.; for any text the program's NameOk answers as the model's NameOk does; what lies within bounds is told alike by both.; for any metric and any pace the program's MetricOk, PaceOk and PaceNew answer as the model's do.
-/
import Derived.Test.YtmbjmjbljnlifaaGreatDoorPartAF
import Derived.Test.YtmbjmjbljnlifaaGreatDoorPartAD
import Derived.Test.YtmbjmjbljnlifaaGreatDoorRows
import Derived.Below
import Derived.WalkKit
import Derived.WalkSpells
import Derived.Lib.Hide
import Derived.Lib.Bytealg
/- plain facts on a literal of eight Kids three of which have memory of their own: where all of it lies apart, it is the tree of an order in the full shape. -/
namespace Go.Proofs.YtmbjmjbljnlifaaGreatDoor
open Go Go.RowKit

/-- A tree that was laid between two sizes of the heap. -/
structure KidAt (W : World) (T : RT) (kv dv : Value) (G : List Nat) (lo hi : Nat) : Prop where
  lie : Lies W T kv dv G
  nodup : G.Nodup
  free : ∀ b ∈ G, ∀ o, W.frozen? ⟨b, o, none⟩ = false
  span : ∀ x ∈ G, lo ≤ x ∧ x < hi

theorem KidAt.next {W W' : World} {T : RT} {kv dv : Value} {G : List Nat} {lo hi : Nat} (h : KidAt W T kv dv G lo hi) (hb : Below W.heap.size W W') : KidAt W' T kv dv G lo hi :=
  ⟨h.lie.stay hb (Nat.le_refl _), h.nodup, fun b hbG o => (hb.frozen (by exact h.lie.lt b hbG)).trans (h.free b hbG o), h.span⟩

theorem kid_at0 {w W X W' : World} {a r : Obj} {T : RT} {kv dv : Value} {G : List Nat} (_ : Two w W a r) (hl : Lies W' T kv dv G) (hf : Fresh X W' G) (hX : X.heap.size = W.heap.size) : KidAt W' T kv dv G W.heap.size W'.heap.size :=
  ⟨hl, hf.nodup, hf.free, fun x hx => ⟨by rw [← hX]; exact hf.old x hx, hl.lt x hx⟩⟩
theorem kid_at1 {w W X W' : World} {a r : Obj} {T : RT} {kv dv : Value} {G : List Nat} (_ : Two w W a r) (hl : Lies W' T kv dv G) (hf : Fresh X W' G) (hX : X.heap.size = W.heap.size + 1) : KidAt W' T kv dv G (W.heap.size + 1) W'.heap.size :=
  ⟨hl, hf.nodup, hf.free, fun x hx => ⟨by rw [← hX]; exact hf.old x hx, hl.lt x hx⟩⟩

theorem stepA {w W W' : World} {a r : Obj} (h : Two w W a r) (hb : Below W.heap.size W W') : Two w W' a r ∧ Below W.heap.size W W' := ⟨h.next hb, hb⟩
theorem stepB {w W W' : World} {a r : Obj} (h : Two w W a r) (hb : Below W.drew.heap.size W.drew W') : Two w W' a r ∧ Below W.heap.size W W' := ⟨h.next1 hb, (below_drew1 W).trans hb⟩
theorem stepC {w W W' : World} {a r o : Obj} {B : Nat} (h : Two w W a r) (hb : Below B (W.alloc o).drew W') (hB : B = W.heap.size + 1) : Two w W' a r ∧ Below W.heap.size W W' ∧ One w W' W.heap.size o ∧ W.heap.size + 1 ≤ W'.heap.size := by
  have h1 := h.lit hb hB
  have hb' : Below (W.alloc o).drew.heap.size (W.alloc o).drew W' := below_cast hb (by subst hB; simp [World.drew])
  exact ⟨h1.1, (below_lit W o).trans (hb'.mono (below_lit W o).size), h1.2, (Array.getElem?_eq_some_iff.1 h1.2.at_).1⟩
theorem stepD {w W W' : World} {a r o : Obj} (h : Two w W a r) (hb : Below (W.alloc o).heap.size (W.alloc o) W') : Two w W' a r ∧ Below W.heap.size W W' ∧ One w W' W.heap.size o ∧ W.heap.size + 1 ≤ W'.heap.size := by
  have h1 := h.lit1 hb
  have hba := (Below.refl _ W).alloc (Nat.le_refl _) o
  exact ⟨h1.1, hba.trans (hb.mono hba.size), h1.2, (Array.getElem?_eq_some_iff.1 h1.2.at_).1⟩
theorem stepE {w W W' : World} {a r o o' : Obj} {B : Nat} (h : Two w W a r) (hb : Below B ((W.alloc o).alloc o').drew W') (hB : B = W.heap.size + 2) : Two w W' a r ∧ Below W.heap.size W W' ∧ One w W' W.heap.size o ∧ One w W' (W.heap.size + 1) o' := by
  have h1 := h.lits hb hB
  obtain ⟨-, -, -, h4⟩ := two_blk W o o'
  have h5 : Below W.heap.size W ((W.alloc o).alloc o').drew := h4.trans (B := W.heap.size) ⟨rfl, rfl, rfl, Nat.le_refl _, fun _ _ => rfl⟩
  have hb' : Below ((W.alloc o).alloc o').drew.heap.size ((W.alloc o).alloc o').drew W' := below_cast hb (by subst hB; simp [World.drew])
  exact ⟨h1.1, h5.trans (hb'.mono h5.size), h1.2.1, h1.2.2⟩
theorem stepF {w W W' : World} {a r o o' : Obj} (h : Two w W a r) (hb : Below ((W.alloc o).alloc o').heap.size ((W.alloc o).alloc o') W') : Two w W' a r ∧ Below W.heap.size W W' ∧ One w W' W.heap.size o ∧ One w W' (W.heap.size + 1) o' := by
  have h1 := h.lits1 hb
  obtain ⟨-, -, -, h4⟩ := two_blk W o o'
  exact ⟨h1.1, h4.trans (hb.mono h4.size), h1.2.1, h1.2.2⟩

/-! ### The full shape -/

def kvF (kn kp : Value) : Nat → Value := fun i => if i = 5 then kn else if i = 6 then kp else .slice none 0 0
def dvF (dm dn dp : Value) : Nat → Value := fun i => if i = 3 then dm else if i = 5 then dn else if i = 6 then dp else .slice none 0 0
def ffF (GM GN GP : List Nat) : Nat → List Nat := fun i => if i = 3 then GM else if i = 5 then GN else if i = 6 then GP else []

theorem ffF_flat (GM GN GP : List Nat) : (List.range 8).flatMap (ffF GM GN GP) = GM ++ (GN ++ GP) := by
  simp [List.range_succ, ffF]

theorem full_keys (O : Ord) : ∀ k ∈ (fullT O).keys, k.size ≤ maxLen := by
  intro t ht
  simp only [fullT, RT.keys, List.mem_cons, List.not_mem_nil, or_false] at ht
  rcases ht with rfl | rfl | rfl | rfl | rfl | rfl | rfl | rfl <;> decide

/-- Eight Kids, three of which have memory of their own. -/
theorem full_fin {w W : World} {a : Obj} {z0 z1 z2 z3 z4 : Value} {bz bn : Nat} {cz cn : Array Value} {dm kn dn kp dp : Value} {GM GN GP : List Nat} {l1 h1 l2 h2 l3 h3 : Nat} (O : Ord)
    (H2 : Two w W a (.cells #[z0, z1, z2, z3, z4] 32)) (HZ : One w W bz (.cells cz 9)) (HN : One w W bn (.cells cn 32))
    (HM : KidAt W (metsT O.mets) (.slice none 0 0) dm GM l1 h1) (HNt : KidAt W (notesT O.notes) kn dn GN l2 h2) (HP : KidAt W (pacT O.pace) kp dp GP l3 h3)
    (d1 : h1 ≤ l2 ∨ h2 ≤ l1) (d2 : h1 ≤ l3 ∨ h3 ≤ l1) (d3 : h2 ≤ l3 ∨ h3 ≤ l2) (z1' : bz < l1 ∨ h1 ≤ bz) (z2' : bz < l2 ∨ h2 ≤ bz) (z3' : bz < l3 ∨ h3 ≤ bz) (n1 : bn < l1 ∨ h1 ≤ bn) (n2 : bn < l2 ∨ h2 ≤ bn) (n3 : bn < l3 ∨ h3 ≤ bn)
    (b1 : w.heap.size + 2 ≤ l1) (b2 : w.heap.size + 2 ≤ l2) (b3 : w.heap.size + 2 ≤ l3)
    (hcz : cz.toList = (fullT O).keys.map .string) (hcn : cn.toList = rowsOf (fullT O).kids (kvF kn kp) (dvF dm dn dp) 8) (f1 : Fit O.high) (f2 : Fit O.low) (f3 : O.name.size ≤ maxLen) (f4 : O.target.size ≤ maxLen) {W' : World}
    (hW : W' = set5 W (w.heap.size + 1) 0 (.int .i64 5) (.int .i64 0) (.string ⟨#[]⟩) (.slice (some ⟨bz, 0, none⟩) 8 8) (.slice (some ⟨bn, 0, none⟩) 8 8)) :
    ∃ F, W'.heap[w.heap.size + 1]? = some (.cells #[.int .i64 5, .int .i64 0, .string ⟨#[]⟩, .slice (some ⟨bz, 0, none⟩) 8 8, .slice (some ⟨bn, 0, none⟩) 8 8] 32 (0, 0)) ∧
    Lies W' (fullT O) (.slice (some ⟨bz, 0, none⟩) 8 8) (.slice (some ⟨bn, 0, none⟩) 8 8) F ∧ Fresh w W' F ∧ Below w.heap.size w W' := by
  have hcl : cn.size = 8 * 5 := by have := congrArg List.length hcn; rw [rowsOf_length] at this; simpa using this
  have hF : Fresh w W (GM ++ (GN ++ GP)) := by
    refine ⟨List.nodup_append.2 ⟨HM.nodup, List.nodup_append.2 ⟨HNt.nodup, HP.nodup, fun x hx y hy e => ?_⟩, fun x hx y hy e => ?_⟩, fun x hx => ?_, fun x hx => ?_⟩
    · have := HNt.span x hx; have := HP.span y hy; omega
    · have := HM.span x hx
      rcases List.mem_append.1 hy with hy | hy
      · have := HNt.span y hy; omega
      · have := HP.span y hy; omega
    · rcases List.mem_append.1 hx with hx | hx
      · have := HM.span x hx; omega
      rcases List.mem_append.1 hx with hx | hx
      · have := HNt.span x hx; omega
      · have := HP.span x hx; omega
    · rcases List.mem_append.1 hx with hx | hx
      · exact HM.free x hx
      rcases List.mem_append.1 hx with hx | hx
      · exact HNt.free x hx
      · exact HP.free x hx
  have leaf : ∀ (k n : Int) (s : ByteArray), Fit k → Fit n → s.size ≤ maxLen → Lies W (.node k n s [] []) (.slice none 0 0) (.slice none 0 0) [] := fun k n s hk hn hs => leaf_lies W hk hn hs
  have fz : Fit 0 := ⟨by decide, by decide⟩
  have fl2 : Fit 2 := ⟨by decide, by decide⟩
  have fl3 : Fit 3 := ⟨by decide, by decide⟩
  have hlies : ∀ i (hi : i < (fullT O).kids.length), Lies W (fullT O).kids[i] (kvF kn kp i) (dvF dm dn dp i) (ffF GM GN GP i) := by
    intro i hi
    have hi8 : i < 8 := hi
    match i, hi8 with
    | 0, _ => exact leaf 2 O.high _ fl2 f1 (by decide)
    | 1, _ => exact leaf 3 0 _ fl3 fz (by decide)
    | 2, _ => exact leaf 2 O.low _ fl2 f2 (by decide)
    | 3, _ => exact HM.lie
    | 4, _ => exact leaf 3 0 _ fl3 fz f3
    | 5, _ => exact HNt.lie
    | 6, _ => exact HP.lie
    | 7, _ => exact leaf 3 0 _ fl3 fz f4
  have h := lit_fin (ks := (fullT O).keys) (kids := (fullT O).kids) (KV := kvF kn kp) (DV := dvF dm dn dp) (FF := ffF GM GN GP) H2.below (by omega) H2.res HZ.at_ (by have := HZ.old; omega) HN.at_ (by have := HN.old; omega) (by have := HN.old; omega) hcz (full_keys O) (show 0 < 8 by decide) (show 8 ≤ maxLen by decide) hcl
    (fun i hi j hj => by rw [← Array.getElem?_toList, hcn, rowsOf_get _ _ _ _ _ _ (show i < 8 from hi) hj, List.getD_eq_getElem?_getD, List.getElem?_eq_getElem hi]; rfl)
    hlies (show 0 < 8 by decide) (show 8 ≤ maxLen by decide) (by show Fresh w W ((List.range 8).flatMap _); rw [ffF_flat]; exact hF) (fun x hx => by
      have hx : x ∈ (List.range 8).flatMap (ffF GM GN GP) := hx
      rw [ffF_flat] at hx
      rcases List.mem_append.1 hx with hx | hx
      · have := HM.span x hx; omega
      rcases List.mem_append.1 hx with hx | hx
      · have := HNt.span x hx; omega
      · have := HP.span x hx; omega) hW
  obtain ⟨g1, g2, g3, g4⟩ := h
  exact ⟨_, g1, g2, g3, g4⟩
end Go.Proofs.YtmbjmjbljnlifaaGreatDoor

/- metrics, notes, paces and heads of orders are held against each other field by field; slices.Equal tells of two lists of metrics, and of two lists of notes, whether they are the same; the laws' eqMetricS and eqNoteS answer true of two that are. -/
namespace Go.Proofs.YtmbjmjbljnlifaaGreatDoor
open Go Go.RowKit

noncomputable def sameO {α : Type} (a b : α) : Bool := @decide (a = b) (Classical.propDecidable _)
theorem sameO_yes {α : Type} {a b : α} (h : a = b) : sameO a b = true := by simp [sameO, h]
theorem sameO_no {α : Type} {a b : α} (h : ¬ a = b) : sameO a b = false := by simp [sameO, h]
theorem below_drewO {B : Nat} {a w : World} (h : Below B a w) (n : Nat) : Below B a (w.drewN n) := h.trans ⟨rfl, rfl, rfl, Nat.le_refl _, fun _ _ => rfl⟩

theorem drewO_drew (w : World) (a b : Nat) : (w.drewN a).drewN b = w.drewN (a + b) := by simp [World.drewN, Nat.add_assoc]

theorem takeO_step {α : Type} {xs ys : List α} {k : Nat} (h : xs.take k = ys.take k) (h1 : k < xs.length) (h2 : k < ys.length) (he : xs[k] = ys[k]) : xs.take (k + 1) = ys.take (k + 1) := by
  rw [List.take_succ_eq_append_getElem h1, List.take_succ_eq_append_getElem h2, h, he]
theorem takeO_end {α : Type} {xs ys : List α} {k : Nat} (h : xs.take k = ys.take k) (h1 : ¬ k < xs.length) (hl : xs.length = ys.length) : xs = ys := by
  rwa [List.take_of_length_le (by omega), List.take_of_length_le (by omega)] at h
theorem neO_at {α : Type} {xs ys : List α} {k : Nat} (h1 : k < xs.length) (h2 : k < ys.length) (he : ¬ xs[k] = ys[k]) : ¬ xs = ys := fun e => by
  subst e; exact he rfl

theorem toList_iff {x y : ByteArray} : x.toList = y.toList ↔ x = y := by
  constructor
  · intro h
    rw [ByteArray.toList_eq, ByteArray.toList_eq] at h
    exact ByteArray.ext (Array.toList_inj.1 h)
  · rintro rfl; rfl

/-- An order's head: all of it but its two lists. -/
structure Head where
  name : ByteArray
  target : ByteArray
  low : Int
  high : Int
  pace : Pac


set_option maxHeartbeats 1000000 in
theorem neq_met (x y : Met) (w : World) : (binOp .neq 85 (.agg #[.string x.name, .int .i64 x.kind, .int .i64 x.goal]) (.agg #[.string y.name, .int .i64 y.kind, .int .i64 y.goal])).run Tryz.prog w = .ok (.bool (!sameO x y)) w := by
  have u3 := Tryz.underlying3
  have a3 := Tryz.isAgg3
  have z3 := Tryz.sizeOf3
  have u9 := Tryz.underlying9
  have a9 := Tryz.isAgg9
  have z9 := Tryz.sizeOf9
  have hS : Tryz.prog.underlying 85 = some (.struct (Tryz.prog.fieldsOf 85)) := by kernel_rfl
  have hp : Tryz.prog.stoodInHeld 85 = false := by kernel_rfl
  rw [run_neq_struct, show (10000 : Nat) = 9999 + 1 from rfl, run_equalIn_agg w 9999 85 _ _ hS hp]
  simp only [Program.fieldsOf, Tryz.underlying85]
  go_simp
  by_cases h : x = y
  · rw [sameO_yes h]; subst h; simp
  · rw [sameO_no h]
    by_cases h0 : x.name = y.name
    case neg => simp [toList_iff, h0]
    by_cases h1 : x.kind = y.kind
    case neg => simp [h1, h0]
    by_cases h2 : x.goal = y.goal
    case neg => simp [h2, h0, h1]
    exact absurd (by cases x; cases y; simp_all) h


set_option maxHeartbeats 1000000 in
theorem neq_not (x y : Not) (w : World) : (binOp .neq 87 (.agg #[.string x.key, .string x.text]) (.agg #[.string y.key, .string y.text])).run Tryz.prog w = .ok (.bool (!sameO x y)) w := by
  have u9 := Tryz.underlying9
  have a9 := Tryz.isAgg9
  have z9 := Tryz.sizeOf9
  have hS : Tryz.prog.underlying 87 = some (.struct (Tryz.prog.fieldsOf 87)) := by kernel_rfl
  have hp : Tryz.prog.stoodInHeld 87 = false := by kernel_rfl
  rw [run_neq_struct, show (10000 : Nat) = 9999 + 1 from rfl, run_equalIn_agg w 9999 87 _ _ hS hp]
  simp only [Program.fieldsOf, Tryz.underlying87]
  go_simp
  by_cases h : x = y
  · rw [sameO_yes h]; subst h; simp
  · rw [sameO_no h]
    by_cases h0 : x.key = y.key
    case neg => simp [toList_iff, h0]
    by_cases h1 : x.text = y.text
    case neg => simp [toList_iff, h1, h0]
    exact absurd (by cases x; cases y; simp_all) h


set_option maxHeartbeats 1000000 in
theorem neq_pac (x y : Pac) (w : World) : (binOp .neq 35 (.agg #[.int .i64 x.up, .int .i64 x.down, .int .i64 x.ups, .int .i64 x.downs]) (.agg #[.int .i64 y.up, .int .i64 y.down, .int .i64 y.ups, .int .i64 y.downs])).run Tryz.prog w = .ok (.bool (!sameO x y)) w := by
  have u3 := Tryz.underlying3
  have a3 := Tryz.isAgg3
  have z3 := Tryz.sizeOf3
  have hS : Tryz.prog.underlying 35 = some (.struct (Tryz.prog.fieldsOf 35)) := by kernel_rfl
  have hp : Tryz.prog.stoodInHeld 35 = false := by kernel_rfl
  rw [run_neq_struct, show (10000 : Nat) = 9999 + 1 from rfl, run_equalIn_agg w 9999 35 _ _ hS hp]
  simp only [Program.fieldsOf, Tryz.underlying35]
  go_simp
  by_cases h : x = y
  · rw [sameO_yes h]; subst h; simp
  · rw [sameO_no h]
    by_cases h0 : x.up = y.up
    case neg => simp [h0]
    by_cases h1 : x.down = y.down
    case neg => simp [h1, h0]
    by_cases h2 : x.ups = y.ups
    case neg => simp [h2, h0, h1]
    by_cases h3 : x.downs = y.downs
    case neg => simp [h3, h0, h1, h2]
    exact absurd (by cases x; cases y; simp_all) h


set_option maxHeartbeats 1000000 in
theorem equal_met {v v' : Value} {xs ys : List Met} {F F' : List Nat} (w : World) (hs : MetsAt w v xs F) (hs' : MetsAt w v' ys F') :
    Calls Tryz.prog 90 #[v, v'] w fun e w' => e = .returned (.bool (sameO xs ys)) ∧ ∃ q, w' = w.drewN q := by
  obtain ⟨o, cap, b, off, rfl, hlc, hcm, ho, -, hcell, -⟩ := hs
  obtain ⟨o', cap', b', off', rfl, hlc', hcm', ho', -, hcell', -⟩ := hs'
  have HC := Lib.hid hcell
  have HO := Lib.hid ho
  have HC' := Lib.hid hcell'
  have HO' := Lib.hid ho'
  clear hcell ho hcell' ho'
  unfold maxLen at hcm hcm'
  by_cases hl : xs.length = ys.length
  · have HE := Lib.hid hl
    rw [← hl]
    clear hl
    rw [← HE.out] at hlc'
    go_enter Tryz.func90, Tryz.ntmps90
    go_wp2
    go_loopw [13] (fun i wr => ∃ k : Nat, k ≤ xs.length ∧ i = .int .i64 k ∧ Hid (xs.take k = ys.take k) ∧ ∃ q, wr = w.drewN q) (fun i _ => xs.length - (intOf i).toNat)
    case atStart => exact ⟨0, Nat.zero_le _, rfl, rfl, 0, rfl⟩
    case round =>
      obtain ⟨k, hk, rfl, hr, hq⟩ := hrel
      have HQ := Lib.hid hq
      have hb : Below w.heap.size w wr := by obtain ⟨q, rfl⟩ := hq; exact below_drewO (Below.refl _ _) q
      clear hq
      by_cases hlt : k < xs.length
      · have l2 : k < ys.length := by rw [← HE.out]; exact hlt
        have c0 : wr.cell? ⟨b, off + k * 3, none⟩ = some (.string xs[k].name) := by
          have := (HC.out k hlt).2 0 (by decide)
          rw [hb.cell (by exact World.block_lt_of_cell? _ _ this)]; exact this
        have c1 : wr.cell? ⟨b, off + k * 3 + 1, none⟩ = some (.int .i64 xs[k].kind) := by
          have := (HC.out k hlt).2 1 (by decide)
          rw [hb.cell (by exact World.block_lt_of_cell? _ _ this)]; exact this
        have c2 : wr.cell? ⟨b, off + k * 3 + 2, none⟩ = some (.int .i64 xs[k].goal) := by
          have := (HC.out k hlt).2 2 (by decide)
          rw [hb.cell (by exact World.block_lt_of_cell? _ _ this)]; exact this
        have d0 : wr.cell? ⟨b', off' + k * 3, none⟩ = some (.string ys[k].name) := by
          have := (HC'.out k l2).2 0 (by decide)
          rw [hb.cell (by exact World.block_lt_of_cell? _ _ this)]; exact this
        have d1 : wr.cell? ⟨b', off' + k * 3 + 1, none⟩ = some (.int .i64 ys[k].kind) := by
          have := (HC'.out k l2).2 1 (by decide)
          rw [hb.cell (by exact World.block_lt_of_cell? _ _ this)]; exact this
        have d2 : wr.cell? ⟨b', off' + k * 3 + 2, none⟩ = some (.int .i64 ys[k].goal) := by
          have := (HC'.out k l2).2 2 (by decide)
          rw [hb.cell (by exact World.block_lt_of_cell? _ _ this)]; exact this
        have ho := HO.out (by omega)
        have ho' := HO'.out (by omega)
        subst ho ho'
        clear hb
        have hne := neq_met xs[k] ys[k]
        have hgd := fun op a b' (x y : Array Value) w => run_eqGuard_agg (P := Tryz.prog) w op 85 a b' x y (by kernel_rfl)
        by_cases he : xs[k] = ys[k]
        · have HR := Lib.hid (takeO_step hr.out hlt l2 he)
          rw [sameO_yes he] at hne
          clear he
          generalize hx : xs[k] = x at *
          generalize hy : ys[k] = y at *
          clear hx hy
          go_wp2
          go_quiet (fail)
          go_wp2
          exact ⟨⟨k + 1, by omega, by go_num, HR.out, by obtain ⟨q, rfl⟩ := HQ.out; exact ⟨_, drewO_drew _ _ _⟩⟩, by simp [intOf]; omega⟩
        · have HR := Lib.hid (neO_at hlt l2 he)
          rw [sameO_no he] at hne
          clear he
          generalize hx : xs[k] = x at *
          generalize hy : ys[k] = y at *
          clear hx hy
          go_wp2
          go_quiet (fail)
          go_wp2
          go_ret
          refine ⟨?_, by obtain ⟨q, rfl⟩ := HQ.out; exact ⟨_, drewO_drew _ _ _⟩⟩
          rw [sameO_no HR.out]
          rfl
      · have HR := Lib.hid (takeO_end hr.out hlt HE.out)
        go_wp2
        go_ret
        refine ⟨?_, HQ.out⟩
        rw [sameO_yes HR.out]
        rfl
  · have hl' : ¬ ((xs.length : Int) = ys.length) := by omega
    go_enter Tryz.func90, Tryz.ntmps90
    go_wp2
    go_ret
    refine ⟨?_, 0, rfl⟩
    rw [sameO_no (fun h => hl (by rw [h]))]
    rfl


set_option maxHeartbeats 1000000 in
theorem equal_not {v v' : Value} {xs ys : List Not} {F F' : List Nat} (w : World) (hs : NotsAt w v xs F) (hs' : NotsAt w v' ys F') :
    Calls Tryz.prog 95 #[v, v'] w fun e w' => e = .returned (.bool (sameO xs ys)) ∧ ∃ q, w' = w.drewN q := by
  obtain ⟨o, cap, b, off, rfl, hlc, hcm, ho, -, hcell, -⟩ := hs
  obtain ⟨o', cap', b', off', rfl, hlc', hcm', ho', -, hcell', -⟩ := hs'
  have HC := Lib.hid hcell
  have HO := Lib.hid ho
  have HC' := Lib.hid hcell'
  have HO' := Lib.hid ho'
  clear hcell ho hcell' ho'
  unfold maxLen at hcm hcm'
  by_cases hl : xs.length = ys.length
  · have HE := Lib.hid hl
    rw [← hl]
    clear hl
    rw [← HE.out] at hlc'
    go_enter Tryz.func95, Tryz.ntmps95
    go_wp2
    go_loopw [13] (fun i wr => ∃ k : Nat, k ≤ xs.length ∧ i = .int .i64 k ∧ Hid (xs.take k = ys.take k) ∧ ∃ q, wr = w.drewN q) (fun i _ => xs.length - (intOf i).toNat)
    case atStart => exact ⟨0, Nat.zero_le _, rfl, rfl, 0, rfl⟩
    case round =>
      obtain ⟨k, hk, rfl, hr, hq⟩ := hrel
      have HQ := Lib.hid hq
      have hb : Below w.heap.size w wr := by obtain ⟨q, rfl⟩ := hq; exact below_drewO (Below.refl _ _) q
      clear hq
      by_cases hlt : k < xs.length
      · have l2 : k < ys.length := by rw [← HE.out]; exact hlt
        have c0 : wr.cell? ⟨b, off + k * 2, none⟩ = some (.string xs[k].key) := by
          have := (HC.out k hlt).2 0 (by decide)
          rw [hb.cell (by exact World.block_lt_of_cell? _ _ this)]; exact this
        have c1 : wr.cell? ⟨b, off + k * 2 + 1, none⟩ = some (.string xs[k].text) := by
          have := (HC.out k hlt).2 1 (by decide)
          rw [hb.cell (by exact World.block_lt_of_cell? _ _ this)]; exact this
        have d0 : wr.cell? ⟨b', off' + k * 2, none⟩ = some (.string ys[k].key) := by
          have := (HC'.out k l2).2 0 (by decide)
          rw [hb.cell (by exact World.block_lt_of_cell? _ _ this)]; exact this
        have d1 : wr.cell? ⟨b', off' + k * 2 + 1, none⟩ = some (.string ys[k].text) := by
          have := (HC'.out k l2).2 1 (by decide)
          rw [hb.cell (by exact World.block_lt_of_cell? _ _ this)]; exact this
        have ho := HO.out (by omega)
        have ho' := HO'.out (by omega)
        subst ho ho'
        clear hb
        have hne := neq_not xs[k] ys[k]
        have hgd := fun op a b' (x y : Array Value) w => run_eqGuard_agg (P := Tryz.prog) w op 87 a b' x y (by kernel_rfl)
        by_cases he : xs[k] = ys[k]
        · have HR := Lib.hid (takeO_step hr.out hlt l2 he)
          rw [sameO_yes he] at hne
          clear he
          generalize hx : xs[k] = x at *
          generalize hy : ys[k] = y at *
          clear hx hy
          go_wp2
          go_quiet (fail)
          go_wp2
          exact ⟨⟨k + 1, by omega, by go_num, HR.out, by obtain ⟨q, rfl⟩ := HQ.out; exact ⟨_, drewO_drew _ _ _⟩⟩, by simp [intOf]; omega⟩
        · have HR := Lib.hid (neO_at hlt l2 he)
          rw [sameO_no he] at hne
          clear he
          generalize hx : xs[k] = x at *
          generalize hy : ys[k] = y at *
          clear hx hy
          go_wp2
          go_quiet (fail)
          go_wp2
          go_ret
          refine ⟨?_, by obtain ⟨q, rfl⟩ := HQ.out; exact ⟨_, drewO_drew _ _ _⟩⟩
          rw [sameO_no HR.out]
          rfl
      · have HR := Lib.hid (takeO_end hr.out hlt HE.out)
        go_wp2
        go_ret
        refine ⟨?_, HQ.out⟩
        rw [sameO_yes HR.out]
        rfl
  · have hl' : ¬ ((xs.length : Int) = ys.length) := by omega
    go_enter Tryz.func95, Tryz.ntmps95
    go_wp2
    go_ret
    refine ⟨?_, 0, rfl⟩
    rw [sameO_no (fun h => hl (by rw [h]))]
    rfl

end Go.Proofs.YtmbjmjbljnlifaaGreatDoor

/- plain facts on texts that may be written as they are: 1 to 60 bytes, a letter first, then letters, digits and four signs; none of three words. -/
namespace Go.Proofs.YtmbjmjbljnlifaaGreatDoor
open Go Go.RowKit

def isLet (b : UInt8) : Bool := (decide (97 ≤ b.toNat) && decide (b.toNat ≤ 122)) || (decide (65 ≤ b.toNat) && decide (b.toNat ≤ 90))
def isDig (b : UInt8) : Bool := decide (48 ≤ b.toNat) && decide (b.toNat ≤ 57)
def isSgn (b : UInt8) : Bool := decide (b = 95 ∨ b = 46 ∨ b = 47 ∨ b = 45)
def okP (b : UInt8) : Bool := isLet b || (isDig b || isSgn b)
/-- A letter first, then what may stand behind one. -/
def goodL : List UInt8 → Bool
  | [] => true
  | b :: l => isLet b && l.all okP
def noWord (s : ByteArray) : Bool := ((!s.toList == [110, 117, 108, 108]) && (!s.toList == [116, 114, 117, 101])) && (!s.toList == [102, 97, 108, 115, 101])
def plainB (s : ByteArray) : Bool := (decide (1 ≤ s.size ∧ s.size ≤ 60) && goodL s.data.toList) && noWord s

theorem okP_let {b : UInt8} (h : isLet b = true) : okP b = true := by simp [okP, h]

theorem goodL_snoc (l : List UInt8) (b : UInt8) : goodL (l ++ [b]) = (goodL l && (if l.length = 0 then isLet b else okP b)) := by
  cases l with
  | nil => simp [goodL]
  | cons x l => simp [goodL, Bool.and_assoc]

theorem take_snoc (s : ByteArray) (k : Nat) (h : k < s.size) : s.data.toList.take (k + 1) = s.data.toList.take k ++ [s[k]] := by
  rw [List.take_succ_eq_append_getElem (by simpa using h)]; rfl

theorem goodL_step {s : ByteArray} {k : Nat} (hk : k < s.size) : goodL (s.data.toList.take (k + 1)) = (goodL (s.data.toList.take k) && (if k = 0 then isLet s[k] else okP s[k])) := by
  have hl : (s.data.toList.take k).length = k := by rw [List.length_take]; have : s.data.toList.length = s.size := by simp
                                                    omega
  rw [take_snoc s k hk, goodL_snoc, hl]

theorem goodL_pre {l : List UInt8} : ∀ {m : List UInt8}, goodL (l ++ m) = true → goodL l = true := by
  intro m h
  cases l with
  | nil => rfl
  | cons x l =>
    simp only [List.cons_append, goodL, Bool.and_eq_true, List.all_append] at h ⊢
    exact ⟨h.1, h.2.1⟩

theorem goodL_bad {s : ByteArray} {k : Nat} (h : goodL (s.data.toList.take (k + 1)) = false) : plainB s = false := by
  have : goodL s.data.toList = false := by
    rcases Bool.eq_false_or_eq_true (goodL s.data.toList) with h1 | h1
    · exfalso
      rw [← List.take_append_drop (k + 1) s.data.toList] at h1
      rw [goodL_pre h1] at h
      cases h
    · exact h1
  simp [plainB, this]

theorem goodL_end {s : ByteArray} {k : Nat} (hk : ¬ k < s.size) : s.data.toList.take k = s.data.toList :=
  List.take_of_length_le (by simp only [Array.length_toList]; have : s.size = s.data.size := rfl; omega)

theorem sgn_index (b : UInt8) : (Lib.indexByte [95, 46, 47, 45] ((b.toNat : Int).toNat.toUInt8) < 0) = (isSgn b = false) := by
  have e : (b.toNat : Int).toNat.toUInt8 = b := by simp
  rw [e]
  by_cases h1 : b = 95
  · subst h1; decide
  by_cases h2 : b = 46
  · subst h2; decide
  by_cases h3 : b = 47
  · subst h3; decide
  by_cases h4 : b = 45
  · subst h4; decide
  have e1 : ((95 : UInt8) == b) = false := by simpa using fun h => h1 h.symm
  have e2 : ((46 : UInt8) == b) = false := by simpa using fun h => h2 h.symm
  have e3 : ((47 : UInt8) == b) = false := by simpa using fun h => h3 h.symm
  have e4 : ((45 : UInt8) == b) = false := by simpa using fun h => h4 h.symm
  simp [Lib.indexByte, e1, e2, e3, e4, isSgn, h1, h2, h3, h4]
end Go.Proofs.YtmbjmjbljnlifaaGreatDoor

/- plain facts on names: 1 to 20 bytes, a small letter first, then small letters, digits and the sign 45. -/
namespace Go.Proofs.YtmbjmjbljnlifaaGreatDoor
open Go Go.RowKit

def isSml (b : UInt8) : Bool := decide (97 ≤ b.toNat) && decide (b.toNat ≤ 122)
def okN (b : UInt8) : Bool := isSml b || (isDig b || decide (b = 45))
/-- A small letter first, then what may stand behind one. -/
def nameL : List UInt8 → Bool
  | [] => true
  | b :: l => isSml b && l.all okN
def nameB (s : ByteArray) : Bool := decide (1 ≤ s.size ∧ s.size ≤ 20) && nameL s.data.toList

theorem okN_sml {b : UInt8} (h : isSml b = true) : okN b = true := by simp [okN, h]

theorem nameL_snoc (l : List UInt8) (b : UInt8) : nameL (l ++ [b]) = (nameL l && (if l.length = 0 then isSml b else okN b)) := by
  cases l with
  | nil => simp [nameL]
  | cons x l => simp [nameL, Bool.and_assoc]

theorem nameL_step {s : ByteArray} {k : Nat} (hk : k < s.size) : nameL (s.data.toList.take (k + 1)) = (nameL (s.data.toList.take k) && (if k = 0 then isSml s[k] else okN s[k])) := by
  have hl : (s.data.toList.take k).length = k := by rw [List.length_take]; have : s.data.toList.length = s.size := by simp
                                                    omega
  rw [take_snoc s k hk, nameL_snoc, hl]

theorem nameL_pre {l : List UInt8} : ∀ {m : List UInt8}, nameL (l ++ m) = true → nameL l = true := by
  intro m h
  cases l with
  | nil => rfl
  | cons x l =>
    simp only [List.cons_append, nameL, Bool.and_eq_true, List.all_append] at h ⊢
    exact ⟨h.1, h.2.1⟩

theorem nameL_bad {s : ByteArray} {k : Nat} (h : nameL (s.data.toList.take (k + 1)) = false) : nameB s = false := by
  have : nameL s.data.toList = false := by
    rcases Bool.eq_false_or_eq_true (nameL s.data.toList) with h1 | h1
    · exfalso
      rw [← List.take_append_drop (k + 1) s.data.toList] at h1
      rw [nameL_pre h1] at h
      cases h
    · exact h1
  simp [nameB, this]
end Go.Proofs.YtmbjmjbljnlifaaGreatDoor

/- for any text the program's NameOk answers as the model's NameOk does; what lies within bounds is told alike by both. -/
namespace Go.Proofs.YtmbjmjbljnlifaaGreatDoor
open Go Go.RowKit

/-- From low to high. -/
def inB (x lo hi : Int) : Bool := decide (lo ≤ x) && decide (x ≤ hi)

theorem spec_inB (x lo hi : Int) (w : World) : Calls Tryz.prog 45 #[.int .i64 x, .int .i64 lo, .int .i64 hi] w fun e w' => e = .returned (.bool (inB x lo hi)) ∧ w' = w := by
  by_cases h1 : lo ≤ x <;> by_cases h2 : x ≤ hi
  all_goals
    go_enter Tryz.func45, Tryz.ntmps45
    go_wp2
    go_ret
    refine ⟨?_, rfl⟩
    simp [inB, h1, h2]

theorem impl_inB (x lo hi : Int) (w : World) : Calls Tryz.prog 59 #[.int .i64 x, .int .i64 lo, .int .i64 hi] w fun e w' => e = .returned (.bool (inB x lo hi)) ∧ w' = w := by
  by_cases h1 : lo ≤ x <;> by_cases h2 : x ≤ hi
  all_goals
    go_enter Tryz.func59, Tryz.ntmps59
    go_wp2
    go_ret
    refine ⟨?_, rfl⟩
    simp [inB, h1, h2]

set_option maxHeartbeats 400000 in
theorem impl_small (b : UInt8) (w : World) : Calls Tryz.prog 78 #[.int .u8 (b.toNat : Int)] w fun e w' => e = .returned (.bool (isSml b)) ∧ w' = w := by
  by_cases h1 : 97 ≤ b.toNat <;> by_cases h2 : b.toNat ≤ 122
  all_goals
    first
    | omega
    | (go_enter Tryz.func78, Tryz.ntmps78
       go_wp2
       go_ret
       refine ⟨?_, rfl⟩
       simp [isSml, h1, h2] <;> omega)

set_option maxHeartbeats 400000 in
theorem impl_digit6 (b : UInt8) (w : World) : Calls Tryz.prog 79 #[.int .u8 (b.toNat : Int)] w fun e w' => e = .returned (.bool (isDig b)) ∧ w' = w := by
  by_cases h1 : 48 ≤ b.toNat <;> by_cases h2 : b.toNat ≤ 57
  all_goals
    first
    | omega
    | (go_enter Tryz.func79, Tryz.ntmps79
       go_wp2
       go_ret
       refine ⟨?_, rfl⟩
       simp [isDig, h1, h2] <;> omega)

set_option maxRecDepth 100000 in
set_option maxHeartbeats 1000000 in
theorem spec_nameOk (s : ByteArray) (hm : s.size ≤ maxLen) (w : World) :
    Calls Tryz.prog 44 #[.string s] w fun e w' => e = .returned (.bool (nameB s)) ∧ w' = w := by
  unfold maxLen at hm
  go_enter Tryz.func44, Tryz.ntmps44
  go_wp2
  go_loop [3] (fun i => ∃ k : Nat, k ≤ s.size ∧ i = .int .i64 k ∧ Hid (nameL (s.data.toList.take k) = true)) (fun i => s.size - (intOf i).toNat)
  case atStart => exact ⟨0, Nat.zero_le _, rfl, rfl⟩
  case round =>
    obtain ⟨k, hk, rfl, hr⟩ := hrel
    by_cases hlt : k < s.size
    · have HG := Lib.hid (nameL_step hlt)
      rw [hr.out, Bool.true_and] at HG
      generalize hb : s[k] = b at *
      by_cases a1 : 97 ≤ b.toNat
      · by_cases a2 : b.toNat ≤ 122
        · have HS : Hid (nameL (s.data.toList.take (k + 1)) = true) := by
            show _ = _
            have e : isSml b = true := by simp [isSml, a1, a2]
            rw [HG.out, e, okN_sml e]; simp
          clear HG
          go_wp2
          all_goals exact ⟨⟨k + 1, by omega, by go_num, HS.out⟩, by simp [intOf]; omega⟩
        · have HN : Hid (nameB s = false) := nameL_bad (k := k) (by
            rw [HG.out]
            have e : isSml b = false := by simp [isSml, a2]
            have e2 : okN b = false := by
              have : ¬ b = 45 := by rintro rfl; exact a2 (by decide)
              have : isDig b = false := by simp [isDig]; omega
              simp [okN, *]
            rw [e, e2]; simp)
          have e45 : ((b.toNat : Int) == 45) = false := by simp; omega
          have e57 : decide ((b.toNat : Int) ≤ 57) = false := by simp; omega
          have e122 : decide ((b.toNat : Int) ≤ 122) = false := by simp; omega
          clear HG
          by_cases hk0 : k = 0
          · subst hk0
            go_wp2
            go_ret
            exact ⟨by rw [HN.out]; rfl, rfl⟩
          · have e0 : 0 < (k : Int) := by omega
            clear hk0
            go_wp2
            go_ret
            exact ⟨by rw [HN.out]; rfl, rfl⟩
      · have e : isSml b = false := by simp [isSml, a1]
        by_cases hk0 : k = 0
        · subst hk0
          have HN : Hid (nameB s = false) := nameL_bad (k := 0) (by rw [HG.out, e]; rfl)
          clear HG e
          go_wp2
          all_goals
            go_ret
            exact ⟨by rw [HN.out]; rfl, rfl⟩
        · have e0 : 0 < (k : Int) := by omega
          rw [if_neg hk0, okN, e, Bool.false_or] at HG
          clear e
          by_cases h45 : b = 45
          · have HS : Hid (nameL (s.data.toList.take (k + 1)) = true) := by
              show _ = _
              rw [HG.out, h45]; rfl
            clear HG
            subst h45
            go_wp2
            all_goals exact ⟨⟨k + 1, by omega, by go_num, HS.out⟩, by simp [intOf]; omega⟩
          · rw [decide_eq_false h45, Bool.or_false] at HG
            have n4 : ((b.toNat : Int) == 45) = false := by
              simp; intro h; exact h45 (UInt8.toNat_inj.1 (Int.ofNat_inj.1 h))
            clear h45
            by_cases d1 : 48 ≤ b.toNat
            · by_cases d2 : b.toNat ≤ 57
              · have HS : Hid (nameL (s.data.toList.take (k + 1)) = true) := by
                  show _ = _
                  rw [HG.out]; simp [isDig, d1, d2]
                clear HG
                go_wp2
                all_goals exact ⟨⟨k + 1, by omega, by go_num, HS.out⟩, by simp [intOf]; omega⟩
              · have HN : Hid (nameB s = false) := nameL_bad (k := k) (by rw [HG.out]; simp [isDig, d1, d2])
                have d3 : decide ((b.toNat : Int) ≤ 57) = false := by simp; omega
                clear HG
                go_wp2
                all_goals
                  go_ret
                  exact ⟨by rw [HN.out]; rfl, rfl⟩
            · have HN : Hid (nameB s = false) := nameL_bad (k := k) (by rw [HG.out]; simp [isDig, d1])
              clear HG
              go_wp2
              all_goals
                go_ret
                exact ⟨by rw [HN.out]; rfl, rfl⟩
    · have HE : Hid (nameL s.data.toList = true) := by show _ = _; rw [← goodL_end hlt]; exact hr.out
      have h1 := fun w => spec_inB s.size 1 20 w
      have HP : Hid (nameB s = inB s.size 1 20) := by
        show _ = _
        unfold nameB inB
        rw [HE.out, Bool.and_true]
        by_cases a : 1 ≤ s.size <;> by_cases b : s.size ≤ 20 <;> simp [a, b] <;> omega
      rw [← HP.out] at h1
      go_wp2_with (first
        | (go_at_call 45; refine (h1 _).mono ?_; rintro e w1 ⟨rfl, e1⟩; subst e1)
        | fail)
      go_ret
      exact ⟨rfl, rfl⟩

set_option maxRecDepth 100000 in
set_option maxHeartbeats 1000000 in
theorem impl_nameOk (s : ByteArray) (hm : s.size ≤ maxLen) (w : World) :
    Calls Tryz.prog 58 #[.string s] w fun e w' => e = .returned (.bool (nameB s)) ∧ w' = w := by
  unfold maxLen at hm
  by_cases hz : s.size = 0
  · have HN : Hid (nameB s = false) := by show _ = _; simp [nameB, hz]
    have e0 : (s.toList == []) = true := by
      have : s = ⟨#[]⟩ := ByteArray.ext (Array.eq_empty_of_size_eq_zero hz)
      rw [this, Lib.toList_data]; rfl
    clear hz
    go_enter Tryz.func58, Tryz.ntmps58
    go_wp2
    go_ret
    exact ⟨by rw [HN.out]; rfl, rfl⟩
  have e0 : (s.toList == []) = false := by
    rw [Lib.toList_data]
    simp
    intro h
    exact hz (by have : s.size = s.data.size := rfl; rw [this, h]; rfl)
  by_cases h20 : s.size ≤ 20
  case neg =>
    have HN : Hid (nameB s = false) := by show _ = _; simp [nameB, h20]
    go_enter Tryz.func58, Tryz.ntmps58
    go_wp2
    go_ret
    exact ⟨by rw [HN.out]; rfl, rfl⟩
  have h0 : 0 < s.size := by omega
  have h20' : (s.size : Int) ≤ 20 := by omega
  have hL0 := impl_small s[0]
  by_cases hl0 : isSml s[0] = true
  case neg =>
    have hl' : isSml s[0] = false := by simpa using hl0
    have HN : Hid (nameB s = false) := nameL_bad (k := 0) (by rw [nameL_step h0, hl']; rfl)
    rw [hl'] at hL0
    clear hl0 hl'
    go_enter Tryz.func58, Tryz.ntmps58
    go_wp2_with (first
      | (go_at_call 78; refine (hL0 _).mono ?_; rintro e w1 ⟨rfl, e1⟩; subst e1)
      | fail)
    go_ret
    exact ⟨by rw [HN.out]; rfl, rfl⟩
  have HL0 := Lib.hid hl0
  rw [hl0] at hL0
  clear hl0
  go_enter Tryz.func58, Tryz.ntmps58
  go_wp2_with (first
    | (go_at_call 78; refine (hL0 _).mono ?_; rintro e w1 ⟨rfl, e1⟩; subst e1)
    | fail)
  clear hL0
  go_loop [19] (fun i => ∃ k : Nat, k ≤ s.size ∧ i = .int .i64 k ∧ Hid (nameL (s.data.toList.take k) = true)) (fun i => s.size - (intOf i).toNat)
  case atStart => exact ⟨0, Nat.zero_le _, rfl, rfl⟩
  case round =>
    obtain ⟨k, hk, rfl, hr⟩ := hrel
    by_cases hlt : k < s.size
    · have HG := Lib.hid (nameL_step hlt)
      rw [hr.out] at HG
      have hL := impl_small s[k]
      have HGo : Hid (nameL (s.data.toList.take (k + 1)) = okN s[k]) := by
        show _ = _
        rw [HG.out, Bool.true_and]
        by_cases e : k = 0
        · subst e
          rw [if_pos rfl, HL0.out, okN_sml HL0.out]
        · rw [if_neg e]
      clear HG
      by_cases hl : isSml s[k] = true
      · rw [hl] at hL
        have HS : Hid (nameL (s.data.toList.take (k + 1)) = true) := HGo.out.trans (okN_sml hl)
        clear HGo hl
        go_wp2_with (first
          | (go_at_call 78; refine (hL _).mono ?_; rintro e w1 ⟨rfl, e1⟩; subst e1)
          | fail)
        all_goals exact ⟨⟨k + 1, by omega, by go_num, HS.out⟩, by simp [intOf]; omega⟩
      · have hl' : isSml s[k] = false := by simpa using hl
        rw [hl'] at hL
        have hD := impl_digit6 s[k]
        by_cases hd : isDig s[k] = true
        · rw [hd] at hD
          have HS : Hid (nameL (s.data.toList.take (k + 1)) = true) := by show _ = _; rw [HGo.out, okN, hd]; simp
          clear HGo hl hd hl'
          go_wp2_with (first
            | (go_at_call 78; refine (hL _).mono ?_; rintro e w1 ⟨rfl, e1⟩; subst e1)
            | (go_at_call 79; refine (hD _).mono ?_; rintro e w1 ⟨rfl, e1⟩; subst e1)
            | fail)
          all_goals exact ⟨⟨k + 1, by omega, by go_num, HS.out⟩, by simp [intOf]; omega⟩
        · have hd' : isDig s[k] = false := by simpa using hd
          rw [hd'] at hD
          have HGo2 : Hid (nameL (s.data.toList.take (k + 1)) = decide (s[k] = 45)) := by show _ = _; rw [HGo.out, okN, hl', hd']; rfl
          clear hl hd hl' hd' HGo
          generalize hb : s[k] = b at *
          by_cases hg : b = 45
          · have HS : Hid (nameL (s.data.toList.take (k + 1)) = true) := by show _ = _; rw [HGo2.out, hg]; rfl
            clear HGo2
            subst hg
            go_wp2_with (first
              | (go_at_call 78; refine (hL _).mono ?_; rintro e w1 ⟨rfl, e1⟩; subst e1)
              | (go_at_call 79; refine (hD _).mono ?_; rintro e w1 ⟨rfl, e1⟩; subst e1)
              | fail)
            all_goals exact ⟨⟨k + 1, by omega, by go_num, HS.out⟩, by simp [intOf]; omega⟩
          · have n4 : ((b.toNat : Int) == 45) = false := by
              simp; intro h; exact hg (UInt8.toNat_inj.1 (Int.ofNat_inj.1 h))
            have HN : Hid (nameB s = false) := nameL_bad (k := k) (by rw [HGo2.out, decide_eq_false hg])
            clear HGo2 hg
            go_wp2_with (first
              | (go_at_call 78; refine (hL _).mono ?_; rintro e w1 ⟨rfl, e1⟩; subst e1)
              | (go_at_call 79; refine (hD _).mono ?_; rintro e w1 ⟨rfl, e1⟩; subst e1)
              | fail)
            go_ret
            exact ⟨by rw [HN.out]; rfl, rfl⟩
    · have HE : Hid (nameL s.data.toList = true) := by show _ = _; rw [← goodL_end hlt]; exact hr.out
      have HP : Hid (nameB s = true) := by
        show _ = _
        unfold nameB
        rw [HE.out, Bool.and_true, decide_eq_true (by omega)]
      go_wp2
      go_ret
      exact ⟨by rw [HP.out]; rfl, rfl⟩
end Go.Proofs.YtmbjmjbljnlifaaGreatDoor

/- for any metric and any pace the program's MetricOk, PaceOk and PaceNew answer as the model's do. -/
namespace Go.Proofs.YtmbjmjbljnlifaaGreatDoor
open Go Go.RowKit

def metB (s : ByteArray) (k g : Int) : Bool := (nameB s && inB k 1 3) && inB g 1 1000000
def paceB (u d us ds : Int) : Bool := ((inB u 0 1000 && inB d 0 1000) && inB us 0 3600) && inB ds 0 3600
/-- A metric and a pace as one value each. -/
def metV (s : ByteArray) (k g : Int) : Value := .agg #[.string s, .int .i64 k, .int .i64 g]
def paceV (u d us ds : Int) : Value := .agg #[.int .i64 u, .int .i64 d, .int .i64 us, .int .i64 ds]

set_option maxRecDepth 100000 in
set_option maxHeartbeats 1000000 in
theorem spec_metricOk (s : ByteArray) (k g : Int) (hm : s.size ≤ maxLen) (w : World) :
    Calls Tryz.prog 71 #[.agg #[.string s, .int .i64 k, .int .i64 g]] w fun e w' => e = .returned (.bool (metB s k g)) ∧ Below w.heap.size w w' := by
  have h1 := Lib.hid (spec_nameOk s hm)
  have HB : Hid (∀ o, Below w.heap.size w (w.alloc o)) := fun o => (Below.refl _ w).alloc (Nat.le_refl _) o
  unfold metB
  clear hm
  generalize nameB s = b1 at *
  rcases hb2 : inB k 1 3 <;> rcases hb3 : inB g 1 1000000 <;> cases b1
  all_goals
    go_enter Tryz.func71, Tryz.ntmps71
    go_wp2_with (first
      | (go_at_call 44; refine (h1.out _).mono ?_; rintro e w1 ⟨rfl, e1⟩; subst e1)
      | (go_at_call 45; refine (spec_inB _ _ _ _).mono ?_; rintro e w1 ⟨rfl, e1⟩; subst e1; first | rw [hb2] | rw [hb3])
      | fail)
    go_ret
    exact ⟨rfl, HB.out _⟩
set_option maxRecDepth 100000 in
set_option maxHeartbeats 1000000 in
theorem impl_metricOk (s : ByteArray) (k g : Int) (hm : s.size ≤ maxLen) (w : World) :
    Calls Tryz.prog 80 #[.agg #[.string s, .int .i64 k, .int .i64 g]] w fun e w' => e = .returned (.bool (metB s k g)) ∧ Below w.heap.size w w' := by
  have h1 := Lib.hid (impl_nameOk s hm)
  have HB : Hid (∀ o, Below w.heap.size w (w.alloc o)) := fun o => (Below.refl _ w).alloc (Nat.le_refl _) o
  unfold metB
  clear hm
  generalize nameB s = b1 at *
  rcases hb2 : inB k 1 3 <;> rcases hb3 : inB g 1 1000000 <;> cases b1
  all_goals
    go_enter Tryz.func80, Tryz.ntmps80
    go_wp2_with (first
      | (go_at_call 58; refine (h1.out _).mono ?_; rintro e w1 ⟨rfl, e1⟩; subst e1)
      | (go_at_call 59; refine (impl_inB _ _ _ _).mono ?_; rintro e w1 ⟨rfl, e1⟩; subst e1; first | rw [hb2] | rw [hb3])
      | fail)
    go_ret
    exact ⟨rfl, HB.out _⟩

set_option maxRecDepth 100000 in
set_option maxHeartbeats 1000000 in
theorem spec_paceOk (u d us ds : Int) (w : World) :
    Calls Tryz.prog 47 #[.agg #[.int .i64 u, .int .i64 d, .int .i64 us, .int .i64 ds]] w fun e w' => e = .returned (.bool (paceB u d us ds)) ∧ Below w.heap.size w w' := by
  have HB : Hid (∀ o, Below w.heap.size w (w.alloc o)) := fun o => (Below.refl _ w).alloc (Nat.le_refl _) o
  unfold paceB
  rcases hb1 : inB u 0 1000 <;> rcases hb2 : inB d 0 1000 <;> rcases hb3 : inB us 0 3600 <;> rcases hb4 : inB ds 0 3600
  all_goals
    go_enter Tryz.func47, Tryz.ntmps47
    go_wp2_with (first
      | (go_at_call 45; refine (spec_inB _ _ _ _).mono ?_; rintro e w1 ⟨rfl, e1⟩; subst e1; first | rw [hb1] | rw [hb2] | rw [hb3] | rw [hb4])
      | fail)
    go_ret
    exact ⟨rfl, HB.out _⟩

set_option maxRecDepth 100000 in
set_option maxHeartbeats 1000000 in
theorem impl_paceOk (u d us ds : Int) (w : World) :
    Calls Tryz.prog 61 #[.agg #[.int .i64 u, .int .i64 d, .int .i64 us, .int .i64 ds]] w fun e w' => e = .returned (.bool (paceB u d us ds)) ∧ Below w.heap.size w w' := by
  have HB : Hid (∀ o, Below w.heap.size w (w.alloc o)) := fun o => (Below.refl _ w).alloc (Nat.le_refl _) o
  unfold paceB
  rcases hb1 : inB u 0 1000 <;> rcases hb2 : inB d 0 1000 <;> rcases hb3 : inB us 0 3600 <;> rcases hb4 : inB ds 0 3600
  all_goals
    go_enter Tryz.func61, Tryz.ntmps61
    go_wp2_with (first
      | (go_at_call 59; refine (impl_inB _ _ _ _).mono ?_; rintro e w1 ⟨rfl, e1⟩; subst e1; first | rw [hb1] | rw [hb2] | rw [hb3] | rw [hb4])
      | fail)
    go_ret
    exact ⟨rfl, HB.out _⟩

set_option maxHeartbeats 1000000 in
theorem sz_metric (s : ByteArray) (k g : Int) (left : Nat) (hm : s.size ≤ maxLen) (h2 : left ≤ 1048576) (w : World) :
    Calls Tryz.prog 42 #[.agg #[.string s, .int .i64 k, .int .i64 g], .int .i64 left] w fun e w' => e = .returned (.int .i64 (if s.size ≤ left then ((left - s.size : Nat) : Int) else -1)) ∧ Below w.heap.size w w' := by
  have HB : Hid (∀ o, Below w.heap.size w (w.alloc o)) := fun o => (Below.refl _ w).alloc (Nat.le_refl _) o
  unfold maxLen at hm
  by_cases h : s.size ≤ left
  · rw [if_pos h]
    go_enter Tryz.func42, Tryz.ntmps42
    go_wp2
    go_ret
    exact ⟨by rw [show ((left - s.size : Nat) : Int) = (left : Int) - s.size by omega]; rfl, HB.out _⟩
  · rw [if_neg h]
    go_enter Tryz.func42, Tryz.ntmps42
    go_wp2
    go_ret
    exact ⟨rfl, HB.out _⟩

/-- Three new blocks. -/
theorem three_new (w : World) (a b c : Obj) : (((w.alloc a).alloc b).alloc c).heap[w.heap.size]? = some a ∧ (((w.alloc a).alloc b).alloc c).heap[w.heap.size + 1]? = some b ∧ (((w.alloc a).alloc b).alloc c).heap[w.heap.size + 1 + 1]? = some c ∧
    Below w.heap.size w (((w.alloc a).alloc b).alloc c) ∧ (((w.alloc a).alloc b).alloc c).heap.size = w.heap.size + 3 := by
  have hl : ∀ (w : World) (o : Obj), (w.alloc o).heap[w.heap.size]? = some o := fun w o => by
    show (w.heap.push o)[w.heap.size]? = _
    simp
  have e1 : (w.alloc a).heap.size = w.heap.size + 1 := by simp
  have e2 : ((w.alloc a).alloc b).heap.size = w.heap.size + 1 + 1 := by simp
  refine ⟨?_, ?_, ?_, ((((Below.refl _ w).alloc (Nat.le_refl _) _).alloc (by simp) _).alloc (by simp; omega) _), by simp⟩
  · rw [Below.heap_alloc _ _ _ (by simp; omega), Below.heap_alloc _ _ _ (by simp), hl]
  · rw [Below.heap_alloc _ _ _ (by simp), ← e1, hl]
  · rw [← e2, hl]

theorem ret_met {fn : Func} {i : Nat} (hres : fn.results = #[ResultVar.cell i 85]) {tmps : Array Value} {w : World} {b : Nat} {t : TypeId} {a0 a1 a2 : Value}
    (ht : tmps[i]?.getD undef = .pointer (some ⟨b, 0, none⟩)) (h : w.heap[b]? = some (.cells #[a0, a1, a2] t (0, 0))) : (results fn tmps).run Tryz.prog w = .ok (.agg #[a0, a1, a2]) w := by
  have c0 : w.cell? ⟨b, 0, none⟩ = some a0 := by simp [World.cell?, h]
  have c1 : w.cell? ⟨b, 1, none⟩ = some a1 := by simp [World.cell?, h]
  have c2 : w.cell? ⟨b, 2, none⟩ = some a2 := by simp [World.cell?, h]
  simp [results, hres, ht, go_sem, c0, c1, c2]

theorem ret_pace {fn : Func} {i : Nat} (hres : fn.results = #[ResultVar.cell i 35]) {tmps : Array Value} {w : World} {b : Nat} {t : TypeId} {a0 a1 a2 a3 : Value}
    (ht : tmps[i]?.getD undef = .pointer (some ⟨b, 0, none⟩)) (h : w.heap[b]? = some (.cells #[a0, a1, a2, a3] t (0, 0))) : (results fn tmps).run Tryz.prog w = .ok (.agg #[a0, a1, a2, a3]) w := by
  have c0 : w.cell? ⟨b, 0, none⟩ = some a0 := by simp [World.cell?, h]
  have c1 : w.cell? ⟨b, 1, none⟩ = some a1 := by simp [World.cell?, h]
  have c2 : w.cell? ⟨b, 2, none⟩ = some a2 := by simp [World.cell?, h]
  have c3 : w.cell? ⟨b, 3, none⟩ = some a3 := by simp [World.cell?, h]
  simp [results, hres, ht, go_sem, c0, c1, c2, c3]

set_option maxHeartbeats 1000000 in
theorem to_metric (s : ByteArray) (k g : Int) (w : World) :
    Calls Tryz.prog 56 #[.agg #[.string s, .int .i64 k, .int .i64 g]] w fun e w' => e = .returned (.agg #[.string s, .int .i64 k, .int .i64 g]) ∧ Below w.heap.size w w' := by
  have HZ := Lib.hid (three_new w (.cells #[.string s, .int .i64 k, .int .i64 g] 72) (.cells #[.string s, .int .i64 k, .int .i64 g] 85) (.cells #[.string s, .int .i64 k, .int .i64 g] 85))
  go_enter Tryz.func56, Tryz.ntmps56
  go_wp2
  exact bodyPost_ret (ret_met Tryz.results56 rfl HZ.out.2.1) rfl ⟨rfl, HZ.out.2.2.2.1⟩

set_option maxHeartbeats 1000000 in
theorem to_pace (u d us ds : Int) (w : World) :
    Calls Tryz.prog 22 #[.agg #[.int .i64 u, .int .i64 d, .int .i64 us, .int .i64 ds]] w fun e w' => e = .returned (.agg #[.int .i64 u, .int .i64 d, .int .i64 us, .int .i64 ds]) ∧ Below w.heap.size w w' := by
  have HZ := Lib.hid (three_new w (.cells #[.int .i64 u, .int .i64 d, .int .i64 us, .int .i64 ds] 24) (.cells #[.int .i64 u, .int .i64 d, .int .i64 us, .int .i64 ds] 35) (.cells #[.int .i64 u, .int .i64 d, .int .i64 us, .int .i64 ds] 35))
  go_enter Tryz.func22, Tryz.ntmps22
  go_wp2
  exact bodyPost_ret (ret_pace Tryz.results22 rfl HZ.out.2.1) rfl ⟨rfl, HZ.out.2.2.2.1⟩

set_option maxHeartbeats 1000000 in
theorem eq_pace (u d us ds : Int) (w : World) :
    Calls Tryz.prog 34 #[.agg #[.int .i64 u, .int .i64 d, .int .i64 us, .int .i64 ds], .agg #[.int .i64 u, .int .i64 d, .int .i64 us, .int .i64 ds]] w fun e w' => e = .returned (.bool true) ∧ Below w.heap.size w w' := by
  have HB : Hid (∀ o o', Below w.heap.size w ((w.alloc o).alloc o')) := fun o o' => ((Below.refl _ w).alloc (Nat.le_refl _) o).alloc (by simp) o'
  go_enter Tryz.func34, Tryz.ntmps34
  go_wp2
  go_ret
  exact ⟨rfl, HB.out _ _⟩
end Go.Proofs.YtmbjmjbljnlifaaGreatDoor
