/-
  What is proved: whatever reads as a metric, a pace, a note or an order of the laws' own types lies in memory as such.; the program's FullTree of an order that is right: its tree, in memory of its own; of others the zero node; condition: the library's table of powers of ten starts as the program's text lays it.; for any order the program's FullTree answers as the model's FullTree does, in memory of its own, and the law returns true with its argument as it was; condition: the library's table of powers of ten starts as the program's text lays it.; the model's MidTree of an order that is right: its tree, in memory of its own; of others the zero node; no condition.
-/
import Derived.Test.YtfmkhogpnnobeaaGreatDoorPartAD
import Derived.Test.YtfmkhogpnnobeaaGreatDoorRows
import Derived.ProofKit
import Derived.OpenShut
import Derived.Carry
import Derived.Deep.Strs
import Derived.Test.YtfmkhogpnnobeaaGreatDoorPartAU
import Derived.Test.YtfmkhogpnnobeaaGreatDoorPartAO
import Derived.Test.YtfmkhogpnnobeaaGreatDoorPartAX
import Derived.Test.YtfmkhogpnnobeaaGreatDoorPartAS
import Derived.Test.YtfmkhogpnnobeaaGreatDoorPartBE
import Derived.Test.YtfmkhogpnnobeaaGreatDoorPartBF
import Derived.Test.YtfmkhogpnnobeaaGreatDoorPartAF
import Derived.Test.YtfmkhogpnnobeaaGreatDoorPartAT
/- whatever reads as a metric, a pace, a note or an order of the laws' own types lies in memory as such. -/
namespace Go.Proofs.YtfmkhogpnnobeaaGreatDoor
open Go Go.RowKit Go.ChangeShapes Go.WideShapes

section
variable {H : Type} {enc : TypeId × Value → H} {w : World} {base : Nat} {held : Bool}

theorem fit_of {x : Int} (h : (Lit.int .i64 x).wf = true) : Fit x := bounds_i64 h

theorem cellsO_string : Tryz.prog.cellsOf 9 = 1 := by kernel_rfl
theorem cellsO_int : Tryz.prog.cellsOf 3 = 1 := by kernel_rfl
theorem cellsO_met : Tryz.prog.cellsOf 80 = 3 := by kernel_rfl
theorem cellsO_pace : Tryz.prog.cellsOf 24 = 4 := by kernel_rfl
theorem cellsO_note : Tryz.prog.cellsOf 83 = 2 := by kernel_rfl
theorem cellsO_order : Tryz.prog.cellsOf 27 = 10 := by kernel_rfl
theorem cellsO_mets : Tryz.prog.cellsOf 22 = 1 := by kernel_rfl
theorem cellsO_nots : Tryz.prog.cellsOf 25 = 1 := by kernel_rfl

set_option maxRecDepth 100000 in
theorem open_met {fuel : Nat} {cs : List Value} {x : DataW H × List MemPlace} (h : DataW.trod enc Tryz.prog w base (fun _ => true) held fuel 80 cs = some x) : ∃ m : Met, cs = m.row ∧ m.ok := by
  obtain ⟨xs, n, rfl, rfl, hl, hlen, hf⟩ := DataW.trod_struct Tryz.underlying80 h
  rw [cellsO_met] at hl
  have hlen3 : xs.length = 3 := hlen
  clear hlen
  match xs, hlen3, cs, hl with
  | [y0, y1, y2], _, [v0, v1, v2], _ =>
    have g0 := hf 0 _ rfl
    have g1 := hf 1 _ rfl
    have g2 := hf 2 _ rfl
    simp [cellsO_int, cellsO_string] at g0 g1 g2
    obtain ⟨s, hv0, -, w0⟩ := DataW.trod_string Tryz.underlying9 g0
    obtain ⟨k, hv1, -, w1⟩ := DataW.trod_int Tryz.underlying3 g1
    obtain ⟨m, hv2, -, w2⟩ := DataW.trod_int Tryz.underlying3 g2
    simp at hv0 hv1 hv2
    subst hv0 hv1 hv2
    exact ⟨⟨s, k, m⟩, rfl, w0, fit_of w1, fit_of w2⟩

set_option maxRecDepth 100000 in
theorem open_note {fuel : Nat} {cs : List Value} {x : DataW H × List MemPlace} (h : DataW.trod enc Tryz.prog w base (fun _ => true) held fuel 83 cs = some x) : ∃ m : Not, cs = m.row ∧ m.ok := by
  obtain ⟨xs, n, rfl, rfl, hl, hlen, hf⟩ := DataW.trod_struct Tryz.underlying83 h
  rw [cellsO_note] at hl
  have hlen3 : xs.length = 2 := hlen
  clear hlen
  match xs, hlen3, cs, hl with
  | [y0, y1], _, [v0, v1], _ =>
    have g0 := hf 0 _ rfl
    have g1 := hf 1 _ rfl
    simp [cellsO_string] at g0 g1
    obtain ⟨s, hv0, -, w0⟩ := DataW.trod_string Tryz.underlying9 g0
    obtain ⟨k, hv1, -, w1⟩ := DataW.trod_string Tryz.underlying9 g1
    simp at hv0 hv1
    subst hv0 hv1
    exact ⟨⟨s, k⟩, rfl, w0, w1⟩

set_option maxRecDepth 100000 in
theorem open_pace {fuel : Nat} {cs : List Value} {x : DataW H × List MemPlace} (h : DataW.trod enc Tryz.prog w base (fun _ => true) held fuel 24 cs = some x) : ∃ p : Pac, cs = [.int .i64 p.up, .int .i64 p.down, .int .i64 p.ups, .int .i64 p.downs] ∧ p.ok := by
  obtain ⟨xs, n, rfl, rfl, hl, hlen, hf⟩ := DataW.trod_struct Tryz.underlying24 h
  rw [cellsO_pace] at hl
  have hlen3 : xs.length = 4 := hlen
  clear hlen
  match xs, hlen3, cs, hl with
  | [y0, y1, y2, y3], _, [v0, v1, v2, v3], _ =>
    have g0 := hf 0 _ rfl
    have g1 := hf 1 _ rfl
    have g2 := hf 2 _ rfl
    have g3 := hf 3 _ rfl
    simp [cellsO_int] at g0 g1 g2 g3
    obtain ⟨a, hv0, -, w0⟩ := DataW.trod_int Tryz.underlying3 g0
    obtain ⟨b, hv1, -, w1⟩ := DataW.trod_int Tryz.underlying3 g1
    obtain ⟨c, hv2, -, w2⟩ := DataW.trod_int Tryz.underlying3 g2
    obtain ⟨d, hv3, -, w3⟩ := DataW.trod_int Tryz.underlying3 g3
    simp at hv0 hv1 hv2 hv3
    subst hv0 hv1 hv2 hv3
    exact ⟨⟨a, b, c, d⟩, rfl, fit_of w0, fit_of w1, fit_of w2, fit_of w3⟩

/-- A list of small structs that is read. -/
theorem open_row {α : Type} (ec : α → List Value) (ok : α → Prop) (k : Nat) (hk : 0 < k) (hlen : ∀ a, (ec a).length = k) {ts te : TypeId} (und : Tryz.prog.underlying ts = some (.slice te)) (hc : Tryz.prog.cellsOf te = k) [Inhabited α]
    (op : ∀ (fuel : Nat) (cs : List Value) (x : DataW H × List MemPlace), DataW.trod enc Tryz.prog w base (fun _ => true) held fuel te cs = some x → ∃ a, cs = ec a ∧ ok a)
    {fuel : Nat} {cs : List Value} {x : DataW H × List MemPlace} (h : DataW.trod enc Tryz.prog w base (fun _ => true) held fuel ts cs = some x) : ∃ v xs F, cs = [v] ∧ RowAt ec ok k w v xs F := by
  rcases DataW.trod_slice und h with ⟨rfl, -⟩ | ⟨a, len, cap, elems, rest, n', rfl, rfl, -, hb, hlc, hm, hlen', hel, hres, -⟩
  · exact ⟨_, [], _, rfl, none, 0, 0, 0, rfl, Nat.le_refl _, Nat.zero_le _, fun h => absurd h (by simp), rfl, fun i hi => absurd hi (by simp), by rw [Nat.zero_mul]; exact Room.nil _ _ _⟩
  · obtain ⟨ab, aoff, aspot⟩ := a
    obtain ⟨hrl, hres⟩ := hres rfl
    rw [hc] at hel hres
    have every : ∀ i, i < cap → ∃ cs' y, w.cells? base ((⟨ab, aoff, aspot⟩ : Addr).add (i * k)) k = some cs' ∧ DataW.trod enc Tryz.prog w base (fun _ => true) held n' te cs' = some y := fun i hi => by
      by_cases hl : i < len
      · have he := hel i hl
        rw [List.getElem?_eq_getElem (by omega), Option.bind_eq_some_iff] at he
        obtain ⟨cs', hc, ht⟩ := he
        exact ⟨cs', _, hc, ht⟩
      · have he := hres (i - len) (by omega)
        rw [List.getElem?_eq_getElem (by omega), Option.bind_eq_some_iff] at he
        obtain ⟨cs', hc, ht⟩ := he
        rw [show len + (i - len) = i by omega] at hc
        exact ⟨cs', _, hc, ht⟩
    have each : ∀ i, i < cap → ∃ q : α, aspot = none ∧ (∀ j, j < k → w.cell? ⟨ab, aoff + i * k + j, none⟩ = (ec q)[j]?) ∧ ok q := fun i hi => by
      obtain ⟨cs', _, hc', ht⟩ := every i hi
      obtain ⟨q, rfl, hL⟩ := op n' cs' _ ht
      obtain ⟨-, -, hcell⟩ := World.cells?_some hc'
      have hspot : aspot = none := by
        obtain ⟨cs0, _, hc0, ht0⟩ := every 0 (by omega)
        obtain ⟨q0, rfl, _⟩ := op n' cs0 _ ht0
        obtain ⟨-, -, hcell0⟩ := World.cells?_some hc0
        have h0 := hcell0 0 hk
        rw [List.getElem?_eq_getElem (by rw [hlen]; exact hk)] at h0
        simp [Addr.add] at h0
        simpa using World.cell?_spot h0
      subst hspot
      refine ⟨q, rfl, fun j hj => ?_, hL⟩
      have := hcell j hj
      rw [add_plain, add_plain] at this
      exact this
    obtain ⟨Q, hQ⟩ := Go.Deep.choose_lt (α := α) each
    by_cases h0 : cap = 0
    · subst h0
      obtain rfl : len = 0 := by omega
      exact ⟨_, [], _, rfl, _, 0, 0, 0, rfl, Nat.zero_le _, hm, fun h => absurd h (by simp), rfl, fun i hi => absurd hi (by simp), by rw [Nat.zero_mul]; exact Room.nil _ _ _⟩
    · have hspot : aspot = none := (hQ 0 (by omega)).1
      subst hspot
      refine ⟨_, (List.range len).map Q, _, rfl, _, cap, ab, aoff, by simp, by simpa using hlc, hm, fun _ => rfl, rfl, fun i hi => ?_, fun i hi => ?_⟩
      · simp only [List.length_map, List.length_range] at hi
        have := (hQ i (by omega)).2
        simpa using ⟨this.2, this.1⟩
      · have hi' : i / k < cap := Nat.div_lt_of_lt_mul (by rw [Nat.mul_comm]; exact hi)
        have := (hQ (i / k) hi').2.1 (i % k) (Nat.mod_lt _ hk)
        rw [Nat.add_assoc, show i / k * k + i % k = i by rw [Nat.mul_comm]; exact Nat.div_add_mod i k] at this
        rw [this, List.getElem?_eq_getElem (by rw [hlen]; exact Nat.mod_lt _ hk)]
        rfl

instance : Inhabited Met := ⟨⟨⟨#[]⟩, 0, 0⟩⟩
instance : Inhabited Not := ⟨⟨⟨#[]⟩, ⟨#[]⟩⟩⟩

set_option maxRecDepth 100000 in
theorem open_order {fuel : Nat} {cs : List Value} {x : DataW H × List MemPlace} (h : DataW.trod enc Tryz.prog w base (fun _ => true) held fuel 27 cs = some x) : ∃ (o : Ord) (mv nv : Value) (FM FN : List Nat), cs = o.row mv nv ∧ OrdAt w o mv nv FM FN := by
  obtain ⟨xs, n, rfl, rfl, hl, hlen, hf⟩ := DataW.trod_struct Tryz.underlying27 h
  rw [cellsO_order] at hl
  have hlen3 : xs.length = 7 := hlen
  clear hlen
  match xs, hlen3, cs, hl with
  | [y0, y1, y2, y3, y4, y5, y6], _, [v0, v1, v2, v3, v4, v5, v6, v7, v8, v9], _ =>
    have g0 := hf 0 _ rfl
    have g1 := hf 1 _ rfl
    have g2 := hf 2 _ rfl
    have g3 := hf 3 _ rfl
    have g4 := hf 4 _ rfl
    have g5 := hf 5 _ rfl
    have g6 := hf 6 _ rfl
    simp [cellsO_string, cellsO_int, cellsO_pace, cellsO_mets, cellsO_nots] at g0 g1 g2 g3 g4 g5 g6
    obtain ⟨s, hv0, -, w0⟩ := DataW.trod_string Tryz.underlying9 g0
    obtain ⟨t, hv1, -, w1⟩ := DataW.trod_string Tryz.underlying9 g1
    obtain ⟨lo, hv2, -, w2⟩ := DataW.trod_int Tryz.underlying3 g2
    obtain ⟨hi, hv3, -, w3⟩ := DataW.trod_int Tryz.underlying3 g3
    obtain ⟨mv, ms, FM, hv4, w4⟩ := open_row Met.row Met.ok 3 (by decide) (fun _ => rfl) Tryz.underlying22 cellsO_met (fun _ _ _ h => open_met h) g4
    obtain ⟨p, hv5, w5⟩ := open_pace g5
    obtain ⟨nv, ns, FN, hv6, w6⟩ := open_row Not.row Not.ok 2 (by decide) (fun _ => rfl) Tryz.underlying25 cellsO_note (fun _ _ _ h => open_note h) g6
    simp at hv0 hv1 hv2 hv3 hv4 hv5 hv6
    subst hv0 hv1 hv2 hv3 hv4 hv6
    obtain ⟨rfl, rfl, rfl, rfl⟩ := hv5
    exact ⟨⟨s, t, lo, hi, ms, p, ns⟩, _, _, FM, FN, rfl, w0, w1, fit_of w2, fit_of w3, w5, w4, w6⟩
end
end Go.Proofs.YtfmkhogpnnobeaaGreatDoor

/- the program's FullTree of an order that is right: its tree, in memory of its own; of others the zero node; condition: the library's table of powers of ten starts as the program's text lays it. -/
namespace Go.Proofs.YtfmkhogpnnobeaaGreatDoor
open Go Go.RowKit

set_option maxRecDepth 100000 in
set_option maxHeartbeats 1600000 in
theorem impl_fullTree_no {O : Ord} {mv nv : Value} {FM FN : List Nat} (w : World) (ho : OrdAt w O mv nv FM FN) (hc : O.okB = false) :
    Calls Tryz.prog 49 #[.agg #[.string O.name, .string O.target, .int .i64 O.low, .int .i64 O.high, mv, .int .i64 O.pace.up, .int .i64 O.pace.down, .int .i64 O.pace.ups, .int .i64 O.pace.downs, nv]] w fun e w' => e = .returned (.agg #[.int .i64 0, .int .i64 0, .string ⟨#[]⟩, .slice none 0 0, .slice none 0 0]) ∧ Below w.heap.size w w' := by
  have HO := Lib.hid fun wr (hb : Below w.heap.size w wr) => impl_orderOk wr (ho.stay hb (Nat.le_refl _))
  obtain ⟨⟨om, cm, rfl⟩, on_, cn, rfl⟩ := ho.slices
  clear ho
  have H2 := Lib.hid (Two.start w (.cells #[.string O.name, .string O.target, .int .i64 O.low, .int .i64 O.high, .slice om O.mets.length cm, .int .i64 O.pace.up, .int .i64 O.pace.down, .int .i64 O.pace.ups, .int .i64 O.pace.downs, .slice on_ O.notes.length cn] 38) (.cells #[.int .i64 0, .int .i64 0, .string ⟨#[]⟩, .slice none 0 0, .slice none 0 0] 32))
  go_enter Tryz.func49, Tryz.ntmps49
  go_wp2_with (first
    | (go_at_call 29; refine (HO.out _ H2.out.below).mono ?_; rintro e w1 ⟨rfl, hb⟩; rw [hc]; replace H2 := Lib.hid (H2.out.next hb); clear hb; obtain ⟨r0, r1, r2, r3, r4, r5⟩ := five H2.out.res)
    | fail)
  exact bodyPost_ret (ret_node Tryz.results49 rfl (set5_end H2.out.res _ _ _ _ _)) rfl ⟨rfl, set5_below H2.out.below (by omega) _ _ _ _ _ _⟩

set_option maxRecDepth 100000 in
set_option maxHeartbeats 1600000 in
theorem impl_fullTree_yes {O : Ord} {mv nv : Value} {FM FN : List Nat} (w : World) (ho : OrdAt w O mv nv FM FN) (hc : O.okB = true) (hlm : O.mets.length ≤ 1000000) (hln : O.notes.length ≤ 1000000) (htab : Lib.TabIs Tryz.prog w "internal/strconv.uint64pow10" .u64 Lib.pow10Tab) :
    Calls Tryz.prog 49 #[.agg #[.string O.name, .string O.target, .int .i64 O.low, .int .i64 O.high, mv, .int .i64 O.pace.up, .int .i64 O.pace.down, .int .i64 O.pace.ups, .int .i64 O.pace.downs, nv]] w fun e w' => ∃ kv dv F, e = .returned ((fullT O).val kv dv) ∧ Lies w' (fullT O) kv dv F ∧ Fresh w w' F ∧ Below w.heap.size w w' := by
  have HO := Lib.hid fun wr (hb : Below w.heap.size w wr) => impl_orderOk wr (ho.stay hb (Nat.le_refl _))
  have HT := Lib.hid (Lib.tabBelow_of_tabIs htab)
  have HTr : Hid (∀ wr, Below w.heap.size w wr → Calls Tryz.prog 73 #[.agg #[.string O.name, .string O.target, .int .i64 O.low, .int .i64 O.high, mv, .int .i64 O.pace.up, .int .i64 O.pace.down, .int .i64 O.pace.ups, .int .i64 O.pace.downs, nv]] wr fun e w' => ∃ kv dv F, e = .returned (.agg #[.int .i64 (fullT O).k, .int .i64 (fullT O).n, .string (fullT O).s, kv, dv]) ∧ Lies w' (fullT O) kv dv F ∧ Fresh wr w' F ∧ Below wr.heap.size wr w') := fun wr hb => impl_fullT wr (ho.stay hb (Nat.le_refl _)) hlm hln (HT.out _ hb)
  obtain ⟨⟨om, cm, rfl⟩, on_, cn, rfl⟩ := ho.slices
  clear ho htab
  generalize fullT O = T at *
  have H2 := Lib.hid (Two.start w (.cells #[.string O.name, .string O.target, .int .i64 O.low, .int .i64 O.high, .slice om O.mets.length cm, .int .i64 O.pace.up, .int .i64 O.pace.down, .int .i64 O.pace.ups, .int .i64 O.pace.downs, .slice on_ O.notes.length cn] 38) (.cells #[.int .i64 0, .int .i64 0, .string ⟨#[]⟩, .slice none 0 0, .slice none 0 0] 32))
  show Calls Tryz.prog 49 _ w fun e w' => ∃ kv dv F, e = .returned (.agg #[.int .i64 T.k, .int .i64 T.n, .string T.s, kv, dv]) ∧ Lies w' T kv dv F ∧ Fresh w w' F ∧ Below w.heap.size w w'
  go_enter Tryz.func49, Tryz.ntmps49
  go_wp2_with (first
    | (go_at_call 29; refine (HO.out _ H2.out.below).mono ?_; rintro e w1 ⟨rfl, hb⟩; rw [hc]; replace H2 := Lib.hid (H2.out.next hb); clear hb; have x0 := cell_of H2.out.arg 0; have x1 := cell_of H2.out.arg 1; have x2 := cell_of H2.out.arg 2; have x3 := cell_of H2.out.arg 3; have x4 := cell_of H2.out.arg 4; have x5 := cell_of H2.out.arg 5; have x6 := cell_of H2.out.arg 6; have x7 := cell_of H2.out.arg 7; have x8 := cell_of H2.out.arg 8; have x9 := cell_of H2.out.arg 9; simp only [List.getElem?_toArray, List.getElem?_cons_zero, List.getElem?_cons_succ] at x0 x1 x2 x3 x4 x5 x6 x7 x8 x9)
    | (go_at_call 73; refine (HTr.out _ H2.out.below).mono ?_; rintro e w2 ⟨kv, dv, F, rfl, hl, hf, hb⟩; obtain ⟨⟨a1, b1, rfl⟩, ⟨a2, b2, rfl⟩⟩ := hl.slices; have HL := Lib.hid (res_keep H2.out hl hf (Nat.le_refl _)); clear hl hf; replace H2 := Lib.hid (H2.out.next hb); clear hb; obtain ⟨s0, s1, s2, s3, s4, s5⟩ := five H2.out.res)
    | fail)
  have HF := res_fin H2.out HL.out
  exact bodyPost_ret (ret_node Tryz.results49 rfl HF.1) rfl ⟨_, _, _, rfl, HF.2.1, HF.2.2.1, HF.2.2.2⟩
end Go.Proofs.YtfmkhogpnnobeaaGreatDoor

/- for any order the program's FullTree answers as the model's FullTree does, in memory of its own, and the law returns true with its argument as it was; condition: the library's table of powers of ten starts as the program's text lays it. -/
namespace Go.Proofs.YtfmkhogpnnobeaaGreatDoor
open Go Go.RowKit

/-- What FullTree answers. -/
noncomputable def ansT (O : Ord) : RT := if O.okB = true then fullT O else .node 0 0 ⟨#[]⟩ [] []

theorem ans_sz {O : Ord} (hp : O.pace.ok) (hg : ∀ m ∈ O.mets, m.ok) : (ansT O).sz ≤ 10000 := by
  unfold ansT
  split
  · rename_i h
    have a := mets_sz h hg
    have b := notes_sz h
    have c := head_sz h ⟨#[102, 117, 108, 108]⟩ (by decide)
    have d := pacT_sz O.pace hp
    have e := full_sets O
    have z1 := setT_sz (headT ⟨#[102, 117, 108, 108]⟩ O) (metsT O.mets) ⟨#[109, 101, 116, 114, 105, 99, 115]⟩
    have z2 := setT_sz (setT (headT ⟨#[102, 117, 108, 108]⟩ O) ⟨#[109, 101, 116, 114, 105, 99, 115]⟩ (metsT O.mets)) (pacT O.pace) ⟨#[112, 97, 99, 101]⟩
    have z3 := setT_sz (setT (setT (headT ⟨#[102, 117, 108, 108]⟩ O) ⟨#[109, 101, 116, 114, 105, 99, 115]⟩ (metsT O.mets)) ⟨#[112, 97, 99, 101]⟩ (pacT O.pace)) (notesT O.notes) ⟨#[110, 111, 116, 101, 115]⟩
    have k1 : (⟨#[109, 101, 116, 114, 105, 99, 115]⟩ : ByteArray).size = 7 := rfl
    have k2 : (⟨#[112, 97, 99, 101]⟩ : ByteArray).size = 4 := rfl
    have k3 : (⟨#[110, 111, 116, 101, 115]⟩ : ByteArray).size = 5 := rfl
    rw [e] at z3
    omega
  · have k : (⟨#[]⟩ : ByteArray).size = 0 := rfl
    simp only [RT.sz, szAll, strSz, k, List.length_nil, List.map_nil, List.sum_nil]
    omega

theorem impl_full {O : Ord} {mv nv : Value} {FM FN : List Nat} (w : World) (ho : OrdAt w O mv nv FM FN) (htab : Lib.TabIs Tryz.prog w "internal/strconv.uint64pow10" .u64 Lib.pow10Tab) :
    Calls Tryz.prog 49 #[.agg #[.string O.name, .string O.target, .int .i64 O.low, .int .i64 O.high, mv, .int .i64 O.pace.up, .int .i64 O.pace.down, .int .i64 O.pace.ups, .int .i64 O.pace.downs, nv]] w fun e w' => ∃ kv dv F, e = .returned (.agg #[.int .i64 (ansT O).k, .int .i64 (ansT O).n, .string (ansT O).s, kv, dv]) ∧ Lies w' (ansT O) kv dv F ∧ Fresh w w' F ∧ Below w.heap.size w w' := by
  by_cases hc : O.okB = true
  · have e : ansT O = fullT O := if_pos hc
    rw [e]
    obtain ⟨-, -, ⟨hm, -⟩, hn, -⟩ := okB_out hc
    exact impl_fullTree_yes w ho hc (by omega) (by omega) htab
  · have e : ansT O = .node 0 0 ⟨#[]⟩ [] [] := if_neg hc
    rw [e]
    refine (impl_fullTree_no w ho (by simpa using hc)).mono ?_
    rintro e w' ⟨rfl, hb⟩
    exact ⟨_, _, [], rfl, leaf_lies w' ⟨by decide, by decide⟩ ⟨by decide, by decide⟩ (by decide), Fresh.nil _ _, hb⟩

theorem spec_full {O : Ord} {mv nv : Value} {FM FN : List Nat} (w : World) (ho : OrdAt w O mv nv FM FN) :
    Calls Tryz.prog 48 #[.agg #[.string O.name, .string O.target, .int .i64 O.low, .int .i64 O.high, mv, .int .i64 O.pace.up, .int .i64 O.pace.down, .int .i64 O.pace.ups, .int .i64 O.pace.downs, nv]] w fun e w' => ∃ kv dv F, e = .returned (.agg #[.int .i64 (ansT O).k, .int .i64 (ansT O).n, .string (ansT O).s, kv, dv]) ∧ Lies w' (ansT O) kv dv F ∧ Fresh w w' F ∧ Below w.heap.size w w' := by
  by_cases hc : O.okB = true
  · have e : ansT O = fullT O := if_pos hc
    rw [e]
    exact spec_fullTree_yes w ho hc
  · have e : ansT O = .node 0 0 ⟨#[]⟩ [] [] := if_neg hc
    rw [e]
    refine (spec_fullTree_no w ho (by simpa using hc)).mono ?_
    rintro e w' ⟨rfl, hb⟩
    exact ⟨_, _, [], rfl, leaf_lies w' ⟨by decide, by decide⟩ ⟨by decide, by decide⟩ (by decide), Fresh.nil _ _, hb⟩

end Go.Proofs.YtfmkhogpnnobeaaGreatDoor

/- the model's MidTree of an order that is right: its tree, in memory of its own; of others the zero node; no condition. -/
namespace Go.Proofs.YtfmkhogpnnobeaaGreatDoor
open Go Go.RowKit

set_option maxRecDepth 100000 in
set_option maxHeartbeats 1600000 in
theorem spec_midTree_no {O : Ord} {mv nv : Value} {FM FN : List Nat} (w : World) (ho : OrdAt w O mv nv FM FN) (hc : O.okB = false) :
    Calls Tryz.prog 7 #[.agg #[.string O.name, .string O.target, .int .i64 O.low, .int .i64 O.high, mv, .int .i64 O.pace.up, .int .i64 O.pace.down, .int .i64 O.pace.ups, .int .i64 O.pace.downs, nv]] w fun e w' => e = .returned (.agg #[.int .i64 0, .int .i64 0, .string ⟨#[]⟩, .slice none 0 0, .slice none 0 0]) ∧ Below w.heap.size w w' := by
  have HO := Lib.hid fun wr (hb : Below w.heap.size w wr) => spec_orderOk wr (ho.stay hb (Nat.le_refl _))
  obtain ⟨⟨om, cm, rfl⟩, on_, cn, rfl⟩ := ho.slices
  clear ho
  have H2 := Lib.hid (Two.start w (.cells #[.string O.name, .string O.target, .int .i64 O.low, .int .i64 O.high, .slice om O.mets.length cm, .int .i64 O.pace.up, .int .i64 O.pace.down, .int .i64 O.pace.ups, .int .i64 O.pace.downs, .slice on_ O.notes.length cn] 38) (.cells #[.int .i64 0, .int .i64 0, .string ⟨#[]⟩, .slice none 0 0, .slice none 0 0] 32))
  go_enter Tryz.func7, Tryz.ntmps7
  go_wp2_with (first
    | (go_at_call 21; refine (HO.out _ H2.out.below).mono ?_; rintro e w1 ⟨rfl, hb⟩; rw [hc]; replace H2 := Lib.hid (H2.out.next hb); clear hb; obtain ⟨r0, r1, r2, r3, r4, r5⟩ := five H2.out.res)
    | fail)
  exact bodyPost_ret (ret_node Tryz.results7 rfl (set5_end H2.out.res _ _ _ _ _)) rfl ⟨rfl, set5_below H2.out.below (by omega) _ _ _ _ _ _⟩

set_option maxRecDepth 100000 in
set_option maxHeartbeats 8000000 in
theorem spec_midTree_yes {O : Ord} {mv nv : Value} {FM FN : List Nat} (w : World) (ho : OrdAt w O mv nv FM FN) (hc : O.okB = true) :
    Calls Tryz.prog 7 #[.agg #[.string O.name, .string O.target, .int .i64 O.low, .int .i64 O.high, mv, .int .i64 O.pace.up, .int .i64 O.pace.down, .int .i64 O.pace.ups, .int .i64 O.pace.downs, nv]] w fun e w' => ∃ kv dv F, e = .returned (.agg #[.int .i64 (midT O).k, .int .i64 (midT O).n, .string (midT O).s, kv, dv]) ∧ Lies w' (midT O) kv dv F ∧ Fresh w w' F ∧ Below w.heap.size w w' := by
  obtain ⟨hn1, hn2, ⟨hm1, hm2⟩, -⟩ := okB_out hc
  have hmz := mets_sz hc (RowAt.every ho.mets)
  have hhz := head_sz hc ⟨#[109, 105, 100, 100, 108, 101]⟩ (by decide)
  have hsz := saved_sz hc
  have HO := Lib.hid fun wr (hb : Below w.heap.size w wr) => spec_orderOk wr (ho.stay hb (Nat.le_refl _))
  have HMs := Lib.hid fun wr (hb : Below w.heap.size w wr) => spec_l7Metrics wr (RowAt.stay ho.mets (by decide) hb (Nat.le_refl _)) (by omega) (fun m hm => by have := hm2 m hm; omega)
  have HSv : Hid (∀ wr, Below w.heap.size w wr → Calls Tryz.prog 25 #[.agg #[.string O.name, .string O.target, .int .i64 O.low, .int .i64 O.high, mv, .int .i64 O.pace.up, .int .i64 O.pace.down, .int .i64 O.pace.ups, .int .i64 O.pace.downs, nv]] wr fun e w' => ∃ kv dv F, e = .returned (.agg #[.int .i64 (savedT O).k, .int .i64 (savedT O).n, .string (savedT O).s, kv, dv]) ∧ Lies w' (savedT O) kv dv F ∧ Fresh wr w' F ∧ Below wr.heap.size wr w') := fun wr hb => spec_l8Saved wr (ho.stay hb (Nat.le_refl _)) hc
  have HHs : Hid (∀ (om on_ : Option Addr) (cm cn : Nat) W, Calls Tryz.prog 23 #[.agg #[.string O.name, .string O.target, .int .i64 O.low, .int .i64 O.high, .slice om O.mets.length cm, .int .i64 O.pace.up, .int .i64 O.pace.down, .int .i64 O.pace.ups, .int .i64 O.pace.downs, .slice on_ O.notes.length cn], .string ⟨#[109, 105, 100, 100, 108, 101]⟩] W fun e w' => ∃ kv dv F, e = .returned (.agg #[.int .i64 (headT ⟨#[109, 105, 100, 100, 108, 101]⟩ O).k, .int .i64 (headT ⟨#[109, 105, 100, 100, 108, 101]⟩ O).n, .string (headT ⟨#[109, 105, 100, 100, 108, 101]⟩ O).s, kv, dv]) ∧ Lies w' (headT ⟨#[109, 105, 100, 100, 108, 101]⟩ O) kv dv F ∧ Fresh W w' F ∧ Below W.heap.size W w') := fun om on_ cm cn W => spec_l7Head ⟨#[109, 105, 100, 100, 108, 101]⟩ O om on_ _ cm _ cn hn1 hn2 (by decide) ho.low ho.high W
  have hE := mid_sets2 O (savedT O)
  obtain ⟨⟨om, cm, rfl⟩, on_, cn, rfl⟩ := ho.slices
  have z1 := setT_sz (headT ⟨#[109, 105, 100, 100, 108, 101]⟩ O) (metsT O.mets) ⟨#[109, 101, 116, 114, 105, 99, 115]⟩
  have k1 : (⟨#[109, 101, 116, 114, 105, 99, 115]⟩ : ByteArray).size = 7 := rfl
  have hRm : midT O = midB O (savedT O) := rfl
  rw [hRm]
  clear ho hm1 hm2 hn1 hn2
  generalize hTH : headT ⟨#[109, 105, 100, 100, 108, 101]⟩ O = TH at *
  generalize hT1 : setT TH ⟨#[109, 101, 116, 114, 105, 99, 115]⟩ (metsT O.mets) = T1 at *
  generalize midB O (savedT O) = T3 at *
  generalize savedT O = TS at *
  have HS1 : Hid (∀ X kv dv G kx dx G', Lies X TH kv dv G → Lies X (metsT O.mets) kx dx G' → Calls Tryz.prog 22 #[.agg #[.int .i64 TH.k, .int .i64 TH.n, .string TH.s, kv, dv], .string ⟨#[109, 101, 116, 114, 105, 99, 115]⟩, .agg #[.int .i64 4, .int .i64 0, .string ⟨#[]⟩, kx, dx]] X fun e w' => ∃ kr dr F, e = .returned (.agg #[.int .i64 T1.k, .int .i64 T1.n, .string T1.s, kr, dr]) ∧ Lies w' T1 kr dr F ∧ Fresh X w' F ∧ Below X.heap.size X w') := fun X kv dv G kx dx G' hl hx => by have h := spec_set TH (metsT O.mets) ⟨#[109, 101, 116, 114, 105, 99, 115]⟩ X kv dv kx dx G G' hl hx (by omega) (by omega) (by decide); rw [hT1] at h; exact h
  have HS2 : Hid (∀ X kv dv G kx dx G', Lies X T1 kv dv G → Lies X TS kx dx G' → Calls Tryz.prog 22 #[.agg #[.int .i64 T1.k, .int .i64 T1.n, .string T1.s, kv, dv], .string ⟨#[110, 111, 116, 101, 115]⟩, .agg #[.int .i64 TS.k, .int .i64 TS.n, .string TS.s, kx, dx]] X fun e w' => ∃ kr dr F, e = .returned (.agg #[.int .i64 T3.k, .int .i64 T3.n, .string T3.s, kr, dr]) ∧ Lies w' T3 kr dr F ∧ Fresh X w' F ∧ Below X.heap.size X w') := fun X kv dv G kx dx G' hl hx => by have h := spec_set T1 TS ⟨#[110, 111, 116, 101, 115]⟩ X kv dv kx dx G G' hl hx (by omega) (by omega) (by decide); rw [hE] at h; exact h
  clear hTH hT1 hE z1 k1 hmz hsz hhz hRm
  have H2 := Lib.hid (Two.start w (.cells #[.string O.name, .string O.target, .int .i64 O.low, .int .i64 O.high, .slice om O.mets.length cm, .int .i64 O.pace.up, .int .i64 O.pace.down, .int .i64 O.pace.ups, .int .i64 O.pace.downs, .slice on_ O.notes.length cn] 38) (.cells #[.int .i64 0, .int .i64 0, .string ⟨#[]⟩, .slice none 0 0, .slice none 0 0] 32))
  go_enter Tryz.func7, Tryz.ntmps7
  go_wp2_with (first
    | (go_at_call 21; refine (HO.out _ H2.out.below).mono ?_; rintro e w1 ⟨rfl, hb⟩; rw [hc]; replace H2 := Lib.hid (H2.out.next hb); clear hb)
    | fail)
  go_cut [3] (fun p wc => ∃ (bt : Nat) (kr dr : Value) (G : List Nat), p = .pointer (some ⟨bt, 0, none⟩) ∧ Hid (FT w wc (.cells #[.string O.name, .string O.target, .int .i64 O.low, .int .i64 O.high, .slice om O.mets.length cm, .int .i64 O.pace.up, .int .i64 O.pace.down, .int .i64 O.pace.ups, .int .i64 O.pace.downs, .slice on_ O.notes.length cn] 38) (.cells #[.int .i64 0, .int .i64 0, .string ⟨#[]⟩, .slice none 0 0, .slice none 0 0] 32) T1 bt kr dr G))
  case first =>
    have x0 := cell_of H2.out.arg 0
    have x1 := cell_of H2.out.arg 1
    have x2 := cell_of H2.out.arg 2
    have x3 := cell_of H2.out.arg 3
    have x4 := cell_of H2.out.arg 4
    have x5 := cell_of H2.out.arg 5
    have x6 := cell_of H2.out.arg 6
    have x7 := cell_of H2.out.arg 7
    have x8 := cell_of H2.out.arg 8
    have x9 := cell_of H2.out.arg 9
    simp only [List.getElem?_toArray, List.getElem?_cons_zero, List.getElem?_cons_succ] at x0 x1 x2 x3 x4 x5 x6 x7 x8 x9
    have HSz : Hid (w.heap.size + 2 ≤ w1.heap.size) := H2.out.size
    go_region_held3 (fun w' => w'.cell? ⟨w.heap.size, 0, none⟩ = some (.string O.name) ∧ w'.cell? ⟨w.heap.size, 1, none⟩ = some (.string O.target) ∧ w'.cell? ⟨w.heap.size, 2, none⟩ = some (.int .i64 O.low) ∧ w'.cell? ⟨w.heap.size, 3, none⟩ = some (.int .i64 O.high) ∧ w'.cell? ⟨w.heap.size, 4, none⟩ = some (.slice om O.mets.length cm) ∧ w'.cell? ⟨w.heap.size, 5, none⟩ = some (.int .i64 O.pace.up) ∧ w'.cell? ⟨w.heap.size, 6, none⟩ = some (.int .i64 O.pace.down) ∧ w'.cell? ⟨w.heap.size, 7, none⟩ = some (.int .i64 O.pace.ups) ∧ w'.cell? ⟨w.heap.size, 8, none⟩ = some (.int .i64 O.pace.downs) ∧ w'.cell? ⟨w.heap.size, 9, none⟩ = some (.slice on_ O.notes.length cn)) (go_keep)
      (first
        | (go_at_call 23; refine (HHs.out _ _ _ _ _).mono ?_; rintro e w' ⟨kh, dh, GH, rfl, hl, hf, hb⟩; obtain ⟨⟨a1, b1, rfl⟩, ⟨a2, b2, rfl⟩⟩ := hl.slices; (first | (have HHd := Lib.hid (kid_at0 H2.out hl hf rfl)) | (have HHd := Lib.hid (kid_at1 H2.out hl hf (by simp))) | (have HHd := Lib.hid (kid_at1 H2.out hl hf (by simp [World.drew])))); clear hl hf; (first | (have hq := stepA H2.out hb; have hw := hq.2; replace H2 := Lib.hid hq.1; replace HSz := Lib.hid (And.intro HSz.out hw.size); clear hq) | (have hq := stepB H2.out hb; have hw := hq.2; replace H2 := Lib.hid hq.1; replace HSz := Lib.hid (And.intro HSz.out hw.size); clear hq) | (have hq := stepC H2.out hb (by simp); have hw := hq.2.1; have HZ := Lib.hid hq.2.2.1; replace H2 := Lib.hid hq.1; replace HSz := Lib.hid (And.intro HSz.out hq.2.2.2); clear hq) | (have hq := stepD H2.out hb; have hw := hq.2.1; have HZ := Lib.hid hq.2.2.1; replace H2 := Lib.hid hq.1; replace HSz := Lib.hid (And.intro HSz.out hq.2.2.2); clear hq)); (try replace HZ := Lib.hid (HZ.out.next hw)); (try replace HHd := Lib.hid (HHd.out.next hw)); (try replace HMt := Lib.hid (HMt.out.next hw)); (try replace HT1 := Lib.hid (HT1.out.next hw)); (try replace HNt := Lib.hid (HNt.out.next hw)); clear hw hb; clear x0 x1 x2 x3 x4 x5 x6 x7 x8 x9; have x0 := cell_of H2.out.arg 0; have x1 := cell_of H2.out.arg 1; have x2 := cell_of H2.out.arg 2; have x3 := cell_of H2.out.arg 3; have x4 := cell_of H2.out.arg 4; have x5 := cell_of H2.out.arg 5; have x6 := cell_of H2.out.arg 6; have x7 := cell_of H2.out.arg 7; have x8 := cell_of H2.out.arg 8; have x9 := cell_of H2.out.arg 9; simp only [List.getElem?_toArray, List.getElem?_cons_zero, List.getElem?_cons_succ] at x0 x1 x2 x3 x4 x5 x6 x7 x8 x9)
        | (go_at_call 24; refine (HMs.out _ (by first | exact H2.out.below | exact H2.out.below.trans ((below_drew1 _).mono H2.out.below.size) | exact H2.out.below.trans (((Below.refl _ _).alloc (Nat.le_refl _) _).mono H2.out.below.size) | exact H2.out.below.trans ((below_lit _ _).mono H2.out.below.size))).mono ?_; rintro e w' ⟨dm, GM, rfl, hl, hf, hb⟩; obtain ⟨a3, b3, rfl⟩ := hl.slices.2; (first | (have HMt := Lib.hid (kid_at0 H2.out hl hf rfl)) | (have HMt := Lib.hid (kid_at1 H2.out hl hf (by simp))) | (have HMt := Lib.hid (kid_at1 H2.out hl hf (by simp [World.drew])))); clear hl hf; (first | (have hq := stepA H2.out hb; have hw := hq.2; replace H2 := Lib.hid hq.1; replace HSz := Lib.hid (And.intro HSz.out hw.size); clear hq) | (have hq := stepB H2.out hb; have hw := hq.2; replace H2 := Lib.hid hq.1; replace HSz := Lib.hid (And.intro HSz.out hw.size); clear hq) | (have hq := stepC H2.out hb (by simp); have hw := hq.2.1; have HZ := Lib.hid hq.2.2.1; replace H2 := Lib.hid hq.1; replace HSz := Lib.hid (And.intro HSz.out hq.2.2.2); clear hq) | (have hq := stepD H2.out hb; have hw := hq.2.1; have HZ := Lib.hid hq.2.2.1; replace H2 := Lib.hid hq.1; replace HSz := Lib.hid (And.intro HSz.out hq.2.2.2); clear hq)); (try replace HZ := Lib.hid (HZ.out.next hw)); (try replace HHd := Lib.hid (HHd.out.next hw)); (try replace HMt := Lib.hid (HMt.out.next hw)); (try replace HT1 := Lib.hid (HT1.out.next hw)); (try replace HNt := Lib.hid (HNt.out.next hw)); clear hw hb; clear x0 x1 x2 x3 x4 x5 x6 x7 x8 x9; have x0 := cell_of H2.out.arg 0; have x1 := cell_of H2.out.arg 1; have x2 := cell_of H2.out.arg 2; have x3 := cell_of H2.out.arg 3; have x4 := cell_of H2.out.arg 4; have x5 := cell_of H2.out.arg 5; have x6 := cell_of H2.out.arg 6; have x7 := cell_of H2.out.arg 7; have x8 := cell_of H2.out.arg 8; have x9 := cell_of H2.out.arg 9; simp only [List.getElem?_toArray, List.getElem?_cons_zero, List.getElem?_cons_succ] at x0 x1 x2 x3 x4 x5 x6 x7 x8 x9)
        | (go_at_call 22; refine (HS1.out _ _ _ _ _ _ _ (by first | exact HHd.out.lie | exact HHd.out.lie.stay (below_drew1 _) (Nat.le_refl _) | exact HHd.out.lie.stay ((Below.refl _ _).alloc (Nat.le_refl _) _) (Nat.le_refl _) | exact HHd.out.lie.stay (below_lit _ _) (Nat.le_refl _)) (by first | exact HMt.out.lie | exact HMt.out.lie.stay (below_drew1 _) (Nat.le_refl _) | exact HMt.out.lie.stay ((Below.refl _ _).alloc (Nat.le_refl _) _) (Nat.le_refl _) | exact HMt.out.lie.stay (below_lit _ _) (Nat.le_refl _))).mono ?_; rintro e w' ⟨kr, dr, G1, rfl, hl, hf, hb⟩; obtain ⟨⟨a4, b4, rfl⟩, ⟨a5, b5, rfl⟩⟩ := hl.slices; (first | (have HT1 := Lib.hid (kid_at0 H2.out hl hf rfl)) | (have HT1 := Lib.hid (kid_at1 H2.out hl hf (by simp))) | (have HT1 := Lib.hid (kid_at1 H2.out hl hf (by simp [World.drew])))); clear hl hf; (first | (have hq := stepA H2.out hb; have hw := hq.2; replace H2 := Lib.hid hq.1; replace HSz := Lib.hid (And.intro HSz.out hw.size); clear hq) | (have hq := stepB H2.out hb; have hw := hq.2; replace H2 := Lib.hid hq.1; replace HSz := Lib.hid (And.intro HSz.out hw.size); clear hq) | (have hq := stepC H2.out hb (by simp); have hw := hq.2.1; have HZ := Lib.hid hq.2.2.1; replace H2 := Lib.hid hq.1; replace HSz := Lib.hid (And.intro HSz.out hq.2.2.2); clear hq) | (have hq := stepD H2.out hb; have hw := hq.2.1; have HZ := Lib.hid hq.2.2.1; replace H2 := Lib.hid hq.1; replace HSz := Lib.hid (And.intro HSz.out hq.2.2.2); clear hq)); (try replace HZ := Lib.hid (HZ.out.next hw)); (try replace HHd := Lib.hid (HHd.out.next hw)); (try replace HMt := Lib.hid (HMt.out.next hw)); (try replace HT1 := Lib.hid (HT1.out.next hw)); (try replace HNt := Lib.hid (HNt.out.next hw)); clear hw hb; clear x0 x1 x2 x3 x4 x5 x6 x7 x8 x9; have x0 := cell_of H2.out.arg 0; have x1 := cell_of H2.out.arg 1; have x2 := cell_of H2.out.arg 2; have x3 := cell_of H2.out.arg 3; have x4 := cell_of H2.out.arg 4; have x5 := cell_of H2.out.arg 5; have x6 := cell_of H2.out.arg 6; have x7 := cell_of H2.out.arg 7; have x8 := cell_of H2.out.arg 8; have x9 := cell_of H2.out.arg 9; simp only [List.getElem?_toArray, List.getElem?_cons_zero, List.getElem?_cons_succ] at x0 x1 x2 x3 x4 x5 x6 x7 x8 x9; have hn1 := two_ne H2.out; have hn2 := two_ne' H2.out; (try (have hfv := five HZ.out.at_; have hn3 := one_ne HZ.out; have hn4 := one_ne' HZ.out; obtain ⟨r0, r1, r2, r3, r4, r5⟩ := hfv))))
    all_goals go_wp2_with fail
    all_goals go_meet
    all_goals
      have hsz := HSz.out
      first
        | exact ⟨_, _, _, _, rfl, ft_put H2.out HZ.out HT1.out (by omega)⟩
        | exact ⟨_, _, _, _, rfl, ft_alloc H2.out HT1.out⟩
  case rest =>
    obtain ⟨bt, kr, dr, G, rfl, hft⟩ := hcut
    obtain ⟨lo1, hi1, hk1⟩ := hft.out.kid
    replace H2 := Lib.hid hft.out.two
    have HZ : Hid (One w wc bt _) := ⟨hft.out.one, hft.out.old⟩
    have HT1 := Lib.hid hk1
    have HSz : Hid (w.heap.size + 2 ≤ wc.heap.size) := H2.out.size
    obtain ⟨⟨e1, f1, rfl⟩, ⟨e2, f2, rfl⟩⟩ := hk1.lie.slices
    have hn3 := one_ne HZ.out
    have hn4 := one_ne' HZ.out
    have hn5 : ¬ w.heap.size + 1 = bt := by have := HZ.out.old; omega
    have hn6 : ¬ bt = w.heap.size + 1 := by have := HZ.out.old; omega
    clear hk1 hft
    have x0 := cell_of H2.out.arg 0
    have x1 := cell_of H2.out.arg 1
    have x2 := cell_of H2.out.arg 2
    have x3 := cell_of H2.out.arg 3
    have x4 := cell_of H2.out.arg 4
    have x5 := cell_of H2.out.arg 5
    have x6 := cell_of H2.out.arg 6
    have x7 := cell_of H2.out.arg 7
    have x8 := cell_of H2.out.arg 8
    have x9 := cell_of H2.out.arg 9
    simp only [List.getElem?_toArray, List.getElem?_cons_zero, List.getElem?_cons_succ] at x0 x1 x2 x3 x4 x5 x6 x7 x8 x9
    obtain ⟨r0, r1, r2, r3, r4, r5⟩ := five HZ.out.at_
    have tt1 : True := trivial
    go_wp2_with fail
    go_region_held3 (fun w' => w'.cell? ⟨w.heap.size, 0, none⟩ = some (.string O.name) ∧ w'.cell? ⟨w.heap.size, 1, none⟩ = some (.string O.target) ∧ w'.cell? ⟨w.heap.size, 2, none⟩ = some (.int .i64 O.low) ∧ w'.cell? ⟨w.heap.size, 3, none⟩ = some (.int .i64 O.high) ∧ w'.cell? ⟨w.heap.size, 4, none⟩ = some (.slice om O.mets.length cm) ∧ w'.cell? ⟨w.heap.size, 5, none⟩ = some (.int .i64 O.pace.up) ∧ w'.cell? ⟨w.heap.size, 6, none⟩ = some (.int .i64 O.pace.down) ∧ w'.cell? ⟨w.heap.size, 7, none⟩ = some (.int .i64 O.pace.ups) ∧ w'.cell? ⟨w.heap.size, 8, none⟩ = some (.int .i64 O.pace.downs) ∧ w'.cell? ⟨w.heap.size, 9, none⟩ = some (.slice on_ O.notes.length cn) ∧ w'.cell? ⟨bt, 0, none⟩ = some (.int .i64 T1.k) ∧ w'.cell? ⟨bt, 1, none⟩ = some (.int .i64 T1.n) ∧ w'.cell? ⟨bt, 2, none⟩ = some (.string T1.s) ∧ w'.cell? ⟨bt, 3, none⟩ = some (.slice e1 T1.keys.length f1) ∧ w'.cell? ⟨bt, 4, none⟩ = some (.slice e2 T1.kids.length f2)) (go_keep)
      (first
        | (go_at_call 25; refine (HSv.out _ (by first | exact H2.out.below | exact H2.out.below.trans ((below_drew1 _).mono H2.out.below.size) | exact H2.out.below.trans (((Below.refl _ _).alloc (Nat.le_refl _) _).mono H2.out.below.size) | exact H2.out.below.trans ((below_lit _ _).mono H2.out.below.size))).mono ?_; rintro e w' ⟨kn, dn, GN, rfl, hl, hf, hb⟩; obtain ⟨⟨a3, b3, rfl⟩, ⟨a4, b4, rfl⟩⟩ := hl.slices; (first | (have HNt := Lib.hid (kid_at0 H2.out hl hf rfl)) | (have HNt := Lib.hid (kid_at1 H2.out hl hf (by simp))) | (have HNt := Lib.hid (kid_at1 H2.out hl hf (by simp [World.drew])))); clear hl hf; (first | (have hq := stepA H2.out hb; have hw := hq.2; replace H2 := Lib.hid hq.1; replace HSz := Lib.hid (And.intro HSz.out hw.size); clear hq) | (have hq := stepB H2.out hb; have hw := hq.2; replace H2 := Lib.hid hq.1; replace HSz := Lib.hid (And.intro HSz.out hw.size); clear hq) | (have hq := stepC H2.out hb (by simp); have hw := hq.2.1; have HZ := Lib.hid hq.2.2.1; replace H2 := Lib.hid hq.1; replace HSz := Lib.hid (And.intro HSz.out hq.2.2.2); clear hq) | (have hq := stepD H2.out hb; have hw := hq.2.1; have HZ := Lib.hid hq.2.2.1; replace H2 := Lib.hid hq.1; replace HSz := Lib.hid (And.intro HSz.out hq.2.2.2); clear hq)); (try replace HZ := Lib.hid (HZ.out.next hw)); (try replace HHd := Lib.hid (HHd.out.next hw)); (try replace HMt := Lib.hid (HMt.out.next hw)); (try replace HT1 := Lib.hid (HT1.out.next hw)); (try replace HNt := Lib.hid (HNt.out.next hw)); clear hw hb; clear x0 x1 x2 x3 x4 x5 x6 x7 x8 x9; have x0 := cell_of H2.out.arg 0; have x1 := cell_of H2.out.arg 1; have x2 := cell_of H2.out.arg 2; have x3 := cell_of H2.out.arg 3; have x4 := cell_of H2.out.arg 4; have x5 := cell_of H2.out.arg 5; have x6 := cell_of H2.out.arg 6; have x7 := cell_of H2.out.arg 7; have x8 := cell_of H2.out.arg 8; have x9 := cell_of H2.out.arg 9; simp only [List.getElem?_toArray, List.getElem?_cons_zero, List.getElem?_cons_succ] at x0 x1 x2 x3 x4 x5 x6 x7 x8 x9; clear r0 r1 r2 r3 r4 r5; obtain ⟨r0, r1, r2, r3, r4, r5⟩ := five HZ.out.at_)
        | (go_at_call 22; refine (HS2.out _ _ _ _ _ _ _ (by first | exact HT1.out.lie | exact HT1.out.lie.stay (below_drew1 _) (Nat.le_refl _) | exact HT1.out.lie.stay ((Below.refl _ _).alloc (Nat.le_refl _) _) (Nat.le_refl _) | exact HT1.out.lie.stay (below_lit _ _) (Nat.le_refl _)) (by first | exact HNt.out.lie | exact HNt.out.lie.stay (below_drew1 _) (Nat.le_refl _) | exact HNt.out.lie.stay ((Below.refl _ _).alloc (Nat.le_refl _) _) (Nat.le_refl _) | exact HNt.out.lie.stay (below_lit _ _) (Nat.le_refl _))).mono ?_; rintro e w' ⟨k6, d6, G6, rfl, hl, hf, hb⟩; obtain ⟨⟨a7, b7, rfl⟩, ⟨a8, b8, rfl⟩⟩ := hl.slices; have HL := Lib.hid (res_keep H2.out hl hf (Nat.le_refl _)); clear hl hf; (first | (have hq := stepA H2.out hb; have hw := hq.2; replace H2 := Lib.hid hq.1; replace HSz := Lib.hid (And.intro HSz.out hw.size); clear hq) | (have hq := stepB H2.out hb; have hw := hq.2; replace H2 := Lib.hid hq.1; replace HSz := Lib.hid (And.intro HSz.out hw.size); clear hq) | (have hq := stepC H2.out hb (by simp); have hw := hq.2.1; have HZ := Lib.hid hq.2.2.1; replace H2 := Lib.hid hq.1; replace HSz := Lib.hid (And.intro HSz.out hq.2.2.2); clear hq) | (have hq := stepD H2.out hb; have hw := hq.2.1; have HZ := Lib.hid hq.2.2.1; replace H2 := Lib.hid hq.1; replace HSz := Lib.hid (And.intro HSz.out hq.2.2.2); clear hq)); (try replace HZ := Lib.hid (HZ.out.next hw)); (try replace HHd := Lib.hid (HHd.out.next hw)); (try replace HMt := Lib.hid (HMt.out.next hw)); (try replace HT1 := Lib.hid (HT1.out.next hw)); (try replace HNt := Lib.hid (HNt.out.next hw)); clear hw hb; clear x0 x1 x2 x3 x4 x5 x6 x7 x8 x9; have x0 := cell_of H2.out.arg 0; have x1 := cell_of H2.out.arg 1; have x2 := cell_of H2.out.arg 2; have x3 := cell_of H2.out.arg 3; have x4 := cell_of H2.out.arg 4; have x5 := cell_of H2.out.arg 5; have x6 := cell_of H2.out.arg 6; have x7 := cell_of H2.out.arg 7; have x8 := cell_of H2.out.arg 8; have x9 := cell_of H2.out.arg 9; simp only [List.getElem?_toArray, List.getElem?_cons_zero, List.getElem?_cons_succ] at x0 x1 x2 x3 x4 x5 x6 x7 x8 x9; clear r0 r1 r2 r3 r4 r5; obtain ⟨r0, r1, r2, r3, r4, r5⟩ := five HZ.out.at_; obtain ⟨s0, s1, s2, s3, s4, s5⟩ := five H2.out.res))
    all_goals
      have HF := res_fin H2.out HL.out
      go_wp2
      exact bodyPost_ret (ret_node Tryz.results7 rfl HF.1) rfl ⟨_, _, _, rfl, HF.2.1, HF.2.2.1, HF.2.2.2⟩
end Go.Proofs.YtfmkhogpnnobeaaGreatDoor
