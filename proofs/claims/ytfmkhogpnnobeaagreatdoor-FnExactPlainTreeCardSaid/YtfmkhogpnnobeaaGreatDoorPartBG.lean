/-
  What is proved: whatever reads as a metric, a pace, a note or an order of the laws' own types lies in memory as such.; the law FnExactPlainTree returns true at every argument, and each argument reads behind the call as it did; condition: the library's table of powers of ten starts as the program's text lays it (the card ties it).
-/
import Derived.Test.YtfmkhogpnnobeaaGreatDoorPartAD
import Derived.Test.YtfmkhogpnnobeaaGreatDoorRows
import Derived.ProofKit
import Derived.OpenShut
import Derived.Carry
import Derived.Deep.Strs
import Derived.Test.YtfmkhogpnnobeaaGreatDoorPartBF
import Derived.Test.YtfmkhogpnnobeaaGreatDoorPartAE
import Derived.Test.YtfmkhogpnnobeaaGreatDoorTie
import Derived.Test.YtfmkhogpnnobeaaGreatDoorCards
import Derived.SevenTiedAt
import Derived.ChangeMaps5
/- whatever reads as a metric, a pace, a note or an order of the laws' own types lies in memory as such. -/
namespace Go.Proofs.YtfmkhogpnnobeaaGreatDoor
open Go Go.RowKit Go.ChangeShapes Go.WideShapes

section
variable {H : Type} {enc : TypeId × Value → H} {w : World} {base : Nat} {held : Bool}

theorem fit_of {x : Int} (h : (Lit.int .i64 x).wf = true) : Fit x := bounds_i64 h

theorem cellsO_string : Tryz.prog.cellsOf 9 = 1 := by kernel_rfl
theorem cellsO_int : Tryz.prog.cellsOf 3 = 1 := by kernel_rfl
theorem cellsO_met : Tryz.prog.cellsOf 80 = 3 := by kernel_rfl
theorem cellsO_pace : Tryz.prog.cellsOf 24 = 4 := by kernel_rfl
theorem cellsO_note : Tryz.prog.cellsOf 83 = 2 := by kernel_rfl
theorem cellsO_order : Tryz.prog.cellsOf 27 = 10 := by kernel_rfl
theorem cellsO_mets : Tryz.prog.cellsOf 22 = 1 := by kernel_rfl
theorem cellsO_nots : Tryz.prog.cellsOf 25 = 1 := by kernel_rfl

set_option maxRecDepth 100000 in
theorem open_met {fuel : Nat} {cs : List Value} {x : DataW H × List MemPlace} (h : DataW.trod enc Tryz.prog w base (fun _ => true) held fuel 80 cs = some x) : ∃ m : Met, cs = m.row ∧ m.ok := by
  obtain ⟨xs, n, rfl, rfl, hl, hlen, hf⟩ := DataW.trod_struct Tryz.underlying80 h
  rw [cellsO_met] at hl
  have hlen3 : xs.length = 3 := hlen
  clear hlen
  match xs, hlen3, cs, hl with
  | [y0, y1, y2], _, [v0, v1, v2], _ =>
    have g0 := hf 0 _ rfl
    have g1 := hf 1 _ rfl
    have g2 := hf 2 _ rfl
    simp [cellsO_int, cellsO_string] at g0 g1 g2
    obtain ⟨s, hv0, -, w0⟩ := DataW.trod_string Tryz.underlying9 g0
    obtain ⟨k, hv1, -, w1⟩ := DataW.trod_int Tryz.underlying3 g1
    obtain ⟨m, hv2, -, w2⟩ := DataW.trod_int Tryz.underlying3 g2
    simp at hv0 hv1 hv2
    subst hv0 hv1 hv2
    exact ⟨⟨s, k, m⟩, rfl, w0, fit_of w1, fit_of w2⟩

set_option maxRecDepth 100000 in
theorem open_note {fuel : Nat} {cs : List Value} {x : DataW H × List MemPlace} (h : DataW.trod enc Tryz.prog w base (fun _ => true) held fuel 83 cs = some x) : ∃ m : Not, cs = m.row ∧ m.ok := by
  obtain ⟨xs, n, rfl, rfl, hl, hlen, hf⟩ := DataW.trod_struct Tryz.underlying83 h
  rw [cellsO_note] at hl
  have hlen3 : xs.length = 2 := hlen
  clear hlen
  match xs, hlen3, cs, hl with
  | [y0, y1], _, [v0, v1], _ =>
    have g0 := hf 0 _ rfl
    have g1 := hf 1 _ rfl
    simp [cellsO_string] at g0 g1
    obtain ⟨s, hv0, -, w0⟩ := DataW.trod_string Tryz.underlying9 g0
    obtain ⟨k, hv1, -, w1⟩ := DataW.trod_string Tryz.underlying9 g1
    simp at hv0 hv1
    subst hv0 hv1
    exact ⟨⟨s, k⟩, rfl, w0, w1⟩

set_option maxRecDepth 100000 in
theorem open_pace {fuel : Nat} {cs : List Value} {x : DataW H × List MemPlace} (h : DataW.trod enc Tryz.prog w base (fun _ => true) held fuel 24 cs = some x) : ∃ p : Pac, cs = [.int .i64 p.up, .int .i64 p.down, .int .i64 p.ups, .int .i64 p.downs] ∧ p.ok := by
  obtain ⟨xs, n, rfl, rfl, hl, hlen, hf⟩ := DataW.trod_struct Tryz.underlying24 h
  rw [cellsO_pace] at hl
  have hlen3 : xs.length = 4 := hlen
  clear hlen
  match xs, hlen3, cs, hl with
  | [y0, y1, y2, y3], _, [v0, v1, v2, v3], _ =>
    have g0 := hf 0 _ rfl
    have g1 := hf 1 _ rfl
    have g2 := hf 2 _ rfl
    have g3 := hf 3 _ rfl
    simp [cellsO_int] at g0 g1 g2 g3
    obtain ⟨a, hv0, -, w0⟩ := DataW.trod_int Tryz.underlying3 g0
    obtain ⟨b, hv1, -, w1⟩ := DataW.trod_int Tryz.underlying3 g1
    obtain ⟨c, hv2, -, w2⟩ := DataW.trod_int Tryz.underlying3 g2
    obtain ⟨d, hv3, -, w3⟩ := DataW.trod_int Tryz.underlying3 g3
    simp at hv0 hv1 hv2 hv3
    subst hv0 hv1 hv2 hv3
    exact ⟨⟨a, b, c, d⟩, rfl, fit_of w0, fit_of w1, fit_of w2, fit_of w3⟩

/-- A list of small structs that is read. -/
theorem open_row {α : Type} (ec : α → List Value) (ok : α → Prop) (k : Nat) (hk : 0 < k) (hlen : ∀ a, (ec a).length = k) {ts te : TypeId} (und : Tryz.prog.underlying ts = some (.slice te)) (hc : Tryz.prog.cellsOf te = k) [Inhabited α]
    (op : ∀ (fuel : Nat) (cs : List Value) (x : DataW H × List MemPlace), DataW.trod enc Tryz.prog w base (fun _ => true) held fuel te cs = some x → ∃ a, cs = ec a ∧ ok a)
    {fuel : Nat} {cs : List Value} {x : DataW H × List MemPlace} (h : DataW.trod enc Tryz.prog w base (fun _ => true) held fuel ts cs = some x) : ∃ v xs F, cs = [v] ∧ RowAt ec ok k w v xs F := by
  rcases DataW.trod_slice und h with ⟨rfl, -⟩ | ⟨a, len, cap, elems, rest, n', rfl, rfl, -, hb, hlc, hm, hlen', hel, hres, -⟩
  · exact ⟨_, [], _, rfl, none, 0, 0, 0, rfl, Nat.le_refl _, Nat.zero_le _, fun h => absurd h (by simp), rfl, fun i hi => absurd hi (by simp), by rw [Nat.zero_mul]; exact Room.nil _ _ _⟩
  · obtain ⟨ab, aoff, aspot⟩ := a
    obtain ⟨hrl, hres⟩ := hres rfl
    rw [hc] at hel hres
    have every : ∀ i, i < cap → ∃ cs' y, w.cells? base ((⟨ab, aoff, aspot⟩ : Addr).add (i * k)) k = some cs' ∧ DataW.trod enc Tryz.prog w base (fun _ => true) held n' te cs' = some y := fun i hi => by
      by_cases hl : i < len
      · have he := hel i hl
        rw [List.getElem?_eq_getElem (by omega), Option.bind_eq_some_iff] at he
        obtain ⟨cs', hc, ht⟩ := he
        exact ⟨cs', _, hc, ht⟩
      · have he := hres (i - len) (by omega)
        rw [List.getElem?_eq_getElem (by omega), Option.bind_eq_some_iff] at he
        obtain ⟨cs', hc, ht⟩ := he
        rw [show len + (i - len) = i by omega] at hc
        exact ⟨cs', _, hc, ht⟩
    have each : ∀ i, i < cap → ∃ q : α, aspot = none ∧ (∀ j, j < k → w.cell? ⟨ab, aoff + i * k + j, none⟩ = (ec q)[j]?) ∧ ok q := fun i hi => by
      obtain ⟨cs', _, hc', ht⟩ := every i hi
      obtain ⟨q, rfl, hL⟩ := op n' cs' _ ht
      obtain ⟨-, -, hcell⟩ := World.cells?_some hc'
      have hspot : aspot = none := by
        obtain ⟨cs0, _, hc0, ht0⟩ := every 0 (by omega)
        obtain ⟨q0, rfl, _⟩ := op n' cs0 _ ht0
        obtain ⟨-, -, hcell0⟩ := World.cells?_some hc0
        have h0 := hcell0 0 hk
        rw [List.getElem?_eq_getElem (by rw [hlen]; exact hk)] at h0
        simp [Addr.add] at h0
        simpa using World.cell?_spot h0
      subst hspot
      refine ⟨q, rfl, fun j hj => ?_, hL⟩
      have := hcell j hj
      rw [add_plain, add_plain] at this
      exact this
    obtain ⟨Q, hQ⟩ := Go.Deep.choose_lt (α := α) each
    by_cases h0 : cap = 0
    · subst h0
      obtain rfl : len = 0 := by omega
      exact ⟨_, [], _, rfl, _, 0, 0, 0, rfl, Nat.zero_le _, hm, fun h => absurd h (by simp), rfl, fun i hi => absurd hi (by simp), by rw [Nat.zero_mul]; exact Room.nil _ _ _⟩
    · have hspot : aspot = none := (hQ 0 (by omega)).1
      subst hspot
      refine ⟨_, (List.range len).map Q, _, rfl, _, cap, ab, aoff, by simp, by simpa using hlc, hm, fun _ => rfl, rfl, fun i hi => ?_, fun i hi => ?_⟩
      · simp only [List.length_map, List.length_range] at hi
        have := (hQ i (by omega)).2
        simpa using ⟨this.2, this.1⟩
      · have hi' : i / k < cap := Nat.div_lt_of_lt_mul (by rw [Nat.mul_comm]; exact hi)
        have := (hQ (i / k) hi').2.1 (i % k) (Nat.mod_lt _ hk)
        rw [Nat.add_assoc, show i / k * k + i % k = i by rw [Nat.mul_comm]; exact Nat.div_add_mod i k] at this
        rw [this, List.getElem?_eq_getElem (by rw [hlen]; exact Nat.mod_lt _ hk)]
        rfl

instance : Inhabited Met := ⟨⟨⟨#[]⟩, 0, 0⟩⟩
instance : Inhabited Not := ⟨⟨⟨#[]⟩, ⟨#[]⟩⟩⟩

set_option maxRecDepth 100000 in
theorem open_order {fuel : Nat} {cs : List Value} {x : DataW H × List MemPlace} (h : DataW.trod enc Tryz.prog w base (fun _ => true) held fuel 27 cs = some x) : ∃ (o : Ord) (mv nv : Value) (FM FN : List Nat), cs = o.row mv nv ∧ OrdAt w o mv nv FM FN := by
  obtain ⟨xs, n, rfl, rfl, hl, hlen, hf⟩ := DataW.trod_struct Tryz.underlying27 h
  rw [cellsO_order] at hl
  have hlen3 : xs.length = 7 := hlen
  clear hlen
  match xs, hlen3, cs, hl with
  | [y0, y1, y2, y3, y4, y5, y6], _, [v0, v1, v2, v3, v4, v5, v6, v7, v8, v9], _ =>
    have g0 := hf 0 _ rfl
    have g1 := hf 1 _ rfl
    have g2 := hf 2 _ rfl
    have g3 := hf 3 _ rfl
    have g4 := hf 4 _ rfl
    have g5 := hf 5 _ rfl
    have g6 := hf 6 _ rfl
    simp [cellsO_string, cellsO_int, cellsO_pace, cellsO_mets, cellsO_nots] at g0 g1 g2 g3 g4 g5 g6
    obtain ⟨s, hv0, -, w0⟩ := DataW.trod_string Tryz.underlying9 g0
    obtain ⟨t, hv1, -, w1⟩ := DataW.trod_string Tryz.underlying9 g1
    obtain ⟨lo, hv2, -, w2⟩ := DataW.trod_int Tryz.underlying3 g2
    obtain ⟨hi, hv3, -, w3⟩ := DataW.trod_int Tryz.underlying3 g3
    obtain ⟨mv, ms, FM, hv4, w4⟩ := open_row Met.row Met.ok 3 (by decide) (fun _ => rfl) Tryz.underlying22 cellsO_met (fun _ _ _ h => open_met h) g4
    obtain ⟨p, hv5, w5⟩ := open_pace g5
    obtain ⟨nv, ns, FN, hv6, w6⟩ := open_row Not.row Not.ok 2 (by decide) (fun _ => rfl) Tryz.underlying25 cellsO_note (fun _ _ _ h => open_note h) g6
    simp at hv0 hv1 hv2 hv3 hv4 hv5 hv6
    subst hv0 hv1 hv2 hv3 hv4 hv6
    obtain ⟨rfl, rfl, rfl, rfl⟩ := hv5
    exact ⟨⟨s, t, lo, hi, ms, p, ns⟩, _, _, FM, FN, rfl, w0, w1, fit_of w2, fit_of w3, w5, w4, w6⟩
end
end Go.Proofs.YtfmkhogpnnobeaaGreatDoor

/- the law FnExactPlainTree returns true at every argument, and each argument reads behind the call as it did; condition: the library's table of powers of ten starts as the program's text lays it (the card ties it). -/
namespace Go.Proofs.YtfmkhogpnnobeaaGreatDoor
open Go Go.ChangeShapes Go.WideShapes Go.ChangeAt Go.RowKit
open Go.ChangeMaps (open_string)

theorem plainTree_laidOut : laidOutB Tryz.prog = true := by kernel_rfl

/-- The door's own heap meets the condition. -/
theorem plainTree_door (os : Os) (args : Array Value) : laidMetH Tryz.prog Rows.fnExactPlainTreeRow.laid ((World.doorLaid Tryz.prog 24 os).forCall (fun _ _ => 0) ⟨#[], args, []⟩).memory :=
  laidMetH_of_parts3 (fuel := 8) (laidMet_of_run' 8 (by kernel_rfl) (by kernel_rfl)) (by kernel_rfl) (by kernel_rfl)

set_option maxRecDepth 100000 in
theorem plainTree_lifted (os : Os) (started : os.Started) (H : Type) (enc : TypeId × Value → H) :
    ReturnsInHanded {} Tryz.checked os 4 .any (fun w args => (Rows.fnExactPlainTreeSpec.pre enc Tryz.prog Tryz.f4 [] false w args ∧ laidMetH Tryz.prog Rows.fnExactPlainTreeRow.laid w) ∧ sizedMet enc Tryz.prog Tryz.f4 (OpenSpec.ofChange Rows.fnExactPlainTreeSpec) false w args)
      (Rows.fnExactPlainTreeSpec.post enc Tryz.prog Tryz.f4 false true false false) := by
  refine returnsInHanded_of_change_and (C := Tryz.checked) (X := fun w _ => laidMetH Tryz.prog Rows.fnExactPlainTreeRow.laid w) (fun _ _ _ hh h => h.of_heap hh) own started (by kernel_rfl) Tryz.func4
    (ChangeSpec.witness_shaped (enc := enc) (C := Tryz.checked) (os := os) (X := fun w _ => laidMetH Tryz.prog Rows.fnExactPlainTreeRow.laid w) false (World.doorLaid Tryz.prog 24 os) #[.agg #[.string ⟨#[]⟩, .string ⟨#[]⟩, .int .i64 0, .int .i64 0, .slice none 0 0, .int .i64 0, .int .i64 0, .int .i64 0, .int .i64 0, .slice none 0 0]] 8 rfl (World.shaped_of_RefB (by kernel_rfl) (by kernel_rfl)) (by kernel_rfl) (by kernel_rfl) (by kernel_rfl) (plainTree_door os _)) ?_
  intro W base args ds gs before hval0 hW _ _ hL _
  have hval : ∀ (j : Nat) t v, Tryz.f4.params[j]? = some t → args[j]? = some v → Value.okWide Tryz.prog W .any base t v := hval0
  have hW' := hW
  obtain ⟨p, q, hA0, hV, rfl, hfz, hnd⟩ := hW
  have hA : DataW.TrodAll enc Tryz.prog W 0 (fun _ => true) true Tryz.f4.params.toList args.toList ds p := hA0
  rw [Tryz.params4] at hA hval
  obtain ⟨v0, vs0, d0, ds0, p0, q0, hargs, rfl, rfl, h0, r0⟩ := trodAll_cons hA
  obtain ⟨rfl, rfl, rfl⟩ := trodAll_nil r0
  obtain rfl : args = #[v0] := by cases args; simp_all
  obtain ⟨rfl, rfl⟩ := trodVars_none hV
  have k0 := h0
  have lt0 : ∀ x ∈ p0, x.block < W.heap.size := by obtain ⟨m, hm⟩ := k0; exact DataW.trod_lt m _ _ _ hm
  obtain ⟨cs0, rfl, -⟩ := okWide_struct Tryz.underlying27 (hval 0 27 v0 rfl rfl)
  obtain ⟨O0, mv0, nv0, FM0, FN0, hr0, hl0⟩ : ∃ (o : Ord) (mv nv : Value) (FM FN : List Nat), cs0.toList = o.row mv nv ∧ OrdAt W o mv nv FM FN := by
    obtain ⟨fuel, hf⟩ := h0
    exact open_order hf
  obtain rfl : cs0 = #[.string O0.name, .string O0.target, .int .i64 O0.low, .int .i64 O0.high, mv0, .int .i64 O0.pace.up, .int .i64 O0.pace.down, .int .i64 O0.pace.ups, .int .i64 O0.pace.downs, nv0] := by cases cs0; simpa [Met.row, Ord.row] using hr0
  clear hA0 hval0
  rw [MakeChecks.laidMetH_plain _ _ _ (by kernel_rfl)] at hL
  refine (plainTree_walk O0 mv0 nv0 FM0 FN0 W hl0 (pow_of_laid hL.tail.tail)).mono fun e W' ⟨he, hb⟩ => ?_
  subst he
  exact ⟨_, rfl, _, _, _, [], _, [], hW', trodAll_mk1 (shut_bool Tryz.underlying4 _), (trodAll_cons_mk (Below.trod plainTree_laidOut (by kernel_rfl) (of_decide_eq_true (by kernel_rfl)) k0 hb lt0) trodAll_mk0), rfl, hb.frame _, fun h => by cases h⟩

theorem plainTree_row_holds : Rows.FnExactPlainTreeSaid :=
  OpenClaim.holds_of_wide 4 Tryz.f4 rfl rfl rfl rfl rfl rfl rfl ⟨rfl, rfl, rfl, rfl, rfl⟩ rfl rfl rfl rfl rfl (by kernel_rfl) Tryz.func4 (by kernel_rfl)
    (of_decide_eq_true (by kernel_rfl)) (by unfold Func.isWrapper; first | (rw [if_pos (by decide +kernel)]; kernel_rfl) | (rw [if_neg (by decide +kernel)]; exact ⟨rfl, rfl⟩))
    (fun os started H enc _ => plainTree_lifted os started H enc)

/-- The given card. -/
theorem plainTree_holds : Rows.FnExactPlainTreeCardSaid :=
  Claim7.holds_tied_plain_at .later [] [.data, .data, .data] true _ true
    plainTree_row_holds (fun _ h => by cases h) (by kernel_rfl) (fun _ h => by cases h) fnExactPlainTree_row_tie rfl ⟨rfl, rfl⟩ (by kernel_rfl) rfl
    (fun f fn hf hfn => by
      obtain rfl : f = 4 := Option.some.inj ((show Tryz.prog.funcNamed "loop.example/g00465/laws.FnExactPlainTree" = some 4 by kernel_rfl).symm.trans hf) |>.symm
      obtain rfl : fn = Tryz.f4 := (Option.some.inj (Tryz.func4.symm.trans hfn)).symm
      exact ⟨by kernel_rfl, fun j t ht => by
        rw [Tryz.params4] at ht
        have hm : t ∈ [27] := by have := Array.mem_of_getElem? ht; simp at this ⊢; omega
        have hall : ([27].all fun u => !Tryz.prog.wantsStandIn u) = true := by kernel_rfl
        exact (show Tryz.prog.wantsStandIn t = false by simpa using List.all_eq_true.1 hall t hm)⟩)
    (by kernel_rfl)
end Go.Proofs.YtfmkhogpnnobeaaGreatDoor
