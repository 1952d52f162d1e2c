/-
  What is proved: at every text the program's AmountOf answers what the model's AmountOf answers, the law returns true and its argument reads as before (a text longer than 1048576 bytes the law itself passes by); conditions: the library's tables and three error variables start as the program's text lays them (the card ties them).
-/
import Derived.Test.YtafbcohlbhblfakDoorMeasW
import Derived.Test.YtafbcohlbhblfakDoorMeasI
import Derived.Test.YtafbcohlbhblfakDoorTie
import Derived.Test.YtafbcohlbhblfakDoorCards
import Derived.SevenTiedAt
import Derived.ChangeVars
import Derived.RowKitTokens
namespace Go.Proofs.YtafbcohlbhblfakDoor
open Go Go.ChangeShapes Go.WideShapes Go.ChangeAt Go.RowKit
open Go.ChangeMaps (open_string shut_string)

theorem amountOf_long (s : ByteArray) (hm : s.size ≤ maxLen) (hs : 1048576 < s.size) (w : World) :
    Calls Tryd.prog 6 #[.string s] w fun e w' => e = .returned (.bool true) ∧ Below w.heap.size w w' := by
  unfold maxLen at hm
  go_enter Tryd.func6, Tryd.ntmps6
  go_wp2
  go_ret
  exact ⟨rfl, Below.refl _ _⟩

theorem amountOf_walk (s : ByteArray) (hs : s.size ≤ 1048576) (w : World) (V : Vars w) :
    Calls Tryd.prog 6 #[.string s] w fun e w' => e = .returned (.bool true) ∧ Below w.heap.size w w' := by
  obtain ⟨k, hk⟩ := head_any s
  have HK := Lib.hid hk
  clear hk
  obtain ⟨r, hr⟩ : ∃ r, Hid (r = measT s k 1000000000000 amtT) := ⟨_, rfl⟩
  go_enter Tryd.func6, Tryd.ntmps6
  go_wp2_with (first
    | (go_at_call 13; refine (spec_amountOf s hs k HK.out _ r hr).mono ?_; rintro e w1 ⟨rfl, hb1⟩)
    | (go_at_call 14; refine (impl_amountOf s hs k HK.out _ (V.on hb1) r hr).mono ?_; rintro e w2 ⟨rfl, hb2⟩))
  go_ret
  exact ⟨rfl, hb1.trans (hb2.mono hb1.size)⟩

theorem amountOf_door (os : Os) (args : Array Value) : laidMetH Tryd.prog Rows.fnExactAmountOfRow.laid ((World.doorLaid Tryd.prog 81 os).forCall (fun _ _ => 0) ⟨#[], args, []⟩).memory :=
  laidMetH_of_parts3 (fuel := 8) (laidMet_of_run' 8 (by kernel_rfl) (by kernel_rfl)) (by kernel_rfl) (by kernel_rfl)

set_option maxRecDepth 100000 in
theorem amountOf_lifted (os : Os) (started : os.Started) (H : Type) (enc : TypeId × Value → H) :
    ReturnsInHanded {} Tryd.checked os 6 .any (fun w args => (Rows.fnExactAmountOfSpec.pre enc Tryd.prog Tryd.f6 [] false w args ∧ laidMetH Tryd.prog Rows.fnExactAmountOfRow.laid w) ∧ sizedMet enc Tryd.prog Tryd.f6 (OpenSpec.ofChange Rows.fnExactAmountOfSpec) false w args)
      (Rows.fnExactAmountOfSpec.post enc Tryd.prog Tryd.f6 false true false false) := by
  refine returnsInHanded_of_change_and (C := Tryd.checked) (X := fun w _ => laidMetH Tryd.prog Rows.fnExactAmountOfRow.laid w) (fun _ _ _ hh h => h.of_heap hh) own started (by kernel_rfl) Tryd.func6
    (ChangeSpec.witness_shaped (enc := enc) (C := Tryd.checked) (os := os) (X := fun w _ => laidMetH Tryd.prog Rows.fnExactAmountOfRow.laid w) false (World.doorLaid Tryd.prog 81 os) #[.string ⟨#[]⟩] 8 rfl (World.shaped_of_RefB (by kernel_rfl) (by kernel_rfl)) (by kernel_rfl) (by kernel_rfl) (by kernel_rfl) (amountOf_door os _)) ?_
  intro W base args ds gs before hval0 hW _ _ hL _
  have hval : ∀ (j : Nat) t v, Tryd.f6.params[j]? = some t → args[j]? = some v → Value.okWide Tryd.prog W .any base t v := hval0
  have hW' := hW
  obtain ⟨p, q, hA0, hV0, rfl, hfz, hnd⟩ := hW
  have hA : DataW.TrodAll enc Tryd.prog W 0 (fun _ => true) true Tryd.f6.params.toList args.toList ds p := hA0
  rw [Tryd.params6] at hA hval
  obtain ⟨v0, d0, rfl, rfl, h0⟩ := trodAll_one hA
  have hV : DataW.TrodVars enc Tryd.prog W (fun _ => true) ["loop.example/g00465/impl.errNoNumber"] gs q := hV0
  obtain ⟨g, t, cs, fuel, d, p', rfl, hg, ht, hvar, hd, rfl⟩ := trodVars_one hV
  obtain rfl := Option.some.inj (gNo.symm.trans hg)
  obtain rfl := Option.some.inj (tNo.symm.trans ht)
  obtain ⟨old, hcs0, ho, hx0⟩ := held_of_trod_list Tryd.underlying39 hd
  simp only [Prod.mk.injEq] at hx0
  obtain ⟨rfl, rfl⟩ := hx0
  have hcs' : cs = #[old] := by
    cases cs
    simp_all
  subst hcs'
  have hvars : ∀ (W' : World) (sp : Nat → Bool), World.var? Tryd.prog W' "loop.example/g00465/impl.errNoNumber" = some #[old] → DataW.TrodVars enc Tryd.prog W' sp ["loop.example/g00465/impl.errNoNumber"] [tok enc old] [.cell 0 0] := fun W' sp hv => by
    have := trodVars_mk1 (enc := enc) (spare := sp) (fuel := 1) (d := tok enc old) (p := []) hg ht hv (trod_held Tryd.underlying39 ho 0)
    simpa [row_one] using this
  obtain ⟨s, rfl, rfl, rfl, ws⟩ := open_string Tryd.underlying9 (hval 0 9 v0 rfl rfl) h0
  clear hA0 hval0 hV0
  rw [MakeChecks.laidMetH_plain _ _ _ (by kernel_rfl)] at hL
  obtain ⟨V⟩ := vars_of_laid hL.tail.tail hL.tail.tail.tail hL.tail.tail.tail.tail hL.tail.tail.tail.tail.tail
  have hwalk : Calls Tryd.prog 6 #[.string s] W fun e w' => e = .returned (.bool true) ∧ Below W.heap.size W w' := by
    rcases Nat.lt_or_ge 1048576 s.size with hs | hs
    · exact amountOf_long s ws hs W
    · exact amountOf_walk s hs W V
  refine hwalk.mono fun e W' ⟨he, hb⟩ => ?_
  subst he
  exact ⟨_, rfl, _, _, _, [], [], [.cell 0 0], hW', trodAll_mk1 (shut_bool Tryd.underlying4 _), trodAll_mk1 (shut_string Tryd.underlying9 ws), hvars W' _ (var?_below hb gNo V.oldN hvar), hb.frame _, fun h => by cases h⟩

theorem amountOf_row_holds : Rows.FnExactAmountOfSaid :=
  OpenClaim.holds_of_wide 6 Tryd.f6 rfl rfl rfl rfl rfl rfl rfl ⟨rfl, rfl, rfl, rfl, rfl⟩ rfl rfl rfl rfl rfl (by kernel_rfl) Tryd.func6 (by kernel_rfl)
    (of_decide_eq_true (by kernel_rfl)) (by unfold Func.isWrapper; first | (rw [if_pos (by decide +kernel)]; kernel_rfl) | (rw [if_neg (by decide +kernel)]; exact ⟨rfl, rfl⟩))
    (fun os started H enc _ => amountOf_lifted os started H enc)

/-- The given card. -/
theorem amountOf_holds : Rows.FnExactAmountOfCardSaid :=
  Claim7.holds_tied_plain_at .later [] [.data, .data, .data, .sentinel, .sentinel, .sentinel] true _ true
    amountOf_row_holds (fun _ h => by cases h) (by kernel_rfl) (fun _ h => by cases h) fnExactAmountOf_row_tie rfl ⟨rfl, rfl⟩ (by kernel_rfl) rfl
    (fun f fn hf hfn => by
      obtain rfl : f = 6 := Option.some.inj ((show Tryd.prog.funcNamed "loop.example/g00465/laws.FnExactAmountOf" = some 6 by kernel_rfl).symm.trans hf) |>.symm
      obtain rfl : fn = Tryd.f6 := (Option.some.inj (Tryd.func6.symm.trans hfn)).symm
      exact ⟨by kernel_rfl, fun j t ht => by
        rw [Tryd.params6] at ht
        have hm : t ∈ [9] := by simpa using Array.mem_of_getElem? ht
        have hall : ([9].all fun u => !Tryd.prog.wantsStandIn u) = true := by kernel_rfl
        exact (show Tryd.prog.wantsStandIn t = false by simpa using List.all_eq_true.1 hall t hm)⟩)
    (by kernel_rfl)
end Go.Proofs.YtafbcohlbhblfakDoor
