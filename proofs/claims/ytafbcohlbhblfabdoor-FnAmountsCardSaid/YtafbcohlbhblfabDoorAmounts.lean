/-
  What is proved: whatever code comes in, the law on drawn amounts returns true and the code reads as before (a code longer than 1048576 bytes the law itself passes by); conditions: the library's tables and three error variables start as the program's text lays them (the card ties them).
-/
import Derived.Test.YtafbcohlbhblfabDoorDrawAmt
import Derived.Test.YtafbcohlbhblfabDoorTexts
import Derived.Test.YtafbcohlbhblfabDoorMeasW
import Derived.Test.YtafbcohlbhblfabDoorMeasI
import Derived.Test.YtafbcohlbhblfabDoorTie
import Derived.Test.YtafbcohlbhblfabDoorCards
import Derived.SevenTiedAt
import Derived.ChangeVars
import Derived.RowKitTokens
namespace Go.Proofs.YtafbcohlbhblfabDoor
open Go Go.ChangeShapes Go.WideShapes Go.ChangeAt Go.RowKit

theorem amtText_length {n : Int} (h0 : 0 ≤ n) (h1 : n ≤ 1000000000000) : (amtText n).length ≤ 22 := by
  have a := Num.itoa_length (n / 1000000) (by omega) (by omega)
  have b := Num.itoa_length (n / 1000) (by omega) (by omega)
  have c := Num.itoa_length n (by omega) (by omega)
  unfold amtText
  split
  · simp
  · split
    · simp; omega
    · split
      · omega
      · simp; omega

theorem spanText_length {n : Int} (h0 : 0 ≤ n) (h1 : n ≤ 1000000) : (spanText n).length ≤ 22 := by
  have a := Num.itoa_length (n / 3600) (by omega) (by omega)
  have b := Num.itoa_length (n / 60) (by omega) (by omega)
  have c := Num.itoa_length n (by omega) (by omega)
  unfold spanText
  split
  · simp
  · split
    · simp; omega
    · split
      · simp; omega
      · simp; omega

/-- An amount that is told is read as it was. -/
theorem amount_back (n : Int) (h0 : 0 ≤ n) (h1 : n ≤ 1000000000000) (w : World) (V : Vars w) :
    Calls Tryd.prog 10 #[.string ⟨(amtText n).toArray⟩] w fun e w' => e = .returned (.tuple #[.int .i64 n, .bool true]) ∧ Below w.heap.size w w' := by
  obtain ⟨k, hk⟩ := head_any ⟨(amtText n).toArray⟩
  have hl := amtText_length h0 h1
  exact impl_amountOf _ (by show (amtText n).toArray.size ≤ _; simp; omega) k hk w V (some n) (amt_back hk h0 h1 (by simp)).symm

/-- A span that is told is read as it was. -/
theorem span_told (n : Int) (h0 : 0 ≤ n) (h1 : n ≤ 1000000) (w : World) (V : Vars w) :
    Calls Tryd.prog 12 #[.string ⟨(spanText n).toArray⟩] w fun e w' => e = .returned (.tuple #[.int .i64 n, .bool true]) ∧ Below w.heap.size w w' := by
  obtain ⟨k, hk⟩ := head_any ⟨(spanText n).toArray⟩
  have hl := spanText_length h0 h1
  exact impl_spanOf _ (by show (spanText n).toArray.size ≤ _; simp; omega) k hk w V (some n) (span_back hk h0 h1 (by simp)).symm

set_option maxRecDepth 100000 in
theorem amounts_long (a : Option Addr) (len cap : Nat) (_hm : len ≤ 9223372036854775807) (hs : (1048576 : Int) < len) (w : World) :
    Calls Tryd.prog 3 #[.slice a len cap] w fun e w' => e = .returned (.bool true) ∧ Below w.heap.size w w' := by
  go_enter Tryd.func3, Tryd.ntmps3
  go_wp2
  go_ret
  exact ⟨rfl, Below.refl _ _⟩

set_option maxRecDepth 100000 in
set_option maxHeartbeats 4000000 in
theorem amounts_walk (a : Option Addr) (len cap : Nat) (w : World) (hcode : CodeAt w a len) (V : Vars w) :
    Calls Tryd.prog 3 #[.slice a len cap] w fun e w' => e = .returned (.bool true) ∧ Below w.heap.size w w' := by
  have hs : ¬ (1048576 : Int) < len := by have := hcode.1; omega
  have hT := Lib.tabBelow_of_tabIs V.tab
  have HB : Below w.heap.size w w := Below.refl _ _
  go_enter Tryd.func3, Tryd.ntmps3
  go_wp2_with (first
    | (go_at_call 5; go_in)
    | (go_at_call 6; refine (drawAmountText_any a len cap _ (hcode.on HB)).mono ?_; rintro e w1 ⟨⟨n, hn, rfl⟩, hb⟩; replace HB := HB.trans (hb.mono HB.size); clear hb)
    | (go_at_call 7; refine (drawAmountOf_any a len cap _ (hcode.on HB)).mono ?_; rintro e w2 ⟨⟨s, hss, rfl⟩, hb⟩; replace HB := HB.trans (hb.mono HB.size); clear hb)
    | (go_at_call 8; refine (drawSpanText_any a len cap _ (hcode.on HB)).mono ?_; rintro e w3 ⟨⟨m, hm, rfl⟩, hb⟩; replace HB := HB.trans (hb.mono HB.size); clear hb)
    | (go_at_call 9; refine (drawSpanOf_any a len cap _ (hcode.on HB)).mono ?_; rintro e w4 ⟨⟨t, hts, rfl⟩, hb⟩; replace HB := HB.trans (hb.mono HB.size); clear hb; refine Hid.out ?_))
  refine Lib.hid ?_
  obtain ⟨k, hk⟩ := head_any s
  obtain ⟨k', hk'⟩ := head_any t
  obtain ⟨r, hr⟩ : ∃ r, Hid (r = measT s k 1000000000000 amtT) := ⟨_, rfl⟩
  obtain ⟨q, hq⟩ : ∃ q, Hid (q = measT t k' 1000000 spanT) := ⟨_, rfl⟩
  have HK := Lib.hid hk
  have HK' := Lib.hid hk'
  have hs2 : s.size ≤ 1048576 := by omega
  have ht2 : t.size ≤ 1048576 := by omega
  have hcode' := Lib.hid hcode
  clear hk hk' hss hts hcode
  go_wp2_with (first
    | (go_at_call 10; refine (impl_amountOf s hs2 k HK.out _ (V.on HB) r hr).mono ?_; rintro e w5 ⟨rfl, hb⟩; replace HB := HB.trans (hb.mono HB.size); clear hb)
    | (go_at_call 11; refine (spec_amountOf s hs2 k HK.out _ r hr).mono ?_; rintro e w6 ⟨rfl, hb⟩; replace HB := HB.trans (hb.mono HB.size); clear hb)
    | (go_at_call 12; refine (impl_spanOf t ht2 k' HK'.out _ (V.on HB) q hq).mono ?_; rintro e w7 ⟨rfl, hb⟩; replace HB := HB.trans (hb.mono HB.size); clear hb)
    | (go_at_call 13; refine (spec_spanOf t ht2 k' HK'.out _ q hq).mono ?_; rintro e w8 ⟨rfl, hb⟩; replace HB := HB.trans (hb.mono HB.size); clear hb; refine Hid.out ?_))
  refine Lib.hid ?_
  obtain ⟨n0, n1⟩ := hn
  obtain ⟨m0, m1⟩ := hm
  cases r with
  | none =>
    cases q with
    | none =>
      go_wp2_with (first
      | (go_at_call 14; refine (impl_amountText _ (by omega) (by omega) _ (hT _ HB)).mono ?_; rintro e w9 ⟨rfl, hb⟩; replace HB := HB.trans (hb.mono HB.size); clear hb)
      | (go_at_call 15; refine (spec_amountText _ (by omega) (by omega) _).mono ?_; rintro e w10 ⟨rfl, hb⟩; replace HB := HB.trans (hb.mono HB.size); clear hb)
      | (go_at_call 16; refine (impl_spanText _ (by omega) (by omega) _ (hT _ HB)).mono ?_; rintro e w11 ⟨rfl, hb⟩; replace HB := HB.trans (hb.mono HB.size); clear hb)
      | (go_at_call 17; refine (spec_spanText _ (by omega) (by omega) _).mono ?_; rintro e w12 ⟨rfl, hb⟩; replace HB := HB.trans (hb.mono HB.size); clear hb)
      | (go_at_call 10; refine (amount_back _ (by omega) (by omega) _ (V.on HB)).mono ?_; rintro e w13 ⟨rfl, hb⟩; replace HB := HB.trans (hb.mono HB.size); clear hb)
      | (go_at_call 12; refine (span_told _ (by omega) (by omega) _ (V.on HB)).mono ?_; rintro e w14 ⟨rfl, hb⟩; replace HB := HB.trans (hb.mono HB.size); clear hb))
      all_goals go_ret
      all_goals exact ⟨rfl, HB⟩
    | some y =>
      go_wp2_with (first
      | (go_at_call 14; refine (impl_amountText _ (by omega) (by omega) _ (hT _ HB)).mono ?_; rintro e w9 ⟨rfl, hb⟩; replace HB := HB.trans (hb.mono HB.size); clear hb)
      | (go_at_call 15; refine (spec_amountText _ (by omega) (by omega) _).mono ?_; rintro e w10 ⟨rfl, hb⟩; replace HB := HB.trans (hb.mono HB.size); clear hb)
      | (go_at_call 16; refine (impl_spanText _ (by omega) (by omega) _ (hT _ HB)).mono ?_; rintro e w11 ⟨rfl, hb⟩; replace HB := HB.trans (hb.mono HB.size); clear hb)
      | (go_at_call 17; refine (spec_spanText _ (by omega) (by omega) _).mono ?_; rintro e w12 ⟨rfl, hb⟩; replace HB := HB.trans (hb.mono HB.size); clear hb)
      | (go_at_call 10; refine (amount_back _ (by omega) (by omega) _ (V.on HB)).mono ?_; rintro e w13 ⟨rfl, hb⟩; replace HB := HB.trans (hb.mono HB.size); clear hb)
      | (go_at_call 12; refine (span_told _ (by omega) (by omega) _ (V.on HB)).mono ?_; rintro e w14 ⟨rfl, hb⟩; replace HB := HB.trans (hb.mono HB.size); clear hb))
      all_goals go_ret
      all_goals exact ⟨rfl, HB⟩
  | some x =>
    obtain ⟨x0, x1⟩ := amt_bounds HK.out hr.out.symm
    cases q with
    | none =>
      go_wp2_with (first
      | (go_at_call 14; refine (impl_amountText _ (by omega) (by omega) _ (hT _ HB)).mono ?_; rintro e w9 ⟨rfl, hb⟩; replace HB := HB.trans (hb.mono HB.size); clear hb)
      | (go_at_call 15; refine (spec_amountText _ (by omega) (by omega) _).mono ?_; rintro e w10 ⟨rfl, hb⟩; replace HB := HB.trans (hb.mono HB.size); clear hb)
      | (go_at_call 16; refine (impl_spanText _ (by omega) (by omega) _ (hT _ HB)).mono ?_; rintro e w11 ⟨rfl, hb⟩; replace HB := HB.trans (hb.mono HB.size); clear hb)
      | (go_at_call 17; refine (spec_spanText _ (by omega) (by omega) _).mono ?_; rintro e w12 ⟨rfl, hb⟩; replace HB := HB.trans (hb.mono HB.size); clear hb)
      | (go_at_call 10; refine (amount_back _ (by omega) (by omega) _ (V.on HB)).mono ?_; rintro e w13 ⟨rfl, hb⟩; replace HB := HB.trans (hb.mono HB.size); clear hb)
      | (go_at_call 12; refine (span_told _ (by omega) (by omega) _ (V.on HB)).mono ?_; rintro e w14 ⟨rfl, hb⟩; replace HB := HB.trans (hb.mono HB.size); clear hb))
      all_goals go_ret
      all_goals exact ⟨rfl, HB⟩
    | some y =>
      go_wp2_with (first
      | (go_at_call 14; refine (impl_amountText _ (by omega) (by omega) _ (hT _ HB)).mono ?_; rintro e w9 ⟨rfl, hb⟩; replace HB := HB.trans (hb.mono HB.size); clear hb)
      | (go_at_call 15; refine (spec_amountText _ (by omega) (by omega) _).mono ?_; rintro e w10 ⟨rfl, hb⟩; replace HB := HB.trans (hb.mono HB.size); clear hb)
      | (go_at_call 16; refine (impl_spanText _ (by omega) (by omega) _ (hT _ HB)).mono ?_; rintro e w11 ⟨rfl, hb⟩; replace HB := HB.trans (hb.mono HB.size); clear hb)
      | (go_at_call 17; refine (spec_spanText _ (by omega) (by omega) _).mono ?_; rintro e w12 ⟨rfl, hb⟩; replace HB := HB.trans (hb.mono HB.size); clear hb)
      | (go_at_call 10; refine (amount_back _ (by omega) (by omega) _ (V.on HB)).mono ?_; rintro e w13 ⟨rfl, hb⟩; replace HB := HB.trans (hb.mono HB.size); clear hb)
      | (go_at_call 12; refine (span_told _ (by omega) (by omega) _ (V.on HB)).mono ?_; rintro e w14 ⟨rfl, hb⟩; replace HB := HB.trans (hb.mono HB.size); clear hb))
      all_goals go_ret
      all_goals exact ⟨rfl, HB⟩
end Go.Proofs.YtafbcohlbhblfabDoor
