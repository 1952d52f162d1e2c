/-
  What is proved: what the model draws for the second chapter: ints within a bound, texts of at most 14 bytes; the code is read and stays as it was.
-/
import Derived.Test.YtafbcohlbhblfabDoorDraw
namespace Go.Proofs.YtafbcohlbhblfabDoor
open Go Go.RowKit

theorem drawAmountText_any (a : Option Addr) (len cap : Nat) (w : World) (hcode : CodeAt w a len) :
    Calls Tryd.prog 6 #[.slice a len cap] w fun e w' => (∃ v : Int, (-1 ≤ v ∧ v ≤ 1000000000001) ∧ e = .returned (.int .i64 v)) ∧ Below w.heap.size w w' := by
  have hne := hcode.apart (Nat.le_refl _)
  go_enter Tryd.func6, Tryd.ntmps6
  go_wp2_with (first
    | (go_at_call 31; refine (new_any a len cap _ hcode).mono ?_; rintro e w1 ⟨rfl, h, rfl⟩)
    | (go_at_call 30; refine (draw_int (fun v => -1 ≤ v ∧ v ≤ 1000000000001) [0, 1, 500, 1000, 1500, 1000000, 1000001, 1000000000000, 1000000000001, -1] _ rfl 10 _ rfl (by decide) (by decide) (by decide) a len cap w.heap.size _ (by simp) (cur_new w a len cap h) (hcode.on ((Below.refl _ w).alloc (Nat.le_refl _) _)) hne).mono ?_; rintro e w2 ⟨⟨v, hv, rfl⟩, hc2, hcode2, hb2⟩))
  go_ret
  exact ⟨⟨v, hv, rfl⟩, ((Below.refl _ w).alloc (Nat.le_refl _) _).trans hb2⟩

theorem drawAmountOf_any (a : Option Addr) (len cap : Nat) (w : World) (hcode : CodeAt w a len) :
    Calls Tryd.prog 7 #[.slice a len cap] w fun e w' => (∃ v : ByteArray, v.size ≤ 14 ∧ e = .returned (.string v)) ∧ Below w.heap.size w w' := by
  have hne := hcode.apart (Nat.le_refl _)
  go_enter Tryd.func7, Tryd.ntmps7
  go_wp2_with (first
    | (go_at_call 31; refine (new_any a len cap _ hcode).mono ?_; rintro e w1 ⟨rfl, h, rfl⟩)
    | (go_at_call 32; refine (draw_text (fun v => v.size ≤ 14) [⟨#[48]⟩, ⟨#[53]⟩, ⟨#[53, 48, 48, 109]⟩, ⟨#[50, 107]⟩, ⟨#[49, 75, 105]⟩, ⟨#[109]⟩, ⟨#[]⟩, ⟨#[49, 77]⟩, ⟨#[48, 49]⟩, ⟨#[45, 49]⟩, ⟨#[49, 48, 48, 48, 48, 48, 48, 48, 48, 48, 48, 48, 48]⟩, ⟨#[49, 48, 48, 48, 48, 48, 48, 48, 48, 48, 48, 48, 48, 109]⟩, ⟨#[49, 48, 48, 48, 48, 48, 48, 107]⟩, ⟨#[49, 48, 48, 48, 48, 48, 49, 107]⟩, ⟨#[53, 32]⟩] _ rfl 15 _ rfl (by decide) (by decide) (by decide) a len cap w.heap.size _ (by simp) (cur_new w a len cap h) (hcode.on ((Below.refl _ w).alloc (Nat.le_refl _) _)) hne).mono ?_; rintro e w2 ⟨⟨v, hv, rfl⟩, hc2, hcode2, hb2⟩))
  go_ret
  exact ⟨⟨v, hv, rfl⟩, ((Below.refl _ w).alloc (Nat.le_refl _) _).trans hb2⟩

theorem drawSpanText_any (a : Option Addr) (len cap : Nat) (w : World) (hcode : CodeAt w a len) :
    Calls Tryd.prog 8 #[.slice a len cap] w fun e w' => (∃ v : Int, (-1 ≤ v ∧ v ≤ 1000001) ∧ e = .returned (.int .i64 v)) ∧ Below w.heap.size w w' := by
  have hne := hcode.apart (Nat.le_refl _)
  go_enter Tryd.func8, Tryd.ntmps8
  go_wp2_with (first
    | (go_at_call 31; refine (new_any a len cap _ hcode).mono ?_; rintro e w1 ⟨rfl, h, rfl⟩)
    | (go_at_call 30; refine (draw_int (fun v => -1 ≤ v ∧ v ≤ 1000001) [0, 1, 60, 90, 3600, 7200, 1000000, 1000001, -1] _ rfl 9 _ rfl (by decide) (by decide) (by decide) a len cap w.heap.size _ (by simp) (cur_new w a len cap h) (hcode.on ((Below.refl _ w).alloc (Nat.le_refl _) _)) hne).mono ?_; rintro e w2 ⟨⟨v, hv, rfl⟩, hc2, hcode2, hb2⟩))
  go_ret
  exact ⟨⟨v, hv, rfl⟩, ((Below.refl _ w).alloc (Nat.le_refl _) _).trans hb2⟩

theorem drawSpanOf_any (a : Option Addr) (len cap : Nat) (w : World) (hcode : CodeAt w a len) :
    Calls Tryd.prog 9 #[.slice a len cap] w fun e w' => (∃ v : ByteArray, v.size ≤ 14 ∧ e = .returned (.string v)) ∧ Below w.heap.size w w' := by
  have hne := hcode.apart (Nat.le_refl _)
  go_enter Tryd.func9, Tryd.ntmps9
  go_wp2_with (first
    | (go_at_call 31; refine (new_any a len cap _ hcode).mono ?_; rintro e w1 ⟨rfl, h, rfl⟩)
    | (go_at_call 32; refine (draw_text (fun v => v.size ≤ 14) [⟨#[48, 115]⟩, ⟨#[51, 48, 115]⟩, ⟨#[53, 109]⟩, ⟨#[50, 104]⟩, ⟨#[]⟩, ⟨#[115]⟩, ⟨#[49]⟩, ⟨#[48, 49, 115]⟩, ⟨#[50, 55, 56, 104]⟩, ⟨#[50, 55, 55, 104]⟩, ⟨#[49, 48, 48, 48, 48, 48, 48, 115]⟩, ⟨#[49, 100]⟩] _ rfl 12 _ rfl (by decide) (by decide) (by decide) a len cap w.heap.size _ (by simp) (cur_new w a len cap h) (hcode.on ((Below.refl _ w).alloc (Nat.le_refl _) _)) hne).mono ?_; rintro e w2 ⟨⟨v, hv, rfl⟩, hc2, hcode2, hb2⟩))
  go_ret
  exact ⟨⟨v, hv, rfl⟩, ((Below.refl _ w).alloc (Nat.le_refl _) _).trans hb2⟩

end Go.Proofs.YtafbcohlbhblfabDoor
