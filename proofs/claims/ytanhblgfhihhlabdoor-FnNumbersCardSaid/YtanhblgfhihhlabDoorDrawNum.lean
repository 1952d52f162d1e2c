/-
  What is proved: what the model draws for the first chapter: ints within Go's bounds, texts of at most 14 bytes; the code is read and stays as it was.
-/
import Derived.Test.YtanhblgfhihhlabDoorDraw
namespace Go.Proofs.YtanhblgfhihhlabDoor
open Go Go.RowKit

theorem drawDigits_any (a : Option Addr) (len cap : Nat) (w : World) (hcode : CodeAt w a len) :
    Calls Tryd.prog 5 #[.slice a len cap] w fun e w' => (∃ v : Int, (-9223372036854775808 ≤ v ∧ v ≤ 9223372036854775807) ∧ e = .returned (.int .i64 v)) ∧ Below w.heap.size w w' := by
  have hne := hcode.apart (Nat.le_refl _)
  go_enter Tryd.func5, Tryd.ntmps5
  go_wp2_with (first
    | (go_at_call 18; refine (new_any a len cap _ hcode).mono ?_; rintro e w1 ⟨rfl, h, rfl⟩)
    | (go_at_call 17; refine (draw_int (fun v => -9223372036854775808 ≤ v ∧ v ≤ 9223372036854775807) [0, 7, -12, 100000, 9223372036854775807, -9223372036854775808] _ rfl 6 _ rfl (by decide) (by decide) (by decide) a len cap w.heap.size _ (by simp) (cur_new w a len cap h) (hcode.on ((Below.refl _ w).alloc (Nat.le_refl _) _)) hne).mono ?_; rintro e w2 ⟨⟨v, hv, rfl⟩, hc2, hcode2, hb2⟩))
  go_ret
  exact ⟨⟨v, hv, rfl⟩, ((Below.refl _ w).alloc (Nat.le_refl _) _).trans hb2⟩

theorem drawNumber_any (a : Option Addr) (len cap : Nat) (w : World) (hcode : CodeAt w a len) :
    Calls Tryd.prog 6 #[.slice a len cap] w fun e w' => (∃ v : ByteArray, v.size ≤ 14 ∧ e = .returned (.string v)) ∧ Below w.heap.size w w' := by
  have hne := hcode.apart (Nat.le_refl _)
  go_enter Tryd.func6, Tryd.ntmps6
  go_wp2_with (first
    | (go_at_call 18; refine (new_any a len cap _ hcode).mono ?_; rintro e w1 ⟨rfl, h, rfl⟩)
    | (go_at_call 19; refine (draw_text (fun v => v.size ≤ 14) [⟨#[48]⟩, ⟨#[45, 55]⟩, ⟨#[49, 48, 48, 48, 48, 48, 48, 48, 48, 48, 48, 48, 48]⟩, ⟨#[49, 48, 48, 48, 48, 48, 48, 48, 48, 48, 48, 48, 49]⟩, ⟨#[48, 49]⟩, ⟨#[]⟩, ⟨#[45]⟩, ⟨#[45, 48]⟩, ⟨#[49, 50, 97]⟩, ⟨#[57, 57, 57, 57, 57, 57, 57, 57, 57, 57, 57, 57, 57, 57]⟩] _ rfl 10 _ rfl (by decide) (by decide) (by decide) a len cap w.heap.size _ (by simp) (cur_new w a len cap h) (hcode.on ((Below.refl _ w).alloc (Nat.le_refl _) _)) hne).mono ?_; rintro e w2 ⟨⟨v, hv, rfl⟩, hc2, hcode2, hb2⟩))
  go_ret
  exact ⟨⟨v, hv, rfl⟩, ((Below.refl _ w).alloc (Nat.le_refl _) _).trans hb2⟩

theorem drawCeilDiv_any (a : Option Addr) (len cap : Nat) (w : World) (hcode : CodeAt w a len) :
    Calls Tryd.prog 9 #[.slice a len cap] w fun e w' => (∃ x y : Int, (-1 ≤ x ∧ x ≤ 1000000000001) ∧ (-1 ≤ y ∧ y ≤ 1000000000001) ∧ e = .returned (.tuple #[.int .i64 x, .int .i64 y])) ∧ Below w.heap.size w w' := by
  have hne := hcode.apart (Nat.le_refl _)
  go_enter Tryd.func9, Tryd.ntmps9
  go_wp2_with (first
    | (go_at_call 18; refine (new_any a len cap _ hcode).mono ?_; rintro e w1 ⟨rfl, h, rfl⟩)
    | (go_at_call 17; refine (draw_int (fun v => -1 ≤ v ∧ v ≤ 1000000000001) [0, 1, 7, 10, 1000000000000, 1000000000001, -1] _ rfl 7 _ rfl (by decide) (by decide) (by decide) a len cap w.heap.size _ (by simp) (cur_new w a len cap h) (hcode.on ((Below.refl _ w).alloc (Nat.le_refl _) _)) hne).mono ?_; rintro e w2 ⟨⟨x, hx, rfl⟩, hc2, hcode2, hb2⟩; refine Hid.out ?_))
  refine Lib.hid ?_
  go_wp2_with (go_at_call 17; refine (draw_int (fun v => -1 ≤ v ∧ v ≤ 1000000000001) [1, 2, 3, 10, 1000000000000, 0, -1] _ rfl 7 _ rfl (by decide) (by decide) (by decide) a len cap w.heap.size _ rfl hc2 hcode2 hne).mono ?_; rintro e w3 ⟨⟨y, hy, rfl⟩, hc3, hcode3, hb3⟩)
  go_ret2
  exact ⟨⟨x, y, hx, hy, rfl⟩, (((Below.refl _ w).alloc (Nat.le_refl _) _).trans hb2).trans hb3⟩

theorem drawClamp_any (a : Option Addr) (len cap : Nat) (w : World) (hcode : CodeAt w a len) :
    Calls Tryd.prog 11 #[.slice a len cap] w fun e w' => (∃ x y z : Nat, (x < 9 ∧ y < 9 ∧ z < 9) ∧ e = .returned (.tuple #[.int .i64 x, .int .i64 y, .int .i64 z])) ∧ Below w.heap.size w w' := by
  have hne := hcode.apart (Nat.le_refl _)
  go_enter Tryd.func11, Tryd.ntmps11
  go_wp2_with (first
    | (go_at_call 18; refine (new_any a len cap _ hcode).mono ?_; rintro e w1 ⟨rfl, h, rfl⟩)
    | (go_at_call 23; refine (below_any 9 (by decide) (by decide) a len cap w.heap.size _ (cur_new w a len cap h) (hcode.on ((Below.refl _ w).alloc (Nat.le_refl _) _)) hne).mono ?_; rintro e w2 ⟨⟨x, hx, rfl⟩, hc2, ho2⟩; refine Hid.out ?_))
  refine Lib.hid ?_
  have hcode2 := (hcode.on ((Below.refl _ w).alloc (Nat.le_refl _) _)).only hne ho2
  go_wp2_with (go_at_call 23; refine (below_any 9 (by decide) (by decide) a len cap w.heap.size _ hc2 hcode2 hne).mono ?_; rintro e w3 ⟨⟨y, hy, rfl⟩, hc3, ho3⟩; refine Hid.out ?_)
  refine Lib.hid ?_
  have hcode3 := hcode2.only hne ho3
  go_wp2_with (go_at_call 23; refine (below_any 9 (by decide) (by decide) a len cap w.heap.size _ hc3 hcode3 hne).mono ?_; rintro e w4 ⟨⟨z, hz, rfl⟩, hc4, ho4⟩)
  go_ret3
  exact ⟨⟨x, y, z, ⟨hx, hy, hz⟩, rfl⟩, ((ho2.alloc_below (Nat.le_refl _) (Nat.le_refl _)).trans (ho3.below (Nat.le_refl _))).trans (ho4.below (Nat.le_refl _))⟩
end Go.Proofs.YtanhblgfhihhlabDoor
