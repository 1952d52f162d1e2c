/-
  What is proved: the laws' eqNode tells whether two trees are the same.
-/
import Derived.Test.YtbcgkpkkhinkcaaTreeEq
namespace Go.Proofs.Ytbcgkpkkhinkcaa
open Go Go.RowKit

set_option maxHeartbeats 800000 in
theorem eq_node (T : RT) : EqAt T := by
  induction T using RT.ind with
  | h k n s keys kids ih =>
    intro w kv dv F hl T' kv' dv' F' hl'
    obtain ⟨k', n', s', keys', kids'⟩ := T'
    obtain ⟨-, -, -, FK, FD, hK, hD, -⟩ := hl.outn
    obtain ⟨-, -, -, FK', FD', hK', hD', -⟩ := hl'.outn
    clear hl hl'
    have b2 := Box2.start w (.int .i64 k) (.int .i64 n) (.string s) kv dv (.int .i64 k') (.int .i64 n') (.string s') kv' dv' 29 29
    have HK := Lib.hid fun (wr : World) (hb : Below w.heap.size w wr) => eq_strs wr (hK.stay hb (Nat.le_refl _)) (hK'.stay hb (Nat.le_refl _))
    have HD := Lib.hid fun (wr : World) (hb : Below w.heap.size w wr) => eq_kids ih wr (hD.stay hb (Nat.le_refl _)) (hD'.stay hb (Nat.le_refl _))
    have HX := Lib.hid b2
    clear hK hK' hD hD' ih b2
    show Calls Try.prog 9 #[.agg #[.int .i64 k, .int .i64 n, .string s, kv, dv], .agg #[.int .i64 k', .int .i64 n', .string s', kv', dv']] w _
    by_cases e1 : k = k'
    · by_cases e2 : n = n'
      · by_cases e3 : s = s'
        · subst e1 e2 e3
          by_cases e4 : keys = keys'
          · subst e4
            by_cases e5 : kids = kids'
            · subst e5
              rw [same_yes rfl]
              go_enter Try.func9, Try.ntmps9
              go_wp2_with (first
                | (go_at_call 23; refine (HK.out _ HX.out.below).mono ?_; rintro e w1 ⟨rfl, hb1⟩; rw [same_yes rfl]; have hx := HX.out.next hb1; have hB := Lib.hid hx.below; obtain ⟨-, -, -, -, -, -, c4, -, -, -, -, g4⟩ := hx; clear hb1)
                | (go_at_call 24; refine (HD.out _ hB.out).mono ?_; rintro e w2 ⟨rfl, hb2⟩; rw [same_yes rfl])
                | go_in)
              go_ret
              exact ⟨rfl, hB.out.trans (hb2.mono hB.out.size)⟩
            · rw [same_no (fun h => e5 (by injection h))]
              go_enter Try.func9, Try.ntmps9
              go_wp2_with (first
                | (go_at_call 23; refine (HK.out _ HX.out.below).mono ?_; rintro e w1 ⟨rfl, hb1⟩; rw [same_yes rfl]; have hx := HX.out.next hb1; have hB := Lib.hid hx.below; obtain ⟨-, -, -, -, -, -, c4, -, -, -, -, g4⟩ := hx; clear hb1)
                | (go_at_call 24; refine (HD.out _ hB.out).mono ?_; rintro e w2 ⟨rfl, hb2⟩; rw [same_no e5])
                | go_in)
              go_ret
              exact ⟨rfl, hB.out.trans (hb2.mono hB.out.size)⟩
          · rw [same_no (fun h => e4 (by injection h))]
            go_enter Try.func9, Try.ntmps9
            go_wp2_with (first
              | (go_at_call 23; refine (HK.out _ HX.out.below).mono ?_; rintro e w1 ⟨rfl, hb1⟩; rw [same_no e4]; have hB := Lib.hid (HX.out.next hb1).below; clear hb1)
              | go_in)
            go_ret
            exact ⟨rfl, hB.out⟩
        · have e3' := bytes_ne e3
          rw [same_no (fun h => e3 (by injection h))]
          go_enter Try.func9, Try.ntmps9
          go_wp2
          go_ret
          exact ⟨rfl, ((Below.refl _ w).alloc (Nat.le_refl _) _).alloc (by simp) _⟩
      · rw [same_no (fun h => e2 (by injection h))]
        go_enter Try.func9, Try.ntmps9
        go_wp2
        go_ret
        exact ⟨rfl, ((Below.refl _ w).alloc (Nat.le_refl _) _).alloc (by simp) _⟩
    · rw [same_no (fun h => e1 (by injection h))]
      go_enter Try.func9, Try.ntmps9
      go_wp2
      go_ret
      exact ⟨rfl, ((Below.refl _ w).alloc (Nat.le_refl _) _).alloc (by simp) _⟩
end Go.Proofs.Ytbcgkpkkhinkcaa
