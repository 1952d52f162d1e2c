/-
  What is proved: the model's l3Leaf and l3Right tell whether a tree is right.
-/
import Derived.Test.YtbcgkpkkhinkcaaOkS
namespace Go.Proofs.Ytbcgkpkkhinkcaa
open Go Go.RowKit

section
variable (n : Int) (s : ByteArray) (ko o : Option Addr) (kl kc dl dc : Nat) (w : World)

set_option maxRecDepth 100000 in
set_option maxHeartbeats 800000 in
theorem leaf_kids (k : Int) (h : 0 < dl) (hm : dl ≤ maxLen) : Calls Try.prog 48 #[.agg #[.int .i64 k, .int .i64 n, .string s, .slice ko kl kc, .slice o dl dc]] w fun e w' => e = .returned (.bool false) ∧ Below w.heap.size w w' := by
  unfold maxLen at hm
  have h' : (0 : Int) < dl := by omega
  go_enter Try.func48, Try.ntmps48
  go_wp2
  go_ret
  exact ⟨rfl, (Below.refl _ w).alloc (Nat.le_refl _) _⟩

set_option maxRecDepth 100000 in
set_option maxHeartbeats 800000 in
theorem leaf_keys (k : Int) (h : 0 < kl) (hm : kl ≤ maxLen) : Calls Try.prog 48 #[.agg #[.int .i64 k, .int .i64 n, .string s, .slice ko kl kc, .slice o 0 dc]] w fun e w' => e = .returned (.bool false) ∧ Below w.heap.size w w' := by
  unfold maxLen at hm
  have h' : (0 : Int) < kl := by omega
  go_enter Try.func48, Try.ntmps48
  go_wp2
  go_ret
  exact ⟨rfl, (Below.refl _ w).alloc (Nat.le_refl _) _⟩

set_option maxRecDepth 100000 in
set_option maxHeartbeats 1600000 in
theorem leaf_head (k : Int) (hs : s.size ≤ maxLen) (h4 : ¬ k = 4) (h5 : ¬ k = 5) : Calls Try.prog 48 #[.agg #[.int .i64 k, .int .i64 n, .string s, .slice ko 0 kc, .slice o 0 dc]] w fun e w' => e = .returned (.bool (headOk (.node k n s [] []))) ∧ Below w.heap.size w w' := by
  by_cases k0 : k = 0
  · subst k0
    by_cases e1 : n = 0
    · by_cases e2 : s = ⟨#[]⟩
      · subst e1 e2
        rw [headOk_yes (head0.2 ⟨rfl, rfl, rfl, rfl⟩)]
        clear hs h4 h5
        go_enter Try.func48, Try.ntmps48
        go_wp2
        go_ret
        exact ⟨rfl, (Below.refl _ w).alloc (Nat.le_refl _) _⟩
      · subst e1
        rw [headOk_no (fun h => e2 (head0.1 h).2.1)]
        have hs1 := bytes_ne e2
        have hs2 := empty_ne e2
        clear hs h4 h5
        go_enter Try.func48, Try.ntmps48
        go_wp2
        go_ret
        exact ⟨by first | rfl | (exact ret_bool (by simp [hs2])), (Below.refl _ w).alloc (Nat.le_refl _) _⟩
    · rw [headOk_no (fun h => e1 (head0.1 h).1)]
      clear hs h4 h5
      go_enter Try.func48, Try.ntmps48
      go_wp2
      go_ret
      exact ⟨rfl, (Below.refl _ w).alloc (Nat.le_refl _) _⟩
  by_cases k1 : k = 1
  · subst k1
    by_cases e0 : 0 ≤ n
    · by_cases e1 : n ≤ 1
      · by_cases e2 : s = ⟨#[]⟩
        · subst e2
          rw [headOk_yes (head1.2 ⟨by omega, rfl, rfl, rfl⟩)]
          clear hs h4 h5 k0
          go_enter Try.func48, Try.ntmps48
          go_wp2
          go_ret
          exact ⟨rfl, (Below.refl _ w).alloc (Nat.le_refl _) _⟩
        · rw [headOk_no (fun h => e2 (head1.1 h).2.1)]
          have hs1 := bytes_ne e2
          have hs2 := empty_ne e2
          clear hs h4 h5 k0
          go_enter Try.func48, Try.ntmps48
          go_wp2
          go_ret
          exact ⟨by first | rfl | (exact ret_bool (by simp [hs2])), (Below.refl _ w).alloc (Nat.le_refl _) _⟩
      · rw [headOk_no (fun h => by have := (head1.1 h).1; omega)]
        clear hs h4 h5 k0
        go_enter Try.func48, Try.ntmps48
        go_wp2
        go_ret
        exact ⟨rfl, (Below.refl _ w).alloc (Nat.le_refl _) _⟩
    · rw [headOk_no (fun h => by have := (head1.1 h).1; omega)]
      clear hs h4 h5 k0
      go_enter Try.func48, Try.ntmps48
      go_wp2
      go_ret
      exact ⟨rfl, (Below.refl _ w).alloc (Nat.le_refl _) _⟩
  by_cases k2 : k = 2
  · subst k2
    by_cases e0 : -1000000000000 ≤ n
    · by_cases e1 : n ≤ 1000000000000
      · by_cases e2 : s = ⟨#[]⟩
        · subst e2
          rw [headOk_yes (head2.2 ⟨⟨e0, e1⟩, rfl, rfl, rfl⟩)]
          clear hs h4 h5 k0 k1
          go_enter Try.func48, Try.ntmps48
          go_wp2
          go_ret
          exact ⟨rfl, (Below.refl _ w).alloc (Nat.le_refl _) _⟩
        · rw [headOk_no (fun h => e2 (head2.1 h).2.1)]
          have hs1 := bytes_ne e2
          have hs2 := empty_ne e2
          clear hs h4 h5 k0 k1
          go_enter Try.func48, Try.ntmps48
          go_wp2
          go_ret
          exact ⟨by first | rfl | (exact ret_bool (by simp [hs2])), (Below.refl _ w).alloc (Nat.le_refl _) _⟩
      · rw [headOk_no (fun h => e1 (head2.1 h).1.2)]
        clear hs h4 h5 k0 k1
        go_enter Try.func48, Try.ntmps48
        go_wp2
        go_ret
        exact ⟨rfl, (Below.refl _ w).alloc (Nat.le_refl _) _⟩
    · rw [headOk_no (fun h => e0 (head2.1 h).1.1)]
      clear hs h4 h5 k0 k1
      go_enter Try.func48, Try.ntmps48
      go_wp2
      go_ret
      exact ⟨rfl, (Below.refl _ w).alloc (Nat.le_refl _) _⟩
  by_cases k3 : k = 3
  · subst k3
    have HT := Lib.hid (spec_textOk s hs)
    by_cases e1 : n = 0
    · subst e1
      have e : headOk (.node 3 0 s [] []) = textOk s := by
        by_cases ht : textOk s = true
        · rw [ht, headOk_yes (head3.2 ⟨rfl, ht, rfl, rfl⟩)]
        · have ht' : textOk s = false := by simpa using ht
          rw [ht', headOk_no (fun h => ht (head3.1 h).2.1)]
      rw [e]
      clear hs h4 h5 k0 k1 k2 e
      generalize textOk s = tb at *
      go_enter Try.func48, Try.ntmps48
      go_wp2_with (first | (go_at_call 54; refine (HT.out _).mono ?_; rintro e w1 ⟨rfl, e1⟩; subst e1) | go_in)
      go_ret
      exact ⟨rfl, (Below.refl _ w).alloc (Nat.le_refl _) _⟩
    · rw [headOk_no (fun h => e1 (head3.1 h).1)]
      clear hs h4 h5 k0 k1 k2
      go_enter Try.func48, Try.ntmps48
      go_wp2
      go_ret
      exact ⟨rfl, (Below.refl _ w).alloc (Nat.le_refl _) _⟩
  · rw [headOk_no (head_none k0 k1 k2 k3 h4 h5)]
    clear hs h4 h5
    go_enter Try.func48, Try.ntmps48
    go_wp2
    go_ret
    exact ⟨rfl, (Below.refl _ w).alloc (Nat.le_refl _) _⟩
end
end Go.Proofs.Ytbcgkpkkhinkcaa
