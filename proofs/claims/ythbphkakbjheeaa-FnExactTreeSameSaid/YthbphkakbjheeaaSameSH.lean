/-
  What is proved: the model's TreeSame says no of two trees whose heads differ.
-/
import Derived.Test.YthbphkakbjheeaaTreeEq
namespace Go.Proofs.Ythbphkakbjheeaa
open Go Go.RowKit

/-- What the model's TreeSame answers of one tree, and of any other one. -/
def SpecSameAt (T : RT) : Prop := ∀ (w : World) (kv dv : Value) (F : List Nat), Lies w T kv dv F → ∀ (T' : RT) (kv' dv' : Value) (F' : List Nat), Lies w T' kv' dv' F' →
  Calls Try.prog 33 #[T.val kv dv, T'.val kv' dv'] w fun e w' => e = .returned (.bool (same T T')) ∧ Below w.heap.size w w'

set_option maxRecDepth 100000 in
set_option maxHeartbeats 1600000 in
theorem spec_same_head (w : World) (k n k' n' : Int) (s s' : ByteArray) (ko o ko' o' : Option Addr) (kl kc l c kl' kc' l' c' : Nat) (h : ¬ (k = k' ∧ n = n' ∧ s = s' ∧ kl = kl' ∧ l = l')) :
    Calls Try.prog 33 #[.agg #[.int .i64 k, .int .i64 n, .string s, .slice ko kl kc, .slice o l c], .agg #[.int .i64 k', .int .i64 n', .string s', .slice ko' kl' kc', .slice o' l' c']] w fun e w' => e = .returned (.bool false) ∧ Below w.heap.size w w' := by
  by_cases e1 : k = k'
  · by_cases e2 : n = n'
    · by_cases e3 : s = s'
      · subst e1 e2 e3
        by_cases e4 : kl = kl'
        · subst e4
          have e5 : ¬ ((l : Int) = l') := fun e => h ⟨rfl, rfl, rfl, rfl, by omega⟩
          clear h
          go_enter Try.func33, Try.ntmps33
          go_wp2
          go_ret
          exact ⟨rfl, ((Below.refl _ w).alloc (Nat.le_refl _) _).alloc (by simp) _⟩
        · have e5 : ¬ ((kl : Int) = kl') := by omega
          clear h
          go_enter Try.func33, Try.ntmps33
          go_wp2
          go_ret
          exact ⟨rfl, ((Below.refl _ w).alloc (Nat.le_refl _) _).alloc (by simp) _⟩
      · have e3' := bytes_ne e3
        subst e1 e2
        clear h
        go_enter Try.func33, Try.ntmps33
        go_wp2
        go_ret
        exact ⟨rfl, ((Below.refl _ w).alloc (Nat.le_refl _) _).alloc (by simp) _⟩
    · subst e1
      clear h
      go_enter Try.func33, Try.ntmps33
      go_wp2
      go_ret
      exact ⟨rfl, ((Below.refl _ w).alloc (Nat.le_refl _) _).alloc (by simp) _⟩
  · clear h
    go_enter Try.func33, Try.ntmps33
    go_wp2
    go_ret
    exact ⟨rfl, ((Below.refl _ w).alloc (Nat.le_refl _) _).alloc (by simp) _⟩

end Go.Proofs.Ythbphkakbjheeaa
