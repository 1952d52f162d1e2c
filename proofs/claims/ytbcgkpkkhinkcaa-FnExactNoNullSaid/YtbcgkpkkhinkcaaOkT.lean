/-
  What is proved: plain facts on which trees are right, how deep they are and how many nodes they have; the program's nodeOk at every node.
-/
import Derived.Test.YtbcgkpkkhinkcaaOkB
import Derived.Test.YtbcgkpkkhinkcaaOkC
namespace Go.Proofs.Ytbcgkpkkhinkcaa
open Go Go.RowKit

theorem head0 {n : Int} {s : ByteArray} {keys : List ByteArray} {kids : List RT} : HeadOk (.node 0 n s keys kids) ↔ (n = 0 ∧ s = ⟨#[]⟩ ∧ keys.length = 0 ∧ kids.length = 0) := by simp [HeadOk, RT.k, RT.n, RT.s, RT.keys, RT.kids]
theorem head1 {n : Int} {s : ByteArray} {keys : List ByteArray} {kids : List RT} : HeadOk (.node 1 n s keys kids) ↔ ((n = 0 ∨ n = 1) ∧ s = ⟨#[]⟩ ∧ keys.length = 0 ∧ kids.length = 0) := by simp [HeadOk, RT.k, RT.n, RT.s, RT.keys, RT.kids]
theorem head2 {n : Int} {s : ByteArray} {keys : List ByteArray} {kids : List RT} : HeadOk (.node 2 n s keys kids) ↔ ((-1000000000000 ≤ n ∧ n ≤ 1000000000000) ∧ s = ⟨#[]⟩ ∧ keys.length = 0 ∧ kids.length = 0) := by simp [HeadOk, RT.k, RT.n, RT.s, RT.keys, RT.kids]
theorem head3 {n : Int} {s : ByteArray} {keys : List ByteArray} {kids : List RT} : HeadOk (.node 3 n s keys kids) ↔ (n = 0 ∧ textOk s = true ∧ keys.length = 0 ∧ kids.length = 0) := by simp [HeadOk, RT.k, RT.n, RT.s, RT.keys, RT.kids]
theorem head4 {n : Int} {s : ByteArray} {keys : List ByteArray} {kids : List RT} : HeadOk (.node 4 n s keys kids) ↔ (n = 0 ∧ s = ⟨#[]⟩ ∧ keys.length = 0) := by simp [HeadOk, RT.k, RT.n, RT.s, RT.keys, RT.kids]
theorem head5 {n : Int} {s : ByteArray} {keys : List ByteArray} {kids : List RT} : HeadOk (.node 5 n s keys kids) ↔ (n = 0 ∧ s = ⟨#[]⟩ ∧ keys.length = kids.length ∧ keysOk keys = true) := by simp [HeadOk, RT.k, RT.n, RT.s, RT.keys, RT.kids]
theorem head_none {k n : Int} {s : ByteArray} {keys : List ByteArray} {kids : List RT} (h0 : ¬ k = 0) (h1 : ¬ k = 1) (h2 : ¬ k = 2) (h3 : ¬ k = 3) (h4 : ¬ k = 4) (h5 : ¬ k = 5) : ¬ HeadOk (.node k n s keys kids) := by simp [HeadOk, RT.k, h0, h1, h2, h3, h4, h5]

theorem impl_nodeOk (T : RT) (w : World) (kv dv : Value) (F : List Nat) (hl : Lies w T kv dv F) :
    Calls Try.prog 50 #[T.val kv dv] w fun e w' => e = .returned (.bool (headOk T)) ∧ Below w.heap.size w w' := by
  obtain ⟨k, n, s, keys, kids⟩ := T
  obtain ⟨-, -, hs, FK, FD, hK, hD, -⟩ := hl.outn
  have hK' := hK
  obtain ⟨ko, kc, rfl⟩ := hK.slice
  obtain ⟨o, dc, rfl⟩ := hD.slice
  show Calls Try.prog 50 #[.agg #[.int .i64 k, .int .i64 n, .string s, .slice ko keys.length kc, .slice o kids.length dc]] w _
  by_cases k0 : k = 0
  · subst k0
    by_cases e1 : n = 0
    · by_cases e2 : s = ⟨#[]⟩
      · by_cases e3 : keys.length = 0
        · by_cases e4 : kids.length = 0
          · rw [headOk_yes (head0.2 ⟨e1, e2, e3, e4⟩)]; exact nodeOk_null_good n s ko o _ kc _ dc w e1 e2 e3 e4
          · rw [headOk_no (fun h => e4 (head0.1 h).2.2.2)]; exact nodeOk_null_bad_d n s ko o _ kc _ dc w e1 e2 e3 (by omega)
        · rw [headOk_no (fun h => e3 (head0.1 h).2.2.1)]; exact nodeOk_null_bad_k n s ko o _ kc _ dc w e1 e2 (by omega)
      · rw [headOk_no (fun h => e2 (head0.1 h).2.1)]; exact nodeOk_null_bad_s n s ko o _ kc _ dc w e1 e2
    · rw [headOk_no (fun h => e1 (head0.1 h).1)]; exact nodeOk_null_bad_n n s ko o _ kc _ dc w e1
  by_cases k1 : k = 1
  · subst k1
    by_cases e1 : n = 0 ∨ n = 1
    · by_cases e2 : s = ⟨#[]⟩
      · by_cases e3 : keys.length = 0
        · by_cases e4 : kids.length = 0
          · rw [headOk_yes (head1.2 ⟨e1, e2, e3, e4⟩)]; exact nodeOk_flag_good n s ko o _ kc _ dc w e1 e2 e3 e4
          · rw [headOk_no (fun h => e4 (head1.1 h).2.2.2)]; exact nodeOk_flag_bad_d n s ko o _ kc _ dc w e1 e2 e3 (by omega)
        · rw [headOk_no (fun h => e3 (head1.1 h).2.2.1)]; exact nodeOk_flag_bad_k n s ko o _ kc _ dc w e1 e2 (by omega)
      · rw [headOk_no (fun h => e2 (head1.1 h).2.1)]; exact nodeOk_flag_bad_s n s ko o _ kc _ dc w e1 e2
    · rw [headOk_no (fun h => e1 (head1.1 h).1)]; exact nodeOk_flag_none n s ko o _ kc _ dc w (fun h => e1 (.inl h)) (fun h => e1 (.inr h))
  by_cases k2 : k = 2
  · subst k2
    by_cases e0 : -1000000000000 ≤ n
    · by_cases e1 : n ≤ 1000000000000
      · by_cases e2 : s = ⟨#[]⟩
        · by_cases e3 : keys.length = 0
          · by_cases e4 : kids.length = 0
            · rw [headOk_yes (head2.2 ⟨⟨e0, e1⟩, e2, e3, e4⟩)]; exact nodeOk_int_good n s ko o _ kc _ dc w e0 e1 e2 e3 e4
            · rw [headOk_no (fun h => e4 (head2.1 h).2.2.2)]; exact nodeOk_int_bad_d n s ko o _ kc _ dc w e0 e1 e2 e3 (by omega)
          · rw [headOk_no (fun h => e3 (head2.1 h).2.2.1)]; exact nodeOk_int_bad_k n s ko o _ kc _ dc w e0 e1 e2 (by omega)
        · rw [headOk_no (fun h => e2 (head2.1 h).2.1)]; exact nodeOk_int_bad_s n s ko o _ kc _ dc w e0 e1 e2
      · rw [headOk_no (fun h => e1 (head2.1 h).1.2)]; exact nodeOk_int_high n s ko o _ kc _ dc w e0 e1
    · rw [headOk_no (fun h => e0 (head2.1 h).1.1)]; exact nodeOk_int_low n s ko o _ kc _ dc w e0
  by_cases k3 : k = 3
  · subst k3
    by_cases e2 : textOk s = true
    · by_cases e1 : n = 0
      · by_cases e3 : keys.length = 0
        · by_cases e4 : kids.length = 0
          · rw [headOk_yes (head3.2 ⟨e1, e2, e3, e4⟩)]; exact nodeOk_text_good n s ko o _ kc _ dc w hs e2 e1 e3 e4
          · rw [headOk_no (fun h => e4 (head3.1 h).2.2.2)]; exact nodeOk_text_bad_d n s ko o _ kc _ dc w hs e2 e1 e3 (by omega)
        · rw [headOk_no (fun h => e3 (head3.1 h).2.2.1)]; exact nodeOk_text_bad_k n s ko o _ kc _ dc w hs e2 e1 (by omega)
      · rw [headOk_no (fun h => e1 (head3.1 h).1)]; exact nodeOk_text_bad_n n s ko o _ kc _ dc w hs e2 e1
    · rw [headOk_no (fun h => e2 (head3.1 h).2.1)]; exact nodeOk_text_none n s ko o _ kc _ dc w hs (by simpa using e2)
  by_cases k4 : k = 4
  · subst k4
    by_cases e1 : n = 0
    · by_cases e2 : s = ⟨#[]⟩
      · by_cases e3 : keys.length = 0
        · rw [headOk_yes (head4.2 ⟨e1, e2, e3⟩)]; exact nodeOk_list_good n s ko o _ kc _ dc w e1 e2 e3
        · rw [headOk_no (fun h => e3 (head4.1 h).2.2)]; exact nodeOk_list_bad_k n s ko o _ kc _ dc w e1 e2 (by omega)
      · rw [headOk_no (fun h => e2 (head4.1 h).2.1)]; exact nodeOk_list_bad_s n s ko o _ kc _ dc w e1 e2
    · rw [headOk_no (fun h => e1 (head4.1 h).1)]; exact nodeOk_list_bad_n n s ko o _ kc _ dc w e1
  by_cases k5 : k = 5
  · subst k5
    by_cases e3 : keys.length = kids.length
    · have ff : ∀ w' : World, Below w.heap.size w w' → Calls Try.prog 56 #[.iface 78 (.agg #[.slice ko keys.length kc, .slice o kids.length dc])] w' fun e w'' => e = .returned (.bool (keysOk keys)) ∧ Below w'.heap.size w' w'' := fun w' hb => by
        rw [← e3]
        exact formOk_map_yes _ keys FK o dc w' (hK'.stay hb (Nat.le_refl _))
      by_cases e4 : keysOk keys = true
      · rw [e4] at ff
        by_cases e1 : n = 0
        · by_cases e2 : s = ⟨#[]⟩
          · rw [headOk_yes (head5.2 ⟨e1, e2, e3, e4⟩)]; exact nodeOk_map_good n s ko o _ kc _ dc w ff e1 e2
          · rw [headOk_no (fun h => e2 (head5.1 h).2.1)]; exact nodeOk_map_bad_s n s ko o _ kc _ dc w ff e1 e2
        · rw [headOk_no (fun h => e1 (head5.1 h).1)]; exact nodeOk_map_bad_n n s ko o _ kc _ dc w ff e1
      · have e4' : keysOk keys = false := by simpa using e4
        rw [e4'] at ff
        rw [headOk_no (fun h => e4 (head5.1 h).2.2.2)]; exact nodeOk_map_none n s ko o _ kc _ dc w ff
    · rw [headOk_no (fun h => e3 (head5.1 h).2.2.1)]
      exact nodeOk_map_none n s ko o _ kc _ dc w fun w' _ => formOk_map_no ko o _ kc _ dc (by omega) w'
  · rw [headOk_no (head_none k0 k1 k2 k3 k4 k5)]
    exact nodeOk_none k k0 k1 k2 k3 k4 k5 n s ko o _ kc _ dc w

/-! ### Depth, size, rightness -/

mutual
def RT.deep : RT → Nat
  | .node _ _ _ _ kids => deepAll kids + 1
def deepAll : List RT → Nat
  | [] => 0
  | t :: ts => max t.deep (deepAll ts)
end
mutual
def RT.size : RT → Nat
  | .node _ _ _ _ kids => sizeAll kids + 1
def sizeAll : List RT → Nat
  | [] => 0
  | t :: ts => t.size + sizeAll ts
end
mutual
noncomputable def RT.right : RT → Bool
  | .node k n s keys kids => headOk (.node k n s keys kids) && rightAll kids
noncomputable def rightAll : List RT → Bool
  | [] => true
  | t :: ts => t.right && rightAll ts
end

theorem deepAll_take (l : List RT) (i : Nat) (h : i < l.length) : deepAll (l.take (i + 1)) = max (deepAll (l.take i)) l[i].deep := by
  induction l generalizing i with
  | nil => simp at h
  | cons t l ih =>
    cases i with
    | zero => simp [deepAll]
    | succ i =>
      have := ih i (by simpa using h)
      simp only [List.take_succ_cons, deepAll, List.getElem_cons_succ, this]
      omega
theorem deepAll_take_le (l : List RT) (i : Nat) : deepAll (l.take i) ≤ deepAll l := by
  induction l generalizing i with
  | nil => simp
  | cons t l ih =>
    cases i with
    | zero => simp [deepAll]
    | succ i =>
      have := ih i
      simp only [List.take_succ_cons, deepAll]
      omega
theorem sizeAll_take (l : List RT) (i : Nat) (h : i < l.length) : sizeAll (l.take (i + 1)) = sizeAll (l.take i) + l[i].size := by
  induction l generalizing i with
  | nil => simp at h
  | cons t l ih =>
    cases i with
    | zero => simp [sizeAll]
    | succ i =>
      have := ih i (by simpa using h)
      simp only [List.take_succ_cons, sizeAll, List.getElem_cons_succ, this]
      omega
theorem sizeAll_take_le (l : List RT) (i : Nat) : sizeAll (l.take i) ≤ sizeAll l := by
  induction l generalizing i with
  | nil => simp
  | cons t l ih =>
    cases i with
    | zero => simp [sizeAll]
    | succ i =>
      have := ih i
      simp only [List.take_succ_cons, sizeAll]
      omega
theorem rightAll_iff (l : List RT) : rightAll l = true ↔ ∀ i (h : i < l.length), l[i].right = true := by
  induction l with
  | nil => simp [rightAll]
  | cons t l ih =>
    rw [rightAll, Bool.and_eq_true, ih]
    constructor
    · rintro ⟨h1, h2⟩ i hi
      cases i with
      | zero => exact h1
      | succ i => exact h2 i (by simpa using hi)
    · intro h
      exact ⟨h 0 (by simp), fun i hi => h (i + 1) (by simpa using hi)⟩

theorem deep_sz (T : RT) : T.deep ≤ T.sz + 1 := by
  induction T using RT.ind with
  | h k n s keys kids ih =>
    have h : ∀ l : List RT, (∀ t ∈ l, t.deep ≤ t.sz + 1) → deepAll l ≤ l.length + szAll l := by
      intro l hl
      induction l with
      | nil => simp [deepAll]
      | cons t l ihl =>
        have h1 := hl t (by simp)
        have h2 := ihl (fun x hx => hl x (by simp [hx]))
        simp only [deepAll, szAll, List.length_cons]
        omega
    have := h kids ih
    simp only [RT.deep, RT.sz]
    omega
theorem size_sz (T : RT) : T.size ≤ T.sz + 1 := by
  induction T using RT.ind with
  | h k n s keys kids ih =>
    have h : ∀ l : List RT, (∀ t ∈ l, t.size ≤ t.sz + 1) → sizeAll l ≤ l.length + szAll l := by
      intro l hl
      induction l with
      | nil => simp [sizeAll]
      | cons t l ihl =>
        have h1 := hl t (by simp)
        have h2 := ihl (fun x hx => hl x (by simp [hx]))
        simp only [sizeAll, szAll, List.length_cons]
        omega
    have := h kids ih
    simp only [RT.size, RT.sz]
    omega

end Go.Proofs.Ytbcgkpkkhinkcaa
